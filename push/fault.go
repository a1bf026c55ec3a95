package push

import "errors"

// The words for what is wrong with a push.
const (
	wordPacket  = "packet"
	wordMany    = "many"
	wordCommand = "command"
	wordTwice   = "twice"
	wordObject  = "object"
	wordBehind  = "behind"
)

// ErrWait: the next packet is not there yet, and may still come.
var ErrWait = errors.New("the next packet is not there yet")

// Fault is what makes a push none.
type Fault struct{ Word string }

func (f *Fault) Error() string { return "no push: " + f.Word }

func fault(word string) error { return &Fault{Word: word} }
