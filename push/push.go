// Package push reads a push from the bytes of a connection, one packet at a time.
package push

import (
	"refserve/object"
	"refserve/order"
)

const (
	mostInput    = 600
	mostCommands = 4
	mostObjects  = 12
)

// part is where in a push the next packet stands.
type part int

const (
	inCommands part = iota
	inObjects
	behindAll
)

// Push is a push as far as it has been read, and the input that has not been.
type Push struct {
	Commands []Command
	Objects  []object.Object

	refs  map[string]int // by each ref: which command speaks of it
	part  part
	rest  []byte
	fed   int
	ended bool
}

// New gives a push of which nothing has come yet.
func New() *Push {
	return &Push{refs: map[string]int{}}
}

// Feed adds to the input; false (and nothing is added), if it has been ended or would be too long.
func (p *Push) Feed(bytes string) bool {
	if p.ended || len(bytes) > mostInput-p.fed {
		return false
	}
	p.fed += len(bytes)
	p.rest = append(p.rest, bytes...)
	return true
}

// End says that no more input comes.
func (p *Push) End() { p.ended = true }

// Whole says whether the second flush has been read.
func (p *Push) Whole() bool { return p.part == behindAll }

// Refs gives the refs that the commands speak of, by their names, rising.
func (p *Push) Refs() []string { return order.Keys(p.refs) }

// Read takes one packet: a *Fault tells that this is no push, ErrWait that the packet is not there yet.
func (p *Push) Read() error {
	payload, err := p.take()
	switch {
	case err != nil:
		return err
	case payload == "":
		return p.addFlush()
	case p.part == inCommands:
		return p.addCommand(payload)
	}
	return p.addObject(payload)
}

// take cuts the next packet off the input and gives its bytes: none for a flush, as no other packet is empty.
func (p *Push) take() (string, error) {
	if len(p.rest) < lengthDigits {
		return "", p.tooShort()
	}
	length, ok := packetLength(string(p.rest[:lengthDigits]))
	if !ok {
		return "", fault(wordPacket)
	}
	length = max(length, lengthDigits) // a flush is its digits alone
	if len(p.rest) < length {
		return "", p.tooShort()
	}
	payload := string(p.rest[lengthDigits:length])
	p.rest = p.rest[length:]
	return payload, nil
}

// tooShort tells what it means that a packet is not whole.
func (p *Push) tooShort() error {
	if p.ended {
		return fault(wordPacket)
	}
	return ErrWait
}

func (p *Push) addFlush() error {
	if p.part == inObjects {
		if len(p.rest) > 0 {
			return fault(wordBehind)
		}
		p.part = behindAll
		return nil
	}
	if len(p.Commands) == 0 {
		return fault(wordCommand)
	}
	p.part = inObjects
	return nil
}

func (p *Push) addCommand(payload string) error {
	if len(p.Commands) == mostCommands {
		return fault(wordMany)
	}
	command, ok := parseCommand(payload)
	if !ok {
		return fault(wordCommand)
	}
	if _, known := p.refs[command.Ref]; known {
		return fault(wordTwice)
	}
	p.refs[command.Ref] = len(p.Commands)
	p.Commands = append(p.Commands, command)
	return nil
}

func (p *Push) addObject(payload string) error {
	if len(p.Objects) == mostObjects {
		return fault(wordMany)
	}
	found, ok := object.Parse(payload)
	if !ok {
		return fault(wordObject)
	}
	p.Objects = append(p.Objects, found)
	return nil
}
