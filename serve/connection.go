package serve

import (
	"errors"
	"strings"
	"sync"

	"refserve/locks"
	"refserve/push"
	"refserve/store"
)

// What a step answers.
const (
	stepDone     = 1
	stepNone     = 0
	stepFinished = -1
)

// connection is a goroutine that does one step for each turn it is given.
type connection struct {
	number int
	store  *store.Store
	locks  *locks.Locks

	// mutex keeps two calls from speaking with the goroutine at one time: between turns, who holds it owns what is below.
	mutex   sync.Mutex
	turns   chan struct{}
	answers chan int

	push     *push.Push
	held     int    // of the locks of the push's refs, in their order
	decided  string // what the reply will be; empty ahead of the decision
	finished bool
	reply    string // never empty behind a push that finished by itself
}

func startConnection(number int, s *store.Store, l *locks.Locks) *connection {
	c := &connection{number: number, store: s, locks: l, turns: make(chan struct{}), answers: make(chan int), push: push.New()}
	go c.work()
	return c
}

// work is the connection's goroutine. It lives until turns is closed, and closes answers to tell that it has ended: by then its locks are given back, however the push ended.
func (c *connection) work() {
	defer close(c.answers)
	defer c.locks.GiveBack(c.number)
	for range c.turns {
		c.answers <- c.step()
	}
}

func (c *connection) feed(bytes string) bool {
	c.mutex.Lock()
	defer c.mutex.Unlock()
	return !c.finished && c.push.Feed(bytes)
}

func (c *connection) end() bool {
	c.mutex.Lock()
	defer c.mutex.Unlock()
	if c.finished {
		return false
	}
	c.push.End()
	return true
}

// turn lets the goroutine do a step, and ends it if that was the last one.
func (c *connection) turn() int {
	c.mutex.Lock()
	defer c.mutex.Unlock()
	if c.finished {
		return stepFinished
	}
	c.turns <- struct{}{}
	answer := <-c.answers
	if c.finished {
		c.join()
	}
	return answer
}

func (c *connection) drop() bool {
	c.mutex.Lock()
	defer c.mutex.Unlock()
	return c.cutOff()
}

// cutOff drops the connection for a caller who holds the mutex.
func (c *connection) cutOff() bool {
	if c.finished {
		return false
	}
	c.finish()
	c.join()
	return true
}

func (c *connection) tell() (string, bool) {
	c.mutex.Lock()
	defer c.mutex.Unlock()
	return c.reply, c.reply != ""
}

// join ends the goroutine and waits until it has ended.
func (c *connection) join() {
	close(c.turns)
	<-c.answers
}

// finish lets go of all that waits.
func (c *connection) finish() {
	c.finished = true
	c.push = nil
	c.decided = ""
}

// step does the connection's next step, within its goroutine.
func (c *connection) step() int {
	if !c.push.Whole() {
		return c.read()
	}
	refs := c.push.Refs()
	switch {
	case c.held < len(refs):
		return c.lock(refs[c.held])
	case c.decided == "":
		c.decided = replyOf(c.push.Commands, c.store.Take(c.push))
	default:
		c.leave(c.decided)
	}
	return stepDone
}

// read takes one packet.
func (c *connection) read() int {
	err := c.push.Read()
	var wrong *push.Fault
	if errors.As(err, &wrong) {
		c.leave("unpack " + wrong.Word + "\n")
		return stepDone
	}
	if err != nil {
		return stepNone
	}
	return stepDone
}

// lock takes the lock of a ref, if nobody else holds it.
func (c *connection) lock(ref string) int {
	if !c.locks.Take(ref, c.number) {
		return stepNone
	}
	c.held++
	return stepDone
}

// leave ends the push with its reply. The locks are given back with the goroutine's end, which the caller of this turn waits for.
func (c *connection) leave(reply string) {
	c.reply = reply
	c.finish()
}

// replyOf tells the words of the commands, in their order.
func replyOf(commands []push.Command, words []string) string {
	var told strings.Builder
	told.WriteString("unpack ok\n")
	for i, command := range commands {
		if words[i] == store.OK {
			told.WriteString("ok " + command.Ref + "\n")
		} else {
			told.WriteString("ng " + command.Ref + " " + words[i] + "\n")
		}
	}
	return told.String()
}
