package serve

import (
	"errors"
	"sync"

	"refserve/push"
)

// What a step answers.
const (
	stepDone     = 1
	stepNone     = 0
	stepFinished = -1
)

// connection is a goroutine that does one step for each turn it is given.
type connection struct {
	// mutex keeps two calls from speaking with the goroutine at one time: between turns, who holds it owns what is below.
	mutex   sync.Mutex
	turns   chan struct{}
	answers chan int

	push     *push.Push
	finished bool
	reply    string // never empty behind a push that finished by itself
}

func startConnection() *connection {
	c := &connection{turns: make(chan struct{}), answers: make(chan int), push: push.New()}
	go c.work()
	return c
}

// work is the connection's goroutine. It lives until turns is closed, and closes answers to tell that it has ended.
func (c *connection) work() {
	defer close(c.answers)
	for range c.turns {
		c.answers <- c.step()
	}
}

func (c *connection) feed(bytes string) bool {
	c.mutex.Lock()
	defer c.mutex.Unlock()
	return !c.finished && c.push.Feed(bytes)
}

func (c *connection) end() bool {
	c.mutex.Lock()
	defer c.mutex.Unlock()
	if c.finished {
		return false
	}
	c.push.End()
	return true
}

// turn lets the goroutine do a step, and ends it if that was the last one.
func (c *connection) turn() int {
	c.mutex.Lock()
	defer c.mutex.Unlock()
	if c.finished {
		return stepFinished
	}
	c.turns <- struct{}{}
	answer := <-c.answers
	if c.finished {
		c.join()
	}
	return answer
}

func (c *connection) drop() bool {
	c.mutex.Lock()
	defer c.mutex.Unlock()
	if c.finished {
		return false
	}
	c.finish()
	c.join()
	return true
}

func (c *connection) tell() (string, bool) {
	c.mutex.Lock()
	defer c.mutex.Unlock()
	return c.reply, c.reply != ""
}

// join ends the goroutine and waits until it has ended.
func (c *connection) join() {
	close(c.turns)
	<-c.answers
}

// finish lets go of all that waits.
func (c *connection) finish() {
	c.finished = true
	c.push = nil
}

// step does the connection's next step, within its goroutine.
func (c *connection) step() int {
	if c.push.Whole() {
		return stepNone // what stands behind reading is not built yet
	}
	err := c.push.Read()
	var wrong *push.Fault
	if errors.As(err, &wrong) {
		c.reply = "unpack " + wrong.Word + "\n"
		c.finish()
		return stepDone
	}
	if err != nil {
		return stepNone
	}
	return stepDone
}
