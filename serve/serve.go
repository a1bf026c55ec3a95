// Package serve: pushes to a store of objects and refs: see DOC.md.
package serve

import (
	"strings"
	"sync"

	"refserve/locks"
	"refserve/object"
	"refserve/push"
	"refserve/store"
)

const mostConnections = 8

// Ref is a name and the id of a commit.
type Ref = store.Ref

// ID gives the id of a text.
func ID(text string) string { return object.ID(text) }

// Packet gives the packet of these bytes, or the empty string, if there is none.
func Packet(payload string) string { return push.Packet(payload) }

// Look gives the ids that an object names, in their order; false, if the text is no object.
func Look(text string) ([]string, bool) {
	// The ids are pieces of the text that is parsed: the caller's own is not handed back.
	found, ok := object.Parse(strings.Clone(text))
	if !ok {
		return nil, false
	}
	return object.Names(found), true
}

// Server has a store, refs, connections.
type Server struct {
	store store.Store
	locks locks.Locks

	mutex       sync.Mutex // for what is below
	connections []*connection
	stopped     bool
}

// New gives a server without objects, refs, connections, whose store holds at most room objects.
func New(forward bool, room int) *Server {
	return &Server{store: store.Store{Forward: forward, Room: room}}
}

// Open gives the number of a new connection; -1, if there have been as many as there may be.
func (s *Server) Open() int {
	if s == nil {
		return -1
	}
	s.mutex.Lock()
	defer s.mutex.Unlock()
	if s.stopped || len(s.connections) == mostConnections {
		return -1
	}
	number := len(s.connections)
	s.connections = append(s.connections, startConnection(number, &s.store, &s.locks))
	return number
}

// find gives the connection of that number; false, if there is none.
func (s *Server) find(c int) (*connection, bool) {
	if s == nil {
		return nil, false
	}
	s.mutex.Lock()
	defer s.mutex.Unlock()
	if c < 0 || c >= len(s.connections) {
		return nil, false
	}
	return s.connections[c], true
}

// Feed adds to a connection's input; false, if it can't take these bytes.
func (s *Server) Feed(c int, bytes string) bool {
	found, ok := s.find(c)
	return ok && found.feed(bytes)
}

// End says that no more input comes; false, if there is no such connection, or it has finished.
func (s *Server) End(c int) bool {
	found, ok := s.find(c)
	return ok && found.end()
}

// Step lets a connection do its next step: 1; 0, if it can do none now; -1, if it never will.
func (s *Server) Step(c int) int {
	found, ok := s.find(c)
	if !ok {
		return stepFinished
	}
	return found.turn()
}

// Drop cuts a connection off; false, if there is no such connection, or it has finished.
func (s *Server) Drop(c int) bool {
	found, ok := s.find(c)
	return ok && found.drop()
}

// Reply gives the reply of a connection that has finished by itself; false, if there is none.
func (s *Server) Reply(c int) (string, bool) {
	found, ok := s.find(c)
	if !ok {
		return "", false
	}
	return found.tell()
}

// Refs gives all refs by their names, rising.
func (s *Server) Refs() []Ref { return s.there().Refs() }

// Object gives the text of an object in the store; false, if it is not there.
func (s *Server) Object(id string) (string, bool) { return s.there().Object(id) }

// Reach is to be ranged over: it tells the id and all that can be reached from it, in the store as it is when the loop begins.
func (s *Server) Reach(id string) func(yield func(id string) bool) { return s.there().Reach(id) }

// there gives the store; an empty one, if there is no server.
func (s *Server) there() *store.Store {
	if s == nil {
		return &store.Store{}
	}
	return &s.store
}

// Stop drops all connections that have not finished: behind it no goroutine is left, and none is started.
func (s *Server) Stop() {
	if s == nil {
		return
	}
	s.mutex.Lock()
	defer s.mutex.Unlock()
	s.stopped = true
	// All are held first: none may take a lock that another one gives back by being dropped.
	for _, c := range s.connections {
		c.mutex.Lock()
		defer c.mutex.Unlock()
	}
	for _, c := range s.connections {
		c.cutOff()
	}
}
