// Package store holds objects and refs, and decides about pushes.
package store

import (
	"maps"
	"slices"
	"sync"

	"refserve/object"
	"refserve/push"
)

// Ref is a name and the id of a commit.
type Ref struct{ Name, ID string }

// Store holds objects by their ids and refs by their names; at first there are none. Forward and Room are set ahead of all calls.
type Store struct {
	Forward bool // a ref may only be turned to what leads back to where it was
	Room    int  // how many objects it holds at most

	mutex   sync.Mutex // for what is below
	objects map[string]object.Object
	refs    map[string]Ref
}

// Take decides about a push, and tells a word for each of its commands: if all are OK, its objects have joined the store and its refs are turned; else nothing has changed.
func (s *Store) Take(p *push.Push) []string {
	s.mutex.Lock()
	defer s.mutex.Unlock()
	fresh, apart := s.sift(p.Objects)
	if !apart {
		return slices.Repeat([]string{wordClash}, len(p.Commands))
	}
	words := s.judge(p.Commands, fresh)
	if !allOK(words) {
		abort(words)
		return words
	}
	if len(fresh) > max(s.Room, 0)-len(s.objects) {
		return slices.Repeat([]string{wordRoom}, len(p.Commands))
	}
	s.join(fresh)
	s.turn(p.Commands)
	return words
}

// sift gives those of the objects that are not in the store, by their ids; false, if two texts have one id.
func (s *Store) sift(objects []object.Object) (map[string]object.Object, bool) {
	fresh := map[string]object.Object{}
	find := s.finder(fresh)
	for _, o := range objects {
		known := find(o.ID())
		if known == nil {
			fresh[o.ID()] = o
		} else if known.Text() != o.Text() {
			return nil, false
		}
	}
	return fresh, true
}

// finder finds among the objects that wait and those of the store.
func (s *Store) finder(waiting map[string]object.Object) finder {
	return func(id string) object.Object {
		if o, waits := waiting[id]; waits {
			return o
		}
		return s.objects[id]
	}
}

// at gives the id that a ref has.
func (s *Store) at(name string) string {
	if ref, there := s.refs[name]; there {
		return ref.ID
	}
	return object.Nothing
}

func (s *Store) join(fresh map[string]object.Object) {
	if s.objects == nil {
		s.objects = map[string]object.Object{}
	}
	maps.Copy(s.objects, fresh)
}

func (s *Store) turn(commands []push.Command) {
	if s.refs == nil {
		s.refs = map[string]Ref{}
	}
	for _, c := range commands {
		if c.New == object.Nothing {
			delete(s.refs, c.Ref)
		} else {
			s.refs[c.Ref] = Ref{Name: c.Ref, ID: c.New}
		}
	}
}
