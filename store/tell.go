package store

import (
	"iter"
	"maps"
	"strings"

	"refserve/object"
	"refserve/order"
)

// Refs gives all refs by their names, rising, as a new list.
func (s *Store) Refs() []Ref {
	s.mutex.Lock()
	defer s.mutex.Unlock()
	var told []Ref
	for _, name := range order.Keys(s.refs) {
		told = append(told, s.refs[name])
	}
	return told
}

// Object gives the text of the object of an id; false, if it is not in the store.
func (s *Store) Object(id string) (string, bool) {
	s.mutex.Lock()
	defer s.mutex.Unlock()
	found, there := s.objects[id]
	if !there {
		return "", false
	}
	return found.Text(), true
}

// Reach tells an id and all that can be reached from it, in the store as it is when the loop begins; nothing, if the id stands for nothing.
func (s *Store) Reach(id string) iter.Seq[string] {
	from := strings.Clone(id)
	return func(yield func(id string) bool) {
		// Without a body there is nobody to tell; calling it would panic.
		if from == object.Nothing || yield == nil {
			return
		}
		for reached := range walk(from, s.asItIs().names) {
			if !yield(reached) {
				return
			}
		}
	}
}

// asItIs gives a finder among the objects that are in the store now. It needs no lock: the body of a loop may push, or never come back.
func (s *Store) asItIs() finder {
	s.mutex.Lock()
	defer s.mutex.Unlock()
	objects := maps.Clone(s.objects)
	return func(id string) object.Object { return objects[id] }
}
