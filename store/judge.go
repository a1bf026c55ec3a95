package store

import (
	"refserve/object"
	"refserve/push"
)

// OK is the word of a command that is well; the others tell what is wrong with one.
const (
	OK          = "ok"
	wordStale   = "stale"
	wordMissing = "missing"
	wordType    = "type"
	wordForward = "forward"
	wordRoom    = "room"
	wordClash   = "clash"
	wordAborted = "aborted"
)

// judge gives the word of each command by itself, as if these objects were in the store.
func (s *Store) judge(commands []push.Command, waiting map[string]object.Object) []string {
	find := s.finder(waiting)
	words := make([]string, len(commands))
	for i, c := range commands {
		words[i] = s.word(c, find)
	}
	return words
}

func (s *Store) word(c push.Command, find finder) string {
	switch {
	case s.at(c.Ref) != c.Old:
		return wordStale
	case c.New == object.Nothing: // a ref that is taken away turns to no object that could be wrong
		return OK
	case find.misses(c.New):
		return wordMissing
	case find.mistypes(c.New):
		return wordType
	case s.Forward && c.Old != object.Nothing && !find.leads(c.New, c.Old):
		return wordForward
	}
	return OK
}

func allOK(words []string) bool {
	for _, word := range words {
		if word != OK {
			return false
		}
	}
	return true
}

// abort turns the words that are OK to what they are beside one that is not.
func abort(words []string) {
	for i, word := range words {
		if word == OK {
			words[i] = wordAborted
		}
	}
}
