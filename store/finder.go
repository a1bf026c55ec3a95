package store

import (
	"iter"

	"refserve/object"
)

// finder gives the object of an id; nil, if there is none.
type finder func(id string) object.Object

// names gives the ids that the object of an id names.
func (find finder) names(id string) []string {
	return object.Names(find(id))
}

// parents gives the parents of the commit of an id; none, if it is no commit.
func (find finder) parents(id string) []string {
	if commit, ok := find(id).(*object.Commit); ok {
		return commit.Parents
	}
	return nil
}

// misses says whether there is no object of an id that can be reached from this one.
func (find finder) misses(id string) bool {
	for reached := range walk(id, find.names) {
		if find(reached) == nil {
			return true
		}
	}
	return false
}

// mistypes says whether this is no commit, or one that leads to something of a kind that must not stand there.
func (find finder) mistypes(id string) bool {
	if !isCommit(find(id)) {
		return true
	}
	for reached := range walk(id, find.names) {
		if !find.fits(find(reached)) {
			return true
		}
	}
	return false
}

// fits says whether an object names only what its kind may name.
func (find finder) fits(o object.Object) bool {
	switch o := o.(type) {
	case *object.Commit:
		if !isTree(find(o.Tree)) {
			return false
		}
		for _, parent := range o.Parents {
			if !isCommit(find(parent)) {
				return false
			}
		}
	case *object.Tree:
		for _, entry := range o.Entries {
			if isCommit(find(entry)) {
				return false
			}
		}
	}
	return true
}

// leads says whether a commit is another one or reaches it by parents.
func (find finder) leads(from, to string) bool {
	for reached := range walk(from, find.parents) {
		if reached == to {
			return true
		}
	}
	return false
}

func isCommit(o object.Object) bool {
	_, is := o.(*object.Commit)
	return is
}

func isTree(o object.Object) bool {
	_, is := o.(*object.Tree)
	return is
}

// walk tells an id and all that can be reached from it by next, each once, in the order in which they are come to.
func walk(from string, next func(id string) []string) iter.Seq[string] {
	return func(yield func(id string) bool) {
		reached := []string{from}
		places := map[string]int{from: 0} // objects may name each other in a ring
		for i := 0; i < len(reached); i++ {
			if !yield(reached[i]) {
				return
			}
			for _, id := range next(reached[i]) {
				if _, known := places[id]; !known {
					places[id] = len(reached)
					reached = append(reached, id)
				}
			}
		}
	}
}
