// Package object knows which texts are objects, of what kind they are, and what they name.
package object

import (
	"slices"
	"strings"

	"refserve/signs"
)

const (
	mostData    = 40
	mostMessage = 20
	mostName    = 8
	mostParents = 2
)

// Object is a *Blob, a *Tree or a *Commit.
type Object interface {
	ID() string
	Text() string
	// read takes the object's text apart; false, if it is not of the kind's form.
	read() bool
}

// common is what all kinds of objects have.
type common struct{ id, text string }

// ID gives the id of the whole text.
func (c *common) ID() string { return c.id }

// Text gives the whole text.
func (c *common) Text() string { return c.text }

// body gives what stands behind the kind's word and its blank.
func (c *common) body() string {
	_, body, _ := strings.Cut(c.text, " ")
	return body
}

// Blob holds data and names nothing.
type Blob struct{ common }

// Tree names what its entries name.
type Tree struct {
	common
	Entries []string
}

// Commit names a tree and no to two parents.
type Commit struct {
	common
	Tree    string
	Parents []string
}

// Parse gives the object that text is; false, if it is none.
func Parse(text string) (Object, bool) {
	found := unread(text)
	if found == nil || !found.read() || found.ID() == Nothing {
		return nil, false
	}
	return found, true
}

// Names gives the ids that an object names, in their order, as a new list.
func Names(o Object) []string {
	switch o := o.(type) {
	case *Tree:
		return slices.Clone(o.Entries)
	case *Commit:
		return append([]string{o.Tree}, o.Parents...)
	}
	return nil
}

// unread gives an object of the kind that the text's first word tells, or nil.
func unread(text string) Object {
	kind, _, parted := strings.Cut(text, " ")
	if !parted {
		return nil
	}
	all := common{id: ID(text), text: text}
	switch kind {
	case "blob":
		return &Blob{all}
	case "tree":
		return &Tree{common: all}
	case "commit":
		return &Commit{common: all}
	}
	return nil
}

func (b *Blob) read() bool {
	return isLine(b.body(), mostData)
}

func (t *Tree) read() bool {
	if t.body() == "" {
		return true
	}
	last := ""
	for _, entry := range strings.Split(t.body(), ",") {
		name, id, _ := strings.Cut(entry, "=")
		if !signs.Only(name, signs.Letters, 1, mostName) || name <= last || !canName(id) {
			return false
		}
		t.Entries = append(t.Entries, id)
		last = name
	}
	return true
}

func (c *Commit) read() bool {
	tree, rest, _ := strings.Cut(c.body(), " ")
	parents, message, parted := strings.Cut(rest, " ")
	if !parted || !canName(tree) || !isLine(message, mostMessage) {
		return false
	}
	c.Tree = tree
	return c.readParents(parents)
}

func (c *Commit) readParents(parents string) bool {
	if parents == "-" {
		return true
	}
	// One piece more than there may be is enough to see that there are too many.
	for _, id := range strings.SplitN(parents, "+", mostParents+1) {
		if len(c.Parents) == mostParents || !canName(id) {
			return false
		}
		c.Parents = append(c.Parents, id)
	}
	return true
}

// canName says whether an object may name this id: nothing cannot be named.
func canName(id string) bool {
	return IsID(id) && id != Nothing
}

func isLine(text string, most int) bool {
	return len(text) <= most && !strings.Contains(text, "\n")
}
