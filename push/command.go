package push

import (
	"strings"

	"refserve/object"
	"refserve/signs"
)

const (
	refStart = "refs/"
	mostRef  = 12
)

// Command asks that a ref be turned from an old id to a new one.
type Command struct{ Old, New, Ref string }

// parseCommand reads OLD NEW REF; false, if the text is no command.
func parseCommand(text string) (Command, bool) {
	old, rest, _ := strings.Cut(text, " ")
	turned, ref, _ := strings.Cut(rest, " ")
	if !object.IsID(old) || !object.IsID(turned) || !isRef(ref) {
		return Command{}, false
	}
	return Command{Old: old, New: turned, Ref: ref}, true
}

func isRef(text string) bool {
	name, found := strings.CutPrefix(text, refStart)
	return found && signs.Only(name, signs.InRef, 1, mostRef)
}
