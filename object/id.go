package object

import "refserve/signs"

// Nothing is the id that stands for nothing.
const Nothing = "00000000"

const (
	idLength   = 8
	hashStart  = 2166136261
	hashFactor = 16777619
)

// ID gives the id of a text: FNV-1a of its bytes.
func ID(text string) string {
	hash := uint32(hashStart)
	for i := range len(text) {
		hash = (hash ^ uint32(text[i])) * hashFactor
	}
	return signs.Hex(hash, idLength)
}

// IsID says whether text has the form of an id; that of nothing has it, too.
func IsID(text string) bool {
	return signs.Only(text, signs.Digits, idLength, idLength)
}
