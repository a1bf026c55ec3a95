// Package signs: texts that are made of few signs.
package signs

import "strings"

// The signs that ids, lengths, names and refs are made of.
const (
	Digits  = "0123456789abcdef"
	Letters = "abcdefghijklmnopqrstuvwxyz"
	InRef   = Letters + "0123456789-"
)

// Only says whether text has least to most bytes, each of them one of set.
func Only(text, set string, least, most int) bool {
	if len(text) < least || len(text) > most {
		return false
	}
	for i := range len(text) {
		if strings.IndexByte(set, text[i]) < 0 {
			return false
		}
	}
	return true
}

// Hex writes the lowest digits of number, width of them, the highest first.
func Hex(number uint32, width int) string {
	text := make([]byte, width)
	for i := width - 1; i >= 0; i-- {
		text[i] = Digits[number%16]
		number /= 16
	}
	return string(text)
}
