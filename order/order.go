// Package order: what has no order of its own, in one.
package order

import (
	"cmp"
	"slices"
)

// Keys gives the keys of a map, rising, as a new list.
func Keys[K cmp.Ordered, V any](of map[K]V) []K {
	keys := make([]K, 0, len(of))
	for key := range of {
		keys = append(keys, key)
	}
	slices.Sort(keys)
	return keys
}
