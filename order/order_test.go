package order

import (
	"slices"
	"testing"
)

func TestKeys(t *testing.T) {
	texts := map[string]int{"refs/b": 0, "refs/a": 1, "refs/a-": 2, "refs/a0": 3, "refs/aa": 4, "": 5}
	want := []string{"", "refs/a", "refs/a-", "refs/a0", "refs/aa", "refs/b"}
	for range 20 {
		if got := Keys(texts); !slices.Equal(got, want) {
			t.Fatalf("P4: the order of names: %q", got)
		}
	}
	Keys(texts)[0] = "?"
	if got := Keys(texts); !slices.Equal(got, want) || len(texts) != 6 {
		t.Errorf("P1: the list is not new: %q", got)
	}
	if got := Keys(map[int]struct{}{10: {}, -1: {}, 9: {}}); !slices.Equal(got, []int{-1, 9, 10}) {
		t.Errorf("keys that are numbers: %v", got)
	}
	if got := Keys(map[string]int(nil)); len(got) != 0 {
		t.Errorf("keys of nothing: %q", got)
	}
}
