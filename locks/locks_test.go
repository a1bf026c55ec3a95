package locks

import (
	"sync"
	"testing"
)

func TestTakeAndGiveBack(t *testing.T) {
	var l Locks
	l.GiveBack(0)
	if !l.Take("a", 0) || !l.Take("b", 1) || !l.Take("c", 0) {
		t.Fatalf("P4: a lock that nobody holds")
	}
	if l.Take("a", 1) || l.Take("b", 0) || l.Take("c", 2) {
		t.Errorf("P4: a lock that another holds")
	}
	l.GiveBack(2)
	l.GiveBack(0)
	if l.Take("b", 0) || !l.Take("a", 1) || !l.Take("c", 2) {
		t.Errorf("P4: a holder gives back its own locks, all of them")
	}
	l.GiveBack(1)
	l.GiveBack(2)
	if len(l.holders) != 0 {
		t.Errorf("P4: locks that nobody holds are kept: %v", l.holders)
	}
}

func TestOneHolder(t *testing.T) {
	for range 100 {
		var l Locks
		var got [8]bool
		var holders sync.WaitGroup
		for i := range got {
			holders.Go(func() { got[i] = l.Take("a", i) })
		}
		holders.Wait()
		count := 0
		for _, ok := range got {
			if ok {
				count++
			}
		}
		if count != 1 {
			t.Fatalf("P4: %d hold one lock", count)
		}
	}
}
