package store

import (
	"maps"
	"slices"
	"strings"
	"testing"

	"refserve/object"
	"refserve/order"
	"refserve/push"
)

const (
	leaf  = "blob x"
	empty = "tree "
	twin  = "blob ddoosyxzxt"
	twin2 = "blob hvmunwpinj" // with the id of twin

	// Each of them names itself.
	ringTree   = "tree a=dd227c6d"
	ringCommit = "commit 67245daf fc2eaddf a"
)

func commitOf(tree, parents, message string) string {
	return "commit " + object.ID(tree) + " " + parents + " " + message
}

// whole gives a push that has been read, of commands and objects.
func whole(t *testing.T, commands []string, objects ...string) *push.Push {
	t.Helper()
	in := ""
	for _, c := range commands {
		in += push.Packet(c)
	}
	in += "0000"
	for _, o := range objects {
		in += push.Packet(o)
	}
	p := push.New()
	if !p.Feed(in + "0000") {
		t.Fatalf("a push that is too long: %q", in)
	}
	for !p.Whole() {
		if err := p.Read(); err != nil {
			t.Fatalf("%q: %v", in, err)
		}
	}
	return p
}

func wantWords(t *testing.T, got []string, want string) {
	t.Helper()
	if words := strings.Join(got, " "); words != want {
		t.Errorf("P6: the words: %q, want %q", words, want)
	}
}

// wantHeld tells if the store does not hold just these objects and refs.
func wantHeld(t *testing.T, s *Store, texts []string, refs ...Ref) {
	t.Helper()
	var held []string
	for _, id := range order.Keys(s.objects) {
		if id != object.ID(s.objects[id].Text()) {
			t.Errorf("P6: %q is in the store as %s", s.objects[id].Text(), id)
		}
		held = append(held, s.objects[id].Text())
	}
	slices.Sort(held)
	if want := slices.Sorted(slices.Values(texts)); !slices.Equal(held, want) {
		t.Errorf("P6: objects in the store: %q, want %q", held, want)
	}
	there := map[string]Ref{}
	for _, ref := range refs {
		there[ref.Name] = ref
	}
	if !maps.Equal(s.refs, there) {
		t.Errorf("P6: the refs: %v, want %v", s.refs, there)
	}
	if told := s.Refs(); !slices.Equal(told, refs) {
		t.Errorf("P9: the refs: %v, want %v", told, refs)
	}
	for _, text := range texts {
		if told, ok := s.Object(object.ID(text)); told != text || !ok {
			t.Errorf("P9: the object of %q: %q, %v", text, told, ok)
		}
	}
}

func TestTakenOrNothingChanges(t *testing.T) {
	one := commitOf(empty, "-", "one")
	two := commitOf(empty, "-", "two")
	id, id2 := object.ID(one), object.ID(two)
	s := &Store{Forward: true, Room: 4}
	create := func(id, ref string) string { return object.Nothing + " " + id + " " + ref }

	wantWords(t, s.Take(whole(t, []string{create(id, "refs/a"), create(id, "refs/b")}, one, empty, twin, twin)), "ok ok")
	held := []string{one, empty, twin}
	refA, refB := Ref{"refs/a", id}, Ref{"refs/b", id}
	wantHeld(t, s, held, refA, refB)

	for _, c := range []struct {
		commands []string
		objects  []string
		words    string
	}{
		{[]string{create(id, "refs/a"), create(id, "refs/c")}, []string{leaf}, "stale aborted"},
		{[]string{create(id, "refs/c"), create(id2, "refs/d")}, []string{leaf}, "aborted missing"},
		{[]string{create(object.ID(empty), "refs/c")}, []string{leaf}, "type"},
		{[]string{id + " 00000000 refs/b", id + " " + id2 + " refs/a"}, []string{two}, "aborted forward"},
		{[]string{id + " 00000000 refs/b", create(id2, "refs/d")}, []string{two, leaf}, "room room"},
		{[]string{id + " 00000000 refs/b", create(id, "refs/b0")}, []string{leaf, twin2}, "clash clash"},
		{[]string{id + " 00000000 refs/b", create(id, "refs/b0")}, []string{leaf, "blob hvmunwpinj", "blob ddoosyxzxt"}, "clash clash"},
	} {
		wantWords(t, s.Take(whole(t, c.commands, c.objects...)), c.words)
		wantHeld(t, s, held, refA, refB)
	}

	wantWords(t, s.Take(whole(t, []string{id + " 00000000 refs/b", create(id2, "refs/c")}, two, two, empty)), "ok ok")
	wantHeld(t, s, append(held, two), refA, Ref{"refs/c", id2})
}

func TestNothingToTurn(t *testing.T) {
	s := &Store{Room: -1}
	wantWords(t, s.Take(whole(t, []string{"00000000 00000000 refs/a"})), "ok")
	wantHeld(t, s, nil)
	wantWords(t, s.Take(whole(t, []string{"00000000 00000000 refs/a"}, leaf)), "room")
	wantHeld(t, s, nil)
}

func TestTheEmptyStore(t *testing.T) {
	var s Store
	wantWords(t, s.Take(whole(t, []string{"00000000 00000000 refs/a", "00000000 12345678 refs/b"}, leaf)), "aborted missing")
	wantWords(t, s.Take(whole(t, []string{"00000000 00000000 refs/a"}, leaf)), "room")
	wantWords(t, s.Take(whole(t, []string{"00000000 00000000 refs/a"})), "ok")
	wantHeld(t, &s, nil)
}

func TestRings(t *testing.T) {
	s := &Store{Forward: true, Room: 9}
	ring := object.ID(ringCommit)
	if object.ID(ringTree) != "dd227c6d" || ring != "fc2eaddf" {
		t.Fatalf("these are no rings")
	}
	round := commitOf(ringTree, "-", "")
	wantWords(t, s.Take(whole(t, []string{"00000000 " + object.ID(round) + " refs/a"}, round, ringTree)), "ok")
	wantWords(t, s.Take(whole(t, []string{"00000000 " + ring + " refs/b"}, ringCommit)), "missing")
	wantWords(t, s.Take(whole(t, []string{"00000000 " + ring + " refs/b"}, ringCommit, empty)), "ok")
	son := commitOf(empty, ring, "")
	wantWords(t, s.Take(whole(t, []string{ring + " " + object.ID(son) + " refs/b"}, son)), "ok")
	wantWords(t, s.Take(whole(t, []string{object.ID(son) + " " + ring + " refs/b"})), "forward")
}

func TestWalk(t *testing.T) {
	named := map[string][]string{"a": {"b", "c"}, "b": {"d", "e", "d"}, "c": {"f", "b", "a"}, "d": {"a", "d", "g"}}
	next := func(id string) []string { return named[id] }
	for from, want := range map[string]string{"a": "a b c d e f g", "b": "b d e a g c f", "x": "x"} {
		var got []string
		for id := range walk(from, next) {
			got = append(got, id)
		}
		if strings.Join(got, " ") != want {
			t.Errorf("from %s: %q, want %s", from, got, want)
		}
	}
	count := 0
	for range walk("a", next) {
		count++
		if count == 3 {
			break
		}
	}
	if count != 3 {
		t.Errorf("a loop that is left goes on: %d", count)
	}
}

func TestReachNeedsNoLock(t *testing.T) {
	son := commitOf(empty, object.ID(ringCommit), "")
	s := &Store{Room: 9}
	wantWords(t, s.Take(whole(t, []string{"00000000 " + object.ID(son) + " refs/a"}, son, ringCommit, empty)), "ok")
	var got []string
	for id := range s.Reach(object.ID(son)) {
		if !s.mutex.TryLock() {
			t.Fatalf("P9: the store is locked within a loop")
		}
		s.mutex.Unlock()
		got = append(got, id)
	}
	if want := []string{object.ID(son), object.ID(empty), object.ID(ringCommit)}; !slices.Equal(got, want) {
		t.Errorf("P9: %q, want %q", got, want)
	}
}
