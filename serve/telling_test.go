package serve

import (
	"iter"
	"slices"
	"strings"
	"sync"
	"testing"
)

// wantRefs tells if the refs are others than these, each a name, '=' and an id, parted by blanks.
func wantRefs(t *testing.T, s *Server, want string) {
	t.Helper()
	var told []string
	for _, ref := range s.Refs() {
		told = append(told, ref.Name+"="+ref.ID)
	}
	if got := strings.Join(told, " "); got != want {
		t.Errorf("P9: Refs() = %q, want %q", got, want)
	}
}

// wantObjects tells if one of the texts is not told as an object of the store.
func wantObjects(t *testing.T, s *Server, texts ...string) {
	t.Helper()
	for _, text := range texts {
		if got, ok := s.Object(ID(text)); got != text || !ok {
			t.Errorf("P9: Object(%q) = %q, %v, want %q", ID(text), got, ok, text)
		}
	}
}

// wantNoObjects tells if anything is told as an object of one of the ids.
func wantNoObjects(t *testing.T, s *Server, ids ...string) {
	t.Helper()
	for _, id := range ids {
		if text, ok := s.Object(id); text != "" || ok {
			t.Errorf("P9: Object(%q) = %q, %v", id, text, ok)
		}
	}
}

// idsOf gives the ids of texts.
func idsOf(texts ...string) []string {
	var ids []string
	for _, text := range texts {
		ids = append(ids, ID(text))
	}
	return ids
}

// told gives all that a loop tells; no loop of a test has a hundred rounds.
func told(loop iter.Seq[string]) []string {
	var ids []string
	for id := range loop {
		ids = append(ids, id)
		if len(ids) == 100 {
			break
		}
	}
	return ids
}

func wantTold(t *testing.T, what string, loop iter.Seq[string], want []string) {
	t.Helper()
	if got := told(loop); !slices.Equal(got, want) {
		t.Errorf("P9: %s: %q, want %q", what, got, want)
	}
}

func TestRefsRise(t *testing.T) {
	one, two := commitOf("one", emptyTree), commitOf("two", emptyTree)
	s := New(false, 9)
	defer s.Stop()
	wantRefs(t, s, "")
	wantPushed(t, s, "four", create(two, "refs/m")+","+create(one, "refs/a0")+","+create(one, "refs/z")+","+create(two, "refs/9"), "ok ok ok ok", one, two, emptyTree)
	wantPushed(t, s, "four more", create(one, "refs/a-")+","+create(two, "refs/-")+","+create(one, "refs/aa")+","+create(two, "refs/a"), "ok ok ok ok")
	first, second := "="+ID(one)+" ", "="+ID(two)+" "
	all := "refs/-" + second + "refs/9" + second + "refs/a" + second + "refs/a-" + first + "refs/a0" + first + "refs/aa" + first + "refs/m" + second + "refs/z" + first
	for range 20 {
		wantRefs(t, s, strings.TrimSpace(all))
	}
	wantPushed(t, s, "turned, taken away", turn(two, one, "refs/m")+","+ID(one)+" 00000000 refs/a-,00000000 00000000 refs/b", "ok ok ok")
	wantRefs(t, s, strings.TrimSpace("refs/-"+second+"refs/9"+second+"refs/a"+second+"refs/a0"+first+"refs/aa"+first+"refs/m"+first+"refs/z"+first))
	wantPushed(t, s, "of which one is stale", turn(one, two, "refs/m")+","+create(two, "refs/z"), "aborted stale")
	wantRefs(t, s, strings.TrimSpace("refs/-"+second+"refs/9"+second+"refs/a"+second+"refs/a0"+first+"refs/aa"+first+"refs/m"+first+"refs/z"+first))
}

func TestRefsAreANewList(t *testing.T) {
	one := commitOf("one", emptyTree)
	s := New(false, 9)
	defer s.Stop()
	wantPushed(t, s, "two", create(one, "refs/b")+","+create(one, "refs/a"), "ok ok", one, emptyTree)
	mine, other := s.Refs(), s.Refs()
	mine[0], mine[1] = Ref{Name: "?"}, Ref{ID: "?"}
	_ = append(mine, Ref{Name: "refs/c"})
	if other[0].Name != "refs/a" || other[1].Name != "refs/b" {
		t.Errorf("P1: two lists share their memory: %v", other)
	}
	wantRefs(t, s, "refs/a="+ID(one)+" refs/b="+ID(one))
}

func TestObjectsOfTheStore(t *testing.T) {
	tree := treeOf(helloBlob, emptyTree)
	one := commitOf("one", tree)
	odd := "blob \x00\xff="
	s := New(false, 9)
	defer s.Stop()
	wantNoObjects(t, s, idsOf(one, tree, emptyTree, helloBlob)...)
	wantPushed(t, s, "the first", create(one, "refs/m"), "ok", one, tree, emptyTree, helloBlob, helloBlob, odd, "blob ", twinOther)
	wantObjects(t, s, one, tree, emptyTree, helloBlob, odd, "blob ", twinOther)
	wantNoObjects(t, s, "", nothing, "12345678", "x", one, helloBlob, "refs/m", strings.ToUpper(ID(one)), ID(one)[:7], ID(one)+"0", " "+ID(one), ID(one)+"\n", strings.Repeat("0", 1<<20))
	wantPushed(t, s, "not taken", create(one, "refs/m"), "stale", "blob lost")
	wantPushed(t, s, "aborted", ID(one)+" 00000000 refs/m,"+create("blob gone", "refs/n"), "aborted missing", "blob lost")
	wantPushed(t, s, "too much", turn(one, one, "refs/m"), "room", "blob lost", "blob 1", "blob 2")
	wantPushed(t, s, "a clash", turn(one, one, "refs/m"), "clash", "blob lost", twinBlob)
	wantNoObjects(t, s, idsOf("blob lost", "blob 1", "blob 2")...)
	wantObjects(t, s, twinOther)
	wantPushed(t, s, "taken away", ID(one)+" 00000000 refs/m", "ok", "blob last")
	wantObjects(t, s, one, tree, emptyTree, helloBlob, "blob last")
	wantRefs(t, s, "")
}

func TestThereFromTheDecisionOn(t *testing.T) {
	one := commitOf("one", emptyTree)
	for steps := range 9 {
		for _, drop := range []bool{false, true} {
			s := New(false, 9)
			c := s.Open()
			s.Feed(c, pushOf(create(one, "refs/m"), one, emptyTree))
			for range steps {
				s.Step(c)
			}
			if drop {
				s.Drop(c)
			}
			for range 2 { // behind Stop again
				if steps < 7 {
					wantRefs(t, s, "")
					wantNoObjects(t, s, idsOf(one, emptyTree)...)
					wantTold(t, "ahead of the decision", s.Reach(ID(one)), idsOf(one))
				} else {
					wantRefs(t, s, "refs/m="+ID(one))
					wantObjects(t, s, one, emptyTree)
					wantTold(t, "behind the decision", s.Reach(ID(one)), idsOf(one, emptyTree))
				}
				s.Stop()
			}
		}
	}
}

// library gives a server with objects of all kinds, some of which name what is not there.
func library(t *testing.T) *Server {
	t.Helper()
	low := treeOf(helloBlob)
	one := commitOf("one", low)
	two := commitOf("two", treeOf("blob far", low, helloBlob), one)
	s := New(true, 40)
	wantPushed(t, s, "what is right", create(two, "refs/m"), "ok", two, one, treeOf("blob far", low, helloBlob), low, helloBlob, "blob far")
	lost := commitOf("lost", "tree gone", one, "commit gone")
	wantPushed(t, s, "what is not", turn(two, two, "refs/m"), "ok", lost, treeOf("blob gone", lost, low, "blob gone"), ringTree, ringCommit, treeOf(ringCommit, ringTree))
	wantPushed(t, s, "a deep one", turn(two, two, "refs/m"), "ok", commitOf("merge", emptyTree, two, lost), commitOf("same", low, one, one))
	return s
}

// reaching tells for some ids what can be reached in the library.
func reaching() []reach {
	low := treeOf(helloBlob)
	high := treeOf("blob far", low, helloBlob)
	one := commitOf("one", low)
	two := commitOf("two", high, one)
	lost := commitOf("lost", "tree gone", one, "commit gone")
	wide := treeOf("blob gone", lost, low, "blob gone")
	return []reach{
		{"a blob", helloBlob, idsOf(helloBlob)},
		{"a tree", low, idsOf(low, helloBlob)},
		{"a tree of a tree", high, idsOf(high, "blob far", low, helloBlob)},
		{"a commit", one, idsOf(one, low, helloBlob)},
		{"its son", two, idsOf(two, high, one, "blob far", low, helloBlob)},
		{"one parent twice", commitOf("same", low, one, one), idsOf(commitOf("same", low, one, one), low, one, helloBlob)},
		{"two parents", commitOf("merge", emptyTree, two, lost), idsOf(commitOf("merge", emptyTree, two, lost), emptyTree, two, lost, high, one, "tree gone", "commit gone", "blob far", low, helloBlob)},
		{"what is not there is told", lost, idsOf(lost, "tree gone", one, "commit gone", low, helloBlob)},
		{"one id twice in a tree", wide, idsOf(wide, "blob gone", lost, low, "tree gone", one, "commit gone", helloBlob)},
		{"a tree that names itself", ringTree, idsOf(ringTree)},
		{"a commit that names itself", ringCommit, idsOf(ringCommit, emptyTree)},
		{"a tree of rings", treeOf(ringCommit, ringTree), idsOf(treeOf(ringCommit, ringTree), ringCommit, ringTree, emptyTree)},
		{"what is not there", "blob gone", idsOf("blob gone")},
	}
}

type reach struct {
	what, from string
	ids        []string
}

func TestReachInItsOrder(t *testing.T) {
	s := library(t)
	defer s.Stop()
	for _, c := range reaching() {
		loop := s.Reach(ID(c.from))
		wantTold(t, c.what, loop, c.ids)
		wantTold(t, c.what+", once more", loop, c.ids)
		wantTold(t, c.what+", asked again", s.Reach(ID(c.from)), c.ids)
	}
}

func TestReachLeftEarly(t *testing.T) {
	s := library(t)
	defer s.Stop()
	for _, c := range reaching() {
		loop := s.Reach(ID(c.from))
		for most := 1; most <= len(c.ids); most++ {
			var got []string
			loop(func(id string) bool {
				got = append(got, id)
				return len(got) < most
			})
			if !slices.Equal(got, c.ids[:most]) {
				t.Errorf("P9: %s, left behind %d: %q", c.what, most, got)
			}
		}
		wantTold(t, c.what+", behind loops that were left", loop, c.ids)
	}
}

func TestReachOfNoObject(t *testing.T) {
	s := library(t)
	var none *Server
	for _, server := range []*Server{s, New(true, -1), {}, none} {
		for range 2 { // behind Stop again
			wantTold(t, "nothing", server.Reach(nothing), nil)
			for _, id := range []string{"12345678", "ffffffff", "", "x", "0000000", "000000000", "tree ", helloBlob, strings.ToUpper(ID(helloBlob)), "\xff"} {
				wantTold(t, "what is no object", server.Reach(id), []string{id})
			}
			server.Reach(nothing)(nil)
			server.Reach(ID(helloBlob))(nil)
			server.Stop()
		}
	}
}

func TestReachFromTheLoopsBegin(t *testing.T) {
	one := commitOf("one", treeOf(helloBlob))
	s := New(false, 9)
	loop := s.Reach(ID(one))
	wantTold(t, "ahead of the push", loop, idsOf(one))
	wantPushed(t, s, "a part", "00000000 00000000 refs/m", "ok", one)
	var got []string
	for id := range loop {
		if got = append(got, id); len(got) == 1 {
			wantPushed(t, s, "within the loop", create(one, "refs/m"), "ok", treeOf(helloBlob), helloBlob)
			wantTold(t, "a loop within the loop", loop, idsOf(one, treeOf(helloBlob), helloBlob))
		}
	}
	if !slices.Equal(got, idsOf(one, treeOf(helloBlob))) {
		t.Errorf("P9: what came within the loop is told: %q", got)
	}
	wantTold(t, "behind the loop", loop, idsOf(one, treeOf(helloBlob), helloBlob))
	wantPushed(t, s, "taken away", ID(one)+" 00000000 refs/m", "ok")
	s.Stop()
	wantTold(t, "behind Stop", loop, idsOf(one, treeOf(helloBlob), helloBlob))
}

func TestReachPulled(t *testing.T) {
	one := commitOf("one", emptyTree)
	s := New(false, 9)
	defer s.Stop()
	next, leave := iter.Pull(iter.Seq[string](s.Reach(ID(one))))
	defer leave()
	wantPushed(t, s, "while no loop has begun", create(one, "refs/m"), "ok", one, emptyTree)
	for _, want := range idsOf(one, emptyTree) {
		if id, ok := next(); id != want || !ok {
			t.Errorf("P9: pulled: %q, %v, want %q", id, ok, want)
		}
		wantPushed(t, s, "while the loop rests", turn(one, one, "refs/m"), "ok")
	}
	if id, ok := next(); ok {
		t.Errorf("P9: pulled behind the last: %q", id)
	}
}

func TestCallsWithinALoop(t *testing.T) {
	s := library(t)
	all := reaching()[4]
	var got []string
	for id := range s.Reach(ID(all.from)) {
		got = append(got, id)
		if within := told(s.Reach(id)); len(within) == 0 || within[0] != id {
			t.Errorf("P9: a loop within a loop: %q", within)
		}
		wantRefs(t, s, "refs/m="+ID(all.from))
		wantObjects(t, s, helloBlob)
		switch len(got) {
		case 1:
			c := s.Open()
			if !s.Feed(c, "000") || s.Step(c) != 0 || !s.End(c) || s.Step(c) != 1 {
				t.Errorf("P1: calls within a loop")
			}
			wantReply(t, s, c, "unpack packet\n")
		case 2:
			if !s.Drop(s.Open()) {
				t.Errorf("P1: Drop within a loop")
			}
		case 3:
			s.Stop()
		}
	}
	if !slices.Equal(got, all.ids) {
		t.Errorf("P9: stopped within the loop: %q, want %q", got, all.ids)
	}
}

func TestBodyThatPanics(t *testing.T) {
	s := library(t)
	defer s.Stop()
	all := reaching()[4]
	loop := s.Reach(ID(all.from))
	for rounds := 1; rounds <= len(all.ids); rounds++ {
		got := 0
		func() {
			defer func() {
				if r := recover(); r != "the body's own" {
					t.Errorf("P1: the body's panic comes out as %v", r)
				}
			}()
			for range loop {
				if got++; got == rounds {
					panic("the body's own")
				}
			}
		}()
		if got != rounds {
			t.Errorf("P9: %d rounds, want %d", got, rounds)
		}
	}
	wantTold(t, "behind bodies that panicked", loop, all.ids)
	wantPushed(t, s, "behind bodies that panicked", turn(all.from, all.from, "refs/m"), "ok", "blob more")
}

func TestThereBehindStop(t *testing.T) {
	s := library(t)
	refs := s.Refs()
	waiting := s.Open()
	s.Feed(waiting, pushOf(ID(reaching()[4].from)+" 00000000 refs/m", "blob waits"))
	for range 5 {
		s.Step(waiting)
	}
	for range 2 {
		s.Stop()
		if got := s.Refs(); len(got) != 1 || !slices.Equal(got, refs) {
			t.Errorf("P10: Refs() = %v, want %v", got, refs)
		}
		wantNoObjects(t, s, ID("blob waits"))
		for _, c := range reaching() {
			wantTold(t, c.what+", behind Stop", s.Reach(ID(c.from)), c.ids)
		}
	}
}

// watch looks at a server while pushes of two refs and a commit each are decided: of each push there is all or nothing.
func watch(t *testing.T, s *Server, commits []string) {
	for _, ref := range s.Refs() {
		if ids := told(s.Reach(ref.ID)); len(ids) != 2 || ids[1] != ID(emptyTree) {
			t.Errorf("P6: %s leads to %q", ref.Name, ids)
		}
		wantObjects(t, s, emptyTree)
	}
	refs := s.Refs()
	if len(refs)%2 != 0 {
		t.Errorf("P6: refs were turned one behind the other: %v", refs)
	}
	for c, text := range commits {
		_, there := s.Object(ID(text))
		reached := len(told(s.Reach(ID(text))))
		if there && reached != 2 {
			t.Errorf("P6: commit %d has joined the store ahead of its tree", c)
		}
	}
}

func TestWatchedAtOneTime(t *testing.T) {
	for range 50 {
		s := New(true, 9)
		var commits []string
		for c := range 8 {
			name := string(rune('a' + c))
			one := commitOf(name, emptyTree)
			commits = append(commits, one)
			s.Feed(s.Open(), pushOf(create(one, "refs/"+name)+","+create(one, "refs/x-"+name), one, emptyTree))
		}
		var all sync.WaitGroup
		for c := range commits {
			all.Go(func() { steps(s, c) })
			all.Go(func() { watch(t, s, commits) })
		}
		all.Wait()
		if refs := s.Refs(); len(refs) != 16 {
			t.Fatalf("P6: %d refs behind eight pushes", len(refs))
		}
		s.Stop()
	}
}
