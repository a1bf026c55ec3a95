package serve

import (
	"strings"
	"testing"
)

const (
	nothing   = "00000000"
	emptyTree = "tree "
	helloBlob = "blob hello"
	twinBlob  = "blob ddoosyxzxt"
	twinOther = "blob hvmunwpinj" // with the id of twinBlob

	// Each of them names itself.
	ringTree   = "tree a=dd227c6d"
	ringCommit = "commit 67245daf fc2eaddf a"
)

// treeOf gives a tree of these objects.
func treeOf(texts ...string) string {
	var entries []string
	for i, text := range texts {
		entries = append(entries, string(rune('a'+i))+"="+ID(text))
	}
	return "tree " + strings.Join(entries, ",")
}

// commitOf gives a commit of a tree, with the message in front of its parents.
func commitOf(message, tree string, parents ...string) string {
	var ids []string
	for _, text := range parents {
		ids = append(ids, ID(text))
	}
	if len(ids) == 0 {
		ids = []string{"-"}
	}
	return "commit " + ID(tree) + " " + strings.Join(ids, "+") + " " + message
}

// pushOf gives the bytes of a push; commands are parted by commas.
func pushOf(commands string, objects ...string) string {
	in := ""
	for _, command := range strings.Split(commands, ",") {
		in += Packet(command)
	}
	in += "0000"
	for _, text := range objects {
		in += Packet(text)
	}
	return in + "0000"
}

// create gives a command for a ref that is not there.
func create(text, ref string) string { return nothing + " " + ID(text) + " " + ref }

// turn gives a command for a ref that is there.
func turn(from, to, ref string) string { return ID(from) + " " + ID(to) + " " + ref }

// wantPushed drives a push on a connection of its own and tells if another reply comes than the words, parted by blanks.
func wantPushed(t *testing.T, s *Server, what, commands, words string, objects ...string) {
	t.Helper()
	c := s.Open()
	if !s.Feed(c, pushOf(commands, objects...)) {
		t.Fatalf("%s: connection %d takes no push", what, c)
	}
	asked := strings.Split(commands, ",")
	done := steps(s, c)
	if want := 2*len(asked) + len(objects) + 4; done != want {
		t.Errorf("P4: %s: %d steps, want %d", what, done, want)
	}
	want := "unpack ok\n"
	for i, word := range strings.Fields(words) {
		ref := asked[i][len("00000000 00000000 "):]
		if word == "ok" {
			want += "ok " + ref + "\n"
		} else {
			want += "ng " + ref + " " + word + "\n"
		}
	}
	if got, ok := s.Reply(c); got != want || !ok {
		t.Errorf("P6: %s: %q, %v, want %q", what, got, ok, want)
	}
	wantFinished(t, s, c)
}

func TestFirstPush(t *testing.T) {
	tree := treeOf(helloBlob)
	deep := treeOf(tree, "blob far", emptyTree)
	one := commitOf("one", tree)
	son := commitOf("son", tree, one)
	merge := commitOf("merge", deep, one, son)
	ofBlob := commitOf("of a blob", helloBlob)
	ofCommit := commitOf("of a commit", one)
	withCommit := treeOf(helloBlob, one)
	below := treeOf(emptyTree, withCommit)
	hidden := commitOf("x", withCommit)
	for _, c := range []struct {
		what    string
		text    string
		word    string
		objects []string
	}{
		{"a commit of an empty tree", commitOf("", emptyTree), "ok", []string{emptyTree, commitOf("", emptyTree)}},
		{"objects behind what names them", one, "ok", []string{one, tree, helloBlob}},
		{"trees in trees, two parents", merge, "ok", []string{merge, son, one, deep, tree, "blob far", emptyTree, helloBlob}},
		{"one parent twice", commitOf("m", tree, one, one), "ok", []string{commitOf("m", tree, one, one), one, tree, helloBlob}},
		{"what is wrong, but can't be reached", one, "ok", []string{one, tree, helloBlob, ofBlob, withCommit, ofCommit, treeOf("blob gone")}},
		{"a tree that names itself", commitOf("", ringTree), "ok", []string{commitOf("", ringTree), ringTree}},
		{"a commit that names itself", ringCommit, "ok", []string{ringCommit, emptyTree}},

		{"nothing came", one, "missing", nil},
		{"no commit", one, "missing", []string{tree, helloBlob}},
		{"no tree", one, "missing", []string{one, helloBlob}},
		{"no blob", one, "missing", []string{one, tree}},
		{"no blob below two trees", merge, "missing", []string{merge, son, one, deep, tree, emptyTree, helloBlob}},
		{"no empty tree", merge, "missing", []string{merge, son, one, deep, tree, "blob far", helloBlob}},
		{"no first parent", merge, "missing", []string{merge, commitOf("son", tree), deep, tree, "blob far", emptyTree, helloBlob}},
		{"no second parent", merge, "missing", []string{merge, one, deep, tree, "blob far", emptyTree, helloBlob}},
		{"no parent's parent", commitOf("m", tree, son), "missing", []string{commitOf("m", tree, son), son, tree, helloBlob}},
		{"no tree of a parent", commitOf("m", emptyTree, one), "missing", []string{commitOf("m", emptyTree, one), one, emptyTree}},
		{"a commit of a blob that is gone", ofBlob, "missing", []string{ofBlob}},
		{"a commit of a commit whose blob is gone", ofCommit, "missing", []string{ofCommit, one, tree}},
		{"a tree, no commit, whose blob is gone", tree, "missing", []string{tree}},
		{"a tree with a commit whose blob is gone", hidden, "missing", []string{hidden, withCommit, one, tree}},
		{"a parent that is a tree whose blob is gone", commitOf("m", emptyTree, tree), "missing", []string{commitOf("m", emptyTree, tree), emptyTree, tree}},
		{"a ring, and no tree", ringCommit, "missing", []string{ringCommit}},

		{"a blob", helloBlob, "type", []string{helloBlob}},
		{"a tree", tree, "type", []string{tree, helloBlob}},
		{"an empty tree", emptyTree, "type", []string{emptyTree}},
		{"a commit of a blob", ofBlob, "type", []string{ofBlob, helloBlob}},
		{"a commit of a commit", ofCommit, "type", []string{ofCommit, one, tree, helloBlob}},
		{"a parent that is a tree", commitOf("m", tree, tree), "type", []string{commitOf("m", tree, tree), tree, helloBlob}},
		{"a parent that is a blob", commitOf("m", tree, helloBlob), "type", []string{commitOf("m", tree, helloBlob), tree, helloBlob}},
		{"a second parent that is a tree", commitOf("m", tree, one, tree), "type", []string{commitOf("m", tree, one, tree), one, tree, helloBlob}},
		{"a tree with a commit", hidden, "type", []string{hidden, withCommit, one, tree, helloBlob}},
		{"a tree with a commit below another", commitOf("m", below), "type", []string{commitOf("m", below), below, emptyTree, withCommit, one, tree, helloBlob}},
		{"a parent of a wrong tree", commitOf("m", tree, hidden), "type", []string{commitOf("m", tree, hidden), hidden, withCommit, one, tree, helloBlob}},
		{"a parent of a blob", commitOf("m", tree, ofBlob), "type", []string{commitOf("m", tree, ofBlob), ofBlob, tree, helloBlob}},

		{"two texts of one id", one, "clash", []string{one, tree, helloBlob, twinBlob, twinOther}},
		{"clash ahead of missing", one, "clash", []string{twinBlob, one, twinOther}},
		{"clash ahead of type", helloBlob, "clash", []string{twinOther, helloBlob, twinBlob, twinOther}},
		{"one text of that id, twice", one, "ok", []string{one, tree, helloBlob, twinOther, twinOther}},
	} {
		for _, forward := range []bool{false, true} {
			s := New(forward, 12)
			wantPushed(t, s, c.what, create(c.text, "refs/m"), c.word, c.objects...)
			left := "ok"
			if c.word != "ok" {
				left = "missing"
			}
			wantPushed(t, s, c.what+": and what is left of it", create(c.text, "refs/n"), left)
			s.Stop()
		}
	}
}

func TestStale(t *testing.T) {
	one, two := commitOf("one", emptyTree), commitOf("two", emptyTree)
	s := New(true, 9)
	defer s.Stop()
	wantPushed(t, s, "of a ref that is not there", turn(one, two, "refs/m"), "stale", one, two, emptyTree)
	wantPushed(t, s, "the first", create(one, "refs/m"), "ok", one, emptyTree)
	wantPushed(t, s, "of a ref that is there", create(one, "refs/m"), "stale")
	wantPushed(t, s, "ahead of the other words", turn(two, "blob gone", "refs/m")+","+turn(two, helloBlob, "refs/n"), "stale stale", helloBlob)
	wantPushed(t, s, "taking away what is another", ID(two)+" 00000000 refs/m", "stale")
	wantPushed(t, s, "taking away what is there as what is not", "00000000 00000000 refs/m", "stale")
	wantPushed(t, s, "clash goes ahead", create(one, "refs/m")+","+create(one, "refs/n"), "clash clash", twinBlob, twinOther)
	wantPushed(t, s, "a longer name is another ref", create(one, "refs/mm"), "ok")
}

func TestTakenAway(t *testing.T) {
	one := commitOf("one", emptyTree)
	s := New(true, 2)
	defer s.Stop()
	wantPushed(t, s, "the first", create(one, "refs/m")+",00000000 00000000 refs/n", "ok ok", one, emptyTree)
	wantPushed(t, s, "taken away", ID(one)+" 00000000 refs/m", "ok")
	wantPushed(t, s, "taken away again", ID(one)+" 00000000 refs/m", "stale")
	wantPushed(t, s, "it was not there and is not", "00000000 00000000 refs/m", "ok")
	wantPushed(t, s, "made again, of what is still in the store", create(one, "refs/m"), "ok")
	wantPushed(t, s, "turned to itself", turn(one, one, "refs/m"), "ok")
	wantPushed(t, s, "in one push taken away and made", ID(one)+" 00000000 refs/m,"+create(one, "refs/n"), "ok ok")
	wantPushed(t, s, "so it was", ID(one)+" 00000000 refs/n,00000000 00000000 refs/m", "ok ok")
}

func TestForward(t *testing.T) {
	one := commitOf("one", emptyTree)
	two := commitOf("two", emptyTree, one)
	other := commitOf("other", emptyTree)
	merge := commitOf("merge", emptyTree, other, two)
	for _, c := range []struct {
		what, from, to, word string
	}{
		{"to its son", one, two, "ok"},
		{"to itself", two, two, "ok"},
		{"past a second parent", one, merge, "ok"},
		{"past a first parent", other, merge, "ok"},
		{"back", two, one, "forward"},
		{"back from a merge", merge, other, "forward"},
		{"aside", two, other, "forward"},
		{"from a ring", ringCommit, two, "forward"},
		{"into a ring", two, ringCommit, "forward"},
		{"type goes ahead", two, helloBlob, "type"},
		{"missing goes ahead", two, "blob gone", "missing"},
	} {
		for _, forward := range []bool{true, false} {
			s := New(forward, 9)
			wantPushed(t, s, c.what, create(c.from, "refs/m"), "ok", one, two, other, merge, ringCommit, emptyTree, helloBlob)
			word := c.word
			if word == "forward" && !forward {
				word = "ok"
			}
			wantPushed(t, s, c.what, turn(c.from, c.to, "refs/m"), word)
			if word != "ok" {
				wantPushed(t, s, c.what+": it stays", ID(c.from)+" 00000000 refs/m", "ok")
			} else {
				wantPushed(t, s, c.what+": it is turned", ID(c.to)+" 00000000 refs/m", "ok")
			}
			s.Stop()
		}
	}
	s := New(true, 9)
	defer s.Stop()
	wantPushed(t, s, "the first", create(one, "refs/m"), "ok", one, emptyTree)
	wantPushed(t, s, "past what waits to what is in the store", turn(one, merge, "refs/m"), "ok", merge, two, other)
}

func TestRoom(t *testing.T) {
	one := commitOf("one", emptyTree)
	two := commitOf("two", emptyTree, one)
	for _, c := range []struct {
		room int
		word string
	}{{-1 << 63, "room"}, {-1, "room"}, {0, "room"}, {2, "room"}, {3, "ok"}, {4, "ok"}, {1<<63 - 1, "ok"}} {
		s := New(false, c.room)
		wantPushed(t, s, "nothing needs no room", "00000000 00000000 refs/n", "ok")
		wantPushed(t, s, "three", create(one, "refs/m")+","+create(one, "refs/n"), c.word+" "+c.word, one, emptyTree, helloBlob, one, helloBlob)
		s.Stop()
	}
	s := New(true, 4)
	defer s.Stop()
	wantPushed(t, s, "three", create(one, "refs/m"), "ok", one, emptyTree, helloBlob)
	wantPushed(t, s, "two more", turn(one, two, "refs/m")+","+create(one, "refs/n"), "room room", two, "blob more")
	wantPushed(t, s, "another word goes ahead", create(two, "refs/m")+","+create(one, "refs/n"), "stale aborted", two, "blob more")
	wantPushed(t, s, "clash goes ahead", turn(one, two, "refs/m"), "clash", two, twinBlob, twinOther)
	wantPushed(t, s, "those in the store need none", turn(one, two, "refs/m"), "ok", helloBlob, two, emptyTree, one, two)
	wantPushed(t, s, "it is full", turn(two, two, "refs/m"), "room", "blob more")
	wantPushed(t, s, "full, but nothing new comes", ID(two)+" 00000000 refs/m", "ok", two, one)
}

func TestClashWithTheStore(t *testing.T) {
	one := commitOf("one", emptyTree)
	s := New(false, 9)
	defer s.Stop()
	wantPushed(t, s, "the first", create(one, "refs/m"), "ok", one, emptyTree, twinBlob)
	wantPushed(t, s, "the other text", ID(one)+" 00000000 refs/m,"+create(one, "refs/n")+","+create(one, "refs/m0"), "clash clash clash", helloBlob, twinOther)
	wantPushed(t, s, "the same text", turn(one, one, "refs/m"), "ok", twinBlob)
	wantPushed(t, s, "both texts", create("blob gone", "refs/m"), "clash", twinBlob, twinOther)
}

func TestAllOrNone(t *testing.T) {
	one, two := commitOf("one", emptyTree), commitOf("two", emptyTree)
	s := New(true, 9)
	defer s.Stop()
	wantPushed(t, s, "words of their own", create(one, "refs/d")+","+create("blob gone", "refs/c")+","+create(emptyTree, "refs/b")+","+create(two, "refs/a"), "aborted missing type aborted", one, two, emptyTree)
	wantPushed(t, s, "all four", create(one, "refs/d")+","+create(two, "refs/c")+","+create(two, "refs/b")+","+create(one, "refs/a"), "ok ok ok ok", one, two, emptyTree)
	wantPushed(t, s, "one of four", turn(one, one, "refs/d")+","+turn(two, one, "refs/c")+",00000000 00000000 refs/e,"+turn(one, two, "refs/b"), "aborted forward aborted stale")
	wantPushed(t, s, "all are as they were", turn(one, one, "refs/d")+","+turn(two, two, "refs/c")+","+turn(two, two, "refs/b")+","+turn(one, one, "refs/a"), "ok ok ok ok")
}

func TestObjectsOfAPushThatTurnsNothing(t *testing.T) {
	one := commitOf("one", emptyTree)
	s := New(false, 9)
	defer s.Stop()
	wantPushed(t, s, "they join the store", "00000000 00000000 refs/m", "ok", one, emptyTree)
	wantPushed(t, s, "and are found there", create(one, "refs/m"), "ok")
}

func TestWhatWaitsIsSeenByItsOwnPushAlone(t *testing.T) {
	one := commitOf("one", emptyTree)
	s := New(false, 9)
	defer s.Stop()
	waiting := s.Open()
	s.Feed(waiting, pushOf(create(one, "refs/m"), one, emptyTree))
	for range 6 {
		if s.Step(waiting) != 1 {
			t.Fatalf("P4: reading and locking")
		}
	}
	wantPushed(t, s, "ahead of the decision", create(one, "refs/n"), "missing", one)
	s.Step(waiting)
	wantReply(t, s, waiting, "")
	wantPushed(t, s, "behind it, ahead of leaving", create(one, "refs/n"), "ok")
	if steps(s, waiting) != 1 {
		t.Errorf("P4: leaving is one step")
	}
	wantReply(t, s, waiting, "unpack ok\nok refs/m\n")
}

func TestDecidedByWhatIsThereThen(t *testing.T) {
	one := commitOf("one", emptyTree)
	s := New(false, 9)
	defer s.Stop()
	early := s.Open()
	s.Feed(early, pushOf(create(one, "refs/m")))
	for range 4 {
		s.Step(early)
	}
	wantPushed(t, s, "what is needed comes by another push", create(one, "refs/n"), "ok", one, emptyTree)
	steps(s, early)
	wantReply(t, s, early, "unpack ok\nok refs/m\n")
}
