package serve

import (
	"fmt"
	"strings"
	"sync"
	"testing"
)

// numbers gives the same numbers each time: tests have no random source either.
func numbers(seed uint32) func(below int) int {
	return func(below int) int {
		seed = seed*1664525 + 1013904223
		return int(seed>>8) % below
	}
}

// anyInput makes something that is nearly a push.
func anyInput(next func(int) int) string {
	pieces := []string{commandM, commandN, commandO, commandP, "0000", "0000", "0000", blobA, blobA, Packet("tree "), Packet("commit 12345678 - m"), "0005x", "000", "0004", "00cd", "x", "\xff\x00"}
	in := ""
	for range next(9) {
		in += pieces[next(len(pieces))]
	}
	return in
}

func TestPiecesDoNotMatter(t *testing.T) {
	next := numbers(1)
	for range 2000 {
		in := anyInput(next)
		done, reply := pushed(in, 600)
		// What comes behind a push only counts if it is there in time; so one that has it is not to be split.
		if reply == "unpack behind\n" || reply == "" {
			continue
		}
		piece := 1 + next(12)
		if againDone, again := pushed(in, piece); againDone != done || again != reply {
			t.Errorf("P1: %q: %d steps, %q; in pieces of %d: %d, %q", in, done, reply, piece, againDone, again)
		}
	}
}

// anyID gives an id, or what is nearly one.
func anyID(next func(int) int) string {
	ids := []string{ID("blob a"), ID("tree "), ID("commit 12345678 - m"), "12345678", nothing, "", "x"}
	return ids[next(len(ids))]
}

// anyCalls asks a server for many things and tells what it answered.
func anyCalls(s *Server, seed uint32) string {
	next := numbers(seed)
	var told strings.Builder
	for range 60 {
		c := next(11) - 1
		switch next(11) {
		case 0:
			fmt.Fprint(&told, s.Open())
		case 1, 2:
			fmt.Fprint(&told, s.Feed(c, anyInput(next)))
		case 3:
			fmt.Fprint(&told, s.End(c))
		case 4, 5, 6:
			fmt.Fprint(&told, s.Step(c))
		case 7:
			fmt.Fprint(&told, s.Drop(c))
		case 8:
			fmt.Fprint(&told, s.Refs(), ID(anyInput(next)))
		case 9:
			text, ok := s.Object(anyID(next))
			fmt.Fprint(&told, text, ok)
		case 10:
			for id := range s.Reach(anyID(next)) {
				fmt.Fprint(&told, id, s.Refs())
			}
		}
		fmt.Fprintln(&told)
	}
	s.Stop()
	for c := range 9 {
		reply, ok := s.Reply(c)
		fmt.Fprintln(&told, c, s.Step(c), reply, ok)
	}
	return told.String()
}

func TestAnswersAreTheSame(t *testing.T) {
	for seed := range uint32(300) {
		first := anyCalls(New(false, 9), seed)
		if second := anyCalls(New(false, 9), seed); second != first {
			t.Errorf("P1: calls of %d answer differently", seed)
		}
	}
}

// drive pushes by one connection, to its end, and tells all its answers.
func drive(s *Server, c int, in string) string {
	var told strings.Builder
	for i := range len(in) {
		fmt.Fprint(&told, s.Feed(c, in[i:i+1]), s.Step(c))
	}
	fmt.Fprint(&told, s.End(c), steps(s, c))
	reply, ok := s.Reply(c)
	fmt.Fprint(&told, reply, ok)
	return told.String()
}

// ownPush makes a push whose answers don't hang on what others push: its refs and its commit are its own.
func ownPush(c int) string {
	name := string(rune('a' + c))
	one := commitOf(name, emptyTree)
	return pushOf(create(one, "refs/"+name)+","+turn(one, one, "refs/"+name+name), one, emptyTree)
}

func TestManyDrivers(t *testing.T) {
	var inputs, want [8]string
	next := numbers(7)
	alone := New(false, 9)
	for c := range inputs {
		inputs[c] = ownPush(c)
		if c%4 == 3 {
			inputs[c] = anyInput(next) + "x"
		}
		alone.Open()
		want[c] = drive(alone, c, inputs[c])
	}
	alone.Stop()
	for range 50 {
		s := New(false, 9)
		var got [8]string
		var drivers sync.WaitGroup
		for c := range got {
			s.Open()
			drivers.Go(func() { got[c] = drive(s, c, inputs[c]) })
		}
		drivers.Wait()
		s.Stop()
		if got != want {
			t.Fatalf("P1: eight drivers at once: %q, want %q", got, want)
		}
	}
}

func TestCallsAtOneTime(t *testing.T) {
	for seed := range uint32(30) {
		s := New(true, 3)
		var callers sync.WaitGroup
		for i := range uint32(4) {
			callers.Go(func() { anyCalls(s, seed*4+i) })
		}
		callers.Wait()
		for c := range 8 {
			wantFinished(t, s, c)
		}
	}
}

func TestServersThatNewDidNotMake(t *testing.T) {
	var none *Server
	if c := none.Open(); c != -1 {
		t.Errorf("P1: a nil server's Open() = %d", c)
	}
	anyCalls(none, 1)
	wantFinished(t, none, 0)
	wantReply(t, none, 0, "")
	var zero Server
	if c := zero.Open(); c != 0 {
		t.Errorf("P1: a zero server's Open() = %d", c)
	}
	anyCalls(&zero, 2)
	wantFinished(t, &zero, 0)
}

func TestLongTexts(t *testing.T) {
	s := New(false, 9)
	defer s.Stop()
	s.Open()
	for _, part := range []string{"x", "blob ", "tree a=12345678,", "commit 12345678 ", "+", "0000", "\xff"} {
		text := strings.Repeat(part, 1<<20)
		if len(ID(text)) != 8 || Packet(text) != "" || s.Feed(0, text) {
			t.Errorf("P1: a long text of %q", part)
		}
		if ids, ok := Look(text); ids != nil || ok {
			t.Errorf("P2: Look at a long text of %q: %d ids", part, len(ids))
		}
		for _, head := range []string{"blob ", "tree ", "commit 12345678 ", "commit 12345678 - "} {
			if ids, ok := Look(head + text); ids != nil || ok {
				t.Errorf("P2: Look at %q and a long text of %q: %d ids", head, part, len(ids))
			}
		}
	}
}
