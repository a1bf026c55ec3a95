package serve

import (
	"strings"
	"sync"
	"testing"
)

// reading opens a connection with a push of commands that turn nothing, and reads it.
func reading(t *testing.T, s *Server, refs ...string) int {
	t.Helper()
	c := s.Open()
	s.Feed(c, pushOf("00000000 00000000 "+strings.Join(refs, ",00000000 00000000 ")))
	for range len(refs) + 2 {
		wantStep(t, s, c, 1)
	}
	return c
}

func wantStep(t *testing.T, s *Server, c, want int) {
	t.Helper()
	if got := s.Step(c); got != want {
		t.Fatalf("P4: Step(%d) = %d, want %d", c, got, want)
	}
}

func TestLocksInTheOrderOfNames(t *testing.T) {
	names := []string{"refs/b", "refs/a0", "refs/a", "refs/a-"}
	for held, name := range []string{"refs/a", "refs/a-", "refs/a0", "refs/b"} {
		s := New(false, 9)
		holder := reading(t, s, name)
		wantStep(t, s, holder, 1)
		c := reading(t, s, names...)
		for range held {
			wantStep(t, s, c, 1)
		}
		for range 3 {
			wantStep(t, s, c, 0)
			wantReply(t, s, c, "")
		}
		wantStep(t, s, holder, 1)
		wantStep(t, s, c, 0)
		wantStep(t, s, holder, 1)
		for range 4 - held + 2 {
			wantReply(t, s, c, "")
			wantStep(t, s, c, 1)
		}
		wantReply(t, s, c, "unpack ok\nok refs/b\nok refs/a0\nok refs/a\nok refs/a-\n")
		wantFinished(t, s, c)
		s.Stop()
	}
}

func TestOneLockAStep(t *testing.T) {
	for held := range 5 {
		s := New(false, 9)
		c := reading(t, s, "refs/a", "refs/b", "refs/c", "refs/d")
		for range held {
			wantStep(t, s, c, 1)
		}
		for i, name := range []string{"refs/a", "refs/b", "refs/c", "refs/d"} {
			want := 0
			if i >= held {
				want = 1
			}
			wantStep(t, s, reading(t, s, name), want)
		}
		s.Stop()
	}
}

func TestOtherRefsAreFree(t *testing.T) {
	s := New(false, 9)
	defer s.Stop()
	wantStep(t, s, reading(t, s, "refs/a"), 1)
	wantStep(t, s, reading(t, s, "refs/aa"), 1)
	other := New(false, 9)
	defer other.Stop()
	wantStep(t, other, reading(t, other, "refs/a"), 1)
}

func TestLocksAreGivenBack(t *testing.T) {
	for _, c := range []struct {
		what  string
		steps int
		drop  bool
	}{{"dropped with locks", 0, true}, {"dropped behind the decision", 1, true}, {"left", 2, false}} {
		for range 100 { // they are free when the call answers, not a moment later
			wantGivenBack(t, c.what, c.steps, c.drop)
		}
	}
}

// wantGivenBack lets a connection that holds two locks do some steps more and perhaps be dropped: then its locks, and only these, are free.
func wantGivenBack(t *testing.T, what string, steps int, drop bool) {
	t.Helper()
	s := New(false, 9)
	defer s.Stop()
	holder := reading(t, s, "refs/a", "refs/b")
	wantStep(t, s, holder, 1)
	wantStep(t, s, holder, 1)
	first, second, third, fourth := reading(t, s, "refs/a"), reading(t, s, "refs/b"), reading(t, s, "refs/c"), reading(t, s, "refs/c")
	wantStep(t, s, first, 0)
	wantStep(t, s, second, 0)
	wantStep(t, s, third, 1)
	for range steps {
		wantStep(t, s, holder, 1)
	}
	if s.Drop(holder) != drop {
		t.Fatalf("P7: %s: Drop", what)
	}
	if s.Step(first) != 1 || s.Step(second) != 1 {
		t.Fatalf("P7: %s: locks are held on", what)
	}
	wantStep(t, s, fourth, 0)
	wantFinished(t, s, holder)
}

func TestDroppedWhileItWaits(t *testing.T) {
	s := New(false, 9)
	defer s.Stop()
	holder := reading(t, s, "refs/b")
	wantStep(t, s, holder, 1)
	waiting := reading(t, s, "refs/a", "refs/b")
	wantStep(t, s, waiting, 1)
	wantStep(t, s, waiting, 0)
	if !s.Drop(waiting) {
		t.Errorf("P7: Drop of a connection that waits for a lock")
	}
	wantStep(t, s, reading(t, s, "refs/a"), 1)
	wantStep(t, s, reading(t, s, "refs/b"), 0)
	wantReply(t, s, waiting, "")
}

func TestRefusedPushesHoldNothing(t *testing.T) {
	s := New(false, 9)
	defer s.Stop()
	c := s.Open()
	s.Feed(c, pushOf("00000000 00000000 refs/a")+"x")
	steps(s, c)
	wantReply(t, s, c, "unpack behind\n")
	wantStep(t, s, reading(t, s, "refs/a"), 1)
}

func TestDecidedStays(t *testing.T) {
	one := commitOf("one", emptyTree)
	for done := 5; done < 9; done++ {
		s := New(false, 9)
		c := s.Open()
		s.Feed(c, pushOf(create(one, "refs/m"), one, emptyTree))
		for range done {
			wantStep(t, s, c, 1)
		}
		if dropped := s.Drop(c); dropped != (done < 8) {
			t.Errorf("P7: Drop behind %d steps: %v", done, dropped)
		}
		word := "missing"
		if done >= 7 {
			word = "stale"
		}
		wantPushed(t, s, "what was decided", create(one, "refs/m"), word)
		s.Stop()
	}
}

func TestInputBehindTheSecondFlush(t *testing.T) {
	s := New(false, 9)
	defer s.Stop()
	c := reading(t, s, "refs/a")
	for range 2 {
		if !s.Feed(c, "000g") {
			t.Errorf("P3: Feed ahead of the end")
		}
		wantStep(t, s, c, 1)
	}
	if !s.End(c) || s.Feed(c, "") {
		t.Errorf("P3: End ahead of leaving")
	}
	wantStep(t, s, c, 1)
	wantFinished(t, s, c)
	wantReply(t, s, c, "unpack ok\nok refs/a\n")
}

func TestStopWithLocks(t *testing.T) {
	s := New(false, 9)
	left := reading(t, s, "refs/z")
	steps(s, left)
	decided := reading(t, s, "refs/a")
	wantStep(t, s, decided, 1)
	wantStep(t, s, decided, 1)
	waiting := reading(t, s, "refs/a")
	wantStep(t, s, waiting, 0)
	s.Stop()
	for _, c := range []int{left, decided, waiting} {
		wantFinished(t, s, c)
	}
	wantReply(t, s, left, "unpack ok\nok refs/z\n")
	wantReply(t, s, decided, "")
	wantReply(t, s, waiting, "")
}

// A lock that is given back by Stop goes to nobody: all are dropped by it at once.
func TestStopAtOneTimeWithSteps(t *testing.T) {
	for range 20 {
		s := New(false, 9)
		wantStep(t, s, reading(t, s, "refs/a"), 1)
		var drivers, ready sync.WaitGroup
		for c := 1; c < 8; c++ {
			reading(t, s, "refs/a")
			ready.Add(1)
			drivers.Go(func() {
				s.Step(c)
				ready.Done()
				for {
					switch s.Step(c) {
					case 1:
						t.Errorf("P10: connection %d got a lock", c)
					case -1:
						return
					}
				}
			})
		}
		ready.Wait()
		s.Stop()
		drivers.Wait()
	}
}

func TestDecisionsAtOneTime(t *testing.T) {
	for range 200 {
		s := New(false, 5) // for a tree and four commits
		var drivers sync.WaitGroup
		for c := range 8 {
			name := string(rune('a' + c))
			one := commitOf(name, emptyTree)
			s.Open()
			s.Feed(c, pushOf(create(one, "refs/"+name), one, emptyTree))
			for range 6 {
				wantStep(t, s, c, 1)
			}
		}
		for c := range 8 {
			drivers.Go(func() { steps(s, c) })
		}
		drivers.Wait()
		words := map[string]int{}
		for c := range 8 {
			reply, _ := s.Reply(c)
			words[strings.Fields(reply)[2]]++
		}
		s.Stop()
		if words["ok"] != 4 || words["ng"] != 4 {
			t.Fatalf("P6: eight decisions at one time: %v", words)
		}
	}
}

func TestOneOfEightWins(t *testing.T) {
	one := commitOf("one", emptyTree)
	for range 50 {
		s := New(true, 9)
		var replies [8]string
		var drivers sync.WaitGroup
		for c := range replies {
			s.Open()
			commands := []string{create(one, "refs/a"), create(one, "refs/b"), create(one, "refs/c")}
			commands[0], commands[c%3] = commands[c%3], commands[0]
			s.Feed(c, pushOf(strings.Join(commands, ","), one, emptyTree))
			drivers.Go(func() {
				for range 1 << 18 { // enough, if locks are given back
					if s.Step(c) < 0 {
						break
					}
				}
				replies[c], _ = s.Reply(c)
			})
		}
		drivers.Wait()
		s.Stop()
		won := 0
		for _, reply := range replies {
			switch {
			case strings.Count(reply, "\nok refs/") == 3:
				won++
			case strings.Count(reply, " stale\n") != 3:
				t.Fatalf("P6: eight at once: %q", replies)
			}
		}
		if won != 1 {
			t.Fatalf("P6: %d of eight won: %q", won, replies)
		}
	}
}
