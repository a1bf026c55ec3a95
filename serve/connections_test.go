package serve

import (
	"runtime"
	"strings"
	"testing"
	"time"
)

// refused opens a connection that finishes by itself in its first step.
func refused(s *Server) int {
	c := s.Open()
	s.Feed(c, "000g")
	s.Step(c)
	return c
}

// wantFinished tells if a connection does anything that a finished one does not.
func wantFinished(t *testing.T, s *Server, c int) {
	t.Helper()
	if s.Feed(c, "") || s.Feed(c, "x") || s.End(c) || s.Drop(c) || s.Step(c) != -1 {
		t.Errorf("connection %d has not finished", c)
	}
}

func wantReply(t *testing.T, s *Server, c int, want string) {
	t.Helper()
	if got, ok := s.Reply(c); got != want || ok != (want != "") {
		t.Errorf("P8: Reply(%d) = %q, %v, want %q", c, got, ok, want)
	}
}

func TestEightConnections(t *testing.T) {
	s := New(false, 9)
	defer s.Stop()
	wantFinished(t, s, 0)
	for want := range 8 {
		if c := s.Open(); c != want {
			t.Fatalf("P3: Open() = %d, want %d", c, want)
		}
		s.Drop(want)
	}
	for range 2 {
		if c := s.Open(); c != -1 {
			t.Errorf("P3: Open() = %d behind eight", c)
		}
	}
	other := New(false, 9)
	defer other.Stop()
	if c := other.Open(); c != 0 {
		t.Errorf("P3: another server's Open() = %d", c)
	}
}

func TestNoSuchConnection(t *testing.T) {
	s := New(true, -1)
	defer s.Stop()
	s.Open()
	for _, c := range []int{-1, 1, 7, 8, 1<<63 - 1, -1 << 63} {
		wantFinished(t, s, c)
		wantReply(t, s, c, "")
	}
	if s.Step(0) != 0 || !s.Feed(0, "x") {
		t.Errorf("P3: what was asked of no connection reached connection 0")
	}
}

func TestNewServerIsEmpty(t *testing.T) {
	for _, room := range []int{-1 << 63, -1, 0, 1, 1<<63 - 1} {
		s := New(true, room)
		if refs := s.Refs(); len(refs) != 0 {
			t.Errorf("P3: refs of a new server: %v", refs)
		}
		if text, ok := s.Object(ID("blob a")); text != "" || ok {
			t.Errorf("P3: an object of a new server: %q", text)
		}
		s.Stop()
	}
}

func TestSixHundredBytes(t *testing.T) {
	command := Packet("00000000 12345678 refs/m") + "0000"
	blob := Packet("blob " + strings.Repeat("x", 40))
	s := New(false, 9)
	defer s.Stop()
	s.Open()
	if s.Feed(0, strings.Repeat("x", 601)) || !s.Feed(0, command) || s.Step(0) != 1 || s.Step(0) != 1 {
		t.Fatalf("P3: a Feed that was refused left something")
	}
	left := 600 - len(command)
	for ; left >= len(blob); left -= len(blob) {
		if !s.Feed(0, blob) || s.Step(0) != 1 {
			t.Fatalf("P3: with %d bytes left", left)
		}
	}
	if s.Feed(0, strings.Repeat("x", left+1)) || !s.Feed(0, strings.Repeat("0", left)) || s.Feed(0, "0") || !s.Feed(0, "") {
		t.Errorf("P3: what has been read counts, too")
	}
	s.Open()
	if !s.Feed(1, strings.Repeat("0", 600)) || s.Feed(1, "0") {
		t.Errorf("P3: 600 bytes at once")
	}
}

func TestEnd(t *testing.T) {
	s := New(false, 9)
	defer s.Stop()
	s.Open()
	if !s.Feed(0, "00") || !s.End(0) || !s.End(0) || s.Feed(0, "00") || s.Feed(0, "") {
		t.Errorf("P3: behind End")
	}
	wantReply(t, s, 0, "")
	if s.Step(0) != 1 {
		t.Errorf("P4: the end of the input is a step")
	}
	wantFinished(t, s, 0)
	wantReply(t, s, 0, "unpack packet\n")
}

func TestConnectionsAreApart(t *testing.T) {
	s := New(false, 9)
	defer s.Stop()
	s.Open()
	s.Open()
	s.Feed(0, "00")
	s.Feed(1, "05x")
	s.Feed(0, "05x")
	if s.Step(0) != 1 || s.Step(1) != 0 {
		t.Errorf("P3: inputs are mixed up")
	}
	wantReply(t, s, 0, "unpack command\n")
	s.End(0)
	if s.Step(1) != 0 || !s.Feed(1, "x") || s.Step(1) != 1 {
		t.Errorf("P3: what one connection does reaches another")
	}
	wantReply(t, s, 1, "unpack packet\n")
}

func TestDrop(t *testing.T) {
	const push = "001c00000000 12345678 refs/m0000000ablob a0000"
	for steps := range 5 {
		s := New(false, 9)
		s.Open()
		s.Open()
		s.Feed(0, push)
		for range steps {
			s.Step(0)
		}
		if !s.Drop(0) {
			t.Errorf("P7: Drop behind %d steps", steps)
		}
		wantFinished(t, s, 0)
		wantReply(t, s, 0, "")
		if text, ok := s.Object(ID("blob a")); text != "" || ok || len(s.Refs()) != 0 {
			t.Errorf("P7: what waited is there behind %d steps: %q", steps, text)
		}
		if s.Step(1) != 0 || !s.Feed(1, push) || s.Step(1) != 1 {
			t.Errorf("P7: another connection was cut off, too")
		}
		s.Stop()
	}
}

func TestDropBehindTheReply(t *testing.T) {
	s := New(false, 9)
	defer s.Stop()
	c := refused(s)
	wantFinished(t, s, c)
	wantReply(t, s, c, "unpack packet\n")
	wantReply(t, s, c, "unpack packet\n")
}

func TestStop(t *testing.T) {
	s := New(false, 9)
	refused(s)
	for range 3 {
		s.Open()
	}
	s.Feed(1, "001c00000000 12345678 refs/m00000000")
	for range 3 {
		s.Step(1)
	}
	s.Drop(2)
	s.End(3)
	for range 2 {
		s.Stop()
		for c := range 5 {
			wantFinished(t, s, c)
		}
		wantReply(t, s, 0, "unpack packet\n")
		for c := 1; c < 5; c++ {
			wantReply(t, s, c, "")
		}
		if c := s.Open(); c != -1 {
			t.Errorf("P10: Open() = %d behind Stop", c)
		}
		if text, ok := s.Object("12345678"); text != "" || ok || len(s.Refs()) != 0 {
			t.Errorf("P10: something is there behind Stop")
		}
	}
}

// goroutinesFall waits until there are no more goroutines than that: one that has told its end may need a moment to be gone.
func goroutinesFall(to int) bool {
	for range 1000 {
		if runtime.NumGoroutine() <= to {
			return true
		}
		time.Sleep(time.Millisecond)
	}
	return false
}

func TestGoroutinesEnd(t *testing.T) {
	before := runtime.NumGoroutine()
	s := New(false, 9)
	refused(s)
	s.Open()
	s.Drop(1)
	if !goroutinesFall(before) {
		t.Errorf("the goroutine of a connection that has finished lives on")
	}
	for s.Open() >= 0 {
	}
	open := runtime.NumGoroutine()
	s.End(5)
	s.Step(4)
	s.Stop()
	if !goroutinesFall(open - 6) {
		t.Errorf("P10: of the goroutines of six connections some live on behind Stop, or never were")
	}
}
