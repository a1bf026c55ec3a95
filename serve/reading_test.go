package serve

import (
	"strings"
	"testing"
)

const (
	commandM = "001c00000000 12345678 refs/m"
	commandN = "001c12345678 00000000 refs/n"
	commandO = "001c00000000 00000000 refs/o"
	commandP = "001cffffffff ffffffff refs/p"
	blobA    = "000ablob a"
)

// steps lets a connection do all the steps that it can do now.
func steps(s *Server, c int) int {
	done := 0
	for s.Step(c) == 1 {
		done++
	}
	return done
}

// pushed feeds one connection in pieces of that size, stepping between them, and ends its input; it gives the steps done and the reply.
func pushed(in string, piece int) (int, string) {
	s := New(false, 9)
	defer s.Stop()
	c := s.Open()
	done := 0
	for len(in) > 0 {
		n := min(piece, len(in))
		s.Feed(c, in[:n])
		in = in[n:]
		done += steps(s, c)
	}
	s.End(c)
	done += steps(s, c)
	reply, _ := s.Reply(c)
	return done, reply
}

func TestWords(t *testing.T) {
	four := commandM + commandN + commandO + commandP
	twelve := commandM + "0000" + strings.Repeat(blobA, 12)
	long := strings.Repeat("x", 201)
	for _, c := range []struct {
		in   string
		done int
		word string
	}{
		{"", 1, "packet"},
		{"g", 1, "packet"},
		{"000", 1, "packet"},
		{"000g", 1, "packet"},
		{"000A", 1, "packet"},
		{"000Ablob a", 1, "packet"},
		{"001C" + commandM[4:], 1, "packet"},
		{"+005x", 1, "packet"},
		{"0x05x", 1, "packet"},
		{"0_05x", 1, "packet"},
		{"0001", 1, "packet"},
		{"0004", 1, "packet"},
		{"00cd" + long, 1, "packet"},
		{"0100" + long, 1, "packet"},
		{"1000" + long, 1, "packet"},
		{"ffff" + long, 1, "packet"},
		{"0005", 1, "packet"},
		{"0006x", 1, "packet"},
		{commandM[:27], 1, "packet"},
		{commandM, 2, "packet"},
		{commandM + "00", 2, "packet"},
		{commandM + "0004", 2, "packet"},
		{commandM + "0000", 3, "packet"},
		{commandM + "0000" + blobA, 4, "packet"},
		{commandM + "0000" + blobA[:9], 3, "packet"},
		{commandM + "0000" + blobA + "000", 4, "packet"},
		{commandM + "0000" + blobA + "000x", 4, "packet"},
		{four, 5, "packet"},
		{four + "000x", 5, "packet"},
		{four + "0005", 5, "packet"},
		{twelve + "000", 15, "packet"},
		{twelve + "0004", 15, "packet"},
		{twelve + "0006x", 15, "packet"},

		{four + "0005x", 5, "many"},
		{four + commandM, 5, "many"},
		{four + "001c00000000 12345678 refs/q", 5, "many"},
		{twelve + blobA, 15, "many"},
		{twelve + "0005x", 15, "many"},

		{"0000", 1, "command"},
		{"00000000", 1, "command"},
		{"0005x", 1, "command"},
		{"00cc" + long[:200], 1, "command"},
		{blobA, 1, "command"},
		{commandM + blobA, 2, "command"},
		{Packet("12345678 refs/m"), 1, "command"},
		{Packet("00000000 12345678"), 1, "command"},
		{Packet("00000000 12345678 "), 1, "command"},
		{Packet("00000000 12345678 refs/"), 1, "command"},
		{Packet("00000000 12345678 refs/abcdefghijklm"), 1, "command"},
		{Packet("00000000 12345678 refs/M"), 1, "command"},
		{Packet("00000000 12345678 refs/m_"), 1, "command"},
		{Packet("00000000 12345678 refs/a/b"), 1, "command"},
		{Packet("00000000 12345678 refs/\xe4"), 1, "command"},
		{Packet("00000000 12345678 Refs/m"), 1, "command"},
		{Packet("00000000 12345678 refs-m"), 1, "command"},
		{Packet("00000000 12345678 m"), 1, "command"},
		{Packet("00000000 12345678 refs/m "), 1, "command"},
		{Packet("00000000 12345678 refs/m\n"), 1, "command"},
		{Packet(" 00000000 12345678 refs/m"), 1, "command"},
		{Packet("00000000  12345678 refs/m"), 1, "command"},
		{Packet("00000000 12345678  refs/m"), 1, "command"},
		{Packet("00000000\t12345678 refs/m"), 1, "command"},
		{Packet("0000000 12345678 refs/m"), 1, "command"},
		{Packet("00000000 123456789 refs/m"), 1, "command"},
		{Packet("0000000A 12345678 refs/m"), 1, "command"},
		{Packet("00000000 1234567g refs/m"), 1, "command"},
		{commandM + Packet("00000000 1234567g refs/m"), 2, "command"},

		{commandM + commandM, 2, "twice"},
		{commandM + commandN + commandO + "001cffffffff 00000000 refs/m", 4, "twice"},
		{commandM + commandN + commandN, 3, "twice"},

		{commandM + "00000005x", 3, "object"},
		{commandM + "0000" + commandN, 3, "object"},
		{commandM + "0000" + blobA + Packet("blob"), 4, "object"},
		{commandM + "0000" + Packet("blob a\n"), 3, "object"},
		{commandM + "0000" + Packet("blob ibfipbv"), 3, "object"},
		{commandM + "0000" + Packet("tree a=00000000"), 3, "object"},
		{commandM + "0000" + strings.Repeat(blobA, 11) + "0005x", 14, "object"},
		{commandM + "0000" + Packet(long[:200]), 3, "object"},
	} {
		for _, piece := range []int{1, 2, 3, 5, 600} {
			done, reply := pushed(c.in, piece)
			if done != c.done || reply != "unpack "+c.word+"\n" {
				t.Errorf("P5: %.80q in pieces of %d: %d steps, %q, want %d, %q", c.in, piece, done, reply, c.done, c.word)
			}
		}
	}
}

func TestNoMoreThanReadingIsRefused(t *testing.T) {
	for _, c := range []struct {
		in   string
		done int
	}{
		{commandM + "00000000", 3},
		{commandM + "0000" + blobA + "0000", 4},
		{commandM + commandN + commandO + commandP + "00000000", 6},
		{commandM + "0000" + strings.Repeat(blobA, 12) + "0000", 15},
		{Packet("00000000 00000000 refs/abcdefghijkl") + Packet("12345678 9abcdef0 refs/-0123456789z") + "00000000", 4},
		{Packet("00000000 00000000 refs/m") + Packet("00000000 00000000 refs/mm") + "00000000", 4},
		{commandM + "0000" + Packet("tree a=12345678,b=9abcdef0") + Packet("commit 12345678 - ") + "0000", 5},
	} {
		s := New(false, 9)
		s.Open()
		for done := range c.done {
			if done == 0 {
				s.Feed(0, c.in)
			}
			if k := s.Step(0); k != 1 {
				t.Fatalf("P4: %.80q: Step() = %d behind %d steps", c.in, k, done)
			}
			wantReply(t, s, 0, "")
		}
		s.Stop()
	}
}

func TestLongestPacket(t *testing.T) {
	var entries []string
	for _, name := range strings.Fields("aaa b c d e f g h i j k l m n o p qqqqqqqq") {
		entries = append(entries, name+"=12345678")
	}
	text := "tree " + strings.Join(entries, ",")
	if ids, ok := Look(text); len(text) != 200 || len(ids) != 17 || !ok {
		t.Fatalf("P2: a tree of %d bytes: %q, %v", len(text), ids, ok)
	}
	done, reply := pushed(commandM+"0000"+Packet(text), 600)
	if done != 4 || reply != "unpack packet\n" {
		t.Errorf("P5: a packet of 204 bytes: %d steps, %q", done, reply)
	}
}

func TestBehind(t *testing.T) {
	const whole = commandM + "0000" + blobA + "0000"
	for _, more := range []string{"0", "x", "0000", blobA, "\x00"} {
		s := New(false, 9)
		s.Open()
		s.Feed(0, whole+more)
		if done := steps(s, 0); done != 4 {
			t.Errorf("P5: %q behind the push: %d steps", more, done)
		}
		wantReply(t, s, 0, "unpack behind\n")
		wantFinished(t, s, 0)
		s.Stop()
	}
}

func TestFedBehindTheSecondFlush(t *testing.T) {
	s := New(false, 9)
	defer s.Stop()
	s.Open()
	s.Feed(0, commandM+"0000"+blobA+"0000")
	for range 4 {
		s.Step(0)
	}
	if !s.Feed(0, "x") || !s.End(0) || s.Feed(0, "x") {
		t.Errorf("P3: behind the second flush")
	}
	s.Step(0)
	if reply, _ := s.Reply(0); strings.HasPrefix(reply, "unpack behind") || strings.HasPrefix(reply, "unpack packet") {
		t.Errorf("P5: what is fed later is looked at: %q", reply)
	}
}

func TestSeenAsSoonAsItsDigitsAreThere(t *testing.T) {
	for _, c := range []struct {
		in   string
		step int
	}{
		{"", 0}, {"g", 0}, {"ggg", 0}, {"000", 0}, {"00c", 0},
		{"gggg", 1}, {"000A", 1}, {"0004", 1}, {"00cd", 1}, {"ffff", 1}, {"0000", 1},
		{"0005", 0}, {"0005x", 1}, {"00cc", 0}, {"00cc" + strings.Repeat("x", 199), 0}, {"00cc" + strings.Repeat("x", 200), 1},
	} {
		s := New(false, 9)
		s.Open()
		s.Feed(0, c.in)
		if k := s.Step(0); k != c.step {
			t.Errorf("P4: %.20q: Step() = %d, want %d", c.in, k, c.step)
		}
		if _, finished := s.Reply(0); finished != (c.step == 1) {
			t.Errorf("P4: %.20q: finished: %v", c.in, finished)
		}
		s.Stop()
	}
}

func TestPacketsThatAreNotWholeWait(t *testing.T) {
	s := New(false, 9)
	defer s.Stop()
	s.Open()
	whole := commandM + commandN + "0000" + blobA + "0000"
	edges := map[int]int{28: 1, 56: 1, 60: 1, 70: 1, 74: 1}
	for i := range len(whole) {
		s.Feed(0, whole[i:i+1])
		if k := s.Step(0); k != edges[i+1] {
			t.Errorf("P4: behind %d bytes Step() = %d", i+1, k)
		}
		if i+1 < len(whole) && s.Step(0) != 0 {
			t.Errorf("P4: behind %d bytes a second step", i+1)
		}
		wantReply(t, s, 0, "")
	}
}

func TestObjectsWaitUnseen(t *testing.T) {
	s := New(false, 9)
	defer s.Stop()
	s.Open()
	s.Feed(0, commandM+"0000"+blobA+"0000")
	for range 4 {
		s.Step(0)
		if text, ok := s.Object(ID("blob a")); text != "" || ok || len(s.Refs()) != 0 {
			t.Errorf("P4: what waits is seen: %q", text)
		}
	}
}
