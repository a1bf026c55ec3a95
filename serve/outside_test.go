package serve_test

import (
	"slices"
	"testing"

	"refserve/plain"
	"refserve/serve"
)

func TestAskedFromOutside(t *testing.T) {
	tree := "tree "
	one := "commit " + serve.ID(tree) + " - one"
	two := "commit " + serve.ID(tree) + " " + serve.ID(one) + " two"
	s := serve.New(true, 3)
	c := s.Open()
	s.Feed(c, serve.Packet("00000000 "+serve.ID(two)+" refs/m")+"0000")
	s.Feed(c, serve.Packet(one)+serve.Packet(two)+serve.Packet(tree)+"0000")
	for s.Step(c) == 1 {
	}
	s.Stop()
	all := []string{serve.ID(two), serve.ID(tree), serve.ID(one)}
	for left, want := range map[int][]string{0: all, 1: all[:1], 2: all[:2], 3: all, 4: all} {
		if got := plain.Reached(s, serve.ID(two), left); !slices.Equal(got, want) {
			t.Errorf("P9: left behind %d: %q, want %q", left, got, want)
		}
	}
	if got := plain.Reached(s, "00000000", 0); len(got) != 0 {
		t.Errorf("P9: of nothing: %q", got)
	}
}
