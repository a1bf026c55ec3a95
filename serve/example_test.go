package serve_test

import (
	"fmt"

	"refserve/serve"
)

func Example() {
	s := serve.New(true, 40)
	c := s.Open()
	tree := "tree "
	commit := "commit " + serve.ID(tree) + " - first"
	s.Feed(c, serve.Packet("00000000 "+serve.ID(commit)+" refs/m")+"0000")
	s.Feed(c, serve.Packet(tree)+serve.Packet(commit)+"0000")
	for s.Step(c) == 1 {
	}
	reply, ok := s.Reply(c)
	fmt.Println(reply, ok)
	for _, ref := range s.Refs() {
		fmt.Println(ref.Name, ref.ID)
		for id := range s.Reach(ref.ID) {
			fmt.Println(s.Object(id))
		}
	}
	s.Stop()
	// Output: unpack ok
	// ok refs/m
	//  true
	// refs/m b8aabf4a
	// commit 67245daf - first true
	// tree  true
}
