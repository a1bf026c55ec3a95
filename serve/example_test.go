package serve_test

import (
	"fmt"

	"refserve/serve"
)

func Example() {
	s := serve.New(true, 40)
	c := s.Open()
	s.Feed(c, serve.Packet("00000000 12345678 refs/m")+"0000")
	s.Feed(c, serve.Packet("blob a"))
	s.End(c)
	for s.Step(c) == 1 {
	}
	fmt.Println(s.Reply(c))
	s.Stop()
	// Output: unpack packet
	//  true
}
