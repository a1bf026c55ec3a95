package push

import (
	"errors"
	"strings"
	"testing"
)

// readAll reads until an error or the end, and tells how many packets were taken.
func readAll(p *Push) (int, error) {
	for taken := 0; ; taken++ {
		if p.Whole() {
			return taken, nil
		}
		if err := p.Read(); err != nil {
			return taken, err
		}
	}
}

func TestWholePush(t *testing.T) {
	p := New()
	p.Feed(Packet("00000000 12345678 refs/b") + Packet("9abcdef0 00000000 refs/a") + "0000" + Packet("blob x") + Packet("tree ") + Packet("blob x") + "0000")
	if taken, err := readAll(p); taken != 7 || err != nil {
		t.Fatalf("P4: %d packets, %v", taken, err)
	}
	if len(p.Commands) != 2 || p.Commands[0] != (Command{"00000000", "12345678", "refs/b"}) || p.Commands[1] != (Command{"9abcdef0", "00000000", "refs/a"}) {
		t.Errorf("P4: the commands: %v", p.Commands)
	}
	if refs := strings.Join(p.Refs(), " "); refs != "refs/a refs/b" {
		t.Errorf("P4: the refs in the order of their names: %s", refs)
	}
	var ids []string
	for _, o := range p.Objects {
		ids = append(ids, o.ID())
	}
	if got := strings.Join(ids, " "); got != "b99a3932 67245daf b99a3932" {
		t.Errorf("P4: the objects that wait: %s", got)
	}
}

func TestFaultIsAnError(t *testing.T) {
	p := New()
	p.Feed("000g")
	err := p.Read()
	var wrong *Fault
	if !errors.As(err, &wrong) || wrong.Word != "packet" || wrong.Error() != "no push: packet" || errors.Is(err, ErrWait) {
		t.Errorf("P5: %v", err)
	}
	p = New()
	p.Feed("000")
	if err := p.Read(); !errors.Is(err, ErrWait) || errors.As(err, &wrong) {
		t.Errorf("P4: three digits: %v", err)
	}
}

func TestPacketLength(t *testing.T) {
	for length := range 1 << 16 {
		head := []byte{0, 0, 0, 0}
		for i, shift := range []int{12, 8, 4, 0} {
			head[i] = "0123456789abcdef"[length>>shift&15]
		}
		got, ok := packetLength(string(head))
		want := length == 0 || length >= 5 && length <= 204
		if ok != want || ok && got != length || !ok && got != 0 {
			t.Fatalf("P5: the length %s: %d, %v", head, got, ok)
		}
	}
}
