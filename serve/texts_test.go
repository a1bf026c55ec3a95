package serve

import (
	"slices"
	"strings"
	"testing"
)

func TestID(t *testing.T) {
	for _, c := range []struct{ text, want string }{
		{"", "811c9dc5"},
		{"a", "e40c292c"},
		{"blob hello", "85676ebe"},
		{"tree ", "67245daf"},
		{"blob ddoosyxzxt", "1f351666"},
		{"blob hvmunwpinj", "1f351666"},
		{"\xff\x00", "6e1e20ca"},
		{"blob ibfipbv", "00000000"},
	} {
		if got := ID(c.text); got != c.want {
			t.Errorf("P2: ID(%q) = %q, want %q", c.text, got, c.want)
		}
	}
}

func TestPacket(t *testing.T) {
	long := strings.Repeat("\n", 200)
	for _, c := range []struct{ payload, want string }{
		{"", ""},
		{"a", "0005a"},
		{"\x00", "0005\x00"},
		{"0123456789a", "000f0123456789a"},
		{"0123456789ab", "00100123456789ab"},
		{long[:199], "00cb" + long[:199]},
		{long, "00cc" + long},
		{long + "\n", ""},
		{strings.Repeat("x", 1<<16), ""},
	} {
		if got := Packet(c.payload); got != c.want {
			t.Errorf("P2: Packet(%.20q) = %.30q, want %.30q", c.payload, got, c.want)
		}
	}
}

func TestLook(t *testing.T) {
	forty := strings.Repeat("\xff", 40)
	for _, c := range []struct{ text, ids string }{
		{"blob ", ""},
		{"blob hello", ""},
		{"blob  \x00=,+ ", ""},
		{"blob " + forty, ""},
		{"tree ", ""},
		{"tree a=12345678", "12345678"},
		{"tree a=12345678,aa=12345678,ab=9abcdef0,b=00000001", "12345678 12345678 9abcdef0 00000001"},
		{"tree zzzzzzzz=ffffffff", "ffffffff"},
		{"commit 12345678 - ", "12345678"},
		{"commit 12345678 -  - ", "12345678"},
		{"commit 12345678 - " + forty[:20], "12345678"},
		{"commit 12345678 9abcdef0 ", "12345678 9abcdef0"},
		{"commit 12345678 9abcdef0+12345678 m", "12345678 9abcdef0 12345678"},
		{"commit 12345678 12345678+12345678 a b", "12345678 12345678 12345678"},
	} {
		ids, ok := Look(c.text)
		if got := strings.Join(ids, " "); !ok || got != c.ids {
			t.Errorf("P2: Look(%q) = %q, %v, want %q", c.text, got, ok, c.ids)
		}
	}
}

func TestLookAtNoObject(t *testing.T) {
	for _, text := range []string{
		"", " ", "blob", "tree", "commit", "tag x", "Blob x", " blob x", "blobx", "blob\tx", "trees ", "\xff",
		"blob \n", "blob a\nb", "blob " + strings.Repeat("x", 41),
		"tree  ", "tree a", "tree =", "tree a=", "tree =12345678", "tree a=1234567", "tree a=123456789", "tree a=1234567A", "tree a=1234567g", "tree a=00000000",
		"tree ,", "tree a=12345678,", "tree ,a=12345678", "tree a=12345678,,b=12345678", "tree a=12345678, b=12345678", "tree a=12345678;b=12345678", "tree a=12345678 ", "tree  a=12345678",
		"tree b=12345678,a=12345678", "tree a=12345678,a=12345678", "tree ab=12345678,a=12345678", "tree b=12345678,ab=12345678", "tree a=12345678,b=00000000",
		"tree abcdefghi=12345678", "tree A=12345678", "tree a1=12345678", "tree a-=12345678", "tree \xe4=12345678", "tree a\n=12345678", "tree a=12345678\n",
		"commit ", "commit  ", "commit 12345678", "commit 12345678 ", "commit 12345678 -", "commit 12345678  m", "commit 12345678 9abcdef0", "commit - - m", "commit  12345678 - m", "commit 12345678  - m",
		"commit 1234567 - m", "commit 123456789 - m", "commit 1234567A - m", "commit 00000000 - m", "commit 12345678 00000000 m", "commit 12345678 9abcdef0+00000000 m", "commit 12345678 00000000+9abcdef0 m",
		"commit 12345678 + m", "commit 12345678 9abcdef0+ m", "commit 12345678 +9abcdef0 m", "commit 12345678 -+9abcdef0 m", "commit 12345678 9abcdef0+- m", "commit 12345678 -- m",
		"commit 12345678 9abcdef0+12345678+9abcdef0 m", "commit 12345678 9abcdef0++12345678 m", "commit 12345678 9abcdef0,12345678 m", "commit 12345678 9abcdef m",
		"commit 12345678 - m\n", "commit 12345678 - " + strings.Repeat("m", 21),
		"blob ibfipbv", "tree a=a557252d", "commit 12345678 - wqthjal", // their id is 00000000
	} {
		if ids, ok := Look(text); ids != nil || ok {
			t.Errorf("P2: Look(%q) = %q, %v", text, ids, ok)
		}
	}
}

func TestLooksAreNew(t *testing.T) {
	const text = "commit 12345678 9abcdef0 m"
	first, _ := Look(text)
	second, _ := Look(text)
	first[0], first[1] = "?", "?"
	third, _ := Look(text)
	want := []string{"12345678", "9abcdef0"}
	if !slices.Equal(second, want) || !slices.Equal(third, want) {
		t.Errorf("P1: lists share memory: %q, %q", second, third)
	}
}
