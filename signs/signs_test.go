package signs

import "testing"

func TestOnly(t *testing.T) {
	for _, c := range []struct {
		text        string
		least, most int
		want        bool
	}{
		{"", 0, 3, true},
		{"", 1, 3, false},
		{"a", 1, 3, true},
		{"abc", 1, 3, true},
		{"abcd", 1, 3, false},
		{"aBc", 1, 3, false},
		{"a\x00", 1, 3, false},
		{"\xe4", 1, 3, false},
		{"g", 1, 3, false},
	} {
		if got := Only(c.text, Digits, c.least, c.most); got != c.want {
			t.Errorf("Only(%q, Digits, %d, %d) = %v", c.text, c.least, c.most, got)
		}
	}
}

func TestHex(t *testing.T) {
	for _, c := range []struct {
		number uint32
		width  int
		want   string
	}{
		{0, 4, "0000"},
		{204, 4, "00cc"},
		{0x12ab, 4, "12ab"},
		{0x12ab, 8, "000012ab"},
		{1<<32 - 1, 8, "ffffffff"},
		{0x12ab, 2, "ab"},
		{7, 0, ""},
	} {
		if got := Hex(c.number, c.width); got != c.want {
			t.Errorf("Hex(%x, %d) = %q, want %q", c.number, c.width, got, c.want)
		}
	}
}
