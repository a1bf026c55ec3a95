package object

import (
	"slices"
	"testing"
)

func TestKinds(t *testing.T) {
	tree, ok := Parse("tree a=12345678,b=9abcdef0")
	if tree, is := tree.(*Tree); !ok || !is || !slices.Equal(tree.Entries, []string{"12345678", "9abcdef0"}) {
		t.Errorf("a tree: %v, %v", tree, ok)
	}
	commit, ok := Parse("commit 12345678 9abcdef0+0000000f m")
	if commit, is := commit.(*Commit); !ok || !is || commit.Tree != "12345678" || !slices.Equal(commit.Parents, []string{"9abcdef0", "0000000f"}) {
		t.Errorf("a commit: %v, %v", commit, ok)
	}
	blob, ok := Parse("blob hello")
	if _, is := blob.(*Blob); !ok || !is || blob.ID() != "85676ebe" || blob.Text() != "blob hello" {
		t.Errorf("a blob: %v, %v", blob, ok)
	}
	if none, ok := Parse("blob"); none != nil || ok {
		t.Errorf("no object: %v, %v", none, ok)
	}
}

func TestNamesAreNew(t *testing.T) {
	for _, text := range []string{"tree a=12345678", "commit 12345678 9abcdef0 m"} {
		found, _ := Parse(text)
		first := Names(found)
		want := slices.Clone(first)
		first[0] = "?"
		if got := Names(found); !slices.Equal(got, want) {
			t.Errorf("P1: the names of %q share memory: %q", text, got)
		}
	}
}

func TestIsID(t *testing.T) {
	for _, text := range []string{"00000000", "12345678", "9abcdef0", "ffffffff"} {
		if !IsID(text) {
			t.Errorf("IsID(%q) = false", text)
		}
	}
	for _, text := range []string{"", "1234567", "123456789", "1234567A", "1234567g", " 2345678", "1234567\n"} {
		if IsID(text) {
			t.Errorf("IsID(%q) = true", text)
		}
	}
}
