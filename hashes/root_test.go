package hashes

import (
	"slices"
	"testing"
)

func digests(n int) []Digest {
	var ids []Digest
	for i := range n {
		ids = append(ids, Sum(stepping(i)))
	}
	return ids
}

func TestRootOfNone(t *testing.T) {
	if root, twins := Root(nil); root != (Digest{}) || twins {
		t.Errorf("Root of none = %x, %v", root, twins)
	}
}

func TestRootOnlyReadsItsDigests(t *testing.T) {
	for n := range 20 {
		room := append(digests(n), Sum("behind"), Sum("the end"))
		before := slices.Clone(room)
		Root(room[:n])
		if !slices.Equal(room, before) {
			t.Errorf("Root wrote into its list of %d", n)
		}
	}
}
