package hashes

import (
	"crypto/sha256"
	"strings"
	"testing"
)

func TestDigestOf(t *testing.T) {
	for _, n := range []int{0, 1, 31, 33, 64} {
		if d, ok := DigestOf(strings.Repeat("x", n)); ok || d != (Digest{}) {
			t.Errorf("DigestOf %d bytes = %x, %v", n, d, ok)
		}
	}
	text := stepping(32)
	d, ok := DigestOf(text)
	if !ok || d.Text() != text || d[0] != 0 || d[31] != 31 {
		t.Errorf("DigestOf(%x) = %x, %v", text, d, ok)
	}
}

func TestDouble(t *testing.T) {
	for _, texts := range [][]string{{}, {""}, {"abc"}, {"ab", "c"}, {stepping(32), stepping(32)}} {
		once := sha256.Sum256([]byte(strings.Join(texts, "")))
		if got := Double(texts...); got != Digest(sha256.Sum256(once[:])) {
			t.Errorf("Double(%q) = %x", texts, got)
		}
	}
}
