package hashes

import (
	"crypto/sha256"
	"encoding/hex"
	"slices"
	"strings"
	"testing"
)

func stepping(n int) string {
	b := make([]byte, n)
	for i := range b {
		b[i] = byte(i)
	}
	return string(b)
}

func TestSumOfKnownTexts(t *testing.T) {
	for _, c := range []struct{ text, want string }{
		{"", "e3b0c44298fc1c149afbf4c8996fb92427ae41e4649b934ca495991b7852b855"},
		{"abc", "ba7816bf8f01cfea414140de5dae2223b00361a396177a9cb410ff61f20015ad"},
		{"abcdbcdecdefdefgefghfghighijhijkijkljklmklmnlmnomnopnopq", "248d6a61d20638b8e5c026930c3e6039a33ce45964ff2167f6ecedd419db06c1"},
		{strings.Repeat("a", 1000000), "cdc76e5c9914fb9281a1c7e284d73e67f1809a48a497200e046d39ccc7112cd0"},
	} {
		d := Sum(c.text)
		if got := hex.EncodeToString(d[:]); got != c.want {
			t.Errorf("Sum(%.20q) = %s, want %s", c.text, got, c.want)
		}
	}
}

// Every length up to some blocks, so that the padding meets every place of a block's end.
func TestSumOfEveryLength(t *testing.T) {
	for n := range 300 {
		for name, text := range map[string]string{
			"stepping": stepping(n),
			"zero":     strings.Repeat("\x00", n),
			"high":     strings.Repeat("\xff", n),
		} {
			if got, want := Sum(text), Digest(sha256.Sum256([]byte(text))); got != want {
				t.Errorf("Sum of %d %s bytes = %x, want %x", n, name, got, want)
			}
		}
	}
}

// Around the lengths at which one byte more of the told length, in bits, is taken.
func TestSumOfLongTexts(t *testing.T) {
	for _, n := range []int{31, 32, 8191, 8192, 2097151, 2097152} {
		text := stepping(n)
		if got, want := Sum(text), Digest(sha256.Sum256([]byte(text))); got != want {
			t.Errorf("Sum of %d bytes = %x, want %x", n, got, want)
		}
	}
}

// Half a gibibyte: its length in bits does not go into 32 bits.
func TestSumOfALengthBeyond32Bits(t *testing.T) {
	if testing.Short() {
		t.Skip("it takes seconds")
	}
	piece := stepping(1 << 20)
	texts := slices.Repeat([]string{piece}, 1<<9)
	other := sha256.New()
	for _, text := range texts {
		other.Write([]byte(text))
	}
	if got, want := Sum(texts...), Digest(other.Sum(nil)); got != want {
		t.Errorf("Sum of 2 to the 29th bytes = %x, want %x", got, want)
	}
}

func TestSumOfSeveralTexts(t *testing.T) {
	text := stepping(150)
	want := Sum(text)
	for i := 0; i <= len(text); i++ {
		if got := Sum(text[:i], text[i:]); got != want {
			t.Errorf("Sum of two texts, cut at %d, = %x, want %x", i, got, want)
		}
		if got := Sum("", text[:i], "", text[i:], ""); got != want {
			t.Errorf("Sum of five texts, cut at %d, = %x, want %x", i, got, want)
		}
	}
	if Sum() != Sum("") {
		t.Errorf("Sum of no text = %x, want %x", Sum(), Sum(""))
	}
	if Sum("ab", "c") == Sum("c", "ab") {
		t.Error("Sum does not hang on the order of its texts")
	}
}

func TestSumOnlyReadsItsTexts(t *testing.T) {
	room := []string{"a", "b", "behind the end"}
	if Sum(room[:2]...) != Sum("ab") {
		t.Error("Sum of a list's texts is not that of the texts")
	}
	if room[0] != "a" || room[1] != "b" || room[2] != "behind the end" {
		t.Errorf("Sum wrote into its list: %q", room)
	}
}

func TestDigestIsComparedAndAKey(t *testing.T) {
	found := map[Digest]int{Sum("a"): 1, Sum("b"): 2}
	if found[Sum("a")] != 1 || found[Sum("b")] != 2 || found[Sum("c")] != 0 {
		t.Errorf("digests as keys: %v", found)
	}
}
