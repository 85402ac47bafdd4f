package relay

import (
	"crypto/sha256"
	"encoding/hex"
	"strings"
	"testing"
)

func stepping(n int) string {
	b := make([]byte, n)
	for i := range b {
		b[i] = byte(i)
	}
	return string(b)
}

// P2, example 1.
func TestSumOfTheDocument(t *testing.T) {
	for text, want := range map[string]string{
		"abc": "ba7816bf8f01cfea414140de5dae2223b00361a396177a9cb410ff61f20015ad",
		"":    "e3b0c44298fc1c149afbf4c8996fb92427ae41e4649b934ca495991b7852b855",
	} {
		if got := hex.EncodeToString([]byte(Sum(text))); got != want {
			t.Errorf("Sum(%q) = %s, want %s", text, got, want)
		}
	}
}

// P2: one below, at and above each end of a block, and of the room for the length in it.
func TestSumAroundTheEndsOfBlocks(t *testing.T) {
	for blocks := range 4 {
		for _, inside := range []int{0, 1, 54, 55, 56, 57, 62, 63} {
			text := stepping(64*blocks + inside)
			want := sha256.Sum256([]byte(text))
			if got := Sum(text); got != string(want[:]) {
				t.Errorf("Sum of %d bytes = %x, want %x", len(text), got, want)
			}
		}
	}
}

// P2: what is no UTF-8 text is told byte by byte, too.
func TestSumOfAnyBytes(t *testing.T) {
	for _, text := range []string{"\x00", "\x80", "\xff", "\xc3\x28", "é", "\ufffd", strings.Repeat("\xff", 64)} {
		want := sha256.Sum256([]byte(text))
		if got := Sum(text); got != string(want[:]) {
			t.Errorf("Sum(%x) = %x, want %x", text, got, want)
		}
	}
}

// P2, example 2.
func TestSipOfTheDocument(t *testing.T) {
	if got := Sip(0x0706050403020100, 0x0f0e0d0c0b0a0908, stepping(15)); got != 0xa129ca6149be45e5 {
		t.Errorf("Sip of the bytes 00 to 0e = %x", got)
	}
	if got := Sip(0x0706050403020100, 0x0f0e0d0c0b0a0908, ""); got != 0x726fdb47dd0e0e31 {
		t.Errorf("Sip of nothing = %x", got)
	}
}

// P2: keys whose sums wrap round, and lengths of which only the lowest byte is told. Wanted is what OpenSSL's SipHash tells.
func TestSipWrapsRound(t *testing.T) {
	const all = 0xffffffffffffffff
	for _, c := range []struct {
		k0, k1 uint64
		length int
		want   uint64
	}{
		{all, all, 0, 0x35dd279ee86ce565},
		{all, all, 7, 0x9c578eb991de4929},
		{all, all, 8, 0x60102fcb8d4d6ae7},
		{all, all, 9, 0x6f799eb47471146e},
		{all, all, 255, 0x6b7375786d64f023},
		{all, all, 256, 0xae6222ca85b72680},
		{all, all, 257, 0x62c6d61ed89a5f2b},
		{0, 0, 256, 0x9d3b1c289668a3d1},
		{1 << 63, 1, 512, 0xf9762e327d846bb4},
	} {
		if got := Sip(c.k0, c.k1, stepping(c.length)); got != c.want {
			t.Errorf("Sip(%x, %x, %d bytes) = %x, want %x", c.k0, c.k1, c.length, got, c.want)
		}
	}
}
