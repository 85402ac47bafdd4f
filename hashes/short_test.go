package hashes

import (
	"math"
	"strings"
	"testing"
)

// The short ids of the least transaction of zeros, as OpenSSL's digests and SipHash tell them.
func TestShortID(t *testing.T) {
	tx := strings.Repeat("\x00", 4) + "\x01" + strings.Repeat("\x00", 41) + "\x01" + strings.Repeat("\x00", 13)
	zeros, steps := strings.Repeat("\x00", 80), stepping(80)
	for _, c := range []struct {
		header string
		number uint64
		want   uint64
	}{
		{zeros, 0, 0x0cf78f829e0e},
		{zeros, 1, 0x235c09b52270},
		{zeros, 0x8877665544332211, 0xe4cf14654634},
		{zeros, math.MaxUint64, 0xcce644b090d3},
		{steps, 0, 0x448943d2c3cf},
		{steps, 1, 0x0ed15c5a5685},
		{steps, 0x8877665544332211, 0x8ea5afd4e602},
		{steps, math.MaxUint64, 0xbe0c5b05687d},
	} {
		if got := ShortKeyOf(c.header, c.number).ShortID(Double(tx)); got != c.want {
			t.Errorf("the short id by %x and %x = %x, want %x", c.header[:2], c.number, got, c.want)
		}
	}
}
