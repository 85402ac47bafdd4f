package numbers

import "testing"

func TestLowestFirst(t *testing.T) {
	for text, want := range map[string]uint64{
		"":                                 0,
		"\x00":                             0,
		"\xff":                             0xff,
		"\x01\x02":                         0x0201,
		"\x00\x00\x01":                     0x010000,
		"\x00\x00\x00\x80":                 0x80000000,
		"\x01\x00\x00\x00\x00\x00\x00\x80": 0x8000000000000001,
		"\x01\x02\x03\x04\x05\x06\x07\x08": 0x0807060504030201,
		"\xff\xff\xff\xff\xff\xff\xff\xff": 0xffffffffffffffff,
	} {
		if got := LowestFirst(text); got != want {
			t.Errorf("LowestFirst(%x) = %x, want %x", text, got, want)
		}
	}
}

func TestInBytes(t *testing.T) {
	for _, c := range []struct {
		n     uint64
		count int
		want  string
	}{
		{0, 0, ""},
		{0, 1, "\x00"},
		{0xff, 1, "\xff"},
		{0x0201, 2, "\x01\x02"},
		{1, 4, "\x01\x00\x00\x00"},
		{0x0807060504030201, 8, "\x01\x02\x03\x04\x05\x06\x07\x08"},
		{0x0807060504030201, 6, "\x01\x02\x03\x04\x05\x06"},
		{0x8000000000000000, 8, "\x00\x00\x00\x00\x00\x00\x00\x80"},
	} {
		if got := InBytes(c.n, c.count); got != c.want {
			t.Errorf("InBytes(%x, %d) = %x, want %x", c.n, c.count, got, c.want)
		}
	}
}
