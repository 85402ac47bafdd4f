package wire

import (
	"math"
	"strings"
	"testing"

	"compact/api"
)

// Sizes that are the shortest there are, at the ends of each kind; example 3 is among them.
func TestAnySize(t *testing.T) {
	for text, want := range map[string]uint64{
		"\x00":                                 0,
		"\x01":                                 1,
		"\xfc":                                 252,
		"\xfd\xfd\x00":                         253,
		"\xfd\x00\x01":                         256,
		"\xfd\xff\xff":                         65535,
		"\xfe\x00\x00\x01\x00":                 65536,
		"\xfe\xff\xff\xff\xff":                 1<<32 - 1,
		"\xff\x00\x00\x00\x00\x01\x00\x00\x00": 1 << 32,
		"\xff\x01\x02\x03\x04\x05\x06\x07\x08": 0x0807060504030201,
		"\xff\xff\xff\xff\xff\xff\xff\xff\xff": math.MaxUint64,
	} {
		got, err := Read(text, (*Reader).anySize)
		if got != want || err != api.OK {
			t.Errorf("the size %x = %d, %d, want %d", text, got, err, want)
		}
	}
}

func TestAnySizeThatIsWrong(t *testing.T) {
	for text, want := range map[string]api.Errno{
		"":                                     api.ErrEnd,
		"\xfd":                                 api.ErrEnd,
		"\xfd\x00":                             api.ErrEnd,
		"\xfe\x00\x00\x00":                     api.ErrEnd,
		"\xff\x00\x00\x00\x00\x00\x00\x00":     api.ErrEnd,
		"\xfd\x00\x00":                         api.ErrSize,
		"\xfd\x01\x00":                         api.ErrSize,
		"\xfd\xfc\x00":                         api.ErrSize,
		"\xfe\x00\x00\x00\x00":                 api.ErrSize,
		"\xfe\xff\xff\x00\x00":                 api.ErrSize,
		"\xff\x00\x00\x00\x00\x00\x00\x00\x00": api.ErrSize,
		"\xff\xff\xff\xff\xff\x00\x00\x00\x00": api.ErrSize,
		"\xfd\x01\x00rest":                     api.ErrSize,
		"\x00\x00":                             api.ErrRest,
		"\xfd\xfd\x00\x00":                     api.ErrRest,
	} {
		got, err := Read(text, (*Reader).anySize)
		if got != 0 || err != want {
			t.Errorf("the size %x = %d, %d, want the error %d", text, got, err, want)
		}
	}
}

// A size is held against its bounds only when it is written as shortly as it can be.
func TestSizeWithinBounds(t *testing.T) {
	for _, c := range []struct {
		text        string
		least, most uint64
		want        uint64
		err         api.Errno
	}{
		{"\x02", 2, 4, 2, api.OK},
		{"\x04", 2, 4, 4, api.OK},
		{"\x01", 2, 4, 0, api.ErrBound},
		{"\x05", 2, 4, 0, api.ErrBound},
		{"\x00", 0, 0, 0, api.OK},
		{"\x01", 0, 0, 0, api.ErrBound},
		{"\xfd\x02\x00", 2, 4, 0, api.ErrSize},
		{"\xfd\x01\x00", 2, 4, 0, api.ErrSize},
		{"\xfd\xfd\x00", 2, 4, 0, api.ErrBound},
		{"\xfd\xfd\x00", 2, 253, 253, api.OK},
		{"\xff\xff\xff\xff\xff\xff\xff\xff\xff", 0, math.MaxUint64 - 1, 0, api.ErrBound},
		{"\x05\x05", 2, 4, 0, api.ErrBound},
	} {
		got, err := Read(c.text, func(r *Reader) uint64 { return r.size(c.least, c.most) })
		if got != c.want || err != c.err {
			t.Errorf("the size %x from %d to %d = %d, %d, want %d, %d", c.text, c.least, c.most, got, err, c.want, c.err)
		}
	}
}

// The form's value is not told beside an error, not even if the form was read well and bytes are left.
func TestReadTellsNothingBesideAnError(t *testing.T) {
	two := func(r *Reader) string { return r.take(2) }
	for text, want := range map[string]api.Errno{"ab": api.OK, "a": api.ErrEnd, "": api.ErrEnd, "abc": api.ErrRest} {
		got, err := Read(text, two)
		if err != want || (got == "ab") != (err == api.OK) || err != api.OK && got != "" {
			t.Errorf("two bytes of %q = %q, %d, want %d", text, got, err, want)
		}
	}
}

// A panic that is not about the text is not told as an error of it.
func TestReadLetsOtherPanicsGoOn(t *testing.T) {
	defer func() {
		if left := recover(); left != "another" {
			t.Errorf("what came out of Read is %v", left)
		}
	}()
	Read("", func(*Reader) int { panic("another") })
}

// One transaction behind another is read from where the first ends.
func TestTransactionsBehindEachOther(t *testing.T) {
	first := "vers\x01" + strings.Repeat("p", 36) + "\x02abffff\x01" + "12345678\x00lock"
	second := "VERS\x01" + strings.Repeat("q", 36) + "\x00FFFF\x02" + "12345678\x01c" + "12345678\x00LOCK"
	got, err := Read(first+second, func(r *Reader) [2]string { return [2]string{r.Transaction(), r.Transaction()} })
	if err != api.OK || got != [2]string{first, second} {
		t.Errorf("two transactions = %q, %d", got, err)
	}
}
