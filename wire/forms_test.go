package wire

import (
	"math"
	"reflect"
	"strings"
	"testing"

	"compact/api"
	"compact/hashes"
)

// least is a transaction of one input and one output, told apart by its first byte.
func least(first string) string {
	return first + "ers\x01" + strings.Repeat("p", 36) + "\x00ffff\x01" + "12345678\x00lock"
}

func oneByte(n int) string { return string([]byte{byte(n)}) }

// shortBlock is a short block of so many short ids, with these things behind them.
func shortBlock(ids int, behind ...string) string {
	return strings.Repeat("h", 80) + "\x08\x07\x06\x05\x04\x03\x02\x01" +
		oneByte(ids) + strings.Repeat("\x01\x02\x03\x04\x05\x06", ids) + strings.Join(behind, "")
}

func wantShortError(t *testing.T, what string, text string, want api.Errno) {
	t.Helper()
	got, err := Read(text, (*Reader).ShortBlock)
	if err != want || !reflect.DeepEqual(got, ShortBlock{}) {
		t.Errorf("%s: the short block %q = %v, %d, want %d", what, text, got, err, want)
	}
}

// Example 3, and the ends of each kind of size.
func TestSizesAreWrittenShortly(t *testing.T) {
	for n, want := range map[uint64]string{
		0:              "\x00",
		1:              "\x01",
		252:            "\xfc",
		253:            "\xfd\xfd\x00",
		254:            "\xfd\xfe\x00",
		255:            "\xfd\xff\x00",
		256:            "\xfd\x00\x01",
		65535:          "\xfd\xff\xff",
		65536:          "\xfe\x00\x00\x01\x00",
		1<<32 - 1:      "\xfe\xff\xff\xff\xff",
		1 << 32:        "\xff\x00\x00\x00\x00\x01\x00\x00\x00",
		math.MaxUint64: "\xff\xff\xff\xff\xff\xff\xff\xff\xff",
	} {
		var w writer
		w.size(n)
		if string(w.told) != want {
			t.Errorf("the size %d is written %x, want %x", n, w.told, want)
		}
		if back, err := Read(string(w.told), (*Reader).anySize); back != n || err != api.OK {
			t.Errorf("the size %d is read again as %d, %d", n, back, err)
		}
	}
}

func TestShortBlockIsReadAndWritten(t *testing.T) {
	header, ids := Header(strings.Repeat("h", 80)), func(n int) []uint64 {
		var list []uint64
		for range n {
			list = append(list, 0x060504030201)
		}
		return list
	}
	all, allText := []Placed{}, ""
	for i := range api.MaxTxs {
		tx := least(oneByte('a' + i))
		all, allText = append(all, Placed{i, tx}), allText+"\x00"+tx
	}
	for text, want := range map[string]ShortBlock{
		shortBlock(1, "\x00"): {header, 0x0102030405060708, ids(1), nil},
		shortBlock(1, "\x02", "\x00", least("a"), "\x01", least("c")): {
			header, 0x0102030405060708, ids(1), []Placed{{0, least("a")}, {2, least("c")}}},
		shortBlock(2, "\x02", "\x01", least("b"), "\x01", least("d")): {
			header, 0x0102030405060708, ids(2), []Placed{{1, least("b")}, {3, least("d")}}},
		shortBlock(0, "\x01", "\x00", least("a")):   {header, 0x0102030405060708, nil, []Placed{{0, least("a")}}},
		shortBlock(16, "\x00"):                      {header, 0x0102030405060708, ids(16), nil},
		shortBlock(15, "\x01", "\x0f", least("a")):  {header, 0x0102030405060708, ids(15), []Placed{{15, least("a")}}},
		shortBlock(0, oneByte(api.MaxTxs), allText): {header, 0x0102030405060708, nil, all},
	} {
		got, err := Read(text, (*Reader).ShortBlock)
		if err != api.OK || !reflect.DeepEqual(got, want) {
			t.Errorf("the short block %q = %v, %d, want %v", text, got, err, want)
		}
		if back := want.Text(); back != text {
			t.Errorf("%v is told as %q, want %q", want, back, text)
		}
	}
}

// Example 10.
func TestShortBlockOfTheDocument(t *testing.T) {
	wantShortError(t, "none at all", shortBlock(0, "\x00"), api.ErrBound)
	wantShortError(t, "one, and one at index 02", shortBlock(1, "\x01", "\x02", least("a")), api.ErrIndex)
}

func TestShortBlockThatEnds(t *testing.T) {
	text := shortBlock(2, "\x02", "\x01", least("b"), "\x01", least("d"))
	for end := range len(text) {
		wantShortError(t, "bytes that end", text[:end], api.ErrEnd)
	}
	wantShortError(t, "bytes that are left", text+"\x00", api.ErrRest)
	wantShortError(t, "a transaction that is left", text+least("e"), api.ErrRest)
}

func TestShortBlockOfWrongSizes(t *testing.T) {
	head := shortBlock(0)[:88]
	for _, long := range []string{"\xfd\x01\x00", "\xfd\xfc\x00", "\xfe\xff\xff\x00\x00", "\xff\x00\x00\x00\x00\x00\x00\x00\x00"} {
		wantShortError(t, "a long size of short ids", head+long, api.ErrSize)
		wantShortError(t, "a long size of transactions", shortBlock(1, long), api.ErrSize)
		wantShortError(t, "a long size of none at all", shortBlock(0, "\xfd\x00\x00"), api.ErrSize)
		wantShortError(t, "a long first index", shortBlock(1, "\x02", long), api.ErrSize)
		wantShortError(t, "a long second index", shortBlock(1, "\x02", "\x00", least("a"), long), api.ErrSize)
	}
	for _, great := range []string{"\x11", "\xfc", "\xfd\xfd\x00", "\xff\x00\x00\x00\x00\x01\x00\x00\x00", "\xff\xff\xff\xff\xff\xff\xff\xff\xff"} {
		wantShortError(t, "too many short ids", head+great, api.ErrBound)
		wantShortError(t, "too many transactions", shortBlock(0, great), api.ErrBound)
		wantShortError(t, "too many of both", shortBlock(16, great), api.ErrBound)
	}
	wantShortError(t, "16 and 1", shortBlock(16, "\x01"), api.ErrBound)
	wantShortError(t, "8 and 9", shortBlock(8, "\x09"), api.ErrBound)
	wantShortError(t, "1 and 16", shortBlock(1, "\x10"), api.ErrBound)
	wantShortError(t, "8 and 8, of which the bytes lack", shortBlock(8, "\x08"), api.ErrEnd)
}

func TestShortBlockOfWrongIndexes(t *testing.T) {
	first := "\x00" + least("a")
	for _, behind := range []string{
		"\x03", "\x10", "\xfc", "\xfd\xfd\x00", "\xfe\xff\xff\xff\xff", "\xff\x00\x00\x00\x00\x01\x00\x00\x00",
		"\xff\x00\x00\x00\x00\x00\x00\x00\x80", "\xff\xfe\xff\xff\xff\xff\xff\xff\xff", "\xff\xff\xff\xff\xff\xff\xff\xff\xff",
	} {
		wantShortError(t, "the first index", shortBlock(1, "\x02", behind, least("a")), api.ErrIndex)
		wantShortError(t, "the second index", shortBlock(1, "\x02", first, behind, least("b")), api.ErrIndex)
	}
	wantShortError(t, "behind the last place", shortBlock(1, "\x02", "\x02", least("a"), "\x00", least("b")), api.ErrIndex)
	wantShortError(t, "an index ahead of a wrong transaction", shortBlock(1, "\x01", "\x02", "vers\x00"), api.ErrIndex)
	wantShortError(t, "a wrong transaction ahead of an index", shortBlock(1, "\x02", "\x00", "vers\x00", "\x09"), api.ErrBound)
}

func TestReplyIsWritten(t *testing.T) {
	name := hashes.Sum("name")
	for want, reply := range map[string]Reply{
		name.Text() + "\x01" + least("a"):                     {name, []string{least("a")}},
		name.Text() + "\x02" + least("b") + least("a"):        {name, []string{least("b"), least("a")}},
		name.Text() + "\x10" + strings.Repeat(least("c"), 16): {name, strings.SplitAfter(strings.Repeat(least("c"), 16), "lock")[:16]},
	} {
		if got := reply.Text(); got != want {
			t.Errorf("the reply is told as %q, want %q", got, want)
		}
	}
}

func TestBlockIsReadAndWritten(t *testing.T) {
	header := strings.Repeat("h", 80)
	for text, want := range map[string]Block{
		header + "\x01" + least("a"):                        {Header(header), []string{least("a")}},
		header + "\x02" + least("b") + least("a"):           {Header(header), []string{least("b"), least("a")}},
		header + "\x10" + strings.Repeat(least("c"), 16):    {Header(header), strings.SplitAfter(strings.Repeat(least("c"), 16), "lock")[:16]},
		strings.Repeat("\x00", 80) + "\x01" + least("\x00"): {Header(strings.Repeat("\x00", 80)), []string{least("\x00")}},
	} {
		got, err := Read(text, (*Reader).Block)
		if err != api.OK || !reflect.DeepEqual(got, want) {
			t.Errorf("the block %q = %v, %d, want %v", text, got, err, want)
		}
		if back := want.Text(); back != text {
			t.Errorf("%v is told as %q, want %q", want, back, text)
		}
	}
}

// Example 8, and the ends of what may be asked for.
func TestRequestIsReadAndWritten(t *testing.T) {
	name := hashes.Sum("name")
	var all []int
	for i := range api.MaxTxs {
		all = append(all, i)
	}
	for behind, indexes := range map[string][]int{
		"\x03\x01\x00\x02":                  {1, 2, 5},
		"\x01\x00":                          {0},
		"\x01\x0f":                          {15},
		"\x02\x00\x0e":                      {0, 15},
		"\x02\x0e\x00":                      {14, 15},
		"\x10" + strings.Repeat("\x00", 16): all,
	} {
		text, want := name.Text()+behind, Request{name, indexes}
		got, err := Read(text, (*Reader).Request)
		if err != api.OK || !reflect.DeepEqual(got, want) {
			t.Errorf("the request %q = %v, %d, want %v", text, got, err, want)
		}
		if back := want.Text(); back != text {
			t.Errorf("%v is told as %q, want %q", want, back, text)
		}
	}
}

func TestReplyIsRead(t *testing.T) {
	name := hashes.Sum("name")
	for _, transactions := range [][]string{
		{least("a")}, {least("b"), least("a")}, {least("a"), least("a")},
		strings.SplitAfter(strings.Repeat(least("c"), 16), "lock")[:16],
	} {
		want := Reply{name, transactions}
		got, err := Read(want.Text(), (*Reader).Reply)
		if err != api.OK || !reflect.DeepEqual(got, want) {
			t.Errorf("the reply %v is read as %v, %d", want, got, err)
		}
	}
}

func TestReplyThatIsWrong(t *testing.T) {
	name := hashes.Sum("name").Text()
	right := name + "\x02" + least("a") + least("b")
	texts := map[string]api.Errno{
		right + "\x00": api.ErrRest,
		name + "\x00":  api.ErrBound,
		name + "\x11" + strings.Repeat(least("a"), 17):  api.ErrBound,
		name + "\xfd\x01\x00" + least("a"):              api.ErrSize,
		name + "\xff\xff\xff\xff\xff\xff\xff\xff\xff":   api.ErrBound,
		name + "\x01vers\x00":                           api.ErrBound,
		name + "\x02" + least("a") + "vers\xfd\x01\x00": api.ErrSize,
		name + "\x01" + least("a") + least("b"):         api.ErrRest,
	}
	for end := range len(right) {
		texts[right[:end]] = api.ErrEnd
	}
	for text, want := range texts {
		got, err := Read(text, (*Reader).Reply)
		if err != want || !reflect.DeepEqual(got, Reply{}) {
			t.Errorf("the reply %q = %v, %d, want %d", text, got, err, want)
		}
	}
}

func TestHeaderTellsItsRoot(t *testing.T) {
	root := hashes.Sum("root")
	header := Header(strings.Repeat("\xff", 36) + root.Text() + strings.Repeat("\xff", 12))
	if got := header.Root(); got != root {
		t.Errorf("the root of %x = %x, want %x", header, got, root)
	}
}
