package relay

import (
	"strings"
	"testing"

	"compact/api"
)

func nameOfBlocks() string { return twice(header()) }

// asking is the request for these places, which rise.
func asking(name string, places ...int) string {
	request, next := name+one(len(places)), 0
	for _, place := range places {
		request += one(place - next)
		next = place + 1
	}
	return request
}

func wantReply(t *testing.T, block string, request string, want string) {
	t.Helper()
	if got, err := Serve(block, request); got != want || err != api.OK {
		t.Errorf("P5: Serve(%d bytes, %x) = %x, %d, want %x", len(block), request, got, err, want)
	}
}

func wantNoReply(t *testing.T, what string, block string, request string, want api.Errno) {
	t.Helper()
	if got, err := Serve(block, request); got != "" || err != want {
		t.Errorf("P5: %s: Serve(%x, %x) = %x, %d, want %d", what, block, request, got, err, want)
	}
}

// wrongRequests: each error of reading a request, at its edges.
func wrongRequests(name string) []wrong {
	var all []wrong
	right := asking(name, 1, 2, 5)
	for end := range len(right) {
		all = append(all, wrong{"a request that ends", right[:end], api.ErrEnd})
	}
	for _, size := range longSizes {
		all = append(all, wrong{"a long size of indexes", name + size + "\x00", api.ErrSize},
			wrong{"a long first index", name + "\x02" + size + "\x00", api.ErrSize},
			wrong{"a long second index", name + "\x02\x00" + size, api.ErrSize})
	}
	for _, size := range append([]string{"\x00", "\x11"}, greatSizes...) {
		all = append(all, wrong{"a wrong number of indexes", name + size, api.ErrBound},
			wrong{"a wrong number of indexes", name + size + strings.Repeat("\x00", 20), api.ErrBound})
	}
	for _, size := range append([]string{"\x10", "\x11"}, greatSizes...) {
		all = append(all, wrong{"a great first index", name + "\x01" + size, api.ErrIndex},
			wrong{"a great first index, then the end", name + "\x02" + size, api.ErrIndex},
			wrong{"a great second index", name + "\x02\x00" + size, api.ErrIndex},
			wrong{"a great last index", name + "\x10" + strings.Repeat("\x00", 15) + size, api.ErrIndex})
	}
	return append(all, requestsThatEnd(name)...)
}

// requestsThatEnd: where one place is the last that there may be, or bytes lack or are left.
func requestsThatEnd(name string) []wrong {
	all := []wrong{
		{"the second one beyond", name + "\x02\x00\x0f", api.ErrIndex},
		{"behind the last place", name + "\x02\x0f\x00", api.ErrIndex},
		{"the last place, then the end", name + "\x02\x0f", api.ErrEnd},
		{"behind the last place, a long size", name + "\x02\x0f\xfd\x00\x00", api.ErrSize},
		{"a great index ahead of a long size", name + "\x02\x10\xfd\x00\x00", api.ErrIndex},
		{"a long size ahead of a great index", name + "\x02\xfd\x00\x00\x10", api.ErrSize},
		{"a great index, and bytes that are left", name + "\x01\x10\x00", api.ErrIndex},
		{"a byte that is left", name + "\x01\x00\x00", api.ErrRest},
		{"a request that is left", asking(name, 0) + asking(name, 1), api.ErrRest},
		{"all places, and a byte that is left", name + "\x10" + strings.Repeat("\x00", 17), api.ErrRest},
		{"a wrong number, and bytes that are left", name + "\x00\x00", api.ErrBound},
	}
	for _, size := range []string{"\xfd\xfd\x00", "\xfe\x00\x00\x01\x00", "\xff\x00\x00\x00\x00\x01\x00\x00\x00"} {
		for end := 1; end < len(size); end++ {
			all = append(all, wrong{"a size that ends", name + size[:end], api.ErrEnd},
				wrong{"an index that ends", name + "\x01" + size[:end], api.ErrEnd})
		}
	}
	return all
}

// P5, example 8.
func TestServeOfTheDocument(t *testing.T) {
	txs, name := several(6), nameOfBlocks()
	wantReply(t, blockOf(txs...), name+"\x03\x01\x00\x02", name+"\x03"+txs[1]+txs[2]+txs[5])
}

// P5: each set of places of a block of six, and of MaxTxs one, several, all.
func TestServeOfAllRequests(t *testing.T) {
	txs, name := several(6), nameOfBlocks()
	for set := 1; set < 1<<6; set++ {
		var places []int
		want := ""
		for place, tx := range txs {
			if set>>place&1 == 1 {
				places = append(places, place)
				want += tx
			}
		}
		wantReply(t, blockOf(txs...), asking(name, places...), name+one(len(places))+want)
	}
	txs = several(api.MaxTxs)
	wantReply(t, blockOf(txs...), asking(name, 0), name+"\x01"+txs[0])
	wantReply(t, blockOf(txs...), asking(name, 15), name+"\x01"+txs[15])
	wantReply(t, blockOf(txs...), asking(name, 0, 7, 15), name+"\x03"+txs[0]+txs[7]+txs[15])
	wantReply(t, blockOf(txs...), name+"\x10"+strings.Repeat("\x00", 16), name+"\x10"+strings.Join(txs, ""))
	wantReply(t, blockOf(leastTx()), asking(name, 0), name+"\x01"+leastTx())
	wantReply(t, blockOf(leastTx(), leastTx()), asking(name, 0, 1), name+"\x02"+leastTx()+leastTx())
}

// P5: the reply has the name of the block that is handed in.
func TestServeOfOtherHeaders(t *testing.T) {
	for _, head := range []string{strings.Repeat("\x00", 80), strings.Repeat("\xff", 80), "x" + header()[1:], header()[:79] + "x"} {
		wantReply(t, head+"\x01"+leastTx(), asking(twice(head), 0), twice(head)+"\x01"+leastTx())
		wantNoReply(t, "another header", head+"\x01"+leastTx(), asking(nameOfBlocks(), 0), api.ErrBlock)
	}
}

// P5: the error of reading the block, ahead of any of the request.
func TestServeOfWrongBlocks(t *testing.T) {
	for _, c := range wrongBlocks() {
		for _, request := range []string{asking(nameOfBlocks(), 0), "", asking(twice("another"), 0), nameOfBlocks() + "\x01\x10"} {
			wantNoReply(t, c.what, c.text, request, c.err)
		}
	}
}

// P5: the error of reading the request, ahead of whether it names another block and of what the block has.
func TestServeOfWrongRequests(t *testing.T) {
	for _, name := range []string{nameOfBlocks(), twice("another")} {
		for _, c := range wrongRequests(name) {
			for _, n := range []int{1, 6, api.MaxTxs} {
				wantNoReply(t, c.what, blockOf(several(n)...), c.text, c.err)
			}
		}
	}
}

// P5: ErrBlock, if the request names another block, be there only one bit between the names; and ahead of ErrIndex.
func TestServeOfAnotherBlock(t *testing.T) {
	block, name := blockOf(several(3)...), nameOfBlocks()
	others := []string{strings.Repeat("\x00", 32), Sum(header()), header()[36:68], twice(block), twice("another")}
	for place := range name {
		others = append(others, name[:place]+one(int(name[place]^1))+name[place+1:])
	}
	for _, other := range others {
		wantNoReply(t, "another name", block, asking(other, 0), api.ErrBlock)
		wantNoReply(t, "another name, and beyond the block", block, asking(other, 3), api.ErrBlock)
	}
}

// P5: ErrIndex, if the block lacks one, at its edge and beyond, whatever else is asked for.
func TestServeOfWhatTheBlockHasNot(t *testing.T) {
	name := nameOfBlocks()
	for n := 1; n < api.MaxTxs; n++ {
		block := blockOf(several(n)...)
		for place := n; place < api.MaxTxs; place++ {
			wantNoReply(t, "one", block, asking(name, place), api.ErrIndex)
			wantNoReply(t, "the first, and one", block, asking(name, 0, place), api.ErrIndex)
		}
		wantNoReply(t, "all places", block, name+"\x10"+strings.Repeat("\x00", 16), api.ErrIndex)
	}
}
