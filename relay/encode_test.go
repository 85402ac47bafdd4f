package relay

import (
	"crypto/sha256"
	"encoding/binary"
	"encoding/hex"
	"math"
	"slices"
	"strings"
	"testing"

	"compact/api"
)

const someNumber = 0x8877665544332211

// shortID is six bytes, worked out with another SHA-256 than this program's.
func shortID(header string, number uint64, tx string) string {
	key := sha256.Sum256(binary.LittleEndian.AppendUint64([]byte(header), number))
	sip := Sip(binary.LittleEndian.Uint64(key[:8]), binary.LittleEndian.Uint64(key[8:16]), twice(tx))
	return string(binary.LittleEndian.AppendUint64(nil, sip)[:6])
}

// shortOf is the short block of these transactions, with those along that are said.
func shortOf(header string, number uint64, txs []string, along []int) string {
	ids, sent, next := "", "", 0
	for place, tx := range txs {
		if !slices.Contains(along, place) {
			ids += shortID(header, number, tx)
			continue
		}
		sent += one(place-next) + tx
		next = place + 1
	}
	head := header + string(binary.LittleEndian.AppendUint64(nil, number))
	return head + one(len(txs)-len(along)) + ids + one(len(along)) + sent
}

func wantShort(t *testing.T, block string, number uint64, along []int, want string) {
	t.Helper()
	if got, err := Encode(block, number, along); got != want || err != api.OK {
		t.Errorf("P4: Encode(%d bytes, %x, %v) = %x, %d, want %x", len(block), number, along, got, err, want)
	}
}

func wantNoShort(t *testing.T, what string, block string, along []int, want api.Errno) {
	t.Helper()
	if got, err := Encode(block, someNumber, along); got != "" || err != want {
		t.Errorf("P4: %s: Encode(%x, along %v) = %x, %d, want %d", what, block, along, got, err, want)
	}
}

// withFirst is each list of rising places of a block of so many that begins with 0.
func withFirst(places int) [][]int {
	lists := [][]int{{0}}
	for place := 1; place < places; place++ {
		for _, list := range slices.Clone(lists) {
			lists = append(lists, append(slices.Clone(list), place))
		}
	}
	return lists
}

// P4, example 6.
func TestEncodeOfTheDocument(t *testing.T) {
	txs := several(3)
	head := header() + "\x11\x22\x33\x44\x55\x66\x77\x88"
	wantShort(t, blockOf(txs...), someNumber, []int{0, 2},
		head+"\x01"+shortID(header(), someNumber, txs[1])+"\x02"+"\x00"+txs[0]+"\x01"+txs[2])
}

// P4, example 7.
func TestEncodeAlongOfTheDocument(t *testing.T) {
	block := blockOf(several(3)...)
	for _, along := range [][]int{nil, {}, {1}, {0, 0}, {0, 2, 1}} {
		wantNoShort(t, "the document's", block, along, api.ErrFirst)
	}
	for _, along := range [][]int{{3}, {1, 3}} {
		wantNoShort(t, "the document's", block, along, api.ErrIndex)
	}
}

// P4: all lists that may be sent along, of blocks of one transaction to six, and of MaxTxs.
func TestEncodeWithAllLists(t *testing.T) {
	for n := 1; n <= 6; n++ {
		txs := several(n)
		for _, along := range withFirst(n) {
			wantShort(t, blockOf(txs...), someNumber, along, shortOf(header(), someNumber, txs, along))
		}
	}
	txs := several(api.MaxTxs)
	for _, along := range [][]int{{0}, {0, 15}, {0, 1}, {0, 7, 8, 14}, {0, 1, 2, 3, 4, 5, 6, 7, 8, 9, 10, 11, 12, 13, 14, 15}} {
		wantShort(t, blockOf(txs...), someNumber, along, shortOf(header(), someNumber, txs, along))
	}
}

// P4: short ids hang on all of the header and all of the number.
func TestEncodeWithOtherHeadersAndNumbers(t *testing.T) {
	txs := several(3)
	behind := "\x03" + strings.Join(txs, "")
	for _, number := range []uint64{0, 1, 255, 256, 1 << 32, 1 << 63, math.MaxUint64} {
		wantShort(t, header()+behind, number, []int{0}, shortOf(header(), number, txs, []int{0}))
	}
	for place := range 80 {
		other := header()[:place] + "\xff" + header()[place+1:]
		wantShort(t, other+behind, 7, []int{0, 1}, shortOf(other, 7, txs, []int{0, 1}))
	}
}

// P4: short ids as OpenSSL tells them.
func TestEncodeWithKnownShortIDs(t *testing.T) {
	for number, want := range map[uint64]string{
		0:              "cfc3d2438944",
		1:              "85565a5cd10e",
		someNumber:     "02e6d4afa58e",
		math.MaxUint64: "7d68055b0cbe",
	} {
		short, err := Encode(blockOf(several(1)[0], leastTx()), number, []int{0})
		if err != api.OK || len(short) < 95 || hex.EncodeToString([]byte(short[89:95])) != want {
			t.Errorf("P4: with the number %x: %x, %d, want the short id %s", number, short, err, want)
		}
	}
}

// P4: neither is a transaction that stands twice left out, nor is the root looked at.
func TestEncodeDoesNotLookAtTheBlock(t *testing.T) {
	txs := []string{leastTx(), leastTx(), transaction(1, 0, 1, 0), transaction(1, 0, 1, 0), leastTx()}
	for _, along := range [][]int{{0}, {0, 1}, {0, 2}, {0, 3, 4}} {
		wantShort(t, blockOf(txs...), 0, along, shortOf(header(), 0, txs, along))
	}
}

// P4: ErrIndex at the edges of each block, and far beyond.
func TestEncodeOfIndexesBeyondTheBlock(t *testing.T) {
	for _, n := range []int{1, 2, 3, 15, 16} {
		block := blockOf(several(n)...)
		for _, index := range []int{n, n + 1, 17, 255, 256, 1 << 16, 1 << 32, math.MaxInt, -1, -2, -n, -256, -1 << 32, math.MinInt} {
			for _, along := range [][]int{{index}, {0, index}, {0, index, 0}, {index, 0}} {
				wantNoShort(t, "beyond", block, along, api.ErrIndex)
			}
		}
		last := []int{0, n - 1}[:min(n, 2)]
		if short, err := Encode(block, 0, last); short == "" || err != api.OK {
			t.Errorf("P4: the last of %d: %x, %d", n, short, err)
		}
	}
}

// P4: of both errors the one that comes first along the list counts; that the list does not begin with 0 is told last.
func TestEncodeTellsTheFirstErrorOfTheList(t *testing.T) {
	block := blockOf(several(4)...)
	for _, c := range []struct {
		along []int
		want  api.Errno
	}{
		{[]int{0, 0, 4}, api.ErrFirst},
		{[]int{0, 4, 0}, api.ErrIndex},
		{[]int{2, 1, 4}, api.ErrFirst},
		{[]int{2, 4, 1}, api.ErrIndex},
		{[]int{0, 2, -1}, api.ErrIndex},
		{[]int{-1, -1}, api.ErrIndex},
		{[]int{4, 4}, api.ErrIndex},
		{[]int{3, 3}, api.ErrFirst},
		{[]int{1, 2, 3}, api.ErrFirst},
		{[]int{1, 2, 4}, api.ErrIndex},
		{[]int{1, 2, 3, -1}, api.ErrIndex},
		{[]int{3, 0}, api.ErrFirst},
		{[]int{0, 1, 2, 3, 3}, api.ErrFirst},
		{[]int{0, 1, 2, 3, 4}, api.ErrIndex},
		{[]int{0, 1, 3, 2}, api.ErrFirst},
		{[]int{0, 1, 3, 1}, api.ErrFirst},
		{[]int{0, 1, 3, 0}, api.ErrFirst},
		{[]int{0, 3, 1, 2}, api.ErrFirst},
	} {
		wantNoShort(t, "two errors", block, c.along, c.want)
	}
}

// P4: the error of reading the block is told, and that ahead of any of the list.
func TestEncodeOfWrongBlocks(t *testing.T) {
	for _, c := range wrongBlocks() {
		for _, along := range [][]int{{0}, nil, {99}, {0, 0}} {
			wantNoShort(t, c.what, c.text, along, c.err)
		}
	}
}

// P1: the list that is handed in is left as it was, with the room behind it.
func TestEncodeLeavesItsList(t *testing.T) {
	block := blockOf(several(5)...)
	for _, along := range append(withFirst(5), []int{3, 1, 2}, []int{0, 0}, []int{0, 9}) {
		room := append(slices.Clone(along), -7, -8)
		before := slices.Clone(room)
		Encode(block, 1, room[:len(along)])
		if !slices.Equal(room, before) {
			t.Errorf("P1: Encode made %v of %v", room, before)
		}
	}
}
