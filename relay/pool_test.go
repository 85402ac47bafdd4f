package relay

import (
	"slices"
	"strings"
	"testing"

	"compact/api"
	"compact/hashes"
)

func wantAdd(t *testing.T, what string, r *Receiver, tx string, want api.Errno) {
	t.Helper()
	if err := r.Add(tx); err != want {
		t.Errorf("P6: %s: Add(%x) = %d, want %d", what, tx, err, want)
	}
}

func wantDrop(t *testing.T, what string, r *Receiver, id string, want bool) {
	t.Helper()
	if was := r.Drop(id); was != want {
		t.Errorf("P6: %s: Drop(%x) = %v, want %v", what, id, was, want)
	}
}

// P6: the pool has what was added, in whatever order it came, and its digests rise at each number of them.
func TestAddAndIDs(t *testing.T) {
	txs := several(api.MaxPool)
	backwards := slices.Clone(txs)
	slices.Reverse(backwards)
	for _, order := range [][]string{txs, backwards} {
		r := NewReceiver()
		wantIDs(t, "an empty pool", r)
		for n, tx := range order {
			wantAdd(t, "one more", r, tx, api.OK)
			wantIDs(t, "one more", r, order[:n+1]...)
		}
	}
}

// P6: bytes are held against each other as numbers from 0 to 255, and the first that differs counts.
func TestIDsRise(t *testing.T) {
	r := receiverOf(t, several(api.MaxPool)...)
	ids := r.IDs()
	low, high := 0, 0
	for i, id := range ids {
		if len(id) != 32 {
			t.Errorf("P6: a digest of %d bytes", len(id))
		}
		if i > 0 && slices.Compare([]byte(ids[i-1]), []byte(id)) >= 0 {
			t.Errorf("P6: %x stands ahead of %x", ids[i-1], id)
		}
		if id[0] < 128 {
			low++
		} else {
			high++
		}
	}
	if low == 0 || high == 0 {
		t.Errorf("the digests tell nothing: %d low, %d high", low, high)
	}
}

// P1, P6: lists that are handed out are new each time, of an empty pool, too, with the room behind their ends.
func TestIDsAreNewEachTime(t *testing.T) {
	for _, n := range []int{0, 1, 2, 7, api.MaxPool} {
		txs := several(n)
		r := receiverOf(t, txs...)
		first, second := r.IDs(), r.IDs()
		before := slices.Clone(second)
		first = first[:cap(first)]
		for i := range first {
			first[i] = "written by the caller"
		}
		if !slices.Equal(second, before) {
			t.Errorf("P1: two lists of %d share their room", n)
		}
		_ = append(second, "behind the end")
		wantIDs(t, "behind a caller who writes", r, txs...)
		held := r.IDs()
		before = slices.Clone(held)
		for _, id := range before {
			r.Drop(id)
		}
		r.Add(counted(1))
		if !slices.Equal(held, before) {
			t.Errorf("P1: the pool wrote into a list of %d that it had handed out", n)
		}
	}
}

// P6: each error of reading, of a pool that is empty, has some, or is full; and it changes nothing.
func TestAddOfWrongTransactions(t *testing.T) {
	for _, n := range []int{0, 3, api.MaxPool} {
		txs := several(n)
		r := receiverOf(t, txs...)
		for _, c := range wrongTxs() {
			wantAdd(t, c.what, r, c.text, c.err)
		}
		for _, tx := range txs {
			wantAdd(t, "what the pool has, with a byte behind it", r, tx+"x", api.ErrRest)
			wantAdd(t, "what the pool has, without its last byte", r, tx[:len(tx)-1], api.ErrEnd)
		}
		wantIDs(t, "behind errors", r, txs...)
	}
}

// P6: ErrHas at any number of transactions, a full pool, too; and it changes nothing.
func TestAddOfWhatThePoolHas(t *testing.T) {
	txs := several(api.MaxPool)
	r := NewReceiver()
	for n, tx := range txs {
		wantAdd(t, "one more", r, tx, api.OK)
		for _, again := range txs[:n+1] {
			wantAdd(t, "what the pool has", r, again, api.ErrHas)
		}
		wantIDs(t, "behind ErrHas", r, txs[:n+1]...)
	}
}

// P6: two transactions that differ in a bit are two.
func TestAddOfAlmostTheSame(t *testing.T) {
	r := receiverOf(t, counted(0), counted(1))
	wantAdd(t, "another bit", r, counted(1<<63), api.OK)
	wantAdd(t, "the same", r, counted(1<<63), api.ErrHas)
	wantIDs(t, "three", r, counted(0), counted(1), counted(1<<63))
}

// P6: ErrFull, if the pool has MaxPool, and no sooner; it changes nothing; and where one has left, there is room for one.
func TestAddToAFullPool(t *testing.T) {
	txs := several(api.MaxPool + 2)
	full := txs[:api.MaxPool]
	r := receiverOf(t, full...)
	for range 2 {
		wantAdd(t, "one beyond", r, txs[20], api.ErrFull)
		wantAdd(t, "another one beyond", r, txs[21], api.ErrFull)
		wantIDs(t, "behind ErrFull", r, full...)
	}
	wantDrop(t, "of a full pool", r, twice(txs[4]), true)
	wantAdd(t, "in its room", r, txs[20], api.OK)
	wantAdd(t, "one beyond again", r, txs[21], api.ErrFull)
	wantAdd(t, "the one that left", r, txs[4], api.ErrFull)
	wantIDs(t, "behind it", r, slices.Concat(txs[:4], txs[5:21])...)
}

// P6: Drop of one that is there, wherever its digest stands; of one that has left, or has never been there.
func TestDrop(t *testing.T) {
	for _, n := range []int{1, 2, 5, api.MaxPool} {
		txs := several(n)
		for place, tx := range txs {
			r := receiverOf(t, txs...)
			rest := slices.Concat(txs[:place], txs[place+1:])
			wantDrop(t, "one that is there", r, twice(tx), true)
			wantIDs(t, "behind Drop", r, rest...)
			wantDrop(t, "one that has left", r, twice(tx), false)
			wantIDs(t, "behind Drop of nothing", r, rest...)
			wantAdd(t, "one that has left", r, tx, api.OK)
			wantIDs(t, "behind Add", r, txs...)
		}
	}
	wantDrop(t, "of an empty pool", NewReceiver(), twice("a"), false)
}

// P6: what is no digest of the pool's changes nothing, be it of other bytes than 32, or one bit beside.
func TestDropOfOthers(t *testing.T) {
	txs := several(3)
	r := receiverOf(t, txs...)
	others := []string{"", "x", strings.Repeat("\x00", 31), strings.Repeat("\x00", 32), strings.Repeat("\xff", 33), strings.Repeat("x", 1<<16)}
	for _, tx := range txs {
		id := twice(tx)
		others = append(others, tx, Sum(tx), id[:31], id[1:], id+"\x00", "\x00"+id, id+id, id[:6])
		for place := range id {
			others = append(others, id[:place]+one(int(id[place]^0x80))+id[place+1:])
		}
	}
	for _, other := range others {
		wantDrop(t, "another", r, other, false)
	}
	wantIDs(t, "behind them all", r, txs...)
}

// P1: a receiver that no call has made is of an empty pool, too.
func TestZeroReceiver(t *testing.T) {
	block := sealed(counted(1))
	message := shortOf(headerOf(counted(1)), 1, []string{counted(1)}, nil)
	for name, call := range map[string]func(*Receiver){
		"Add":     func(r *Receiver) { wantAdd(t, "a zero one", r, leastTx(), api.OK) },
		"Drop":    func(r *Receiver) { wantDrop(t, "a zero one", r, twice(leastTx()), false) },
		"IDs":     func(r *Receiver) { wantIDs(t, "a zero one", r) },
		"Reply":   func(r *Receiver) { nothingWaits(t, "a zero one", r, twice("x"), leastTx()) },
		"Compact": func(r *Receiver) { wantFull(t, "a zero one", r, message, counted(1), block) },
	} {
		catch(t, name, func() { call(new(Receiver)) })
	}
}

// wantFull: the block waits for one transaction, and is there when it has come.
func wantFull(t *testing.T, what string, r *Receiver, message string, lacks string, block string) {
	t.Helper()
	answer, err := r.Compact(message)
	wantAnswer(t, "P7: "+what, answer, err, waits(asking(twice(block[:80]), 0)))
	answer, err = r.Reply(replying(twice(block[:80]), lacks))
	wantAnswer(t, "P8: "+what, answer, err, done(block))
}

// The pool's workers find each transaction once, with its short id, at any number of transactions.
func TestFind(t *testing.T) {
	txs := several(api.MaxPool)
	key := hashes.ShortKeyOf(header(), someNumber)
	for n := range len(txs) + 1 {
		r := receiverOf(t, txs[:n]...)
		var got, want []string
		for tx := range r.find(key) {
			got = append(got, string([]byte{
				byte(tx.shortID), byte(tx.shortID >> 8), byte(tx.shortID >> 16),
				byte(tx.shortID >> 24), byte(tx.shortID >> 32), byte(tx.shortID >> 40)})+tx.transaction)
		}
		for _, tx := range txs[:n] {
			want = append(want, shortID(header(), someNumber, tx)+tx)
		}
		slices.Sort(got)
		slices.Sort(want)
		if !slices.Equal(got, want) {
			t.Errorf("P7: the pool of %d finds %x, want %x", n, got, want)
		}
	}
}

// P7: a short id that several have is as one that none has, however many they are and in whatever order they are found.
func TestSingle(t *testing.T) {
	for _, c := range []struct {
		finds []found
		want  map[uint64]string
	}{
		{nil, map[uint64]string{1: ""}},
		{[]found{{1, "a"}}, map[uint64]string{1: "a", 2: ""}},
		{[]found{{1, "a"}, {2, "b"}}, map[uint64]string{1: "a", 2: "b"}},
		{[]found{{1, "a"}, {1, "b"}}, map[uint64]string{1: ""}},
		{[]found{{1, "a"}, {1, "b"}, {1, "c"}}, map[uint64]string{1: ""}},
		{[]found{{1, "a"}, {1, "b"}, {1, "c"}, {1, "d"}}, map[uint64]string{1: ""}},
		{[]found{{1, "a"}, {2, "b"}, {1, "c"}, {3, "d"}, {1, "e"}}, map[uint64]string{1: "", 2: "b", 3: "d"}},
		{[]found{{0, "a"}, {1 << 47, "b"}, {1<<48 - 1, "c"}}, map[uint64]string{0: "a", 1 << 47: "b", 1<<48 - 1: "c", 1: ""}},
	} {
		finds := make(chan found, len(c.finds))
		for _, tx := range c.finds {
			finds <- tx
		}
		close(finds)
		got := single(finds)
		for id, want := range c.want {
			if got[id].transaction != want {
				t.Errorf("P7: of %v the one of %d is %q, want %q", c.finds, id, got[id].transaction, want)
			}
		}
	}
}
