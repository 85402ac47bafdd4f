package relay

import (
	"encoding/binary"
	"slices"
	"strings"
	"testing"

	"compact/api"
)

// rootOf is the Merkle root of transactions, worked out beside the program.
func rootOf(txs []string) string {
	var ids []string
	for _, tx := range txs {
		ids = append(ids, twice(tx))
	}
	heights := 0
	for 1<<heights < len(ids) {
		heights++
	}
	return rootByHalves(ids, heights)
}

// headerOf is a header that speaks of these transactions.
func headerOf(txs ...string) string { return stepping(36) + rootOf(txs) + stepping(80)[68:] }

// sealed is the block of these transactions, of which its header speaks.
func sealed(txs ...string) string { return headerOf(txs...) + one(len(txs)) + strings.Join(txs, "") }

// counted is the least transaction with a number in it.
func counted(n uint64) string {
	tx := leastTx()
	return tx[:5] + string(binary.LittleEndian.AppendUint64(nil, n)) + tx[13:]
}

// wrongTxs: each error of reading a transaction, at its edges.
func wrongTxs() []wrong {
	var all []wrong
	for _, tx := range []string{leastTx(), transaction(2, 3, 2, 5)} {
		for end := range len(tx) {
			all = append(all, wrong{"a transaction that ends", tx[:end], api.ErrEnd})
		}
		all = append(all, wrong{"a byte that is left", tx + "\x00", api.ErrRest}, wrong{"one that is left", tx + tx, api.ErrRest})
	}
	for what, ahead := range aheadOfSizes() {
		for _, size := range longSizes {
			all = append(all, wrong{"a long size of " + what, ahead + size + strings.Repeat("\x01", 300), api.ErrSize})
		}
		for _, size := range greatSizes {
			all = append(all, wrong{"a great size of " + what, ahead + size + strings.Repeat("\x01", 300), api.ErrBound})
		}
	}
	return append(all, boundTxs()...)
}

// boundTxs: of which one size is just beyond its bounds, or could be shorter; all else of them is right.
func boundTxs() []wrong {
	return []wrong{
		{"no inputs", transaction(0, 0, 1, 0), api.ErrBound},
		{"five inputs", transaction(5, 0, 1, 0), api.ErrBound},
		{"no outputs", transaction(1, 0, 0, 0), api.ErrBound},
		{"five outputs", transaction(1, 0, 5, 0), api.ErrBound},
		{"41 bytes in an input", transaction(1, 41, 1, 0), api.ErrBound},
		{"41 bytes in an output", transaction(1, 0, 1, 41), api.ErrBound},
		{"a long size of inputs", counts{"\xfd\x01\x00", "\x00", "\x01", "\x00"}.written(1, 0, 1, 0), api.ErrSize},
		{"a long size of a script", counts{"\x01", "\x00", "\x01", "\xfd\x01\x00"}.written(1, 0, 1, 1), api.ErrSize},
	}
}

// receiverOf has these transactions in its pool.
func receiverOf(t *testing.T, txs ...string) *Receiver {
	t.Helper()
	r := NewReceiver()
	for _, tx := range txs {
		if err := r.Add(tx); err != api.OK {
			t.Fatalf("P6: Add(%x) = %d", tx, err)
		}
	}
	return r
}

// wantIDs: the digests of these transactions, rising, and nothing else.
func wantIDs(t *testing.T, what string, r *Receiver, txs ...string) {
	t.Helper()
	var want []string
	for _, tx := range txs {
		want = append(want, twice(tx))
	}
	slices.Sort(want)
	if got := r.IDs(); !slices.Equal(got, want) {
		t.Errorf("P6: %s: IDs() = %x, want %x", what, got, want)
	}
}

func wantAnswer(t *testing.T, what string, got api.Answer, err api.Errno, want api.Answer) {
	t.Helper()
	if got != want || err != api.OK {
		t.Errorf("%s: %d, %x, %d, want %d, %x", what, got.State, got.Bytes, err, want.State, want.Bytes)
	}
}

// wantFault: beside it stands the zero Answer.
func wantFault(t *testing.T, what string, got api.Answer, err api.Errno, want api.Errno) {
	t.Helper()
	if got != (api.Answer{}) || err != want {
		t.Errorf("%s: %d, %x, %d, want the error %d alone", what, got.State, got.Bytes, err, want)
	}
}

func done(block string) api.Answer { return api.Answer{State: api.Done, Bytes: block} }

func waits(request string) api.Answer { return api.Answer{State: api.Waits, Bytes: request} }

func falls() api.Answer { return api.Answer{State: api.Falls} }

// replying is the reply with these transactions.
func replying(name string, txs ...string) string { return name + one(len(txs)) + strings.Join(txs, "") }

// nothingWaits: a reply in a right form is told that nothing is waited for.
func nothingWaits(t *testing.T, what string, r *Receiver, name string, txs ...string) {
	t.Helper()
	answer, err := r.Reply(replying(name, txs...))
	wantFault(t, what+": a reply behind it", answer, err, api.ErrState)
}

// members is those of the list that the bits of a set speak of, and their places.
func members(set int, txs []string) ([]string, []int) {
	var list []string
	var places []int
	for place, tx := range txs {
		if set>>place&1 == 1 {
			list, places = append(list, tx), append(places, place)
		}
	}
	return list, places
}
