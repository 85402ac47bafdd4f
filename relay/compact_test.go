package relay

import (
	"slices"
	"strings"
	"testing"

	"compact/api"
)

// P7, P8, example 9.
func TestReceiverOfTheDocument(t *testing.T) {
	txs := several(3)
	block := sealed(txs...)
	name := twice(block[:80])
	message, err := Encode(block, someNumber, []int{0, 2})
	if err != api.OK {
		t.Fatalf("P4: %d", err)
	}
	answer, err := receiverOf(t, txs[1]).Compact(message)
	wantAnswer(t, "P7: the second is there", answer, err, done(block))
	r := NewReceiver()
	answer, err = r.Compact(message)
	wantAnswer(t, "P7: none is there", answer, err, waits(name+"\x01\x01"))
	reply, err := Serve(block, answer.Bytes)
	if err != api.OK {
		t.Fatalf("P5: %d", err)
	}
	answer, err = r.Reply(reply)
	wantAnswer(t, "P8: Serve's answer", answer, err, done(block))
	answer, err = r.Reply(reply)
	wantFault(t, "P8: once more", answer, err, api.ErrState)
}

// P7, example 10; P7, example 8: the request for the places 1, 2 and 5.
func TestCompactOfTheDocument(t *testing.T) {
	head := headAndNumber()
	answer, err := NewReceiver().Compact(head + "\x00\x00")
	wantFault(t, "P7: none at all", answer, err, api.ErrBound)
	answer, err = NewReceiver().Compact(head + "\x01shorty\x01\x02" + leastTx())
	wantFault(t, "P7: index 02", answer, err, api.ErrIndex)
	txs := several(6)
	r := receiverOf(t, txs[4])
	answer, err = r.Compact(shortOf(headerOf(txs...), someNumber, txs, []int{0, 3}))
	wantAnswer(t, "P7: the places 1, 2 and 5", answer, err, waits(twice(headerOf(txs...))+"\x03\x01\x00\x02"))
}

// P7, P8: each set of places sent along, the first or not, with each set in the pool, and others beside them.
func TestCompactOfAllSets(t *testing.T) {
	const n = 5
	txs := several(n)
	others := several(n + 3)[n:]
	block, name := sealed(txs...), twice(headerOf(txs...))
	for set := range 1 << n {
		_, along := members(set, txs)
		message := shortOf(headerOf(txs...), someNumber, txs, along)
		for has := range 1 << n {
			pooled, _ := members(has, txs)
			r := receiverOf(t, append(pooled, others...)...)
			lacks, places := members(^(set | has), txs)
			answer, err := r.Compact(message)
			if len(places) == 0 {
				wantAnswer(t, "P7: nothing lacks", answer, err, done(block))
				nothingWaits(t, "P7: Done", r, name, txs[0])
			} else {
				wantAnswer(t, "P7: some lack", answer, err, waits(asking(name, places...)))
				answer, err = r.Reply(replying(name, lacks...))
				wantAnswer(t, "P8: they have come", answer, err, done(block))
				nothingWaits(t, "P8: Done", r, name, lacks...)
			}
			wantIDs(t, "behind Compact and Reply", r, append(pooled, others...)...)
		}
	}
}

// P7, P8: blocks of each number of transactions, without one sent along: with a full pool, and with an empty one.
func TestCompactOfAllNumbers(t *testing.T) {
	pooled := several(api.MaxPool)
	for n := 1; n <= api.MaxTxs; n++ {
		txs := slices.Clone(pooled[api.MaxPool-n:])
		slices.Reverse(txs)
		block, name := sealed(txs...), twice(headerOf(txs...))
		message := shortOf(headerOf(txs...), 0, txs, nil)
		answer, err := receiverOf(t, pooled...).Compact(message)
		wantAnswer(t, "P7: all in a full pool", answer, err, done(block))
		r := NewReceiver()
		answer, err = r.Compact(message)
		wantAnswer(t, "P7: none", answer, err, waits(name+one(n)+strings.Repeat("\x00", n)))
		answer, err = r.Reply(replying(name, txs...))
		wantAnswer(t, "P8: all", answer, err, done(block))
		_, all := members(-1, txs)
		answer, err = NewReceiver().Compact(shortOf(headerOf(txs...), 0, txs, all))
		wantAnswer(t, "P7: all sent along", answer, err, done(block))
	}
}

// P7: at most MaxTxs in all, be they short ids or sent along, and a place sent along may be the last.
func TestCompactAtTheBound(t *testing.T) {
	txs := several(api.MaxTxs)
	block, name := sealed(txs...), twice(headerOf(txs...))
	for _, along := range [][]int{{15}, {0, 15}, {1, 2, 3, 4, 5, 6, 7, 8, 9, 10, 11, 12, 13, 14, 15}, {0, 1, 2, 3, 4, 5, 6, 7, 8, 9, 10, 11, 12, 13, 14}, {8, 9, 10, 11, 12, 13, 14, 15}} {
		message := shortOf(headerOf(txs...), 1<<63, txs, along)
		answer, err := receiverOf(t, txs...).Compact(message)
		wantAnswer(t, "P7: all there", answer, err, done(block))
		var lacks []int
		for place := range txs {
			if !slices.Contains(along, place) {
				lacks = append(lacks, place)
			}
		}
		answer, err = NewReceiver().Compact(message)
		wantAnswer(t, "P7: an empty pool", answer, err, waits(asking(name, lacks...)))
	}
}

// P7: what Encode tells with another number, or another header, has other short ids, and is found all the same.
func TestCompactOfOtherNumbers(t *testing.T) {
	txs := several(7)
	block := sealed(txs...)
	for _, number := range []uint64{0, 1, 255, 1 << 32, 1 << 63, 1<<64 - 1} {
		message, err := Encode(block, number, []int{0, 6})
		if err != api.OK {
			t.Fatalf("P4: %d", err)
		}
		answer, err := receiverOf(t, txs[1:6]...).Compact(message)
		wantAnswer(t, "P7: with another number", answer, err, done(block))
	}
	message := shortOf(headerOf(txs...), 5, txs, []int{0})
	other := message[:80] + "\x06" + message[81:]
	answer, err := receiverOf(t, txs...).Compact(other)
	wantAnswer(t, "P7: short ids by another number", answer, err, waits(asking(twice(block[:80]), 1, 2, 3, 4, 5, 6)))
}

// P7: each error of reading, with the zero Answer; the pool stays as it is, and what was waited for is forgotten.
func TestCompactOfWrongMessages(t *testing.T) {
	txs := several(4)
	name := twice(headerOf(txs...))
	r := receiverOf(t, txs[1], leastTx())
	message := shortOf(headerOf(txs...), someNumber, txs, []int{0})
	for _, c := range wrongShorts() {
		answer, err := NewReceiver().Compact(c.text)
		wantFault(t, "P7: nothing waited for: "+c.what, answer, err, c.err)
		answer, err = r.Compact(message)
		wantAnswer(t, "P7: two lack", answer, err, waits(asking(name, 2, 3)))
		answer, err = r.Compact(c.text)
		wantFault(t, "P7: "+c.what, answer, err, c.err)
		nothingWaits(t, "P7: "+c.what, r, name, txs[2], txs[3])
	}
	wantIDs(t, "behind errors", r, txs[1], leastTx())
}

// P7: what was waited for is forgotten, whatever comes behind it: Done, Falls, or another one that waits.
func TestCompactForgets(t *testing.T) {
	txs, others := several(4), several(6)[4:]
	name, other := twice(headerOf(txs...)), twice(headerOf(others...))
	message := shortOf(headerOf(txs...), someNumber, txs, []int{0})
	for what, second := range map[string]string{
		"Done":        shortOf(headerOf(others...), 1, others, []int{0, 1}),
		"a bad root":  shortOf(header(), 1, others, []int{0, 1}),
		"a short id":  header() + "noncenon\x02shortyshorty\x00",
		"no such one": header() + "noncenon",
	} {
		r := receiverOf(t, txs[1])
		r.Compact(message)
		r.Compact(second)
		nothingWaits(t, "P7: "+what, r, name, txs[2], txs[3])
	}
	r := receiverOf(t, txs[1])
	r.Compact(message)
	answer, err := r.Compact(shortOf(headerOf(others...), 1, others, []int{0}))
	wantAnswer(t, "P7: another one", answer, err, waits(asking(other, 1)))
	answer, err = r.Reply(replying(name, txs[2], txs[3]))
	wantFault(t, "P8: for the first one", answer, err, api.ErrBlock)
	answer, err = r.Reply(replying(other, others[1]))
	wantAnswer(t, "P8: for the other one", answer, err, done(sealed(others...)))
	r.Compact(message)
	answer, err = r.Compact(shortOf(headerOf(txs...), 9, txs, []int{0, 2}))
	wantAnswer(t, "P7: the same block with more", answer, err, waits(asking(name, 3)))
	answer, err = r.Reply(replying(name, txs[2], txs[3]))
	wantFault(t, "P8: for the first request", answer, err, api.ErrCount)
	answer, err = r.Reply(replying(name, txs[3]))
	wantAnswer(t, "P8: for the second request", answer, err, done(sealed(txs...)))
}

// P7: two short ids that are the same make it fall, wherever they stand, and whatever the pool has.
func TestCompactOfTheSameShortIDs(t *testing.T) {
	txs := several(5)
	for i := 1; i < 5; i++ {
		for j := 1; j < i; j++ {
			list := slices.Clone(txs)
			list[i] = list[j]
			head := headerOf(list...)
			message := shortOf(head, someNumber, list, []int{0})
			for _, pooled := range [][]string{nil, txs[j : j+1], txs[1:]} {
				r := receiverOf(t, pooled...)
				answer, err := r.Compact(message)
				wantAnswer(t, "P7: the same short ids", answer, err, falls())
				nothingWaits(t, "P7: the same short ids", r, twice(head), txs[1])
				wantIDs(t, "the same short ids", r, pooled...)
			}
		}
	}
	answer, err := NewReceiver().Compact(headAndNumber() + "\x10" + shortIDs(15)[1:] + "ohort!" + "\x00")
	wantAnswer(t, "P7: the last two of MaxTxs", answer, err, falls())
}

// P7: short ids that differ in one bit are not the same, be it the highest or the lowest.
func TestCompactOfAlmostTheSameShortIDs(t *testing.T) {
	for place := range 6 {
		for bit := range 8 {
			other := []byte("shorty")
			other[place] ^= 1 << bit
			answer, err := receiverOf(t, several(3)...).Compact(headAndNumber() + "\x02shorty" + string(other) + "\x00")
			wantAnswer(t, "P7: almost the same", answer, err, waits(asking(twice(headerOf(several(4)...)), 0, 1)))
		}
	}
}

// P7: a transaction of the pool is put where a short id speaks of it, though it was sent along for another place, too.
func TestCompactPutsWhatWasSentAlong(t *testing.T) {
	a, b := several(2)[0], several(2)[1]
	list := []string{a, b, a}
	message := shortOf(headerOf(list...), someNumber, list, []int{0})
	answer, err := receiverOf(t, a, b).Compact(message)
	wantAnswer(t, "P7: both in the pool", answer, err, done(sealed(list...)))
	r := receiverOf(t, b)
	answer, err = r.Compact(message)
	wantAnswer(t, "P7: what was sent along is not in the pool", answer, err, waits(asking(twice(headerOf(list...)), 2)))
	answer, err = r.Reply(replying(twice(headerOf(list...)), a))
	wantAnswer(t, "P8: it has come", answer, err, done(sealed(list...)))
}

// twoOfOneID is two transactions that have the same short id by the header of several(3) and someNumber, found by search.
func twoOfOneID(t *testing.T) (string, string) {
	a, b := counted(4430348), counted(13905679)
	head := headerOf(several(3)...)
	if a == b || shortID(head, someNumber, a) != shortID(head, someNumber, b) {
		t.Fatal("the two transactions have not the same short id")
	}
	return a, b
}

// P7: a place whose short id several of the pool have lacks its transaction, as one whose short id none has.
func TestCompactOfAShortIDThatSeveralHave(t *testing.T) {
	a, b := twoOfOneID(t)
	txs := several(3)
	head, name := headerOf(txs...), twice(headerOf(txs...))
	message := shortOf(head, someNumber, []string{txs[0], a, txs[2]}, []int{0})
	for _, pooled := range [][]string{{a, b, txs[2]}, {b, txs[2], a, txs[1]}, {txs[2]}, {txs[2], txs[1]}} {
		r := receiverOf(t, pooled...)
		answer, err := r.Compact(message)
		wantAnswer(t, "P7: none or several have it", answer, err, waits(asking(name, 1)))
		answer, err = r.Reply(replying(name, txs[1]))
		wantAnswer(t, "P8: the one that is meant", answer, err, done(sealed(txs...)))
	}
	for _, pooled := range [][]string{{a, txs[2]}, {b, txs[2]}, {txs[1], a, txs[2]}} {
		r := receiverOf(t, pooled...)
		answer, err := r.Compact(message)
		wantAnswer(t, "P7: just one has it, and another is meant", answer, err, falls())
		nothingWaits(t, "P7: just one has it", r, name, txs[1])
	}
	r := receiverOf(t, a, b, txs[2])
	r.Drop(twice(b))
	answer, err := r.Compact(message)
	wantAnswer(t, "P7: one of both has left", answer, err, falls())
	r.Add(b)
	answer, err = r.Compact(message)
	wantAnswer(t, "P7: it has come again", answer, err, waits(asking(name, 1)))
}

// P7: Falls, if the root is another than the header's, be it in one bit.
func TestCompactOfAWrongRoot(t *testing.T) {
	txs := several(4)
	right := headerOf(txs...)
	for place := 36; place < 68; place++ {
		head := right[:place] + one(int(right[place]^0x80)) + right[place+1:]
		r := receiverOf(t, txs...)
		answer, err := r.Compact(shortOf(head, someNumber, txs, []int{0}))
		wantAnswer(t, "P7: a wrong root", answer, err, falls())
		nothingWaits(t, "P7: a wrong root", r, twice(head), txs[0])
	}
	for place := range 80 {
		if place < 36 || place >= 68 {
			head := right[:place] + one(int(right[place]^1)) + right[place+1:]
			answer, err := receiverOf(t, txs...).Compact(shortOf(head, someNumber, txs, []int{0}))
			wantAnswer(t, "P7: another byte of the header", answer, err, done(head+"\x04"+strings.Join(txs, "")))
		}
	}
	for _, list := range [][]string{{txs[1], txs[0], txs[2], txs[3]}, txs[:3], several(5)} {
		_, all := members(-1, list)
		answer, err := NewReceiver().Compact(shortOf(right, someNumber, list, all))
		wantAnswer(t, "P7: other transactions than the header's", answer, err, falls())
	}
}

// twinBlocks: of which the root is the header's, and twins are told.
func twinBlocks() [][]string {
	x := several(8)
	return [][]string{
		{x[0], x[0]},
		{x[0], x[1], x[2], x[2]},
		{x[0], x[1], x[0], x[1]},
		{x[0], x[0], x[1]},
		{x[0], x[1], x[2], x[3], x[4], x[5], x[4], x[5]},
		{x[0], x[1], x[2], x[3], x[0], x[1], x[2], x[3]},
	}
}

// P7, P8: Falls, if twins are told, though the root is the header's: sent along, of the pool, or of a reply.
func TestCompactOfTwins(t *testing.T) {
	for _, list := range twinBlocks() {
		head := headerOf(list...)
		_, all := members(-1, list)
		r := NewReceiver()
		answer, err := r.Compact(shortOf(head, 1, list, all))
		wantAnswer(t, "P7: twins sent along", answer, err, falls())
		nothingWaits(t, "P7: twins sent along", r, twice(head), list[0])
		var along []int
		r = NewReceiver()
		for place, tx := range list {
			if slices.Contains(list[:place], tx) {
				along = append(along, place)
			} else {
				r.Add(tx)
			}
		}
		answer, err = r.Compact(shortOf(head, 1, list, along))
		wantAnswer(t, "P7: twins of the pool", answer, err, falls())
		r = NewReceiver()
		r.Compact(shortOf(head, 1, list, along))
		var lacks []string
		for place, tx := range list {
			if !slices.Contains(along, place) {
				lacks = append(lacks, tx)
			}
		}
		answer, err = r.Reply(replying(twice(head), lacks...))
		wantAnswer(t, "P8: twins of a reply", answer, err, falls())
		nothingWaits(t, "P8: twins of a reply", r, twice(head), lacks...)
	}
}

// P7: the receiver has the others, whatever becomes of its pool, and asks for no less than it asked for.
func TestCompactKeepsWhatItHas(t *testing.T) {
	txs := several(6)
	block, name := sealed(txs...), twice(headerOf(txs...))
	message := shortOf(headerOf(txs...), someNumber, txs, []int{0, 3})
	for what, becomes := range map[string]func(*Receiver){
		"all leave": func(r *Receiver) {
			for _, id := range r.IDs() {
				r.Drop(id)
			}
		},
		"those that lack come": func(r *Receiver) {
			r.Add(txs[2])
			r.Add(txs[4])
		},
		"others take their room": func(r *Receiver) {
			for n, id := range r.IDs() {
				r.Drop(id)
				r.Add(counted(uint64(n)))
			}
		},
	} {
		r := receiverOf(t, txs[1], txs[5])
		answer, err := r.Compact(message)
		wantAnswer(t, "P7: two lack", answer, err, waits(asking(name, 2, 4)))
		becomes(r)
		answer, err = r.Reply(replying(name, txs[2]))
		wantFault(t, "P8: "+what+", and one has come", answer, err, api.ErrCount)
		answer, err = r.Reply(replying(name, txs[2], txs[4]))
		wantAnswer(t, "P8: "+what, answer, err, done(block))
	}
}
