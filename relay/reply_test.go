package relay

import (
	"slices"
	"strings"
	"testing"

	"compact/api"
)

// P8: each error of reading, ahead of ErrState, ErrBlock and ErrCount; and it changes nothing.
func TestReplyOfWrongMessages(t *testing.T) {
	txs := several(6)
	name := twice(headerOf(txs...))
	message := shortOf(headerOf(txs...), someNumber, txs, []int{0, 3})
	idle, waiting := NewReceiver(), receiverOf(t, txs[5])
	waiting.Compact(message)
	for _, named := range []string{name, twice("another")} {
		for _, c := range wrongReplies(named) {
			answer, err := idle.Reply(c.text)
			wantFault(t, "P8: nothing waited for: "+c.what, answer, err, c.err)
			answer, err = waiting.Reply(c.text)
			wantFault(t, "P8: "+c.what, answer, err, c.err)
		}
	}
	nothingWaits(t, "P8: errors of reading", idle, name, txs[1])
	wantIDs(t, "errors of reading", waiting, txs[5])
	answer, err := waiting.Reply(replying(name, txs[1], txs[2], txs[4]))
	wantAnswer(t, "P8: behind errors of reading", answer, err, done(sealed(txs...)))
}

// P8: ErrState at first, and behind each end, whatever the reply names and has.
func TestReplyWithNothingWaitedFor(t *testing.T) {
	txs := several(3)
	name := twice(headerOf(txs...))
	right := shortOf(headerOf(txs...), someNumber, txs, []int{0, 1, 2})
	for what, ahead := range map[string]string{
		"nothing":     "",
		"an error":    right + "x",
		"Done":        right,
		"Falls":       header() + right[80:],
		"a same pair": headAndNumber() + "\x02shortyshorty\x00",
	} {
		r := receiverOf(t, txs...)
		if what != "nothing" {
			r.Compact(ahead)
		}
		for _, named := range []string{name, twice("another"), strings.Repeat("\x00", 32)} {
			for n := 1; n <= api.MaxTxs; n++ {
				nothingWaits(t, "P8: "+what, r, named, several(n)...)
			}
		}
	}
}

// P8: ErrBlock, be there only one bit between the names, and ahead of ErrCount; and it changes nothing.
func TestReplyOfAnotherBlock(t *testing.T) {
	txs := several(4)
	head := headerOf(txs...)
	name := twice(head)
	r := receiverOf(t, txs[3])
	r.Compact(shortOf(head, someNumber, txs, []int{0}))
	others := []string{strings.Repeat("\x00", 32), Sum(head), head[36:68], twice(sealed(txs...)), twice("another")}
	for place := range name {
		others = append(others, name[:place]+one(int(name[place]^1))+name[place+1:])
	}
	for _, other := range others {
		for n := 1; n <= 4; n++ {
			answer, err := r.Reply(replying(other, txs[1:][:min(n, 3)]...))
			wantFault(t, "P8: another name", answer, err, api.ErrBlock)
		}
	}
	answer, err := r.Reply(replying(name, txs[1], txs[2]))
	wantAnswer(t, "P8: behind other names", answer, err, done(sealed(txs...)))
}

// P8: ErrCount at each other number; and it changes nothing.
func TestReplyOfAnotherNumber(t *testing.T) {
	txs := several(api.MaxTxs)
	block, name := sealed(txs...), twice(headerOf(txs...))
	for lack := 1; lack <= api.MaxTxs; lack++ {
		_, along := members(1<<(api.MaxTxs-lack)-1, txs)
		r := NewReceiver()
		r.Compact(shortOf(headerOf(txs...), someNumber, txs, along))
		for n := 1; n <= api.MaxTxs; n++ {
			if n != lack {
				answer, err := r.Reply(replying(name, txs[api.MaxTxs-n:]...))
				wantFault(t, "P8: another number", answer, err, api.ErrCount)
			}
		}
		answer, err := r.Reply(replying(name, txs[api.MaxTxs-lack:]...))
		wantAnswer(t, "P8: behind other numbers", answer, err, done(block))
	}
}

// P8: it falls, if other transactions come, or in another order, or one of them twice; then nothing is waited for.
func TestReplyThatFalls(t *testing.T) {
	txs := several(6)
	head, name := headerOf(txs...), twice(headerOf(txs...))
	for _, list := range [][]string{
		{txs[2], txs[1], txs[4]},
		{txs[1], txs[4], txs[2]},
		{txs[1], txs[2], txs[5]},
		{txs[1], txs[1], txs[4]},
		{txs[1], txs[2], leastTx()},
		{txs[0], txs[3], txs[5]},
	} {
		r := receiverOf(t, txs[5])
		answer, err := r.Compact(shortOf(head, someNumber, txs, []int{0, 3}))
		wantAnswer(t, "P7: three lack", answer, err, waits(asking(name, 1, 2, 4)))
		answer, err = r.Reply(replying(name, list...))
		wantAnswer(t, "P8: not what was asked for", answer, err, falls())
		nothingWaits(t, "P8: not what was asked for", r, name, txs[1], txs[2], txs[4])
		wantIDs(t, "behind Falls", r, txs[5])
	}
}

// P8: what comes is put where it lacks, in order, though it is not what the short id speaks of: it is the root that counts.
func TestReplyIsNotHeldAgainstShortIDs(t *testing.T) {
	txs := several(3)
	r := NewReceiver()
	name := twice(headerOf(txs...))
	answer, err := r.Compact(headerOf(txs...) + "noncenon" + "\x03" + shortIDs(3)[1:] + "\x00")
	wantAnswer(t, "P7: short ids of nothing", answer, err, waits(asking(name, 0, 1, 2)))
	answer, err = r.Reply(replying(name, txs...))
	wantAnswer(t, "P8: the right ones", answer, err, done(sealed(txs...)))
}

// P8: the same short block may come again behind a reply, and waits again.
func TestReplyOnceMore(t *testing.T) {
	txs := several(4)
	name := twice(headerOf(txs...))
	message := shortOf(headerOf(txs...), someNumber, txs, []int{0})
	r := receiverOf(t, txs[2])
	for range 3 {
		answer, err := r.Compact(message)
		wantAnswer(t, "P7: once more", answer, err, waits(asking(name, 1, 3)))
		answer, err = r.Reply(replying(name, txs[3], txs[1]))
		wantAnswer(t, "P8: in another order", answer, err, falls())
		answer, err = r.Compact(message)
		wantAnswer(t, "P7: once more", answer, err, waits(asking(name, 1, 3)))
		answer, err = r.Reply(replying(name, txs[1], txs[3]))
		wantAnswer(t, "P8: once more", answer, err, done(sealed(txs...)))
	}
	wantIDs(t, "nothing of a block comes into the pool", r, txs[2])
}

// P4, P5, P7, P8: whatever the sender sends along and the receiver has, the block comes over.
func TestSenderAndReceiver(t *testing.T) {
	txs := several(6)
	block := sealed(txs...)
	for _, along := range withFirst(6) {
		for has := range 1 << 6 {
			pooled, _ := members(has, txs)
			r := receiverOf(t, pooled...)
			message, err := Encode(block, uint64(has), along)
			if err != api.OK {
				t.Fatalf("P4: %d", err)
			}
			answer, err := r.Compact(message)
			if answer.State == api.Waits {
				reply, fault := Serve(block, answer.Bytes)
				if fault != api.OK {
					t.Fatalf("P5: %d", fault)
				}
				answer, err = r.Reply(reply)
			}
			wantAnswer(t, "P8: the block", answer, err, done(block))
		}
	}
}

// P1: several receivers, of which none hangs on another, one by one or all at the same time.
func TestReceiversDoNotHangOnEachOther(t *testing.T) {
	txs := several(6)
	name := twice(headerOf(txs...))
	message := shortOf(headerOf(txs...), someNumber, txs, []int{0})
	var receivers []*Receiver
	for set := range 1 << 5 {
		pooled, _ := members(set<<1, txs)
		receivers = append(receivers, receiverOf(t, pooled...))
	}
	for set, r := range receivers {
		_, places := members(^(set<<1 | 1), txs)
		answer, err := r.Compact(message)
		if len(places) > 0 {
			wantAnswer(t, "P7: one of many", answer, err, waits(asking(name, places...)))
		} else {
			wantAnswer(t, "P7: one of many", answer, err, done(sealed(txs...)))
		}
	}
	for set, r := range slices.Backward(receivers) {
		lacks, _ := members(^(set<<1 | 1), txs)
		if len(lacks) > 0 {
			answer, err := r.Reply(replying(name, lacks...))
			wantAnswer(t, "P8: one of many", answer, err, done(sealed(txs...)))
		}
		pooled, _ := members(set<<1, txs)
		wantIDs(t, "one of many", r, pooled...)
	}
}
