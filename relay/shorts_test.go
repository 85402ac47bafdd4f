package relay

import (
	"strings"

	"compact/api"
)

// headAndNumber is what stands ahead of the short ids.
func headAndNumber() string { return headerOf(several(4)...) + "\x11\x22\x33\x44\x55\x66\x77\x88" }

// shortIDs is a size and so many short ids, all different, and of no transaction.
func shortIDs(n int) string {
	ids := one(n)
	for i := range n {
		ids += one('a'+i) + "hort!"
	}
	return ids
}

// sentFrom is so many transactions sent along, from a place on, without a gap.
func sentFrom(place int, n int) string {
	sent := one(n)
	for i, tx := range several(n) {
		if i == 0 {
			sent += one(place) + tx
		} else {
			sent += "\x00" + tx
		}
	}
	return sent
}

// wrongShorts: each error of reading a short block, at its edges.
func wrongShorts() []wrong {
	txs := several(4)
	var all []wrong
	for _, along := range [][]int{{0, 2}, nil, {0, 1, 2, 3}, {3}} {
		right := shortOf(headerOf(txs...), someNumber, txs, along)
		for end := range len(right) {
			all = append(all, wrong{"a short block that ends", right[:end], api.ErrEnd})
		}
		all = append(all,
			wrong{"a byte that is left", right + "\x00", api.ErrRest},
			wrong{"a transaction that is left", right + "\x00" + txs[0], api.ErrRest},
			wrong{"a short block that is left", right + right, api.ErrRest})
	}
	all = append(all, wrongCounts()...)
	all = append(all, wrongPlaces()...)
	return append(all, wrongSent()...)
}

// wrongCounts: of short ids, and of transactions that are sent along.
func wrongCounts() []wrong {
	head, behind := headAndNumber(), strings.Repeat("\x00", 400)
	var all []wrong
	for _, size := range longSizes {
		all = append(all, wrong{"a long size of short ids", head + size, api.ErrSize},
			wrong{"a long size of short ids", head + size + behind, api.ErrSize})
		for _, n := range []int{0, 1, 16} {
			all = append(all, wrong{"a long size of transactions", head + shortIDs(n) + size, api.ErrSize},
				wrong{"a long size of transactions", head + shortIDs(n) + size + behind, api.ErrSize})
		}
	}
	for _, size := range append([]string{"\x11"}, greatSizes...) {
		all = append(all, wrong{"too many short ids", head + size, api.ErrBound},
			wrong{"too many short ids", head + size + behind, api.ErrBound})
		for _, n := range []int{0, 1, 16} {
			all = append(all, wrong{"too many transactions", head + shortIDs(n) + size, api.ErrBound})
		}
	}
	for n := range api.MaxTxs + 1 {
		all = append(all, wrong{"both one beyond MaxTxs", head + shortIDs(n) + one(17-n), api.ErrBound},
			wrong{"both one beyond MaxTxs", head + shortIDs(n) + sentFrom(0, 17-n), api.ErrBound})
	}
	for _, size := range []string{"\xfd\xfd\x00", "\xfe\x00\x00\x01\x00", "\xff\x00\x00\x00\x00\x01\x00\x00\x00"} {
		for end := 1; end < len(size); end++ {
			all = append(all, wrong{"a size that ends", head + size[:end], api.ErrEnd},
				wrong{"a second size that ends", head + shortIDs(2) + size[:end], api.ErrEnd},
				wrong{"an index that ends", head + shortIDs(2) + "\x01" + size[:end], api.ErrEnd})
		}
	}
	return append(all,
		wrong{"none at all", head + "\x00\x00", api.ErrBound},
		wrong{"none at all, and bytes that are left", head + "\x00\x00" + behind, api.ErrBound},
		wrong{"none at all, written long", head + "\x00\xfd\x00\x00", api.ErrSize},
		wrong{"no short ids, then the end", head + "\x00", api.ErrEnd},
		wrong{"MaxTxs short ids, and a byte that is left", head + shortIDs(16) + "\x00\x00", api.ErrRest},
		wrong{"MaxTxs short ids of which a byte lacks", head + shortIDs(16)[:96], api.ErrEnd},
		wrong{"too many short ids, then a long size", head + shortIDs(17) + "\xfd\x00\x00", api.ErrBound},
		wrong{"MaxTxs sent along, and a byte that is left", head + "\x00" + sentFrom(0, 16) + "\x00", api.ErrRest},
		wrong{"two short ids that are the same, and a byte that is left", head + "\x02shortyshorty\x00\x00", api.ErrRest},
		wrong{"two short ids that are the same, then the end", head + "\x02shortyshorty", api.ErrEnd},
		wrong{"two short ids that are the same, then a wrong place", head + "\x02shortyshorty\x01\x03" + leastTx(), api.ErrIndex})
}

// wrongPlaces: indexes at their bound and beyond, and such that would wrap round.
func wrongPlaces() []wrong {
	head := headAndNumber()
	var all []wrong
	for _, n := range []int{0, 1, 2, 14} {
		ids, first := head+shortIDs(n)+"\x02", "\x00"+leastTx()
		for _, size := range append([]string{one(n + 2), one(n + 3), "\x10"}, greatSizes...) {
			all = append(all, wrong{"a great first index", ids + size, api.ErrIndex},
				wrong{"a great first index", ids + size + leastTx(), api.ErrIndex},
				wrong{"a great second index", ids + first + size + leastTx(), api.ErrIndex})
		}
		for _, size := range longSizes {
			all = append(all, wrong{"a long first index", ids + size + leastTx() + first, api.ErrSize},
				wrong{"a long second index", ids + first + size + leastTx(), api.ErrSize})
		}
		last := one(n+1) + leastTx()
		all = append(all,
			wrong{"the second one beyond", ids + first + last, api.ErrIndex},
			wrong{"behind the last place", ids + last + first, api.ErrIndex},
			wrong{"behind the last place, a long size", ids + last + "\xfd\x00\x00" + leastTx(), api.ErrSize},
			wrong{"the last place, then the end", ids + last, api.ErrEnd})
	}
	for _, size := range append([]string{"\x01", "\x02", "\x10"}, greatSizes...) {
		all = append(all, wrong{"a great last index", head + "\x00\x10" + sentFrom(0, 15)[1:] + size + leastTx(), api.ErrIndex},
			wrong{"behind all places", head + "\x01shorty\x0f" + sentFrom(1, 14)[1:] + "\x01" + leastTx(), api.ErrIndex})
	}
	return append(all,
		wrong{"the document's", head + "\x01shorty\x01\x02" + leastTx(), api.ErrIndex},
		wrong{"a wrong index ahead of a wrong transaction", head + "\x01shorty\x01\x02vers\x00", api.ErrIndex},
		wrong{"a wrong transaction ahead of a wrong index", head + "\x01shorty\x02\x00vers\x00\x09", api.ErrBound})
}

// wrongSent: transactions that are sent along and are wrong, at the first, a middle and the last place.
func wrongSent() []wrong {
	var all []wrong
	for _, c := range boundTxs() {
		for place := range 3 {
			txs := several(4)
			txs[place] = c.text
			all = append(all, wrong{c.what, shortOf(headerOf(txs...), someNumber, txs, []int{0, 1, 2}), c.err})
		}
	}
	return all
}

// wrongReplies: each error of reading a reply, at its edges.
func wrongReplies(name string) []wrong {
	var all []wrong
	txs := several(3)
	right, behind := replying(name, txs...), strings.Join(txs, "")
	for end := range len(right) {
		all = append(all, wrong{"a reply that ends", right[:end], api.ErrEnd})
	}
	for _, size := range longSizes {
		all = append(all, wrong{"a long size", name + size, api.ErrSize}, wrong{"a long size", name + size + behind, api.ErrSize})
	}
	for _, size := range append([]string{"\x00", "\x11"}, greatSizes...) {
		all = append(all, wrong{"a wrong number", name + size, api.ErrBound}, wrong{"a wrong number", name + size + behind, api.ErrBound})
	}
	for _, size := range []string{"\xfd\xfd\x00", "\xfe\x00\x00\x01\x00", "\xff\x00\x00\x00\x00\x01\x00\x00\x00"} {
		for end := 1; end < len(size); end++ {
			all = append(all, wrong{"a size that ends", name + size[:end], api.ErrEnd})
		}
	}
	for _, c := range boundTxs() {
		for place := range 3 {
			list := several(3)
			list[place] = c.text
			all = append(all, wrong{c.what, replying(name, list...), c.err})
		}
	}
	return append(all,
		wrong{"one beyond MaxTxs", replying(name, several(17)...), api.ErrBound},
		wrong{"one more than is said", name + "\x02" + behind, api.ErrRest},
		wrong{"one less than is said", name + "\x04" + behind, api.ErrEnd},
		wrong{"a byte that is left", right + "\x00", api.ErrRest},
		wrong{"a reply that is left", right + right, api.ErrRest},
		wrong{"MaxTxs, and a byte that is left", replying(name, several(16)...) + "x", api.ErrRest},
		wrong{"none, and bytes that are left", name + "\x00x", api.ErrBound})
}
