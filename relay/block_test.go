package relay

import (
	"strings"

	"compact/api"
)

// The sizes that are wrong wherever a size from 1 to MaxTxs, or an index, is read.
var longSizes = []string{
	"\xfd\x00\x00", "\xfd\x01\x00", "\xfd\x10\x00", "\xfd\xfc\x00", "\xfe\x01\x00\x00\x00", "\xfe\xff\xff\x00\x00",
	"\xff\x01\x00\x00\x00\x00\x00\x00\x00", "\xff\xff\xff\xff\xff\x00\x00\x00\x00",
}

// greatSizes are beyond all bounds; some would be within them if they were cut to fewer bits.
var greatSizes = []string{
	"\xfc", "\xfd\xfd\x00", "\xfd\x01\x01", "\xfd\xff\xff", "\xfe\x01\x00\x01\x00", "\xfe\xff\xff\xff\xff",
	"\xff\x01\x00\x00\x00\x01\x00\x00\x00", "\xff\x01\x00\x00\x00\x00\x00\x00\x80", "\xff\xff\xff\xff\xff\xff\xff\x7f\x00",
	"\xff\xff\xff\xff\xff\xff\xff\xff\x7f", "\xff\xf1\xff\xff\xff\xff\xff\xff\xff", "\xff\xfe\xff\xff\xff\xff\xff\xff\xff",
	"\xff\xff\xff\xff\xff\xff\xff\xff\xff",
}

// header has 80 bytes that are all different.
func header() string { return stepping(80) }

func one(n int) string { return string([]byte{byte(n)}) }

// several transactions, all different, of many lengths.
func several(n int) []string {
	var txs []string
	for i := range n {
		tx := transaction(1+i%api.MaxIn, 3*i%41, 1+i/4%api.MaxOut, 7*i%41)
		txs = append(txs, one('A'+i)+tx[1:])
	}
	return txs
}

// blockOf is the block of these transactions, of which its header knows nothing.
func blockOf(txs ...string) string { return header() + one(len(txs)) + strings.Join(txs, "") }

// wrong is a text, and the error of reading it.
type wrong struct {
	what, text string
	err        api.Errno
}

// wrongBlocks: each error of reading a block, at its edges.
func wrongBlocks() []wrong {
	txs := several(3)
	right := blockOf(txs...)
	var all []wrong
	for end := range len(right) {
		all = append(all, wrong{"a block that ends", right[:end], api.ErrEnd})
	}
	behind := strings.Join(txs, "")
	for _, size := range longSizes {
		all = append(all, wrong{"a long size of transactions", header() + size + behind, api.ErrSize})
	}
	for _, size := range append([]string{"\x00", "\x11"}, greatSizes...) {
		all = append(all, wrong{"a wrong number of transactions", header() + size, api.ErrBound},
			wrong{"a wrong number of transactions", header() + size + behind, api.ErrBound})
	}
	all = append(all,
		wrong{"no transaction", blockOf(), api.ErrBound},
		wrong{"one beyond MaxTxs", blockOf(several(17)...), api.ErrBound},
		wrong{"one less than is said", header() + "\x04" + behind, api.ErrEnd},
		wrong{"one more than is said", header() + "\x02" + behind, api.ErrRest},
		wrong{"a byte that is left", right + "\x00", api.ErrRest},
		wrong{"a block that is left", right + right, api.ErrRest},
		wrong{"MaxTxs, and a byte that is left", blockOf(several(16)...) + "x", api.ErrRest},
		wrong{"a wrong number, then bytes that are left", header() + "\x00" + right, api.ErrBound},
		wrong{"a wrong transaction, then a long size", blockOf(transaction(5, 0, 1, 0), "vers\xfd\x01\x00"), api.ErrBound})
	return append(all, wrongTransactions()...)
}

// wrongTransactions: blocks of which one transaction is wrong, the first, one within, or the last.
func wrongTransactions() []wrong {
	var all []wrong
	for _, c := range boundTxs() {
		for place := range 3 {
			txs := several(3)
			txs[place] = c.text
			all = append(all, wrong{c.what, blockOf(txs...), c.err})
		}
	}
	return all
}
