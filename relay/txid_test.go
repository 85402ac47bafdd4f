package relay

import (
	"crypto/sha256"
	"strings"
	"testing"

	"compact/api"
)

// twice is the double digest, told by another program than this one.
func twice(s string) string {
	once := sha256.Sum256([]byte(s))
	again := sha256.Sum256(once[:])
	return string(again[:])
}

// counts is how a transaction's four sizes are written; the rest of it stands as they say.
type counts struct{ in, inScript, out, outScript string }

// written is the transaction with these sizes as they are written, of so many inputs and outputs with scripts of so many bytes.
func (c counts) written(in, inScript, out, outScript int) string {
	input := strings.Repeat("p", 36) + c.inScript + strings.Repeat("s", inScript) + "ffff"
	output := "12345678" + c.outScript + strings.Repeat("t", outScript)
	return "vers" + c.in + strings.Repeat(input, in) + c.out + strings.Repeat(output, out) + "lock"
}

// transaction: of so many inputs and outputs, with scripts of so many bytes, all below 253.
func transaction(in, inScript, out, outScript int) string {
	one := func(n int) string { return string([]byte{byte(n)}) }
	return counts{one(in), one(inScript), one(out), one(outScript)}.written(in, inScript, out, outScript)
}

// wantError: beside it no digest is told.
func wantError(t *testing.T, what string, tx string, want api.Errno) {
	t.Helper()
	if id, err := Txid(tx); err != want || id != "" {
		t.Errorf("P3: %s: Txid(%q) = %x, %d, want %d", what, tx, id, err, want)
	}
}

func wantDigest(t *testing.T, what string, tx string) {
	t.Helper()
	if id, err := Txid(tx); err != api.OK || id != twice(tx) {
		t.Errorf("P3: %s: Txid(%q) = %x, %d, want %x", what, tx, id, err, twice(tx))
	}
}

// P3: all numbers of inputs and outputs, and the ends of the lengths of scripts.
func TestTxidOfTransactions(t *testing.T) {
	for in := 1; in <= api.MaxIn; in++ {
		for out := 1; out <= api.MaxOut; out++ {
			for _, script := range []int{0, 1, 39, 40} {
				wantDigest(t, "a script of an input", transaction(in, script, out, 0))
				wantDigest(t, "a script of an output", transaction(in, 0, out, script))
			}
		}
	}
	wantDigest(t, "all that there may be", transaction(api.MaxIn, api.MaxScript, api.MaxOut, api.MaxScript))
}

// P3: what stands in a transaction beside its sizes may be any bytes, and all of it counts.
func TestTxidOfAnyBytes(t *testing.T) {
	tx := transaction(2, 3, 2, 1)
	seen := map[string]int{}
	for i := range tx {
		if tx[i] < 'A' && (tx[i] < '1' || tx[i] > '8') { // a size
			continue
		}
		for _, b := range []string{"\x00", "\x80", "\xfd", "\xff"} {
			other := tx[:i] + b + tx[i+1:]
			wantDigest(t, "another byte", other)
			id, _ := Txid(other)
			seen[id]++
		}
	}
	if want := 4 * (len(tx) - 6); len(seen) != want {
		t.Errorf("P3: %d transactions have %d digests", want, len(seen))
	}
}

// P3, example 4.
func TestTxidOfTheDocument(t *testing.T) {
	tx := leastTx()
	if len(tx) != 60 {
		t.Fatalf("the least transaction has %d bytes", len(tx))
	}
	wantDigest(t, "the least one", tx)
	wantError(t, "one byte more", tx+"\x00", api.ErrRest)
	wantError(t, "one byte less", tx[:59], api.ErrEnd)
	wantError(t, "no inputs", tx[:4]+"\x00"+tx[5:], api.ErrBound)
}

// P3: ErrEnd, wherever the bytes end; in the middle of a size, too.
func TestTxidOfBytesThatEnd(t *testing.T) {
	for _, tx := range []string{leastTx(), transaction(1, 5, 1, 5), transaction(4, 40, 4, 40)} {
		for end := range len(tx) {
			wantError(t, "bytes that end", tx[:end], api.ErrEnd)
		}
	}
	for _, size := range []string{"\xfd\xfd\x00", "\xfe\x00\x00\x01\x00", "\xff\x00\x00\x00\x00\x01\x00\x00\x00"} {
		for end := range len(size) {
			for what, ahead := range aheadOfSizes() {
				wantError(t, "a size that ends: "+what, ahead+size[:end], api.ErrEnd)
			}
		}
	}
}

// aheadOfSizes is what stands ahead of each size of a transaction.
func aheadOfSizes() map[string]string {
	return map[string]string{
		"inputs":                     "vers",
		"a script of an input":       "vers\x01" + strings.Repeat("p", 36),
		"a script of a second input": "vers\x02" + strings.Repeat("p", 36) + "\x00ffff" + strings.Repeat("p", 36),
		"outputs":                    "vers\x01" + strings.Repeat("p", 36) + "\x00ffff",
		"a script of an output":      "vers\x01" + strings.Repeat("p", 36) + "\x00ffff\x0112345678",
		"a script of a fourth output": "vers\x01" + strings.Repeat("p", 36) + "\x00ffff\x04" +
			strings.Repeat("12345678\x00", 3) + "12345678",
	}
}

// P3, example 3: ErrSize for each size that could be shorter, though it would be within its bounds, or without.
func TestTxidOfSizesThatCouldBeShorter(t *testing.T) {
	for what, ahead := range aheadOfSizes() {
		for _, size := range []string{
			"\xfd\x00\x00", "\xfd\x01\x00", "\xfd\x04\x00", "\xfd\x05\x00", "\xfd\xfc\x00",
			"\xfe\x00\x00\x00\x00", "\xfe\x01\x00\x00\x00", "\xfe\xff\xff\x00\x00",
			"\xff\x00\x00\x00\x00\x00\x00\x00\x00", "\xff\x01\x00\x00\x00\x00\x00\x00\x00",
			"\xff\xff\xff\xff\xff\x00\x00\x00\x00",
		} {
			wantError(t, what, ahead+size, api.ErrSize)
			wantError(t, what, ahead+size+strings.Repeat("\x01", 500), api.ErrSize)
		}
	}
	for _, c := range []counts{
		{"\xfd\x01\x00", "\x01", "\x01", "\x01"},
		{"\x01", "\xfd\x01\x00", "\x01", "\x01"},
		{"\x01", "\x01", "\xfe\x01\x00\x00\x00", "\x01"},
		{"\x01", "\x01", "\x01", "\xff\x01\x00\x00\x00\x00\x00\x00\x00"},
	} {
		wantError(t, "what is right but for a size", c.written(1, 1, 1, 1), api.ErrSize)
	}
}

// P3: ErrBound for each size one beyond its bounds, and far beyond, ahead of the want of bytes.
func TestTxidOfSizesBeyondTheirBounds(t *testing.T) {
	for what, ahead := range aheadOfSizes() {
		sizes := []string{
			"\xfc", "\xfd\xfd\x00", "\xfd\xff\xff", "\xfe\x00\x00\x01\x00", "\xfe\xff\xff\xff\xff",
			"\xff\x00\x00\x00\x00\x01\x00\x00\x00", "\xff\x01\x00\x00\x00\x01\x00\x00\x00",
			"\xff\x00\x00\x00\x00\x00\x00\x00\x80", "\xff\xff\xff\xff\xff\xff\xff\xff\xff",
		}
		if strings.HasPrefix(what, "a script") {
			sizes = append(sizes, "\x29")
		} else {
			sizes = append(sizes, "\x00", "\x05")
		}
		for _, size := range sizes {
			wantError(t, what, ahead+size, api.ErrBound)
			wantError(t, what, ahead+size+strings.Repeat("\x01", 500), api.ErrBound)
		}
	}
	wantError(t, "five inputs", transaction(5, 0, 1, 0), api.ErrBound)
	wantError(t, "five outputs", transaction(1, 0, 5, 0), api.ErrBound)
	wantError(t, "no inputs", transaction(0, 0, 1, 0), api.ErrBound)
	wantError(t, "no outputs", transaction(1, 0, 0, 0), api.ErrBound)
	wantError(t, "41 bytes in an input", transaction(1, 41, 1, 0), api.ErrBound)
	wantError(t, "41 bytes in an output", transaction(1, 0, 1, 41), api.ErrBound)
}

// P3: ErrRest, if bytes are left, be they a transaction of their own.
func TestTxidOfBytesThatAreLeft(t *testing.T) {
	for _, tx := range []string{leastTx(), transaction(4, 40, 4, 40)} {
		for _, rest := range []string{"\x00", "\xff", "lock", tx, strings.Repeat("\x00", 1<<16)} {
			wantError(t, "bytes that are left", tx+rest, api.ErrRest)
		}
	}
}

// P3: of several errors the one farthest to the left counts.
func TestTxidTellsTheFirstError(t *testing.T) {
	wantError(t, "no inputs, then a long size", counts{"\x00", "", "\xfd\x01\x00", "\x00"}.written(0, 0, 1, 0), api.ErrBound)
	wantError(t, "a long size, then no outputs", counts{"\xfd\x01\x00", "\x00", "\x00", ""}.written(1, 0, 0, 0), api.ErrSize)
	wantError(t, "a long script, then no outputs", counts{"\x01", "\x29", "\xfd\x00\x00", ""}.written(1, 41, 0, 0), api.ErrBound)
	wantError(t, "a long size, then a long script", counts{"\x01", "\xfd\x00\x00", "\x01", "\x29"}.written(1, 0, 1, 41), api.ErrSize)
	wantError(t, "a long script, then bytes that are left", transaction(1, 0, 1, 41)+"rest", api.ErrBound)
	wantError(t, "a script that takes the rest", transaction(1, 0, 1, 0)[:55]+"\x28lock", api.ErrEnd)
}
