package relay

import (
	"math"
	"slices"
	"strings"
	"sync"
	"testing"

	"compact/api"
)

// oddTexts: bytes of many lengths, of which most are the form of nothing.
func oddTexts() []string {
	texts := []string{leastTx(), leastTx()[:59], leastTx() + "\x00", leastBlock(), leastBlock()[:80], strings.Repeat("\x01", 1<<16)}
	for _, n := range []int{0, 1, 4, 5, 31, 32, 33, 59, 60, 61, 80, 81, 88, 89, 141, 300} {
		for _, b := range []string{"\x00", "\x01", "\x80", "\xfd", "\xfe", "\xff"} {
			texts = append(texts, strings.Repeat(b, n))
		}
		texts = append(texts, stepping(n))
	}
	return texts
}

// leastTx: one input, one output, no scripts.
func leastTx() string {
	return strings.Repeat("\x00", 4) + "\x01" + strings.Repeat("\x00", 36+1+4) + "\x01" + strings.Repeat("\x00", 8+1+4)
}

// leastBlock: of one transaction, which its header's root does not speak of.
func leastBlock() string { return strings.Repeat("\x00", 80) + "\x01" + leastTx() }

func oddIndexes() [][]int {
	return [][]int{nil, {}, {0}, {1}, {0, 0}, {0, 2, 1}, {-1}, {0, -1}, {math.MaxInt}, {0, math.MinInt}, make([]int, 1000)}
}

func oddDigests() [][]string {
	a, b := Sum("a"), Sum("b")
	return [][]string{nil, {}, {""}, {a}, {a, b}, {a, a}, {a, b, a}, {a, a[:31]}, {a, b + "x"}, slices.Repeat([]string{a}, 1000)}
}

// catch tells a panic as a fault of the test.
func catch(t *testing.T, name string, call func()) {
	t.Helper()
	defer func() {
		if r := recover(); r != nil {
			t.Errorf("P1: %s panics: %v", name, r)
		}
	}()
	call()
}

// wantZero: beside an error nothing is told.
func wantZero(t *testing.T, name string, err api.Errno, zero bool) {
	t.Helper()
	if err < api.OK || err > api.ErrFirst {
		t.Errorf("P1: %s tells the error %d, which there is not", name, err)
	}
	if err != api.OK && !zero {
		t.Errorf("P1: %s tells something beside the error %d", name, err)
	}
}

// P1: every call ends and none panics, and with an error every other result is zero.
func TestCallsOnOddTexts(t *testing.T) {
	for _, text := range oddTexts() {
		catch(t, "Sum", func() { Sum(text) })
		catch(t, "Txid", func() {
			id, err := Txid(text)
			wantZero(t, "Txid", err, id == "")
		})
		for _, key := range []uint64{0, 1, 1 << 63, math.MaxUint64} {
			catch(t, "Sip", func() { Sip(key, ^key, text) })
			for _, along := range oddIndexes() {
				catch(t, "Encode", func() {
					short, err := Encode(text, key, along)
					wantZero(t, "Encode", err, short == "")
				})
			}
		}
		catch(t, "Serve", func() {
			reply, err := Serve(leastBlock(), text)
			wantZero(t, "Serve", err, reply == "")
			reply, err = Serve(text, text)
			wantZero(t, "Serve", err, reply == "")
		})
	}
}

// P1: so do a receiver's, one behind the other, whatever came ahead.
func TestReceiverOnOddTexts(t *testing.T) {
	r := NewReceiver()
	for _, text := range oddTexts() {
		catch(t, "Add", func() { wantZero(t, "Add", r.Add(text), true) })
		catch(t, "Compact", func() {
			answer, err := r.Compact(text)
			wantZero(t, "Compact", err, answer == api.Answer{})
		})
		catch(t, "Reply", func() {
			answer, err := r.Reply(text)
			wantZero(t, "Reply", err, answer == api.Answer{})
		})
		catch(t, "Drop", func() { r.Drop(text) })
		catch(t, "IDs", func() { r.IDs() })
	}
}

func TestRootOnOddDigests(t *testing.T) {
	for _, ids := range oddDigests() {
		catch(t, "Root", func() {
			root, twins, err := Root(ids)
			wantZero(t, "Root", err, root == "" && !twins)
		})
	}
}

// P1: lists that are handed in are only read, and so is the room behind their ends.
func TestListsAreOnlyRead(t *testing.T) {
	for _, ids := range oddDigests() {
		room := append(slices.Clone(ids), "behind", "the end")
		before := slices.Clone(room)
		Root(room[:len(ids)])
		if !slices.Equal(room, before) {
			t.Errorf("P1: Root wrote into its list of %d", len(ids))
		}
	}
	for _, along := range oddIndexes() {
		room := append(slices.Clone(along), 77, 78)
		before := slices.Clone(room)
		Encode(leastBlock(), 5, room[:len(along)])
		if !slices.Equal(room, before) {
			t.Errorf("P1: Encode wrote into its list of %d", len(along))
		}
	}
}

// P1: lists that are handed out are the caller's, with the room behind their ends.
func TestListsAreHandedOutNew(t *testing.T) {
	r := NewReceiver()
	r.Add(leastTx())
	first := r.IDs()
	want := slices.Clone(first)
	second := r.IDs()
	for _, list := range [][]string{first[:cap(first)], second[:cap(second)]} {
		for i := range list {
			list[i] = "written by the caller"
		}
		if got := r.IDs(); !slices.Equal(got, want) {
			t.Errorf("P1: IDs() = %x after the caller wrote into a list, want %x", got, want)
		}
	}
}

// P1: none hangs on another.
func TestReceiversAreApart(t *testing.T) {
	a, b := NewReceiver(), NewReceiver()
	a.Add(leastTx())
	for _, text := range oddTexts() {
		a.Compact(text)
	}
	if got := b.IDs(); len(got) != 0 {
		t.Errorf("P1: a new receiver has %x, which another was given", got)
	}
	if NewReceiver().Add(leastTx()) != b.Add(leastTx()) {
		t.Error("P1: two receivers that were given the same tell other things")
	}
}

// P1: the hashes keep nothing between calls, so calls at the same time tell what one alone tells.
func TestHashesAtTheSameTime(t *testing.T) {
	var all sync.WaitGroup
	for n := range 64 {
		all.Go(func() {
			text := stepping(n * 3)
			sum, sip := Sum(text), Sip(uint64(n), 7, text)
			for range 50 {
				if Sum(text) != sum || Sip(uint64(n), 7, text) != sip {
					t.Errorf("P1: the hashes of %d bytes change", len(text))
				}
			}
		})
	}
	all.Wait()
}
