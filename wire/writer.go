package wire

import (
	"math"

	"compact/numbers"
)

// writer tells the forms in bytes, from left to right.
type writer struct{ told []byte }

// Text is the short block in bytes.
func (s ShortBlock) Text() string {
	var w writer
	w.text(string(s.Header))
	w.number(s.Number, 8)
	w.count(len(s.ShortIDs))
	for _, id := range s.ShortIDs {
		w.number(id, 6)
	}
	w.count(len(s.Along))
	next := 0
	for _, sent := range s.Along {
		next = w.index(next, sent.Index)
		w.text(sent.Transaction)
	}
	return string(w.told)
}

// Text is the block in bytes.
func (b Block) Text() string {
	var w writer
	w.text(string(b.Header))
	w.several(b.Transactions)
	return string(w.told)
}

// Text is the request in bytes.
func (q Request) Text() string {
	var w writer
	w.text(q.Name.Text())
	w.count(len(q.Indexes))
	next := 0
	for _, index := range q.Indexes {
		next = w.index(next, index)
	}
	return string(w.told)
}

// Text is the reply in bytes.
func (p Reply) Text() string {
	var w writer
	w.text(p.Name.Text())
	w.several(p.Transactions)
	return string(w.told)
}

// several tells how many transactions there are, and each of them.
func (w *writer) several(transactions []string) {
	w.count(len(transactions))
	for _, tx := range transactions {
		w.text(tx)
	}
}

// index tells an index, where next is the least that it could be; the answer is the least that the one behind it could be.
func (w *writer) index(next int, index int) int {
	w.count(index - next)
	return index + 1
}

func (w *writer) text(s string) { w.told = append(w.told, s...) }

func (w *writer) number(n uint64, bytes int) { w.text(numbers.InBytes(n, bytes)) }

func (w *writer) count(n int) { w.size(uint64(n)) }

// size tells a size as shortly as it can be.
func (w *writer) size(n uint64) {
	switch {
	case n < 253:
		w.number(n, 1)
	case n <= math.MaxUint16:
		w.number(253, 1)
		w.number(n, 2)
	case n <= math.MaxUint32:
		w.number(254, 1)
		w.number(n, 4)
	default:
		w.number(255, 1)
		w.number(n, 8)
	}
}
