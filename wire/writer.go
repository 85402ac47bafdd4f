package wire

import (
	"math"

	"compact/numbers"
)

// writer tells the forms in bytes, from left to right.
type writer struct{ told []byte }

// Text is the short block in bytes.
func (s ShortBlock) Text() string {
	var w writer
	w.text(string(s.Header))
	w.number(s.Number, 8)
	w.count(len(s.ShortIDs))
	for _, id := range s.ShortIDs {
		w.number(id, 6)
	}
	w.count(len(s.Along))
	next := 0
	for _, sent := range s.Along {
		w.count(sent.Index - next)
		w.text(sent.Transaction)
		next = sent.Index + 1
	}
	return string(w.told)
}

// Text is the reply in bytes.
func (p Reply) Text() string {
	var w writer
	w.text(p.Name.Text())
	w.count(len(p.Transactions))
	for _, tx := range p.Transactions {
		w.text(tx)
	}
	return string(w.told)
}

func (w *writer) text(s string) { w.told = append(w.told, s...) }

func (w *writer) number(n uint64, bytes int) { w.text(numbers.InBytes(n, bytes)) }

func (w *writer) count(n int) { w.size(uint64(n)) }

// size tells a size as shortly as it can be.
func (w *writer) size(n uint64) {
	switch {
	case n < 253:
		w.number(n, 1)
	case n <= math.MaxUint16:
		w.number(253, 1)
		w.number(n, 2)
	case n <= math.MaxUint32:
		w.number(254, 1)
		w.number(n, 4)
	default:
		w.number(255, 1)
		w.number(n, 8)
	}
}
