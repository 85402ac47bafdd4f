// Package wire: what is told in bytes, read and written from left to right.
package wire

import (
	"compact/api"
	"compact/numbers"
)

// cursor goes over a text. What it cannot read, it leaves by a panic of the error, which Read catches.
type cursor struct {
	text string
	at   int
}

// take is the next so many bytes.
func (c *cursor) take(count int) string {
	if count > len(c.text)-c.at {
		panic(api.ErrEnd)
	}
	start := c.at
	c.at += count
	return c.text[start:c.at]
}

// size reads a size from least to most.
func (c *cursor) size(least uint64, most uint64) uint64 {
	n := c.anySize()
	if n < least || n > most {
		panic(api.ErrBound)
	}
	return n
}

// anySize reads a size, however great it is.
func (c *cursor) anySize() uint64 {
	first := numbers.LowestFirst(c.take(1))
	switch first {
	case 253:
		return c.longSize(2, 253)
	case 254:
		return c.longSize(4, 1<<16)
	case 255:
		return c.longSize(8, 1<<32)
	}
	return first
}

// longSize reads a size of so many bytes; what is below least has room in fewer.
func (c *cursor) longSize(bytes int, least uint64) uint64 {
	n := numbers.LowestFirst(c.take(bytes))
	if n < least {
		panic(api.ErrSize)
	}
	return n
}

// end must stand behind all bytes.
func (c *cursor) end() {
	if c.at < len(c.text) {
		panic(api.ErrRest)
	}
}
