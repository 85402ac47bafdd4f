package wire

import (
	"compact/api"
	"compact/hashes"
	"compact/numbers"
)

// Header is a header's bytes.
type Header string

// Name is the name of the block that has this header.
func (h Header) Name() hashes.Digest { return hashes.Double(string(h)) }

// Root is the Merkle root that the header speaks of.
func (h Header) Root() hashes.Digest {
	root, _ := hashes.DigestOf(string(h[36:68]))
	return root
}

// Block is a block, with the bytes of its transactions.
type Block struct {
	Header       Header
	Transactions []string
}

// ShortBlock is a block told shortly: its short ids are of those places, in order, that no transaction was sent for.
type ShortBlock struct {
	Header   Header
	Number   uint64
	ShortIDs []uint64
	Along    []Placed
}

// Placed is a transaction, and the place of the block where it stands.
type Placed struct {
	Index       int
	Transaction string
}

// Request asks for the transactions at some places of a block.
type Request struct {
	Name    hashes.Digest
	Indexes []int
}

// Reply has the transactions that a request asked for.
type Reply struct {
	Name         hashes.Digest
	Transactions []string
}

// Block reads a block.
func (r *Reader) Block() Block {
	var block Block
	block.Header = r.header()
	block.Transactions = r.transactions()
	return block
}

// ShortBlock reads a short block.
func (r *Reader) ShortBlock() ShortBlock {
	var short ShortBlock
	short.Header = r.header()
	short.Number = numbers.LowestFirst(r.take(8))
	r.several(0, api.MaxTxs, func(r *Reader) {
		short.ShortIDs = append(short.ShortIDs, numbers.LowestFirst(r.take(6)))
	})
	others := len(short.ShortIDs)
	count := int(r.size(0, uint64(api.MaxTxs-others)))
	if others+count == 0 {
		panic(api.ErrBound)
	}
	next := 0
	for range count {
		index := r.index(next, others+count)
		short.Along = append(short.Along, Placed{index, r.Transaction()})
		next = index + 1
	}
	return short
}

// Request reads a request.
func (r *Reader) Request() Request {
	var request Request
	request.Name = r.name()
	next := 0
	r.several(1, api.MaxTxs, func(r *Reader) {
		index := r.index(next, api.MaxTxs)
		request.Indexes = append(request.Indexes, index)
		next = index + 1
	})
	return request
}

// Reply reads a reply.
func (r *Reader) Reply() Reply {
	var reply Reply
	reply.Name = r.name()
	reply.Transactions = r.transactions()
	return reply
}

// transactions reads a size from 1 to MaxTxs, and so many transactions.
func (r *Reader) transactions() []string {
	var transactions []string
	r.several(1, api.MaxTxs, func(r *Reader) {
		transactions = append(transactions, r.Transaction())
	})
	return transactions
}

func (r *Reader) header() Header { return Header(r.take(80)) }

func (r *Reader) name() hashes.Digest {
	name, _ := hashes.DigestOf(r.take(len(hashes.Digest{})))
	return name
}

// index reads an index that is below a bound, where next is the least that it could be, and not above the bound.
func (r *Reader) index(next int, below int) int {
	behind := r.anySize()
	if behind >= uint64(below-next) { // the sum of both could wrap round
		panic(api.ErrIndex)
	}
	return next + int(behind)
}
