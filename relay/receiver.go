package relay

import (
	"slices"
	"strings"

	"compact/api"
	"compact/hashes"
	"compact/wire"
)

// Receiver: of blocks; it has a pool.
type Receiver struct {
	pool
	waiting *wire.Block // the block that transactions are waited for, where they lack as lacking says; nil, if there is none
}

// NewReceiver: of an empty pool.
func NewReceiver() *Receiver { return &Receiver{} }

// Compact: a block that is told shortly has come (P7).
func (r *Receiver) Compact(message string) (api.Answer, api.Errno) {
	r.waiting = nil
	short, err := wire.Read(message, (*wire.Reader).ShortBlock)
	if err != api.OK {
		return api.Answer{}, err
	}
	if hasTwice(short.ShortIDs) {
		return api.Answer{State: api.Falls}, api.OK
	}
	block := r.fill(short)
	places := lacking(block)
	if len(places) == 0 {
		return lookAt(block), api.OK
	}
	r.waiting = &block
	request := wire.Request{Name: block.Header.Name(), Indexes: places}
	return api.Answer{State: api.Waits, Bytes: request.Text()}, api.OK
}

// Reply: transactions that were asked for have come (P8).
func (r *Receiver) Reply(message string) (api.Answer, api.Errno) {
	reply, err := wire.Read(message, (*wire.Reader).Reply)
	if err != api.OK {
		return api.Answer{}, err
	}
	if r.waiting == nil {
		return api.Answer{}, api.ErrState
	}
	block := *r.waiting
	if reply.Name != block.Header.Name() {
		return api.Answer{}, api.ErrBlock
	}
	places := lacking(block)
	if len(reply.Transactions) != len(places) {
		return api.Answer{}, api.ErrCount
	}
	r.waiting = nil
	for i, place := range places {
		block.Transactions[place] = reply.Transactions[i]
	}
	return lookAt(block), api.OK
}

// fill is the block that is told shortly, as far as it was sent along or stands in the pool.
func (r *Receiver) fill(short wire.ShortBlock) wire.Block {
	block := wire.Block{
		Header:       wire.Header(strings.Clone(string(short.Header))), // a piece of the message would keep all of it
		Transactions: make([]string, len(short.ShortIDs)+len(short.Along)),
	}
	for _, sent := range short.Along {
		block.Transactions[sent.Index] = strings.Clone(sent.Transaction)
	}
	byShortID := single(r.find(hashes.ShortKeyOf(string(short.Header), short.Number)))
	for i, place := range lacking(block) { // as many as there are short ids, and in their order
		block.Transactions[place] = byShortID[short.ShortIDs[i]].transaction
	}
	return block
}

// lacking is the places of a block that have no transaction: where it is empty, as no transaction that was read is.
func lacking(block wire.Block) []int {
	var places []int
	for place, tx := range block.Transactions {
		if tx == "" {
			places = append(places, place)
		}
	}
	return places
}

// lookAt tells of a block that lacks nothing whether it is the one that its header speaks of.
func lookAt(block wire.Block) api.Answer {
	var digests []hashes.Digest
	for _, tx := range block.Transactions {
		digests = append(digests, hashes.Double(tx))
	}
	root, twins := hashes.Root(digests)
	if twins || root != block.Header.Root() {
		return api.Answer{State: api.Falls}
	}
	return api.Answer{State: api.Done, Bytes: block.Text()}
}

func hasTwice(shortIDs []uint64) bool {
	for i, id := range shortIDs {
		if slices.Contains(shortIDs[:i], id) {
			return true
		}
	}
	return false
}
