package relay

import (
	"slices"

	"compact/api"
	"compact/hashes"
	"compact/wire"
)

// checkAlong is what is wrong with the indexes of the transactions that are to be sent along, of a block of so many.
func checkAlong(along []int, transactions int) api.Errno {
	for i, index := range along {
		if index < 0 || index >= transactions {
			return api.ErrIndex
		}
		if i > 0 && index <= along[i-1] {
			return api.ErrFirst
		}
	}
	if len(along) == 0 || along[0] != 0 {
		return api.ErrFirst
	}
	return api.OK
}

// shorten is the block told shortly, with the transactions at the places of along whole.
func shorten(block wire.Block, number uint64, along []int) wire.ShortBlock {
	short := wire.ShortBlock{Header: block.Header, Number: number}
	key := hashes.ShortKeyOf(string(block.Header), number)
	for place, tx := range block.Transactions {
		if slices.Contains(along, place) {
			short.Along = append(short.Along, wire.Placed{Index: place, Transaction: tx})
		} else {
			short.ShortIDs = append(short.ShortIDs, key.ShortID(hashes.Double(tx)))
		}
	}
	return short
}

// answer is the reply to a request that asks for transactions of the block, or what is wrong with the request.
func answer(block wire.Block, request wire.Request) (wire.Reply, api.Errno) {
	if request.Name != block.Header.Name() {
		return wire.Reply{}, api.ErrBlock
	}
	reply := wire.Reply{Name: request.Name}
	for _, index := range request.Indexes {
		if index >= len(block.Transactions) {
			return wire.Reply{}, api.ErrIndex
		}
		reply.Transactions = append(reply.Transactions, block.Transactions[index])
	}
	return reply, api.OK
}
