package hashes

import "compact/numbers"

// ShortKey is the key by which short ids are told.
type ShortKey struct{ k0, k1 uint64 }

// ShortKeyOf is the key by a header and a number.
func ShortKeyOf(header string, number uint64) ShortKey {
	sum := Sum(header, numbers.InBytes(number, 8)).Text()
	return ShortKey{numbers.LowestFirst(sum[:8]), numbers.LowestFirst(sum[8:16])}
}

// ShortID is the digest's short id: a number of six bytes.
func (k ShortKey) ShortID(id Digest) uint64 {
	const sixBytes = 1<<48 - 1
	return Sip(k.k0, k.k1, id.Text()) & sixBytes
}
