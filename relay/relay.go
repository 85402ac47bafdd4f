// Package relay: blocks sent shortly, and put together again: see DOC.md.
package relay

import (
	"compact/api"
	"compact/hashes"
	"compact/wire"
)

// Sum: SHA-256 (P2).
func Sum(s string) string { return hashes.Sum(s).Text() }

// Sip: SipHash-2-4 (P2).
func Sip(k0 uint64, k1 uint64, s string) uint64 { return hashes.Sip(k0, k1, s) }

// Txid: the digest of a transaction (P3).
func Txid(tx string) (string, api.Errno) {
	read, err := wire.Read(tx, (*wire.Reader).Transaction)
	if err != api.OK {
		return "", err
	}
	return hashes.Double(read).Text(), api.OK
}

// Root: the Merkle root of digests (P3).
func Root(ids []string) (string, bool, api.Errno) {
	if len(ids) == 0 {
		return "", false, api.ErrBound
	}
	var digests []hashes.Digest
	for _, id := range ids {
		digest, ok := hashes.DigestOf(id)
		if !ok {
			return "", false, api.ErrBound
		}
		digests = append(digests, digest)
	}
	root, twins := hashes.Root(digests)
	return root.Text(), twins, api.OK
}

// Encode: a block told shortly (P4).
func Encode(block string, nonce uint64, along []int) (string, api.Errno) {
	whole, err := wire.Read(block, (*wire.Reader).Block)
	if err != api.OK {
		return "", err
	}
	if err := checkAlong(along, len(whole.Transactions)); err != api.OK {
		return "", err
	}
	return shorten(whole, nonce, along).Text(), api.OK
}

// Serve: what a request asks for (P5).
func Serve(block string, request string) (string, api.Errno) {
	whole, err := wire.Read(block, (*wire.Reader).Block)
	if err != api.OK {
		return "", err
	}
	asked, err := wire.Read(request, (*wire.Reader).Request)
	if err != api.OK {
		return "", err
	}
	reply, err := answer(whole, asked)
	if err != api.OK {
		return "", err
	}
	return reply.Text(), api.OK
}
