package hashes

import (
	"math/bits"

	"compact/numbers"
)

// sipState is what SipHash works on between two words.
type sipState [4]uint64

// Sip is SipHash-2-4 of s, by the key k0, k1.
func Sip(k0 uint64, k1 uint64, s string) uint64 {
	v := sipState{
		k0 ^ 0x736f6d6570736575,
		k1 ^ 0x646f72616e646f6d,
		k0 ^ 0x6c7967656e657261,
		k1 ^ 0x7465646279746573,
	}
	rest := s
	for len(rest) >= 8 {
		v = sipWord(v, numbers.LowestFirst(rest[:8]))
		rest = rest[8:]
	}
	// Of the length only the lowest byte has room above the rest: the others fall out at the top.
	v = sipWord(v, uint64(len(s))<<56|numbers.LowestFirst(rest))
	v[2] ^= 0xff
	v = sipRounds(v, 4)
	return v[0] ^ v[1] ^ v[2] ^ v[3]
}

// sipWord works one word into the state.
func sipWord(v sipState, word uint64) sipState {
	v[3] ^= word
	v = sipRounds(v, 2)
	v[0] ^= word
	return v
}

func sipRounds(v sipState, rounds int) sipState {
	for range rounds {
		v[0] += v[1]
		v[2] += v[3]
		v[1] = bits.RotateLeft64(v[1], 13) ^ v[0]
		v[3] = bits.RotateLeft64(v[3], 16) ^ v[2]
		v[0] = bits.RotateLeft64(v[0], 32)
		v[2] += v[1]
		v[0] += v[3]
		v[1] = bits.RotateLeft64(v[1], 17) ^ v[2]
		v[3] = bits.RotateLeft64(v[3], 21) ^ v[0]
		v[2] = bits.RotateLeft64(v[2], 32)
	}
	return v
}
