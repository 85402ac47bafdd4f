// Package hashes: SHA-256, SipHash-2-4, and the Merkle root.
package hashes

import "math/bits"

// scrambled is what SHA-256 works on between two blocks.
type scrambled [8]uint32

// roundWords are the first 32 bits of the fractional parts of the cube roots of the first 64 primes.
var roundWords = [64]uint32{
	0x428a2f98, 0x71374491, 0xb5c0fbcf, 0xe9b5dba5, 0x3956c25b, 0x59f111f1, 0x923f82a4, 0xab1c5ed5,
	0xd807aa98, 0x12835b01, 0x243185be, 0x550c7dc3, 0x72be5d74, 0x80deb1fe, 0x9bdc06a7, 0xc19bf174,
	0xe49b69c1, 0xefbe4786, 0x0fc19dc6, 0x240ca1cc, 0x2de92c6f, 0x4a7484aa, 0x5cb0a9dc, 0x76f988da,
	0x983e5152, 0xa831c66d, 0xb00327c8, 0xbf597fc7, 0xc6e00bf3, 0xd5a79147, 0x06ca6351, 0x14292967,
	0x27b70a85, 0x2e1b2138, 0x4d2c6dfc, 0x53380d13, 0x650a7354, 0x766a0abb, 0x81c2c92e, 0x92722c85,
	0xa2bfe8a1, 0xa81a664b, 0xc24b8b70, 0xc76c51a3, 0xd192e819, 0xd6990624, 0xf40e3585, 0x106aa070,
	0x19a4c116, 0x1e376c08, 0x2748774c, 0x34b0bcb5, 0x391c0cb3, 0x4ed8aa4a, 0x5b9cca4f, 0x682e6ff3,
	0x748f82ee, 0x78a5636f, 0x84c87814, 0x8cc70208, 0x90befffa, 0xa4506ceb, 0xbef9a3f7, 0xc67178f2,
}

// Sum is SHA-256 of the texts, one behind the other.
func Sum(texts ...string) Digest {
	state := scrambled{
		0x6a09e667, 0xbb67ae85, 0x3c6ef372, 0xa54ff53a,
		0x510e527f, 0x9b05688c, 0x1f83d9ab, 0x5be0cd19,
	}
	var block [64]byte
	filled := 0
	put := func(b byte) {
		block[filled] = b
		filled++
		if filled == len(block) {
			state = mix(state, block)
			filled = 0
		}
	}
	var length uint64
	for _, text := range texts {
		length += uint64(len(text))
		for i := range len(text) {
			put(text[i])
		}
	}
	put(0x80)
	for filled != len(block)-8 { // the last eight bytes of the last block are the length's
		put(0)
	}
	for i := range 8 {
		put(byte(length * 8 >> (56 - 8*i)))
	}
	return flatten(state)
}

// mix works one block into the state.
func mix(state scrambled, block [64]byte) scrambled {
	words := schedule(block)
	v := state
	for i, word := range words {
		turned := bits.RotateLeft32(v[4], -6) ^ bits.RotateLeft32(v[4], -11) ^ bits.RotateLeft32(v[4], -25)
		choice := v[4]&v[5] ^ ^v[4]&v[6]
		first := v[7] + turned + choice + roundWords[i] + word
		turned = bits.RotateLeft32(v[0], -2) ^ bits.RotateLeft32(v[0], -13) ^ bits.RotateLeft32(v[0], -22)
		majority := v[0]&v[1] ^ v[0]&v[2] ^ v[1]&v[2]
		second := turned + majority
		v = scrambled{first + second, v[0], v[1], v[2], v[3] + first, v[4], v[5], v[6]}
	}
	for i := range state {
		state[i] += v[i]
	}
	return state
}

// schedule spreads the 16 words of a block over the 64 rounds.
func schedule(block [64]byte) [64]uint32 {
	var words [64]uint32
	for i, b := range block {
		words[i/4] = words[i/4]<<8 | uint32(b)
	}
	for i := 16; i < len(words); i++ {
		far, near := words[i-15], words[i-2]
		far = bits.RotateLeft32(far, -7) ^ bits.RotateLeft32(far, -18) ^ far>>3
		near = bits.RotateLeft32(near, -17) ^ bits.RotateLeft32(near, -19) ^ near>>10
		words[i] = words[i-16] + far + words[i-7] + near
	}
	return words
}

// flatten writes the state's words with the highest byte first, as SHA-256 has them.
func flatten(state scrambled) Digest {
	var d Digest
	for i := range d {
		d[i] = byte(state[i/4] >> (24 - 8*(i%4)))
	}
	return d
}
