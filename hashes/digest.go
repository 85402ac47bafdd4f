package hashes

// Digest is an array, so that two are compared by == and one can be a map's key.
type Digest [32]byte

// DigestOf is the digest that has these bytes, if they are as many as a digest has.
func DigestOf(text string) (Digest, bool) {
	var d Digest
	if len(text) != len(d) {
		return d, false
	}
	copy(d[:], text)
	return d, true
}

// Text is the digest's bytes.
func (d Digest) Text() string { return string(d[:]) }

// Double is the double digest of the texts, one behind the other.
func Double(texts ...string) Digest { return Sum(Sum(texts...).Text()) }
