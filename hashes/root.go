package hashes

// Root is the Merkle root of the digests, and whether twins are told. Of none it is the zero digest.
func Root(ids []Digest) (Digest, bool) {
	if len(ids) == 0 {
		return Digest{}, false
	}
	row, twins := ids, false
	for len(row) > 1 {
		above, same := pairUp(row)
		row, twins = above, twins || same
	}
	return row[0], twins
}

// pairUp is the row above this one, and whether the two of a pair are the same.
func pairUp(row []Digest) ([]Digest, bool) {
	above, twins := make([]Digest, 0, (len(row)+1)/2), false
	for ; len(row) > 1; row = row[2:] {
		twins = twins || row[0] == row[1]
		above = append(above, Double(row[0].Text(), row[1].Text()))
	}
	if len(row) == 1 { // it is doubled for being odd, so it has no twin
		above = append(above, Double(row[0].Text(), row[0].Text()))
	}
	return above, twins
}
