// Package numbers: numbers told in bytes.
package numbers

// LowestFirst is the number that at most eight bytes tell, the lowest byte first.
func LowestFirst(s string) uint64 {
	var n uint64
	for i := len(s) - 1; i >= 0; i-- {
		n = n<<8 | uint64(s[i])
	}
	return n
}

// InBytes is the number's lowest so many bytes, the lowest first.
func InBytes(n uint64, count int) string {
	bytes := make([]byte, count)
	for i := range bytes {
		bytes[i] = byte(n)
		n >>= 8
	}
	return string(bytes)
}
