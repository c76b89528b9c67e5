// Package little is numbers in so many bytes, the lowest first.
package little

// Put fills bytes with a number; what does not fit into them is left out.
func Put(b []byte, n int) {
	for i := range b {
		b[i] = byte(n)
		n >>= 8
	}
}

// Get is the number in at most eight bytes; one of 2^63 and more in eight is below 0.
func Get(b []byte) int {
	n := 0
	for i, x := range b {
		n |= int(x) << (8 * i)
	}
	return n
}
