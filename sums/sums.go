// Package sums: the sums of a file and of its blocks (P3, P4).
package sums

const (
	digestStart  uint64 = 14695981039346656037
	digestFactor uint64 = 1099511628211
)

// Digest is the strong sum of data. The width of v is the promise's modulus.
func Digest(data []byte) uint64 {
	v := digestStart
	for _, x := range data {
		v = (v ^ uint64(x)) * digestFactor
	}
	return v
}

// Weak is the weak sum of data. Adding a to b behind each byte counts a byte once for itself and once for each byte behind it: n - i times in all.
func Weak(data []byte) uint32 {
	var a, b uint16
	for _, x := range data {
		a += uint16(x)
		b += a
	}
	return join(a, b)
}

// Roll is the weak sum of a window of n bytes that moves on by one. Only n modulo 65,536 counts, so n is cut to the sum's width, whatever its sign.
func Roll(weak uint32, n int, out, in byte) uint32 {
	a, b := split(weak)
	a += uint16(in) - uint16(out)
	b += a - uint16(n)*uint16(out)
	return join(a, b)
}

// join puts both parts of a weak sum together.
func join(a, b uint16) uint32 { return uint32(b)<<16 | uint32(a) }

// split takes a weak sum apart.
func split(weak uint32) (a, b uint16) { return uint16(weak), uint16(weak >> 16) }
