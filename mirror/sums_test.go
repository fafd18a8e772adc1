package mirror_test

import (
	"bytes"
	"math"
	"math/big"
	"testing"

	"mirror/mirror"
)

// mixed makes n bytes that do not repeat soon.
func mixed(n int) []byte {
	data := make([]byte, n)
	for i := range data {
		data[i] = byte(i*i*7 + i*31 + i>>8)
	}
	return data
}

// digestByRule follows P3's words in numbers that have no width.
func digestByRule(data []byte) uint64 {
	v := new(big.Int).SetUint64(14695981039346656037)
	factor := big.NewInt(1099511628211)
	modulus := new(big.Int).Lsh(big.NewInt(1), 64)
	for _, x := range data {
		v.Xor(v, big.NewInt(int64(x)))
		v.Mul(v, factor)
		v.Mod(v, modulus)
	}
	return v.Uint64()
}

// weakByRule follows P3's words: each byte times its own weight.
func weakByRule(data []byte) uint32 {
	var a, b uint64
	for i, x := range data {
		a += uint64(x)
		b += uint64(len(data)-i) * uint64(x)
	}
	return uint32(b%65536*65536 + a%65536)
}

// rollByRule follows P3's words in numbers that have no width.
func rollByRule(weak uint32, n int, out, in byte) uint32 {
	modulus := big.NewInt(65536)
	a := big.NewInt(int64(weak%65536) - int64(out) + int64(in))
	a.Mod(a, modulus)
	b := new(big.Int).Mul(big.NewInt(int64(n)), big.NewInt(int64(out)))
	b.Sub(big.NewInt(int64(weak/65536)), b)
	b.Add(b, a)
	b.Mod(b, modulus)
	return uint32(b.Uint64()*65536 + a.Uint64())
}

func TestP3DigestExamples(t *testing.T) {
	for _, c := range []struct {
		data string
		want uint64
	}{
		{"", 14695981039346656037},
		{"a", 0xaf63dc4c8601ec8c},
		{"foobar", 0x85944171f73967e8},
	} {
		if got := mirror.Digest([]byte(c.data)); got != c.want {
			t.Errorf("Digest(%q) = %d, want %d", c.data, got, c.want)
		}
	}
	if got := mirror.Digest(nil); got != 14695981039346656037 {
		t.Errorf("Digest(nil) = %d", got)
	}
}

func TestP3DigestByRule(t *testing.T) {
	for _, data := range [][]byte{{0}, {255}, {0, 0}, {1, 2, 3}, {3, 2, 1}, mixed(64), mixed(300), mixed(5000)} {
		if got, want := mirror.Digest(data), digestByRule(data); got != want {
			t.Errorf("Digest of %d bytes = %d, want %d", len(data), got, want)
		}
	}
}

func TestP3WeakExamples(t *testing.T) {
	for _, c := range []struct {
		data []byte
		want uint32
	}{
		{nil, 0},
		{[]byte{}, 0},
		{[]byte{0, 0, 0}, 0},
		{[]byte{1, 2, 3}, 655366},
		{[]byte{2, 3, 4}, 1048585},
		{[]byte("a"), 97*65536 + 97},
		{[]byte{255, 255}, 765*65536 + 510},
	} {
		if got := mirror.Weak(c.data); got != c.want {
			t.Errorf("Weak(%v) = %d, want %d", c.data, got, c.want)
		}
	}
}

func TestP3WeakGoesRound(t *testing.T) {
	full := bytes.Repeat([]byte{255}, 257)
	if got := mirror.Weak(full) % 65536; got != 65535 {
		t.Errorf("257 bytes of 255: a = %d, want 65535", got)
	}
	if got := mirror.Weak(append(full, 1)) % 65536; got != 0 {
		t.Errorf("one more byte of 1: a = %d, want 0", got)
	}
	for _, n := range []int{22, 23, 257, 258, 300, 65535, 65536, 65537, 200000} {
		for _, data := range [][]byte{bytes.Repeat([]byte{255}, n), mixed(n)} {
			if got, want := mirror.Weak(data), weakByRule(data); got != want {
				t.Errorf("Weak of %d bytes from %d on = %d, want %d", n, data[0], got, want)
			}
		}
	}
}

func TestP3RollExamples(t *testing.T) {
	for _, c := range []struct {
		weak    uint32
		n       int
		out, in byte
		want    uint32
	}{
		{655366, 3, 1, 4, 1048585},
		{0, 0, 0, 0, 0},
		{0, 0, 0, 1, 65536 + 1},
		{0, 0, 1, 0, 65535*65536 + 65535},
		{0, 1, 1, 0, 65534*65536 + 65535},
		{0, -1, 255, 0, 65281},
		{math.MaxUint32, 0, 0, 1, 65535 * 65536},
	} {
		if got := mirror.Roll(c.weak, c.n, c.out, c.in); got != c.want {
			t.Errorf("Roll(%d, %d, %d, %d) = %d, want %d", c.weak, c.n, c.out, c.in, got, c.want)
		}
	}
}

func TestP3RollOfAnyNumbers(t *testing.T) {
	weaks := []uint32{0, 1, 65535, 65536, 655366, 0x7fff8000, 0xffff0000, math.MaxUint32}
	sizes := []int{math.MinInt, math.MinInt + 1, math.MinInt32, -65537, -65536, -65535, -3, -1, 0, 1, 2, 64, 300, 32768, 65535, 65536, 65537, math.MaxInt32, math.MaxInt - 1, math.MaxInt}
	edges := []byte{0, 1, 127, 128, 254, 255}
	for _, weak := range weaks {
		for _, n := range sizes {
			for _, out := range edges {
				for _, in := range edges {
					if got, want := mirror.Roll(weak, n, out, in), rollByRule(weak, n, out, in); got != want {
						t.Fatalf("Roll(%d, %d, %d, %d) = %d, want %d", weak, n, out, in, got, want)
					}
				}
			}
		}
	}
}

func TestP3RollMovesAWindow(t *testing.T) {
	for _, n := range []int{1, 2, 3, 63, 64, 300, 65535, 65536, 65537} {
		for _, data := range [][]byte{mixed(n + 100), bytes.Repeat([]byte{255, 0, 254}, n/3+40)} {
			weak := mirror.Weak(data[:n])
			for i := range 100 {
				weak = mirror.Roll(weak, n, data[i], data[i+n])
				if want := mirror.Weak(data[i+1 : i+1+n]); weak != want {
					t.Fatalf("a window of %d bytes at %d: %d, want %d", n, i+1, weak, want)
				}
			}
		}
	}
}
