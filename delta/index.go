package delta

import (
	"bytes"

	"mirror/sums"
)

// pair is both sums of a block.
type pair struct {
	weak   uint32
	strong uint64
}

// index finds the whole blocks of a file by their sums.
type index struct {
	base  []byte
	block int
	least map[pair]int // the least number of a block that has the sums
}

// indexOf leaves out a last block that is shorter, since only whole blocks are copied.
func indexOf(base []byte, block int) index {
	x := index{base: base, block: block, least: make(map[pair]int)}
	for number := range x.whole() {
		key := pairOf(x.at(number))
		if _, ok := x.least[key]; !ok {
			x.least[key] = number
		}
	}
	return x
}

// pairOf is both sums of part.
func pairOf(part []byte) pair {
	return pair{weak: sums.Weak(part), strong: sums.Digest(part)}
}

// whole is how many whole blocks there are.
func (x index) whole() int { return len(x.base) / x.block }

// at is the block with that number.
func (x index) at(number int) []byte {
	from, to := number*x.block, (number+1)*x.block
	return x.base[from:to:to]
}

// find tells the least number of a block that is part, byte by byte. Different blocks may have the same sums, so the sums tell only where to begin.
func (x index) find(part []byte) (int, bool) {
	number, ok := x.least[pairOf(part)]
	if !ok {
		return 0, false
	}
	for ; number < x.whole(); number++ {
		if bytes.Equal(x.at(number), part) {
			return number, true
		}
	}
	return 0, false
}
