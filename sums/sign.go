package sums

import "mirror/api"

// Sign tells the sums of the blocks of data (P4).
func Sign(data []byte, block int) ([]api.Sum, error) {
	if err := Check(data, block); err != nil {
		return nil, err
	}
	list := make([]api.Sum, 0, Count(len(data), block))
	for from := 0; from < len(data); from += block {
		to := min(from+block, len(data))
		list = append(list, sumOf(data[from:to:to]))
	}
	return list, nil
}

// Check tells P4's errors. The block's size comes first, as the promise names it first.
func Check(data []byte, block int) error {
	if err := CheckBlock(block); err != nil {
		return err
	}
	if len(data) > api.MaxData {
		return api.ErrData
	}
	return nil
}

// CheckBlock tells ErrBlock, if no block has that size.
func CheckBlock(block int) error {
	if block < 1 || block > api.MaxBlock {
		return api.ErrBlock
	}
	return nil
}

// Count is how many blocks a file of that size has, the shorter last one too.
func Count(size, block int) int { return (size + block - 1) / block }

// sumOf is what is told of one block.
func sumOf(part []byte) api.Sum {
	return api.Sum{Size: len(part), Weak: Weak(part), Strong: Digest(part)}
}
