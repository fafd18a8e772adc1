// Package delta: the tokens that make a file of another (P5, P6).
package delta

import (
	"bytes"

	"mirror/api"
	"mirror/sums"
)

// maxRun is how many bytes, or how many blocks, one token holds at most.
const maxRun = 255

// Diff tells the tokens that make data of base (P5).
func Diff(base, data []byte, block int) ([]api.Token, error) {
	if err := checkBoth(base, data, block); err != nil {
		return nil, err
	}
	known := indexOf(base, block)
	var list []api.Token
	told, at := 0, 0
	for at+block <= len(data) {
		number, ok := known.find(data[at : at+block : at+block])
		if !ok {
			at++
			continue
		}
		list = addBytes(list, data[told:at:at])
		list = addBlock(list, number)
		at += block
		told = at
	}
	return addBytes(list, data[told:len(data):len(data)]), nil
}

// checkBoth tells P4's errors for either file.
func checkBoth(base, data []byte, block int) error {
	if err := sums.Check(base, block); err != nil {
		return err
	}
	return sums.Check(data, block)
}

// addBytes tells bytes that stand as they are. Each token has bytes of its own, as the list is the caller's.
func addBytes(list []api.Token, part []byte) []api.Token {
	for len(part) > 0 {
		n := min(len(part), maxRun)
		list = append(list, api.Token{Data: bytes.Clone(part[:n:n])})
		part = part[n:]
	}
	return list
}

// addBlock tells a block that is copied.
func addBlock(list []api.Token, number int) []api.Token {
	if last := len(list) - 1; last >= 0 && joins(list[last], number) {
		list[last].Count++
		return list
	}
	return append(list, api.Token{Block: number, Count: 1})
}

// joins is whether that block is the next one of a token that copies blocks and has room for it.
func joins(token api.Token, number int) bool {
	return token.Count > 0 && token.Count < maxRun && token.Block+token.Count == number
}
