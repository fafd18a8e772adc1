package delta

import (
	"mirror/api"
	"mirror/sums"
)

// Apply makes of base what the tokens say (P6).
func Apply(base []byte, tokens []api.Token, block int) ([]byte, error) {
	if err := sums.Check(base, block); err != nil {
		return nil, err
	}
	var made []byte
	for _, token := range tokens {
		if !Fits(token, len(base), block) {
			return nil, api.ErrToken
		}
		part := partOf(base, token, block)
		if len(part) > api.MaxData-len(made) {
			return nil, api.ErrData
		}
		made = append(made, part...)
	}
	return made, nil
}

// Fits is whether a token may speak of a file of that size. Count is held against what is left behind Block, as a sum of both could go round.
func Fits(token api.Token, size, block int) bool {
	if token.Count < 0 || token.Block < 0 {
		return false
	}
	if token.Count == 0 {
		return token.Block == 0
	}
	return len(token.Data) == 0 && token.Count <= sums.Count(size, block)-token.Block
}

// Size is how many bytes a token that fits makes of a file of that size.
func Size(token api.Token, size, block int) int {
	if token.Count == 0 {
		return len(token.Data)
	}
	from, to := span(token, size, block)
	return to - from
}

// partOf is what a token that fits stands for.
func partOf(base []byte, token api.Token, block int) []byte {
	if token.Count == 0 {
		return token.Data
	}
	from, to := span(token, len(base), block)
	return base[from:to:to]
}

// span is where the blocks of a token that fits lie. The last block of a file may be shorter.
func span(token api.Token, size, block int) (from, to int) {
	return token.Block * block, min((token.Block+token.Count)*block, size)
}
