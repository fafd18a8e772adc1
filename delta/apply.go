package delta

import (
	"mirror/api"
	"mirror/sums"
)

// Apply makes of base what the tokens say (P6).
func Apply(base []byte, tokens []api.Token, block int) ([]byte, error) {
	if err := sums.Check(base, block); err != nil {
		return nil, err
	}
	var made []byte
	for _, token := range tokens {
		if !fits(token, sums.Count(len(base), block)) {
			return nil, api.ErrToken
		}
		part := partOf(base, token, block)
		if len(part) > api.MaxData-len(made) {
			return nil, api.ErrData
		}
		made = append(made, part...)
	}
	return made, nil
}

// fits is whether a token may speak of a file of so many blocks. Count is held against what is left behind Block, as a sum of both could go round.
func fits(token api.Token, blocks int) bool {
	if token.Count < 0 || token.Block < 0 {
		return false
	}
	if token.Count == 0 {
		return token.Block == 0
	}
	return len(token.Data) == 0 && token.Count <= blocks-token.Block
}

// partOf is what a token that fits stands for.
func partOf(base []byte, token api.Token, block int) []byte {
	if token.Count == 0 {
		return token.Data
	}
	from, to := token.Block*block, min((token.Block+token.Count)*block, len(base))
	return base[from:to:to]
}
