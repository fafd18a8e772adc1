package batch

import (
	"mirror/api"
	"mirror/delta"
	"mirror/sums"
	"mirror/tree"
)

// Record writes the batch that makes source of reference (P8).
func Record(source, reference []api.File, block int) ([]byte, error) {
	if err := check(source, reference, block); err != nil {
		return nil, err
	}
	b := addNumber([]byte(mark), short, uint64(block))
	b = addNumber(b, short, uint64(len(reference)))
	for _, file := range reference {
		b = addEntry(b, file)
	}
	b = addNumber(b, short, uint64(len(source)))
	for _, file := range source {
		tokens, err := delta.Diff(tree.Data(reference, file.Name), file.Data, block)
		if err != nil {
			return nil, err
		}
		b = addTokens(addEntry(b, file), tokens)
	}
	return addNumber(b, digest, sums.Digest(b)), nil
}

// check tells what P8 refuses, in its order.
func check(source, reference []api.File, block int) error {
	if err := sums.CheckBlock(block); err != nil {
		return err
	}
	if err := tree.Check(source); err != nil {
		return err
	}
	return tree.Check(reference)
}

// addEntry writes what is told of a file.
func addEntry(b []byte, file api.File) []byte {
	b = addNumber(b, short, uint64(len(file.Name)))
	b = append(b, file.Name...)
	b = addNumber(b, long, uint64(len(file.Data)))
	return addNumber(b, digest, sums.Digest(file.Data))
}

// addTokens writes the tokens of a target. Those of Diff hold no more bytes or blocks than a short number tells.
func addTokens(b []byte, tokens []api.Token) []byte {
	b = addNumber(b, long, uint64(len(tokens)))
	for _, token := range tokens {
		b = addToken(b, token)
	}
	return b
}

func addToken(b []byte, token api.Token) []byte {
	if token.Count == 0 {
		b = addNumber(b, short, kindBytes)
		b = addNumber(b, short, uint64(len(token.Data)))
		return append(b, token.Data...)
	}
	b = addNumber(b, short, kindBlocks)
	b = addNumber(b, long, uint64(token.Block))
	return addNumber(b, short, uint64(token.Count))
}

// addNumber writes so many bytes of a number, the highest first.
func addNumber(b []byte, width int, v uint64) []byte {
	for i := width - 1; i >= 0; i-- {
		b = append(b, byte(v>>(8*i)))
	}
	return b
}
