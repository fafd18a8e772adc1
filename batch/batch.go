// Package batch: batches, written and read (P7 to P9).
package batch

// mark is what every batch begins with.
const mark = "BAT"

// The kinds of tokens, as a token's first byte tells them.
const (
	kindBytes = iota
	kindBlocks
)

// How many bytes a number has.
const (
	short  = 1 // how many, how long, a kind
	long   = 2 // a file's size, a block's number, how many tokens
	digest = 8
)
