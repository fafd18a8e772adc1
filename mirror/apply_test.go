package mirror_test

import (
	"bytes"
	"math"
	"testing"

	"mirror/api"
	"mirror/mirror"
	"mirror/plain"
)

// bytesOf makes a token of n bytes that stand as they are.
func bytesOf(n int) api.Token { return api.Token{Data: mixed(n)} }

// copyOf makes a token that copies count blocks from one on.
func copyOf(block, count int) api.Token { return api.Token{Block: block, Count: count} }

func TestP6WhatTokensMake(t *testing.T) {
	text := func(s string) api.Token { return api.Token{Data: []byte(s)} }
	for _, c := range []struct {
		about, base string
		tokens      []api.Token
		block       int
		want        string
	}{
		{"the document's", "abcde", []api.Token{copyOf(2, 1)}, 2, "e"},
		{"no tokens", "abcde", nil, 2, ""},
		{"no tokens, an empty list", "abcde", []api.Token{}, 2, ""},
		{"no base", "", []api.Token{text("xyz")}, 2, "xyz"},
		{"the first block", "abcde", []api.Token{copyOf(0, 1)}, 2, "ab"},
		{"a block between", "abcde", []api.Token{copyOf(1, 1)}, 2, "cd"},
		{"whole blocks", "abcde", []api.Token{copyOf(0, 2)}, 2, "abcd"},
		{"blocks with the shorter last one", "abcde", []api.Token{copyOf(1, 2)}, 2, "cde"},
		{"all blocks", "abcde", []api.Token{copyOf(0, 3)}, 2, "abcde"},
		{"a last block that is whole", "abcd", []api.Token{copyOf(1, 1)}, 2, "cd"},
		{"the shorter last block, and more behind it", "abcde", []api.Token{copyOf(2, 1), copyOf(0, 1), text("x"), copyOf(2, 1)}, 2, "eabxe"},
		{"a base that is shorter than a block", "abc", []api.Token{copyOf(0, 1), copyOf(0, 1)}, 64, "abcabc"},
		{"blocks of one byte", "abcde", []api.Token{copyOf(4, 1), copyOf(1, 3)}, 1, "ebcd"},
		{"bytes and blocks", "abcdef", []api.Token{text("x"), copyOf(1, 2), text("yz"), copyOf(0, 1)}, 2, "xcdefyzab"},
		{"tokens of nothing", "abcde", []api.Token{{}, text("x"), {Data: []byte{}}, copyOf(0, 1), {}}, 2, "xab"},
		{"no Data, but not nil", "abcde", []api.Token{{Block: 1, Count: 1, Data: []byte{}}}, 2, "cd"},
		{"bytes side by side", "", []api.Token{text("ab"), text("cd")}, 2, "abcd"},
	} {
		made, err := mirror.Apply([]byte(c.base), c.tokens, c.block)
		if err != nil || string(made) != c.want {
			t.Errorf("%s: Apply(%q, %v, %d) = %q, %v, want %q", c.about, c.base, c.tokens, c.block, made, err, c.want)
		}
	}
}

// The base has three blocks, and the last one is shorter.
func TestP6TokenErrors(t *testing.T) {
	base := []byte("abcde")
	x := []byte("x")
	for _, c := range []struct {
		about string
		token api.Token
	}{
		{"Count below 0", api.Token{Count: -1}},
		{"Count far below 0", api.Token{Count: math.MinInt}},
		{"Count below 0, with Data", api.Token{Count: -1, Data: x}},
		{"Count below 0, with a block", copyOf(1, -1)},
		{"Block below 0", copyOf(-1, 1)},
		{"Block below 0, though the last block copied is there", copyOf(-1, 2)},
		{"Block far below 0", copyOf(math.MinInt, 1)},
		{"Block far below 0, Count far above", copyOf(math.MinInt, math.MaxInt)},
		{"Block below 0, Count 0", copyOf(-1, 0)},
		{"Block below 0, Count 0, with Data", api.Token{Block: -1, Data: x}},
		{"both below 0", copyOf(-1, -1)},
		{"Count and Data", api.Token{Count: 1, Data: x}},
		{"Count and Data, of another block", api.Token{Block: 2, Count: 1, Data: x}},
		{"the document's: one block too many", copyOf(1, 3)},
		{"one block too many from the first on", copyOf(0, 4)},
		{"a block behind the last", copyOf(3, 1)},
		{"two blocks from the last on", copyOf(2, 2)},
		{"a block far behind the last", copyOf(math.MaxInt, 1)},
		{"far too many blocks", copyOf(0, math.MaxInt)},
		{"Block and Count that go round together", copyOf(math.MaxInt, math.MaxInt)},
		{"Block and Count that go round to 0", copyOf(1<<62, 1<<62)},
		{"blocks whose bytes go round", copyOf(1<<62, 1)},
		{"blocks that are too many, and Data", api.Token{Block: 3, Count: 1, Data: x}},
		{"Block without Count", copyOf(1, 0)},
		{"Block without Count, of no block", copyOf(3, 0)},
		{"Block without Count, with Data", api.Token{Block: 1, Data: x}},
		{"Block far above without Count", copyOf(math.MaxInt, 0)},
	} {
		for _, tokens := range [][]api.Token{{c.token}, {copyOf(0, 3), c.token}, {c.token, copyOf(0, 3)}, {bytesOf(api.MaxData), c.token}} {
			made, err := mirror.Apply(base, tokens, 2)
			if made != nil || err != error(api.ErrToken) {
				t.Errorf("%s, in %d tokens: Apply = %q, %v, want nil, %v", c.about, len(tokens), made, err, api.ErrToken)
			}
		}
	}
}

// Without any block there is none to copy.
func TestP6NoBlocks(t *testing.T) {
	for _, token := range []api.Token{copyOf(0, 1), copyOf(1, 1), copyOf(1, 0), copyOf(0, math.MaxInt)} {
		if made, err := mirror.Apply(nil, []api.Token{token}, 4); made != nil || err != error(api.ErrToken) {
			t.Errorf("Apply(nil, %v, 4) = %q, %v, want nil, %v", token, made, err, api.ErrToken)
		}
	}
	if made, err := mirror.Apply(nil, nil, 1); len(made) != 0 || err != nil {
		t.Errorf("Apply(nil, nil, 1) = %q, %v", made, err)
	}
}

func TestP6MuchData(t *testing.T) {
	base := mixed(api.MaxData)
	for _, c := range []struct {
		about  string
		tokens []api.Token
		block  int
		want   int
		kind   api.Kind
	}{
		{"all bytes in one token", []api.Token{bytesOf(300)}, 4, 300, 0},
		{"one byte more in one token", []api.Token{bytesOf(301)}, 4, 0, api.ErrData},
		{"far more in one token", []api.Token{bytesOf(65536)}, 4, 0, api.ErrData},
		{"all bytes in two tokens", []api.Token{bytesOf(255), bytesOf(45)}, 4, 300, 0},
		{"one byte more in two tokens", []api.Token{bytesOf(255), bytesOf(46)}, 4, 0, api.ErrData},
		{"all blocks", []api.Token{copyOf(0, 75)}, 4, 300, 0},
		{"all blocks, the last one shorter", []api.Token{copyOf(0, 5)}, 64, 300, 0},
		{"all blocks, one by one", []api.Token{copyOf(0, 1), copyOf(1, 1), copyOf(2, 1), copyOf(3, 1), copyOf(4, 1)}, 64, 300, 0},
		{"all blocks of one byte", []api.Token{copyOf(0, 300)}, 1, 300, 0},
		{"all blocks and a byte", []api.Token{copyOf(0, 75), bytesOf(1)}, 4, 0, api.ErrData},
		{"a byte and all blocks", []api.Token{bytesOf(1), copyOf(0, 75)}, 4, 0, api.ErrData},
		{"all blocks but one, and bytes", []api.Token{copyOf(0, 74), bytesOf(4)}, 4, 300, 0},
		{"all blocks but one, and bytes, one too many", []api.Token{copyOf(0, 74), bytesOf(5)}, 4, 0, api.ErrData},
		{"the shorter last block too often", []api.Token{copyOf(0, 5), copyOf(4, 1)}, 64, 0, api.ErrData},
		{"the shorter last block counts by its bytes", []api.Token{bytesOf(256), copyOf(4, 1)}, 64, 300, 0},
		{"all bytes, and tokens of nothing behind them", []api.Token{bytesOf(300), {}, {}}, 4, 300, 0},

		{"too many bytes, then a wrong token", []api.Token{bytesOf(300), bytesOf(1), {Count: -1}}, 4, 0, api.ErrData},
		{"a wrong token, then too many bytes", []api.Token{{Count: -1}, bytesOf(301)}, 4, 0, api.ErrToken},
		{"a wrong token with too many bytes: Count below 0", []api.Token{{Count: -1, Data: mixed(301)}}, 4, 0, api.ErrToken},
		{"a wrong token with too many bytes: Block below 0", []api.Token{{Block: -1, Data: mixed(301)}}, 4, 0, api.ErrToken},
		{"a wrong token with too many bytes: Count and Data", []api.Token{bytesOf(1), {Count: 75, Data: mixed(301)}}, 4, 0, api.ErrToken},
		{"a wrong token with too many bytes: Block alone", []api.Token{{Block: 1, Data: mixed(301)}}, 4, 0, api.ErrToken},
		{"a wrong token with too many bytes: blocks too many", []api.Token{bytesOf(300), copyOf(74, 2)}, 4, 0, api.ErrToken},
	} {
		made, err := mirror.Apply(base, c.tokens, c.block)
		kind, _ := api.Told(err)
		if len(made) != c.want || kind != c.kind || (err == nil) != (c.kind == 0) || (err != nil && made != nil) {
			t.Errorf("%s: Apply = %d bytes, %v, want %d, %v", c.about, len(made), err, c.want, c.kind)
		}
	}
}

// P1: with an error there are no bytes; the block's error comes first, base's next, the tokens' last.
func TestP1P6Errors(t *testing.T) {
	wrong, much := []api.Token{{Count: -1}}, []api.Token{bytesOf(api.MaxData + 1)}
	for _, c := range []struct {
		size   int
		tokens []api.Token
		block  int
		want   api.Kind
	}{
		{5, nil, 0, api.ErrBlock},
		{5, nil, -1, api.ErrBlock},
		{5, nil, math.MinInt, api.ErrBlock},
		{5, nil, api.MaxBlock + 1, api.ErrBlock},
		{5, nil, 256 + 1, api.ErrBlock},
		{5, nil, math.MaxInt, api.ErrBlock},
		{0, nil, 0, api.ErrBlock},
		{api.MaxData + 1, nil, 1, api.ErrData},
		{api.MaxData + 1, nil, api.MaxBlock, api.ErrData},
		{65536, nil, 1, api.ErrData},
		{api.MaxData + 1, nil, 0, api.ErrBlock},
		{api.MaxData + 1, wrong, api.MaxBlock + 1, api.ErrBlock},
		{5, wrong, 0, api.ErrBlock},
		{5, much, 0, api.ErrBlock},
		{api.MaxData + 1, wrong, 1, api.ErrData},
		{5, wrong, 1, api.ErrToken},
		{5, much, 1, api.ErrData},
		{5, wrong, api.MaxBlock, api.ErrToken},
	} {
		made, err := mirror.Apply(make([]byte, c.size), c.tokens, c.block)
		if made != nil || err != error(c.want) {
			t.Errorf("Apply to %d bytes by %d = %q, %v, want nil, %v", c.size, c.block, made, err, c.want)
		}
		asked, kind := plain.Apply(make([]byte, c.size), c.tokens, c.block)
		if asked != nil || kind != c.want {
			t.Errorf("plain.Apply to %d bytes by %d = %q, %d, want nil, %d", c.size, c.block, asked, kind, c.want)
		}
	}
}

// P1: a call ends, however many tokens of nothing there are.
func TestP1P6ManyTokens(t *testing.T) {
	tokens := make([]api.Token, 100000)
	tokens[50000] = copyOf(0, 1)
	if made, err := mirror.Apply([]byte("ab"), tokens, 2); err != nil || string(made) != "ab" {
		t.Errorf("Apply of many tokens = %q, %v", made, err)
	}
}

func TestP6AskedFromOutside(t *testing.T) {
	made, kind := plain.Apply([]byte("abcde"), []api.Token{copyOf(2, 1), {Data: []byte("x")}}, 2)
	if kind != 0 || !bytes.Equal(made, []byte("ex")) {
		t.Errorf("plain.Apply = %q, %d", made, kind)
	}
}
