package mirror_test

import (
	"bytes"
	"reflect"
	"sync"
	"testing"

	"mirror/api"
	"mirror/mirror"
)

// cloneTokens copies tokens with their bytes, the spare room behind both too.
func cloneTokens(tokens []api.Token) []api.Token {
	list := make([]api.Token, cap(tokens))
	for i, x := range tokens[:cap(tokens)] {
		list[i] = api.Token{Block: x.Block, Count: x.Count, Data: bytes.Clone(x.Data[:cap(x.Data)])}
	}
	return list
}

// spoil writes into all bytes of the tokens, into their spare room, and into the list.
func spoil(tokens []api.Token) {
	for _, x := range tokens[:cap(tokens)] {
		room := x.Data[:cap(x.Data)]
		for i := range room {
			room[i] ^= 0x55
		}
	}
	clear(tokens[:cap(tokens)])
}

// oldAndNew are two files with room ahead of them and behind them, in one list of bytes: pieces of base stand in data.
func oldAndNew() (whole, base, data []byte) {
	whole = mixed(900)
	base, data = whole[50:250], whole[400:680]
	copy(data[20:], base[16:96])
	copy(data[101:], base[:40])
	return whole, base, data
}

// P2: Diff only reads both files, the room ahead of them and the spare room behind them too.
func TestP2DiffOnlyReads(t *testing.T) {
	for block := 0; block <= api.MaxBlock+1; block++ {
		whole, base, data := oldAndNew()
		before := bytes.Clone(whole)
		tokens, _ := mirror.Diff(base, data, block)
		if !bytes.Equal(whole, before) {
			t.Fatalf("Diff by %d changed what it was handed", block)
		}
		spoil(tokens)
		if !bytes.Equal(whole, before) {
			t.Fatalf("Diff by %d: writing into the tokens changed what it was handed", block)
		}
	}
}

// P2: no two tokens share memory: what is written into one, and behind it, changes no other.
func TestP2TokensShareNothing(t *testing.T) {
	_, base, data := oldAndNew()
	data = append(bytes.Clone(data[20:60]), mixed(260)...)
	for _, block := range []int{1, 8, 16, api.MaxBlock} {
		tokens, err := mirror.Diff(base, data, block)
		if err != nil || len(tokens) < 2 {
			t.Fatalf("Diff by %d: %d tokens, %v", block, len(tokens), err)
		}
		want := cloneTokens(tokens)
		for i := range tokens {
			room := tokens[i].Data[:cap(tokens[i].Data)]
			for j := range room {
				room[j] ^= 0x55
			}
			for j := i + 1; j < len(tokens); j++ {
				if !bytes.Equal(tokens[j].Data[:cap(tokens[j].Data)], want[j].Data) {
					t.Fatalf("Diff by %d: writing into token %d changed token %d", block, i, j)
				}
			}
		}
	}
}

// P2: the tokens hang neither on the files behind the call nor on another answer.
func TestP2TokensAreNew(t *testing.T) {
	whole, base, data := oldAndNew()
	first, _ := mirror.Diff(base, data, 8)
	second, _ := mirror.Diff(base, data, 8)
	want := show(second)
	if show(first) != want || len(second) < 3 {
		t.Fatalf("two answers to one question: %s and %s", show(first), want)
	}
	spoil(first)
	if third, _ := mirror.Diff(base, data, 8); show(third) != want {
		t.Errorf("a later answer changed: %s, want %s", show(third), want)
	}
	clear(whole)
	if show(second) != want {
		t.Errorf("an answer changed behind the call: %s, want %s", show(second), want)
	}
}

// P2: Apply only reads the file and the tokens, their bytes, and the spare room behind all of them.
func TestP2ApplyOnlyReads(t *testing.T) {
	for _, last := range []api.Token{{}, copyOf(0, 3), {Count: -1}, bytesOf(api.MaxData), {Block: 1}} {
		whole := mixed(600)
		base := whole[50:130]
		tokens := append(make([]api.Token, 0, 8), api.Token{Data: whole[300:340]}, copyOf(8, 2), api.Token{Data: whole[340:341]}, last)
		tokens[:8][5] = api.Token{Block: 7, Count: 7, Data: whole[500:510]}
		before, beforeTokens := bytes.Clone(whole), cloneTokens(tokens)
		made, _ := mirror.Apply(base, tokens, 8)
		if !bytes.Equal(whole, before) || !reflect.DeepEqual(cloneTokens(tokens), beforeTokens) {
			t.Fatalf("Apply with %v at the end changed what it was handed", last)
		}
		clear(made[:cap(made)])
		if !bytes.Equal(whole, before) || !reflect.DeepEqual(cloneTokens(tokens), beforeTokens) {
			t.Fatalf("Apply with %v at the end: writing into the answer changed what it was handed", last)
		}
	}
}

// P2: also an answer that is one part alone, whole, is new memory.
func TestP2ApplyIsNew(t *testing.T) {
	for _, tokens := range [][]api.Token{{copyOf(0, 10)}, {bytesOf(80)}, {{}, copyOf(3, 1)}, {{Data: mixed(10)[:4]}}} {
		base := mixed(80)
		first, err := mirror.Apply(base, tokens, 8)
		second, _ := mirror.Apply(base, tokens, 8)
		want := bytes.Clone(second)
		if err != nil || len(want) == 0 || !bytes.Equal(first, want) {
			t.Fatalf("two answers to one question: %q and %q, %v", first, second, err)
		}
		clear(first[:cap(first)])
		if third, _ := mirror.Apply(base, tokens, 8); !bytes.Equal(third, want) {
			t.Errorf("a later answer changed: %q, want %q", third, want)
		}
		clear(base)
		spoil(tokens)
		if !bytes.Equal(second, want) {
			t.Errorf("an answer changed behind the call: %q, want %q", second, want)
		}
	}
}

// P2: no byte behind a file counts, not even where its last block is shorter or data ends within a block.
func TestP2SpareRoomIsNoData(t *testing.T) {
	whole := []byte("abcdefghij")
	for _, c := range []struct {
		size   int
		token  api.Token
		block  int
		answer string
	}{
		{5, copyOf(2, 1), 2, "e"},
		{5, copyOf(0, 3), 2, "abcde"},
		{5, copyOf(0, 1), api.MaxBlock, "abcde"},
		{7, copyOf(1, 1), 4, "efg"},
		{0, api.Token{Data: whole[:3]}, 4, "abc"},
	} {
		if made, err := mirror.Apply(whole[:c.size], []api.Token{c.token}, c.block); err != nil || string(made) != c.answer {
			t.Errorf("Apply of %v to %q by %d = %q, %v, want %q", c.token, whole[:c.size], c.block, made, err, c.answer)
		}
	}
	if made, err := mirror.Apply(whole[:4], []api.Token{copyOf(2, 1)}, 2); made != nil || err != error(api.ErrToken) {
		t.Errorf("Apply of a block behind base = %q, %v", made, err)
	}
	checkDiff(t, whole[:7], whole[4:8], 4, `"efgh"`)
	checkDiff(t, whole, whole[4:7], 4, `"efg"`)
}

// P2: base may stand in the tokens too.
func TestP2OneListTwice(t *testing.T) {
	base := []byte("abcdef")
	checkDiff(t, base, base, 2, `0+3`)
	checkDiff(t, base[:4], base[2:], 2, `1+1 "ef"`)
	made, err := mirror.Apply(base, []api.Token{{Data: base}, copyOf(1, 2), {Data: base[:1]}}, 2)
	if err != nil || string(made) != "abcdefcdefa" || string(base) != "abcdef" {
		t.Errorf("Apply = %q, %v, base %q", made, err, base)
	}
}

// P1: calls side by side answer as one alone does.
func TestP1DeltaSideBySide(t *testing.T) {
	_, base, data := oldAndNew()
	tokens, _ := mirror.Diff(base, data, 8)
	want := show(tokens)
	var group sync.WaitGroup
	for range 8 {
		group.Go(func() {
			got, err := mirror.Diff(base, data, 8)
			if err != nil || show(got) != want {
				t.Error("Diff beside others answers otherwise than alone")
			}
			if made, err := mirror.Apply(base, tokens, 8); err != nil || !bytes.Equal(made, data) {
				t.Error("Apply beside others answers otherwise than alone")
			}
		})
	}
	group.Wait()
}
