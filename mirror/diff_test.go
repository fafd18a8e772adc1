package mirror_test

import (
	"bytes"
	"encoding/hex"
	"fmt"
	"math"
	"strings"
	"testing"

	"mirror/api"
	"mirror/mirror"
	"mirror/plain"
)

// show writes tokens as text: bytes in quotes, blocks as number+count.
func show(tokens []api.Token) string {
	var parts []string
	for _, x := range tokens {
		switch {
		case x.Count == 0 && x.Block == 0 && len(x.Data) > 0:
			parts = append(parts, fmt.Sprintf("%q", x.Data))
		case x.Count > 0 && len(x.Data) == 0:
			parts = append(parts, fmt.Sprintf("%d+%d", x.Block, x.Count))
		default:
			parts = append(parts, fmt.Sprintf("no token of Diff: %+v", x))
		}
	}
	return strings.Join(parts, " ")
}

// blockByRule looks for the least whole block of base that data begins with, byte by byte, without any sum; -1: there is none.
func blockByRule(base, data []byte, block int) int {
	for number := 0; len(data) >= block && (number+1)*block <= len(base); number++ {
		if string(base[number*block:(number+1)*block]) == string(data[:block]) {
			return number
		}
	}
	return -1
}

// diffByRule follows P5's words, one block or one byte after the other.
func diffByRule(base, data []byte, block int) []api.Token {
	list := []api.Token{{Count: -1}} // ahead of the first token there is one that nothing joins
	for len(data) > 0 {
		last := &list[len(list)-1]
		number := blockByRule(base, data, block)
		switch {
		case number >= 0 && last.Count >= 1 && last.Count <= 254 && number == last.Block+last.Count:
			last.Count++
		case number >= 0:
			list = append(list, api.Token{Block: number, Count: 1})
		case last.Count == 0 && len(last.Data) <= 254:
			last.Data = append(last.Data, data[0])
		default:
			list = append(list, api.Token{Data: []byte{data[0]}})
		}
		if number >= 0 {
			data = data[block:]
		} else {
			data = data[1:]
		}
	}
	return list[1:]
}

// checkDiff asks for the tokens, and makes data again of them.
func checkDiff(t *testing.T, base, data []byte, block int, want string) {
	t.Helper()
	tokens, err := mirror.Diff(base, data, block)
	if got := show(tokens); err != nil || got != want {
		t.Errorf("Diff(%q, %q, %d) = %s, %v, want %s", base, data, block, got, err, want)
	}
	if made, err := mirror.Apply(base, tokens, block); err != nil || !bytes.Equal(made, data) {
		t.Errorf("Apply(%q, %s, %d) = %q, %v, want %q", base, show(tokens), block, made, err, data)
	}
}

func TestP5Texts(t *testing.T) {
	for _, c := range []struct {
		about, base, data string
		block             int
		want              string
	}{
		{"the document's", "abcdefgh", "xxabcdefghy", 4, `"xx" 0+2 "y"`},
		{"the document's", "abab", "abababa", 2, `0+1 0+1 0+1 "a"`},
		{"the document's", "abcdabc", "abc", 4, `"abc"`},
		{"nothing", "", "", 4, ``},
		{"no data", "abcd", "", 4, ``},
		{"no base", "", "abcd", 4, `"abcd"`},
		{"the same file", "abcdefgh", "abcdefgh", 4, `0+2`},
		{"nothing is the same", "abcdefgh", "stuvwxyz", 4, `"stuvwxyz"`},

		{"the least of two", "abxxab", "ab", 2, `0+1`},
		{"the least of two, not the first of all", "zzabyyab", "ab", 2, `1+1`},
		{"the least of two, though the other would join", "abcdab", "cdab", 2, `1+1 0+1`},
		{"the least of three", "aaaaaa", "aaaaaa", 2, `0+1 0+1 0+1`},

		{"a shorter last block", "abcdef", "ef", 4, `"ef"`},
		{"a shorter last block behind a whole one", "abcdef", "abcdef", 4, `0+1 "ef"`},
		{"a shorter last block with more behind it", "abcdef", "efgh", 4, `"efgh"`},
		{"a base that is shorter than a block", "abc", "abcabc", 4, `"abcabc"`},
		{"data shorter than a block", "abcd", "abc", 4, `"abc"`},
		{"data that ends within a block", "abcdefgh", "abcdefg", 4, `0+1 "efg"`},
		{"data as long as a block", "abcd", "abcd", 4, `0+1`},

		{"a block at no block's place", "abcdefgh", "cdef", 4, `"cdef"`},
		{"a block behind one byte", "abcd", "aabcd", 4, `"a" 0+1`},
		{"the first of two that overlap", "abbc", "abbc", 2, `0+2`},
		{"the look goes on behind a block", "abba", "abba", 2, `0+2`},
		{"the look goes on behind a block, not within", "abbc", "abc", 2, `0+1 "c"`},
		{"the look goes on behind one byte", "aab", "aaab", 3, `"a" 0+1`},

		{"the next block joins", "abcdef", "abcdef", 2, `0+3`},
		{"the next block joins, but from the first on", "abcdef", "cdef", 2, `1+2`},
		{"the block ahead does not join", "abcdef", "cdab", 2, `1+1 0+1`},
		{"the same block does not join", "abcdef", "abab", 2, `0+1 0+1`},
		{"the next but one does not join", "abcdef", "abef", 2, `0+1 2+1`},
		{"the next behind the first of two does not join", "abcdef", "abcdcd", 2, `0+2 1+1`},
		{"bytes between keep blocks apart", "abcdef", "abxcd", 2, `0+1 "x" 1+1`},
		{"block 0 does not join bytes", "abcd", "xab", 2, `"x" 0+1`},
		{"block 1 does not join a byte", "abcd", "xcd", 2, `"x" 1+1`},
		{"a row behind a row", "abcdef", "abcdabcdef", 2, `0+2 0+3`},
		{"bytes on both sides of a block", "ab", "xyabzw", 2, `"xy" 0+1 "zw"`},
		{"blocks of one byte", "abc", "cabxc", 1, `2+1 0+2 "x" 2+1`},
	} {
		t.Run(c.about, func(t *testing.T) { checkDiff(t, []byte(c.base), []byte(c.data), c.block, c.want) })
	}
	checkDiff(t, nil, nil, 1, ``)
}

// Of both blocks the two parts of the weak sum are 2 and 4.
func TestP5SameWeakSum(t *testing.T) {
	one, other := []byte{1, 0, 1}, []byte{0, 2, 0}
	if mirror.Weak(one) != mirror.Weak(other) {
		t.Fatal("the weak sums differ")
	}
	checkDiff(t, one, other, 3, `"\x00\x02\x00"`)
	both := bytes.Join([][]byte{one, other}, nil)
	checkDiff(t, both, other, 3, `1+1`)
	checkDiff(t, both, one, 3, `0+1`)
	checkDiff(t, both, both, 3, `0+2`)
}

// Two blocks that differ, but in neither of the sums: only their bytes tell them apart.
func TestP5SameSums(t *testing.T) {
	one, _ := hex.DecodeString("0553ea28290dd2800048")
	other, _ := hex.DecodeString("6d44a12d1d192c9b7945")
	if bytes.Equal(one, other) || mirror.Weak(one) != mirror.Weak(other) || mirror.Digest(one) != mirror.Digest(other) {
		t.Fatal("these are not two blocks of the same sums")
	}
	between := []byte("0123456789")
	join := func(parts ...[]byte) []byte { return bytes.Join(parts, nil) }
	checkDiff(t, one, other, 10, fmt.Sprintf("%q", other))
	checkDiff(t, other, one, 10, fmt.Sprintf("%q", one))
	checkDiff(t, join(one, other), other, 10, `1+1`)
	checkDiff(t, join(one, other), one, 10, `0+1`)
	checkDiff(t, join(one, between, other, other), join(other, one, other), 10, `2+1 0+1 2+1`)
	checkDiff(t, join(one, between, one, other[:9]), other, 10, fmt.Sprintf("%q", other))
}

func TestP5ManyBytes(t *testing.T) {
	for _, c := range []struct {
		size int
		want []int
	}{
		{1, []int{1}},
		{254, []int{254}},
		{255, []int{255}},
		{256, []int{255, 1}},
		{257, []int{255, 2}},
		{api.MaxData, []int{255, 45}},
	} {
		data := mixed(c.size)
		var parts []string
		rest := data
		for _, n := range c.want {
			parts = append(parts, fmt.Sprintf("%q", rest[:n]))
			rest = rest[n:]
		}
		checkDiff(t, nil, data, 4, strings.Join(parts, " "))
	}
	x := strings.Repeat("x", 255)
	checkDiff(t, []byte("ab"), []byte(x+"abxx"), 2, fmt.Sprintf(`%q 0+1 "xx"`, x))
	checkDiff(t, []byte("ab"), []byte(x+"xabxx"), 2, fmt.Sprintf(`%q "x" 0+1 "xx"`, x))
	checkDiff(t, []byte("ab"), []byte("xxab"+x+"x"), 2, fmt.Sprintf(`"xx" 0+1 %q "x"`, x))
}

func TestP5ManyBlocks(t *testing.T) {
	row := make([]byte, 256)
	for i := range row {
		row[i] = byte(i)
	}
	checkDiff(t, row, row[:254], 1, `0+254`)
	checkDiff(t, row, row[:255], 1, `0+255`)
	checkDiff(t, row, row, 1, `0+255 255+1`)
	checkDiff(t, row, row[1:], 1, `1+255`)
	checkDiff(t, row, append(bytes.Clone(row), 0, 1), 1, `0+255 255+1 0+2`)
	checkDiff(t, row, append([]byte{254, 255}, row...), 1, `254+2 0+255 255+1`)
	checkDiff(t, row[:200], row, 1, fmt.Sprintf("0+200 %q", row[200:]))
	checkDiff(t, []byte("x"), bytes.Repeat([]byte("x"), api.MaxData), 1, strings.TrimSpace(strings.Repeat("0+1 ", api.MaxData)))
}

func TestP5Edges(t *testing.T) {
	full := mixed(api.MaxData)
	checkDiff(t, full, full, api.MaxBlock, fmt.Sprintf("0+4 %q", full[256:]))
	checkDiff(t, full, full, 60, `0+5`)
	checkDiff(t, full, full[:api.MaxBlock], api.MaxBlock, `0+1`)
	checkDiff(t, full, full[:api.MaxBlock-1], api.MaxBlock, fmt.Sprintf("%q", full[:api.MaxBlock-1]))
	checkDiff(t, full[:api.MaxBlock], full[:api.MaxBlock], api.MaxBlock, `0+1`)
	checkDiff(t, full[:api.MaxBlock-1], full[:api.MaxBlock-1], api.MaxBlock, fmt.Sprintf("%q", full[:api.MaxBlock-1]))
	checkDiff(t, full[:api.MaxData-1], full[1:], 1, show(diffByRule(full[:api.MaxData-1], full[1:], 1)))
}

// words makes every text of at most n letters of those.
func words(letters string, n int) []string {
	list := []string{""}
	for from := 0; n > 0; n-- {
		to := len(list)
		for _, w := range list[from:to] {
			for _, x := range letters {
				list = append(list, w+string(x))
			}
		}
		from = to
	}
	return list
}

func TestP5EveryShortText(t *testing.T) {
	for _, base := range words("ab", 6) {
		for _, data := range words("ab", 6) {
			for block := 1; block <= 4; block++ {
				checkDiff(t, []byte(base), []byte(data), block, show(diffByRule([]byte(base), []byte(data), block)))
			}
		}
	}
}

// Data that is made of pieces of base, here and there with a byte between, by every size of block.
func TestP5EveryBlock(t *testing.T) {
	base := mixed(api.MaxData)
	for block := 1; block <= api.MaxBlock; block++ {
		for seed := range 20 {
			var data []byte
			for step := 0; len(data) < 250; step++ {
				from := (seed*37 + step*53 + block*11) % (api.MaxData - 70)
				if step%2 == 0 {
					from -= from % block
				}
				data = append(data, base[from:from+1+(seed*29+step*17)%70]...)
				if step%3 == 2 {
					data = append(data, byte(step))
				}
			}
			data = data[:min(len(data), api.MaxData-seed%2)]
			checkDiff(t, base, data, block, show(diffByRule(base, data, block)))
		}
	}
}

// P1: with an error the list is nil; where several apply, the block's comes first.
func TestP1P5Errors(t *testing.T) {
	const over = api.MaxData + 1
	for _, c := range []struct {
		base, data, block int
		want              api.Kind
	}{
		{4, 4, 0, api.ErrBlock},
		{4, 4, -1, api.ErrBlock},
		{4, 4, math.MinInt, api.ErrBlock},
		{4, 4, api.MaxBlock + 1, api.ErrBlock},
		{4, 4, 256 + 1, api.ErrBlock},
		{4, 4, math.MaxInt, api.ErrBlock},
		{0, 0, 0, api.ErrBlock},
		{0, 0, api.MaxBlock + 1, api.ErrBlock},
		{over, 4, 1, api.ErrData},
		{4, over, 1, api.ErrData},
		{over, over, api.MaxBlock, api.ErrData},
		{over, 0, 4, api.ErrData},
		{0, over, 4, api.ErrData},
		{65536, 4, 4, api.ErrData},
		{4, 65536, 4, api.ErrData},
		{over, 4, 0, api.ErrBlock},
		{4, over, 0, api.ErrBlock},
		{over, over, api.MaxBlock + 1, api.ErrBlock},
	} {
		tokens, err := mirror.Diff(make([]byte, c.base), make([]byte, c.data), c.block)
		if tokens != nil || err != error(c.want) {
			t.Errorf("Diff of %d and %d bytes by %d = %v, %v, want nil, %v", c.base, c.data, c.block, tokens, err, c.want)
		}
		asked, kind := plain.Diff(make([]byte, c.base), make([]byte, c.data), c.block)
		if asked != nil || kind != c.want {
			t.Errorf("plain.Diff of %d and %d bytes by %d = %v, %d, want nil, %d", c.base, c.data, c.block, asked, kind, c.want)
		}
	}
}

func TestP5AskedFromOutside(t *testing.T) {
	tokens, kind := plain.Diff([]byte("abcdefgh"), []byte("xxabcdefghy"), 4)
	if got := show(tokens); kind != 0 || got != `"xx" 0+2 "y"` {
		t.Errorf("plain.Diff = %s, %d", got, kind)
	}
}
