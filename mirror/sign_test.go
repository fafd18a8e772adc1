package mirror_test

import (
	"math"
	"slices"
	"testing"

	"mirror/api"
	"mirror/mirror"
	"mirror/plain"
)

func TestP4BlocksOfAText(t *testing.T) {
	for _, c := range []struct {
		data  string
		block int
		want  []string
	}{
		{"", 3, nil},
		{"a", 3, []string{"a"}},
		{"abc", 3, []string{"abc"}},
		{"abcd", 3, []string{"abc", "d"}},
		{"abcdef", 3, []string{"abc", "def"}},
		{"abcdefgh", 3, []string{"abc", "def", "gh"}},
		{"aba", 1, []string{"a", "b", "a"}},
		{"abc", api.MaxBlock, []string{"abc"}},
	} {
		var want []api.Sum
		for _, s := range c.want {
			want = append(want, api.Sum{Size: len(s), Weak: weakByRule([]byte(s)), Strong: digestByRule([]byte(s))})
		}
		got, err := mirror.Sign([]byte(c.data), c.block)
		if err != nil || !slices.Equal(got, want) {
			t.Errorf("Sign(%q, %d) = %v, %v, want %v", c.data, c.block, got, err, want)
		}
	}
}

// Every size that is allowed, with every block that is.
func TestP4EverySize(t *testing.T) {
	data := mixed(api.MaxData)
	for block := 1; block <= api.MaxBlock; block++ {
		for size := range api.MaxData + 1 {
			list, err := mirror.Sign(data[:size], block)
			if err != nil {
				t.Fatalf("Sign of %d bytes by %d: %v", size, block, err)
			}
			rest := data[:size]
			for i, sum := range list {
				part := rest[:min(block, len(rest))]
				rest = rest[len(part):]
				if len(part) == 0 || sum != (api.Sum{Size: len(part), Weak: mirror.Weak(part), Strong: mirror.Digest(part)}) {
					t.Fatalf("Sign of %d bytes by %d: block %d is %+v", size, block, i, sum)
				}
			}
			if len(rest) != 0 {
				t.Fatalf("Sign of %d bytes by %d leaves %d out", size, block, len(rest))
			}
		}
	}
}

func TestP4Edges(t *testing.T) {
	for _, c := range []struct{ size, block, blocks, last int }{
		{0, 1, 0, 0},
		{0, api.MaxBlock, 0, 0},
		{1, 1, 1, 1},
		{1, api.MaxBlock, 1, 1},
		{64, api.MaxBlock, 1, 64},
		{65, api.MaxBlock, 2, 1},
		{api.MaxData, 1, 300, 1},
		{api.MaxData, 60, 5, 60},
		{api.MaxData, api.MaxBlock, 5, 44},
	} {
		list, err := mirror.Sign(mixed(c.size), c.block)
		if err != nil || len(list) != c.blocks {
			t.Errorf("Sign of %d bytes by %d: %d blocks, %v, want %d", c.size, c.block, len(list), err, c.blocks)
			continue
		}
		if c.blocks > 0 && list[c.blocks-1].Size != c.last {
			t.Errorf("Sign of %d bytes by %d: the last block has %d bytes, want %d", c.size, c.block, list[c.blocks-1].Size, c.last)
		}
	}
	if list, err := mirror.Sign(nil, 1); len(list) != 0 || err != nil {
		t.Errorf("Sign(nil, 1) = %v, %v", list, err)
	}
}

// P1: with an error the list is nil, and where both errors apply the block's comes first.
func TestP1P4Errors(t *testing.T) {
	for _, c := range []struct {
		size, block int
		want        api.Kind
	}{
		{5, 0, api.ErrBlock},
		{5, -1, api.ErrBlock},
		{5, math.MinInt, api.ErrBlock},
		{5, api.MaxBlock + 1, api.ErrBlock},
		{5, 256 + 1, api.ErrBlock},
		{5, 65536 + 1, api.ErrBlock},
		{5, math.MaxInt, api.ErrBlock},
		{0, 0, api.ErrBlock},
		{0, api.MaxBlock + 1, api.ErrBlock},
		{api.MaxData + 1, 1, api.ErrData},
		{api.MaxData + 1, api.MaxBlock, api.ErrData},
		{65536, 1, api.ErrData},
		{65536 + 1, api.MaxBlock, api.ErrData},
		{api.MaxData + 1, 0, api.ErrBlock},
		{api.MaxData + 1, -1, api.ErrBlock},
		{api.MaxData + 1, api.MaxBlock + 1, api.ErrBlock},
		{65536, math.MinInt, api.ErrBlock},
	} {
		list, err := mirror.Sign(make([]byte, c.size), c.block)
		if list != nil || err != error(c.want) {
			t.Errorf("Sign of %d bytes by %d = %v, %v, want nil, %v", c.size, c.block, list, err, c.want)
		}
		asked, kind := plain.Sign(make([]byte, c.size), c.block)
		if asked != nil || kind != c.want {
			t.Errorf("plain.Sign of %d bytes by %d = %v, %d, want nil, %d", c.size, c.block, asked, kind, c.want)
		}
	}
	if list, err := mirror.Sign(nil, 0); list != nil || err != error(api.ErrBlock) {
		t.Errorf("Sign(nil, 0) = %v, %v", list, err)
	}
}

func TestP4AskedFromOutside(t *testing.T) {
	data := mixed(100)
	want, err := mirror.Sign(data, 7)
	got, kind := plain.Sign(data, 7)
	if err != nil || kind != 0 || len(got) != 15 || !slices.Equal(got, want) {
		t.Errorf("plain.Sign = %v, %d, want %v, %v", got, kind, want, err)
	}
}
