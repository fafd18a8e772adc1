package mirror_test

import (
	"bytes"
	"slices"
	"sync"
	"testing"

	"mirror/api"
	"mirror/mirror"
)

// P2: what is handed in reads as it did, the room ahead of it and the spare room behind it too.
func TestP2OnlyRead(t *testing.T) {
	calls := []struct {
		name string
		call func(data []byte)
	}{
		{"Digest", func(data []byte) { mirror.Digest(data) }},
		{"Weak", func(data []byte) { mirror.Weak(data) }},
		{"Sign by 1", func(data []byte) { mirror.Sign(data, 1) }},
		{"Sign by 7", func(data []byte) { mirror.Sign(data, 7) }},
		{"Sign by MaxBlock", func(data []byte) { mirror.Sign(data, api.MaxBlock) }},
		{"Sign by 0", func(data []byte) { mirror.Sign(data, 0) }},
		{"Sign by MaxBlock + 1", func(data []byte) { mirror.Sign(data, api.MaxBlock+1) }},
	}
	for _, c := range calls {
		for _, size := range []int{0, 1, 6, 7, 64, 65, api.MaxData - 1, api.MaxData, api.MaxData + 1} {
			whole := mixed(size + 200)
			before := bytes.Clone(whole)
			c.call(whole[50 : 50+size])
			if !bytes.Equal(whole, before) {
				t.Errorf("%s of %d bytes changed what it was handed", c.name, size)
			}
		}
	}
}

// P2: an answer hangs neither on the data behind the call nor on another answer.
func TestP2AnswersAreNew(t *testing.T) {
	data := mixed(100)
	first, _ := mirror.Sign(data, 7)
	second, _ := mirror.Sign(data, 7)
	want := slices.Clone(second)
	if len(want) != 15 || !slices.Equal(first, want) {
		t.Fatalf("two answers to one question: %v and %v", first, second)
	}
	clear(data)
	clear(first[:cap(first)])
	if !slices.Equal(second, want) {
		t.Errorf("an answer changed behind the call: %v, want %v", second, want)
	}
}

// P2: the sums hang on the bytes alone, not on where they lie or on the room behind them.
func TestP2SpareRoomDoesNotCount(t *testing.T) {
	whole := mixed(300)
	part, alone := whole[10:95], bytes.Clone(whole[10:95])
	if mirror.Digest(part) != mirror.Digest(alone) || mirror.Weak(part) != mirror.Weak(alone) {
		t.Error("a sum hangs on the room behind the data")
	}
	got, _ := mirror.Sign(part, 8)
	want, _ := mirror.Sign(slices.Clip(alone), 8)
	if len(want) != 11 || !slices.Equal(got, want) {
		t.Errorf("Sign hangs on the room behind the data: %v, want %v", got, want)
	}
}

// P1: calls side by side answer as one alone does.
func TestP1SideBySide(t *testing.T) {
	data := mixed(api.MaxData)
	digest, weak := mirror.Digest(data), mirror.Weak(data)
	want, _ := mirror.Sign(data, 9)
	var group sync.WaitGroup
	for range 8 {
		group.Go(func() {
			got, err := mirror.Sign(data, 9)
			if err != nil || !slices.Equal(got, want) || mirror.Digest(data) != digest || mirror.Weak(data) != weak {
				t.Error("a call beside others answers otherwise than alone")
			}
		})
	}
	group.Wait()
}
