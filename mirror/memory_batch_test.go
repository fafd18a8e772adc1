package mirror_test

import (
	"bytes"
	"reflect"
	"sync"
	"testing"

	"mirror/api"
	"mirror/mirror"
)

// cloneFiles copies a list of files with their bytes, the spare room behind both too.
func cloneFiles(list []api.File) []api.File {
	all := make([]api.File, cap(list))
	for i, x := range list[:cap(list)] {
		all[i] = api.File{Name: x.Name, Data: bytes.Clone(x.Data[:cap(x.Data)])}
	}
	return all
}

// roomyTrees are a source and a reference with room behind the lists and behind each file.
func roomyTrees() (source, reference []api.File) {
	whole, base, data := oldAndNew()
	source = append(make([]api.File, 0, 6), api.File{Name: "a", Data: data}, api.File{Name: "b", Data: whole[:10]}, api.File{Name: "c", Data: whole[10:10]})
	reference = append(make([]api.File, 0, 6), api.File{Name: "a", Data: base}, api.File{Name: "c", Data: whole[700:720]})
	source[:6][4] = api.File{Name: "spare", Data: whole[800:810]}
	reference[:6][3] = api.File{Name: "spare", Data: whole[810:820]}
	return source, reference
}

// P2: Record only reads both trees, and its answer is no part of them; also where there is an error.
func TestP2RecordOnlyReads(t *testing.T) {
	for _, last := range []api.File{file("d", "x"), file("a", ""), file("D", ""), {Name: "d", Data: mixed(api.MaxData + 1)}} {
		for _, block := range []int{0, 1, 8, api.MaxBlock, api.MaxBlock + 1} {
			source, reference := roomyTrees()
			source, reference = append(source, last), append(reference, last)
			before, beforeReference := cloneFiles(source), cloneFiles(reference)
			b, _ := mirror.Record(source, reference, block)
			clear(b[:cap(b)])
			if !reflect.DeepEqual(cloneFiles(source), before) || !reflect.DeepEqual(cloneFiles(reference), beforeReference) {
				t.Fatalf("Record by %d with %q at the end changed what it was handed", block, last.Name)
			}
		}
	}
}

// P2: a batch hangs neither on the trees behind the call nor on another answer, nor on the spare room.
func TestP2RecordIsNew(t *testing.T) {
	source, reference := roomyTrees()
	want := recordByRule(source, reference, 8)
	first, _ := mirror.Record(source, reference, 8)
	second, _ := mirror.Record(source, reference, 8)
	if !bytes.Equal(first, want) || !bytes.Equal(second, want) {
		t.Fatalf("two answers to one question: %x and %x, want %x", first, second, want)
	}
	clear(first[:cap(first)])
	if third, _ := mirror.Record(source, reference, 8); !bytes.Equal(third, want) {
		t.Errorf("a later answer changed: %x, want %x", third, want)
	}
	for _, x := range append(source, reference...) {
		clear(x.Data[:cap(x.Data)])
	}
	clear(source[:cap(source)])
	if !bytes.Equal(second, want) {
		t.Errorf("an answer changed behind the call: %x, want %x", second, want)
	}
}

// P2: source and reference may be one list, or have bytes in common.
func TestP2RecordOfOneListTwice(t *testing.T) {
	source, _ := roomyTrees()
	b, err := mirror.Record(source, source, 8)
	if err != nil || !bytes.Equal(b, recordByRule(source, source, 8)) {
		t.Errorf("Record of one list twice = %x, %v", b, err)
	}
}

// spoilBatch writes into all that Read told, and into the spare room of each list.
func spoilBatch(said api.Batch) {
	for _, x := range said.Targets {
		spoil(x.Tokens)
	}
	clear(said.Basis[:cap(said.Basis)])
	clear(said.Targets[:cap(said.Targets)])
}

// P2: Read only reads the batch, the room ahead of it and the spare room behind it too; what it told may be written into.
func TestP2ReadOnlyReads(t *testing.T) {
	right := rightBatch().sealed()
	for _, n := range []int{0, 3, len(right) - 8, len(right) - 1, len(right)} {
		whole := append(append(mixed(50), right...), mixed(50)...)
		before := bytes.Clone(whole)
		said, err := mirror.Read(whole[50 : 50+n])
		if (err == nil) != (n == len(right)) || !bytes.Equal(whole, before) {
			t.Fatalf("Read of %d bytes: %v; what it was handed changed, or the answer is wrong", n, err)
		}
		spoilBatch(said)
		if !bytes.Equal(whole, before) {
			t.Fatalf("Read of %d bytes: writing into the answer changed what it was handed", n)
		}
	}
}

// P2: what was told hangs neither on the batch behind the call nor on another answer.
func TestP2ReadIsNew(t *testing.T) {
	b := rightBatch().sealed()
	first, _ := mirror.Read(b)
	second, _ := mirror.Read(b)
	if !sameBatch(first, saidByRightBatch()) || !sameBatch(second, saidByRightBatch()) {
		t.Fatalf("two answers to one question: %+v and %+v", first, second)
	}
	spoilBatch(first)
	if third, _ := mirror.Read(b); !sameBatch(third, saidByRightBatch()) {
		t.Errorf("a later answer changed: %+v", third)
	}
	clear(b)
	if !sameBatch(second, saidByRightBatch()) {
		t.Errorf("an answer changed behind the call: %+v", second)
	}
}

// listsOf writes down one by one what lists an answer has; each may be spoilt by itself.
func listsOf(said *api.Batch) []func() {
	spoilers := []func(){func() { clear(said.Basis[:cap(said.Basis)]) }}
	for i := range said.Targets {
		tokens := said.Targets[i].Tokens
		for j := range tokens {
			spoilers = append(spoilers, func() {
				room := tokens[j].Data[:cap(tokens[j].Data)]
				for k := range room {
					room[k] ^= 0x55
				}
			})
		}
	}
	return spoilers
}

// P2: no two lists of an answer share memory: where one is written into, and behind it, all others read as they did.
func TestP2ToldListsShareNothing(t *testing.T) {
	b := rightBatch().sealed()
	said, _ := mirror.Read(b)
	for i := range listsOf(&said) {
		said, _ := mirror.Read(b)
		want := saidByRightBatch()
		listsOf(&said)[i]()
		listsOf(&want)[i]()
		if !sameBatch(said, want) {
			t.Errorf("writing into list %d changed another: %+v, want %+v", i, said, want)
		}
	}
	for i := range said.Targets {
		said, _ := mirror.Read(b)
		want := saidByRightBatch()
		clear(said.Targets[i].Tokens[:cap(said.Targets[i].Tokens)])
		clear(want.Targets[i].Tokens)
		if !sameBatch(said, want) {
			t.Errorf("writing into the tokens of target %d changed others: %+v, want %+v", i, said, want)
		}
	}
}

// P1: calls side by side answer as one alone does.
func TestP1BatchSideBySide(t *testing.T) {
	source, reference := roomyTrees()
	want := recordByRule(source, reference, 8)
	said, _ := readByRule(want)
	var group sync.WaitGroup
	for range 8 {
		group.Go(func() {
			if b, err := mirror.Record(source, reference, 8); err != nil || !bytes.Equal(b, want) {
				t.Error("Record beside others answers otherwise than alone")
			}
			if got, err := mirror.Read(want); err != nil || !sameBatch(got, said) {
				t.Error("Read beside others answers otherwise than alone")
			}
		})
	}
	group.Wait()
}
