package mirror_test

import (
	"bytes"
	"fmt"
	"reflect"
	"slices"
	"sync"
	"sync/atomic"
	"testing"

	"mirror/api"
	"mirror/mirror"
)

// spoilFiles writes into all bytes of the files, into their spare room, and into the list.
func spoilFiles(list []api.File) {
	for _, x := range list[:cap(list)] {
		room := x.Data[:cap(x.Data)]
		for i := range room {
			room[i] ^= 0x55
		}
	}
	clear(list[:cap(list)])
}

// P2: New only reads the list, and does not keep it; also where there is an error.
func TestP2NewOnlyReads(t *testing.T) {
	for _, last := range []api.File{file("d", "x"), file("a", ""), file("D", ""), {Name: "d", Data: mixed(api.MaxData + 1)}} {
		for _, room := range []int{-1, 0, api.MaxRoom} {
			list, _ := roomyTrees()
			list = append(list, api.File{Name: last.Name, Data: bytes.Clone(last.Data)})
			before := cloneFiles(list)
			m, err := mirror.New(list, room)
			if !reflect.DeepEqual(cloneFiles(list), before) {
				t.Fatalf("New with %q at the end changed what it was handed", last.Name)
			}
			if err != nil {
				continue
			}
			spoilFiles(list)
			want, _ := roomyTrees()
			checkFiles(t, "behind the call", m, append(want, last))
		}
	}
}

// P2: no two mirrors hang on the one list that both were made of.
func TestP2MirrorsOfOneList(t *testing.T) {
	list := someFiles(4)
	next := someFiles(2)
	one, other := open(t, list, api.MaxRoom), open(t, list, api.MaxRoom)
	answers, _ := one.Files()
	spoilFiles(answers)
	checkFiles(t, "the other", other, list)
	checkError(t, "one goes on", one.Replay(record(t, next, list, 4), 0), 0, "")
	checkFiles(t, "the other", other, list)
	third := open(t, list, api.MaxRoom)
	checkFiles(t, "a third", third, list)
}

// P2: what Files tells may be written into, the spare room too; neither the mirror nor another answer changes.
func TestP2FilesAreNew(t *testing.T) {
	m := open(t, nil, api.MaxRoom)
	var ahead []api.File
	for i, pair := range trees() {
		for _, next := range pair {
			checkError(t, "on to the next tree", m.Replay(record(t, next, ahead, 8), 0), 0, "")
			first, _ := m.Files()
			second, _ := m.Files()
			spoilFiles(first)
			if !sameFiles(second, next) {
				t.Fatalf("trees %d: writing into one answer changed another", i)
			}
			checkFiles(t, fmt.Sprintf("trees %d, a later answer", i), m, next)
			ahead = next
		}
	}
}

// P2: no two files of an answer share memory: where one is written into, and behind it, the others read as they did.
func TestP2FilesShareNothing(t *testing.T) {
	list := make([]api.File, 8)
	whole := mixed(400)
	for i := range list {
		list[i] = api.File{Name: fmt.Sprint(i), Data: whole[i*40 : i*40+60]}
	}
	fromNew := open(t, list, api.MaxRoom)
	fromReplay := open(t, nil, api.MaxRoom)
	checkError(t, "Replay", fromReplay.Replay(record(t, list, nil, 4), 0), 0, "")
	for _, m := range []*mirror.Mirror{fromNew, fromReplay} {
		for i := range list {
			got, _ := m.Files()
			room := got[i].Data[:cap(got[i].Data)]
			for j := range room {
				room[j] ^= 0x55
			}
			for j := range got {
				if j != i && !bytes.Equal(got[j].Data, list[j].Data) {
					t.Fatalf("writing into file %d changed file %d", i, j)
				}
			}
		}
	}
}

// P2: Replay only reads the batch, the room ahead of it and the spare room behind it too, and keeps nothing of it.
func TestP2ReplayOnlyReads(t *testing.T) {
	old, next := someFiles(4), []api.File{{Name: "f01", Data: mixed(90)}, {Name: "f03", Data: mixed(61)[1:]}, file("new", "bytes")}
	b := record(t, next, old, 4)
	for _, n := range []int{0, 5, len(b) - 1, len(b)} {
		for crash := range 8 {
			m := open(t, old, api.MaxRoom)
			whole := append(append(mixed(50), b...), mixed(50)...)
			before := bytes.Clone(whole)
			err := m.Replay(whole[50:50+n], crash)
			if !bytes.Equal(whole, before) {
				t.Fatalf("Replay of %d bytes with crash %d changed what it was handed", n, crash)
			}
			clear(whole)
			want := old
			if kind, _ := api.Told(err); kind == 0 || kind == api.ErrCrash && crash == 6 {
				want = next
			}
			m.Recover(0)
			checkFiles(t, fmt.Sprintf("Replay of %d bytes with crash %d", n, crash), m, want)
		}
	}
}

// P2: the tree that a replay leaves hangs neither on the one ahead of it nor on an answer that was told of that.
func TestP2TreesBehindEachOther(t *testing.T) {
	list := []api.File{{Name: "a", Data: mixed(100)}, {Name: "b", Data: mixed(50)}}
	m := open(t, list, api.MaxRoom)
	ahead, _ := m.Files()
	for block := 1; block <= 10; block++ {
		checkError(t, "the same once more", m.Replay(record(t, list, list, block), 0), 0, "")
		now, _ := m.Files()
		spoilFiles(ahead)
		if !sameFiles(now, list) {
			t.Fatalf("writing into an answer of the tree ahead changed this one: %q", now)
		}
		ahead = now
	}
	checkFiles(t, "behind all", m, list)
}

// P2: Spread only reads the batch and the list of mirrors, the spare room behind both too.
func TestP2SpreadOnlyReads(t *testing.T) {
	old, next := someFiles(3), someFiles(6)
	b := record(t, next, old, 4)
	for _, n := range []int{0, 1, 8, 9, 12} {
		whole := append(append(mixed(50), b...), mixed(50)...)
		before := bytes.Clone(whole)
		all := append(openMany(t, 12, old, api.MaxRoom), nil, nil)
		same := slices.Clone(all)
		told, counts, _ := mirror.Spread(whole[50:50+len(b)], all[:n])
		clear(told[:cap(told)])
		clear(counts)
		if !bytes.Equal(whole, before) || !slices.Equal(all, same) {
			t.Fatalf("Spread over %d changed what it was handed", n)
		}
		clear(whole)
		for i, m := range all[:12] {
			want := old
			if i < n && n <= api.MaxMirrors {
				want = next
			}
			checkFiles(t, fmt.Sprintf("mirror %d behind Spread over %d", i, n), m, want)
		}
	}
}

// P2: what Spread tells may be written into, and no mirror that took the batch hangs on another.
func TestP2SpreadIsNew(t *testing.T) {
	old, next := someFiles(3), someFiles(6)
	all := openMany(t, 4, old, api.MaxRoom)
	checkSpread(t, "over all", record(t, next, old, 4), all, slices.Repeat([]answer{{0, ""}}, 4))
	for i, m := range all {
		list, _ := m.Files()
		spoilFiles(list)
		for _, other := range all {
			checkFiles(t, fmt.Sprint("behind writing into the answer of mirror ", i), other, next)
		}
	}
	b := record(t, next, nil, 4)
	first, counts, _ := mirror.Spread(b, all)
	second, _, _ := mirror.Spread(b, all)
	counts[0] = 7
	first[0].(*api.FileError).Name = "other"
	for _, err := range append(first[1:], second...) {
		checkError(t, "an error that was not written into", err, api.ErrBasis, "f00")
	}
	checkSpread(t, "a later one", b, all, slices.Repeat([]answer{{api.ErrBasis, "f00"}}, 4))
}

// shifts counts how often a mirror went from one of two trees to the other, and back.
type shifts struct{ there, back atomic.Int64 }

// drive goes to and fro with a mirror, with failures and recoveries, and counts the switches that were made.
func drive(t *testing.T, m *mirror.Mirror, both [2][]api.File, batches [2][]byte, start int, s *shifts) {
	for i := range 60 {
		crash := (i*7 + start) % 9
		to := (i + start) % 2
		switch kind, _ := api.Told(m.Replay(batches[to], crash)); {
		case kind == 0 && (crash < 1 || crash > 4), kind == api.ErrCrash && crash == 4:
			if to == 1 {
				s.there.Add(1)
			} else {
				s.back.Add(1)
			}
		case kind == api.ErrCrash && crash >= 1 && crash <= 3, kind == api.ErrBasis, kind == api.ErrDown:
		default:
			t.Errorf("Replay with crash %d beside others: %d", crash, kind)
		}
		if kind, _ := api.Told(m.Recover(i % 2)); kind != 0 && kind != api.ErrUp && (kind != api.ErrCrash || i%2 != 1) {
			t.Errorf("Recover beside others: %d", kind)
		}
		if list, err := m.Files(); err == nil && !sameFiles(list, both[0]) && !sameFiles(list, both[1]) || err != nil && err != error(api.ErrDown) {
			t.Errorf("Files beside others = %q, %v", list, err)
		}
	}
}

// P1: several goroutines use one mirror: each switch that was told was made, and no other.
func TestP1OneMirrorSideBySide(t *testing.T) {
	both := [2][]api.File{{file("a", "zero")}, {file("a", "one")}}
	batches := [2][]byte{record(t, both[0], both[1], 2), record(t, both[1], both[0], 2)}
	m := open(t, both[0], 4)
	var s shifts
	var group sync.WaitGroup
	for start := range 8 {
		group.Go(func() { drive(t, m, both, batches, start, &s) })
	}
	group.Wait()
	m.Recover(0)
	now := s.there.Load() - s.back.Load()
	if now != 0 && now != 1 || s.there.Load() == 0 {
		t.Fatalf("%d switches there, %d back", s.there.Load(), s.back.Load())
	}
	checkFiles(t, "behind all", m, both[now])
}

// P1: spreads side by side over the same mirrors, in other orders: each mirror takes the batch once.
func TestP1SpreadSideBySide(t *testing.T) {
	old, next := someFiles(3), []api.File{file("a", "new")}
	b := record(t, next, old, 4)
	all := openMany(t, 8, old, api.MaxRoom)
	var taken, refused atomic.Int64
	var group sync.WaitGroup
	for turn := range 8 {
		group.Go(func() {
			told, counts, err := mirror.Spread(b, append(slices.Clip(all[turn:]), all[:turn]...))
			if err != nil || len(told) != 8 || counts[0]+counts[api.ErrBasis] != 8 {
				t.Errorf("Spread beside others = %v, %v, %v", told, counts, err)
			}
			taken.Add(int64(counts[0]))
			refused.Add(int64(counts[api.ErrBasis]))
		})
	}
	group.Wait()
	if taken.Load() != 8 || refused.Load() != 56 {
		t.Errorf("taken %d times, refused %d times, want 8 and 56", taken.Load(), refused.Load())
	}
	for _, m := range all {
		checkFiles(t, "behind all", m, next)
	}
}
