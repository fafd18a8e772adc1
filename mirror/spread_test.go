package mirror_test

import (
	"fmt"
	"maps"
	"runtime"
	"slices"
	"testing"
	"time"

	"mirror/api"
	"mirror/mirror"
	"mirror/plain"
)

// openMany makes mirrors with one tree.
func openMany(t *testing.T, n int, list []api.File, room int) []*mirror.Mirror {
	t.Helper()
	var all []*mirror.Mirror
	for range n {
		all = append(all, open(t, list, room))
	}
	return all
}

// downed takes a mirror's power away.
func downed(t *testing.T, m *mirror.Mirror, b []byte) *mirror.Mirror {
	t.Helper()
	checkError(t, "down it goes", m.Replay(b, 1), api.ErrCrash, "")
	return m
}

// answer is what one mirror of a spread tells.
type answer struct {
	kind api.Kind
	name string
}

// checkSpread asks a spread for these answers in their order, and for their counts by P13's words.
func checkSpread(t *testing.T, about string, b []byte, mirrors []*mirror.Mirror, want []answer) {
	t.Helper()
	told, counts, err := mirror.Spread(b, mirrors)
	if err != nil || len(told) != len(want) {
		t.Fatalf("%s: Spread = %v, %v, %v, want %d answers", about, told, counts, err, len(want))
	}
	byKind := map[api.Kind]int{}
	for i, x := range want {
		checkError(t, fmt.Sprint(about, ", mirror ", i), told[i], x.kind, x.name)
		byKind[x.kind]++
	}
	if !maps.Equal(counts, byKind) {
		t.Errorf("%s: counts %v, want %v", about, counts, byKind)
	}
}

// checkNoSpread asks for ErrMirrors, beside which there is nothing.
func checkNoSpread(t *testing.T, about string, b []byte, mirrors []*mirror.Mirror) {
	t.Helper()
	if told, counts, err := mirror.Spread(b, mirrors); told != nil || counts != nil || err != error(api.ErrMirrors) {
		t.Errorf("%s: Spread = %v, %v, %#v, want nil, nil, ErrMirrors", about, told, counts, err)
	}
}

func TestP13EveryNumber(t *testing.T) {
	old, next := someFiles(3), someFiles(5)
	b := record(t, next, old, 4)
	for n := range api.MaxMirrors + 1 {
		all := openMany(t, n, old, api.MaxRoom)
		checkSpread(t, fmt.Sprint(n, " mirrors"), b, all, slices.Repeat([]answer{{0, ""}}, n))
		for _, m := range all {
			checkFiles(t, fmt.Sprint(n, " mirrors"), m, next)
		}
		checkSpread(t, fmt.Sprint(n, " mirrors, again"), b, all, slices.Repeat([]answer{{api.ErrBasis, "f03"}}, n))
	}
	told, counts, err := mirror.Spread(nil, nil)
	if len(told) != 0 || len(counts) != 0 || err != nil {
		t.Errorf("Spread of no batch over no mirrors = %v, %v, %v", told, counts, err)
	}
}

// Mirrors of all kinds, in each order that turning the list gives.
func TestP13EachTellsItsOwn(t *testing.T) {
	old, next := []api.File{file("a", "old"), file("b", "")}, []api.File{file("a", "newer")}
	b := record(t, next, old, 4)
	want := []answer{{0, ""}, {api.ErrBasis, "a"}, {api.ErrSpace, ""}, {api.ErrDown, ""}, {api.ErrBasis, "b"}, {0, ""}, {api.ErrBasis, "aa"}, {api.ErrSpace, ""}}
	behind := [][]api.File{next, {file("a", "odd"), file("b", "")}, old, nil, {file("a", "old"), file("b", "x")}, next, {file("a", "old"), file("aa", ""), file("b", "")}, old}
	for turn := range want {
		all := []*mirror.Mirror{open(t, old, 5), open(t, behind[1], 5), open(t, old, 4), downed(t, open(t, old, 5), b), open(t, behind[4], 0), open(t, old, api.MaxRoom), open(t, behind[6], 5), open(t, old, 0)}
		about := fmt.Sprint("turned by ", turn)
		checkSpread(t, about, b, append(slices.Clip(all[turn:]), all[:turn]...), append(slices.Clip(want[turn:]), want[:turn]...))
		for i, m := range all {
			if want[i].kind == api.ErrDown {
				checkDown(t, about, m)
			} else {
				checkFiles(t, about, m, behind[i])
			}
		}
	}
}

// A wrong batch, or one whose targets have another digest, is told by each mirror by itself too.
func TestP13WrongBatches(t *testing.T) {
	none := record(t, nil, nil, 4)
	some := []api.File{file("f00", "x")}
	all := func() []*mirror.Mirror {
		return []*mirror.Mirror{open(t, nil, 9), downed(t, open(t, nil, 9), none), open(t, nil, 1), open(t, some, 9), open(t, nil, 2)}
	}
	for _, b := range [][]byte{nil, {}, []byte("BAT"), none[1:], none[:len(none)-1]} {
		checkSpread(t, "no batch", b, all(), []answer{{api.ErrBatch, ""}, {api.ErrDown, ""}, {api.ErrBatch, ""}, {api.ErrBatch, ""}, {api.ErrBatch, ""}})
	}
	checkSpread(t, "another digest", lies(2, 1), all(), []answer{{api.ErrDigest, "f01"}, {api.ErrDown, ""}, {api.ErrSpace, ""}, {api.ErrBasis, "f00"}, {api.ErrDigest, "f01"}})
	checkSpread(t, "the right digests", lies(2), all(), []answer{{0, ""}, {api.ErrDown, ""}, {api.ErrSpace, ""}, {api.ErrBasis, "f00"}, {0, ""}})
}

// Where a mirror is missing, stands there twice, or is one too many, none of them is touched.
func TestP13Mirrors(t *testing.T) {
	old, next := []api.File{file("a", "old")}, []api.File{file("a", "new")}
	b := record(t, next, old, 4)
	many := openMany(t, 20, old, 3)
	for _, n := range []int{9, 10, 20} {
		checkNoSpread(t, fmt.Sprint(n, " mirrors"), b, many[:n])
	}
	for n := 1; n <= api.MaxMirrors; n++ {
		for i := range n {
			list := slices.Clone(many[:n])
			list[i] = nil
			checkNoSpread(t, fmt.Sprintf("of %d mirrors %d is nil", n, i), b, list)
			for j := range i {
				list[i] = list[j]
				checkNoSpread(t, fmt.Sprintf("of %d mirrors %d is %d", n, i, j), b, list)
			}
		}
	}
	checkNoSpread(t, "nil alone", b, []*mirror.Mirror{nil})
	checkNoSpread(t, "no batch either", nil, []*mirror.Mirror{nil})
	checkNoSpread(t, "many times nil", b, make([]*mirror.Mirror, 300))
	checkNoSpread(t, "many times one", b, slices.Repeat(many[:1], 300))
	checkNoSpread(t, "one twice, which is down", b, []*mirror.Mirror{downed(t, open(t, old, 3), b), many[0], many[0]})
	for _, m := range many {
		checkFiles(t, "behind all", m, old)
	}
	checkSpread(t, "as many as may be, with others behind the list", b, many[:8], slices.Repeat([]answer{{0, ""}}, 8))
}

// P1: no goroutine is left behind.
func TestP1P13GoroutinesEnd(t *testing.T) {
	before := runtime.NumGoroutine()
	b := record(t, someFiles(5), someFiles(3), 4)
	for range 20 {
		mirror.Spread(b, openMany(t, 8, someFiles(3), api.MaxRoom))
		mirror.Spread(b, openMany(t, 9, nil, 0))
		mirror.Spread(nil, append(openMany(t, 7, nil, 0), nil))
	}
	// the last of them may still be on its way out, behind its last word
	for tries := 0; runtime.NumGoroutine() > before && tries < 1000; tries++ {
		time.Sleep(time.Millisecond)
	}
	if now := runtime.NumGoroutine(); now > before {
		t.Errorf("%d goroutines, %d ahead of the calls", now, before)
	}
}

func TestP13AskedFromOutside(t *testing.T) {
	old, next := []api.File{file("a", "old")}, []api.File{file("a", "new")}
	b := record(t, next, old, 4)
	all := []*mirror.Mirror{open(t, old, 3), open(t, nil, 3), open(t, old, 2), open(t, old, 3)}
	kinds, names, counts, kind := plain.Spread(b, all)
	if !slices.Equal(kinds, []api.Kind{0, api.ErrBasis, api.ErrSpace, 0}) || !slices.Equal(names, []string{"", "a", "", ""}) || kind != 0 {
		t.Errorf("plain.Spread = %v, %q, %d", kinds, names, kind)
	}
	if want := [15]int{0: 2, api.ErrBasis: 1, api.ErrSpace: 1}; counts != want {
		t.Errorf("plain.Spread: counts %v, want %v", counts, want)
	}
	kinds, names, counts, kind = plain.Spread(b, append(all, nil))
	if len(kinds) != 0 || len(names) != 0 || counts != [15]int{} || kind != api.ErrMirrors {
		t.Errorf("plain.Spread = %v, %q, %v, %d, want ErrMirrors", kinds, names, counts, kind)
	}
}
