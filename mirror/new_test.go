package mirror_test

import (
	"bytes"
	"fmt"
	"math"
	"slices"
	"testing"

	"mirror/api"
	"mirror/mirror"
	"mirror/plain"
)

// sameFiles holds two trees against each other; an empty list may be nil or not.
func sameFiles(x, y []api.File) bool {
	return slices.EqualFunc(x, y, func(x, y api.File) bool { return x.Name == y.Name && bytes.Equal(x.Data, y.Data) })
}

// open makes a mirror.
func open(t *testing.T, list []api.File, room int) *mirror.Mirror {
	t.Helper()
	m, err := mirror.New(list, room)
	if err != nil || m == nil {
		t.Fatalf("New(%v, %d) = %v, %v, want a mirror", list, room, m, err)
	}
	return m
}

// checkFiles asks a mirror for that tree.
func checkFiles(t *testing.T, about string, m *mirror.Mirror, want []api.File) {
	t.Helper()
	if list, err := m.Files(); err != nil || !sameFiles(list, want) {
		t.Errorf("%s: Files = %.40q, %v, want %.40q", about, list, err, want)
	}
}

// checkDown asks for ErrDown, beside which there is no tree.
func checkDown(t *testing.T, about string, m *mirror.Mirror) {
	t.Helper()
	if list, err := m.Files(); list != nil || err != error(api.ErrDown) {
		t.Errorf("%s: Files = %.40q, %#v, want nil, ErrDown", about, list, err)
	}
}

// checkError asks for an error: none (kind 0), the kind itself (no name), or one of the file.
func checkError(t *testing.T, about string, err error, kind api.Kind, name string) {
	t.Helper()
	right := false
	switch e := err.(type) {
	case nil:
		right = kind == 0
	case api.Kind:
		right = e == kind && name == ""
	case *api.FileError:
		right = e.Kind == kind && e.Name == name && name != ""
	}
	if !right {
		t.Errorf("%s: an error %#v, want %d of %q", about, err, kind, name)
	}
}

// checkNew asks for a mirror with a list, or for ErrTree of that name and no mirror.
func checkNew(t *testing.T, about string, list []api.File, is bool, name string) {
	t.Helper()
	if is {
		checkFiles(t, about, open(t, list, api.MaxRoom), list)
		return
	}
	for _, room := range []int{0, api.MaxRoom, -1, api.MaxRoom + 1} {
		m, err := mirror.New(list, room)
		if e, of := err.(*api.FileError); m != nil || !of || e.Name != name || e.Kind != api.ErrTree {
			t.Errorf("%s: New with room %d = %v, %#v, want nil, ErrTree of %q", about, room, m, err, name)
		}
	}
}

func TestP10Trees(t *testing.T) {
	for i, pair := range trees() {
		for _, list := range pair {
			for _, room := range []int{0, 1, 300, api.MaxRoom - 1, api.MaxRoom} {
				m := open(t, list, room)
				for range 2 {
					checkFiles(t, fmt.Sprint("trees ", i), m, list)
				}
			}
		}
	}
}

func TestP10Room(t *testing.T) {
	for _, room := range []int{-1, -2, api.MaxRoom + 1, 2 * api.MaxRoom, 1 << 32, 1<<32 + 1, math.MaxInt, math.MinInt, math.MinInt + 5} {
		for _, list := range [][]api.File{nil, {file("a", "hi")}, files(api.MaxFiles)} {
			if m, err := mirror.New(list, room); m != nil || err != error(api.ErrRoom) {
				t.Errorf("New with room %d = %v, %#v, want nil, ErrRoom", room, m, err)
			}
		}
	}
}

// P1: ErrTree comes first.
func TestP1P10WhichErrorFirst(t *testing.T) {
	for _, list := range [][]api.File{{file("A", "")}, {file("a", ""), file("A", "")}, {file("b", ""), file("A", "")}} {
		checkNew(t, "no tree and no room", list, false, "A")
	}
	checkNew(t, "too many and no room", files(api.MaxFiles+1), false, "f08")
}

// A mirror that was not made by New is an empty one with no room; nil is none, and no call of it panics.
func TestP1NoMirror(t *testing.T) {
	var none *mirror.Mirror
	for range 2 {
		checkDown(t, "nil", none)
		for _, crash := range []int{0, 1, 2, -1, math.MaxInt, math.MinInt} {
			checkError(t, "nil", none.Replay(nil, crash), api.ErrDown, "")
			checkError(t, "nil", none.Replay(recordByRule(nil, nil, 1), crash), api.ErrDown, "")
			checkError(t, "nil", none.Recover(crash), api.ErrUp, "")
		}
	}
	zero := new(mirror.Mirror)
	checkFiles(t, "zero", zero, nil)
	checkError(t, "zero", zero.Recover(0), api.ErrUp, "")
	checkError(t, "zero", zero.Replay(nil, 0), api.ErrBatch, "")
	checkError(t, "zero", zero.Replay(recordByRule([]api.File{file("a", "x")}, nil, 1), 0), api.ErrSpace, "")
	checkError(t, "zero", zero.Replay(recordByRule([]api.File{file("a", "")}, nil, 1), 1), api.ErrCrash, "")
	checkDown(t, "zero", zero)
	checkError(t, "zero", zero.Recover(0), 0, "")
	checkError(t, "zero", zero.Replay(recordByRule([]api.File{file("a", "")}, nil, 1), 0), 0, "")
	checkFiles(t, "zero", zero, []api.File{file("a", "")})
}

func TestP10AskedFromOutside(t *testing.T) {
	list := []api.File{file("a", "hi")}
	m, kind, name := plain.New(list, 7)
	if m == nil || kind != 0 || name != "" {
		t.Fatalf("plain.New = %v, %d, %q, want a mirror", m, kind, name)
	}
	if got, kind := plain.Files(m); kind != 0 || !sameFiles(got, list) {
		t.Errorf("plain.Files = %q, %d", got, kind)
	}
	if m, kind, name := plain.New([]api.File{file("a b", "")}, -1); m != nil || kind != api.ErrTree || name != "a b" {
		t.Errorf("plain.New = %v, %d, %q, want ErrTree of \"a b\"", m, kind, name)
	}
	if m, kind, name := plain.New(list, -1); m != nil || kind != api.ErrRoom || name != "" {
		t.Errorf("plain.New = %v, %d, %q, want ErrRoom", m, kind, name)
	}
}
