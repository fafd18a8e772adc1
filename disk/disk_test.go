package disk

import (
	"fmt"
	"slices"
	"testing"

	"mirror/api"
)

// fails is whether a call panics.
func fails(call func()) (failed bool) {
	defer func() { failed = recover() != nil }()
	call()
	return false
}

func list(names ...string) []api.File {
	var all []api.File
	for _, name := range names {
		all = append(all, api.File{Name: name})
	}
	return all
}

func check(t *testing.T, about string, d *Disk, tree, beside []api.File) {
	t.Helper()
	same := func(x, y []api.File) bool {
		return slices.EqualFunc(x, y, func(x, y api.File) bool { return x.Name == y.Name })
	}
	if !same(d.Tree(), tree) || !same(d.beside, beside) {
		t.Errorf("%s: %v, beside it %v, want %v and %v", about, d.Tree(), d.beside, tree, beside)
	}
}

// What is written is lost with the power until it lasts; behind that it lies beside the tree, as the old tree does behind the switch, and Clean takes it away.
func TestP12WhatLiesOnTheDisk(t *testing.T) {
	old := list("a", "b")
	for n := range api.MaxFiles + 1 {
		next := list("c", "d", "e", "f", "g", "h", "i", "j")[:n]
		for crash := 1; crash <= n+3; crash++ {
			about := fmt.Sprintf("%d files, crash %d", n, crash)
			d := New(old)
			if !fails(func() { d.Replace(next, crash) }) {
				t.Fatalf("%s: the power did not fail", about)
			}
			tree, beside := old, list()
			switch crash {
			case n + 2:
				beside = next
			case n + 3:
				tree, beside = next, old
			}
			check(t, about, &d, tree, beside)
			if !fails(func() { d.Clean(1) }) {
				t.Fatalf("%s: the power did not fail at Clean", about)
			}
			check(t, about, &d, tree, beside)
			d.Clean(0)
			check(t, about, &d, tree, nil)
		}
		d := New(old)
		d.Replace(next, n+4)
		check(t, "no failure", &d, next, nil)
	}
}
