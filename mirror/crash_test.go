package mirror_test

import (
	"fmt"
	"math"
	"testing"

	"mirror/api"
	"mirror/mirror"
)

// someFiles makes n files, each with bytes of its own.
func someFiles(n int) []api.File {
	list := files(n)
	for i := range list {
		list[i].Data = mixed(i * 20)
	}
	return list
}

// However many targets there are, a failure ahead of the switch or at it leaves the old tree, and one behind it the new tree.
func TestP12EveryStep(t *testing.T) {
	for _, old := range [][]api.File{nil, {file("f00", "old"), file("g", "gone")}, someFiles(8)} {
		for n := range api.MaxFiles + 1 {
			next := someFiles(n)
			b := record(t, next, old, 4)
			for step := 1; step <= n+3; step++ {
				about := fmt.Sprintf("from %d files to %d, step %d", len(old), n, step)
				m := open(t, old, api.MaxRoom)
				checkError(t, about, m.Replay(b, step), api.ErrCrash, "")
				checkDown(t, about, m)
				checkError(t, about, m.Recover(0), 0, "")
				if step == n+3 {
					checkFiles(t, about, m, next)
				} else {
					checkFiles(t, about, m, old)
				}
				checkError(t, about, m.Recover(0), api.ErrUp, "")
			}
		}
	}
}

// A number that is none of the steps' says nothing.
func TestP12NoStep(t *testing.T) {
	old := []api.File{file("a", "old")}
	for n := range api.MaxFiles + 1 {
		next := someFiles(n)
		b := record(t, next, old, 4)
		for _, crash := range []int{0, -1, -2, -n - 3, n + 4, n + 5, 256, 257, 1 << 16, 1<<32 + 1, math.MaxInt, math.MinInt, math.MinInt + 1} {
			about := fmt.Sprintf("%d targets, crash %d", n, crash)
			m := open(t, old, api.MaxRoom)
			checkError(t, about, m.Replay(b, crash), 0, "")
			checkFiles(t, about, m, next)
			checkError(t, about, m.Recover(crash), api.ErrUp, "")
		}
	}
}

// While a mirror is down, no batch and no crash changes that, and the tree behind Recover is the one of the failure.
func TestP12Down(t *testing.T) {
	old, next, third := []api.File{file("a", "old")}, []api.File{file("b", "new"), file("c", "")}, []api.File{file("d", "third")}
	for step := 1; step <= 5; step++ {
		m := open(t, old, 99)
		checkError(t, "the failure", m.Replay(record(t, next, old, 4), step), api.ErrCrash, "")
		for _, b := range [][]byte{nil, record(t, next, old, 4), record(t, third, old, 4), record(t, third, next, 4), lies(2, 1)} {
			for _, crash := range []int{0, 1, 4, 5, 6, -1} {
				checkError(t, "down", m.Replay(b, crash), api.ErrDown, "")
				checkDown(t, "down", m)
			}
		}
		checkError(t, "up", m.Recover(0), 0, "")
		if step == 5 {
			checkFiles(t, "up", m, next)
		} else {
			checkFiles(t, "up", m, old)
		}
	}
}

// Recover fails at 1 alone, as often as it is asked, and any other number lets it through.
func TestP12Recover(t *testing.T) {
	old, next := []api.File{file("a", "old")}, []api.File{file("a", "new")}
	b := record(t, next, old, 4)
	for _, crash := range []int{0, 2, 3, 4, 5, -1, 257, 1<<32 + 1, math.MaxInt, math.MinInt} {
		for failures := range 4 {
			for step := 1; step <= 4; step++ {
				about := fmt.Sprintf("step %d, %d failures, then %d", step, failures, crash)
				m := open(t, old, 3)
				checkError(t, about, m.Recover(crash), api.ErrUp, "")
				checkError(t, about, m.Recover(1), api.ErrUp, "")
				checkFiles(t, about, m, old)
				checkError(t, about, m.Replay(b, step), api.ErrCrash, "")
				for range failures {
					checkError(t, about, m.Recover(1), api.ErrCrash, "")
					checkDown(t, about, m)
				}
				checkError(t, about, m.Recover(crash), 0, "")
				checkError(t, about, m.Recover(1), api.ErrUp, "")
				if step == 4 {
					checkFiles(t, about, m, next)
				} else {
					checkFiles(t, about, m, old)
					checkError(t, about, m.Replay(b, 0), 0, "")
					checkFiles(t, about, m, next)
				}
			}
		}
	}
}

// diskByRule follows P11's and P12's words for a mirror that goes between the trees 0 and 1, both of one target.
type diskByRule struct {
	tree     int
	down     bool
	switched bool
}

// replay goes from the tree 1 - to to the tree to.
func (d *diskByRule) replay(to, crash int) api.Kind {
	if d.down {
		return api.ErrDown
	}
	if d.tree == to {
		return api.ErrBasis
	}
	d.down = crash >= 1 && crash <= 4
	d.switched = crash == 4
	if !d.down {
		d.tree = to
		return 0
	}
	return api.ErrCrash
}

func (d *diskByRule) recover(crash int) api.Kind {
	if !d.down {
		return api.ErrUp
	}
	if crash == 1 {
		return api.ErrCrash
	}
	if d.switched {
		d.tree = 1 - d.tree
	}
	d.down, d.switched = false, false
	return 0
}

// play does what one number says to both, and holds the answers against each other.
func play(t *testing.T, m *mirror.Mirror, d *diskByRule, batches [2][]byte, move int) {
	t.Helper()
	var got error
	var want api.Kind
	switch {
	case move < 6:
		got, want = m.Replay(batches[0], move), d.replay(0, move)
	case move < 12:
		got, want = m.Replay(batches[1], move-6), d.replay(1, move-6)
	default:
		got, want = m.Recover(move-12), d.recover(move-12)
	}
	name := ""
	if want == api.ErrBasis {
		name = "a"
	}
	checkError(t, fmt.Sprint("move ", move), got, want, name)
}

// All rows of four moves: a replay to one of both trees with a failure or none, or a recovery.
func TestP12EveryRow(t *testing.T) {
	both := [2][]api.File{{file("a", "zero")}, {file("a", "one")}}
	batches := [2][]byte{record(t, both[0], both[1], 1), record(t, both[1], both[0], 1)}
	const moves = 15
	for row := range moves * moves * moves * moves {
		m, d := open(t, both[0], 4), &diskByRule{}
		for rest, i := row, 0; i < 4; rest, i = rest/moves, i+1 {
			play(t, m, d, batches, rest%moves)
			if d.down {
				checkDown(t, fmt.Sprint("row ", row), m)
			} else {
				checkFiles(t, fmt.Sprint("row ", row), m, both[d.tree])
			}
		}
		if t.Failed() {
			t.Fatalf("row %d", row)
		}
	}
}

// A failure behind a failure, each at another step, as far as the old tree is still there; then the batch goes through.
func TestP12FailureBehindFailure(t *testing.T) {
	old, next := someFiles(3), []api.File{file("f01", "1"), file("f02", ""), file("x", "y")}
	b := record(t, next, old, 4)
	m := open(t, old, 99)
	for step := 1; step <= 5; step++ {
		for again := 5; again >= 1; again-- {
			checkError(t, "a replay", m.Replay(b, again), api.ErrCrash, "")
			checkError(t, "a recovery", m.Recover(1), api.ErrCrash, "")
			checkError(t, "a recovery", m.Recover(step+1), 0, "")
			checkFiles(t, "behind it", m, old)
		}
	}
	checkError(t, "the switch was made", m.Replay(b, 6), api.ErrCrash, "")
	checkError(t, "a recovery", m.Recover(1), api.ErrCrash, "")
	checkError(t, "a recovery", m.Recover(0), 0, "")
	checkFiles(t, "behind it", m, next)
	checkError(t, "back", m.Replay(record(t, old, next, 4), 0), 0, "")
	checkFiles(t, "back", m, old)
}

// P2: no mirror hangs on another: one is down, those beside it are up.
func TestP2P12MirrorsBesideEachOther(t *testing.T) {
	old, next := someFiles(3), someFiles(5)
	b := record(t, next, old, 4)
	list := make([]*mirror.Mirror, 8)
	for i := range list {
		list[i] = open(t, old, api.MaxRoom)
	}
	for step := range list {
		kind := api.ErrCrash
		if step == 0 {
			kind = 0
		}
		checkError(t, fmt.Sprint("step ", step), list[step].Replay(b, step), kind, "")
		for i := step + 1; i < len(list); i++ {
			checkFiles(t, fmt.Sprintf("mirror %d behind the failure at %d", i, step), list[i], old)
		}
	}
	for i := len(list) - 1; i > 0; i-- {
		checkError(t, fmt.Sprint("recovery of ", i), list[i].Recover(0), 0, "")
		checkFiles(t, fmt.Sprint("recovery of ", i), list[i], old)
		for j := 1; j < i; j++ {
			checkDown(t, fmt.Sprintf("mirror %d behind the recovery of %d", j, i), list[j])
		}
		checkFiles(t, fmt.Sprint("recovery of ", i), list[0], next)
	}
}
