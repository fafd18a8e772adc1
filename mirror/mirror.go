// Package mirror: differences of trees, recorded and replayed: see DOC.md.
package mirror

import (
	"sync"

	"mirror/api"
	"mirror/batch"
	"mirror/delta"
	"mirror/disk"
	"mirror/replay"
	"mirror/sums"
	"mirror/tree"
)

// Digest is a file's digest (P3).
func Digest(data []byte) uint64 { return sums.Digest(data) }

// Weak is a block's weak sum (P3).
func Weak(data []byte) uint32 { return sums.Weak(data) }

// Roll moves a weak sum on by a byte (P3).
func Roll(weak uint32, n int, out, in byte) uint32 { return sums.Roll(weak, n, out, in) }

// Sign tells the sums of a file's blocks (P4).
func Sign(data []byte, block int) ([]api.Sum, error) { return sums.Sign(data, block) }

// Diff tells how a file is made of another (P5).
func Diff(base, data []byte, block int) ([]api.Token, error) { return delta.Diff(base, data, block) }

// Apply makes a file of another (P6).
func Apply(base []byte, tokens []api.Token, block int) ([]byte, error) {
	return delta.Apply(base, tokens, block)
}

// Record writes a batch (P8).
func Record(source, reference []api.File, block int) ([]byte, error) {
	return batch.Record(source, reference, block)
}

// Read reads a batch (P9).
func Read(b []byte) (api.Batch, error) { return batch.Read(b) }

// Mirror is a tree on a disk.
type Mirror struct {
	guard sync.Mutex // held by each call from its first look to its end
	room  int
	disk  disk.Disk
	down  bool
}

// New makes one (P10).
func New(files []api.File, room int) (*Mirror, error) {
	if err := tree.Check(files); err != nil {
		return nil, err
	}
	if room < 0 || room > api.MaxRoom {
		return nil, api.ErrRoom
	}
	return &Mirror{room: room, disk: disk.New(tree.Clone(files))}, nil
}

// Files tells the tree (P10). A nil mirror has none: as all calls of one, it tells the error that the promise names first.
func (m *Mirror) Files() ([]api.File, error) {
	if m == nil {
		return nil, api.ErrDown
	}
	m.guard.Lock()
	defer m.guard.Unlock()
	if m.down {
		return nil, api.ErrDown
	}
	return tree.Clone(m.disk.Tree()), nil
}

// Replay replays a batch (P11, P12). All files are made ahead of the disk's first step, so that what is wrong with a batch is told ahead of any failure.
func (m *Mirror) Replay(b []byte, crash int) error {
	if m == nil {
		return api.ErrDown
	}
	m.guard.Lock()
	defer m.guard.Unlock()
	if m.down {
		return api.ErrDown
	}
	files, err := replay.Make(m.disk.Tree(), b, m.room)
	if err != nil {
		return err
	}
	return m.run(func() { m.disk.Replace(files, crash) })
}

// Recover starts a mirror again (P12).
func (m *Mirror) Recover(crash int) error {
	if m == nil {
		return api.ErrUp
	}
	m.guard.Lock()
	defer m.guard.Unlock()
	if !m.down {
		return api.ErrUp
	}
	return m.run(func() { m.disk.Clean(crash) })
}

// run lets the disk go through its steps: behind them the mirror is up, behind a failure, which ends here, it is down.
func (m *Mirror) run(steps func()) (err error) {
	defer func() {
		if recover() != nil {
			m.down, err = true, api.ErrCrash
		}
	}()
	steps()
	m.down = false
	return nil
}
