// Package mirror: differences of trees, recorded and replayed: see DOC.md.
package mirror

import (
	"mirror/api"
	"mirror/batch"
	"mirror/delta"
	"mirror/sums"
)

// Digest is a file's digest (P3).
func Digest(data []byte) uint64 { return sums.Digest(data) }

// Weak is a block's weak sum (P3).
func Weak(data []byte) uint32 { return sums.Weak(data) }

// Roll moves a weak sum on by a byte (P3).
func Roll(weak uint32, n int, out, in byte) uint32 { return sums.Roll(weak, n, out, in) }

// Sign tells the sums of a file's blocks (P4).
func Sign(data []byte, block int) ([]api.Sum, error) { return sums.Sign(data, block) }

// Diff tells how a file is made of another (P5).
func Diff(base, data []byte, block int) ([]api.Token, error) { return delta.Diff(base, data, block) }

// Apply makes a file of another (P6).
func Apply(base []byte, tokens []api.Token, block int) ([]byte, error) {
	return delta.Apply(base, tokens, block)
}

// Record writes a batch (P8).
func Record(source, reference []api.File, block int) ([]byte, error) {
	return batch.Record(source, reference, block)
}

// Read reads a batch (P9).
func Read(b []byte) (api.Batch, error) { return batch.Read(b) }

// Mirror is a tree on a disk.
type Mirror struct{}

// New makes one (P10).
func New(files []api.File, room int) (*Mirror, error) { return nil, nil }

// Files tells the tree (P10).
func (m *Mirror) Files() ([]api.File, error) { return nil, nil }

// Replay replays a batch (P11, P12).
func (m *Mirror) Replay(b []byte, crash int) error { return nil }

// Recover starts a mirror again (P12).
func (m *Mirror) Recover(crash int) error { return nil }

// Spread replays a batch over several mirrors at once (P13).
func Spread(b []byte, mirrors []*Mirror) ([]error, map[api.Kind]int, error) { return nil, nil, nil }
