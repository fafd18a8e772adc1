// Package replay: what a batch makes of a tree (P11).
package replay

import (
	"mirror/api"
	"mirror/batch"
	"mirror/delta"
	"mirror/sums"
	"mirror/tree"
)

// Make tells the files that a batch makes of a tree, in new memory, or what is against it, in P11's order.
func Make(files []api.File, b []byte, room int) ([]api.File, error) {
	said, err := batch.Read(b)
	if err != nil {
		return nil, err
	}
	if err := checkBasis(files, said.Basis); err != nil {
		return nil, err
	}
	if sizeOf(said.Targets) > room {
		return nil, api.ErrSpace
	}
	return makeAll(files, said)
}

// checkBasis tells ErrBasis of the first file, by names, in which tree and basis are not the same. Both rise, so where two names are not the same, the lesser one is in one of both alone.
func checkBasis(files []api.File, basis []api.Entry) error {
	n := min(len(files), len(basis))
	for i := range n {
		if entryOf(files[i]) != basis[i] {
			return otherBasis(min(files[i].Name, basis[i].Name))
		}
	}
	if len(files) > n {
		return otherBasis(files[n].Name)
	}
	if len(basis) > n {
		return otherBasis(basis[n].Name)
	}
	return nil
}

func otherBasis(name string) error { return &api.FileError{Name: name, Kind: api.ErrBasis} }

// entryOf is what is told of a file.
func entryOf(file api.File) api.Entry {
	return api.Entry{Name: file.Name, Size: len(file.Data), Digest: sums.Digest(file.Data)}
}

// sizeOf is the size of all targets together.
func sizeOf(targets []api.Target) int {
	size := 0
	for _, target := range targets {
		size += target.Size
	}
	return size
}

// makeAll makes the targets' files, or tells ErrDigest of the first one that is not what its target says.
func makeAll(files []api.File, said api.Batch) ([]api.File, error) {
	var made []api.File
	for _, target := range said.Targets {
		data, err := delta.Apply(tree.Data(files, target.Name), target.Tokens, said.Block)
		if err != nil || sums.Digest(data) != target.Digest {
			return nil, &api.FileError{Name: target.Name, Kind: api.ErrDigest}
		}
		made = append(made, api.File{Name: target.Name, Data: data})
	}
	return made, nil
}
