package batch

import (
	"bytes"
	"errors"

	"mirror/api"
	"mirror/delta"
	"mirror/sums"
	"mirror/tree"
)

// Read tells what a batch says (P9). What is wrong, and where, stays inside: the kind is taken out of it.
func Read(b []byte) (api.Batch, error) {
	r := &reader{all: b}
	said := r.batch()
	var kind api.Kind
	if errors.As(r.err, &kind) {
		return api.Batch{}, kind
	}
	return said, nil
}

// batch reads all of the form (P7).
func (r *reader) batch() api.Batch {
	r.must(string(r.take(len(mark))) == mark, "it does not begin as a batch does")
	block := r.number(short)
	r.must(sums.CheckBlock(block) == nil, "no block has that size")
	basis := r.basis()
	targets := r.targets(basis, block)
	r.end()
	return api.Batch{Block: block, Basis: basis, Targets: targets}
}

// end reads the digest of all bytes ahead of it, behind which there is nothing.
func (r *reader) end() {
	want := sums.Digest(r.all[:r.at])
	r.must(r.wide(digest) == want, "the bytes have another digest")
	r.must(r.at == len(r.all), "there are bytes behind the end")
}

func (r *reader) basis() []api.Entry {
	var list []api.Entry
	ahead := ""
	for range r.files() {
		entry := r.entry(ahead)
		list = append(list, entry)
		ahead = entry.Name
	}
	return list
}

func (r *reader) targets(basis []api.Entry, block int) []api.Target {
	var list []api.Target
	ahead := ""
	for range r.files() {
		entry := r.entry(ahead)
		tokens := r.tokens(entry.Size, sizeOf(basis, entry.Name), block)
		list = append(list, api.Target{Entry: entry, Tokens: tokens})
		ahead = entry.Name
	}
	return list
}

// files reads how many files there are.
func (r *reader) files() int {
	n := r.number(short)
	r.must(n <= api.MaxFiles, "there are too many files")
	if r.err != nil {
		return 0
	}
	return n
}

// entry reads what is told of a file. The rules are those of a tree.
func (r *reader) entry(ahead string) api.Entry {
	name := string(r.take(r.number(short)))
	size := r.number(long)
	r.must(tree.Follows(ahead, name, size), "no tree goes on with that file")
	return api.Entry{Name: name, Size: size, Digest: r.wide(digest)}
}

// sizeOf is the size of the basis' file of that name: 0, if there is none, as such a file has no blocks either.
func sizeOf(basis []api.Entry, name string) int {
	for _, entry := range basis {
		if entry.Name == name {
			return entry.Size
		}
	}
	return 0
}

// tokens reads those that make a file of size bytes of one that has old. It stops at the first fault, since the number of tokens is not to be trusted.
func (r *reader) tokens(size, old, block int) []api.Token {
	var list []api.Token
	made := 0
	for range r.number(long) {
		token := r.token()
		r.must(delta.Fits(token, old, block), "the basis has not all these blocks")
		if r.err != nil {
			return nil
		}
		list = append(list, token)
		made += delta.Size(token, old, block)
	}
	r.must(made == size, "the tokens make another number of bytes")
	return list
}

func (r *reader) token() api.Token {
	switch r.number(short) {
	case kindBytes:
		n := r.number(short)
		r.must(n > 0, "a token has no bytes")
		return api.Token{Data: bytes.Clone(r.take(n))}
	case kindBlocks:
		number, count := r.number(long), r.number(short)
		r.must(count > 0, "a token copies no blocks")
		return api.Token{Block: number, Count: count}
	}
	r.must(false, "there is no such kind of token")
	return api.Token{}
}
