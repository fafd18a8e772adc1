package batch

import (
	"strconv"

	"mirror/api"
)

// fault is what is wrong with a batch, and where. P9 tells the kind alone, which is wrapped within.
type fault struct {
	at   int // how many bytes had been read
	what string
}

// Error tells place and fault.
func (f *fault) Error() string { return "byte " + strconv.Itoa(f.at) + ": " + f.what }

// Unwrap gives the kind.
func (f *fault) Unwrap() error { return api.ErrBatch }

// reader goes through the bytes of a batch. Its first fault is kept, and behind it every read gives zeros, so that those who read need not ask at each step.
type reader struct {
	all []byte
	at  int
	err error
}

// must keeps a fault, if what has to hold does not.
func (r *reader) must(holds bool, what string) {
	if !holds && r.err == nil {
		r.err = &fault{at: r.at, what: what}
	}
}

// take reads the next bytes, which are still those that were handed in.
func (r *reader) take(n int) []byte {
	r.must(n <= len(r.all)-r.at, "the batch ends too soon")
	if r.err != nil {
		return nil
	}
	from, to := r.at, r.at+n
	r.at = to
	return r.all[from:to:to]
}

// wide reads a number of so many bytes, the highest first.
func (r *reader) wide(width int) uint64 {
	var v uint64
	for _, x := range r.take(width) {
		v = v<<8 | uint64(x)
	}
	return v
}

// number reads one that is no digest, and so fits an int.
func (r *reader) number(width int) int { return int(r.wide(width)) }
