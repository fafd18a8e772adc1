package mirror_test

import (
	"bytes"
	"encoding/binary"
	"reflect"
	"slices"
	"strings"
	"testing"

	"mirror/api"
	"mirror/mirror"
	"mirror/plain"
)

// raw is a batch place by place, so that one of them may be changed alone.
type raw struct {
	mark           string
	block          byte
	basisCount     byte
	basis          []rawFile
	targetsCount   byte
	targets        []rawFile
	behindTheFiles string
}

// rawFile is a file of a batch place by place; the tokens are written as they stand.
type rawFile struct {
	length byte
	name   string
	size   uint16
	digest uint64
	count  uint16
	tokens string
}

// rename gives a file a name with the length that fits.
func (f *rawFile) rename(name string) { f.name, f.length = name, byte(len(name)) }

// entry writes what is told of a file.
func (f rawFile) entry(b []byte) []byte {
	b = append(append(b, f.length), f.name...)
	b = binary.BigEndian.AppendUint16(b, f.size)
	return binary.BigEndian.AppendUint64(b, f.digest)
}

// sealed writes the batch, with the digest that fits.
func (r raw) sealed() []byte {
	b := append([]byte(r.mark), r.block, r.basisCount)
	for _, f := range r.basis {
		b = f.entry(b)
	}
	b = append(b, r.targetsCount)
	for _, f := range r.targets {
		b = binary.BigEndian.AppendUint16(f.entry(b), f.count)
		b = append(b, f.tokens...)
	}
	return sealed(append(b, r.behindTheFiles...))
}

// rightBatch has a basis of two files, of which b has two whole blocks and a shorter one, and three targets.
func rightBatch() raw {
	return raw{mark: "BAT", block: 4,
		basisCount: 2, basis: []rawFile{{1, "a", 8, 11, 0, ""}, {2, "bb", 10, 12, 0, ""}},
		targetsCount: 3, targets: []rawFile{
			{2, "bb", 9, 13, 3, "\x00\x02xy" + "\x01\x00\x01\x02" + "\x00\x01z"},
			{1, "c", 3, 14, 2, "\x00\x02pq" + "\x00\x01r"},
			{3, "d/d", 0, 15, 0, ""},
		},
	}
}

// saidByRightBatch is what rightBatch says.
func saidByRightBatch() api.Batch {
	return api.Batch{Block: 4,
		Basis: []api.Entry{{Name: "a", Size: 8, Digest: 11}, {Name: "bb", Size: 10, Digest: 12}},
		Targets: []api.Target{
			{Entry: api.Entry{Name: "bb", Size: 9, Digest: 13}, Tokens: []api.Token{{Data: []byte("xy")}, copyOf(1, 2), {Data: []byte("z")}}},
			{Entry: api.Entry{Name: "c", Size: 3, Digest: 14}, Tokens: []api.Token{{Data: []byte("pq")}, {Data: []byte("r")}}},
			{Entry: api.Entry{Name: "d/d", Digest: 15}},
		},
	}
}

// sameBatch holds two against each other; an empty list may be nil or not.
func sameBatch(x, y api.Batch) bool {
	sameToken := func(x, y api.Token) bool {
		return x.Block == y.Block && x.Count == y.Count && bytes.Equal(x.Data, y.Data)
	}
	sameTarget := func(x, y api.Target) bool {
		return x.Entry == y.Entry && slices.EqualFunc(x.Tokens, y.Tokens, sameToken)
	}
	return x.Block == y.Block && slices.Equal(x.Basis, y.Basis) && slices.EqualFunc(x.Targets, y.Targets, sameTarget)
}

// checkNoBatch asks for ErrBatch itself, beside which nothing is said.
func checkNoBatch(t *testing.T, about string, b []byte) {
	t.Helper()
	said, err := mirror.Read(b)
	if err != error(api.ErrBatch) || !reflect.DeepEqual(said, api.Batch{}) {
		t.Errorf("%s: Read(%q) = %+v, %#v, want nothing, ErrBatch", about, b, said, err)
	}
}

// byRule reads a batch by P7's words; what is no batch ends in a panic.
type byRule struct{ rest []byte }

func (r *byRule) ask(holds bool) {
	if !holds {
		panic("no batch")
	}
}

func (r *byRule) bytes(n int) string {
	r.ask(n <= len(r.rest))
	part := string(r.rest[:n])
	r.rest = r.rest[n:]
	return part
}

func (r *byRule) byte() int { return int(r.bytes(1)[0]) }

func (r *byRule) two() int { return r.byte()*256 + r.byte() }

func (r *byRule) entries(each func(api.Entry)) {
	n := r.byte()
	r.ask(n <= 8)
	last := ""
	for i := range n {
		name := r.bytes(r.byte())
		r.ask(len(name) >= 1 && len(name) <= 12 && strings.Trim(name, "abcdefghijklmnopqrstuvwxyz0123456789./") == "")
		r.ask(i == 0 || strings.Compare(last, name) < 0)
		size := r.two()
		r.ask(size <= 300)
		last = name
		each(api.Entry{Name: name, Size: size, Digest: binary.BigEndian.Uint64([]byte(r.bytes(8)))})
	}
}

// tokens lists the blocks of the old file one by one, and looks for each that is copied.
func (r *byRule) tokens(old, block, size int) []api.Token {
	var blocks []int
	for at := 0; at < old; at += block {
		blocks = append(blocks, min(block, old-at))
	}
	var list []api.Token
	for range r.two() {
		switch r.byte() {
		case 0:
			token := api.Token{Data: []byte(r.bytes(r.byte()))}
			r.ask(len(token.Data) >= 1)
			size -= len(token.Data)
			list = append(list, token)
		case 1:
			token := api.Token{Block: r.two(), Count: r.byte()}
			r.ask(token.Count >= 1)
			for i := range token.Count {
				r.ask(token.Block+i < len(blocks))
				size -= blocks[token.Block+i]
			}
			list = append(list, token)
		default:
			r.ask(false)
		}
	}
	r.ask(size == 0)
	return list
}

// readByRule follows P9's words.
func readByRule(b []byte) (said api.Batch, is bool) {
	defer func() {
		if recover() != nil {
			said, is = api.Batch{}, false
		}
	}()
	r := &byRule{rest: b}
	r.ask(len(b) >= 8 && bytes.Equal(sealed(b[:len(b)-8]), b))
	r.rest = b[:len(b)-8]
	r.ask(r.bytes(3) == "\x42\x41\x54")
	said.Block = r.byte()
	r.ask(said.Block >= 1 && said.Block <= 64)
	old := map[string]int{}
	r.entries(func(x api.Entry) {
		said.Basis = append(said.Basis, x)
		old[x.Name] = x.Size
	})
	r.entries(func(x api.Entry) {
		said.Targets = append(said.Targets, api.Target{Entry: x, Tokens: r.tokens(old[x.Name], said.Block, x.Size)})
	})
	r.ask(len(r.rest) == 0)
	return said, true
}

// checkByRule asks Read, and holds its answer against the rule's.
func checkByRule(t *testing.T, b []byte) (is bool) {
	t.Helper()
	want, is := readByRule(b)
	if !is {
		checkNoBatch(t, "by the rule it is none", b)
		return false
	}
	if said, err := mirror.Read(b); err != nil || !sameBatch(said, want) {
		t.Errorf("Read(%q) = %+v, %v, want %+v", b, said, err, want)
	}
	return true
}

func TestP9RightBatch(t *testing.T) {
	said, err := mirror.Read(rightBatch().sealed())
	if err != nil || !sameBatch(said, saidByRightBatch()) {
		t.Errorf("Read = %+v, %v, want %+v", said, err, saidByRightBatch())
	}
	for _, x := range said.Targets[0].Tokens {
		if len(x.Data) > 0 && (x.Block != 0 || x.Count != 0) {
			t.Errorf("a token with bytes has Block %d, Count %d", x.Block, x.Count)
		}
	}
}

// What is right, though it is at an edge of the form.
func TestP9Edges(t *testing.T) {
	for _, c := range []struct {
		about  string
		change func(r *raw)
	}{
		{"blocks of 1 byte", func(r *raw) { r.block, r.targets[0].size = 1, 5 }},
		{"blocks of 64 bytes", func(r *raw) {
			r.block, r.targets[0].tokens = 64, "\x00\x01x\x01\x00\x00\x01\x00\x01y"
			r.targets[0].size = 12
		}},
		{"no files", func(r *raw) { r.basisCount, r.basis, r.targetsCount, r.targets = 0, nil, 0, nil }},
		{"no targets", func(r *raw) { r.targetsCount, r.targets = 0, nil }},
		{"no basis, and bytes alone", func(r *raw) { r.basisCount, r.basis, r.targetsCount, r.targets = 0, nil, 2, r.targets[1:] }},
		{"names of 12 signs", func(r *raw) { r.basis[1].rename("b23456789/.z"); r.targets[0].rename("b23456789/.z") }},
		{"names of points, strokes and digits", func(r *raw) {
			r.basis[0].rename(".")
			r.basis[1].rename("/")
			r.targets[0].rename("/")
			r.targets[1].rename("09")
		}},
		{"a basis' file of MaxData bytes", func(r *raw) { r.basis[0].size = 300 }},
		{"the last of many blocks", func(r *raw) { r.basis[1].size, r.targets[0].tokens = 300, "\x00\x02xy\x01\x00\x4a\x01\x00\x03pqr" }},
		{"a block's number of two bytes", func(r *raw) {
			r.block, r.basis[1].size, r.targets[0].tokens = 1, 300, "\x00\x02xy\x01\x01\x2b\x01\x00\x06pqrstu"
		}},
		{"a digest of zeros, one of ones", func(r *raw) { r.basis[0].digest, r.targets[0].digest = 0, 1<<64-1 }},
		{"a target of MaxData bytes", func(r *raw) {
			r.targets[1].size, r.targets[1].tokens = 300, "\x00\xff"+strings.Repeat("p", 255)+"\x00\x2d"+strings.Repeat("q", 45)
		}},
		{"all blocks, with the shorter last one", func(r *raw) {
			r.targets[0].size, r.targets[0].count, r.targets[0].tokens = 10, 1, "\x01\x00\x00\x03"
		}},
		{"the shorter last block alone", func(r *raw) {
			r.targets[0].size, r.targets[0].count, r.targets[0].tokens = 2, 1, "\x01\x00\x02\x01"
		}},
		{"the shorter last block between others", func(r *raw) {
			r.targets[0].size, r.targets[0].tokens = 10, "\x01\x00\x00\x01\x01\x00\x02\x01\x01\x00\x01\x01"
		}},
		{"255 blocks", func(r *raw) {
			r.block, r.basis[1].size, r.targets[0].size, r.targets[0].count, r.targets[0].tokens = 1, 300, 255, 1, "\x01\x00\x2d\xff"
		}},
		{"as many tokens as bytes", func(r *raw) {
			r.targets[1].size, r.targets[1].count, r.targets[1].tokens = 300, 300, strings.Repeat("\x00\x01p", 300)
		}},
		{"a block many times over", func(r *raw) {
			r.targets[0].size, r.targets[0].count, r.targets[0].tokens = 300, 75, strings.Repeat("\x01\x00\x00\x01", 75)
		}},
		{"blocks that stand side by side in two tokens", func(r *raw) {
			r.targets[0].size, r.targets[0].count, r.targets[0].tokens = 8, 2, "\x01\x00\x00\x01\x01\x00\x01\x01"
		}},
		{"bytes with the digest of others", func(r *raw) { r.targets[1].tokens = "\x00\x02PQ\x00\x01R" }},
	} {
		r := rightBatch()
		c.change(&r)
		if b := r.sealed(); !checkByRule(t, b) {
			t.Errorf("%s: by the rule it is no batch: %q", c.about, b)
		}
	}
}

// Each place by itself is wrong, and all others are right, the digest too.
func TestP9NoBatch(t *testing.T) {
	bytesOnly := func(r *raw, size, count int, tokens string) {
		r.targets[1].size, r.targets[1].count, r.targets[1].tokens = uint16(size), uint16(count), tokens
	}
	blocks := func(r *raw, size, count int, tokens string) {
		r.targets[0].size, r.targets[0].count, r.targets[0].tokens = uint16(size), uint16(count), tokens
	}
	for _, c := range []struct {
		about  string
		change func(r *raw)
	}{
		{"the first byte", func(r *raw) { r.mark = "bAT" }},
		{"the second byte", func(r *raw) { r.mark = "BaT" }},
		{"the third byte", func(r *raw) { r.mark = "BAt" }},
		{"no mark", func(r *raw) { r.mark = "" }},
		{"a mark of two bytes", func(r *raw) { r.mark = "BA" }},
		{"a mark of four bytes", func(r *raw) { r.mark = "BATT" }},

		{"block 0", func(r *raw) { r.block, r.basisCount, r.basis, r.targetsCount, r.targets = 0, 0, nil, 0, nil }},
		{"block 0, with files", func(r *raw) { r.block = 0 }},
		{"block 65", func(r *raw) { r.block, r.basisCount, r.basis, r.targetsCount, r.targets = 65, 0, nil, 0, nil }},
		{"block 255", func(r *raw) { r.block, r.targetsCount, r.targets = 255, 2, r.targets[1:] }},

		{"nine files of the basis", func(r *raw) {
			r.basisCount, r.basis, r.targetsCount, r.targets = 9, nil, 0, nil
			for _, x := range files(9) {
				r.basis = append(r.basis, rawFile{length: 3, name: x.Name})
			}
		}},
		{"nine targets", func(r *raw) {
			r.targetsCount, r.targets = 9, nil
			for _, x := range files(9) {
				r.targets = append(r.targets, rawFile{length: 3, name: x.Name})
			}
		}},
		{"one file of the basis too few", func(r *raw) { r.basisCount = 3 }},
		{"one file of the basis too many", func(r *raw) { r.basisCount = 1 }},
		{"one target too few", func(r *raw) { r.targetsCount = 4 }},
		{"one target too many", func(r *raw) { r.targetsCount = 2 }},
		{"no targets told", func(r *raw) { r.targetsCount = 0 }},

		{"an empty name in the basis", func(r *raw) { r.basis[0].rename("") }},
		{"an empty name of a target", func(r *raw) { r.targetsCount = 2; r.targets = r.targets[1:]; r.targets[0].rename("") }},
		{"a name of 13 signs in the basis", func(r *raw) { r.basis[0].rename("abcdefghijklm") }},
		{"a name of 13 signs of a target", func(r *raw) { r.targets[1].rename("cbcdefghijklm") }},
		{"a name that is shorter than told", func(r *raw) { r.basis[0].length = 2 }},
		{"a name that is longer than told", func(r *raw) { r.basis[1].length = 1 }},
		{"a great letter in the basis", func(r *raw) { r.basis[0].rename("A") }},
		{"a great letter in a target", func(r *raw) { r.targets[1].rename("cC") }},
		{"a sign that no name has, in the basis", func(r *raw) { r.basis[0].rename("a_") }},
		{"a sign that no name has, in a target", func(r *raw) { r.targets[2].rename("d-d") }},
		{"a sign of two bytes", func(r *raw) { r.targets[2].rename("dé") }},
		{"a sign of no text", func(r *raw) { r.targets[2].rename("d\xff") }},
		{"names of the basis that do not rise", func(r *raw) { r.basis[0].rename("c") }},
		{"a name that is twice in the basis", func(r *raw) { r.basis[0].rename("bb") }},
		{"names of the targets that do not rise", func(r *raw) { r.targets[2].rename("a") }},
		{"a name that is twice in the targets", func(r *raw) { r.targets[2].rename("c") }},
		{"a target's name that begins the one ahead", func(r *raw) { r.targets[1].rename("b") }},

		{"a size of the basis above MaxData", func(r *raw) { r.basis[0].size = 301 }},
		{"a size of the basis far above MaxData", func(r *raw) { r.basis[0].size = 65535 }},
		{"a size of a target above MaxData", func(r *raw) {
			bytesOnly(r, 301, 2, "\x00\xff"+strings.Repeat("p", 255)+"\x00\x2e"+strings.Repeat("q", 46))
		}},
		{"a size of a target above MaxData, of blocks", func(r *raw) { r.basis[1].size = 300; blocks(r, 600, 2, strings.Repeat("\x01\x00\x00\x4b", 2)) }},

		{"a token with no bytes", func(r *raw) { bytesOnly(r, 3, 3, "\x00\x02pq\x00\x00\x00\x01r") }},
		{"a token with no bytes at the end", func(r *raw) { bytesOnly(r, 3, 3, "\x00\x02pq\x00\x01r\x00\x00") }},
		{"a token with no bytes alone", func(r *raw) { bytesOnly(r, 0, 1, "\x00\x00") }},
		{"a token of no blocks", func(r *raw) { blocks(r, 4, 2, "\x01\x00\x00\x01\x01\x00\x00\x00") }},
		{"a token of no blocks alone", func(r *raw) { blocks(r, 0, 1, "\x01\x00\x00\x00") }},
		{"a token of no blocks, where there are none", func(r *raw) { bytesOnly(r, 0, 1, "\x01\x00\x00\x00") }},
		{"a token of no blocks, from another on", func(r *raw) { blocks(r, 0, 1, "\x01\x00\x02\x00") }},
		{"a token of kind 2", func(r *raw) { bytesOnly(r, 3, 1, "\x02\x03pqr") }},
		{"a token of kind 2 as of blocks", func(r *raw) { blocks(r, 4, 1, "\x02\x00\x00\x01") }},
		{"a token of kind 255", func(r *raw) { bytesOnly(r, 3, 1, "\xff\x03pqr") }},
		{"a token of another kind alone", func(r *raw) { bytesOnly(r, 0, 1, "\x02") }},

		{"one token too few", func(r *raw) { r.targets[0].count = 4 }},
		{"one token too many", func(r *raw) { r.targets[0].count = 2 }},
		{"no tokens told", func(r *raw) { r.targets[1].count = 0 }},
		{"far more tokens told", func(r *raw) { r.targets[1].count = 65535 }},
		{"tokens told at the end, where there are none", func(r *raw) { r.targets[2].count = 1 }},
		{"256 tokens told", func(r *raw) { r.targets[2].count = 256 }},

		{"a block behind the last", func(r *raw) { blocks(r, 2, 1, "\x01\x00\x03\x01") }},
		{"a block behind the last, of no bytes", func(r *raw) { blocks(r, 0, 1, "\x01\x00\x03\x01") }},
		{"one block too many", func(r *raw) { blocks(r, 10, 1, "\x01\x00\x00\x04") }},
		{"one block too many from the second on", func(r *raw) { blocks(r, 6, 1, "\x01\x00\x01\x03") }},
		{"a block of the other file alone", func(r *raw) { r.basis[0].size = 40; blocks(r, 4, 1, "\x01\x00\x05\x01") }},
		{"a block far behind the last", func(r *raw) { blocks(r, 4, 1, "\x01\xff\xff\x01") }},
		{"a block 256 behind one that is there", func(r *raw) { blocks(r, 4, 1, "\x01\x01\x00\x01") }},
		{"a block behind the last one, which is whole", func(r *raw) { r.basis[1].size = 8; blocks(r, 2, 1, "\x01\x00\x02\x01") }},
		{"a block of a file that the basis has not", func(r *raw) { bytesOnly(r, 4, 1, "\x01\x00\x00\x01") }},
		{"a block of a file that the basis has not, of no bytes", func(r *raw) { bytesOnly(r, 0, 1, "\x01\x00\x00\x01") }},
		{"a block of a file of no bytes", func(r *raw) { r.basis[1].size = 0; blocks(r, 0, 1, "\x01\x00\x00\x01") }},
		{"a block without any basis", func(r *raw) { r.basisCount, r.basis = 0, nil; blocks(r, 4, 1, "\x01\x00\x00\x01") }},

		{"bytes too few for the size", func(r *raw) { r.targets[1].size = 4 }},
		{"bytes too many for the size", func(r *raw) { r.targets[1].size = 2 }},
		{"blocks too few for the size", func(r *raw) { blocks(r, 5, 1, "\x01\x00\x00\x01") }},
		{"blocks too many for the size", func(r *raw) { blocks(r, 3, 1, "\x01\x00\x00\x01") }},
		{"the shorter last block as a whole one", func(r *raw) { blocks(r, 4, 1, "\x01\x00\x02\x01") }},
		{"all blocks as whole ones", func(r *raw) { blocks(r, 12, 1, "\x01\x00\x00\x03") }},
		{"a size without tokens", func(r *raw) { r.targets[2].size = 1 }},
		{"tokens of 256 bytes for a size of 0", func(r *raw) {
			bytesOnly(r, 0, 2, "\x00\x80"+strings.Repeat("p", 128)+"\x00\x80"+strings.Repeat("p", 128))
		}},
		{"tokens of 65536 bytes for a size of 0", func(r *raw) {
			r.block, r.basis[1].size = 64, 256
			blocks(r, 0, 256, strings.Repeat("\x01\x00\x00\x04", 256))
		}},

		{"a byte ahead of the digest", func(r *raw) { r.behindTheFiles = "\x00" }},
		{"a digest ahead of the digest", func(r *raw) { r.behindTheFiles = "12345678" }},
	} {
		r := rightBatch()
		c.change(&r)
		checkNoBatch(t, c.about, r.sealed())
	}
}

// Without a digest that fits there is no batch, whichever byte is another.
func TestP9Digest(t *testing.T) {
	b := rightBatch().sealed()
	for i := range b {
		for bit := range 8 {
			turned := bytes.Clone(b)
			turned[i] ^= 1 << bit
			checkNoBatch(t, "a bit is turned", turned)
		}
	}
	body := b[:len(b)-8]
	checkNoBatch(t, "no digest", body)
	checkNoBatch(t, "a digest of zeros", append(bytes.Clone(body), make([]byte, 8)...))
	checkNoBatch(t, "a digest that has the lowest byte first", binary.LittleEndian.AppendUint64(bytes.Clone(body), digestByRule(body)))
	checkNoBatch(t, "a byte behind the digest", append(bytes.Clone(b), 0))
	checkNoBatch(t, "a batch twice", append(bytes.Clone(b), b...))
	checkNoBatch(t, "a digest of the digest too", sealed(b))
	for n := range b {
		checkNoBatch(t, "the end is not there", b[:n:n])
		checkNoBatch(t, "the end is spare room", b[:n])
	}
}

// A byte is another, is missing, or is one too many, at each place, with a digest behind that is right.
func TestP9ByRule(t *testing.T) {
	r := rightBatch()
	b := r.sealed()
	body := b[:len(b)-8]
	right := 0
	for i := range body {
		for x := range 256 {
			changed := bytes.Clone(body)
			changed[i] = byte(x)
			if checkByRule(t, sealed(changed)) {
				right++
			}
			checkByRule(t, sealed(slices.Insert(bytes.Clone(body), i, byte(x))))
		}
		checkByRule(t, sealed(slices.Delete(bytes.Clone(body), i, i+1)))
		checkNoBatch(t, "the end is not there", sealed(body[:i]))
	}
	checkNoBatch(t, "a byte too many", sealed(append(bytes.Clone(body), 0)))
	// the five digests may be any, so may the six bytes that stand as they are
	if right < (5*8+6)*256 {
		t.Errorf("only %d changes leave a batch", right)
	}
}

// P1: Read ends without a panic, whatever it is handed.
func TestP1P9Anything(t *testing.T) {
	checkNoBatch(t, "nil", nil)
	checkNoBatch(t, "nothing", []byte{})
	checkNoBatch(t, "the digest of nothing", sealed(nil))
	for _, n := range []int{1, 7, 8, 9, 14, 300, 1 << 20} {
		for _, x := range []byte{0, 1, 'B', 255} {
			checkNoBatch(t, "one byte many times", bytes.Repeat([]byte{x}, n))
			checkNoBatch(t, "a batch's beginning, then one byte many times", append([]byte("BAT\x04"), bytes.Repeat([]byte{x}, n)...))
		}
		checkByRule(t, sealed(mixed(n)))
	}
	many := rightBatch()
	many.targets[1].count, many.targets[1].tokens = 65535, strings.Repeat("\x00\xff"+strings.Repeat("x", 255), 65535)
	checkNoBatch(t, "as many tokens as can be told", many.sealed())
}

// What Record writes reads as what went in.
func TestP9ReadsWhatRecordWrote(t *testing.T) {
	entryOf := func(x api.File) api.Entry {
		return api.Entry{Name: x.Name, Size: len(x.Data), Digest: digestByRule(x.Data)}
	}
	for i, pair := range trees() {
		old := map[string][]byte{}
		for _, block := range []int{1, 2, 3, 7, 8, 32, api.MaxBlock} {
			want := api.Batch{Block: block}
			for _, x := range pair[1] {
				want.Basis = append(want.Basis, entryOf(x))
				old[x.Name] = x.Data
			}
			for _, x := range pair[0] {
				want.Targets = append(want.Targets, api.Target{Entry: entryOf(x), Tokens: diffByRule(old[x.Name], x.Data, block)})
			}
			b, err := mirror.Record(pair[0], pair[1], block)
			if err != nil {
				t.Fatalf("trees %d by %d: Record: %v", i, block, err)
			}
			said, err := mirror.Read(b)
			if err != nil || !sameBatch(said, want) {
				t.Fatalf("trees %d by %d: Read = %+v, %v, want %+v", i, block, said, err, want)
			}
			for j, x := range said.Targets {
				if made, err := mirror.Apply(old[x.Name], x.Tokens, said.Block); err != nil || !bytes.Equal(made, pair[0][j].Data) {
					t.Errorf("trees %d by %d: Apply of the tokens of %q = %q, %v", i, block, x.Name, made, err)
				}
			}
		}
	}
}

func TestP9AskedFromOutside(t *testing.T) {
	if said, kind := plain.Read(rightBatch().sealed()); kind != 0 || !sameBatch(said, saidByRightBatch()) {
		t.Errorf("plain.Read = %+v, %d", said, kind)
	}
	if said, kind := plain.Read([]byte("BAT")); kind != api.ErrBatch || !reflect.DeepEqual(said, api.Batch{}) {
		t.Errorf("plain.Read = %+v, %d, want ErrBatch", said, kind)
	}
}
