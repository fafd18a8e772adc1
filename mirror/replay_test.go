package mirror_test

import (
	"encoding/hex"
	"fmt"
	"maps"
	"math"
	"slices"
	"testing"

	"mirror/api"
	"mirror/mirror"
	"mirror/plain"
)

// record makes a batch.
func record(t *testing.T, source, reference []api.File, block int) []byte {
	t.Helper()
	b, err := mirror.Record(source, reference, block)
	if err != nil {
		t.Fatalf("Record: %v", err)
	}
	return b
}

// sizeByRule is how many bytes the files have together.
func sizeByRule(list []api.File) int {
	size := 0
	for _, x := range list {
		size += len(x.Data)
	}
	return size
}

// basisByRule goes through all names of both by rising names, as P11 says: "" if both are the same.
func basisByRule(list, basis []api.File) string {
	there, told := map[string]string{}, map[string]string{}
	for _, x := range list {
		there[x.Name] = fmt.Sprint(len(x.Data), " ", digestByRule(x.Data))
	}
	for _, x := range basis {
		told[x.Name] = fmt.Sprint(len(x.Data), " ", digestByRule(x.Data))
	}
	names := slices.AppendSeq(slices.Collect(maps.Keys(there)), maps.Keys(told))
	slices.Sort(names)
	for _, name := range names {
		if there[name] != told[name] {
			return name
		}
	}
	return ""
}

// smallTrees are all trees of the names a, aa and b, each of them not there or with one of four contents.
func smallTrees() [][]api.File {
	all := [][]api.File{nil}
	for _, name := range []string{"a", "aa", "b"} {
		for _, list := range all {
			for _, data := range []string{"", "x", "y", "xx"} {
				all = append(all, append(slices.Clip(slices.Clone(list)), file(name, data)))
			}
		}
	}
	return all
}

// The document's examples.
func TestP11P12Example(t *testing.T) {
	old, next := []api.File{file("a", "old")}, []api.File{file("b", "new")}
	b := record(t, next, old, 4)
	for crash := 0; crash <= 5; crash++ {
		about := fmt.Sprint("crash ", crash)
		m := open(t, old, 3)
		err := m.Replay(b, crash)
		if crash == 0 || crash == 5 {
			checkError(t, about, err, 0, "")
			checkFiles(t, about, m, next)
			checkError(t, about+", again", m.Replay(b, 0), api.ErrBasis, "a")
			continue
		}
		checkError(t, about, err, api.ErrCrash, "")
		checkError(t, about, m.Recover(0), 0, "")
		if crash == 4 {
			checkFiles(t, about, m, next)
		} else {
			checkFiles(t, about, m, old)
		}
	}
	m := open(t, old, 2)
	checkError(t, "room 2", m.Replay(b, 0), api.ErrSpace, "")
	checkFiles(t, "room 2", m, old)
}

// The tree becomes the source's, if there is room for just that many bytes, and stays as it is if there is one less.
func TestP11Trees(t *testing.T) {
	for i, pair := range trees() {
		size := sizeByRule(pair[0])
		for _, block := range []int{1, 2, 3, 7, 8, 32, api.MaxBlock} {
			about := fmt.Sprintf("trees %d by %d", i, block)
			b := recordByRule(pair[0], pair[1], block)
			for _, room := range []int{size, size + 1, api.MaxRoom} {
				m := open(t, pair[1], room)
				checkError(t, about, m.Replay(b, 0), 0, "")
				checkFiles(t, about, m, pair[0])
				checkError(t, about, m.Recover(0), api.ErrUp, "")
			}
			for _, room := range []int{0, size / 2, size - 1} {
				if room < 0 || room >= size {
					continue
				}
				m := open(t, pair[1], room)
				for crash := range 12 {
					checkError(t, about, m.Replay(b, crash), api.ErrSpace, "")
				}
				checkFiles(t, about, m, pair[1])
			}
		}
	}
}

// The room is for the targets: what the tree has and the basis says does not count.
func TestP11RoomIsOfTheTargets(t *testing.T) {
	large := []api.File{{Name: "a", Data: mixed(300)}, {Name: "b", Data: mixed(299)}}
	m := open(t, large, 0)
	checkError(t, "to no bytes", m.Replay(record(t, files(8), large, 4), 0), 0, "")
	checkFiles(t, "to no bytes", m, files(8))
	checkError(t, "to a byte", m.Replay(record(t, []api.File{file("a", "x")}, files(8), 4), 0), api.ErrSpace, "")
	checkFiles(t, "to a byte", m, files(8))
	full := files(8)
	for i := range full {
		full[i].Data = mixed(api.MaxData)
	}
	for room, kind := range map[int]api.Kind{8*api.MaxData - 1: api.ErrSpace, 8 * api.MaxData: 0, 7 * api.MaxData: api.ErrSpace, api.MaxData: api.ErrSpace} {
		m := open(t, full, room)
		checkError(t, fmt.Sprint("room ", room), m.Replay(record(t, full, full, 4), 0), kind, "")
		checkFiles(t, fmt.Sprint("room ", room), m, full)
	}
}

// Batches one behind the other bring a mirror from tree to tree, and each tree is the next one's basis.
func TestP11OneBehindTheOther(t *testing.T) {
	m := open(t, nil, api.MaxRoom)
	var ahead []api.File
	for i, pair := range trees() {
		for _, next := range pair {
			checkError(t, fmt.Sprint("trees ", i), m.Replay(record(t, next, ahead, 1+i), 0), 0, "")
			checkFiles(t, fmt.Sprint("trees ", i), m, next)
			ahead = next
		}
	}
}

func TestP11BasisByRule(t *testing.T) {
	all := smallTrees()
	for _, pair := range trees() {
		all = append(all, pair[0], pair[1])
	}
	batches := make([][]byte, len(all))
	next := []api.File{file("a", "other")}
	for i, list := range all {
		batches[i] = record(t, next, list, 4)
	}
	for _, list := range all {
		m := open(t, list, 0)
		for i, basis := range all {
			want := basisByRule(list, basis)
			kind := api.ErrBasis
			if want == "" {
				kind = api.ErrSpace // so that the tree stays
			}
			checkError(t, fmt.Sprintf("%q against %q", list, basis), m.Replay(batches[i], i%6), kind, want)
		}
		checkFiles(t, "behind all", m, list)
	}
}

// A basis whose file has another size alone, or another digest alone.
func TestP11SizeAndDigestOfTheBasis(t *testing.T) {
	list := []api.File{file("a", "x"), file("b", "yy"), file("c", "")}
	right := raw{mark: "BAT", block: 4, basisCount: 3}
	for _, x := range list {
		right.basis = append(right.basis, rawFile{1, x.Name, uint16(len(x.Data)), digestByRule(x.Data), 0, ""})
	}
	for i, x := range list {
		for _, change := range []func(f *rawFile){
			func(f *rawFile) { f.size++ },
			func(f *rawFile) { f.size += 256 },
			func(f *rawFile) { f.digest++ },
			func(f *rawFile) { f.digest ^= 1 << 63 },
			func(f *rawFile) { f.digest ^= 1 << 32 },
			func(f *rawFile) { f.size, f.digest = f.size+1, 0 },
		} {
			r := right
			r.basis = slices.Clone(right.basis)
			change(&r.basis[i])
			m := open(t, list, 9)
			checkError(t, x.Name, m.Replay(r.sealed(), 0), api.ErrBasis, x.Name)
			r.basis[2].digest = 3
			checkError(t, x.Name+" and c", m.Replay(r.sealed(), 0), api.ErrBasis, x.Name)
			checkFiles(t, x.Name, m, list)
		}
	}
	m := open(t, list, 9)
	checkError(t, "as it is", m.Replay(right.sealed(), 0), 0, "")
	checkFiles(t, "as it is", m, nil)
}

// lies is a batch for a mirror without files, with targets of one byte; of those with the given numbers the digest is another one.
func lies(n int, wrong ...int) []byte {
	r := raw{mark: "BAT", block: 4, targetsCount: byte(n)}
	for i, x := range files(n) {
		f := rawFile{3, x.Name, 1, digestByRule([]byte{byte(i)}), 1, "\x00\x01" + string(rune(i))}
		if slices.Contains(wrong, i) {
			f.digest++
		}
		r.targets = append(r.targets, f)
	}
	return r.sealed()
}

// The first target whose digest is not that of its file is told; the power's failure, whenever, is not.
func TestP11Digest(t *testing.T) {
	for n := 1; n <= api.MaxFiles; n++ {
		for i := range n {
			for j := i; j < n; j++ {
				m := open(t, nil, n)
				for crash := -1; crash < n+5; crash++ {
					checkError(t, fmt.Sprintf("%d and %d of %d", i, j, n), m.Replay(lies(n, j, i), crash), api.ErrDigest, files(n)[i].Name)
				}
				checkFiles(t, "behind all", m, nil)
			}
		}
		m := open(t, nil, n)
		checkError(t, "none", m.Replay(lies(n), 0), 0, "")
	}
}

// A target of no bytes has a digest as well, and so has one that is made of the mirror's blocks, or that has the name of no file.
func TestP11DigestOfWhatIsMade(t *testing.T) {
	list := []api.File{file("a", "abcdefghij"), file("b", "ABCDEFGHIJ")}
	basis := []rawFile{{1, "a", 10, digestByRule(list[0].Data), 0, ""}, {1, "b", 10, digestByRule(list[1].Data), 0, ""}}
	for _, c := range []struct {
		name   string
		size   uint16
		count  uint16
		tokens string
		made   string
	}{
		{"a", 0, 0, "", ""},
		{"c", 0, 0, "", ""},
		{"a", 10, 1, "\x01\x00\x00\x03", "abcdefghij"},
		{"b", 10, 1, "\x01\x00\x00\x03", "ABCDEFGHIJ"},
		{"b", 7, 3, "\x00\x01x\x01\x00\x01\x01\x01\x00\x02\x01", "xEFGHIJ"},
		{"b", 6, 3, "\x01\x00\x02\x01\x01\x00\x02\x01\x01\x00\x02\x01", "IJIJIJ"},
		{"c", 3, 2, "\x00\x01x\x00\x02yz", "xyz"},
	} {
		r := raw{mark: "BAT", block: 4, basisCount: 2, basis: basis, targetsCount: 1}
		r.targets = []rawFile{{1, c.name, c.size, digestByRule([]byte(c.made)), c.count, c.tokens}}
		m := open(t, list, 10)
		checkError(t, c.made, m.Replay(r.sealed(), 0), 0, "")
		checkFiles(t, c.made, m, []api.File{file(c.name, c.made)})
		for _, digest := range []uint64{0, digestByRule([]byte(c.made)) ^ 1, digestByRule([]byte(c.made)) ^ 1<<63, digestByRule([]byte("other"))} {
			r.targets[0].digest = digest
			m := open(t, list, 10)
			checkError(t, c.made, m.Replay(r.sealed(), 0), api.ErrDigest, c.name)
			checkFiles(t, c.made, m, list)
		}
	}
}

// A tree whose file has the basis' size and digest, but other bytes, is the basis; a file that is made of those bytes is told by its digest.
func TestP11SameSums(t *testing.T) {
	one, _ := hex.DecodeString("0553ea28290dd2800048")
	other, _ := hex.DecodeString("6d44a12d1d192c9b7945")
	recorded, there := []api.File{{Name: "a", Data: one}}, []api.File{{Name: "a", Data: other}}
	if sameFiles(recorded, there) || digestByRule(one) != digestByRule(other) {
		t.Fatal("these are not two files of the same digest")
	}
	m := open(t, there, 99)
	checkError(t, "a part of it", m.Replay(record(t, []api.File{{Name: "a", Data: one[:5]}}, recorded, 5), 0), api.ErrDigest, "a")
	checkFiles(t, "a part of it", m, there)
	checkError(t, "all of it", m.Replay(record(t, recorded, recorded, 5), 0), 0, "")
	checkFiles(t, "all of it", m, there)
	checkError(t, "bytes alone", m.Replay(record(t, []api.File{file("a", "x")}, recorded, 5), 0), 0, "")
	checkFiles(t, "bytes alone", m, []api.File{file("a", "x")})
}

func TestP11NoBatch(t *testing.T) {
	list := []api.File{file("a", "old")}
	b := record(t, []api.File{file("a", "new")}, list, 4)
	m := open(t, list, 99)
	for _, crash := range []int{0, 1, 2, 3, 4, -1} {
		checkError(t, "nil", m.Replay(nil, crash), api.ErrBatch, "")
		for n := range b {
			checkError(t, "the end is not there", m.Replay(b[:n], crash), api.ErrBatch, "")
		}
		checkError(t, "a byte too many", m.Replay(append(slices.Clip(b), 0), crash), api.ErrBatch, "")
		for i := range b {
			turned := slices.Clone(b)
			turned[i] ^= 4
			checkError(t, "a bit is turned", m.Replay(turned, crash), api.ErrBatch, "")
		}
	}
	checkFiles(t, "behind all", m, list)
	checkError(t, "the batch itself", m.Replay(b, 0), 0, "")
}

// P1: of all errors that apply the one is told that stands first; each case takes one of them away.
func TestP1P11WhichErrorFirst(t *testing.T) {
	lie := lies(2, 1)
	noBatch := lie[:len(lie)-1]
	full := []api.File{file("f00", "x")}
	for crash := 1; crash <= 5; crash++ {
		m := open(t, full, 1)
		checkError(t, "down it goes", m.Replay(record(t, nil, full, 1), 1), api.ErrCrash, "")
		checkError(t, "down, no batch", m.Replay(noBatch, crash), api.ErrDown, "")
		checkError(t, "down, another basis", m.Replay(lie, crash), api.ErrDown, "")
		checkError(t, "up again", m.Recover(0), 0, "")
		checkError(t, "no batch, another basis", m.Replay(noBatch, crash), api.ErrBatch, "")
		checkError(t, "another basis, no space, another digest", m.Replay(lie, crash), api.ErrBasis, "f00")
		m = open(t, nil, 1)
		checkError(t, "no space, another digest", m.Replay(lie, crash), api.ErrSpace, "")
		m = open(t, nil, 2)
		checkError(t, "another digest", m.Replay(lie, crash), api.ErrDigest, "f01")
		checkError(t, "the power alone", m.Replay(lies(2), crash), api.ErrCrash, "")
	}
}

// Wherever Replay tells an error but ErrCrash, the mirror is up, has its tree, and takes the right batch.
func TestP1P11NothingChanges(t *testing.T) {
	list := []api.File{file("a", "old"), file("b", "")}
	next := []api.File{file("a", "older")}
	m := open(t, list, 5)
	wrong := map[api.Kind][]byte{
		api.ErrBatch:  nil,
		api.ErrBasis:  record(t, next, next, 4),
		api.ErrSpace:  record(t, []api.File{file("a", "oldest")}, list, 4),
		api.ErrDigest: nil,
	}
	r := raw{mark: "BAT", block: 4, basisCount: 2, basis: []rawFile{{1, "a", 3, digestByRule([]byte("old")), 0, ""}, {1, "b", 0, digestByRule(nil), 0, ""}}}
	r.targetsCount, r.targets = 1, []rawFile{{1, "a", 3, 5, 1, "\x01\x00\x00\x01"}}
	wrong[api.ErrDigest] = r.sealed()
	for kind, b := range wrong {
		for _, crash := range []int{0, 1, 2, 3, 4, 5, math.MaxInt, math.MinInt} {
			if got, _ := api.Told(m.Replay(b, crash)); got != kind {
				t.Errorf("Replay = %d, want %d", got, kind)
			}
			checkFiles(t, fmt.Sprint("error ", kind), m, list)
			checkError(t, fmt.Sprint("error ", kind), m.Recover(0), api.ErrUp, "")
		}
	}
	checkError(t, "the right one", m.Replay(record(t, next, list, 4), 0), 0, "")
	checkFiles(t, "the right one", m, next)
}

func TestP11AskedFromOutside(t *testing.T) {
	old, next := []api.File{file("a", "old")}, []api.File{file("b", "new")}
	b := record(t, next, old, 4)
	m := open(t, old, 3)
	for _, c := range []struct {
		crash int
		kind  api.Kind
		name  string
	}{{1, api.ErrCrash, ""}, {0, api.ErrDown, ""}} {
		if kind, name := plain.Replay(m, b, c.crash); kind != c.kind || name != c.name {
			t.Errorf("plain.Replay = %d, %q, want %d, %q", kind, name, c.kind, c.name)
		}
	}
	for _, c := range []struct {
		crash int
		kind  api.Kind
	}{{1, api.ErrCrash}, {0, 0}, {0, api.ErrUp}} {
		if kind := plain.Recover(m, c.crash); kind != c.kind {
			t.Errorf("plain.Recover = %d, want %d", kind, c.kind)
		}
	}
	for _, c := range []struct {
		kind api.Kind
		name string
	}{{0, ""}, {api.ErrBasis, "a"}} {
		if kind, name := plain.Replay(m, b, 0); kind != c.kind || name != c.name {
			t.Errorf("plain.Replay = %d, %q, want %d, %q", kind, name, c.kind, c.name)
		}
	}
}
