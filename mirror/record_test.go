package mirror_test

import (
	"bytes"
	"encoding/binary"
	"encoding/hex"
	"errors"
	"fmt"
	"hash/fnv"
	"math"
	"strings"
	"testing"

	"mirror/api"
	"mirror/mirror"
	"mirror/plain"
)

// file makes one of a name and a text.
func file(name, data string) api.File { return api.File{Name: name, Data: []byte(data)} }

// files makes n of them, with no bytes, by rising names.
func files(n int) []api.File {
	list := make([]api.File, n)
	for i := range list {
		list[i].Name = fmt.Sprintf("f%02d", i)
	}
	return list
}

// sealed lays the digest of b behind it. P3's digest is the library's FNV-1a, which is faster than the one by the rule.
func sealed(b []byte) []byte {
	h := fnv.New64a()
	h.Write(b)
	return h.Sum(bytes.Clone(b))
}

// entryByRule follows P7's words on what is told of a file.
func entryByRule(b []byte, x api.File) []byte {
	b = append(b, byte(len(x.Name)))
	b = append(b, x.Name...)
	b = binary.BigEndian.AppendUint16(b, uint16(len(x.Data)))
	return binary.BigEndian.AppendUint64(b, digestByRule(x.Data))
}

// tokensByRule follows P7's words on the tokens of a target.
func tokensByRule(b []byte, tokens []api.Token) []byte {
	b = binary.BigEndian.AppendUint16(b, uint16(len(tokens)))
	for _, x := range tokens {
		if x.Count > 0 {
			b = append(b, 1, byte(x.Block>>8), byte(x.Block), byte(x.Count))
		} else {
			b = append(append(b, 0, byte(len(x.Data))), x.Data...)
		}
	}
	return b
}

// recordByRule follows P7's and P8's words.
func recordByRule(source, reference []api.File, block int) []byte {
	b := append([]byte{0x42, 0x41, 0x54, byte(block)}, byte(len(reference)))
	old := map[string][]byte{}
	for _, x := range reference {
		b = entryByRule(b, x)
		old[x.Name] = x.Data
	}
	b = append(b, byte(len(source)))
	for _, x := range source {
		b = tokensByRule(entryByRule(b, x), diffByRule(old[x.Name], x.Data, block))
	}
	return sealed(b)
}

// trees are pairs of trees: what is to be, and what is there.
func trees() [][2][]api.File {
	_, base, data := oldAndNew()
	whole := mixed(api.MaxData)
	same := bytes.Repeat([]byte{7}, api.MaxData)
	full := files(api.MaxFiles)
	for i := range full {
		full[i].Data = mixed(i * 42)
	}
	full[7].Data = whole
	return [][2][]api.File{
		{nil, nil},
		{{}, {}},
		{{file("a", "hi")}, nil},
		{nil, {file("a", "hi")}},
		{{file("a", "")}, {file("a", "")}},
		{{file("a", "")}, {file("a", "hi")}},
		{{file("a", "hi")}, {file("a", "")}},
		{{file("a", "hi")}, {file("a", "hi")}},
		{{file("b", "abcd")}, {file("a", "abcd"), file("c", "abcd")}},
		{{file("a", "abcd"), file("c", "abcd")}, {file("b", "abcd")}},
		{{file("b", "xabcdab"), file("c", "")}, {file("a", "ab"), file("b", "abcd")}},
		{{file("a", "abab"), file("b", "bbaa"), file("c", "aabb")}, {file("a", "aabb"), file("b", "abab"), file("c", "bbaa")}},
		{{{Name: "x", Data: data}}, {{Name: "x", Data: base}}},
		{{{Name: "x", Data: base}, {Name: "y", Data: data}}, {{Name: "x", Data: data}, {Name: "y", Data: base}}},
		{{{Name: "x", Data: whole}}, {{Name: "x", Data: whole}}},
		{{{Name: "x", Data: same}}, {{Name: "x", Data: same}}},
		{{{Name: "x", Data: whole}}, nil},
		{full, files(api.MaxFiles)},
		{files(api.MaxFiles), full},
		{full, full},
		{{file(".", "."), file("/", "/"), file("0", "0"), file("9", "9"), file("a", "a"), file("abcdefghijkl", "m"), file("z", "z"), file("z/.0a9", "")}, {file("a/b.c", "d"), file("abcdefghijkl", "mm")}},
	}
}

func TestP7Example(t *testing.T) {
	want := "42415404" + "00" + "01" + "0161" + "0002" + hex.EncodeToString(binary.BigEndian.AppendUint64(nil, digestByRule([]byte("hi")))) + "0001" + "00026869"
	b, err := mirror.Record([]api.File{file("a", "hi")}, nil, 4)
	if err != nil || len(b) < 8 || hex.EncodeToString(b[:len(b)-8]) != want {
		t.Fatalf("Record = %x, %v, want %s and a digest", b, err, want)
	}
	if binary.BigEndian.Uint64(b[len(b)-8:]) != digestByRule(b[:len(b)-8]) {
		t.Errorf("Record = %x: the last eight bytes are not the digest of those ahead", b)
	}
}

func TestP7P8Bytes(t *testing.T) {
	long := bytes.Repeat([]byte("k"), 299)
	for _, c := range []struct {
		about             string
		source, reference []api.File
		block             int
		want              []byte
	}{
		{"no files", nil, nil, 1, []byte("BAT\x01\x00\x00")},
		{"the greatest block", nil, nil, 64, []byte("BAT\x40\x00\x00")},
		{"the reference alone has files", nil, []api.File{file("a", "hi"), file("bc", "")}, 64,
			append(entryByRule(entryByRule([]byte("BAT\x40\x02"), file("a", "hi")), file("bc", "")), 0)},
		{"a source file that the reference has not", []api.File{file("b", "hi")}, []api.File{file("a", "hi")}, 2,
			append(entryByRule(append(entryByRule([]byte("BAT\x02\x01"), file("a", "hi")), 1), file("b", "hi")), "\x00\x01\x00\x02hi"...)},
		{"blocks and bytes", []api.File{file("b", "xabcdab")}, []api.File{file("b", "abcd")}, 2,
			append(entryByRule(append(entryByRule([]byte("BAT\x02\x01"), file("b", "abcd")), 1), file("b", "xabcdab")), "\x00\x03\x00\x01x\x01\x00\x00\x02\x01\x00\x00\x01"...)},
		{"a file with no bytes has no tokens", []api.File{file("b", "")}, []api.File{file("b", "abcd")}, 2,
			append(entryByRule(append(entryByRule([]byte("BAT\x02\x01"), file("b", "abcd")), 1), file("b", "")), 0, 0)},
		{"a block's number of two bytes", []api.File{file("b", "z")}, []api.File{{Name: "b", Data: append(bytes.Clone(long), 'z')}}, 1,
			append(entryByRule(append(entryByRule([]byte("BAT\x01\x01"), api.File{Name: "b", Data: append(bytes.Clone(long), 'z')}), 1), file("b", "z")), "\x00\x01\x01\x01\x2b\x01"...)},
		{"more bytes than a token holds", []api.File{{Name: "b", Data: long}}, nil, 1,
			append(append(append(entryByRule([]byte("BAT\x01\x00\x01"), api.File{Name: "b", Data: long}), "\x00\x02\x00\xff"...), long[:255]...), append([]byte{0, 44}, long[:44]...)...)},
	} {
		b, err := mirror.Record(c.source, c.reference, c.block)
		if err != nil || !bytes.Equal(b, sealed(c.want)) {
			t.Errorf("%s: Record = %q, %v, want %q", c.about, b, err, sealed(c.want))
		}
	}
}

func TestP8ByRule(t *testing.T) {
	for i, pair := range trees() {
		for block := 1; block <= api.MaxBlock; block++ {
			want := recordByRule(pair[0], pair[1], block)
			b, err := mirror.Record(pair[0], pair[1], block)
			if err != nil || !bytes.Equal(b, want) {
				t.Fatalf("trees %d by %d: Record = %x, %v, want %x", i, block, b, err, want)
			}
		}
	}
}

// checkTree asks for a batch of a list as source and as reference, and for a mirror with it: ErrTree of that name in all of them, or no error.
func checkTree(t *testing.T, about string, list []api.File, is bool, name string) {
	t.Helper()
	checkNew(t, about, list, is, name)
	for _, pair := range [][2][]api.File{{list, nil}, {nil, list}, {list, list}, {list, files(2)}, {files(2), list}} {
		b, err := mirror.Record(pair[0], pair[1], 4)
		if is {
			if err != nil || b == nil {
				t.Errorf("%s: Record = %x, %v, want a batch", about, b, err)
			}
			continue
		}
		checkTreeError(t, about, b, err, name)
	}
}

// checkTreeError asks an error for all that it must tell, and that there is no batch beside it.
func checkTreeError(t *testing.T, about string, b []byte, err error, name string) {
	t.Helper()
	var e *api.FileError
	if b != nil || !errors.As(err, &e) || err != error(e) || e.Name != name || e.Kind != api.ErrTree || !errors.Is(err, api.ErrTree) {
		t.Errorf("%s: Record = %x, %#v, want nil, ErrTree of %q", about, b, err, name)
	}
}

func TestP8Names(t *testing.T) {
	for _, name := range []string{"a", "z", "0", "9", ".", "/", "..", "//", "a/b.c", "abcdefghijkl", "............", "012345678901", "/a", "a/"} {
		checkTree(t, "a name", []api.File{file(name, "x")}, true, "")
	}
	for _, name := range []string{
		"", "abcdefghijklm", ".............", strings.Repeat("a", 256), strings.Repeat("a", 257), strings.Repeat("a", 1<<16+1),
		"A", "Z", "é", "ﬁ", "٣", "abcdefghijké", "a b", "a_b", "a-b", "a\\b", "a\x00", "\x00", " ", "\n", "\xff", "\xe9", "aB", "Ba", "a:", "a*c",
	} {
		checkTree(t, fmt.Sprintf("%q is no name", name), []api.File{file(name, "x")}, false, name)
	}
}

// Each byte is tried by itself, at each place of a name.
func TestP8Signs(t *testing.T) {
	const signs = "abcdefghijklmnopqrstuvwxyz0123456789./"
	for x := range 256 {
		for at := range 3 {
			name := []byte("abc")
			name[at] = byte(x)
			checkTree(t, fmt.Sprintf("name %q", name), []api.File{file(string(name), "")}, strings.IndexByte(signs, byte(x)) >= 0, string(name))
		}
	}
}

func TestP8RisingNames(t *testing.T) {
	for _, names := range []string{"a b c", ". / 0 9 a z", "a aa ab b", "a a. a/ a0 aa", "a/b a/c b/a", "0 00 000", "9 a", "a b/a c"} {
		var list []api.File
		for _, name := range strings.Fields(names) {
			list = append(list, file(name, "x"))
		}
		checkTree(t, names, list, true, "")
	}
	for _, c := range []struct{ names, name string }{
		{"a a", "a"}, {"b a", "a"}, {"a b b", "b"}, {"a b a", "a"}, {"a c b", "b"}, {"aa a", "a"}, {"ab aa", "aa"}, {"a 9", "9"},
		{"a .", "."}, {"0 /", "/"}, {"/ .", "."}, {"10 1a 100", "100"}, {"b a c", "a"}, {"c b a", "b"}, {"a b c d e f g g", "g"},
	} {
		var list []api.File
		for _, name := range strings.Fields(c.names) {
			list = append(list, file(name, "x"))
		}
		checkTree(t, c.names, list, false, c.name)
	}
}

func TestP8MuchData(t *testing.T) {
	for _, n := range []int{0, 1, 255, 256, api.MaxData - 1, api.MaxData} {
		checkTree(t, fmt.Sprint(n, " bytes"), []api.File{{Name: "a"}, {Name: "b", Data: mixed(n)}}, true, "")
	}
	for _, n := range []int{api.MaxData + 1, 512, 65536, 65536 + 5, 1 << 20} {
		checkTree(t, fmt.Sprint(n, " bytes"), []api.File{{Name: "a"}, {Name: "b", Data: make([]byte, n)}}, false, "b")
	}
}

func TestP8ManyFiles(t *testing.T) {
	for n := range api.MaxFiles + 1 {
		checkTree(t, fmt.Sprint(n, " files"), files(n), true, "")
	}
	for _, n := range []int{api.MaxFiles + 1, api.MaxFiles + 2, 256, 257} {
		checkTree(t, fmt.Sprint(n, " files"), files(n), false, "f08")
	}
}

// The first file that is wrong is told, whatever is wrong with it and with those behind it.
func TestP8FirstWrongFile(t *testing.T) {
	much := string(mixed(api.MaxData + 1))
	for _, c := range []struct {
		about string
		list  []api.File
		name  string
	}{
		{"a wrong name, then one twice", []api.File{file("a", ""), file("B", ""), file("a", "")}, "B"},
		{"one twice, then a wrong name", []api.File{file("a", ""), file("a", ""), file("B", "")}, "a"},
		{"too much data, then a wrong name", []api.File{file("a", much), file("B", "")}, "a"},
		{"a wrong name, then too much data", []api.File{file("B", ""), file("c", much)}, "B"},
		{"one that does not rise, then too much data", []api.File{file("b", ""), file("a", ""), file("c", much)}, "a"},
		{"too much data, then one that does not rise", []api.File{file("b", much), file("a", "")}, "b"},
		{"all at one file", []api.File{file("b", ""), file("A", much)}, "A"},
		{"a wrong name ahead of too many", append([]api.File{file("", "")}, files(9)...), ""},
		{"too much data ahead of too many", append([]api.File{file("a", much)}, files(9)...), "a"},
		{"too many, and the next name is wrong", append(files(9), file("", "")), "f08"},
		{"too many, with a wrong name itself", append(files(8), file("G", "")), "G"},
		{"too many, that does not rise", append(files(8), file("a", "")), "a"},
		{"too many, with too much data", append(files(8), file("g", much)), "g"},
		{"the eighth is wrong", append(files(7), file("a", ""), file("g", "")), "a"},
	} {
		checkTree(t, c.about, c.list, false, c.name)
	}
}

// P1: ErrBlock comes first, source ahead of reference.
func TestP1P8WhichErrorFirst(t *testing.T) {
	one, other := []api.File{file("X", "")}, []api.File{file("Y", "")}
	b, err := mirror.Record(one, other, 4)
	checkTreeError(t, "both are no trees", b, err, "X")
	b, err = mirror.Record(files(9), one, 4)
	checkTreeError(t, "the source's last file, the reference's first", b, err, "f08")
	b, err = mirror.Record(files(8), one, 4)
	checkTreeError(t, "the reference alone", b, err, "X")
	for _, block := range []int{0, -1, api.MaxBlock + 1, 255, 256, 257, 256 + 4, math.MaxInt, math.MinInt} {
		for _, pair := range [][2][]api.File{{nil, nil}, {files(2), files(2)}, {one, nil}, {nil, one}, {one, other}, {files(9), files(9)}} {
			if b, err := mirror.Record(pair[0], pair[1], block); b != nil || err != error(api.ErrBlock) {
				t.Errorf("Record by %d = %x, %#v, want nil, ErrBlock", block, b, err)
			}
		}
	}
	for _, block := range []int{1, api.MaxBlock} {
		if b, err := mirror.Record(files(2), files(2), block); b == nil || err != nil {
			t.Errorf("Record by %d = %x, %v", block, b, err)
		}
	}
}

func TestP8AskedFromOutside(t *testing.T) {
	if b, kind, name := plain.Record([]api.File{file("a", "hi")}, nil, 4); kind != 0 || name != "" || !bytes.Equal(b, recordByRule([]api.File{file("a", "hi")}, nil, 4)) {
		t.Errorf("plain.Record = %x, %d, %q", b, kind, name)
	}
	if b, kind, name := plain.Record([]api.File{file("a", "hi"), file("a b", "")}, nil, 4); b != nil || kind != api.ErrTree || name != "a b" {
		t.Errorf("plain.Record = %x, %d, %q, want ErrTree of \"a b\"", b, kind, name)
	}
	if b, kind, name := plain.Record(nil, nil, 0); b != nil || kind != api.ErrBlock || name != "" {
		t.Errorf("plain.Record = %x, %d, %q, want ErrBlock", b, kind, name)
	}
}
