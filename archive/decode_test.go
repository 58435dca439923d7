package archive_test

import (
	"bytes"
	"encoding/binary"
	"fmt"
	"maps"
	"slices"
	"strings"
	"testing"

	"stillroom/api"
	"stillroom/archive"
	"stillroom/tree"
)

// samples tells nodes whose archives have together all that an archive may have.
func samples() map[string]api.Node {
	return map[string]api.Node{
		"empty Dir": dir(), "File": file("hi"), "File without bytes": file(""), "Exec": script("12345678"), "Exec without bytes": script(""),
		"Link": link("a"), "rich": rich(), "deep": under(5, script("x")),
	}
}

// starts tells where each of these strings begins.
func starts(l []string) []int {
	at := make([]int, len(l))
	for i := range l {
		at[i] = len(join(l[:i]))
	}
	return at
}

// with tells bytes with other ones from a place on.
func with(b []byte, at int, other ...byte) []byte {
	return slices.Concat(b[:at], other, b[at+len(other):])
}

// P7.2, P7.4: what is right.

// turns asks that Decode of Encode is the node, and Encode of Decode the bytes.
func turns(t *testing.T, what string, n api.Node) {
	t.Helper()
	b := encoded(t, n)
	reads(t, what, b, n)
	back, _ := archive.Decode(b)
	if again := encoded(t, back); !bytes.Equal(again, b) {
		t.Errorf("Encode of Decode of %s: %d bytes, want %d", what, len(again), len(b))
	}
}

func TestDecodeOfEncode(t *testing.T) {
	for what, n := range samples() {
		turns(t, what, n)
	}
	for _, size := range []int{0, 1, 7, 8, 9, 15, 16, 17, 255, 256, 257, 1024, 1025, api.MaxFile - 1, api.MaxFile} {
		turns(t, fmt.Sprintf("File of %d", size), fileOf(size))
		turns(t, fmt.Sprintf("Exec of %d", size), api.Node{Kind: api.File, Exec: true, Data: fileOf(size).Data})
		turns(t, fmt.Sprintf("zeros of %d", size), api.Node{Kind: api.File, Data: make([]byte, size)})
	}
	for _, size := range []int{1, 7, 8, 9, 1023, 1024} {
		turns(t, fmt.Sprintf("Link of %d", size), api.Node{Kind: api.Link, Data: fileOf(size).Data})
	}
	for size := 1; size <= api.MaxName; size++ {
		turns(t, fmt.Sprintf("name of %d", size), dir(entry{strings.Repeat("n", size), file("x")}))
	}
	turns(t, "MaxNodes", wide(api.MaxNodes))
	for _, last := range []api.Node{file("x"), script(""), link("x"), dir()} {
		turns(t, "MaxDepth", under(api.MaxDepth, last))
	}
	turns(t, "MaxDepth twice", dir(entry{"a", under(api.MaxDepth-1, dir())}, entry{"b", under(api.MaxDepth-1, dir())}))
	turns(t, "the longest entries", longEntries(api.MaxFile/63))
}

func TestDecodeOfEncodeOfManyNodes(t *testing.T) {
	x := noise(3)
	for range 2000 {
		n := x.node(5)
		turns(t, short(n), n)
	}
}

// Names and bytes may be the words of archives.
func TestDecodeOfWordsAsTexts(t *testing.T) {
	n := dir()
	for _, word := range []string{"(", ")", "contents", "directory", "entry", "executable", "name", "node", "regular", "still-archive-1", "symlink", "target", "type"} {
		n.Names = append(n.Names, word)
		n.Nodes = append(n.Nodes, dir(entry{word, link(word)}, entry{word + "x", script(word)}))
	}
	turns(t, "words", n)
	turns(t, "an archive of an archive", file(string(encoded(t, rich()))))
}

// How many bytes.

// sized tells a node whose archive has so many bytes, a multiple of 8.
func sized(t *testing.T, total int) api.Node {
	t.Helper()
	n := dir()
	for i := 0; ; i++ {
		n.Names, n.Nodes = append(n.Names, fmt.Sprintf("%02d", i)), append(n.Nodes, file(""))
		left := total - len(plainEncode(n))
		n.Nodes[i] = fileOf(min(left, api.MaxFile))
		if left <= api.MaxFile {
			if size := len(plainEncode(n)); size != total {
				t.Fatalf("%d bytes, want %d", size, total)
			}
			return n
		}
	}
}

func TestDecodeOfTheMostBytes(t *testing.T) {
	turns(t, "one step less than the most", sized(t, most-8))
	turns(t, "the most", sized(t, most))
	fails(t, "one step more", encoded(t, sized(t, most+8)), api.ErrBig)
	whole := encoded(t, sized(t, most))
	fails(t, "the most, and a byte", append(whole[:most:most], 0), api.ErrBig)
	for _, size := range []int{most + 1, most + 8, 2 * most} {
		fails(t, fmt.Sprintf("%d zeros", size), make([]byte, size), api.ErrBig)
		fails(t, fmt.Sprintf("%d bytes 255", size), bytes.Repeat([]byte{255}, size), api.ErrBig)
		long := make([]byte, size)
		copy(long, encoded(t, dir()))
		fails(t, fmt.Sprintf("an archive and zeros, %d in all", size), long, api.ErrBig)
	}
	fails(t, "the most zeros", make([]byte, most), api.ErrForm)
	fails(t, "the most bytes 255", bytes.Repeat([]byte{255}, most), api.ErrForm)
	fails(t, "a wrong word, as many as the most", append(str("x"), make([]byte, most-16)...), api.ErrForm)
}

// Bytes that end too soon.

func TestDecodeOfNoBytes(t *testing.T) {
	fails(t, "nil", nil, api.ErrEnd)
	fails(t, "none", []byte{}, api.ErrEnd)
	for size := 1; size < 8; size++ {
		fails(t, fmt.Sprintf("%d zeros", size), make([]byte, size), api.ErrEnd)
		fails(t, fmt.Sprintf("%d bytes 255", size), bytes.Repeat([]byte{255}, size), api.ErrEnd)
	}
	fails(t, "8 zeros", make([]byte, 8), api.ErrForm)
}

// endsIn tells what is wrong with bytes that end too soon within this string,
// which begins at a place: its length, once it is read, may be above all bytes.
func endsIn(s string, at, size int) api.Errno {
	if size-at >= 8 && len(s) > size {
		return api.ErrForm
	}
	return api.ErrEnd
}

func TestDecodeOfBytesThatEndAnywhere(t *testing.T) {
	nodes := samples()
	nodes["File of 2000"] = fileOf(2000)
	for what, n := range nodes {
		l := stringsOf(n)
		b := join(l)
		at := append(starts(l), len(b))
		i, told := 0, map[api.Errno]int{}
		for size := range len(b) {
			if size >= at[i+1] {
				i++
			}
			want := endsIn(l[i], at[i], size)
			told[want]++
			// The rest stands in the spare room, and is not read.
			fails(t, fmt.Sprintf("%s, ends at %d of %d", what, size, len(b)), b[:size], want)
			fails(t, fmt.Sprintf("%s, cut at %d of %d", what, size, len(b)), slices.Clip(bytes.Clone(b[:size])), want)
		}
		// Behind the first string, of 15 bytes, none but that file's bytes is
		// longer than all that is ahead of it.
		if above := told[api.ErrForm]; above != 15-8 && what != "File of 2000" {
			t.Errorf("%s: %d times a length above all bytes", what, above)
		}
	}
}

// Lengths.

func TestDecodeOfLengths(t *testing.T) {
	for what, n := range samples() {
		l := stringsOf(n)
		b := join(l)
		all := uint64(len(b))
		for i, at := range starts(l) {
			size := uint64(len(l[i]))
			for _, length := range []uint64{all + 1, all + 7, all + 8, most + 1, 1<<31 + size, 1<<32 + size, 1<<40 + size, 1<<56 + size,
				1<<63 - 1, 1 << 63, 1<<63 + size, 1<<63 + 8, 1<<64 - 1, 1<<64 - 7, 1<<64 - 8, 1<<64 - 9, -all, -uint64(at + 8), -uint64(at + 16)} {
				if length <= all {
					t.Fatalf("%d is not above %d", length, all)
				}
				wrong := with(b, at, binary.BigEndian.AppendUint64(nil, length)...)
				fails(t, fmt.Sprintf("%s, string %d has the length %d", what, i, length), wrong, api.ErrForm)
			}
			left := all - uint64(at) - 8
			for _, length := range []uint64{left + 1, left + 8, all - 1, all} {
				if length > all || length <= left {
					continue
				}
				wrong := with(b, at, binary.BigEndian.AppendUint64(nil, length)...)
				fails(t, fmt.Sprintf("%s, string %d has the length %d of %d", what, i, length, all), wrong, api.ErrEnd)
			}
		}
	}
}

// All bytes, not just those that are left, are what a length is held against.
func TestDecodeOfLengthsAndNothingElse(t *testing.T) {
	for all := range 40 {
		for length := range 60 {
			b := make([]byte, 8+all)
			b[7] = byte(length)
			want := api.ErrForm // a string that may not stand there, or too long
			if length > all && length <= len(b) || (length+7)/8*8 > all && length <= all {
				want = api.ErrEnd
			}
			fails(t, fmt.Sprintf("length %d, then %d zeros", length, all), b, want)
		}
	}
}

// What fills up.

func TestDecodeOfFill(t *testing.T) {
	for what, n := range samples() {
		l := stringsOf(n)
		b := join(l)
		for i, at := range starts(l) {
			fill := at + 8 + len(l[i])
			for ; fill%8 != 0; fill++ {
				for _, c := range []byte{1, ' ', 0x80, 255} {
					wrong := with(b, fill, c)
					fails(t, fmt.Sprintf("%s, string %d has %d at byte %d", what, i, c, fill), wrong, api.ErrForm)
					fails(t, "the same, cut behind it", wrong[:(fill+8)/8*8], api.ErrForm)
					fails(t, "the same, left over behind all", append(slices.Clip(wrong), 0), api.ErrForm)
				}
			}
		}
	}
}

// A string that is not whole is not held against what may stand there, nor is
// what fills it up looked at: the end is named first.
func TestDecodeOfWrongStringsThatEnd(t *testing.T) {
	for what, n := range samples() {
		l := stringsOf(n)
		for i := range l {
			for _, s := range []string{"x", "wrong", "very wrong"} {
				at := len(join(l[:i]))
				wrong := append(join(l[:i]), str(s)...)
				for size := at; size < len(wrong); size++ {
					fails(t, fmt.Sprintf("%s, string %d is %q, cut at %d", what, i, s, size), wrong[:size], endsIn(s, at, size))
				}
			}
		}
	}
	b := str("still-archive-1\x00\x00")
	fails(t, "a fill of 1, then 0, cut", with(b, 25, 1)[:len(b)-1], api.ErrEnd)
	fails(t, "a fill of 1, cut", with(b, 25, 1)[:26], api.ErrEnd)
}

// Strings that may not stand there.

// wrongs tells strings that may stand nowhere but as a name or bytes.
func wrongs() []string {
	return []string{"x", "\x00", "((", "( ", "()", "Type", "typ", "types", "type\x00", "type\x00\x00\x00\x00", "regular ", "regula", "file", "exec", "executable\x00",
		"content", "contents\x00", "sym", "symlinks", "link", "targets", "dir", "directory\x00", "directories", "entries", "entr", "names", "nam", "nodes", "nod",
		"still-archive-0", "still-archive-2", "still-archive-1\x00", "still-archive-", "Still-archive-1", strings.Repeat("(", 8), strings.Repeat("x", 100)}
}

// words tells the words of archives, and the empty string.
func words() []string {
	return []string{"still-archive-1", "(", ")", "type", "regular", "executable", "", "contents", "symlink", "target", "directory", "entry", "name", "node"}
}

func TestDecodeOfStringsThatMayNotStandThere(t *testing.T) {
	for what, n := range samples() {
		l := stringsOf(n)
		texts := free(l)
		for i := range l {
			for _, s := range append(wrongs(), words()...) {
				other := slices.Concat(l[:i], []string{s}, l[i+1:])
				b := join(other)
				agrees(t, fmt.Sprintf("%s, string %d is %q", what, i, s), b)
				if texts[i] || slices.Contains(words(), s) {
					continue
				}
				told := fmt.Sprintf("%s, string %d is %q, not %q", what, i, s, l[i])
				fails(t, told, b, api.ErrForm)
				fails(t, told+", and nothing behind it", join(other[:i+1]), api.ErrForm)
				fails(t, told+", and a piece of a string", append(join(other[:i+1]), 1, 2, 3), api.ErrForm)
				fails(t, told+", and a length above all", append(join(other[:i+1]), bytes.Repeat([]byte{255}, 9)...), api.ErrForm)
			}
		}
	}
}

// Each place of a node, with what alone may stand there.
func TestDecodeOfWordsInOtherPlaces(t *testing.T) {
	const dirHead = "( type directory "
	for _, c := range []struct {
		ahead, may string
	}{
		{"", "still-archive-1"},
		{"still-archive-1", "("},
		{"still-archive-1 (", "type"},
		{"still-archive-1 ( type", "regular symlink directory"},
		{"still-archive-1 ( type regular", "executable contents"},
		{"still-archive-1 ( type regular executable", "-"},
		{"still-archive-1 ( type regular executable -", "contents"},
		{"still-archive-1 ( type regular executable - contents data", ")"},
		{"still-archive-1 ( type regular contents data", ")"},
		{"still-archive-1 ( type symlink", "target"},
		{"still-archive-1 ( type symlink target data", ")"},
		{"still-archive-1 " + dirHead, "entry )"},
		{"still-archive-1 " + dirHead + "entry", "("},
		{"still-archive-1 " + dirHead + "entry (", "name"},
		{"still-archive-1 " + dirHead + "entry ( name a", "node"},
		{"still-archive-1 " + dirHead + "entry ( name a node", "("},
		{"still-archive-1 " + dirHead + "entry ( name a node (", "type"},
		{"still-archive-1 " + dirHead + "entry ( name a node ( type symlink target b", ")"},
		{"still-archive-1 " + dirHead + "entry ( name a node ( type symlink target b )", ")"},
		{"still-archive-1 " + dirHead + "entry ( name a node ( type symlink target b ) )", "entry )"},
		{"still-archive-1 " + dirHead + "entry ( name a node " + dirHead, "entry )"},
		{"still-archive-1 " + dirHead + "entry ( name a node " + dirHead + ")", ")"},
		{"still-archive-1 " + dirHead + "entry ( name a node " + dirHead + ") )", "entry )"},
		{"still-archive-1 " + dirHead + ")", ""},
		{"still-archive-1 ( type symlink target a )", ""},
	} {
		placed(t, spelt(c.ahead), spelt(c.may))
	}
}

// spelt tells strings with blanks between; - is the empty one.
func spelt(s string) []string {
	l := strings.Fields(s)
	for i := range l {
		l[i] = strings.TrimPrefix(l[i], "-")
	}
	return l
}

// placed asks that of all words just these may stand behind some strings.
func placed(t *testing.T, ahead, may []string) {
	t.Helper()
	for _, word := range words() {
		b := append(join(ahead), str(word)...)
		_, e := archive.Decode(b)
		if stands := e == api.OK || e == api.ErrEnd; stands != slices.Contains(may, word) {
			t.Errorf("behind %q %q: %v, may stand there: %q", ahead, word, e, may)
		}
		if e != api.OK && e != api.ErrEnd && e != api.ErrForm {
			t.Errorf("behind %q %q: %v", ahead, word, e)
		}
	}
}

// Bytes that are left over.

func TestDecodeOfBytesLeftOver(t *testing.T) {
	for what, n := range samples() {
		b := encoded(t, n)
		for _, more := range [][]byte{{0}, {1}, {255}, make([]byte, 7), make([]byte, 8), make([]byte, 9), make([]byte, 64), bytes.Repeat([]byte{255}, 8), str("x"), str(")"), str("("), str(""), b, b[24:]} {
			fails(t, fmt.Sprintf("%s, and %x", what, more), slices.Concat(b, more), api.ErrForm)
		}
		// What lies in the spare room is not left over.
		reads(t, what, append(bytes.Clone(b), 1, 2, 3)[:len(b)], n)
	}
}

// Levels.

// begun tells the strings ahead of a node that has so many nodes above it.
func begun(above int) []string {
	l := []string{"still-archive-1"}
	for range above {
		l = append(l, "(", "type", "directory", "entry", "(", "name", "d", "node")
	}
	return l
}

func TestDecodeOfLevels(t *testing.T) {
	for _, last := range []api.Node{file("x"), script("x"), link("x"), dir()} {
		reads(t, "MaxDepth", plainEncode(under(api.MaxDepth, last)), under(api.MaxDepth, last))
		for _, levels := range []int{api.MaxDepth + 1, api.MaxDepth + 2, 2 * api.MaxDepth, 256, 257, 1000} {
			fails(t, fmt.Sprintf("%d levels", levels), plainEncode(under(levels, last)), api.ErrBig)
			beside := dir(entry{"a", file("x")}, entry{"b", under(levels-1, last)}, entry{"c", dir()})
			fails(t, fmt.Sprintf("%d levels in the second entry", levels), plainEncode(beside), api.ErrBig)
		}
	}
}

// A node is begun by its first string.
func TestDecodeOfLevelsThatAreBegun(t *testing.T) {
	open := append(begun(api.MaxDepth), "(")
	fails(t, "begun too deep, then nothing", join(open), api.ErrBig)
	for _, more := range [][]byte{{1}, make([]byte, 8), bytes.Repeat([]byte{255}, 8), str("type"), str("x"), str(")")} {
		fails(t, fmt.Sprintf("begun too deep, then %x", more), append(join(open), more...), api.ErrBig)
	}
	for size := len(join(open[:len(open)-1])); size < len(join(open)); size++ {
		fails(t, "not yet begun", join(open)[:size], api.ErrEnd)
	}
	fails(t, "something else is begun", join(append(begun(api.MaxDepth), "x")), api.ErrForm)
	fails(t, "begun at the last level", join(append(begun(api.MaxDepth-1), "(")), api.ErrEnd)
	fails(t, "begun at the last level, then a wrong string", join(append(begun(api.MaxDepth-1), "(", "x")), api.ErrForm)
	for _, above := range []int{api.MaxDepth + 1, 100, 1000} {
		fails(t, fmt.Sprintf("%d begun above", above), join(begun(above)), api.ErrBig)
	}
	deepest := join(begun(most / len(join(begun(1)[1:])))[1:])
	fails(t, "as deep as there is room", append(str("still-archive-1"), deepest[:most-24]...), api.ErrBig)
	// What is wrong ahead of it is told first.
	fails(t, "a wrong string ahead", join(slices.Concat(begun(5), []string{"x"}, open[6:])), api.ErrForm)
	fails(t, "a wrong fill ahead", with(join(open), 23, 1), api.ErrForm)
}

// Archives whose form is right, but whose node may not be.

func TestDecodeOfNodesThatMayNotBe(t *testing.T) {
	x := file("x")
	manyNames := longEntries(505)
	for what, c := range map[string]struct {
		node api.Node
		want api.Errno
	}{
		"names out of order":        {dir(entry{"b", x}, entry{"a", x}), api.ErrName},
		"a beginning behind":        {dir(entry{"aa", x}, entry{"a", x}), api.ErrName},
		"the last out of order":     {dir(entry{"a", x}, entry{"c", x}, entry{"b", x}), api.ErrName},
		"one name twice":            {dir(entry{"a", x}, entry{"a", x}), api.ErrName},
		"the empty name":            {dir(entry{"", x}), api.ErrName},
		"the name .":                {dir(entry{".", x}), api.ErrName},
		"the name ..":               {dir(entry{"..", x}), api.ErrName},
		"a name with /":             {dir(entry{"a/b", x}), api.ErrName},
		"a name with a blank":       {dir(entry{"a b", x}), api.ErrName},
		"a name with a byte 0":      {dir(entry{"a\x00", x}), api.ErrName},
		"a name with a byte 127":    {dir(entry{"a\x7f", x}), api.ErrName},
		"a name with a byte 255":    {dir(entry{"a\xff", x}), api.ErrName},
		"a name of MaxName and one": {dir(entry{strings.Repeat("n", api.MaxName+1), x}), api.ErrName},
		"a very long name":          {dir(entry{strings.Repeat("n", api.MaxFile-3), x}), api.ErrName},
		"a longer one":              {dir(entry{strings.Repeat("n", api.MaxFile-2), x}), api.ErrBig},
		"a Link without bytes":      {link(""), api.ErrArg},
		"a Link of 1025":            {link(strings.Repeat("x", 1025)), api.ErrBig},
		"a Link of MaxFile":         {link(strings.Repeat("x", api.MaxFile)), api.ErrBig},
		"a File of one more":        {fileOf(api.MaxFile + 1), api.ErrBig},
		"an Exec of one more":       {script(strings.Repeat("x", api.MaxFile+1)), api.ErrBig},
		"a File of many more":       {fileOf(500000), api.ErrBig},
		"too many entries' bytes":   {manyNames, api.ErrBig},
		"too many nodes":            {wide(api.MaxNodes + 1), api.ErrBig},
		"far too many nodes":        {wide(5000), api.ErrBig},
		"too many nodes in two":     {dir(entry{"a", wide(512)}, entry{"b", wide(512)}), api.ErrBig},
		"argument ahead of bytes":   {dir(entry{"a", link("")}, entry{"b", fileOf(api.MaxFile + 1)}), api.ErrArg},
		"bytes ahead of argument":   {dir(entry{"a", fileOf(api.MaxFile + 1)}, entry{"b", link("")}), api.ErrBig},
		"a Dir ahead of what is in": {dir(entry{"b", link("")}, entry{"a", x}), api.ErrName},
		"too many ahead of a name":  {dir(entry{"/", wide(api.MaxNodes)}), api.ErrBig},
	} {
		if e := tree.Right(c.node); e != c.want {
			t.Fatalf("Right(%s): %v, want %v", what, e, c.want)
		}
		b := plainEncode(c.node)
		fails(t, what, b, c.want)
		fails(t, "within a Dir: "+what, plainEncode(dir(entry{"a", x}, entry{"b", c.node})), c.want)
		// What is wrong with the form is told first, wherever it is.
		fails(t, what+", and a byte", append(slices.Clip(b), 0), api.ErrForm)
		fails(t, what+", without a byte", b[:len(b)-1], api.ErrEnd)
		fails(t, what+", a wrong end", append(b[:len(b)-16:len(b)-16], str("x")...), api.ErrForm)
	}
	big := dir(entry{"/", file("")}, entry{"a", under(api.MaxDepth, file(""))})
	fails(t, "too deep ahead of a name", plainEncode(big), api.ErrBig)
	fails(t, "too deep ahead of a byte left over", append(plainEncode(big), 0), api.ErrBig)
	fails(t, "too many bytes ahead of a name", append(plainEncode(dir(entry{"/", x})), make([]byte, most)...), api.ErrBig)
}

// Many archives that are spoilt, held against a plain reading of the chapter.

// agrees asks that Decode tells of bytes what a plain reading of the chapter
// tells, and that Encode tells the bytes again.
func agrees(t *testing.T, what string, b []byte) api.Errno {
	t.Helper()
	n, e := archive.Decode(b)
	want, wrong := plainDecode(b)
	if e != wrong || !same(n, want) {
		t.Fatalf("Decode(%s, %x): %s, %v, want %s, %v", what, b[:min(200, len(b))], short(n), e, short(want), wrong)
	}
	if e == api.OK {
		if again := encoded(t, n); !bytes.Equal(again, b) {
			t.Fatalf("Encode of Decode(%s, %x): %x", what, b[:min(200, len(b))], again[:min(200, len(again))])
		}
	}
	return e
}

// strings spoils a list of strings.
func (x *noise) strings(l []string) []string {
	if len(l) == 0 {
		return l
	}
	i, all := x.below(len(l)), append(wrongs(), words()...)
	switch x.below(6) {
	case 0: // another one
		return slices.Concat(l[:i], []string{all[x.below(len(all))]}, l[i+1:])
	case 1: // one more
		return slices.Concat(l[:i], []string{all[x.below(len(all))]}, l[i:])
	case 2: // a piece less
		return slices.Concat(l[:i], l[min(len(l), i+1+x.below(12)):])
	case 3: // a piece twice
		return slices.Concat(l[:i], l[max(0, i-x.below(12)):])
	case 4: // another name, or other bytes
		texts := slices.Sorted(maps.Keys(free(l)))
		if len(texts) == 0 {
			return l
		}
		at := texts[x.below(len(texts))]
		return slices.Concat(l[:at], []string{[]string{"", ".", "zz", "!"}[x.below(4)]}, l[at+1:])
	}
	other := slices.Clone(l) // two in each other's places
	k := x.below(len(l))
	other[i], other[k] = l[k], l[i]
	return other
}

// spoilBytes spoils the bytes of an archive.
func (x *noise) spoilBytes(b []byte) []byte {
	if len(b) < 8 {
		return b
	}
	at := x.below(len(b))
	switch x.below(5) {
	case 0: // another byte
		return with(b, at, byte(x.next()))
	case 1: // a length a little off, or what else has this place
		at = at / 8 * 8
		return with(b, min(at+7, len(b)-1), byte(x.below(20)))
	case 2: // an end
		return b[:at]
	case 3: // more
		return slices.Concat(b, x.bytes(1+x.below(10)))
	}
	return slices.Concat(b[:at/8*8], b[min(len(b), at/8*8+8):]) // eight bytes less
}

func TestDecodeOfManySpoiltArchives(t *testing.T) {
	x := noise(5)
	told := map[api.Errno]int{}
	for range 20000 {
		n := x.node(4)
		if x.below(8) == 0 {
			n = under(api.MaxDepth-1+x.below(3), n)
		}
		l := stringsOf(n)
		for range x.below(3) {
			l = x.strings(l)
		}
		b := join(l)
		for range x.below(3) {
			b = x.spoilBytes(b)
		}
		told[agrees(t, "spoilt", b)]++
	}
	for _, e := range []api.Errno{api.OK, api.ErrEnd, api.ErrForm, api.ErrBig, api.ErrName, api.ErrArg} {
		if told[e] < 10 {
			t.Errorf("only %d of %v", told[e], e)
		}
	}
}

// What is handed in, and what is handed out.

// fillSpare lets the spare room of each list of a node have something in it.
func fillSpare(n api.Node) {
	for _, kid := range n.Nodes {
		fillSpare(kid)
	}
	for i := len(n.Data); i < cap(n.Data); i++ {
		n.Data[:cap(n.Data)][i] = 255
	}
	for i := len(n.Names); i < cap(n.Names); i++ {
		n.Names[:cap(n.Names)][i] = "spare"
	}
	for i := len(n.Nodes); i < cap(n.Nodes); i++ {
		n.Nodes[:cap(n.Nodes)][i] = link("spare")
	}
}

// spoilAll changes all that a node has.
func spoilAll(n api.Node) {
	for i := range n.Data {
		n.Data[i] ^= 255
	}
	for i := range n.Names {
		n.Names[i] += "?"
		spoilAll(n.Nodes[i])
		n.Nodes[i] = api.Node{}
	}
}

func TestDecodeIsOnMemoryOfItsOwn(t *testing.T) {
	for what, want := range samples() {
		b := encoded(t, want)
		held := bytes.Clone(b)
		n, _ := archive.Decode(b)
		again, _ := archive.Decode(b)
		fillSpare(n)
		if !same(n, want) || !bytes.Equal(b, held) {
			t.Errorf("%s: its lists share their spare room", what)
		}
		spoilAll(n)
		if !bytes.Equal(b, held) {
			t.Errorf("%s: a changed node has changed the bytes", what)
		}
		if !same(again, want) {
			t.Errorf("%s: a changed node has changed that of another call", what)
		}
		for i := range b {
			b[i] = 255
		}
		if !same(again, want) {
			t.Errorf("%s: changed bytes have changed the node", what)
		}
	}
}

func TestDecodeLeavesSpareRoom(t *testing.T) {
	whole := append(encoded(t, rich()), bytes.Repeat([]byte{7}, 100)...)
	held := bytes.Clone(whole)
	for size := 0; size <= len(whole); size += 7 {
		archive.Decode(whole[:size])
	}
	reads(t, "rich", whole[:len(whole)-100], rich())
	if !bytes.Equal(whole, held) {
		t.Error("the spare room has changed")
	}
}

// In what is told, what a kind does not have is its zero value.
func TestDecodeTellsZeroValues(t *testing.T) {
	var look func(n api.Node)
	look = func(n api.Node) {
		if n.Kind != api.Dir && (len(n.Names) > 0 || len(n.Nodes) > 0) || n.Kind == api.Dir && len(n.Data) > 0 || n.Kind != api.File && n.Exec {
			t.Errorf("%s has what it may not have", short(n))
		}
		for _, kid := range n.Nodes {
			look(kid)
		}
	}
	n, _ := archive.Decode(encoded(t, rich()))
	look(n)
}
