package archive_test

import (
	"bytes"
	"encoding/binary"
	"fmt"
	"slices"
	"strings"
	"testing"

	"stillroom/api"
	"stillroom/archive"
	"stillroom/tree"
)

// most is how many bytes an archive that is read may have.
const most = api.MaxText * 16

// noise tells numbers that are alike in every run.
type noise uint64

func (x *noise) next() uint64 {
	*x ^= *x << 13
	*x ^= *x >> 7
	*x ^= *x << 17
	return uint64(*x) >> 16
}

func (x *noise) below(n int) int { return int(x.next() % uint64(n)) }

func (x *noise) bytes(n int) []byte {
	b := make([]byte, n)
	for i := range b {
		b[i] = byte(x.next())
	}
	return b
}

// Nodes.

func file(s string) api.Node   { return api.Node{Kind: api.File, Data: []byte(s)} }
func script(s string) api.Node { return api.Node{Kind: api.File, Exec: true, Data: []byte(s)} }
func link(s string) api.Node   { return api.Node{Kind: api.Link, Data: []byte(s)} }

// fileOf tells a file of so many bytes.
func fileOf(size int) api.Node {
	x := noise(size + 1)
	return api.Node{Kind: api.File, Data: x.bytes(size)}
}

// entry is a name and its node.
type entry struct {
	name string
	node api.Node
}

// dir tells a directory with these entries, in this order.
func dir(entries ...entry) api.Node {
	n := api.Node{Kind: api.Dir}
	for _, e := range entries {
		n.Names, n.Nodes = append(n.Names, e.name), append(n.Nodes, e.node)
	}
	return n
}

// under tells a node with directories above it, so many levels in all.
func under(levels int, n api.Node) api.Node {
	for range levels - 1 {
		n = dir(entry{"d", n})
	}
	return n
}

// wide tells a directory of so many files, so many nodes with itself.
func wide(nodes int) api.Node {
	n := dir()
	for i := range nodes - 1 {
		n.Names, n.Nodes = append(n.Names, fmt.Sprintf("f%05d", i)), append(n.Nodes, file(""))
	}
	return n
}

// rich tells a node that has something of everything.
func rich() api.Node {
	return dir(
		entry{"bin", dir(entry{"run", script("#!run\x00\xff")}, entry{"walk", link("run")})},
		entry{"e", dir()},
		entry{"eight", file("12345678")},
		entry{"none", file("")},
		entry{strings.Repeat("z", api.MaxName), dir(entry{"x", dir(entry{"y", script("")})})},
	)
}

// same tells whether two nodes are the same; lists without an element are.
func same(a, b api.Node) bool {
	return a.Kind == b.Kind && a.Exec == b.Exec && bytes.Equal(a.Data, b.Data) &&
		slices.Equal(a.Names, b.Names) && slices.EqualFunc(a.Nodes, b.Nodes, same)
}

// clone tells a node on memory of its own.
func clone(n api.Node) api.Node {
	c := api.Node{Kind: n.Kind, Exec: n.Exec, Data: bytes.Clone(n.Data), Names: slices.Clone(n.Names)}
	for _, kid := range n.Nodes {
		c.Nodes = append(c.Nodes, clone(kid))
	}
	return c
}

// short tells of a node what a message has room for.
func short(n api.Node) string {
	return fmt.Sprintf("a node of kind %d, Exec %v, %d bytes, %d Names %.5q, %d Nodes", n.Kind, n.Exec, len(n.Data), len(n.Names), n.Names[:min(4, len(n.Names))], len(n.Nodes))
}

// node tells a node that may be, of at most so many levels.
func (x *noise) node(levels int) api.Node {
	sizes := []int{0, 1, 7, 8, 9, 15, 16, 17, 100}
	switch k := x.below(6); {
	case k == 0:
		return api.Node{Kind: api.Link, Data: x.bytes(1 + x.below(20))}
	case k < 3 || levels == 1:
		return api.Node{Kind: api.File, Exec: x.below(2) == 0, Data: x.bytes(sizes[x.below(len(sizes))])}
	}
	n := dir()
	for _, name := range []string{"(", ")", "entry", "name", "node", "sevenby", "type", "~"} {
		if x.below(3) == 0 {
			n.Names, n.Nodes = append(n.Names, name), append(n.Nodes, x.node(levels-1))
		}
	}
	return n
}

// A plain reading of the chapter: an archive as a list of its strings.

// str tells a string in an archive.
func str(s string) []byte {
	b := binary.BigEndian.AppendUint64(nil, uint64(len(s)))
	b = append(b, s...)
	for len(b)%8 != 0 {
		b = append(b, 0)
	}
	return b
}

// join tells strings behind one another.
func join(l []string) []byte {
	var b []byte
	for _, s := range l {
		b = append(b, str(s)...)
	}
	return b
}

// stringsOf tells the strings of a node's archive, also of one that may not be.
func stringsOf(n api.Node) []string {
	return append([]string{"still-archive-1"}, nodeStrings(n)...)
}

func nodeStrings(n api.Node) []string {
	l := []string{"(", "type"}
	if n.Kind == api.File {
		l = append(l, "regular")
	}
	if n.Exec {
		l = append(l, "executable", "")
	}
	if n.Kind == api.File {
		l = append(l, "contents", string(n.Data))
	}
	if n.Kind == api.Link {
		l = append(l, "symlink", "target", string(n.Data))
	}
	if n.Kind == api.Dir {
		l = append(l, "directory")
	}
	for i, name := range n.Names {
		l = append(l, "entry", "(", "name", name, "node")
		l = append(l, nodeStrings(n.Nodes[i])...)
		l = append(l, ")")
	}
	return append(l, ")")
}

// free tells which of the strings of a node's archive are names and bytes: all
// others are words of archives.
func free(l []string) map[int]bool {
	at := map[int]bool{}
	for i := 0; i < len(l)-1; i++ {
		if l[i] == "name" || l[i] == "contents" || l[i] == "target" {
			at[i+1] = true
			i++
		}
	}
	return at
}

// plainEncode tells a node's archive, also that of a node that may not be.
func plainEncode(n api.Node) []byte { return join(stringsOf(n)) }

// plainReader reads the strings that bytes begin with. What is wrong it panics with.
type plainReader struct {
	strings []string
	ends    []int     // where each string ends
	behind  api.Errno // what is wrong behind the last string
	at      int       // which string is next
}

func newPlainReader(b []byte) *plainReader {
	p := &plainReader{}
	for at := 0; ; {
		if len(b)-at < 8 {
			p.behind = api.ErrEnd
			return p
		}
		length := binary.BigEndian.Uint64(b[at:])
		if length > uint64(len(b)) {
			p.behind = api.ErrForm
			return p
		}
		text := at + 8
		fill := text + int(length)
		at = (fill + 7) / 8 * 8
		if at > len(b) {
			p.behind = api.ErrEnd
			return p
		}
		if strings.Trim(string(b[fill:at]), "\x00") != "" {
			p.behind = api.ErrForm
			return p
		}
		p.strings, p.ends = append(p.strings, string(b[text:fill])), append(p.ends, at)
	}
}

func (p *plainReader) any() string {
	if p.at == len(p.strings) {
		panic(p.behind)
	}
	p.at++
	return p.strings[p.at-1]
}

func (p *plainReader) must(words ...string) {
	for _, w := range words {
		if p.any() != w {
			panic(api.ErrForm)
		}
	}
}

func (p *plainReader) node(above int) (n api.Node) {
	p.must("(")
	if above == 32 {
		panic(api.ErrBig)
	}
	p.must("type")
	switch p.any() {
	case "regular":
		n.Kind = api.File
		word := p.any()
		if word == "executable" {
			n.Exec = true
			p.must("")
			word = p.any()
		}
		if word != "contents" {
			panic(api.ErrForm)
		}
		n.Data = []byte(p.any())
		p.must(")")
	case "symlink":
		n.Kind = api.Link
		p.must("target")
		n.Data = []byte(p.any())
		p.must(")")
	case "directory":
		n.Kind = api.Dir
		for word := p.any(); word != ")"; word = p.any() {
			if word != "entry" {
				panic(api.ErrForm)
			}
			p.must("(", "name")
			n.Names = append(n.Names, p.any())
			p.must("node")
			n.Nodes = append(n.Nodes, p.node(above+1))
			p.must(")")
		}
	default:
		panic(api.ErrForm)
	}
	return n
}

// plainDecode reads an archive.
func plainDecode(b []byte) (n api.Node, e api.Errno) {
	defer func() {
		if r := recover(); r != nil {
			n, e = api.Node{}, r.(api.Errno)
		}
	}()
	if len(b) > 1048576 {
		return api.Node{}, api.ErrBig
	}
	p := newPlainReader(b)
	p.must("still-archive-1")
	n = p.node(0)
	if p.ends[p.at-1] < len(b) {
		return api.Node{}, api.ErrForm
	}
	if e := tree.Right(n); e != api.OK {
		return api.Node{}, e
	}
	return n, api.OK
}

// Asking.

// encoded tells the archive of a node that may be.
func encoded(t *testing.T, n api.Node) []byte {
	t.Helper()
	b, e := archive.Encode(n)
	if e != api.OK {
		t.Fatalf("Encode(%s): %v", short(n), e)
	}
	return b
}

// reads asks that bytes are the archive of this node.
func reads(t *testing.T, what string, b []byte, want api.Node) {
	t.Helper()
	held := bytes.Clone(b)
	if n, e := archive.Decode(b); e != api.OK || !same(n, want) {
		t.Errorf("Decode(%s): %s, %v, want %s", what, short(n), e, short(want))
	}
	if !bytes.Equal(b, held) {
		t.Errorf("Decode(%s): the bytes have changed", what)
	}
}

// fails asks that Decode tells this error, and nothing else.
func fails(t *testing.T, what string, b []byte, want api.Errno) {
	t.Helper()
	held := bytes.Clone(b)
	if n, e := archive.Decode(b); e != want || !same(n, api.Node{}) {
		t.Errorf("Decode(%s): %s, %v, want %v", what, short(n), e, want)
	}
	if !bytes.Equal(b, held) {
		t.Errorf("Decode(%s): the bytes have changed", what)
	}
}
