package object_test

import (
	"bytes"
	"crypto/sha256"
	"encoding/base32"
	"encoding/binary"
	"fmt"
	"regexp"
	"slices"
	"strings"
	"testing"

	"stillroom/api"
	"stillroom/block"
	"stillroom/object"
	"stillroom/tree"
)

// signs are those that paths and digests' texts are made of, as the chapters say
// it.
const signs = "0123456789abcdfghijklmnpqrsvwxyz"

// Paths, rising.
var (
	pathA = pathOf("0123456789abcdfghijklmnpqrsvwxyz", "a")
	pathB = pathOf("0123456789abcdfghijklmnpqrsvwxyz", "b")
	pathC = pathOf("c0000000000000000000000000000000", "c-1.0")
	pathD = pathOf("z1111111111111111111111111111111", strings.Repeat("d", 27))
)

// pathOf tells the path of signs and a name.
func pathOf(signs, name string) string { return "/store/" + signs + "-" + name }

// pathAt tells a path by a number: they rise as the numbers do. The longest name
// there may be stands in it.
func pathAt(i int) string {
	return pathOf(fmt.Sprintf("%032d", i), strings.Repeat("n", 27))
}

// pathsTo tells the first paths by numbers, so many.
func pathsTo(n int) []string {
	var l []string
	for i := range n {
		l = append(l, pathAt(i))
	}
	return l
}

// lastName tells what stands behind /store/.
func lastName(p string) string { return strings.TrimPrefix(p, "/store/") }

// infoPath tells where a path's info lies.
func infoPath(p string) string { return "/db/" + lastName(p) }

// wrongPaths tells texts that are no paths.
func wrongPaths() []string {
	s := "0123456789abcdfghijklmnpqrsvwxyz"
	return []string{
		"", "/", "//", "/store", "/store/", "/db", "/db/", "/db/" + s + "-a", ".", "-", "x", "\x00",
		s, s + "-a", "/" + s + "-a", "store/" + s + "-a", "/Store/" + s + "-a", "//store/" + s + "-a", "/store//" + s + "-a", " " + pathA,
		"/store/" + s, "/store/" + s + "-", "/store/" + s + "a", "/store/" + s + "_a", "/store/" + s + "/a",
		pathA + "/bin", pathA + "/", pathA + "\n", pathA + " ", pathA + "\x00",
		pathOf(s, ".a"), pathOf(s, "a/b"), pathOf(s, "a b"), pathOf(s, "é"), pathOf(s, strings.Repeat("n", 28)),
		"/store/" + s[:31] + "-a", "/store/" + s + "0-a", "/store/" + strings.ToUpper(s) + "-a", "/store/e" + s[1:] + "-a",
	}
}

// noise tells numbers that are alike in every run.
type noise uint64

func (x *noise) next() uint64 {
	*x ^= *x << 13
	*x ^= *x >> 7
	*x ^= *x << 17
	return uint64(*x) >> 16
}

func (x *noise) below(n int) int { return int(x.next() % uint64(n)) }

// oneOf tells one of these.
func oneOf[T any](x *noise, l ...T) T { return l[x.below(len(l))] }

// Nodes.

func file(s string) api.Node   { return api.Node{Kind: api.File, Data: []byte(s)} }
func script(s string) api.Node { return api.Node{Kind: api.File, Exec: true, Data: []byte(s)} }
func link(s string) api.Node   { return api.Node{Kind: api.Link, Data: []byte(s)} }

// entry is a name and its node.
type entry struct {
	name string
	node api.Node
}

// dir tells a directory with these entries, in this order.
func dir(entries ...entry) api.Node {
	n := api.Node{Kind: api.Dir}
	for _, e := range entries {
		n.Names, n.Nodes = append(n.Names, e.name), append(n.Nodes, e.node)
	}
	return n
}

// under tells a node with directories above it, so many levels in all.
func under(levels int, n api.Node) api.Node {
	for range levels - 1 {
		n = dir(entry{"d", n})
	}
	return n
}

// wide tells a directory of so many files, so many nodes with itself.
func wide(nodes int) api.Node {
	n := dir()
	for i := range nodes - 1 {
		n.Names, n.Nodes = append(n.Names, fmt.Sprintf("f%05d", i)), append(n.Nodes, file(""))
	}
	return n
}

// rich tells a node that has something of everything.
func rich() api.Node {
	return dir(
		entry{"bin", dir(entry{"run", script("#!run\x00\xff")}, entry{"walk", link("run")})},
		entry{"e", dir()},
		entry{"eight", file("12345678")},
		entry{"none", file("")},
		entry{strings.Repeat("z", api.MaxName), dir(entry{"x", dir(entry{"y", script("")})})},
	)
}

// within tells a directory whose nodes lie within themselves.
func within() api.Node {
	list := []api.Node{{}, file("x")}
	list[0] = api.Node{Kind: api.Dir, Names: []string{"a", "b"}, Nodes: list}
	return list[0]
}

// node tells a node that may be, of at most so many levels.
func (x *noise) node(levels int) api.Node {
	switch k := x.below(6); {
	case k == 0:
		return link(oneOf(x, "l", "/x", pathA))
	case k < 3 || levels == 1:
		n := file(oneOf(x, "", "x", "y", strings.Repeat("long", 100), pathB))
		n.Exec = x.below(2) == 0
		return n
	}
	n := dir()
	for _, name := range []string{"a", "b", "c"} {
		if x.below(2) == 0 {
			n.Names, n.Nodes = append(n.Names, name), append(n.Nodes, x.node(levels-1))
		}
	}
	return n
}

// same tells whether two nodes are the same; lists without an element are.
func same(a, b api.Node) bool {
	return a.Kind == b.Kind && a.Exec == b.Exec && bytes.Equal(a.Data, b.Data) &&
		slices.Equal(a.Names, b.Names) && slices.EqualFunc(a.Nodes, b.Nodes, same)
}

// sameInfo tells whether two infos are the same; lists without an element are.
func sameInfo(a, b api.Info) bool {
	return a.Path == b.Path && a.Hash == b.Hash && a.Deriver == b.Deriver && slices.Equal(a.Refs, b.Refs)
}

// clone tells a node on memory of its own.
func clone(n api.Node) api.Node {
	c := api.Node{Kind: n.Kind, Exec: n.Exec, Data: bytes.Clone(n.Data), Names: slices.Clone(n.Names)}
	for _, kid := range n.Nodes {
		c.Nodes = append(c.Nodes, clone(kid))
	}
	return c
}

// short tells of a node what a message has room for.
func short(n api.Node) string {
	return fmt.Sprintf("a node of kind %d, Exec %v, bytes %.60q, Names %.60q, %d Nodes", n.Kind, n.Exec, n.Data, n.Names[:min(4, len(n.Names))], len(n.Nodes))
}

// A plain reading of the chapter.

var (
	plainPath  = regexp.MustCompile(`^/store/[` + signs + `]{32}-[a-zA-Z0-9+_-][a-zA-Z0-9+._-]{0,26}$`)
	plainHash  = regexp.MustCompile(`^[` + signs + `]{51}[0h]$`)
	plainLines = regexp.MustCompile(`^hash ([^ \n]*)\n(?:deriver ([^ \n]+)\n)?((?:ref [^ \n]+\n)*)$`)
	plainRef   = regexp.MustCompile(`ref ([^ \n]+)\n`)
)

// plainMayBe tells whether an info may be.
func plainMayBe(i api.Info) bool {
	for k, ref := range i.Refs {
		if !plainPath.MatchString(ref) || k > 0 && ref <= i.Refs[k-1] {
			return false
		}
	}
	return plainPath.MatchString(i.Path) && (i.Deriver == "" || plainPath.MatchString(i.Deriver)) &&
		plainHash.MatchString(i.Hash) && len(i.Refs) <= 1024
}

// plainText tells an info's text, also of one that may not be.
func plainText(i api.Info) string {
	s := "hash " + i.Hash + "\n"
	if i.Deriver != "" {
		s += "deriver " + i.Deriver + "\n"
	}
	for _, ref := range i.Refs {
		s += "ref " + ref + "\n"
	}
	return s
}

// plainRead reads a text as a path's info.
func plainRead(path, s string) (api.Info, api.Errno) {
	m := plainLines.FindStringSubmatch(s)
	if m == nil {
		return api.Info{}, api.ErrForm
	}
	i := api.Info{Path: path, Hash: m[1], Deriver: m[2]}
	for _, r := range plainRef.FindAllStringSubmatch(m[3], -1) {
		i.Refs = append(i.Refs, r[1])
	}
	if !plainMayBe(i) {
		return api.Info{}, api.ErrForm
	}
	return i, api.OK
}

// plainStrings tells the strings of a node in an archive.
func plainStrings(n api.Node) []string {
	l := []string{"(", "type"}
	switch n.Kind {
	case api.File:
		l = append(l, "regular")
		if n.Exec {
			l = append(l, "executable", "")
		}
		l = append(l, "contents", string(n.Data))
	case api.Link:
		l = append(l, "symlink", "target", string(n.Data))
	case api.Dir:
		l = append(l, "directory")
		for i, name := range n.Names {
			l = append(append(l, "entry", "(", "name", name, "node"), plainStrings(n.Nodes[i])...)
			l = append(l, ")")
		}
	}
	return append(l, ")")
}

// hashOf tells the text of the digest of a node's archive.
func hashOf(n api.Node) string {
	var b []byte
	for _, s := range append([]string{"still-archive-1"}, plainStrings(n)...) {
		b = append(binary.BigEndian.AppendUint64(b, uint64(len(s))), s...)
		for len(b)%8 != 0 {
			b = append(b, 0)
		}
	}
	sum := sha256.Sum256(b)
	return base32.NewEncoding(signs).WithPadding(base32.NoPadding).EncodeToString(sum[:])
}

// thing is a path that is valid, as a plain store keeps it.
type thing struct {
	node    api.Node
	refs    []string
	deriver string
}

// info tells what is known of it.
func (h thing) info(path string) api.Info {
	return api.Info{Path: path, Hash: hashOf(h.node), Deriver: h.deriver, Refs: h.refs}
}

// store is a plain store: the paths that are valid.
type store map[string]thing

// list tells its paths, rising.
func (s store) list() []string {
	var l []string
	for p := range s {
		l = append(l, p)
	}
	slices.Sort(l)
	return l
}

// whole tells the tree in which just the store lies.
func (s store) whole() api.Node {
	nodes, infos := dir(), dir()
	for _, p := range s.list() {
		nodes.Names, nodes.Nodes = append(nodes.Names, lastName(p)), append(nodes.Nodes, s[p].node)
		infos.Names, infos.Nodes = append(infos.Names, lastName(p)), append(infos.Nodes, file(plainText(s[p].info(p))))
	}
	return dir(entry{"db", infos}, entry{"store", nodes})
}

// refuses tells what keeps a path from being deleted.
func (s store) refuses(path string) api.Errno {
	if _, there := s[path]; !there {
		return api.ErrNone
	}
	for p, h := range s {
		if p != path && slices.Contains(h.refs, path) {
			return api.ErrUsed
		}
	}
	return api.OK
}

// Asking.

// fresh tells a disk, and an empty tree on it.
func fresh(t *testing.T) (*block.Disk, *tree.Tree) {
	t.Helper()
	d, e := block.New(api.MaxSectors)
	if e != api.OK {
		t.Fatal(e)
	}
	x, e := tree.Format(d)
	if e != api.OK {
		t.Fatal(e)
	}
	return d, x
}

// open tells the objects of a tree.
func open(t *testing.T, x *tree.Tree) *object.Objects {
	t.Helper()
	o, e := object.Open(x)
	if e != api.OK || o == nil {
		t.Fatalf("Open: %v, %v", o, e)
	}
	return o
}

// begin tells a disk, an empty tree on it, and its objects.
func begin(t *testing.T) (*block.Disk, *tree.Tree, *object.Objects) {
	t.Helper()
	d, x := fresh(t)
	return d, x, open(t, x)
}

// put puts a node into a tree.
func put(t *testing.T, x *tree.Tree, at string, n api.Node) {
	t.Helper()
	if e := x.Put(at, n); e != api.OK {
		t.Fatalf("Put(%s): %v", at, e)
	}
}

// change puts another node there where one is.
func change(t *testing.T, x *tree.Tree, at string, n api.Node) {
	t.Helper()
	if e := x.Remove(at); e != api.OK {
		t.Fatalf("Remove(%s): %v", at, e)
	}
	put(t, x, at, n)
}

// add adds a path, which must be all right.
func add(t *testing.T, o *object.Objects, path string, n api.Node, refs []string, deriver string) {
	t.Helper()
	if e := o.Add(path, n, refs, deriver); e != api.OK {
		t.Fatalf("Add(%s, %s, %d refs, %q): %v", path, short(n), len(refs), deriver, e)
	}
}

// is asks that an error is this one.
func is(t *testing.T, what string, e, want api.Errno) {
	t.Helper()
	if e != want {
		t.Errorf("%s: %v, want %v", what, e, want)
	}
}

// all tells all of a tree.
func all(t *testing.T, x *tree.Tree) api.Node {
	t.Helper()
	n, e := x.Get("/")
	if e != api.OK {
		t.Fatal(e)
	}
	return n
}

// still asks that a call changes nothing of a tree, nor of its disk.
func still(t *testing.T, what string, d *block.Disk, x *tree.Tree, call func()) {
	t.Helper()
	before, events := all(t, x), d.Events()
	call()
	if after := all(t, x); !same(before, after) {
		t.Errorf("%s: the tree has changed: %s, it was %s", what, short(after), short(before))
	}
	if d.Events() != events {
		t.Errorf("%s: the disk has %d events, it had %d", what, d.Events(), events)
	}
}

// holds asks that the objects of a tree are just those of a plain store, and that
// all calls tell them so.
func holds(t *testing.T, what string, x *tree.Tree, o *object.Objects, s store) {
	t.Helper()
	if n := all(t, x); !same(n, s.whole()) {
		t.Errorf("%s: in the tree lies %s, want %s", what, short(n), short(s.whole()))
	}
	if l := o.List(); !slices.Equal(l, s.list()) {
		t.Errorf("%s: List: %q, want %q", what, l, s.list())
	}
	for p, h := range s {
		tells(t, what, o, p, h)
	}
}

// tells asks that a path is valid, with just what is said here.
func tells(t *testing.T, what string, o *object.Objects, p string, h thing) {
	t.Helper()
	if n, e := o.Get(p); e != api.OK || !same(n, h.node) {
		t.Errorf("%s: Get(%s): %s, %v, want %s", what, p, short(n), e, short(h.node))
	}
	if i, e := o.Info(p); e != api.OK || !sameInfo(i, h.info(p)) {
		t.Errorf("%s: Info(%s): %.300q, %v, want %.300q", what, p, i, e, h.info(p))
	}
	is(t, what+": Verify("+p+")", o.Verify(p), api.OK)
}

// isNone asks that a path is not valid.
func isNone(t *testing.T, what string, o *object.Objects, p string) {
	t.Helper()
	fails(t, what, o, p, api.ErrNone)
	if slices.Contains(o.List(), p) {
		t.Errorf("%s: %q is listed", what, p)
	}
}

// fails asks that each call of a path tells this error, and nothing else.
func fails(t *testing.T, what string, o *object.Objects, p string, want api.Errno) {
	t.Helper()
	if n, e := o.Get(p); e != want || !same(n, api.Node{}) {
		t.Errorf("%s: Get(%q): %s, %v, want %v", what, p, short(n), e, want)
	}
	if i, e := o.Info(p); e != want || !sameInfo(i, api.Info{}) {
		t.Errorf("%s: Info(%q): %q, %v, want %v", what, p, i, e, want)
	}
	is(t, fmt.Sprintf("%s: Verify(%q)", what, p), o.Verify(p), want)
	is(t, fmt.Sprintf("%s: Delete(%q)", what, p), o.Delete(p), want)
}
