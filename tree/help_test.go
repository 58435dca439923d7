package tree_test

import (
	"bytes"
	"fmt"
	"slices"
	"strings"
	"testing"

	"stillroom/api"
	"stillroom/block"
	"stillroom/tree"
)

// noise tells numbers that are alike in every run.
type noise uint64

func (x *noise) next() uint64 {
	*x ^= *x << 13
	*x ^= *x >> 7
	*x ^= *x << 17
	return uint64(*x) >> 16
}

func (x *noise) below(n int) int { return int(x.next() % uint64(n)) }

func (x *noise) bytes(n int) []byte {
	b := make([]byte, n)
	for i := range b {
		b[i] = byte(x.next())
	}
	return b
}

func (x *noise) keep(n int) []bool {
	keep := make([]bool, n)
	for i := range keep {
		keep[i] = x.below(2) == 0
	}
	return keep
}

// Nodes.

func file(s string) api.Node   { return api.Node{Kind: api.File, Data: []byte(s)} }
func script(s string) api.Node { return api.Node{Kind: api.File, Exec: true, Data: []byte(s)} }
func link(s string) api.Node   { return api.Node{Kind: api.Link, Data: []byte(s)} }

// fileOf tells a file of so many bytes.
func fileOf(size int) api.Node {
	x := noise(size + 1)
	return api.Node{Kind: api.File, Data: x.bytes(size)}
}

// entry is a name and its node.
type entry struct {
	name string
	node api.Node
}

// dir tells a directory with these entries, in this order.
func dir(entries ...entry) api.Node {
	n := api.Node{Kind: api.Dir}
	for _, e := range entries {
		n.Names = append(n.Names, e.name)
		n.Nodes = append(n.Nodes, e.node)
	}
	return n
}

// chain tells so many nodes above one another: directories, and a file at last.
func chain(levels int) api.Node {
	n := file("end")
	for range levels - 1 {
		n = dir(entry{"d", n})
	}
	return n
}

// wide tells a directory of so many files, so many nodes with itself.
func wide(nodes int) api.Node {
	n := dir()
	for i := range nodes - 1 {
		n.Names = append(n.Names, fmt.Sprintf("f%05d", i))
		n.Nodes = append(n.Nodes, api.Node{Kind: api.File})
	}
	return n
}

// longName tells a name of so many bytes that begins with a number.
func longName(i, size int) string {
	s := fmt.Sprintf("%04d", i)
	return s + strings.Repeat("x", size-len(s))
}

// full tells a directory whose entries come to so many bytes.
func full(bytes int) api.Node {
	n := dir()
	for i := 0; bytes > 0; i++ {
		size := api.MaxName + 3
		if bytes < size+7 { // the last two share what is left
			size = bytes
		}
		if bytes > api.MaxName+3 && bytes < api.MaxName+10 {
			size = bytes - 7
		}
		n.Names = append(n.Names, longName(i, size-3))
		n.Nodes = append(n.Nodes, api.Node{Kind: api.File})
		bytes -= size
	}
	return n
}

// same tells whether two nodes are the same; lists without an element are.
func same(a, b api.Node) bool {
	return a.Kind == b.Kind && a.Exec == b.Exec && bytes.Equal(a.Data, b.Data) &&
		slices.Equal(a.Names, b.Names) && slices.EqualFunc(a.Nodes, b.Nodes, same)
}

// clone tells a node on memory of its own.
func clone(n api.Node) api.Node {
	c := api.Node{Kind: n.Kind, Exec: n.Exec, Data: bytes.Clone(n.Data), Names: slices.Clone(n.Names)}
	for _, kid := range n.Nodes {
		c.Nodes = append(c.Nodes, clone(kid))
	}
	return c
}

// short tells of a node what a message has room for; what is beneath it may be
// the node itself.
func short(n api.Node) string {
	return fmt.Sprintf("a node of kind %d, Exec %v, %d bytes, %d Names %.5q, %d Nodes", n.Kind, n.Exec, len(n.Data), len(n.Names), n.Names[:min(4, len(n.Names))], len(n.Nodes))
}

// zero tells whether a node is the zero value, but for lists without an element.
func zero(n api.Node) bool { return same(n, api.Node{}) }

// Disks.

func newDisk(t *testing.T, sectors int) *block.Disk {
	t.Helper()
	d, e := block.New(sectors)
	if e != api.OK || d == nil {
		t.Fatalf("New(%d): %v, %v", sectors, d, e)
	}
	return d
}

func after(t *testing.T, d *block.Disk, events int, keep []bool) *block.Disk {
	t.Helper()
	o, e := d.After(events, keep)
	if e != api.OK || o == nil {
		t.Fatalf("After(%d): %v, %v", events, o, e)
	}
	return o
}

// fresh tells a disk without events that has the bytes that this one has.
func fresh(t *testing.T, d *block.Disk) *block.Disk {
	t.Helper()
	return after(t, d, d.Events(), slices.Repeat([]bool{true}, d.Events()))
}

func write(t *testing.T, d *block.Disk, n int, b []byte) {
	t.Helper()
	if e := d.Write(n, b); e != api.OK {
		t.Fatalf("Write(%d): %v", n, e)
	}
}

func read(t *testing.T, d *block.Disk, n int) []byte {
	t.Helper()
	b, e := d.Read(n)
	if e != api.OK {
		t.Fatalf("Read(%d): %v", n, e)
	}
	return b
}

// content tells all bytes of a disk.
func content(t *testing.T, d *block.Disk) []byte {
	t.Helper()
	var whole []byte
	for n := range d.Sectors() {
		whole = append(whole, read(t, d, n)...)
	}
	return whole
}

// Trees.

func format(t *testing.T, d *block.Disk) *tree.Tree {
	t.Helper()
	x, e := tree.Format(d)
	if e != api.OK || x == nil {
		t.Fatalf("Format(%d sectors): %v, %v", d.Sectors(), x, e)
	}
	return x
}

// newTree tells an empty tree, and its disk.
func newTree(t *testing.T, sectors int) (*tree.Tree, *block.Disk) {
	t.Helper()
	d := newDisk(t, sectors)
	return format(t, d), d
}

func mount(t *testing.T, d *block.Disk) *tree.Tree {
	t.Helper()
	x, e := tree.Mount(d)
	if e != api.OK || x == nil {
		t.Fatalf("Mount(%d sectors): %v, %v", d.Sectors(), x, e)
	}
	return x
}

func put(t *testing.T, x *tree.Tree, path string, n api.Node) {
	t.Helper()
	if e := x.Put(path, n); e != api.OK {
		t.Fatalf("Put(%q): %v", path, e)
	}
}

func remove(t *testing.T, x *tree.Tree, path string) {
	t.Helper()
	if e := x.Remove(path); e != api.OK {
		t.Fatalf("Remove(%q): %v", path, e)
	}
}

func rename(t *testing.T, x *tree.Tree, from, to string) {
	t.Helper()
	if e := x.Rename(from, to); e != api.OK {
		t.Fatalf("Rename(%q, %q): %v", from, to, e)
	}
}

func commit(t *testing.T, x *tree.Tree) {
	t.Helper()
	if e := x.Commit(); e != api.OK {
		t.Fatalf("Commit: %v", e)
	}
}

func abort(t *testing.T, x *tree.Tree) {
	t.Helper()
	if e := x.Abort(); e != api.OK {
		t.Fatalf("Abort: %v", e)
	}
}

// whole tells the whole tree.
func whole(t *testing.T, x *tree.Tree) api.Node {
	t.Helper()
	n, e := x.Get("/")
	if e != api.OK || n.Kind != api.Dir {
		t.Fatalf("Get(/): %s, %v", short(n), e)
	}
	return n
}

// gets asks that this node is at a path.
func gets(t *testing.T, x *tree.Tree, path string, want api.Node) {
	t.Helper()
	if n, e := x.Get(path); e != api.OK || !same(n, want) {
		t.Fatalf("Get(%.80q): %s, %v, want %s", path, short(n), e, short(want))
	}
}

// lacks asks that Get tells this error of a path, and nothing else.
func lacks(t *testing.T, x *tree.Tree, path string, want api.Errno) {
	t.Helper()
	if n, e := x.Get(path); e != want || !zero(n) {
		t.Errorf("Get(%.80q): %s, %v, want %v", path, short(n), e, want)
	}
}

// room asks what Room tells.
func room(t *testing.T, x *tree.Tree, needs, free int) {
	t.Helper()
	if n, f := x.Room(); n != needs || f != free {
		t.Errorf("Room: %d, %d, want %d, %d", n, f, needs, free)
	}
}

// fails asks that a call tells an error, and that the tree, its disk and what is
// committed there stay as they are.
func fails(t *testing.T, x *tree.Tree, d *block.Disk, what string, want api.Errno, call func() api.Errno) {
	t.Helper()
	before, events := whole(t, x), d.Events()
	needs, free := x.Room()
	if e := call(); e != want {
		t.Errorf("%s: %v, want %v", what, e, want)
	}
	if !same(whole(t, x), before) {
		t.Errorf("%s: the tree has changed", what)
	}
	if n, f := x.Room(); n != needs || f != free || d.Events() != events {
		t.Errorf("%s: Room was %d, %d, is %d, %d; %d events, then %d", what, needs, free, n, f, events, d.Events())
	}
}

func failsPut(t *testing.T, x *tree.Tree, d *block.Disk, path string, n api.Node, want api.Errno) {
	t.Helper()
	fails(t, x, d, fmt.Sprintf("Put(%.80q, %s)", path, short(n)), want, func() api.Errno { return x.Put(path, n) })
}

func failsRemove(t *testing.T, x *tree.Tree, d *block.Disk, path string, want api.Errno) {
	t.Helper()
	fails(t, x, d, fmt.Sprintf("Remove(%.80q)", path), want, func() api.Errno { return x.Remove(path) })
}

func failsRename(t *testing.T, x *tree.Tree, d *block.Disk, from, to string, want api.Errno) {
	t.Helper()
	fails(t, x, d, fmt.Sprintf("Rename(%.80q, %.80q)", from, to), want, func() api.Errno { return x.Rename(from, to) })
}

func failsCommit(t *testing.T, x *tree.Tree, d *block.Disk, want api.Errno) {
	t.Helper()
	fails(t, x, d, "Commit", want, x.Commit)
}
