package tree_test

import (
	"fmt"
	"maps"
	"slices"
	"strings"
	"testing"

	"stillroom/api"
	"stillroom/block"
	"stillroom/tree"
)

func TestExample(t *testing.T) {
	x, d := newTree(t, 20)
	room(t, x, 1, 14)
	put(t, x, "/a", file("x"))
	room(t, x, 4, 14)
	lacks(t, x, "/b", api.ErrNone)
	failsPut(t, x, d, "/a/b", file("y"), api.ErrKind)
	rename(t, x, "/a", "/c")
	commit(t, x)
	room(t, x, 4, 11)
	y := mount(t, d)
	gets(t, y, "/c", file("x"))
	gets(t, y, "/", dir(entry{"c", file("x")}))
	lacks(t, y, "/a", api.ErrNone)
	room(t, y, 4, 11)
}

// P6.2: paths

// noPaths are texts that are no paths.
func noPaths() []string {
	l := []string{"", " ", "a", "a/b", "//", "///", "//a", "/a/", "/a//b", "/a/b/", "/a//", "a/", "/.", "/..", "/a/.", "/a/..", "/./a", "/../a", "./a", "../a", "\\a", "/a\n", "\n/a", " /a", "/a/ /b"}
	_, none := texts()
	for _, s := range none {
		if !strings.Contains(s, "/") && s != "" {
			l = append(l, "/"+s, "/a/"+s, "/"+s+"/a")
		}
	}
	return l
}

func TestPathsThatAreNone(t *testing.T) {
	x, d := newTree(t, 20)
	put(t, x, "/a", dir(entry{"b", file("x")}))
	for _, p := range noPaths() {
		lacks(t, x, p, api.ErrName)
		failsPut(t, x, d, p, file("x"), api.ErrName)
		failsRemove(t, x, d, p, api.ErrName)
		for _, other := range []string{"/", "/a", "/b", "/a/b", "/no/way", p, ""} {
			failsRename(t, x, d, p, other, api.ErrName)
			failsRename(t, x, d, other, p, api.ErrName)
		}
		// A path that is none is told ahead of a node that may not be.
		failsPut(t, x, d, p, api.Node{}, api.ErrName)
		failsPut(t, x, d, p, fileOf(api.MaxFile+1), api.ErrName)
	}
}

func TestPathsOfNames(t *testing.T) {
	names, _ := texts()
	x, _ := newTree(t, 20)
	put(t, x, "/dir", dir())
	for _, s := range names {
		lacks(t, x, "/"+s, api.ErrNone)
		put(t, x, "/"+s, file(s))
		gets(t, x, "/"+s, file(s))
		rename(t, x, "/"+s, "/dir/"+s)
		gets(t, x, "/dir/"+s, file(s))
		gets(t, x, "/", dir(entry{"dir", dir(entry{s, file(s)})}))
		remove(t, x, "/dir/"+s)
	}
	gets(t, x, "/", dir(entry{"dir", dir()}))
}

func TestPathsOfManyNames(t *testing.T) {
	x, d := newTree(t, 20)
	put(t, x, "/a", dir())
	put(t, x, "/f", file("x"))
	long := strings.Repeat("/a", 100000)
	lacks(t, x, long, api.ErrNone)
	lacks(t, x, "/f"+long, api.ErrKind)
	failsPut(t, x, d, long, file("x"), api.ErrNone)
	failsRemove(t, x, d, long, api.ErrNone)
	failsRename(t, x, d, long, "/b", api.ErrNone)
	failsRename(t, x, d, "/f", long, api.ErrNone)
	failsRename(t, x, d, "/a", long, api.ErrArg)
}

// P6.2: Get

// sample tells a tree with something of each kind.
func sample() api.Node {
	return dir(
		entry{"d", dir(entry{"d", dir()}, entry{"f", file("in d")}, entry{"l", link("f")})},
		entry{"e", dir()},
		entry{"f", file("x")},
		entry{"l", link("/d")},
		entry{"s", script("#!")},
	)
}

// fill puts all entries of a directory into the root.
func fill(t *testing.T, x *tree.Tree, n api.Node) {
	t.Helper()
	for i, name := range n.Names {
		put(t, x, "/"+name, n.Nodes[i])
	}
	gets(t, x, "/", n)
}

func TestGet(t *testing.T) {
	x, _ := newTree(t, 40)
	gets(t, x, "/", dir())
	fill(t, x, sample())
	gets(t, x, "/d", sample().Nodes[0])
	gets(t, x, "/d/d", dir())
	gets(t, x, "/d/f", file("in d"))
	gets(t, x, "/d/l", link("f"))
	gets(t, x, "/f", file("x"))
	gets(t, x, "/l", link("/d"))
	gets(t, x, "/s", script("#!"))
	for path, want := range map[string]api.Errno{
		"/x": api.ErrNone, "/d/x": api.ErrNone, "/d/d/x": api.ErrNone, "/e/x": api.ErrNone,
		"/x/y": api.ErrNone, "/x/y/z": api.ErrNone, "/e/d/f": api.ErrNone, "/d/x/f": api.ErrNone,
		"/f/x": api.ErrKind, "/f/x/y": api.ErrKind, "/d/f/x": api.ErrKind, "/d/f/x/y/z": api.ErrKind, "/s/x": api.ErrKind,
		"/l/f": api.ErrKind, "/l/x": api.ErrKind, "/d/l/f": api.ErrKind, // a link is not followed
		"/D": api.ErrNone, "/dd": api.ErrNone, "/d/": api.ErrName,
	} {
		lacks(t, x, path, want)
	}
}

func TestGetTellsNamesRising(t *testing.T) {
	x, _ := newTree(t, 40)
	names := []string{"b", "a", "~", "!", "B", "aa", "a.", ".a", "0", "10", "9"}
	for _, s := range names {
		put(t, x, "/"+s, file(s))
	}
	slices.Sort(names)
	for range 20 {
		n := whole(t, x)
		if !slices.Equal(n.Names, names) {
			t.Fatalf("%q, want %q", n.Names, names)
		}
		for i, s := range names {
			if string(n.Nodes[i].Data) != s {
				t.Fatalf("%q has %q", s, n.Nodes[i].Data)
			}
		}
	}
}

// P6.2: Put

func TestPutOfEachSize(t *testing.T) {
	x, d := newTree(t, api.MaxSectors)
	for _, size := range []int{0, 1, 255, 256, 257, 511, 512, 513, api.MaxFile - 1, api.MaxFile} {
		for _, exec := range []bool{false, true} {
			n := fileOf(size)
			n.Exec = exec
			put(t, x, "/f", n)
			gets(t, x, "/f", n)
			commit(t, x)
			gets(t, mount(t, d), "/f", n)
			remove(t, x, "/f")
		}
	}
	for _, size := range []int{1, 255, 256, 257, 1023, 1024} {
		n := link(strings.Repeat("l", size))
		put(t, x, "/l", n)
		commit(t, x)
		gets(t, mount(t, d), "/l", n)
		remove(t, x, "/l")
	}
	failsPut(t, x, d, "/f", fileOf(api.MaxFile+1), api.ErrBig)
	failsPut(t, x, d, "/l", link(""), api.ErrArg)
	failsPut(t, x, d, "/l", link(strings.Repeat("l", 1025)), api.ErrBig)
}

func TestPutOfNodesThatMayNotBe(t *testing.T) {
	x, d := newTree(t, 40)
	fill(t, x, sample())
	for _, n := range []api.Node{
		{}, {Kind: 4}, {Kind: -1}, {Kind: api.Dir, Data: []byte("x")}, {Kind: api.Link, Exec: true, Data: []byte("x")},
		{Kind: api.File, Names: []string{"a"}}, {Kind: api.Dir, Names: []string{"a"}}, link(""), fileOf(api.MaxFile + 1),
		dir(entry{"", file("")}), dir(entry{"b", file("")}, entry{"a", file("")}), dir(entry{"a", link("")}),
		wide(api.MaxNodes + 1), chain(api.MaxDepth + 1), full(api.MaxFile + 1),
	} {
		// Right's error is told ahead of what the place has.
		for _, path := range []string{"/new", "/", "/f", "/f/x", "/no/x", "/d/f", "/d"} {
			failsPut(t, x, d, path, n, tree.Right(n))
		}
	}
}

func TestPutWhereItMayNotBe(t *testing.T) {
	x, d := newTree(t, 40)
	fill(t, x, sample())
	for _, n := range []api.Node{file("new"), dir(), link("new"), chain(3), wide(api.MaxNodes), chain(api.MaxDepth)} {
		for path, want := range map[string]api.Errno{
			"/": api.ErrThere, "/d": api.ErrThere, "/d/d": api.ErrThere, "/d/f": api.ErrThere, "/f": api.ErrThere, "/l": api.ErrThere,
			"/f/x": api.ErrKind, "/l/x": api.ErrKind, "/l/f": api.ErrKind, "/s/x": api.ErrKind, "/d/f/x": api.ErrKind, "/f/x/y": api.ErrKind,
			"/x/y": api.ErrNone, "/x/y/z": api.ErrNone, "/d/x/y": api.ErrNone, "/e/d/f": api.ErrNone,
		} {
			// Where it may not be is told ahead of the whole tree's being too great.
			failsPut(t, x, d, path, n, want)
		}
	}
}

func TestPutBeneathWhatWasPut(t *testing.T) {
	x, _ := newTree(t, 40)
	put(t, x, "/a", dir())
	put(t, x, "/a/b", dir(entry{"c", dir()}, entry{"z", file("z")}))
	put(t, x, "/a/b/c/d", file("d"))
	put(t, x, "/a/b/m", link("m"))
	gets(t, x, "/", dir(entry{"a", dir(entry{"b", dir(entry{"c", dir(entry{"d", file("d")})}, entry{"m", link("m")}, entry{"z", file("z")})})}))
}

// P6.2: the whole tree may not be

func TestPutOfTooManyInTheWhole(t *testing.T) {
	x, d := newTree(t, 40)
	failsPut(t, x, d, "/a", wide(api.MaxNodes), api.ErrBig)
	put(t, x, "/a", wide(api.MaxNodes-1))
	failsPut(t, x, d, "/b", file(""), api.ErrBig)
	failsPut(t, x, d, "/a/b", file(""), api.ErrBig)
	failsPut(t, x, d, "/b", dir(), api.ErrBig)
	remove(t, x, "/a/f00007")
	failsPut(t, x, d, "/b", dir(entry{"c", file("")}), api.ErrBig)
	put(t, x, "/b", file(""))
	failsPut(t, x, d, "/c", file(""), api.ErrBig)
	rename(t, x, "/b", "/a/b") // as many as before
	gets(t, x, "/a/b", file(""))
	// Errors that come first.
	failsPut(t, x, d, "/a", file(""), api.ErrThere)
	failsPut(t, x, d, "/c/d", file(""), api.ErrNone)
	failsPut(t, x, d, "/a/b/c", file(""), api.ErrKind)
}

func TestPutAndRenameTooDeepInTheWhole(t *testing.T) {
	x, d := newTree(t, 200)
	failsPut(t, x, d, "/a", chain(api.MaxDepth), api.ErrBig)
	put(t, x, "/a", chain(api.MaxDepth-1))
	failsPut(t, x, d, "/b", chain(api.MaxDepth), api.ErrBig)
	deep := "/a" + strings.Repeat("/d", api.MaxDepth-3)
	failsPut(t, x, d, deep+"/e", dir(entry{"f", file("")}), api.ErrBig)
	put(t, x, deep+"/e", dir())
	failsPut(t, x, d, deep+"/e/f", file(""), api.ErrBig)
	put(t, x, "/b", dir())
	failsRename(t, x, d, "/a", "/b/a", api.ErrBig)
	put(t, x, "/c", dir(entry{"f", file("f")}))
	failsRename(t, x, d, "/c", deep+"/c", api.ErrBig)
	rename(t, x, "/c/f", deep+"/c")
	failsRename(t, x, d, deep+"/c", deep+"/e/c", api.ErrBig)
	rename(t, x, "/c", deep+"/f")
	rename(t, x, "/a", "/z")
	gets(t, x, "/z"+strings.Repeat("/d", api.MaxDepth-3), dir(entry{"c", file("f")}, entry{"d", file("end")}, entry{"e", dir()}, entry{"f", dir()}))
	commit(t, x)
	gets(t, mount(t, d), "/", whole(t, x))
	// Errors that come first.
	put(t, x, "/g", chain(5))
	failsRename(t, x, d, "/g", "/z"+strings.Repeat("/d", api.MaxDepth-3)+"/f", api.ErrThere)
	failsRename(t, x, d, "/g", "/z"+strings.Repeat("/d", api.MaxDepth-3)+"/x/f", api.ErrNone)
	failsRename(t, x, d, "/g", "/z"+strings.Repeat("/d", api.MaxDepth-3)+"/c/f", api.ErrKind)
}

func TestPutAndRenameIntoAFullDirectory(t *testing.T) {
	x, d := newTree(t, api.MaxSectors)
	put(t, x, "/a", full(api.MaxFile-5))
	failsPut(t, x, d, "/a/zzz", file(""), api.ErrBig) // six bytes
	put(t, x, "/zzz", file("z"))
	failsRename(t, x, d, "/zzz", "/a/zzz", api.ErrBig)
	rename(t, x, "/zzz", "/a/zz") // five
	failsPut(t, x, d, "/a/y", file(""), api.ErrBig)
	put(t, x, "/b", file(""))
	failsRename(t, x, d, "/b", "/a/y", api.ErrBig)
	// Within one directory the old name goes.
	failsRename(t, x, d, "/a/zz", "/a/zzz", api.ErrBig)
	rename(t, x, "/a/zz", "/a/yy")
	rename(t, x, "/a/yy", "/a/y")
	rename(t, x, "/a/y", "/a/zz")
	gets(t, x, "/a/zz", file("z"))
	commit(t, x)
	gets(t, mount(t, d), "/", whole(t, x))
	remove(t, x, "/a/zz")
	put(t, x, "/a/ww", file("w"))
	// What is in it may grow as before.
	put(t, x, "/c", dir())
	put(t, x, "/c/"+longName(1, api.MaxName), file(""))
	failsPut(t, x, d, "/a/y", file(""), api.ErrBig)
}

func TestPutIntoAFullRoot(t *testing.T) {
	x, d := newTree(t, api.MaxSectors)
	fill(t, x, full(api.MaxFile))
	failsPut(t, x, d, "/z", file(""), api.ErrBig)
	last := full(api.MaxFile).Names[len(full(api.MaxFile).Names)-1]
	failsRename(t, x, d, "/"+last, "/"+last+"z", api.ErrBig)
	remove(t, x, "/"+last)
	put(t, x, "/d", dir())
	put(t, x, "/d/"+last, file(""))
	commit(t, x)
	gets(t, mount(t, d), "/", whole(t, x))
}

// P6.2: Remove

func TestRemove(t *testing.T) {
	x, d := newTree(t, 40)
	fill(t, x, sample())
	failsRemove(t, x, d, "/", api.ErrArg)
	for path, want := range map[string]api.Errno{
		"/x": api.ErrNone, "/d/x": api.ErrNone, "/x/y": api.ErrNone, "/e/d/f": api.ErrNone,
		"/f/x": api.ErrKind, "/l/f": api.ErrKind, "/d/f/x": api.ErrKind, "/f/x/y": api.ErrKind,
	} {
		failsRemove(t, x, d, path, want)
	}
	remove(t, x, "/d/f")
	failsRemove(t, x, d, "/d/f", api.ErrNone)
	gets(t, x, "/d", dir(entry{"d", dir()}, entry{"l", link("f")}))
	remove(t, x, "/d")
	lacks(t, x, "/d/d", api.ErrNone)
	lacks(t, x, "/d", api.ErrNone)
	gets(t, x, "/", dir(entry{"e", dir()}, entry{"f", file("x")}, entry{"l", link("/d")}, entry{"s", script("#!")}))
	for _, s := range []string{"/s", "/e", "/l", "/f"} {
		remove(t, x, s)
	}
	gets(t, x, "/", dir())
	failsRemove(t, x, d, "/", api.ErrArg)
	put(t, x, "/d", file("again"))
	gets(t, x, "/", dir(entry{"d", file("again")}))
}

// P6.2: Rename

func TestRename(t *testing.T) {
	x, _ := newTree(t, 40)
	fill(t, x, sample())
	rename(t, x, "/d", "/e/new")
	rename(t, x, "/f", "/e/new/d/f")
	rename(t, x, "/e/new/l", "/a")
	rename(t, x, "/s", "/ss")
	gets(t, x, "/", dir(
		entry{"a", link("f")},
		entry{"e", dir(entry{"new", dir(entry{"d", dir(entry{"f", file("x")})}, entry{"f", file("in d")})})},
		entry{"l", link("/d")},
		entry{"ss", script("#!")},
	))
	lacks(t, x, "/d", api.ErrNone)
	rename(t, x, "/e/new/d", "/d")
	rename(t, x, "/e", "/d/e")
	gets(t, x, "/d", dir(entry{"e", dir(entry{"new", dir(entry{"f", file("in d")})})}, entry{"f", file("x")}))
}

func TestRenameThatMayNotBe(t *testing.T) {
	x, d := newTree(t, 40)
	fill(t, x, sample())
	for _, c := range []struct {
		from, to string
		want     api.Errno
	}{
		// One of both is the root.
		{"/", "/", api.ErrArg}, {"/", "/x", api.ErrArg}, {"/", "/d", api.ErrArg}, {"/", "/d/x", api.ErrArg}, {"/", "/no/way", api.ErrArg},
		{"/d", "/", api.ErrArg}, {"/x", "/", api.ErrArg}, {"/f/x", "/", api.ErrArg},
		// to is from, or lies beneath it, whatever is there.
		{"/d", "/d", api.ErrArg}, {"/f", "/f", api.ErrArg}, {"/x", "/x", api.ErrArg}, {"/x/y", "/x/y", api.ErrArg}, {"/f/x", "/f/x", api.ErrArg},
		{"/d", "/d/x", api.ErrArg}, {"/d", "/d/f", api.ErrArg}, {"/d", "/d/d/x", api.ErrArg}, {"/d", "/d/no/way", api.ErrArg}, {"/d", "/d/f/x", api.ErrArg},
		{"/f", "/f/x", api.ErrArg}, {"/x", "/x/y", api.ErrArg}, {"/d/d", "/d/d/x", api.ErrArg},
		// What is missing of from, ahead of what is at to.
		{"/x", "/y", api.ErrNone}, {"/x", "/d", api.ErrNone}, {"/x", "/f/y", api.ErrNone}, {"/x", "/no/way", api.ErrNone}, {"/d/x", "/d", api.ErrNone},
		{"/x/y", "/x", api.ErrNone}, {"/x/y/z", "/f", api.ErrNone}, {"/f/x", "/y", api.ErrKind}, {"/f/x", "/d", api.ErrKind}, {"/f/x", "/f", api.ErrKind},
		{"/l/f", "/y", api.ErrKind}, {"/d/f/x", "/no/way", api.ErrKind}, {"/f/x/y", "/z", api.ErrKind},
		// Something is at to.
		{"/d", "/e", api.ErrThere}, {"/d", "/f", api.ErrThere}, {"/f", "/d", api.ErrThere}, {"/f", "/s", api.ErrThere}, {"/f", "/d/f", api.ErrThere},
		{"/d/f", "/d", api.ErrThere}, {"/d/d", "/d", api.ErrThere}, {"/d/f", "/f", api.ErrThere},
		// What is missing of to's directory.
		{"/f", "/x/y", api.ErrNone}, {"/d", "/x/y/z", api.ErrNone}, {"/f", "/d/x/y", api.ErrNone}, {"/f", "/e/d/f", api.ErrNone},
		{"/d", "/f/x", api.ErrKind}, {"/d", "/l/x", api.ErrKind}, {"/f", "/d/f/x", api.ErrKind}, {"/f", "/s/x/y", api.ErrKind}, {"/f", "/l/f", api.ErrKind},
	} {
		failsRename(t, x, d, c.from, c.to, c.want)
	}
}

func TestRenameOfNamesThatBeginAlike(t *testing.T) {
	x, _ := newTree(t, 40)
	put(t, x, "/a", dir(entry{"f", file("f")}))
	rename(t, x, "/a", "/ab")
	rename(t, x, "/ab", "/a")
	put(t, x, "/ab", dir())
	rename(t, x, "/a", "/ab/a")
	gets(t, x, "/", dir(entry{"ab", dir(entry{"a", dir(entry{"f", file("f")})})}))
	rename(t, x, "/ab/a", "/a")
	rename(t, x, "/ab", "/a/ab")
	gets(t, x, "/", dir(entry{"a", dir(entry{"ab", dir()}, entry{"f", file("f")})}))
}

// Histories of calls, held against a plain reading of the chapter.

// model has what is at each path, without what is beneath it.
type model map[string]api.Node

func newModel() model { return model{"/": dir()} }

// parent tells the path of a path's directory.
func parent(path string) string {
	p := path[:strings.LastIndex(path, "/")]
	if p == "" {
		return "/"
	}
	return p
}

// missing tells what is missing on the way to a path, itself too.
func (m model) missing(path string) api.Errno {
	if path != "/" {
		if e := m.missing(parent(path)); e != api.OK {
			return e
		}
		if m[parent(path)].Kind != api.Dir {
			return api.ErrKind
		}
	}
	if _, there := m[path]; !there {
		return api.ErrNone
	}
	return api.OK
}

// missingDir tells what is missing of a path's directory.
func (m model) missingDir(path string) api.Errno {
	if e := m.missing(parent(path)); e != api.OK {
		return e
	}
	if m[parent(path)].Kind != api.Dir {
		return api.ErrKind
	}
	return api.OK
}

// beneath tells whether one path lies beneath another one, or is it.
func beneath(path, top string) bool {
	return path == top || strings.HasPrefix(path, strings.TrimSuffix(top, "/")+"/")
}

// node tells the node at a path, with all beneath it.
func (m model) node(path string) api.Node {
	n := clone(m[path])
	var kids []string
	for p := range m {
		if p != "/" && parent(p) == path {
			kids = append(kids, p)
		}
	}
	slices.Sort(kids)
	for _, p := range kids {
		n.Names = append(n.Names, p[strings.LastIndex(p, "/")+1:])
		n.Nodes = append(n.Nodes, m.node(p))
	}
	return n
}

// add adds a node at a path.
func (m model) add(path string, n api.Node) {
	m[path] = api.Node{Kind: n.Kind, Exec: n.Exec, Data: n.Data}
	for i, name := range n.Names {
		m.add(strings.TrimSuffix(path, "/")+"/"+name, n.Nodes[i])
	}
}

// without tells the model without a path and all beneath it.
func (m model) without(path string) model {
	o := maps.Clone(m)
	maps.DeleteFunc(o, func(p string, _ api.Node) bool { return beneath(p, path) })
	return o
}

// big tells whether the whole tree may not be.
func (m model) big() bool { return plainRight(m.node("/")) != api.OK }

func (m model) put(path string, n api.Node) (model, api.Errno) {
	if e := plainRight(n); e != api.OK {
		return m, e
	}
	if m.missing(path) == api.OK {
		return m, api.ErrThere
	}
	if e := m.missingDir(path); e != api.OK {
		return m, e
	}
	o := maps.Clone(m)
	o.add(path, n)
	if o.big() {
		return m, api.ErrBig
	}
	return o, api.OK
}

func (m model) remove(path string) (model, api.Errno) {
	if path == "/" {
		return m, api.ErrArg
	}
	if e := m.missing(path); e != api.OK {
		return m, e
	}
	return m.without(path), api.OK
}

func (m model) rename(from, to string) (model, api.Errno) {
	if from == "/" || to == "/" || beneath(to, from) {
		return m, api.ErrArg
	}
	if e := m.missing(from); e != api.OK {
		return m, e
	}
	if m.missing(to) == api.OK {
		return m, api.ErrThere
	}
	if e := m.missingDir(to); e != api.OK {
		return m, e
	}
	o := m.without(from)
	o.add(to, m.node(from))
	if o.big() {
		return m, api.ErrBig
	}
	return o, api.OK
}

// path tells a path of few names.
func (x *noise) path() string {
	if x.below(20) == 0 {
		return "/"
	}
	p := ""
	for range 1 + x.below(4) {
		p += "/" + []string{"a", "b", "cc"}[x.below(3)]
	}
	return p
}

// history makes calls on a tree, and asks for each that the model tells the same.
type history struct {
	x         *tree.Tree
	d         *block.Disk
	now, last model
	told      map[string]int
}

// there tells a path where something is.
func (h *history) there(x *noise) string {
	l := slices.Sorted(maps.Keys(h.now))
	p := l[x.below(len(l))]
	for strings.Count(p, "/") > 1 && x.below(2) == 0 { // most lie deep
		p = parent(p)
	}
	return p
}

// path tells a path where something is, one right beneath such a one, or any.
func (h *history) path(x *noise) string {
	p := h.there(x)
	switch x.below(4) {
	case 0:
		return p
	case 1:
		return x.path()
	}
	return strings.TrimSuffix(p, "/") + "/" + []string{"a", "b", "cc"}[x.below(3)]
}

func (h *history) step(t *testing.T, x *noise) {
	t.Helper()
	what, got, want := "", api.OK, api.OK
	switch k := x.below(20); {
	case k < 9:
		path, n := h.path(x), x.node(3)
		if x.below(5) == 0 {
			n = chain(29 + x.below(4))
		}
		if x.below(12) == 0 {
			x.spoil(&n)
		}
		what, got = "Put", h.x.Put(path, n)
		h.now, want = h.now.put(path, n)
	case k < 12:
		path := h.path(x)
		what, got = "Remove", h.x.Remove(path)
		h.now, want = h.now.remove(path)
	case k < 16:
		from, to := h.path(x), h.path(x)
		if x.below(2) == 0 {
			from = h.there(x)
		}
		what, got = "Rename", h.x.Rename(from, to)
		h.now, want = h.now.rename(from, to)
	case k < 18:
		what, got = "Commit", h.x.Commit()
		if needs := plainSectors(h.now.node("/")); needs > h.d.Sectors()-5-plainSectors(h.last.node("/")) {
			want = api.ErrFull
		} else {
			h.last = h.now
		}
	case k < 19:
		what, got = "Abort", h.x.Abort()
		h.now = h.last
	default:
		what = "Mount"
		h.x = mount(t, h.d)
		h.now = h.last
	}
	h.told[fmt.Sprint(what, int(got))]++
	if got != want {
		t.Fatalf("%s: %v, want %v", what, got, want)
	}
}

// check asks that the tree is as the model has it.
func (h *history) check(t *testing.T, x *noise) {
	t.Helper()
	n := h.now.node("/")
	gets(t, h.x, "/", n)
	room(t, h.x, plainSectors(n), h.d.Sectors()-5-plainSectors(h.last.node("/")))
	p := h.path(x)
	if e := h.now.missing(p); e != api.OK {
		lacks(t, h.x, p, e)
	} else {
		gets(t, h.x, p, h.now.node(p))
	}
}

func TestManyHistories(t *testing.T) {
	x := noise(21)
	told := map[string]int{}
	for round := range 120 {
		y, d := newTree(t, []int{8, 12, 30, 60, 120}[round%5])
		h := &history{y, d, newModel(), newModel(), told}
		for range 100 {
			h.step(t, &x)
			h.check(t, &x)
		}
		gets(t, mount(t, d), "/", h.last.node("/"))
	}
	for _, s := range []string{"Put0", "Put3", "Put2", "Put12", "Put13", "Put14", "Put17", "Remove0", "Remove2", "Remove12", "Remove14",
		"Rename0", "Rename2", "Rename3", "Rename12", "Rename13", "Rename14", "Commit0", "Commit15", "Abort0", "Mount0"} {
		if told[s] == 0 {
			t.Errorf("none told %s: %v", s, told)
		}
	}
}

// What is shared, and what is not.

// spread tells a node like this one, whose lists have room behind them.
func spread(n api.Node) api.Node {
	room := func(size int) int { return size + 3 }
	c := api.Node{Kind: n.Kind, Exec: n.Exec}
	c.Data = append(make([]byte, 0, room(len(n.Data))), n.Data...)
	c.Names = append(make([]string, 0, room(len(n.Names))), n.Names...)
	c.Nodes = make([]api.Node, 0, room(len(n.Nodes)))
	for _, kid := range n.Nodes {
		c.Nodes = append(c.Nodes, spread(kid))
	}
	return c
}

// stain writes to the room behind all lists of a node.
func stain(n api.Node) {
	for i := range n.Nodes {
		stain(n.Nodes[i])
	}
	for i := len(n.Data); i < cap(n.Data); i++ {
		n.Data[:cap(n.Data)][i] = 99
	}
	for i := len(n.Names); i < cap(n.Names); i++ {
		n.Names[:cap(n.Names)][i] = "stained"
	}
	for i := len(n.Nodes); i < cap(n.Nodes); i++ {
		n.Nodes[:cap(n.Nodes)][i] = api.Node{Kind: 99}
	}
}

// stained asks that the room behind all lists is as stain left it.
func stained(t *testing.T, n api.Node) {
	t.Helper()
	for _, kid := range n.Nodes {
		stained(t, kid)
	}
	for _, b := range n.Data[len(n.Data):cap(n.Data)] {
		if b != 99 {
			t.Error("the room behind bytes was written to")
		}
	}
	for _, s := range n.Names[len(n.Names):cap(n.Names)] {
		if s != "stained" {
			t.Error("the room behind names was written to")
		}
	}
	for _, kid := range n.Nodes[len(n.Nodes):cap(n.Nodes)] {
		if kid.Kind != 99 {
			t.Error("the room behind nodes was written to")
		}
	}
}

// spoilAll changes everything in a node, and the room behind it.
func spoilAll(n *api.Node) {
	for i := range n.Nodes {
		spoilAll(&n.Nodes[i])
	}
	for i := range n.Data {
		n.Data[i] ^= 255
	}
	for i := range n.Names {
		n.Names[i] = "spoilt"
	}
	for i := range n.Nodes {
		n.Nodes[i] = link("spoilt")
	}
	stain(*n)
}

func TestNodesHandedInAreNotKept(t *testing.T) {
	x, d := newTree(t, 60)
	n := spread(sample())
	stain(n)
	put(t, x, "/a", n)
	failsPut(t, x, d, "/a", n, api.ErrThere)
	if tree.Right(n) != api.OK || tree.Sectors(n) == 0 {
		t.Error("a node that may be")
	}
	if !same(n, sample()) {
		t.Error("what was handed in has changed")
	}
	stained(t, n)
	spoilAll(&n)
	gets(t, x, "/a", sample())
	put(t, x, "/a/e/more", file("more"))
	remove(t, x, "/a/f")
	commit(t, x)
	gets(t, mount(t, d), "/", whole(t, x))
	stained(t, n)
}

func TestNodesToldAreNew(t *testing.T) {
	x, d := newTree(t, 60)
	put(t, x, "/a", sample())
	for range 2 {
		for path, want := range map[string]api.Node{"/a": sample(), "/": dir(entry{"a", sample()}), "/a/f": file("x"), "/a/d": sample().Nodes[0], "/a/e": dir()} {
			one, _ := x.Get(path)
			two, _ := x.Get(path)
			stain(one)
			if !same(one, want) {
				t.Errorf("Get(%q): lists share memory", path)
			}
			spoilAll(&one)
			if !same(two, want) {
				t.Errorf("Get(%q): two answers share memory", path)
			}
			gets(t, x, path, want)
		}
		commit(t, x)
		x = mount(t, d)
	}
	held := whole(t, x)
	remove(t, x, "/a/d")
	rename(t, x, "/a/f", "/a/g")
	put(t, x, "/a/f", file("other"))
	abort(t, x)
	if !same(held, dir(entry{"a", sample()})) {
		t.Error("what was told has changed")
	}
}

func TestANodePutTwiceIsTwo(t *testing.T) {
	x, _ := newTree(t, 60)
	n := sample()
	put(t, x, "/a", n)
	put(t, x, "/b", n)
	put(t, x, "/a/e/x", file("x"))
	remove(t, x, "/a/d")
	gets(t, x, "/b", sample())
	shared := dir(entry{"f", file("x")})
	put(t, x, "/c", dir(entry{"x", shared}, entry{"y", shared}))
	remove(t, x, "/c/x/f")
	gets(t, x, "/c", dir(entry{"x", dir()}, entry{"y", shared}))
}

// Trees that are nil, or that no call made.

func TestTreesThatNoCallMade(t *testing.T) {
	noDisk, _ := tree.Format(nil)
	unmade, _ := tree.Mount(&block.Disk{})
	blank, _ := tree.Mount(newDisk(t, 20))
	small, _ := tree.Format(newDisk(t, 7))
	for i, x := range []*tree.Tree{nil, {}, new(tree.Tree), noDisk, unmade, blank, small} {
		t.Run(fmt.Sprint(i), func(t *testing.T) {
			for range 2 {
				for _, path := range []string{"", "/", "/a", "a", "//"} {
					lacks(t, x, path, api.ErrNil)
					for _, n := range []api.Node{{}, file("x"), dir(), link("")} {
						if e := x.Put(path, n); e != api.ErrNil {
							t.Errorf("Put(%q): %v", path, e)
						}
					}
					if e := x.Remove(path); e != api.ErrNil {
						t.Errorf("Remove(%q): %v", path, e)
					}
					for _, to := range []string{"", "/", "/a", "/b"} {
						if e := x.Rename(path, to); e != api.ErrNil {
							t.Errorf("Rename(%q, %q): %v", path, to, e)
						}
					}
				}
				if e := x.Commit(); e != api.ErrNil {
					t.Errorf("Commit: %v", e)
				}
				if e := x.Abort(); e != api.ErrNil {
					t.Errorf("Abort: %v", e)
				}
				room(t, x, 0, 0)
			}
		})
	}
}
