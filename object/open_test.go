package object_test

import (
	"fmt"
	"slices"
	"strings"
	"testing"

	"stillroom/api"
	"stillroom/block"
	"stillroom/object"
	"stillroom/tree"
)

// P11.1

// textOf tells the info's text of a node without references.
func textOf(n api.Node) string { return plainText(api.Info{Hash: hashOf(n)}) }

// opensNot asks that Open tells this error, no objects, and that nothing changes.
func opensNot(t *testing.T, what string, d *block.Disk, x *tree.Tree, want api.Errno) {
	t.Helper()
	still(t, what, d, x, func() {
		if o, e := object.Open(x); e != want || o != nil {
			t.Errorf("%s: Open: %v, %v, want %v", what, o, e, want)
		}
	})
}

func TestOpenOfNoTree(t *testing.T) {
	for what, x := range map[string]*tree.Tree{"nil": nil, "no call made it": {}} {
		if o, e := object.Open(x); e != api.ErrNil || o != nil {
			t.Errorf("%s: %v, %v", what, o, e)
		}
	}
}

func TestOpenPutsWhatIsMissing(t *testing.T) {
	for _, there := range [][]string{nil, {"/store"}, {"/db"}, {"/store", "/db"}} {
		d, x := fresh(t)
		for _, at := range there {
			put(t, x, at, dir())
		}
		events := d.Events()
		o := open(t, x)
		what := fmt.Sprint("with ", there)
		holds(t, what, x, o, store{})
		if d.Events() != events {
			t.Errorf("%s: the disk has changed", what)
		}
		y, e := tree.Mount(d)
		if e != api.OK || !same(all(t, y), dir()) {
			t.Errorf("%s: something was committed: %s, %v", what, short(all(t, y)), e)
		}
	}
}

func TestOpenLeavesWhatElseIsThere(t *testing.T) {
	_, x := fresh(t)
	put(t, x, "/a", rich())
	put(t, x, "/store2", file("x"))
	put(t, x, "/x", link("/store"))
	open(t, x)
	want := dir(entry{"a", rich()}, entry{"db", dir()}, entry{"store", dir()}, entry{"store2", file("x")}, entry{"x", link("/store")})
	if n := all(t, x); !same(n, want) {
		t.Errorf("%s", short(n))
	}
}

func TestOpenFindsWhatIsThere(t *testing.T) {
	s := store{
		pathA: {node: file("x")},
		pathB: {node: rich(), refs: []string{pathA, pathB}, deriver: pathC},
		pathD: {node: link("x"), refs: []string{pathA}, deriver: pathA},
	}
	d, x := fresh(t)
	for i, n := range s.whole().Nodes {
		put(t, x, "/"+s.whole().Names[i], n)
	}
	still(t, "Open", d, x, func() { holds(t, "put by hand", x, open(t, x), s) })
	if e := x.Commit(); e != api.OK {
		t.Fatal(e)
	}
	y, e := tree.Mount(d)
	if e != api.OK {
		t.Fatal(e)
	}
	holds(t, "mounted", y, open(t, y), s)
}

// A reference or a deriver that lies nowhere is none of the things for which Open
// refuses a tree.
func TestOpenTakesInfosByThemselves(t *testing.T) {
	_, x := fresh(t)
	s := store{pathA: {node: file("x"), refs: []string{pathB, pathC}, deriver: pathD}, pathC: {node: dir(), refs: []string{pathA}}}
	for i, n := range s.whole().Nodes {
		put(t, x, "/"+s.whole().Names[i], n)
	}
	o := open(t, x)
	holds(t, "open", x, o, s)
	is(t, "Delete", o.Delete(pathA), api.ErrUsed)
	is(t, "Delete", o.Delete(pathC), api.ErrUsed)
}

// Nor is a digest that is another one: that is told by Verify.
func TestOpenDoesNotVerify(t *testing.T) {
	_, x, o := begin(t)
	add(t, o, pathA, file("x"), nil, "")
	change(t, x, pathA, file("y"))
	is(t, "Verify", open(t, x).Verify(pathA), api.ErrHash)
}

func TestOpenOfAnotherKind(t *testing.T) {
	for what, n := range map[string]api.Node{"a File": file(""), "a File with bytes": file("x"), "an Exec": script("x"), "a Link": link("/a"), "a Link to the other": link("/store")} {
		for _, at := range []string{"/store", "/db"} {
			other := map[string]string{"/store": "/db", "/db": "/store"}[at]
			d, x := fresh(t)
			put(t, x, "/a", dir())
			put(t, x, at, n)
			opensNot(t, at+": "+what, d, x, api.ErrKind)
			put(t, x, other, dir())
			opensNot(t, at+": "+what+", the other is there", d, x, api.ErrKind)
			put(t, x, other+"/x", dir())
			opensNot(t, at+": "+what+", the other has another name", d, x, api.ErrKind)
			change(t, x, other, n)
			opensNot(t, "both: "+what, d, x, api.ErrKind)
		}
	}
}

func TestOpenWithoutRoom(t *testing.T) {
	for _, c := range []struct {
		what  string
		nodes int // beside the root, and what is there
		there []entry
		want  api.Errno
	}{
		{"room for none", api.MaxNodes - 1, nil, api.ErrBig},
		{"room for one", api.MaxNodes - 2, nil, api.ErrBig},
		{"room for both", api.MaxNodes - 3, nil, api.OK},
		{"/store is there, room for none", api.MaxNodes - 2, []entry{{"store", dir()}}, api.ErrBig},
		{"/db is there, room for none", api.MaxNodes - 2, []entry{{"db", dir()}}, api.ErrBig},
		{"/store is there, room for one", api.MaxNodes - 3, []entry{{"store", dir()}}, api.OK},
		{"/db is there, room for one", api.MaxNodes - 3, []entry{{"db", dir()}}, api.OK},
		{"both are there, room for none", api.MaxNodes - 3, []entry{{"db", dir()}, {"store", dir()}}, api.OK},
		{"/db is a File, room for none", api.MaxNodes - 2, []entry{{"db", file("")}}, api.ErrBig},
		{"/store is a File, room for none", api.MaxNodes - 2, []entry{{"store", file("")}}, api.ErrBig},
		{"/db is a File, room for one", api.MaxNodes - 3, []entry{{"db", file("")}}, api.ErrKind},
		{"/db has another name, room for none", api.MaxNodes - 3, []entry{{"db", dir(entry{"x", file("")})}}, api.ErrBig},
		{"/db has another name, room for one", api.MaxNodes - 4, []entry{{"db", dir(entry{"x", file("")})}}, api.ErrForm},
	} {
		d, x := fresh(t)
		for _, e := range c.there {
			put(t, x, "/"+e.name, e.node)
		}
		put(t, x, "/filler", wide(c.nodes))
		if c.want == api.OK {
			if n, o := all(t, x), open(t, x); len(o.List()) != 0 || len(n.Names)-len(c.there) != 1 {
				t.Errorf("%s: %s", c.what, short(n))
			}
			continue
		}
		opensNot(t, c.what, d, x, c.want)
	}
}

func TestOpenWithoutRoomInTheRoot(t *testing.T) {
	// The root's entries have 31744 bytes then, less these: /store needs 8, /db 5.
	for free, want := range map[int]api.Errno{0: api.ErrBig, 5: api.ErrBig, 7: api.ErrBig, 8: api.ErrBig, 12: api.ErrBig, 13: api.OK} {
		d, x := fresh(t)
		for i := range 503 {
			put(t, x, fmt.Sprintf("/%060d", i), file(""))
		}
		// 503 entries of 63 bytes are 31689.
		put(t, x, "/"+strings.Repeat("y", 31744-31689-3-free), file(""))
		if want == api.OK {
			open(t, x)
		} else {
			opensNot(t, fmt.Sprint(free, " bytes free"), d, x, want)
		}
	}
}

func TestOpenOfWrongInfos(t *testing.T) {
	n := file("x")
	right := textOf(n)
	for _, c := range wrongTexts() {
		d, x := fresh(t)
		put(t, x, "/store", dir(entry{lastName(pathB), n}))
		put(t, x, "/db", dir(entry{lastName(pathB), file(c.text)}))
		opensNot(t, "/db: "+c.what, d, x, api.ErrForm)
	}
	for what, info := range map[string]api.Node{
		"a Dir":                   dir(),
		"a Dir with it":           dir(entry{lastName(pathB), file(right)}),
		"a Link":                  link(right),
		"a Link to it":            link(infoPath(pathA)),
		"an Exec File":            script(right),
		"an Exec File with noise": script("x"),
		"a File without bytes":    file(""),
		"a File full of noise":    file(strings.Repeat("r", api.MaxFile)),
	} {
		for _, first := range []bool{false, true} {
			d, x := fresh(t)
			open(t, x)
			good, bad := pathA, pathB
			if first {
				good, bad = bad, good
			}
			for _, p := range []string{good, bad} {
				put(t, x, p, n)
				put(t, x, infoPath(p), file(right))
			}
			still(t, what, d, x, func() { open(t, x) })
			change(t, x, infoPath(bad), info)
			opensNot(t, what, d, x, api.ErrForm)
		}
	}
}

func TestOpenOfWrongNames(t *testing.T) {
	n := file("x")
	right := file(textOf(n))
	wrong := []string{
		"x", "-", "-a", "db", "store", lastName(pathA)[:32], lastName(pathA)[:33], lastName(pathA)[1:], "0" + lastName(pathA),
		lastName(pathA)[:32] + "_a", lastName(pathA)[:33] + ".a", lastName(pathA)[:33] + strings.Repeat("n", 27)[:26] + "~",
		lastName(pathA) + "=", "e" + lastName(pathA)[1:], "A" + lastName(pathA)[1:], lastName(pathA) + ":", "%",
	}
	for _, name := range wrong {
		for what, c := range map[string]struct{ inStore, inDB bool }{"in /store": {true, false}, "in /db": {false, true}, "in both": {true, true}} {
			d, x, o := begin(t)
			add(t, o, pathC, n, nil, "")
			if c.inStore {
				put(t, x, "/store/"+name, n)
			}
			if c.inDB {
				put(t, x, "/db/"+name, right)
			}
			opensNot(t, name+" "+what, d, x, api.ErrForm)
		}
	}
}

func TestOpenOfHalves(t *testing.T) {
	n := file("x")
	for what, missing := range map[string][]string{
		"a node whose info is not there":            {infoPath(pathB)},
		"an info whose node is not there":           {pathB},
		"one of each":                               {pathA, infoPath(pathB)},
		"one of each, the other way":                {infoPath(pathA), pathB},
		"no infos":                                  {"/db"},
		"no nodes":                                  {"/store"},
		"a node whose info is not there, the first": {infoPath(pathA)},
		"an info whose node is not there, the last": {pathC},
	} {
		d, x, o := begin(t)
		for _, p := range []string{pathA, pathB, pathC} {
			add(t, o, p, n, nil, "")
		}
		for _, at := range missing {
			if e := x.Remove(at); e != api.OK {
				t.Fatal(e)
			}
		}
		opensNot(t, what, d, x, api.ErrForm)
	}
}

// Objects keep nothing but the tree: what one adds, others of that tree tell.
func TestOpenTwice(t *testing.T) {
	_, x, o := begin(t)
	s := store{pathA: {node: file("x")}}
	add(t, o, pathA, file("x"), nil, "")
	p := open(t, x)
	holds(t, "the second one", x, p, s)
	add(t, p, pathB, dir(), []string{pathA}, "")
	s[pathB] = thing{node: dir(), refs: []string{pathA}}
	holds(t, "the first one", x, o, s)
	is(t, "Add again", o.Add(pathB, dir(), nil, ""), api.ErrThere)
	is(t, "Delete by the second one", p.Delete(pathA), api.ErrUsed)
	is(t, "Delete by the first one", o.Delete(pathB), api.OK)
	is(t, "Delete by the second one", p.Delete(pathA), api.OK)
	holds(t, "the first one", x, o, store{})
	holds(t, "the second one", x, p, store{})
}

func TestOpenBehindCommitAbortAndMount(t *testing.T) {
	d, x, o := begin(t)
	s := store{pathA: {node: rich(), refs: []string{pathA}, deriver: pathB}}
	add(t, o, pathA, rich(), []string{pathA}, pathB)
	is(t, "Commit", x.Commit(), api.OK)
	holds(t, "behind a commit", x, o, s)
	holds(t, "opened behind a commit", x, open(t, x), s)

	add(t, o, pathC, file("c"), []string{pathA}, "")
	is(t, "Abort", x.Abort(), api.OK)
	holds(t, "behind an abort", x, o, s)
	holds(t, "opened behind an abort", x, open(t, x), s)

	is(t, "Delete", o.Delete(pathA), api.OK)
	y, e := tree.Mount(d)
	is(t, "Mount", e, api.OK)
	holds(t, "mounted", y, open(t, y), s)
	holds(t, "the tree that was not mounted", x, o, store{})
	is(t, "Abort", x.Abort(), api.OK)
	holds(t, "behind an abort of a Delete", x, o, s)
}

// What Open puts is not committed: an abort takes it away, too.
func TestAbortBehindOpen(t *testing.T) {
	d, x, o := begin(t)
	add(t, o, pathA, file("x"), nil, "")
	is(t, "Abort", x.Abort(), api.OK)
	if n := all(t, x); !same(n, dir()) {
		t.Errorf("%s", short(n))
	}
	still(t, "behind the abort", d, x, func() {
		isNone(t, "behind the abort", o, pathA)
		is(t, "Add", o.Add(pathA, file("x"), nil, ""), api.ErrNone)
		if l := o.List(); len(l) != 0 {
			t.Errorf("List: %q", l)
		}
	})
	open(t, x)
	add(t, o, pathA, file("x"), nil, "")
	holds(t, "opened anew", x, o, store{pathA: {node: file("x")}})
}

// Rule 1

func TestObjectsThatNoCallMade(t *testing.T) {
	for _, o := range []*object.Objects{nil, {}} {
		fails(t, "no objects", o, pathA, api.ErrNil)
		for _, p := range wrongPaths() {
			fails(t, "no objects", o, p, api.ErrNil)
		}
		if l := o.List(); len(l) != 0 {
			t.Errorf("List: %q", l)
		}
		is(t, "Add", o.Add(pathA, file("x"), nil, ""), api.ErrNil)
		is(t, "Add of what is wrong", o.Add("", within(), []string{pathB, ""}, "x"), api.ErrNil)
	}
}

// No call here writes to the disk, nor flushes it, nor forgets what is not
// committed.
func TestNoCallCommitsOrAborts(t *testing.T) {
	d, x, o := begin(t)
	put(t, x, "/mine", file("not committed"))
	events := d.Events()
	add(t, o, pathA, file("x"), nil, "")
	add(t, o, pathB, file("y"), []string{pathA}, pathA)
	o.Add(pathB, file("y"), nil, "")
	o.Add(pathC, under(31, file("")), nil, "")
	open(t, x)
	o.Get(pathA)
	o.Info(pathA)
	o.Verify(pathA)
	is(t, "Delete", o.Delete(pathA), api.ErrUsed)
	is(t, "Delete", o.Delete(pathB), api.OK)
	if l := o.List(); !slices.Equal(l, []string{pathA}) {
		t.Errorf("List: %q", l)
	}
	if d.Events() != events {
		t.Errorf("the disk has %d events, it had %d", d.Events(), events)
	}
	if n, e := x.Get("/mine"); e != api.OK || !same(n, file("not committed")) {
		t.Errorf("%s, %v", short(n), e)
	}
	y, e := tree.Mount(d)
	if e != api.OK || !same(all(t, y), dir()) {
		t.Errorf("something was committed")
	}
}
