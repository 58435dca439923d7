package object_test

import (
	"fmt"
	"slices"
	"strings"
	"testing"

	"stillroom/api"
	"stillroom/object"
	"stillroom/tree"
)

// P11.3

// The chapter's example.
func TestExample(t *testing.T) {
	_, x, o := begin(t)
	p, q := pathA, pathC
	is(t, "Add(p)", o.Add(p, file("x"), nil, ""), api.OK)
	if l := o.List(); !slices.Equal(l, []string{p}) {
		t.Errorf("List: %q", l)
	}
	if i, e := o.Info(p); e != api.OK || i.Hash != hashOf(file("x")) {
		t.Errorf("Info: %q, %v", i, e)
	}
	is(t, "Add(q)", o.Add(q, file("y"), []string{p}, p), api.OK)
	holds(t, "both", x, o, store{p: {node: file("x")}, q: {node: file("y"), refs: []string{p}, deriver: p}})
	is(t, "Delete(p)", o.Delete(p), api.ErrUsed)
	is(t, "Delete(q)", o.Delete(q), api.OK)
	is(t, "Delete(p)", o.Delete(p), api.OK)
	holds(t, "at last", x, o, store{})
}

// A digest that was worked out by other means: that of the archive of the File x.
func TestHashWrittenOut(t *testing.T) {
	_, _, o := begin(t)
	add(t, o, pathA, file("x"), nil, "")
	const want = "634lch453ss3dfs1jb28lbvifbz3xqg5hq0x7vh9l6sz6x5qvwm0"
	if i, _ := o.Info(pathA); i.Hash != want {
		t.Errorf("%q, want %q", i.Hash, want)
	}
}

// rightNodes tells nodes of each kind.
func rightNodes() map[string]api.Node {
	return map[string]api.Node{
		"a File without bytes":      file(""),
		"a File":                    file("x"),
		"a File of all bytes":       file(strings.Repeat("f", api.MaxFile)),
		"a File of an info's text":  file(textOf(file("x"))),
		"an Exec without bytes":     script(""),
		"an Exec":                   script("#!x"),
		"a Link":                    link("x"),
		"a Link to a path":          link(pathB),
		"a Link of all bytes":       link(strings.Repeat("l", 1024)),
		"an empty Dir":              dir(),
		"a Dir with an empty name":  dir(entry{"x", file("")}),
		"a Dir of everything":       rich(),
		"a Dir of a path's name":    dir(entry{lastName(pathA), dir(entry{lastName(pathA), link(pathA)})}),
		"a Dir as deep as may be":   under(api.MaxDepth-2, file("x")),
		"a Dir of many":             wide(api.MaxNodes - 4),
		"a Dir named as the layer":  dir(entry{"db", dir()}, entry{"store", dir()}),
		"a File with lists, empty":  {Kind: api.File, Data: []byte{}, Names: []string{}, Nodes: []api.Node{}},
		"a Dir with bytes of none":  {Kind: api.Dir, Data: []byte{}, Names: []string{}, Nodes: []api.Node{}},
		"a Link with lists, empty":  {Kind: api.Link, Data: []byte("x"), Names: []string{}, Nodes: []api.Node{}},
		"a File of bytes 0 and 255": file("\x00\xff\n"),
	}
}

func TestAddOfEachKind(t *testing.T) {
	for what, n := range rightNodes() {
		d, x, o := begin(t)
		events := d.Events()
		add(t, o, pathA, n, nil, "")
		holds(t, what, x, o, store{pathA: {node: n}})
		if d.Events() != events {
			t.Errorf("%s: the disk has changed", what)
		}
		is(t, what+": Commit", x.Commit(), api.OK)
		y, e := tree.Mount(d)
		is(t, what+": Mount", e, api.OK)
		holds(t, what+", mounted", y, open(t, y), store{pathA: {node: n}})
	}
}

func TestAddOfTheSameNodeTwice(t *testing.T) {
	_, x, o := begin(t)
	add(t, o, pathB, rich(), nil, "")
	add(t, o, pathA, rich(), []string{pathB}, pathB)
	s := store{pathA: {node: rich(), refs: []string{pathB}, deriver: pathB}, pathB: {node: rich()}}
	holds(t, "both", x, o, s)
	a, _ := o.Info(pathA)
	if b, _ := o.Info(pathB); a.Hash != b.Hash {
		t.Errorf("%q, %q", a.Hash, b.Hash)
	}
	is(t, "Delete", o.Delete(pathA), api.OK)
	delete(s, pathA)
	holds(t, "one", x, o, s)
}

// Paths that are nearly alike are others.
func TestAddOfNearlyTheSamePath(t *testing.T) {
	_, x, o := begin(t)
	s := store{}
	for i, p := range []string{pathA, pathA + "a", pathA[:40] + "A", pathB, pathC, pathC + ".1", pathOf(strings.Repeat("0", 32), "0"), pathOf(strings.Repeat("z", 32), "a"), pathD} {
		h := thing{node: file(fmt.Sprint(i))}
		is(t, p, o.Add(p, h.node, nil, ""), api.OK)
		s[p] = h
	}
	holds(t, "all", x, o, s)
}

func TestAddWithReferences(t *testing.T) {
	for what, refs := range map[string][]string{
		"none":                     nil,
		"a list without any":       {},
		"one":                      {pathA},
		"two":                      {pathA, pathB},
		"itself":                   {pathC},
		"itself at last":           {pathA, pathB, pathC},
		"itself among others":      {pathA, pathC, pathD},
		"itself at first":          {pathC, pathD},
		"all others":               {pathA, pathB, pathD},
		"itself and all the other": {pathA, pathB, pathC, pathD},
	} {
		_, x, o := begin(t)
		s := store{pathA: {node: file("a")}, pathB: {node: link("b")}, pathD: {node: dir()}}
		for p, h := range s {
			add(t, o, p, h.node, nil, "")
		}
		add(t, o, pathC, rich(), refs, "")
		s[pathC] = thing{node: rich(), refs: refs}
		holds(t, what, x, o, s)
		holds(t, what+", opened anew", x, open(t, x), s)
	}
}

func TestAddWithDeriver(t *testing.T) {
	for what, deriver := range map[string]string{"none": "", "a valid one": pathA, "one that is not valid": pathD, "itself": pathC} {
		_, x, o := begin(t)
		add(t, o, pathA, file("a"), nil, "")
		add(t, o, pathC, file("c"), nil, deriver)
		holds(t, what, x, o, store{pathA: {node: file("a")}, pathC: {node: file("c"), deriver: deriver}})
	}
}

// addsNot asks that Add tells this error, and that nothing changes.
func addsNot(t *testing.T, what string, s scene, path string, n api.Node, refs []string, deriver string, want api.Errno) {
	t.Helper()
	still(t, what, s.disk, s.tree, func() {
		is(t, what, s.objects.Add(path, n, refs, deriver), want)
	})
}

func TestAddOfNoPath(t *testing.T) {
	s := newScene(t)
	add(t, s.objects, pathA, file("a"), nil, "")
	for _, p := range wrongPaths() {
		addsNot(t, fmt.Sprintf("the path %q", p), s, p, file("x"), nil, "", api.ErrName)
		addsNot(t, fmt.Sprintf("the ref %q", p), s, pathB, file("x"), []string{p}, "", api.ErrName)
		addsNot(t, fmt.Sprintf("the first ref %q", p), s, pathB, file("x"), []string{p, pathA}, "", api.ErrName)
		addsNot(t, fmt.Sprintf("the last ref %q", p), s, pathB, file("x"), []string{pathA, p}, "", api.ErrName)
		addsNot(t, fmt.Sprintf("the path and its ref %q", p), s, p, file("x"), []string{p}, "", api.ErrName)
		if p != "" {
			addsNot(t, fmt.Sprintf("the deriver %q", p), s, pathB, file("x"), nil, p, api.ErrName)
		}
	}
	wrongAtLast := append(pathsTo(api.MaxItems+1), "x")
	addsNot(t, "too many refs, the last is none", s, pathB, file("x"), wrongAtLast, "", api.ErrName)
}

// wrongNodes tells nodes that may not be, by each of tree.Right's errors.
func wrongNodes() map[string]api.Node {
	return map[string]api.Node{
		"no kind":                  {},
		"another kind":             {Kind: 4},
		"a File with Names":        {Kind: api.File, Names: []string{"a"}},
		"a Link that is Exec":      {Kind: api.Link, Data: []byte("x"), Exec: true},
		"a Dir with bytes":         {Kind: api.Dir, Data: []byte("x")},
		"unlike counts":            {Kind: api.Dir, Names: []string{"a", "b"}, Nodes: []api.Node{file("")}},
		"a File of too many bytes": file(strings.Repeat("f", api.MaxFile+1)),
		"a Link of too many bytes": link(strings.Repeat("l", 1025)),
		"a Link without bytes":     link(""),
		"a name that is none":      dir(entry{"a/b", file("")}),
		"names that fall":          dir(entry{"b", file("")}, entry{"a", file("")}),
		"a wrong one at a depth":   dir(entry{"a", dir(entry{"b", link("")})}),
		"too deep":                 under(api.MaxDepth+1, file("")),
		"too many":                 wide(api.MaxNodes + 1),
		"within itself":            within(),
	}
}

func TestAddOfWrongNodes(t *testing.T) {
	s := newScene(t)
	add(t, s.objects, pathA, file("a"), nil, "")
	told := map[api.Errno]bool{}
	for what, n := range wrongNodes() {
		want := tree.Right(n)
		told[want] = true
		addsNot(t, what, s, pathB, n, []string{pathA}, pathA, want)
		addsNot(t, what+", refs that fall, of a valid path", s, pathA, n, []string{pathC, pathB}, "", want)
	}
	if told[api.OK] || !told[api.ErrKind] || !told[api.ErrBig] || !told[api.ErrArg] || !told[api.ErrName] {
		t.Errorf("the errors: %v", told)
	}
}

func TestAddOfWrongReferences(t *testing.T) {
	s := newScene(t)
	for _, p := range []string{pathA, pathB, pathC} {
		add(t, s.objects, p, file("x"), nil, "")
	}
	for what, refs := range map[string][]string{
		"they fall":                {pathB, pathA},
		"they fall at last":        {pathA, pathC, pathB},
		"twice":                    {pathA, pathA},
		"twice, apart":             {pathA, pathB, pathA},
		"itself twice":             {pathD, pathD},
		"they fall, one not there": {pathD, pathAt(1)},
		"one too many":             pathsTo(api.MaxItems + 1),
		"many too many":            pathsTo(4 * api.MaxItems),
	} {
		addsNot(t, what, s, pathD, file("x"), refs, "", api.ErrForm)
		addsNot(t, what+", of a valid path", s, pathA, file("x"), refs, "", api.ErrForm)
	}
	// As many as may be are more than a tree has room for: one of them is not valid.
	addsNot(t, "as many as may be", s, pathD, file("x"), pathsTo(api.MaxItems), "", api.ErrNone)
	addsNot(t, "as many as may be, of a valid path", s, pathA, file("x"), pathsTo(api.MaxItems), "", api.ErrThere)
}

func TestAddOfAValidPath(t *testing.T) {
	s := newScene(t)
	add(t, s.objects, pathA, file("a"), []string{pathA}, pathB)
	for what, h := range map[string]thing{
		"the same":                {file("a"), []string{pathA}, pathB},
		"another node":            {rich(), []string{pathA}, pathB},
		"other refs":              {file("a"), nil, pathB},
		"refs that are not valid": {file("a"), []string{pathB, pathC}, pathB},
		"another deriver":         {file("a"), []string{pathA}, ""},
		"too deep for the tree":   {under(31, file("")), nil, ""},
	} {
		addsNot(t, what, s, pathA, h.node, h.refs, h.deriver, api.ErrThere)
	}
	holds(t, "at last", s.tree, s.objects, store{pathA: {file("a"), []string{pathA}, pathB}})
}

func TestAddWithReferencesThatAreNotValid(t *testing.T) {
	s := newScene(t)
	add(t, s.objects, pathA, file("a"), nil, "")
	add(t, s.objects, pathC, file("c"), nil, pathB+"b")
	for what, refs := range map[string][]string{
		"one":                    {pathB},
		"one behind a valid one": {pathA, pathB},
		"one ahead of it":        {pathB, pathC},
		"one among them":         {pathA, pathB, pathC},
		"one, and itself":        {pathB, pathD},
		"a deriver":              {pathB + "b"},
		"two":                    {pathAt(1), pathAt(2)},
	} {
		addsNot(t, what, s, pathD, file("x"), refs, "", api.ErrNone)
	}
	// What was deleted is not valid any more.
	is(t, "Delete", s.objects.Delete(pathA), api.OK)
	addsNot(t, "deleted", s, pathD, file("x"), []string{pathA}, "", api.ErrNone)
	// What lies in the tree without an info is not valid.
	put(t, s.tree, pathB, file("b"))
	addsNot(t, "without an info", s, pathD, file("x"), []string{pathB}, "", api.ErrNone)
}

// Of several errors the one is told that the chapter names first.
func TestAddWithSeveralErrors(t *testing.T) {
	s := newScene(t)
	for _, p := range []string{pathA, pathC} {
		add(t, s.objects, p, file("x"), nil, "")
	}
	const name, right, form, there, none, full = 1, 2, 4, 8, 16, 32
	first := []struct {
		fault int
		want  api.Errno
	}{{name, api.ErrName}, {right, api.ErrArg}, {form, api.ErrForm}, {there, api.ErrThere}, {none, api.ErrNone}, {full, api.ErrBig}}
	for faults := 1; faults < 2*full; faults++ {
		path, n, refs, deriver := pathD, file("x"), []string{pathA, pathC}, ""
		if faults&full != 0 {
			n = under(31, file("x"))
		}
		if faults&none != 0 {
			refs = []string{pathA, pathB}
		}
		if faults&there != 0 {
			path = pathA
		}
		if faults&form != 0 {
			slices.Reverse(refs)
		}
		if faults&right != 0 {
			n = link("")
		}
		if faults&name != 0 {
			deriver = "x"
		}
		for _, f := range first {
			if faults&f.fault != 0 {
				addsNot(t, fmt.Sprintf("faults %06b", faults), s, path, n, refs, deriver, f.want)
				break
			}
		}
		for _, o := range []*object.Objects{nil, {}} {
			is(t, fmt.Sprintf("no objects, faults %06b", faults), o.Add(path, n, refs, deriver), api.ErrNil)
		}
	}
}

func TestAddWithoutDepth(t *testing.T) {
	s := newScene(t)
	addsNot(t, "one too deep", s, pathA, under(api.MaxDepth-1, file("")), nil, "", api.ErrBig)
	addsNot(t, "two too deep", s, pathA, under(api.MaxDepth, file("")), nil, "", api.ErrBig)
	add(t, s.objects, pathA, under(api.MaxDepth-2, file("")), nil, "")
}

func TestAddWithoutRoom(t *testing.T) {
	for _, c := range []struct {
		left int // how many nodes the tree has room for
		node api.Node
		want api.Errno
	}{
		{0, file(""), api.ErrBig}, {1, file(""), api.ErrBig}, {2, file(""), api.OK},
		{3, wide(3), api.ErrBig}, {4, wide(3), api.OK}, {2, wide(3), api.ErrBig}, {4, wide(100), api.ErrBig},
	} {
		s := newScene(t)
		put(t, s.tree, "/filler", wide(api.MaxNodes-3-c.left))
		what := fmt.Sprintf("room for %d, a node of %d", c.left, 1+len(c.node.Nodes))
		if c.want == api.OK {
			add(t, s.objects, pathA, c.node, []string{pathA}, pathB)
			tells(t, what, s.objects, pathA, thing{c.node, []string{pathA}, pathB})
			continue
		}
		addsNot(t, what, s, pathA, c.node, []string{pathA}, pathB, c.want)
		isNone(t, what, s.objects, pathA)
		// It is a fault of the room alone.
		is(t, what, s.tree.Remove("/filler"), api.OK)
		add(t, s.objects, pathA, c.node, []string{pathA}, pathB)
	}
}

// A disk's room is asked for by a commit alone.
func TestAddOnAFullDisk(t *testing.T) {
	s := newScene(t)
	for i := range 17 {
		add(t, s.objects, pathAt(i), file(strings.Repeat("f", api.MaxFile)), pathsTo(i), "")
	}
	if needs, free := s.tree.Room(); needs <= free {
		t.Fatalf("it needs %d, free are %d", needs, free)
	}
	is(t, "Commit", s.tree.Commit(), api.ErrFull)
	for i := range 17 {
		is(t, "Verify", s.objects.Verify(pathAt(i)), api.OK)
	}
}

func TestAddOfManyPaths(t *testing.T) {
	s := newScene(t)
	// 503 entries of 63 bytes are 31689 of the 31744 that a directory may have.
	for i := range 503 {
		add(t, s.objects, pathAt(i), file(""), nil, "")
	}
	addsNot(t, "one too many", s, pathAt(503), file(""), nil, "", api.ErrBig)
	short := pathOf(strings.Repeat("z", 32), "a")
	add(t, s.objects, short, file(""), nil, "")
	if l := s.objects.List(); !slices.Equal(l, append(pathsTo(503), short)) {
		t.Errorf("%d paths", len(l))
	}
	open(t, s.tree)
}

// An info's text must be a File: with the longest names 440 references have room
// there, 58 bytes of the hash and 72 of each.
func TestAddOfManyReferences(t *testing.T) {
	s := newScene(t)
	l := pathsTo(441)
	for _, p := range l {
		add(t, s.objects, p, file(""), nil, "")
	}
	addsNot(t, "one too many", s, pathA, file("x"), l, "", api.ErrBig)
	addsNot(t, "a deriver too many", s, pathA, file("x"), l[:440], pathC, api.ErrBig)
	isNone(t, "one too many", s.objects, pathA)
	add(t, s.objects, pathA, file("x"), l[:440], "")
	tells(t, "as many as have room", s.objects, pathA, thing{node: file("x"), refs: l[:440]})
	is(t, "Delete", s.objects.Delete(l[439]), api.ErrUsed)
	is(t, "Delete", s.objects.Delete(l[440]), api.OK)
}

// What lies in the way behind the objects' back is told as tree tells it.
func TestAddWhereSomethingLies(t *testing.T) {
	s := newScene(t)
	put(t, s.tree, pathA, file("a"))
	addsNot(t, "a node without an info", s, pathA, file("a"), nil, "", api.ErrThere)
	put(t, s.tree, infoPath(pathB), file("b"))
	addsNot(t, "an info's place is taken", s, pathB, file("b"), nil, "", api.ErrThere)
	for what, n := range map[string]api.Node{"a Dir": dir(), "a Link": link("x"), "an Exec": script(textOf(file("b")))} {
		change(t, s.tree, infoPath(pathB), n)
		addsNot(t, what, s, pathB, file("b"), nil, "", api.ErrThere)
	}
	is(t, "Remove", s.tree.Remove("/db"), api.OK)
	addsNot(t, "no /db", s, pathC, file("c"), nil, "", api.ErrNone)
	put(t, s.tree, "/db", file(""))
	addsNot(t, "/db is a File", s, pathC, file("c"), nil, "", api.ErrKind)
	is(t, "Remove", s.tree.Remove("/store"), api.OK)
	addsNot(t, "no /store", s, pathC, file("c"), nil, "", api.ErrNone)
}
