package object_test

import (
	"slices"
	"strings"
	"testing"

	"stillroom/api"
	"stillroom/block"
	"stillroom/object"
	"stillroom/tree"
)

// scene is a disk, a tree on it, and its objects.
type scene struct {
	disk    *block.Disk
	tree    *tree.Tree
	objects *object.Objects
}

// newScene tells one without a path.
func newScene(t *testing.T) scene {
	t.Helper()
	d, x, o := begin(t)
	return scene{d, x, o}
}

// P11.4

func TestOfWhatIsNotValid(t *testing.T) {
	s := newScene(t)
	asks := func(what string) {
		t.Helper()
		still(t, what, s.disk, s.tree, func() {
			for _, p := range append(wrongPaths(), pathB, pathD, pathA+"a", pathA[:40]+"A", pathAt(0), pathA+"/bin/run", "/store/../db", pathA+"/..") {
				isNone(t, what, s.objects, p)
			}
		})
	}
	asks("no path is valid")
	add(t, s.objects, pathA, rich(), nil, pathB)
	add(t, s.objects, pathC, rich(), []string{pathA}, pathD)
	asks("others are valid")
	put(t, s.tree, pathB, file("b"))
	asks("a node without an info")
	add(t, s.objects, pathAt(7), file(""), nil, "")
	is(t, "Delete", s.objects.Delete(pathAt(7)), api.OK)
	isNone(t, "deleted", s.objects, pathAt(7))
}

func TestListRises(t *testing.T) {
	x := noise(13)
	for range 20 {
		s := newScene(t)
		l := []string{pathD, pathC, pathB, pathA, pathA + "a", pathA[:40] + "Z", pathA[:40] + "0", pathA[:40] + "_", pathA[:40] + "-", pathA[:40] + "+", pathAt(1), pathAt(10), pathAt(2), pathOf(strings.Repeat("z", 32), "a")}
		for i := range l {
			k := x.below(i + 1)
			l[i], l[k] = l[k], l[i]
		}
		for i, p := range l {
			add(t, s.objects, p, file("x"), nil, "")
			want := slices.Clone(l[:i+1])
			slices.Sort(want)
			if got := s.objects.List(); !slices.Equal(got, want) {
				t.Fatalf("List: %q, want %q", got, want)
			}
		}
	}
}

// Each call asks the tree: so what is changed there is told.
func TestVerifyOfAnotherNode(t *testing.T) {
	for what, n := range map[string]api.Node{
		"a byte more":     file("x1"),
		"a byte less":     file(""),
		"another byte":    file("y"),
		"Exec":            script("x"),
		"a Link":          link("x"),
		"a Dir":           dir(),
		"a Dir around it": dir(entry{"x", file("x")}),
	} {
		s := newScene(t)
		add(t, s.objects, pathA, file("x"), []string{pathA}, "")
		add(t, s.objects, pathC, file("x"), []string{pathA}, "")
		change(t, s.tree, pathA, n)
		still(t, what, s.disk, s.tree, func() {
			is(t, what, s.objects.Verify(pathA), api.ErrHash)
			is(t, what+": another path", s.objects.Verify(pathC), api.OK)
			if g, e := s.objects.Get(pathA); e != api.OK || !same(g, n) {
				t.Errorf("%s: Get: %s, %v", what, short(g), e)
			}
			if i, e := s.objects.Info(pathA); e != api.OK || !sameInfo(i, thing{file("x"), []string{pathA}, ""}.info(pathA)) {
				t.Errorf("%s: Info: %q, %v", what, i, e)
			}
		})
		change(t, s.tree, pathA, file("x"))
		is(t, what+": as it was", s.objects.Verify(pathA), api.OK)
	}
}

func TestVerifyOfAChangeAtADepth(t *testing.T) {
	for what, spoil := range map[string]func(x *tree.Tree) api.Errno{
		"a node more":  func(x *tree.Tree) api.Errno { return x.Put(pathA+"/bin/more", file("")) },
		"a node less":  func(x *tree.Tree) api.Errno { return x.Remove(pathA + "/bin/walk") },
		"a name":       func(x *tree.Tree) api.Errno { return x.Rename(pathA+"/eight", pathA+"/nine") },
		"another's":    func(x *tree.Tree) api.Errno { return x.Rename(pathA+"/none", pathB+"/none2") },
		"an empty Dir": func(x *tree.Tree) api.Errno { return x.Remove(pathA + "/e") },
	} {
		s := newScene(t)
		add(t, s.objects, pathA, rich(), nil, "")
		add(t, s.objects, pathB, rich(), nil, "")
		is(t, what+", ahead of it", s.objects.Verify(pathA), api.OK)
		is(t, what+", the change", spoil(s.tree), api.OK)
		is(t, what, s.objects.Verify(pathA), api.ErrHash)
	}
}

func TestVerifyOfAnotherHash(t *testing.T) {
	s := newScene(t)
	add(t, s.objects, pathA, file("x"), nil, "")
	change(t, s.tree, infoPath(pathA), file(textOf(file("y"))))
	is(t, "another hash", s.objects.Verify(pathA), api.ErrHash)
	change(t, s.tree, pathA, file("y"))
	is(t, "its node", s.objects.Verify(pathA), api.OK)
}

// What lies at an info's place and is no info's text does not make a path valid.
func TestInfosThatAreNone(t *testing.T) {
	right := textOf(file("x"))
	for what, n := range map[string]api.Node{"a Dir": dir(), "a Link": link(right), "an Exec": script(right), "noise": file("x"), "nothing": file(""), "a line more": file(right + right)} {
		s := newScene(t)
		add(t, s.objects, pathA, file("x"), nil, "")
		add(t, s.objects, pathC, file("x"), nil, "")
		change(t, s.tree, infoPath(pathA), n)
		still(t, what, s.disk, s.tree, func() {
			isNone(t, what, s.objects, pathA)
			is(t, what+": Add with it", s.objects.Add(pathD, file(""), []string{pathA}, ""), api.ErrNone)
		})
		if l := s.objects.List(); !slices.Equal(l, []string{pathC}) {
			t.Errorf("%s: List: %q", what, l)
		}
	}
}

// A path is valid where its info is: List tells it, though its node is gone.
func TestNodesThatAreGone(t *testing.T) {
	s := newScene(t)
	add(t, s.objects, pathA, file("x"), nil, "")
	is(t, "Remove", s.tree.Remove(pathA), api.OK)
	if n, e := s.objects.Get(pathA); e != api.ErrNone || !same(n, api.Node{}) {
		t.Errorf("Get: %s, %v", short(n), e)
	}
	is(t, "Verify", s.objects.Verify(pathA), api.ErrNone)
	is(t, "Add", s.objects.Add(pathA, file("x"), nil, ""), api.ErrThere)
	if l := s.objects.List(); !slices.Equal(l, []string{pathA}) {
		t.Errorf("List: %q", l)
	}
	is(t, "Delete", s.objects.Delete(pathA), api.OK)
	holds(t, "deleted", s.tree, s.objects, store{})
}

func TestStoreThatIsGone(t *testing.T) {
	s := newScene(t)
	add(t, s.objects, pathA, file("x"), nil, "")
	is(t, "Remove", s.tree.Remove("/store"), api.OK)
	for _, what := range []string{"no /store", "/store is a File"} {
		if n, e := s.objects.Get(pathA); e != api.ErrNone || !same(n, api.Node{}) {
			t.Errorf("%s: Get: %s, %v", what, short(n), e)
		}
		is(t, what+": Verify", s.objects.Verify(pathA), api.ErrNone)
		s.tree.Put("/store", file("x"))
	}
	is(t, "Remove", s.tree.Remove("/db"), api.OK)
	isNone(t, "no /db", s.objects, pathA)
	put(t, s.tree, "/db", file("x"))
	isNone(t, "/db is a File", s.objects, pathA)
}
