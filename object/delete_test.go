package object_test

import (
	"testing"

	"stillroom/api"
)

// P11.5

func TestDelete(t *testing.T) {
	s := newScene(t)
	put(t, s.tree, "/other", rich())
	add(t, s.objects, pathA, rich(), nil, "")
	add(t, s.objects, pathB, rich(), nil, "")
	events := s.disk.Events()
	is(t, "Delete", s.objects.Delete(pathA), api.OK)
	if s.disk.Events() != events {
		t.Error("the disk has changed")
	}
	isNone(t, "deleted", s.objects, pathA)
	for _, at := range []string{pathA, infoPath(pathA)} {
		if n, e := s.tree.Get(at); e != api.ErrNone {
			t.Errorf("%s: %s, %v", at, short(n), e)
		}
	}
	if n, e := s.tree.Get("/other"); e != api.OK || !same(n, rich()) {
		t.Errorf("/other: %s, %v", short(n), e)
	}
	is(t, "Remove", s.tree.Remove("/other"), api.OK)
	holds(t, "the other one", s.tree, s.objects, store{pathB: {node: rich()}})
	is(t, "again", s.objects.Delete(pathA), api.ErrNone)
}

func TestDeleteOfWhatIsUsed(t *testing.T) {
	for what, refs := range map[string][]string{
		"it alone":           {pathB},
		"it at first":        {pathB, pathC},
		"it at last":         {pathA, pathB},
		"it among others":    {pathA, pathB, pathC},
		"it, and itself too": {pathB, pathD},
	} {
		s := newScene(t)
		for _, p := range []string{pathA, pathB, pathC} {
			add(t, s.objects, p, file("x"), nil, "")
		}
		add(t, s.objects, pathD, file("d"), refs, "")
		still(t, what, s.disk, s.tree, func() { is(t, what, s.objects.Delete(pathB), api.ErrUsed) })
		tells(t, what, s.objects, pathB, thing{node: file("x")})
		is(t, what+": the one that refers", s.objects.Delete(pathD), api.OK)
		is(t, what+": nobody refers any more", s.objects.Delete(pathB), api.OK)
		holds(t, what, s.tree, s.objects, store{pathA: {node: file("x")}, pathC: {node: file("x")}})
	}
}

func TestDeleteOfWhatSeveralUse(t *testing.T) {
	s := newScene(t)
	add(t, s.objects, pathB, file("x"), []string{pathB}, "")
	for _, p := range []string{pathA, pathC, pathD} {
		add(t, s.objects, p, file("x"), []string{pathB}, "")
	}
	for _, p := range []string{pathC, pathA, pathD} {
		is(t, "still used", s.objects.Delete(pathB), api.ErrUsed)
		is(t, "one that refers", s.objects.Delete(p), api.OK)
	}
	is(t, "only itself refers", s.objects.Delete(pathB), api.OK)
	holds(t, "at last", s.tree, s.objects, store{})
}

func TestDeleteOfWhatOnlyItselfUses(t *testing.T) {
	s := newScene(t)
	add(t, s.objects, pathA, file("x"), nil, "")
	add(t, s.objects, pathC, file("y"), []string{pathA, pathC}, pathC)
	is(t, "Delete", s.objects.Delete(pathC), api.OK)
	holds(t, "deleted", s.tree, s.objects, store{pathA: {node: file("x")}})
}

// What made a path is no reference of it.
func TestDeleteOfADeriver(t *testing.T) {
	s := newScene(t)
	add(t, s.objects, pathA, file("x"), nil, "")
	add(t, s.objects, pathB, file("y"), nil, pathA)
	is(t, "Delete", s.objects.Delete(pathA), api.OK)
	holds(t, "deleted", s.tree, s.objects, store{pathB: {node: file("y"), deriver: pathA}})
}

// Nor are a path's signs in a node, or another path that begins like it.
func TestDeleteOfWhatIsOnlyNamed(t *testing.T) {
	s := newScene(t)
	add(t, s.objects, pathA, file("x"), nil, "")
	add(t, s.objects, pathA+"a", file("x"), nil, "")
	add(t, s.objects, pathB, file(pathA), []string{pathA + "a"}, "")
	add(t, s.objects, pathC, link(pathA), nil, "")
	is(t, "Delete", s.objects.Delete(pathA), api.OK)
	is(t, "Delete", s.objects.Delete(pathA+"a"), api.ErrUsed)
}

func TestAddBehindDelete(t *testing.T) {
	s := newScene(t)
	add(t, s.objects, pathB, file("b"), nil, "")
	add(t, s.objects, pathA, file("x"), []string{pathB}, pathC)
	is(t, "Delete", s.objects.Delete(pathA), api.OK)
	add(t, s.objects, pathA, rich(), []string{pathA}, "")
	holds(t, "another node", s.tree, s.objects, store{pathA: {rich(), []string{pathA}, ""}, pathB: {node: file("b")}})
}
