package object_test

import (
	"fmt"
	"maps"
	"slices"
	"testing"

	"stillroom/api"
	"stillroom/object"
	"stillroom/tree"
)

// P11.6

// history is a scene with what a plain store has then, now and as it was
// committed last.
type history struct {
	scene
	now, committed store
}

// paths are those that a history has.
func paths() []string {
	return []string{pathA, pathA + "a", pathB, pathC, pathD, pathAt(1), pathAt(2)}
}

// adds adds something, and tells what was done.
func (h *history) adds(t *testing.T, x *noise) string {
	p, n, deriver := oneOf(x, paths()...), x.node(3), oneOf(x, append(paths(), "", "")...)
	var refs []string
	for range x.below(4) {
		refs = append(refs, oneOf(x, paths()...))
	}
	if x.below(8) > 0 {
		slices.Sort(refs)
		refs = slices.Compact(refs)
	}
	want := api.OK
	_, there := h.now[p]
	missing := slices.ContainsFunc(refs, func(ref string) bool {
		_, there := h.now[ref]
		return !there && ref != p
	})
	switch {
	case !slices.IsSorted(refs) || len(slices.Compact(slices.Clone(refs))) < len(refs):
		want = api.ErrForm
	case there:
		want = api.ErrThere
	case missing:
		want = api.ErrNone
	default:
		h.now[p] = thing{n, refs, deriver}
	}
	what := fmt.Sprintf("Add(%s, %s, %q, %q)", p, short(n), refs, deriver)
	is(t, what, h.objects.Add(p, n, refs, deriver), want)
	return what
}

// deletes deletes something, and tells what was done.
func (h *history) deletes(t *testing.T, x *noise) string {
	p := oneOf(x, paths()...)
	want := h.now.refuses(p)
	if want == api.OK {
		delete(h.now, p)
	}
	what := fmt.Sprintf("Delete(%s)", p)
	is(t, what, h.objects.Delete(p), want)
	return what
}

// step does something, and tells what.
func (h *history) step(t *testing.T, x *noise) string {
	switch k := x.below(20); {
	case k < 9:
		return h.adds(t, x)
	case k < 15:
		return h.deletes(t, x)
	case k < 16:
		h.objects = open(t, h.tree)
		return "Open"
	case k < 18:
		is(t, "Commit", h.tree.Commit(), api.OK)
		h.committed = maps.Clone(h.now)
		return "Commit"
	case k < 19:
		is(t, "Abort", h.tree.Abort(), api.OK)
		h.now = maps.Clone(h.committed)
		return "Abort"
	}
	y, e := tree.Mount(h.disk)
	is(t, "Mount", e, api.OK)
	h.tree, h.objects, h.now = y, open(t, y), maps.Clone(h.committed)
	return "Mount"
}

// closed asks that each reference of a valid path is valid.
func closed(t *testing.T, what string, o *object.Objects) {
	t.Helper()
	l := o.List()
	for _, p := range l {
		i, e := o.Info(p)
		is(t, what+": Info", e, api.OK)
		for _, ref := range i.Refs {
			if !slices.Contains(l, ref) {
				t.Errorf("%s: %s refers to %s, which is not valid", what, p, ref)
			}
		}
	}
}

func TestManyHistories(t *testing.T) {
	x := noise(14)
	for round := range 60 {
		h := history{newScene(t), store{}, store{}}
		is(t, "Commit", h.tree.Commit(), api.OK)
		for k := range 60 {
			what := fmt.Sprintf("round %d, step %d, %s", round, k, h.step(t, &x))
			holds(t, what, h.tree, h.objects, h.now)
			closed(t, what, h.objects)
			for _, p := range paths() {
				if _, there := h.now[p]; !there {
					isNone(t, what, h.objects, p)
				}
			}
			if t.Failed() {
				return
			}
		}
	}
}

// Behind a power loss anywhere the objects are those that were committed last, or
// those that were being committed.
func TestPowerLoss(t *testing.T) {
	s := newScene(t)
	is(t, "Commit", s.tree.Commit(), api.OK)
	add(t, s.objects, pathB, rich(), nil, "")
	add(t, s.objects, pathA, file("x"), []string{pathB}, pathC)
	is(t, "Commit", s.tree.Commit(), api.OK)
	before := store{pathA: {file("x"), []string{pathB}, pathC}, pathB: {node: rich()}}
	begun := s.disk.Events()
	is(t, "Delete", s.objects.Delete(pathA), api.OK)
	is(t, "Delete", s.objects.Delete(pathB), api.OK)
	add(t, s.objects, pathC, link("x"), []string{pathC}, "")
	is(t, "Commit", s.tree.Commit(), api.OK)
	after := store{pathC: {link("x"), []string{pathC}, ""}}
	x := noise(15)
	for events := begun; events <= s.disk.Events(); events++ {
		for range 8 {
			keep := make([]bool, 40)
			for i := range keep {
				keep[i] = x.below(2) == 0
			}
			d, e := s.disk.After(events, keep)
			is(t, "After", e, api.OK)
			y, e := tree.Mount(d)
			is(t, "Mount", e, api.OK)
			o := open(t, y)
			want := before
			if _, e := o.Info(pathC); e == api.OK {
				want = after
			}
			holds(t, fmt.Sprint("behind ", events, " events"), y, o, want)
			closed(t, fmt.Sprint("behind ", events, " events"), o)
		}
	}
	y, _ := tree.Mount(s.disk)
	holds(t, "behind all events", y, open(t, y), after)
}
