package refdb_test

import (
	"slices"
	"testing"

	"stillroom/api"
	"stillroom/refdb"
)

// P12.4: what is dead is referred to by what is dead alone; a closure is closed.

// closed asks that what some paths reach holds all that it refers to, that it is its
// own closure, that what is dead is all else, and that what refers to the dead is
// dead.
func closed(t *testing.T, g *refdb.Graph, l []api.Info, paths []string) {
	t.Helper()
	reached, e := g.Closure(paths)
	if e != api.OK {
		t.Fatalf("Closure(%.300q): %v", paths, e)
	}
	for _, p := range paths {
		if !slices.Contains(reached, p) {
			t.Errorf("%q does not reach itself", p)
		}
	}
	closes(t, g, reached, reached)
	dead := g.Dead(paths)
	tells(t, "both together", slices.Sorted(slices.Values(append(slices.Clone(dead), reached...))), pathsOf(l))
	for _, i := range l {
		for _, ref := range i.Refs {
			if slices.Contains(reached, i.Path) && !slices.Contains(reached, ref) {
				t.Errorf("%q is reached, and refers to %q, which is not", i.Path, ref)
			}
		}
	}
	for _, p := range dead {
		by, e := g.Referrers(p)
		if e != api.OK {
			t.Errorf("Referrers(%q): %v", p, e)
		}
		for _, from := range by {
			if !slices.Contains(dead, from) {
				t.Errorf("%q is dead, and %q, which is not, refers to it", p, from)
			}
		}
	}
	// What is not dead of the living is nothing.
	leaves(t, g, reached, dead)
}

// least asks that a closure has nothing that no path of it refers to, but for the
// paths themselves.
func least(t *testing.T, g *refdb.Graph, paths []string) {
	t.Helper()
	reached, _ := g.Closure(paths)
	for _, p := range reached {
		by, _ := g.Referrers(p)
		if !slices.Contains(paths, p) && !slices.ContainsFunc(by, func(from string) bool { return slices.Contains(reached, from) }) {
			t.Errorf("%q is in the closure of %q without a reference", p, paths)
		}
	}
}

func TestClosed(t *testing.T) {
	r := noise(5)
	for _, l := range [][]api.Info{
		example(), chain(20), star(20), sun(20), ladder(10), round(2), round(20), {info("a", "a")}, nil,
		append(round(5), info("a", name(2), "b"), info("b", "b"), info("c", "a")),
	} {
		g := graph(t, r.shuffled(l))
		for _, p := range pathsOf(l) {
			closed(t, g, l, []string{p})
			least(t, g, []string{p})
		}
		closed(t, g, l, nil)
		closed(t, g, l, pathsOf(l))
		for range 20 {
			paths := r.some(pathsOf(l), 4)
			closed(t, g, l, paths)
			least(t, g, paths)
		}
	}
}

func TestClosedOfMany(t *testing.T) {
	r := noise(17)
	for range 20 {
		var l []api.Info
		n := 50 + r.below(150)
		for i := range n {
			x := info(name(i))
			for range r.below(3) {
				x.Refs = append(x.Refs, name(r.below(n)))
			}
			l = append(l, x)
		}
		l = r.shuffled(l)
		g := graph(t, l)
		for range 5 {
			paths := r.some(pathsOf(l), 3)
			closed(t, g, l, paths)
			least(t, g, paths)
		}
	}
}
