package refdb_test

import (
	"slices"
	"testing"

	"stillroom/api"
	"stillroom/refdb"
)

// P12.1

func TestNewOfNone(t *testing.T) {
	for _, l := range [][]api.Info{nil, {}, chain(3)[:0]} {
		g := graph(t, l)
		closes(t, g, nil, nil)
		closes(t, g, []string{}, nil)
		leaves(t, g, nil, nil)
		leaves(t, g, []string{"a", ""}, nil)
		orders(t, g, nil)
		knowsNot(t, g, nil, "")
		knowsNot(t, g, nil, "a")
		tells(t, "Derived of none", g.Derived(""), nil)
	}
}

func TestNewOfOne(t *testing.T) {
	for _, p := range odd() {
		for _, refs := range [][]string{nil, {}, {p}, {p, p}, {p, p, p}} {
			l := []api.Info{info(p, refs...)}
			is(t, graph(t, l), l)
		}
	}
}

// TestNewMost: MaxItems times 4 infos may be, one more may not.
func TestNewMost(t *testing.T) {
	for _, n := range []int{4095, 4096} {
		for _, l := range [][]api.Info{chain(n), star(n), sun(n), round(n)} {
			g := graph(t, l)
			closes(t, g, pathsOf(l), pathsOf(l))
		}
	}
	for _, n := range []int{4097, 4098, 5000, 10000} {
		for _, l := range [][]api.Info{chain(n), star(n), sun(n), round(n)} {
			refuses(t, l, api.ErrArg)
		}
	}
	if 4*api.MaxItems != 4096 {
		t.Error(api.MaxItems)
	}
}

// TestNewManyRefs: references may be more than the infos, and than MaxItems.
func TestNewManyRefs(t *testing.T) {
	l := chain(3)
	for range 100000 {
		l[0].Refs = append(l[0].Refs, name(2), name(0))
	}
	g := graph(t, l)
	closes(t, g, []string{name(0)}, []string{name(0), name(1), name(2)})
	isReferredTo(t, g, name(2), []string{name(0), name(1)})
	isReferredTo(t, g, name(0), []string{name(0)})
	orders(t, g, []string{name(2), name(1), name(0)})
}

func TestNewTwice(t *testing.T) {
	refuses(t, []api.Info{info("a"), info("a")}, api.ErrThere)
	refuses(t, []api.Info{info(""), info("")}, api.ErrThere)
	refuses(t, []api.Info{made("d", "a"), made("e", "a")}, api.ErrThere)
	refuses(t, []api.Info{info("a", "a"), info("a")}, api.ErrThere)
	refuses(t, []api.Info{info("a", "b"), info("b", "a"), info("a", "b")}, api.ErrThere)
	refuses(t, []api.Info{info("a"), info("a"), info("a")}, api.ErrThere)
	for _, p := range odd() {
		refuses(t, []api.Info{info(p), info("other"), info(p)}, api.ErrThere)
	}
	// Wherever in a long list the two stand.
	for _, at := range []int{0, 1, 50, 98, 99} {
		for _, with := range []int{0, 1, 50, 98, 99} {
			if l := chain(100); at != with {
				l[at].Path = l[with].Path
				refuses(t, l, api.ErrThere)
			}
		}
	}
	l := append(chain(4095), info(name(0)))
	refuses(t, l, api.ErrThere)
}

// TestNewAlmostTwice: paths that are nearly one are two.
func TestNewAlmostTwice(t *testing.T) {
	for _, l := range [][]api.Info{
		{info("a"), info("A")}, {info("a"), info("a ")}, {info("a"), info(" a")}, {info(""), info(" ")}, {info(""), info("\x00")},
		{info("a"), info("a\x00")}, {info("a/"), info("a")}, {info("\u00e4"), info("a\u0308")}, {info("\xff"), info("\xfe")}, {info("\xff"), info("\ufffd")},
	} {
		is(t, graph(t, l), l)
	}
}

func TestNewReferenceToNone(t *testing.T) {
	refuses(t, []api.Info{info("a", "x")}, api.ErrNone)
	refuses(t, []api.Info{info("a", "")}, api.ErrNone)
	refuses(t, []api.Info{info("", "a")}, api.ErrNone)
	refuses(t, []api.Info{info("a", "a", "x")}, api.ErrNone)
	refuses(t, []api.Info{info("a", "x", "a")}, api.ErrNone)
	refuses(t, []api.Info{info("a"), info("b", "a", "b", "c")}, api.ErrNone)
	refuses(t, []api.Info{info("a", "c"), info("b")}, api.ErrNone)
	// A deriver is no info's path by that, nor is what begins a path, or goes on.
	refuses(t, []api.Info{made("d", "a", "d")}, api.ErrNone)
	refuses(t, []api.Info{info("ab", "a")}, api.ErrNone)
	refuses(t, []api.Info{info("ab", "abc")}, api.ErrNone)
	refuses(t, []api.Info{info("ab", "AB")}, api.ErrNone)
	for _, p := range odd() {
		refuses(t, []api.Info{info("known", p)}, api.ErrNone)
		refuses(t, []api.Info{info(p), info("known", "known", p, p+"!")}, api.ErrNone)
	}
	for _, at := range []int{0, 1, 2000, 4094, 4095} {
		l := chain(4096)
		l[at].Refs = append(l[at].Refs, name(4096))
		refuses(t, l, api.ErrNone)
	}
}

// TestNewDerivers: a deriver may be any text, an info's path or not.
func TestNewDerivers(t *testing.T) {
	l := []api.Info{made("", "a"), made("a", "b"), made("c", "c"), made("nobody", "d"), made("nobody", "e", "a"), made(" ", "f")}
	is(t, graph(t, l), l)
}

// TestNewHashes: hashes are none of a graph's business.
func TestNewHashes(t *testing.T) {
	l := []api.Info{{Path: "a", Hash: "x"}, {Path: "b", Hash: "x", Refs: []string{"a"}}, {Path: "c"}}
	is(t, graph(t, l), l)
}

// TestNewWhichError: too many is told first, then two of one path, then a
// reference to none, wherever they stand.
func TestNewWhichError(t *testing.T) {
	refuses(t, []api.Info{info("a", "x"), info("a")}, api.ErrThere)
	refuses(t, []api.Info{info("a", "x"), info("b"), info("b")}, api.ErrThere)
	refuses(t, []api.Info{info("b"), info("b"), info("a", "x")}, api.ErrThere)
	refuses(t, []api.Info{info("b", "y"), info("a", "x"), info("b", "z")}, api.ErrThere)
	for _, p := range []string{name(0), name(1), "x"} {
		for _, ref := range []string{name(0), name(1), "y"} {
			for _, first := range []bool{false, true} {
				l := append(chain(4096), info(p, ref))
				if first {
					slices.Reverse(l)
				}
				refuses(t, l, api.ErrArg)
			}
		}
	}
	l := chain(4096)
	l[0].Refs = []string{"x"}
	l[4095].Path = name(7)
	refuses(t, l, api.ErrThere)
	refuses(t, append(l, info("y")), api.ErrArg)
	refuses(t, make([]api.Info, 4096), api.ErrThere)
	refuses(t, make([]api.Info, 4097), api.ErrArg)
}

// TestNewAsPlain: small lists of infos of few paths, right ones and wrong ones.
func TestNewAsPlain(t *testing.T) {
	r, seen := noise(12), map[api.Errno]int{}
	texts := []string{"", "a", "b", "ab", "c"}
	for range 5000 {
		var l []api.Info
		for range r.below(5) {
			l = append(l, made(texts[r.below(5)], texts[r.below(5)], r.some(texts, 2)...))
		}
		want := plainNew(l)
		seen[want]++
		if want != api.OK {
			refuses(t, l, want)
			continue
		}
		is(t, graph(t, l), l, r.some(pathsOf(l), 4))
	}
	if seen[api.OK] < 200 || seen[api.ErrThere] < 200 || seen[api.ErrNone] < 200 {
		t.Error(seen)
	}
}

// Rule 1: of a graph that no call made nothing is told.
func TestNoGraph(t *testing.T) {
	var none *refdb.Graph
	for _, g := range []*refdb.Graph{none, {}, new(refdb.Graph)} {
		for _, paths := range [][]string{nil, {}, {""}, {"a"}, {"a", "b"}} {
			if l, e := g.Closure(paths); e != api.ErrNil || len(l) != 0 {
				t.Errorf("Closure(%q): %q, %v", paths, l, e)
			}
			if l := g.Dead(paths); len(l) != 0 {
				t.Errorf("Dead(%q): %q", paths, l)
			}
		}
		for _, p := range []string{"", "a"} {
			if l, e := g.Referrers(p); e != api.ErrNil || len(l) != 0 {
				t.Errorf("Referrers(%q): %q, %v", p, l, e)
			}
			if l := g.Derived(p); len(l) != 0 {
				t.Errorf("Derived(%q): %q", p, l)
			}
			if g.Refers(p, p) || g.Refers(p, "b") {
				t.Errorf("Refers(%q)", p)
			}
		}
		if l, e := g.Order(); e != api.ErrNil || len(l) != 0 {
			t.Errorf("Order: %q, %v", l, e)
		}
	}
}
