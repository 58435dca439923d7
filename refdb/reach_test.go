package refdb_test

import (
	"slices"
	"testing"

	"stillroom/api"
)

// P12.2

// example tells the infos of the chapter's example.
func example() []api.Info { return []api.Info{info("a", "b"), info("b"), info("c", "a")} }

func TestExample(t *testing.T) {
	g := graph(t, example())
	closes(t, g, []string{"a"}, []string{"a", "b"})
	isReferredTo(t, g, "b", []string{"a"})
	leaves(t, g, []string{"a"}, []string{"c"})
	orders(t, g, []string{"b", "a", "c"})
	is(t, g, example(), []string{"a", "c"}, []string{"b", "c"}, []string{"b", "a"})
}

func TestClosureOfNone(t *testing.T) {
	for _, l := range [][]api.Info{example(), chain(5), round(5), star(5)} {
		g := graph(t, l)
		closes(t, g, nil, nil)
		closes(t, g, []string{}, nil)
	}
}

// TestClosureLists: what is told rises, each path once, in whatever order and
// however often the paths come.
func TestClosureLists(t *testing.T) {
	g := graph(t, []api.Info{info("d", "b"), info("a", "d", "b", "d"), info("c"), info("b"), info("e", "a", "c")})
	closes(t, g, []string{"d", "d"}, []string{"b", "d"})
	closes(t, g, []string{"d", "b"}, []string{"b", "d"})
	closes(t, g, []string{"b", "d"}, []string{"b", "d"})
	closes(t, g, []string{"a"}, []string{"a", "b", "d"})
	closes(t, g, []string{"c", "a", "c", "b"}, []string{"a", "b", "c", "d"})
	closes(t, g, []string{"e"}, []string{"a", "b", "c", "d", "e"})
	closes(t, g, []string{"e", "d", "c", "b", "a"}, []string{"a", "b", "c", "d", "e"})
	closes(t, g, []string{"a", "b", "c", "d", "e", "a", "b"}, []string{"a", "b", "c", "d", "e"})
	closes(t, g, slices.Repeat([]string{"d", "c"}, 10000), []string{"b", "c", "d"})
}

func TestSelf(t *testing.T) {
	alone := []api.Info{info("a", "a")}
	g := graph(t, alone)
	closes(t, g, []string{"a"}, []string{"a"})
	isReferredTo(t, g, "a", []string{"a"})
	leaves(t, g, []string{"a"}, nil)
	leaves(t, g, nil, []string{"a"})
	orders(t, g, []string{"a"})
	if !g.Refers("a", "a") {
		t.Error("a does not refer to itself")
	}
	is(t, g, alone)

	others := []api.Info{info("b", "b", "a"), info("a", "a", "a"), info("c", "b"), info("d")}
	g = graph(t, others)
	isReferredTo(t, g, "a", []string{"a", "b"})
	isReferredTo(t, g, "b", []string{"b", "c"})
	isReferredTo(t, g, "c", nil)
	closes(t, g, []string{"c"}, []string{"a", "b", "c"})
	orders(t, g, []string{"a", "b", "c", "d"})
	if g.Refers("c", "c") || g.Refers("d", "d") || !g.Refers("b", "b") {
		t.Error("who refers to itself")
	}
	is(t, g, others)
	l := chain(20)
	for i := range l {
		l[i].Refs = append(l[i].Refs, l[i].Path, l[i].Path)
	}
	is(t, graph(t, l), l)
}

// TestOften: a reference that stands there oftener than once is one.
func TestOften(t *testing.T) {
	l := []api.Info{info("a", "b", "b", "c", "b"), info("b", "c", "c"), info("c"), info("d", "c", "a", "c", "a")}
	g := graph(t, l)
	isReferredTo(t, g, "b", []string{"a"})
	isReferredTo(t, g, "c", []string{"a", "b", "d"})
	orders(t, g, []string{"c", "b", "a", "d"})
	is(t, g, l)
}

// TestOddTexts: paths may be any texts, and what begins another one is another.
func TestOddTexts(t *testing.T) {
	texts := odd()
	var alone, next, all []api.Info
	for i, p := range texts {
		alone = append(alone, made(p, p))
		next = append(next, made("", p, texts[(i+1)%len(texts)], p))
		all = append(all, made("x", p, texts[:i]...))
	}
	last := len(texts) - 1
	open := append(slices.Clone(next[:last]), info(texts[last]))
	for _, l := range [][]api.Info{alone, next, open, all} {
		is(t, graph(t, l), l)
	}
}

// TestBeginnings: of paths of which one is the other's beginning each is itself
// alone.
func TestBeginnings(t *testing.T) {
	l := []api.Info{info(""), info("a", ""), info("aa"), info("aaa", "aa"), info("aaaa", "a")}
	g := graph(t, l)
	isReferredTo(t, g, "a", []string{"aaaa"})
	isReferredTo(t, g, "aa", []string{"aaa"})
	isReferredTo(t, g, "", []string{"a"})
	closes(t, g, []string{"aaaa"}, []string{"", "a", "aaaa"})
	closes(t, g, []string{"aaa"}, []string{"aa", "aaa"})
	leaves(t, g, []string{"aaa"}, []string{"", "a", "aaaa"})
	orders(t, g, []string{"", "a", "aa", "aaa", "aaaa"})
	knowsNot(t, g, pathsOf(l), "aaaaa")
	is(t, g, l)
	// The names of two edges may be one text when they are put together.
	l = []api.Info{info("a", "bc"), info("ab"), info("abc"), info("bc"), info("c"), info("")}
	g = graph(t, l)
	if g.Refers("ab", "c") || g.Refers("abc", "") || g.Refers("", "abc") || !g.Refers("a", "bc") {
		t.Error("edges are taken for one another")
	}
	is(t, g, l)
}

func TestLongChain(t *testing.T) {
	l := chain(4096)
	all := pathsOf(l)
	for _, order := range [][]api.Info{l, reversed(l)} {
		g := graph(t, order)
		for _, n := range []int{0, 1, 2, 100, 4094, 4095} {
			closes(t, g, []string{name(n)}, all[n:])
			leaves(t, g, []string{name(n)}, all[:n])
		}
		closes(t, g, []string{name(4000), name(7), name(100)}, all[7:])
		isReferredTo(t, g, name(0), nil)
		isReferredTo(t, g, name(4095), []string{name(4094)})
		back := slices.Clone(all)
		slices.Reverse(back)
		orders(t, g, back)
	}
}

func TestWideStar(t *testing.T) {
	l := star(4096)
	all := pathsOf(l)
	g := graph(t, l)
	closes(t, g, []string{name(0)}, all)
	closes(t, g, []string{name(9)}, []string{name(9)})
	leaves(t, g, []string{name(0)}, nil)
	leaves(t, g, all[1:], all[:1])
	isReferredTo(t, g, name(4095), []string{name(0)})
	isReferredTo(t, g, name(0), nil)

	l = sun(4096)
	g = graph(t, l)
	isReferredTo(t, g, name(0), all[1:])
	closes(t, g, []string{name(4095)}, []string{name(0), name(4095)})
	leaves(t, g, []string{name(0)}, all[1:])
	leaves(t, g, all[2:], []string{name(1)})
}

// TestManyWays: a path that is reached by many ways is told once, and soon.
func TestManyWays(t *testing.T) {
	l := ladder(2048)
	all := pathsOf(l)
	g := graph(t, l)
	closes(t, g, []string{name(0)}, slices.Concat(all[:1], all[2:]))
	closes(t, g, []string{name(1)}, all[1:])
	leaves(t, g, []string{name(1)}, all[:1])
	leaves(t, g, []string{name(3)}, all[:3])
	isReferredTo(t, g, name(4095), []string{name(4092), name(4093)})
	small := ladder(8)
	is(t, graph(t, small), small)
	diamond := []api.Info{info("top", "l", "r"), info("l", "foot"), info("r", "foot"), info("foot"), info("far")}
	is(t, graph(t, diamond), diamond)
}

// TestDense: each of many refers to each.
func TestDense(t *testing.T) {
	l := chain(500)
	all := pathsOf(l)
	for i := range l {
		l[i].Refs = all
	}
	g := graph(t, l)
	closes(t, g, []string{name(250)}, all)
	isReferredTo(t, g, name(250), all)
	leaves(t, g, []string{name(499)}, nil)
	leaves(t, g, nil, all)
	goesRound(t, g)
	for i := range l {
		l[i].Refs = all[i:]
	}
	g = graph(t, l)
	closes(t, g, []string{name(250)}, all[250:])
	isReferredTo(t, g, name(250), all[:251])
	slices.Reverse(all)
	orders(t, g, all)
}

func TestRounds(t *testing.T) {
	for n := 2; n < 12; n++ {
		l := round(n)
		g := graph(t, l)
		for i := range n {
			closes(t, g, []string{name(i)}, pathsOf(l))
			leaves(t, g, []string{name(i)}, nil)
			isReferredTo(t, g, name((i+1)%n), []string{name(i)})
		}
		leaves(t, g, nil, pathsOf(l))
		is(t, g, l)
		// One that refers to the round, and one to which it refers.
		l[n/2].Refs = append(l[n/2].Refs, "under")
		l = append(l, info("over", name(0)), info("under"), info("beside"))
		g = graph(t, l)
		closes(t, g, []string{"over"}, slices.DeleteFunc(pathsOf(l), func(p string) bool { return p == "beside" }))
		leaves(t, g, []string{name(n - 1)}, []string{"beside", "over"})
		is(t, g, l)
	}
	long := round(4096)
	g := graph(t, long)
	closes(t, g, []string{name(2000)}, pathsOf(long))
	leaves(t, g, []string{name(2000)}, nil)
}

func TestDead(t *testing.T) {
	l := []api.Info{info("d", "b"), info("a", "d"), info("c"), info("b"), info("e", "a", "c")}
	g := graph(t, l)
	all := pathsOf(l)
	leaves(t, g, nil, all)
	leaves(t, g, []string{}, all)
	leaves(t, g, []string{"e"}, nil)
	leaves(t, g, all, nil)
	leaves(t, g, []string{"d"}, []string{"a", "c", "e"})
	leaves(t, g, []string{"d", "d", "b", "d"}, []string{"a", "c", "e"})
	leaves(t, g, []string{"c", "d"}, []string{"a", "e"})
	leaves(t, g, []string{"b"}, []string{"a", "c", "d", "e"})
	// A root that is no info's reaches nothing, and keeps no other from it.
	leaves(t, g, []string{"x"}, all)
	leaves(t, g, []string{"x", "d"}, []string{"a", "c", "e"})
	leaves(t, g, []string{"d", "x"}, []string{"a", "c", "e"})
	leaves(t, g, []string{"", "d", "x", "dd", "D"}, []string{"a", "c", "e"})
	leaves(t, g, slices.Repeat([]string{"x", "b"}, 10000), []string{"a", "c", "d", "e"})
}

func TestReferrers(t *testing.T) {
	l := []api.Info{info("d", "b"), info("a", "d", "b"), info("c", "b"), info("b"), info("e", "a", "c", "b", "e")}
	g := graph(t, l)
	isReferredTo(t, g, "b", []string{"a", "c", "d", "e"})
	isReferredTo(t, g, "d", []string{"a"})
	isReferredTo(t, g, "e", []string{"e"})
	isReferredTo(t, g, "a", []string{"e"})
	// What reaches it by others does not refer to it.
	isReferredTo(t, graph(t, chain(9)), name(8), []string{name(7)})
}

func TestRefers(t *testing.T) {
	l := []api.Info{info("a", "b"), info("b", "c"), info("c", "c"), info("d", "a", "b", "a")}
	g := graph(t, l)
	for _, from := range []string{"a", "b", "c", "d", "", "x"} {
		for _, to := range []string{"a", "b", "c", "d", "", "x"} {
			want := slices.Contains([]string{"ab", "bc", "cc", "da", "db"}, from+to)
			if got := g.Refers(from, to); got != want {
				t.Errorf("Refers(%q, %q): %v", from, to, got)
			}
		}
	}
}

func TestDerived(t *testing.T) {
	l := []api.Info{made("d", "z"), made("", "y"), made("d", "b"), made("a", "x", "b"), made("dd", "w"), made("none", "a"), made("", "c"), made("d", "aa", "z"), made("D", "v")}
	g := graph(t, l)
	tells(t, "d", g.Derived("d"), []string{"aa", "b", "z"})
	tells(t, "dd", g.Derived("dd"), []string{"w"})
	tells(t, "D", g.Derived("D"), []string{"v"})
	tells(t, "a", g.Derived("a"), []string{"x"})
	tells(t, "none", g.Derived("none"), []string{"a"})
	tells(t, "the empty one", g.Derived(""), []string{"c", "y"})
	// Paths are no derivers by that, nor what begins one, or goes on.
	for _, s := range []string{"b", "z", "x", "non", "nonee", "ddd", " ", "\x00", "d "} {
		tells(t, s, g.Derived(s), nil)
	}
	is(t, g, l)
	for _, s := range odd() {
		l = []api.Info{made(s, "b"), made(s+"!", "c"), made("!"+s, "d"), made(s, "a")}
		tells(t, s, graph(t, l).Derived(s), []string{"a", "b"})
	}
	l = star(4096)
	for i := range l {
		l[i].Deriver = name(i % 2)
	}
	g = graph(t, reversed(l))
	if l := g.Derived(name(1)); len(l) != 2048 || l[0] != name(1) || l[2047] != name(4095) || !slices.IsSorted(l) {
		t.Error(len(l))
	}
}

// TestNoInfosPath: a path that is no info's, alone and among others.
func TestNoInfosPath(t *testing.T) {
	for _, l := range [][]api.Info{example(), chain(9), round(5), star(7), {info("")}, {info("a", "a")}} {
		g := graph(t, l)
		for _, p := range append(odd(), "x", "p", "p0000", "p000000", "p00003 ", "P00003", "q") {
			if !slices.Contains(pathsOf(l), p) {
				knowsNot(t, g, pathsOf(l), p)
			}
		}
	}
	// A deriver is none, nor is a hash.
	l := []api.Info{made("d", "a"), made("e", "b", "a")}
	g := graph(t, l)
	for _, p := range []string{"d", "e", "ha", "hb"} {
		knowsNot(t, g, pathsOf(l), p)
	}
}

// reversed tells the infos from the last to the first.
func reversed(l []api.Info) []api.Info {
	c := slices.Clone(l)
	slices.Reverse(c)
	return c
}
