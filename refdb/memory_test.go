package refdb_test

import (
	"slices"
	"strings"
	"testing"
	"unsafe"

	"stillroom/api"
	"stillroom/refdb"
)

// Rule 4: what is handed in is neither changed nor kept, what is told is new
// memory.

// scribble makes all texts of a list others, up to the end of its spare room.
func scribble(l []string) {
	for i := range l[:cap(l)] {
		l[:cap(l)][i] = "!"
	}
}

// rich tells infos with all that a graph keeps, in no order.
func rich() []api.Info {
	return []api.Info{made("d", "c", "b", "a", "b"), made("", "a"), made("d", "b", "b", "a"), made("e", "d", "c")}
}

// roomy tells infos whose lists have spare room, in which others stand.
func roomy(l []api.Info) []api.Info {
	c := copyOf(l)
	for i := range c {
		c[i].Refs = append(c[i].Refs, "spare", "a")[:len(c[i].Refs)]
	}
	return append(c, info("spare"), info("a"))[:len(l)]
}

// isRoomy tells whether all spare room still has what roomy put there.
func isRoomy(l []api.Info) bool {
	for _, i := range l {
		if spare := i.Refs[len(i.Refs) : len(i.Refs)+2]; spare[0] != "spare" || spare[1] != "a" {
			return false
		}
	}
	n := len(l)
	return l[: n+1 : n+1][n].Path == "spare" && l[: n+2 : n+2][n+1].Path == "a"
}

// TestInfosStay: the infos are as they were, whatever is asked, and what is changed
// in them later changes nothing that is told.
func TestInfosStay(t *testing.T) {
	l := roomy(rich())
	g := graph(t, l)
	is(t, g, rich())
	if !sameInfos(l, rich()) || !isRoomy(l) {
		t.Errorf("the infos have changed: %q", l[:len(l)+2])
	}
	for i := range l {
		scribble(l[i].Refs)
		l[i].Path, l[i].Deriver, l[i].Refs = "x", "y", []string{"x"}
	}
	is(t, g, rich())
	l = l[:cap(l)]
	clear(l)
	is(t, g, rich())
	knowsNot(t, g, pathsOf(rich()), "x")
	tells(t, "y", g.Derived("y"), nil)
}

// TestWrongInfosStay: also where no graph is made.
func TestWrongInfosStay(t *testing.T) {
	for _, wrong := range [][]api.Info{
		append(rich(), info("a")), append(rich(), info("z", "spare2")), append(rich(), info("b", "x"), info("b", "y")), reversed(chain(4097)),
	} {
		l := roomy(wrong)
		if g, e := refdb.New(l); g != nil || e == api.OK {
			t.Errorf("New: %v, %v", g, e)
		}
		if !sameInfos(l, wrong) || !isRoomy(l) {
			t.Errorf("the infos have changed: %s", short(l))
		}
	}
}

// TestSpareRoomIsNotRead: what lies behind a list's end is no part of it.
func TestSpareRoomIsNotRead(t *testing.T) {
	refs := []string{"a", "x"}
	l := []api.Info{info("a", refs[:1]...), info("a"), info("b", "y")}[:1]
	g := graph(t, l)
	is(t, g, []api.Info{info("a", "a")})
	closes(t, g, []string{"a", "x"}[:1], []string{"a"})
	leaves(t, g, []string{"x", "a"}[:1], []string{"a"})
	refuses(t, []api.Info{info("a", "b"), info("b")}[:1], api.ErrNone)
	graph(t, append(chain(4096), info(name(0)))[:4096])
}

// TestListsStay: the lists that are handed in stay as they are, their spare room
// too, and so does what was told when they change.
func TestListsStay(t *testing.T) {
	g := graph(t, rich())
	for _, paths := range [][]string{{"c", "b", "c", "d"}, {"a"}, {"d", "x"}, {}} {
		handed := append(slices.Clone(paths), "b", "spare")[:len(paths)]
		reached, _ := g.Closure(handed)
		dead := g.Dead(handed)
		wantReached, wantDead := slices.Clone(reached), slices.Clone(dead)
		if !slices.Equal(handed[:len(paths)+2], append(slices.Clone(paths), "b", "spare")) {
			t.Errorf("%q has become %q", paths, handed[:len(paths)+2])
		}
		scribble(handed)
		tells(t, "the closure", reached, wantReached)
		tells(t, "the dead", dead, wantDead)
	}
	is(t, g, rich())
}

// TestToldListsAreNew: what is changed in a list that was told, be it in its spare
// room, changes no other one.
func TestToldListsAreNew(t *testing.T) {
	l := append(rich(), info("e", "e", "a"))
	g := graph(t, l)
	all := pathsOf(l)
	ask := []func() []string{
		func() []string { l, _ := g.Closure(all); return l },
		func() []string { l, _ := g.Closure([]string{"d"}); return l },
		func() []string { l, _ := g.Referrers("a"); return l },
		func() []string { l, _ := g.Referrers("d"); return l },
		func() []string { return g.Dead(nil) },
		func() []string { return g.Dead([]string{"e"}) },
		func() []string { l, _ := g.Order(); return l },
		func() []string { return g.Derived("d") },
	}
	for i := range ask {
		for j := range ask {
			one, other := ask[i](), ask[j]()
			want := slices.Clone(other)
			scribble(one)
			tells(t, "the other list", other, want)
			tells(t, "the list again", ask[j](), want)
		}
	}
	is(t, g, l)
}

// inside tells whether one text lies on the memory of another.
func inside(a, b string) bool {
	if a == "" || b == "" {
		return false
	}
	at, from := uintptr(unsafe.Pointer(unsafe.StringData(a))), uintptr(unsafe.Pointer(unsafe.StringData(b)))
	return at >= from && at < from+uintptr(len(b))
}

// TestTextsAreNewMemory: a piece of a text that was handed in would keep the whole
// of it.
func TestTextsAreNewMemory(t *testing.T) {
	text := strings.Repeat("abcdefgh", 1000)
	l := []api.Info{{Path: text[:8], Deriver: text[8:16], Refs: []string{text[1:9]}}, {Path: text[1:9], Deriver: text[8:16]}}
	if !inside(l[0].Path, text) {
		t.Fatal("nothing is told apart")
	}
	g := graph(t, l)
	asked := []string{text[16:24], text[17:25]}
	reached, _ := g.Closure(asked)
	order, _ := g.Order()
	by, _ := g.Referrers(asked[1])
	told := slices.Concat(reached, order, by, g.Dead(nil), g.Derived(text[8:16]))
	if len(told) != 9 {
		t.Errorf("%q", told)
	}
	for _, s := range told {
		if inside(s, text) {
			t.Errorf("%q lies where it was handed in", s)
		}
	}
}

// TestTextsAreNotKept: nor is the memory of a text kept where none is told.
func TestTextsAreNotKept(t *testing.T) {
	b := []byte("abcd")
	text := unsafe.String(&b[0], len(b))
	l := []api.Info{{Path: text[:1], Deriver: text[1:2], Refs: []string{text[:1], text[2:3]}}, {Path: text[2:3], Deriver: text[3:]}}
	g := graph(t, l)
	copy(b, "wxyz")
	is(t, g, []api.Info{made("b", "a", "a", "c"), made("d", "c")})
}
