package index_test

import (
	"slices"
	"testing"

	"stillroom/api"
	"stillroom/index"
)

// P15.2: Right, and Text where packages may not be.

// mayBe asks that packages may be, and have the text that the plain reading tells.
func mayBe(t *testing.T, l ...api.Pack) {
	t.Helper()
	if e := index.Right(l); e != api.OK {
		t.Errorf("Right(%.300v): %v", l, e)
	}
	if s, e := index.Text(l); s != plainText(l) || e != api.OK {
		t.Errorf("Text(%.300v): %.200q, %v, want %.200q", l, s, e, plainText(l))
	}
}

func TestRightFew(t *testing.T) {
	mayBe(t)
	mayBe(t, []api.Pack{}...)
	mayBe(t, pack("a", "1"))
	mayBe(t, api.Pack{Name: "a", Version: "1", Needs: []api.Need{}})
	mayBe(t, pack("a", "1.0", "b ^1"))
	mayBe(t, pack("a", "1", "a =1"))
	mayBe(t, pack("a", "1"), pack("a", "1.0"), pack("a", "1.0.0"), pack("a", "1.0.0.0"), pack("a", "1-a"), pack("b", "1"))
	mayBe(t, pack("a", "1", "c *", "b *"), pack("a", "2", "c *", "b *"))
	mayBe(t, pack("a1", "1"), pack("a", "11"), pack("a-1", "1"), pack("a", "1-1"))
}

func TestRightWords(t *testing.T) {
	for _, s := range someNames() {
		mayBe(t, pack(s, "1", s+" *"))
	}
	for _, s := range someVersions() {
		mayBe(t, pack("a", s))
	}
	for _, s := range someRanges() {
		mayBe(t, pack("a", "1", "b "+s))
	}
	for _, s := range noNames() {
		wrong(t, []api.Pack{pack(s, "1")}, api.ErrName)
		wrong(t, []api.Pack{pack("a", "1"), pack(s, "1")}, api.ErrName)
		wrong(t, []api.Pack{{Name: "a", Version: "1", Needs: []api.Need{{Name: s, Range: "*"}}}}, api.ErrName)
		wrong(t, []api.Pack{{Name: "a", Version: "1", Needs: []api.Need{{Name: "b", Range: "*"}, {Name: s, Range: "*"}}}}, api.ErrName)
	}
	for _, s := range noVersions() {
		wrong(t, []api.Pack{pack("a", s)}, api.ErrVersion)
		wrong(t, []api.Pack{pack("a", "1"), pack("a", s)}, api.ErrVersion)
	}
	for _, s := range noRanges() {
		wrong(t, []api.Pack{{Name: "a", Version: "1", Needs: []api.Need{{Name: "b", Range: s}}}}, api.ErrRange)
		wrong(t, []api.Pack{{Name: "a", Version: "1", Needs: []api.Need{{Name: "b", Range: "*"}, {Name: "c", Range: s}}}}, api.ErrRange)
	}
	wrong(t, []api.Pack{{}}, api.ErrName)
	wrong(t, []api.Pack{{Name: "a"}}, api.ErrVersion)
	wrong(t, []api.Pack{{Version: "1"}}, api.ErrName)
	wrong(t, []api.Pack{{Name: "a", Version: "1", Needs: []api.Need{{}}}}, api.ErrName)
	wrong(t, []api.Pack{{Name: "a", Version: "1", Needs: []api.Need{{Name: "b"}}}}, api.ErrRange)
	wrong(t, []api.Pack{{Name: "a", Version: "1", Needs: []api.Need{{Range: "*"}}}}, api.ErrName)
}

func TestRightThere(t *testing.T) {
	wrong(t, []api.Pack{pack("a", "1"), pack("a", "1")}, api.ErrThere)
	wrong(t, []api.Pack{pack("a", "1", "b *"), pack("b", "1"), pack("a", "1", "c *")}, api.ErrThere)
	wrong(t, []api.Pack{pack("a", "1", "b *", "b *")}, api.ErrThere)
	wrong(t, []api.Pack{pack("a", "1", "b *", "c *", "b ^1")}, api.ErrThere)
	wrong(t, []api.Pack{pack("a", "1", "b *"), pack("a", "2", "b *", "a *", "b *")}, api.ErrThere)
	l := manyPacks(1023)
	for _, at := range []int{0, 511, 1022} {
		wrong(t, append(slices.Clone(l), l[at]), api.ErrThere)
		wrong(t, append([]api.Pack{l[at]}, l...), api.ErrThere)
	}
	needs := manyNeeds(63)
	for _, at := range []int{0, 31, 62} {
		wrong(t, []api.Pack{{Name: "a", Version: "1", Needs: append(slices.Clone(needs), needs[at])}}, api.ErrThere)
	}
}

func TestRightMany(t *testing.T) {
	mayBe(t, manyPacks(1024)...)
	for _, n := range []int{1025, 1026, 5000} {
		wrong(t, manyPacks(n), api.ErrBig)
		wrong(t, make([]api.Pack, n), api.ErrBig)
	}
	for _, n := range []int{0, 1, 63, 64} {
		mayBe(t, api.Pack{Name: "a", Version: "1", Needs: manyNeeds(n)}, api.Pack{Name: "a", Version: "2", Needs: manyNeeds(n)})
	}
	for _, n := range []int{65, 66, 1024, 5000} {
		wrong(t, []api.Pack{{Name: "a", Version: "1", Needs: manyNeeds(n)}}, api.ErrBig)
		wrong(t, []api.Pack{pack("a", "1"), pack("a", "2"), {Name: "a", Version: "3", Needs: make([]api.Need, n)}}, api.ErrBig)
	}
	// As much as there may be of both.
	l := manyPacks(1024)
	for i := range l {
		l[i].Needs = manyNeeds(64)
	}
	mayBe(t, l...)
	l[1023].Needs = manyNeeds(65)
	wrong(t, l, api.ErrBig)
}

// TestRightFirst: of several things that are wrong the first, as the chapter says:
// numbers ahead of all packages, then package by package.
func TestRightFirst(t *testing.T) {
	// The numbers.
	wrong(t, append([]api.Pack{pack("P", "x")}, manyPacks(1024)...), api.ErrBig)
	wrong(t, append(manyPacks(1024), manyPacks(1)...), api.ErrBig)
	wrong(t, []api.Pack{pack("P", "x"), pack("a", "1", "b *", "b *"), {Needs: manyNeeds(65)}}, api.ErrBig)
	wrong(t, []api.Pack{pack("a", "1"), pack("a", "1"), {Name: "a", Version: "1", Needs: manyNeeds(65)}}, api.ErrBig)
	wrong(t, []api.Pack{{Name: "a", Version: "1", Needs: append(manyNeeds(64), manyNeeds(1)...)}}, api.ErrBig)
	// Within a package: its name, its version, whether it is there, its needs.
	wrong(t, []api.Pack{pack("A", "x", "B x")}, api.ErrName)
	wrong(t, []api.Pack{pack("a", "x", "B x")}, api.ErrVersion)
	wrong(t, []api.Pack{pack("a", "1"), pack("a", "1", "B x")}, api.ErrThere)
	wrong(t, []api.Pack{pack("a", "1"), pack("a", "1", "b x")}, api.ErrThere)
	wrong(t, []api.Pack{pack("a", "1"), pack("a", "2", "B x")}, api.ErrName)
	wrong(t, []api.Pack{pack("a", "1", "b *", "b x")}, api.ErrRange)
	wrong(t, []api.Pack{pack("a", "1", "b *", "b *", "c x")}, api.ErrThere)
	wrong(t, []api.Pack{pack("a", "1", "b *", "b *", "C *")}, api.ErrThere)
	wrong(t, []api.Pack{pack("a", "1", "b *", "c x", "b *")}, api.ErrRange)
	wrong(t, []api.Pack{pack("a", "1", "b x", "C *")}, api.ErrRange)
	wrong(t, []api.Pack{pack("a", "1", "C *", "b x")}, api.ErrName)
	// One package behind the other.
	wrong(t, []api.Pack{pack("a", "1", "b x"), pack("A", "1")}, api.ErrRange)
	wrong(t, []api.Pack{pack("a", "1", "b *", "b *"), pack("a", "x")}, api.ErrThere)
	wrong(t, []api.Pack{pack("a", "x"), pack("A", "1")}, api.ErrVersion)
	wrong(t, []api.Pack{pack("a", "1"), pack("a", "1"), pack("A", "1")}, api.ErrThere)
	wrong(t, []api.Pack{pack("a", "1"), pack("A", "1"), pack("a", "1")}, api.ErrName)
	wrong(t, []api.Pack{pack("a", "1", "B *"), pack("a", "1")}, api.ErrName)
}

// TestRightRandom holds Right and Text against the plain reading.
func TestRightRandom(t *testing.T) {
	r := noise(153)
	counts := map[api.Errno]int{}
	for round := range 20000 {
		l := r.packs(8, 3+round%40, round%60)
		e := plainRight(l)
		if e == api.OK {
			mayBe(t, l...)
		} else {
			wrong(t, l, e)
		}
		counts[e]++
	}
	for _, e := range []api.Errno{api.OK, api.ErrName, api.ErrVersion, api.ErrRange, api.ErrThere} {
		if counts[e] < 200 {
			t.Errorf("%v came up %d times alone", e, counts[e])
		}
	}
}
