package resolve_test

import (
	"math"
	"slices"
	"strings"
	"testing"

	"stillroom/api"
	"stillroom/index"
	"stillroom/resolve"
)

// What is wrong with packages and wants, of Solve and of Check, and with fuel.

// wrong asks that packages and wants may not be, whatever else may not be either.
func wrong(t *testing.T, packs []api.Pack, wants []api.Need, want api.Errno) {
	t.Helper()
	for _, fuel := range []int{1, 1000, api.MaxFuel, 0, -1, api.MaxFuel + 1} {
		errs(t, packs, wants, fuel, want)
	}
	for _, picks := range [][]string{nil, {"a 1"}, {"a 1", "a 1"}, {"b 1", "a 1"}, {"nowhere 1"}} {
		checked(t, packs, wants, want, picks...)
	}
}

// wrongPacks tells packages that may not be.
func wrongPacks() [][]api.Pack {
	many := make([]api.Pack, 1025)
	var needs []string
	for i := range 65 {
		needs = append(needs, name(i)+" *")
	}
	return [][]api.Pack{
		{{}},
		many,
		{pack("a 1"), pack("b 1", needs...)},
		{pack("A 1")},
		{pack("a 1"), pack(" 1")},
		{pack("abcdefghijklmnopqrstu 1")},
		{pack("a x")},
		{pack("a 1"), pack("b ")},
		{pack("a 01")},
		{pack("a 1"), pack("a 2"), pack("a 1")},
		{pack("a 1", "B *")},
		{pack("a 1", "b x")},
		{pack("a 1", "b *", "c")},
		{pack("a 1", "b *", "b ^1")},
		// Several things: the first one counts.
		{pack("a x", "B x"), pack("B 1")},
		{pack("a 1", "B x"), pack("a 1")},
		{pack("a 1", "b *", "b *", "B x"), pack("B x")},
		append([]api.Pack{pack("A x")}, many...),
		{pack("A 1"), pack("b 1", needs...)},
	}
}

func TestWrongPacks(t *testing.T) {
	for _, l := range wrongPacks() {
		e := index.Right(l)
		if e == api.OK {
			t.Errorf("%.300v may be", l)
		}
		wrong(t, l, nil, e)
		wrong(t, l, needsOf("a *"), e)
		// What is wrong with wants comes behind it.
		wrong(t, l, needsOf("A x"), e)
		wrong(t, l, needsOf("a *", "a *"), e)
		wrong(t, l, make([]api.Need, 65), e)
	}
	wrong(t, []api.Pack{pack("A 1")}, make([]api.Need, 65), api.ErrName)
	wrong(t, []api.Pack{pack("a x")}, needsOf("A *"), api.ErrVersion)
	wrong(t, []api.Pack{pack("a 1", "b x")}, needsOf("a *", "a *"), api.ErrRange)
	wrong(t, []api.Pack{pack("a 1"), pack("a 1")}, needsOf("a x"), api.ErrThere)
	wrong(t, make([]api.Pack, 1025), needsOf("A *"), api.ErrBig)
}

func TestWrongWants(t *testing.T) {
	for _, l := range [][]api.Pack{nil, example(), {pack("a 1"), pack("a 2", "a =2")}} {
		var many []api.Need
		for i := range 65 {
			many = append(many, needsOf(name(i)+" *")...)
		}
		errs(t, l, many[:64], api.MaxFuel, api.ErrSolve)
		wrong(t, l, many, api.ErrBig)
		wrong(t, l, make([]api.Need, 65), api.ErrBig)
		wrong(t, l, make([]api.Need, 100000), api.ErrBig)
		wrong(t, l, make([]api.Need, 64), api.ErrName)
		for _, s := range []string{"", "A", "1", "-a", "a_", "a b", "a\n", "abcdefghijklmnopqrstu", "\xff", "a.b", strings.Repeat("a", 70000)} {
			wrong(t, l, []api.Need{{Name: s, Range: "*"}}, api.ErrName)
			wrong(t, l, []api.Need{{Name: "a", Range: "*"}, {Name: s, Range: "x"}}, api.ErrName)
		}
		for _, s := range []string{"", "1", "x", "^", "=x", "* ", " *", "**", "=1,", "|", "=1.2.3.4.5", "^01", strings.Repeat("*|", 16) + "*", strings.Repeat("*,", 16) + "*"} {
			wrong(t, l, []api.Need{{Name: "a", Range: s}}, api.ErrRange)
			wrong(t, l, []api.Need{{Name: "b", Range: "*"}, {Name: "a", Range: s}}, api.ErrRange)
		}
		wrong(t, l, needsOf("a *", "a *"), api.ErrThere)
		wrong(t, l, needsOf("a *", "b *", "a ^1"), api.ErrThere)
		wrong(t, l, needsOf("nowhere *", "b *", "nowhere *"), api.ErrThere)
		// Of several things the first want's counts, and of one want its name, then
		// its range.
		wrong(t, l, needsOf("A x", "a x"), api.ErrName)
		wrong(t, l, needsOf("a x", "A *"), api.ErrRange)
		wrong(t, l, needsOf("a *", "a *", "A x"), api.ErrThere)
		wrong(t, l, needsOf("a *", "b x", "a *"), api.ErrRange)
		wrong(t, l, needsOf("a *", "B *", "a *"), api.ErrName)
		wrong(t, l, needsOf("a *", "a x"), api.ErrRange)
		wrong(t, l, needsOf("A *", "A *"), api.ErrName)
		wrong(t, l, append(needsOf("A x", "a *", "a *"), many...), api.ErrBig)
	}
}

// TestWantsThatMayBe: of any name that a package may have, also one that none has.
func TestWantsThatMayBe(t *testing.T) {
	l := []api.Pack{pack("a 1"), pack("a-0 1"), pack("abcdefghijklmnopqrst 1"), pack("wants 1")}
	for _, p := range l {
		solved(t, l, needsOf(p.Name+" *"), p.Name+" 1")
	}
	solvedNot(t, l, needsOf("b *"))
	solved(t, l, needsOf("a "+strings.Repeat("*|", 15)+"*"), "a 1")
	solved(t, l, needsOf("a "+strings.Repeat("*,", 15)+"*"), "a 1")
}

func TestWrongFuel(t *testing.T) {
	for _, fuel := range []int{0, -1, -1000, api.MaxFuel + 1, 2 * api.MaxFuel, math.MaxInt32, math.MinInt32, math.MaxInt, math.MinInt} {
		errs(t, nil, nil, fuel, api.ErrArg)
		errs(t, example(), needsOf("a *"), fuel, api.ErrArg)
		errs(t, example(), needsOf("nowhere *"), fuel, api.ErrArg)
		errs(t, example(), needsOf("a *", "b =2"), fuel, api.ErrArg)
	}
}

// TestFuelEdges: the least and the greatest fuel, and as much as there are choices.
func TestFuelEdges(t *testing.T) {
	for _, fuel := range []int{1, 2, api.MaxFuel} {
		if got, e := resolve.Solve(nil, nil, fuel); len(got) != 0 || e != api.OK {
			t.Errorf("%v, %v", got, e)
		}
		errs(t, nil, needsOf("a *"), fuel, api.ErrSolve)
	}
	want := picksOf("a 1", "b 1.5")
	for _, fuel := range []int{1, 7, 8, 9, api.MaxFuel - 1, api.MaxFuel} {
		got, e := resolve.Solve(example(), needsOf("a *"), fuel)
		if (fuel >= 8 || e != api.ErrFuel || len(got) != 0) && (e != api.OK || !slices.Equal(got, want)) {
			t.Errorf("fuel %d: %v, %v", fuel, got, e)
		}
	}
}
