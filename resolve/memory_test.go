package resolve_test

import (
	"slices"
	"strings"
	"testing"
	"unsafe"

	"stillroom/api"
	"stillroom/resolve"
)

// Rules 3 to 5 and 8: what is handed in stays as it is and is not kept, and what is
// handed out is new memory.

// spare is what stands in the spare room of lists that are handed in. It would change
// each answer.
var spare = struct {
	pack api.Pack
	need api.Need
	pick api.Pick
}{api.Pack{Name: "A", Version: "x"}, api.Need{Name: "B", Range: "y"}, api.Pick{Name: "C", Version: "z"}}

// roomy tells the same list with spare room behind it that is filled.
func roomy[T any](l []T, with T) []T {
	made := append(slices.Clone(l), with, with, with)
	return made[:len(l)]
}

// roomyPacks tells the same packages, all lists with spare room.
func roomyPacks(l []api.Pack) []api.Pack {
	made := roomy(l, spare.pack)
	for i, p := range made {
		made[i].Needs = roomy(p.Needs, spare.need)
	}
	return made
}

// stays asks that a list that was handed in is what it was, its spare room too.
func stays[T comparable](t *testing.T, l, was []T, with T) {
	t.Helper()
	if !slices.Equal(l[:len(was)+3], append(slices.Clone(was), with, with, with)) {
		t.Fatalf("%v was changed to %v", was, l[:len(was)+3])
	}
}

func TestListsStay(t *testing.T) {
	r := noise(160)
	for round := range 2000 {
		packs, wants := drawn(&r, round)
		if round%10 == 9 {
			packs = wrongPacks()[r.below(len(wrongPacks()))]
		}
		picks, e := resolve.Solve(packs, wants, api.MaxFuel)
		handed, asked, chosen := roomyPacks(packs), roomy(wants, spare.need), roomy(picks, spare.pick)
		if got, f := resolve.Solve(handed, asked, api.MaxFuel); f != e || !slices.Equal(got, picks) {
			t.Fatalf("%v, %v, with spare room %v, %v", picks, e, got, f)
		}
		if got, want := resolve.Check(handed, asked, chosen), resolve.Check(packs, wants, picks); got != want {
			t.Fatalf("%v, with spare room %v", want, got)
		}
		if got, want := resolve.Choices(handed, 100), resolve.Choices(packs, 100); got != want {
			t.Fatalf("%v, with spare room %v", want, got)
		}
		stays(t, asked, wants, spare.need)
		stays(t, chosen, picks, spare.pick)
		for i, p := range handed[:len(packs)+3] {
			was := spare.pack
			if i < len(packs) {
				was = packs[i]
				stays(t, p.Needs, was.Needs, spare.need)
			}
			if p.Name != was.Name || p.Version != was.Version || len(p.Needs) != len(was.Needs) {
				t.Fatalf("%v was changed to %v", was, p)
			}
		}
	}
}

// inside tells whether one text lies on the memory of another.
func inside(a, b string) bool {
	if a == "" || b == "" {
		return false
	}
	at, from := uintptr(unsafe.Pointer(unsafe.StringData(a))), uintptr(unsafe.Pointer(unsafe.StringData(b)))
	return at >= from && at < from+uintptr(len(b))
}

func TestPicksAreNewMemory(t *testing.T) {
	packs := []api.Pack{pack(strings.Clone("name-a 1.2.3"), strings.Clone("name-b *")), pack(strings.Clone("name-b 4.5.6-x"))}
	wants := needsOf(strings.Clone("name-a *"))
	one, e := resolve.Solve(packs, wants, 100)
	other, f := resolve.Solve(packs, wants, 100)
	if e != api.OK || f != api.OK || len(one) != 2 {
		t.Fatal(one, e, f)
	}
	for i, p := range one {
		for _, s := range []string{p.Name, p.Version} {
			for _, q := range packs {
				if inside(s, q.Name) || inside(s, q.Version) {
					t.Errorf("%q lies in what was handed in", s)
				}
			}
			if inside(s, wants[0].Name) || inside(s, packs[0].Needs[0].Name) || inside(s, other[i].Name) || inside(s, other[i].Version) {
				t.Errorf("%q lies elsewhere", s)
			}
		}
	}
	room := one[:cap(one)]
	for i := range room {
		room[i] = spare.pick
	}
	if !slices.Equal(other, picksOf("name-a 1.2.3", "name-b 4.5.6-x")) {
		t.Errorf("%v", other)
	}
}

// TestTextsAreNotKept: picks stay, whatever becomes of the texts that were handed in.
func TestTextsAreNotKept(t *testing.T) {
	bytes := []byte("name-a1.2.3")
	text := unsafe.String(&bytes[0], len(bytes))
	packs := []api.Pack{{Name: text[:6], Version: text[6:]}}
	got, e := resolve.Solve(packs, []api.Need{{Name: text[:6], Range: "*"}}, 100)
	if e != api.OK {
		t.Fatal(e)
	}
	for i := range bytes {
		bytes[i] = '!'
	}
	if !slices.Equal(got, picksOf("name-a 1.2.3")) {
		t.Errorf("%v", got)
	}
}

// TestNothingIsKept: the same calls tell the same, whatever others there were.
func TestNothingIsKept(t *testing.T) {
	packs, wants := unlike(6, 5)
	for range 3 {
		solved(t, example(), needsOf("a *"), "a 1", "b 1.5")
		solvedNot(t, packs, wants)
		errs(t, example(), needsOf("A *"), 1, api.ErrName)
		errs(t, example(), needsOf("a *"), 0, api.ErrArg)
		checked(t, example(), needsOf("a *"), api.ErrSolve, "a 1")
		counts(t, packs, api.MaxFuel, 6*6*6*6*6*6)
	}
}
