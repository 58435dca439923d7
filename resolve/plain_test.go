package resolve_test

import (
	"slices"
	"strconv"
	"testing"

	"stillroom/api"
	"stillroom/resolve"
)

// P16.1 to P16.4, held against a plain reading that goes through all assignments.

// drawn tells packages and wants by the number of a round: some of few names with many
// needs, some of more names with few.
func drawn(r *noise, round int) ([]api.Pack, []api.Need) {
	names := 1 + round%6
	packs := r.packs(names, 1+round%5, 400)
	return packs, r.needs(1+round%4, names)
}

// TestSolvePlain: the best solution, or that there is none.
func TestSolvePlain(t *testing.T) {
	r := noise(161)
	solutions, none := 0, 0
	for round := range 6000 {
		packs, wants := drawn(&r, round)
		picks, e := plainSolve(packs, wants)
		if e == api.OK {
			solutions++
		} else {
			none++
		}
		for _, fuel := range []int{product(packs), product(packs) + 1, api.MaxFuel} {
			got, f := resolve.Solve(packs, wants, fuel)
			if f != e || !slices.Equal(got, picks) {
				t.Fatalf("Solve(%v, %v, %d): %v, %v, want %v, %v", packs, wants, fuel, got, f, picks, e)
			}
		}
	}
	if solutions < 1000 || none < 1000 {
		t.Error("too little was drawn:", solutions, none)
	}
}

// TestSolvePlainWanted: likewise where each want may be met, so that there is more to
// seek.
func TestSolvePlainWanted(t *testing.T) {
	r := noise(162)
	met, chosen := 0, 0
	for range 2000 {
		var packs []api.Pack
		// Five names of three versions, which need one another.
		for i := range 5 {
			for v := range 3 {
				p := pack(name(i) + " " + strconv.Itoa(v))
				for j := range 5 {
					if j != i && r.below(3) == 0 {
						p.Needs = append(p.Needs, needsOf(name(j)+" "+r.one("=0|=1", "=1|=2", "=0|=2", "=0|=1", "=1|=2", "=0|=2", "=2", "*"))...)
					}
				}
				packs = append(packs, p)
			}
		}
		wants := needsOf(name(4)+" *", name(2)+" *")
		picks, e := plainSolve(packs, wants)
		got, f := resolve.Solve(packs, wants, api.MaxFuel)
		if f != e || !slices.Equal(got, picks) {
			t.Fatalf("Solve(%v, %v): %v, %v, want %v, %v", packs, wants, got, f, picks, e)
		}
		if e == api.OK {
			met++
			chosen += len(picks)
		}
	}
	if met < 500 || chosen < 3*met {
		t.Error("too little was drawn:", met, chosen)
	}
}

// TestSolveFuel: with less fuel than choices it is the same answer, or ErrFuel; with
// as much or more the answer.
func TestSolveFuel(t *testing.T) {
	r := noise(163)
	for round := range 1500 {
		packs, wants := drawn(&r, round)
		picks, e := plainSolve(packs, wants)
		choices := resolve.Choices(packs, api.MaxFuel)
		for _, fuel := range []int{1, 2, 3, choices / 2, choices - 1, choices, choices + 1, api.MaxFuel - 1, api.MaxFuel} {
			if fuel < 1 {
				continue
			}
			got, f := resolve.Solve(packs, wants, fuel)
			if f == api.ErrFuel && fuel < choices && len(got) == 0 {
				continue
			}
			if f != e || !slices.Equal(got, picks) {
				t.Fatalf("Solve(%v, %v, %d) of %d choices: %v, %v, want %v, %v", packs, wants, fuel, choices, got, f, picks, e)
			}
		}
	}
}

// TestCheckPlain: all assignments of what was drawn, P16.4 among it.
func TestCheckPlain(t *testing.T) {
	r := noise(164)
	right, wrong := 0, 0
	for round := range 5000 {
		packs, wants := drawn(&r, round)
		if product(packs) > 60 {
			continue
		}
		best, e := resolve.Solve(packs, wants, api.MaxFuel)
		solved := assignment{}
		for _, p := range best {
			solved[p.Name] = p.Version
		}
		if e == api.OK && resolve.Check(packs, wants, best) != api.OK {
			t.Fatalf("Check(%v, %v, %v), which is solved: %v", packs, wants, best, resolve.Check(packs, wants, best))
		}
		assignments(packs, func(a assignment) {
			picks := a.picks()
			want := plainCheck(packs, wants, picks)
			if got := resolve.Check(packs, wants, picks); got != want {
				t.Fatalf("Check(%v, %v, %v): %v, want %v", packs, wants, picks, got, want)
			}
			if want != api.OK {
				wrong++
				return
			}
			right++
			if e != api.OK || a.better(packs, solved) {
				t.Fatalf("Solve(%v, %v): %v, %v, but %v is better", packs, wants, best, e, picks)
			}
		})
	}
	if right < 500 || wrong < 10000 {
		t.Error("too little was drawn:", right, wrong)
	}
}

// TestCheckPlainPicks: picks that are drawn, most of which may not be.
func TestCheckPlainPicks(t *testing.T) {
	r := noise(165)
	told := map[api.Errno]int{}
	for round := range 20000 {
		names := 1 + round%4
		packs := r.packs(names, 2, 100)
		wants := r.needs(2, names)
		best, _ := resolve.Solve(packs, wants, api.MaxFuel)
		var picks []api.Pick
		for _, p := range best {
			switch r.below(8) {
			case 0:
				p.Version = r.one(someVersions()...)
			case 1:
				continue
			case 2:
				picks = append(picks, p)
			}
			picks = append(picks, p)
		}
		if r.below(4) == 0 {
			picks = append(picks, api.Pick{Name: name(r.below(names + 2)), Version: r.one(someVersions()...)})
		}
		if len(picks) > 1 && r.below(6) == 0 {
			i, j := r.below(len(picks)), r.below(len(picks))
			picks[i], picks[j] = picks[j], picks[i]
		}
		want := plainCheck(packs, wants, picks)
		told[want]++
		if got := resolve.Check(packs, wants, picks); got != want {
			t.Fatalf("Check(%v, %v, %v): %v, want %v", packs, wants, picks, got, want)
		}
	}
	for _, e := range []api.Errno{api.OK, api.ErrName, api.ErrNone, api.ErrSolve} {
		if told[e] < 300 {
			t.Error("too little was drawn:", told)
		}
	}
}
