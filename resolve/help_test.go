package resolve_test

import (
	"slices"
	"strconv"
	"strings"
	"testing"

	"stillroom/api"
	"stillroom/index"
	"stillroom/resolve"
	"stillroom/span"
	"stillroom/version"
)

// Making packages, wants and picks.

// pack tells a package of "name version" with needs, each as "name range".
func pack(release string, needs ...string) api.Pack {
	n, v, _ := strings.Cut(release, " ")
	return api.Pack{Name: n, Version: v, Needs: needsOf(needs...)}
}

// needsOf tells needs, or wants, each as "name range".
func needsOf(l ...string) (needs []api.Need) {
	for _, s := range l {
		n, r, _ := strings.Cut(s, " ")
		needs = append(needs, api.Need{Name: n, Range: r})
	}
	return needs
}

// picksOf tells picks, each as "name version".
func picksOf(l ...string) (picks []api.Pick) {
	for _, s := range l {
		n, v, _ := strings.Cut(s, " ")
		picks = append(picks, api.Pick{Name: n, Version: v})
	}
	return picks
}

// name tells a name by a number, so that the names rise as the numbers do.
func name(i int) string { return "p" + strconv.Itoa(1000+i) }

// noise tells numbers that are alike in every run.
type noise uint64

func (r *noise) below(n int) int {
	*r ^= *r << 13
	*r ^= *r >> 7
	*r ^= *r << 17
	return int(uint64(*r) >> 16 % uint64(n))
}

// one tells one of a few texts.
func (r *noise) one(l ...string) string { return l[r.below(len(l))] }

func someVersions() []string {
	return []string{"0", "1", "1.0", "1-a", "1.5", "2", "2.0.0.0", "10", "9"}
}

func someRanges() []string {
	return []string{"*", "*", "*", "^1", "~1.2", "=1", "=1.0", ">=1", ">1", "<=1", "<1", "<2", ">=2", "=1|=2", ">=1.5,<9", "<1|>1", ">0-0,<0-0", "=1-a", "<9|>9", "=0|=9|=10"}
}

// needs tells up to most needs of few names, each once; the last of these names no
// package has.
func (r *noise) needs(most, names int) (l []api.Need) {
	for range r.below(most + 1) {
		n := name(r.below(names + 1))
		if !slices.ContainsFunc(l, func(o api.Need) bool { return o.Name == n }) {
			l = append(l, api.Need{Name: n, Range: r.one(someRanges()...)})
		}
	}
	return l
}

// packs tells packages that may be, of few names, of which there are at most so many
// assignments.
func (r *noise) packs(names, needs, most int) (l []api.Pack) {
	for range r.below(3 * names) {
		p := api.Pack{Name: name(r.below(names)), Version: r.one(someVersions()...), Needs: r.needs(needs, names)}
		more := append(slices.Clone(l), p)
		if index.Right(more) == api.OK && product(more) <= most {
			l = more
		}
	}
	return l
}

// A plain reading of the chapter, by going through all assignments.

// assignment tells versions by names: nothing is no entry.
type assignment map[string]string

// product tells how many assignments there are.
func product(packs []api.Pack) int {
	product := 1
	for _, n := range namesOf(packs) {
		product *= 1 + len(index.Versions(packs, n))
	}
	return product
}

// namesOf tells the names that packages have, rising.
func namesOf(packs []api.Pack) (l []string) {
	for _, p := range packs {
		l = append(l, p.Name)
	}
	slices.Sort(l)
	return slices.Compact(l)
}

// assignments goes through all of them.
func assignments(packs []api.Pack, yield func(assignment)) {
	names := namesOf(packs)
	a := assignment{}
	var from func(i int)
	from = func(i int) {
		if i == len(names) {
			yield(a)
			return
		}
		// In an order that is not the one of what is better.
		for _, v := range slices.Backward(index.Versions(packs, names[i])) {
			a[names[i]] = v
			from(i + 1)
		}
		delete(a, names[i])
		from(i + 1)
	}
	from(0)
}

// asked keeps what has was asked, by ranges and versions: it is asked very often.
var asked = map[[2]string]bool{}

// has tells whether a range has a version.
func has(rangeText, versionText string) bool {
	key := [2]string{rangeText, versionText}
	is, known := asked[key]
	if !known {
		set, e := span.Parse(rangeText)
		v, f := version.Parse(versionText)
		is = e == api.OK && f == api.OK && set.Has(v)
		asked[key] = is
	}
	return is
}

// meets tells whether an assignment gives each name that is needed a version that its
// range has.
func (a assignment) meets(needs []api.Need) bool {
	for _, n := range needs {
		if v, there := a[n.Name]; !there || !has(n.Range, v) {
			return false
		}
	}
	return true
}

// solves tells whether an assignment is a solution.
func (a assignment) solves(packs []api.Pack, wants []api.Need) bool {
	if !a.meets(wants) {
		return false
	}
	reached := map[string]bool{}
	for _, w := range wants {
		reached[w.Name] = true
	}
	for range len(a) + 1 {
		for _, p := range packs {
			if v, there := a[p.Name]; !there || v != p.Version {
				continue
			}
			if !a.meets(p.Needs) {
				return false
			}
			for _, n := range p.Needs {
				reached[n.Name] = reached[n.Name] || reached[p.Name]
			}
		}
	}
	for n := range a {
		if !reached[n] {
			return false
		}
	}
	return true
}

// better tells whether a is better than b.
func (a assignment) better(packs []api.Pack, b assignment) bool {
	for _, n := range namesOf(packs) {
		v, inA := a[n]
		w, inB := b[n]
		switch {
		case inA != inB:
			return inB
		case v != w:
			l := index.Versions(packs, n)
			return slices.Index(l, v) < slices.Index(l, w)
		}
	}
	return false
}

// picks tells an assignment as picks.
func (a assignment) picks() (l []api.Pick) {
	for n, v := range a {
		l = append(l, api.Pick{Name: n, Version: v})
	}
	slices.SortFunc(l, func(p, q api.Pick) int { return strings.Compare(p.Name, q.Name) })
	return l
}

// plainSolutions tells all solutions, and the number of the best one; -1: there is
// none.
func plainSolutions(packs []api.Pack, wants []api.Need) (all []assignment, best int) {
	best = -1
	assignments(packs, func(a assignment) {
		if !a.solves(packs, wants) {
			return
		}
		one := assignment{}
		for n, v := range a {
			one[n] = v
		}
		all = append(all, one)
		if best < 0 || one.better(packs, all[best]) {
			best = len(all) - 1
		}
	})
	return all, best
}

// plainSolve tells the best solution.
func plainSolve(packs []api.Pack, wants []api.Need) ([]api.Pick, api.Errno) {
	all, best := plainSolutions(packs, wants)
	if best < 0 {
		return nil, api.ErrSolve
	}
	return all[best].picks(), api.OK
}

// plainCheck tells whether picks are a solution, of packages and wants that may be.
func plainCheck(packs []api.Pack, wants []api.Need, picks []api.Pick) api.Errno {
	for i := 1; i < len(picks); i++ {
		if strings.Compare(picks[i-1].Name, picks[i].Name) >= 0 {
			return api.ErrName
		}
	}
	a := assignment{}
	for _, pick := range picks {
		if !slices.Contains(index.Versions(packs, pick.Name), pick.Version) {
			return api.ErrNone
		}
		a[pick.Name] = pick.Version
	}
	if !a.solves(packs, wants) {
		return api.ErrSolve
	}
	return api.OK
}

// Asking.

// solved asks that this is the best solution, whatever fuel there is that must do,
// and that it is checked.
func solved(t *testing.T, packs []api.Pack, wants []api.Need, want ...string) {
	t.Helper()
	picks := picksOf(want...)
	for _, fuel := range []int{resolve.Choices(packs, api.MaxFuel), api.MaxFuel} {
		if got, e := resolve.Solve(packs, wants, fuel); e != api.OK || !slices.Equal(got, picks) {
			t.Errorf("Solve(%.500v, %v, %d): %v, %v, want %v", packs, wants, fuel, got, e, picks)
		}
	}
	checked(t, packs, wants, api.OK, want...)
}

// solvedNot asks that there is no solution.
func solvedNot(t *testing.T, packs []api.Pack, wants []api.Need) {
	t.Helper()
	for _, fuel := range []int{resolve.Choices(packs, api.MaxFuel), api.MaxFuel} {
		errs(t, packs, wants, fuel, api.ErrSolve)
	}
}

// errs asks that Solve tells this error, and no picks.
func errs(t *testing.T, packs []api.Pack, wants []api.Need, fuel int, want api.Errno) {
	t.Helper()
	if got, e := resolve.Solve(packs, wants, fuel); e != want || len(got) != 0 {
		t.Errorf("Solve(%.500v, %.500v, %d): %v, %v, want %v", packs, wants, fuel, got, e, want)
	}
}

// checked asks what Check tells.
func checked(t *testing.T, packs []api.Pack, wants []api.Need, want api.Errno, picks ...string) {
	t.Helper()
	if e := resolve.Check(packs, wants, picksOf(picks...)); e != want {
		t.Errorf("Check(%.500v, %.500v, %v): %v, want %v", packs, wants, picks, e, want)
	}
}

// counts asks how many choices there are, at most so many.
func counts(t *testing.T, packs []api.Pack, most, want int) {
	t.Helper()
	if got := resolve.Choices(packs, most); got != want {
		t.Errorf("Choices(%.300v, %d): %d, want %d", packs, most, got, want)
	}
}
