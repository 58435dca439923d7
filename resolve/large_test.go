package resolve_test

import (
	"slices"
	"strconv"
	"strings"
	"testing"

	"stillroom/api"
	"stillroom/resolve"
)

// P16.1, of many packages: far more assignments than could be gone through.

// unlike tells n names with m versions each, of which all must be unlike, and wants of
// all of them.
func unlike(n, m int) (packs []api.Pack, wants []api.Need) {
	for i := range n {
		wants = append(wants, needsOf(name(i)+" *")...)
		for v := range m {
			p := pack(name(i) + " " + strconv.Itoa(v))
			for j := range n {
				if s := strconv.Itoa(v); j != i {
					p.Needs = append(p.Needs, needsOf(name(j)+" <"+s+"|>"+s)...)
				}
			}
			packs = append(packs, p)
		}
	}
	return packs, wants
}

func TestSolveUnlike(t *testing.T) {
	for n := 2; n <= 9; n++ {
		packs, wants := unlike(n, n-1)
		solvedNot(t, packs, wants)
	}
	for _, n := range []int{1, 2, 7, 32} {
		packs, wants := unlike(n, n)
		var want []string
		for i := range n {
			want = append(want, name(i)+" "+strconv.Itoa(n-1-i))
		}
		solved(t, packs, wants, want...)
		if n > 2 {
			// The last name has the greatest one.
			wants[n-1].Range = "=" + strconv.Itoa(n-1)
			for i := range n - 1 {
				want[i] = name(i) + " " + strconv.Itoa(n-2-i)
			}
			want[n-1] = name(n-1) + " " + strconv.Itoa(n-1)
			solved(t, packs, wants, want...)
		}
	}
}

// TestSolveFuelEnds: what is hard ends where its fuel does.
func TestSolveFuelEnds(t *testing.T) {
	packs, wants := unlike(33, 31)
	for _, fuel := range []int{1, 2, 10, 500} {
		if got, e := resolve.Solve(packs, wants, fuel); len(got) != 0 || e != api.ErrFuel && e != api.ErrSolve {
			t.Errorf("fuel %d: %v, %v", fuel, got, e)
		}
	}
}

// chain tells n names with k versions each, of which each needs one of the next by a
// rule; of the last the least alone may be chosen. If they fall, the first comes last.
func chain(n, k int, falls bool, rule func(v int) string) (packs []api.Pack, names []string) {
	for i := range n {
		names = append(names, name(i))
	}
	if falls {
		slices.Reverse(names)
	}
	for i := range n {
		for v := range k {
			p := pack(names[i] + " " + strconv.Itoa(v))
			if i+1 < n {
				p.Needs = needsOf(names[i+1] + " " + rule(v))
			} else if v > 0 {
				p.Needs = needsOf("nowhere *")
			}
			packs = append(packs, p)
		}
	}
	return packs, names
}

// TestSolveChains: what may be chosen first is told by what is needed last.
func TestSolveChains(t *testing.T) {
	for _, falls := range []bool{false, true} {
		for _, c := range []struct {
			n, k int
			rule func(v int) string
			// what tells the version of the name that is so many ahead of the last.
			what func(ahead int) int
		}{
			{512, 2, func(v int) string { return "=" + strconv.Itoa(v) }, func(int) int { return 0 }},
			{256, 4, func(v int) string { return ">=" + strconv.Itoa(v) }, func(int) int { return 0 }},
			{512, 2, func(int) string { return "*" }, func(ahead int) int { return min(ahead, 1) }},
			{32, 32, func(v int) string { return ">=" + strconv.Itoa(max(v-1, 0)) }, func(ahead int) int { return ahead }},
		} {
			packs, names := chain(c.n, c.k, falls, c.rule)
			var want []string
			for i, n := range names {
				want = append(want, n+" "+strconv.Itoa(c.what(c.n-1-i)))
			}
			slices.Sort(want)
			solved(t, packs, needsOf(names[0]+" *"), want...)
			solvedNot(t, packs, needsOf(names[0]+" *", names[c.n-1]+" >0"))
			solved(t, packs, needsOf(names[c.n-1]+" *"), names[c.n-1]+" 0")
		}
	}
}

// TestSolveMany: as many packages as there may be, of one name, and of one version
// each.
func TestSolveMany(t *testing.T) {
	var one, all []api.Pack
	var want []string
	for i := range 1024 {
		one = append(one, pack("a "+strconv.Itoa(i), "a <1000", "b *"))
		p := pack(name(i) + " 1")
		for j := range min(64, 1023-i) {
			p.Needs = append(p.Needs, needsOf(name(i+1+j)+" ^1")...)
		}
		all = append(all, p)
		want = append(want, name(i)+" 1")
	}
	solvedNot(t, one, needsOf("a *"))
	one[1023] = pack("b 1", "a <500|>1000")
	solved(t, one, needsOf("a *"), "a 499", "b 1")
	solved(t, all, needsOf(name(0)+" *"), want...)
	solved(t, all, needsOf(name(1000)+" *"), want[1000:]...)
	all[1023].Version = "2"
	solvedNot(t, all, needsOf(name(0)+" *"))
}

// TestSolveFreeNames: names that may have any version do not make it harder to tell
// that others can't stand together, or how.
func TestSolveFreeNames(t *testing.T) {
	packs, wants := unlike(7, 6)
	for i := range packs {
		packs[i].Name = "z" + packs[i].Name
		for j := range packs[i].Needs {
			packs[i].Needs[j].Name = "z" + packs[i].Needs[j].Name
		}
	}
	for i := range wants {
		wants[i].Name = "z" + wants[i].Name
	}
	var want []string
	for i := range 50 {
		for v := range 15 {
			packs = append(packs, pack(name(i)+" "+strconv.Itoa(v), "free *"))
		}
		wants = append(wants, needsOf(name(i)+" *")...)
		want = append(want, name(i)+" 14")
	}
	packs = append(packs, pack("free 1"))
	solvedNot(t, packs, wants)
	packs = append(packs, pack("z"+name(6)+" 100"))
	want = append([]string{"free 1"}, want...)
	for i := range 6 {
		want = append(want, "z"+name(i)+" "+strconv.Itoa(5-i))
	}
	want = append(want, "z"+name(6)+" 100")
	solved(t, packs, wants, want...)
}

// moved tells the same packages, needs and picks as a group among sixty: those whose
// names' numbers have one rest.
func moved(g int, packs []api.Pack, wants []api.Need, picks []api.Pick) ([]api.Pack, []api.Need, []api.Pick) {
	move := func(n string) string {
		i, _ := strconv.Atoi(n[1:])
		return name((i-1000)*60 + g)
	}
	needs := func(l []api.Need) (to []api.Need) {
		for _, n := range l {
			to = append(to, api.Need{Name: move(n.Name), Range: n.Range})
		}
		return to
	}
	var toPacks []api.Pack
	for _, p := range packs {
		toPacks = append(toPacks, api.Pack{Name: move(p.Name), Version: p.Version, Needs: needs(p.Needs)})
	}
	var toPicks []api.Pick
	for _, p := range picks {
		toPicks = append(toPicks, api.Pick{Name: move(p.Name), Version: p.Version})
	}
	return toPacks, needs(wants), toPicks
}

// TestSolveGroups: groups of names that have nothing to do with one another are solved
// each for itself, however their names stand between one another.
func TestSolveGroups(t *testing.T) {
	r := noise(166)
	told := map[api.Errno]int{}
	for range 60 {
		var packs []api.Pack
		var wants []api.Need
		var want []api.Pick
		all := api.OK
		// Few of the groups that have no solution are taken.
		taken := r.below(60)
		for g := range 60 {
			part, asked := r.packs(5, 3, 200), r.needs(1, 4)
			picks, e := plainSolve(part, asked)
			if e != api.OK {
				if g != taken {
					continue
				}
				all = e
			}
			part, asked, picks = moved(g, part, asked, picks)
			packs, wants, want = append(packs, part...), append(wants, asked...), append(want, picks...)
		}
		if all != api.OK {
			want = nil
		}
		slices.SortFunc(want, func(p, q api.Pick) int { return strings.Compare(p.Name, q.Name) })
		told[all]++
		if got, e := resolve.Solve(packs, wants, api.MaxFuel); e != all || !slices.Equal(got, want) {
			t.Fatalf("Solve(%.1000v, %v): %v, %v, want %v, %v", packs, wants, got, e, want, all)
		}
	}
	if told[api.OK] < 10 || told[api.ErrSolve] < 10 {
		t.Error("too little was drawn:", told)
	}
}

// hard tells packages of so many names of three versions, of which each needs two
// names, and wants of every fifth: there are about as many solutions as none.
func hard(r *noise, names int) (packs []api.Pack, wants []api.Need) {
	for i := range names {
		for v := range 3 {
			needs := func(j int) []api.Need {
				return needsOf(name(j%names) + " " + r.one("=0|=1", "=1|=2", "=0|=2", "=0|=1", "=1|=2", "=0|=2", "=0|=1", "=1|=2", "=0|=2", "=2"))
			}
			first, second := 1+r.below(names/2), names/2+1+r.below(names/2-1)
			packs = append(packs, api.Pack{Name: name(i), Version: strconv.Itoa(v), Needs: append(needs(i+first), needs(i+second)...)})
		}
		if i%5 == 0 {
			wants = append(wants, needsOf(name(i)+" *")...)
		}
	}
	return packs, wants
}

// TestSolveForgets: what is forgotten of dead ends changes no answer.
func TestSolveForgets(t *testing.T) {
	r := noise(167)
	told := map[api.Errno]int{}
	for range 60 {
		packs, wants := hard(&r, 60)
		picks, e := resolve.Solve(packs, wants, api.MaxFuel)
		told[e]++
		for _, most := range []int{0, 1, 20, 200} {
			got, f := resolve.SolveForgetful(packs, wants, most)
			if f != e || !slices.Equal(got, picks) {
				t.Fatalf("%v, %v, with room for %d facts %v, %v", picks, e, most, got, f)
			}
		}
		if e == api.OK && resolve.Check(packs, wants, picks) != api.OK {
			t.Fatalf("%v: %v", picks, resolve.Check(packs, wants, picks))
		}
	}
	if told[api.OK] < 10 || told[api.ErrSolve] < 10 {
		t.Error("too little was drawn:", told)
	}
}

// TestSolveForgetsPlain: likewise, held against the plain reading.
func TestSolveForgetsPlain(t *testing.T) {
	r := noise(168)
	for round := range 2000 {
		packs, wants := drawn(&r, round)
		picks, e := plainSolve(packs, wants)
		for _, most := range []int{0, 5} {
			if got, f := resolve.SolveForgetful(packs, wants, most); f != e || !slices.Equal(got, picks) {
				t.Fatalf("%v, %v with room for %d facts: %v, %v, want %v, %v", packs, wants, most, got, f, picks, e)
			}
		}
	}
}
