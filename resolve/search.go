package resolve

import (
	"slices"

	"stillroom/api"
)

// search seeks the best solution. It tries the best choice that is left of the first
// name that has none yet, and settles what follows. At a dead end it learns a clash,
// and goes back as far as that asks for. What is settled behind some tries stands in
// each solution that has them: so the first solution that it finds is the best one.
//
// Whether what is taken is wanted or needed need not be asked: with nothing in the
// place of what is not, it would be better still.
type search struct {
	stock
	// rows tell by names what is known of their choices.
	rows []row
	// apart tells which choices of other names can't be taken with one.
	apart map[choice][]choice
	// watched tells which clashes wait for a fact. Each waits for its first two: as
	// long as neither of these stands, nothing follows of it.
	watched map[fact][]clash
	// needed are the clashes that needs tell, and learned those that dead ends told,
	// which have some facts together, and may have at most so many.
	needed  []clash
	learned []clash
	have    int
	most    int
	// facts are those that stand, as they came; of so many was followed what they
	// lead to.
	facts    []fact
	followed int
	// tries tells at which places among the facts the tries are.
	tries []int
	// deadEnds counts those that were left.
	deadEnds int
}

// newSearch makes one of what packages and wants ask for; false: no package meets one
// of the wants.
func newSearch(packs []api.Pack, wants []api.Need) (*search, bool) {
	s := &search{stock: newStock(packs), apart: map[choice][]choice{}, watched: map[fact][]clash{}, most: mostLearned}
	for _, versions := range s.versions {
		choices := 1 + len(versions)
		s.rows = append(s.rows, row{marks: make([]mark, choices), left: choices})
	}
	for _, w := range wants {
		p := s.part(w)
		if len(p.met) == 0 {
			return nil, false
		}
		for _, c := range p.unmet {
			s.leaveOut(c)
		}
	}
	for _, p := range packs {
		s.bind(s.choice(p), p.Needs)
	}
	return s, true
}

// leaveOut puts a choice out that no solution has. As nothing is taken yet, no fact
// stands against that.
func (s *search) leaveOut(c choice) { s.settle(out(c), nil) }

// bind takes up what a choice needs.
func (s *search) bind(c choice, needs []api.Need) {
	for _, n := range needs {
		p := s.part(n)
		if len(p.met) == 0 || slices.Contains(p.unmet, c) {
			s.leaveOut(c)
			return
		}
		if p.met[0].name == c.name {
			// It meets its need itself.
			continue
		}
		for _, d := range p.unmet {
			s.apart[c] = append(s.apart[c], d)
			s.apart[d] = append(s.apart[d], c)
		}
		l := clash{taken(c)}
		for _, d := range p.met {
			l = append(l, out(d))
		}
		s.needed = append(s.needed, l)
		s.watch(l)
	}
}

// run seeks till each name has what the best solution gives it, or there is none, or
// there are more dead ends than fuel.
func (s *search) run(fuel int) api.Errno {
	for {
		if found := s.follow(); found != nil {
			if len(s.tries) == 0 {
				return api.ErrSolve
			}
			if s.deadEnds == fuel {
				return api.ErrFuel
			}
			s.turnBack(found)
			continue
		}
		c, ok := s.next()
		if !ok {
			return api.OK
		}
		s.tries = append(s.tries, len(s.facts))
		s.settle(taken(c), nil)
	}
}

// turnBack leaves a dead end: what the tries that are left rule out by what it told
// is settled, so that the search does not come this way again.
func (s *search) turnBack(found clash) {
	s.deadEnds++
	l := s.learn(found)
	s.goBack(l)
	s.keep(l)
	s.settle(l[0].opposite(), l)
}

// next tells the best choice that is left of the first name that has none yet; false:
// all have one.
func (s *search) next() (choice, bool) {
	first := 0
	if len(s.tries) > 0 {
		// All names ahead of the last try have one.
		first = s.facts[s.tries[len(s.tries)-1]].choice.name
	}
names:
	for name := first; name < len(s.rows); name++ {
		for place := range s.rows[name].marks {
			c := choice{name, place}
			if s.stands(taken(c)) {
				continue names
			}
			if !s.stands(out(c)) {
				return c, true
			}
		}
	}
	return choice{}, false
}

// picks tells what is taken but nothing.
func (s *search) picks() []api.Pick {
	var l []api.Pick
	for name := range s.rows {
		for place := range s.rows[name].marks {
			if c := (choice{name, place}); place > 0 && s.stands(taken(c)) {
				l = append(l, s.pick(c))
			}
		}
	}
	return l
}
