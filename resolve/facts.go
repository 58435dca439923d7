package resolve

import "slices"

// fact says that a choice is taken, or that it is out.
type fact struct {
	choice choice
	taken  bool
}

// clash is facts that can't all stand together.
type clash []fact

// mark is what is known of a choice.
type mark struct {
	// stands tells whether one of its facts does, and taken which.
	stands bool
	taken  bool
	// level tells behind how many tries it came, and why of which facts it follows;
	// a try, and what was out from the first, follow of none.
	level int
	why   []fact
	// blamed tells to which dead end it led last, by that one's number.
	blamed int
}

// row is what is known of a name's choices, by their places.
type row struct {
	marks []mark
	// left tells how many of them are not out, and given whether one is taken.
	left  int
	given bool
}

// taken and out tell the facts of a choice, and opposite the other one.
func taken(c choice) fact { return fact{c, true} }

func out(c choice) fact { return fact{c, false} }

func (f fact) opposite() fact { return fact{f.choice, !f.taken} }

// mark tells what is known of a choice, to be changed in its place.
func (s *search) mark(c choice) *mark { return &s.rows[c.name].marks[c.place] }

// stands tells whether a fact does.
func (s *search) stands(f fact) bool {
	m := s.mark(f.choice)
	return m.stands && m.taken == f.taken
}

// settle makes a fact stand that follows of others, or tells the clash if its
// opposite stands.
func (s *search) settle(f fact, why []fact) clash {
	m := s.mark(f.choice)
	if m.stands {
		if m.taken == f.taken {
			return nil
		}
		return append(slices.Clone(why), f.opposite())
	}
	m.stands, m.taken, m.level, m.why = true, f.taken, len(s.tries), why
	r := &s.rows[f.choice.name]
	if f.taken {
		r.given = true
	} else {
		r.left--
	}
	s.facts = append(s.facts, f)
	return nil
}

// unsettle takes back that a fact stands.
func (s *search) unsettle(f fact) {
	*s.mark(f.choice) = mark{}
	r := &s.rows[f.choice.name]
	if f.taken {
		r.given = false
	} else {
		r.left++
	}
}

// follow settles what follows of all facts that stand, or tells the first clash.
func (s *search) follow() clash {
	for s.followed < len(s.facts) {
		f := s.facts[s.followed]
		s.followed++
		var found clash
		if f.taken {
			found = s.followTaken(f)
		} else {
			found = s.followOut(f)
		}
		if found == nil {
			found = s.followClashes(f)
		}
		if found != nil {
			return found
		}
	}
	return nil
}

// followTaken puts out what can't be taken with a choice that is.
func (s *search) followTaken(f fact) clash {
	why := []fact{f}
	for place := range s.rows[f.choice.name].marks {
		if place == f.choice.place {
			continue
		}
		if found := s.settle(out(choice{f.choice.name, place}), why); found != nil {
			return found
		}
	}
	for _, c := range s.apart[f.choice] {
		if found := s.settle(out(c), why); found != nil {
			return found
		}
	}
	return nil
}

// followOut takes the last choice that is left of a name when one goes out.
func (s *search) followOut(f fact) clash {
	r := &s.rows[f.choice.name]
	if r.given || r.left > 1 {
		return nil
	}
	var outs, rest []fact
	for place := range r.marks {
		if c := (choice{f.choice.name, place}); s.stands(out(c)) {
			outs = append(outs, out(c))
		} else {
			rest = append(rest, taken(c))
		}
	}
	if len(rest) == 0 {
		// Each name must have one of its choices, be it nothing.
		return outs
	}
	return s.settle(rest[0], outs)
}

// followClashes looks at the clashes that wait for a fact. Where all others of one
// stand, too, its first can't; else it waits for another that does not stand yet.
func (s *search) followClashes(f fact) clash {
	watched := s.watched[f]
	kept := watched[:0]
	var found clash
next:
	for _, l := range watched {
		if l[0] == f {
			l[0], l[1] = l[1], l[0]
		}
		if found == nil && !s.stands(l[0].opposite()) {
			for i := 2; i < len(l); i++ {
				if !s.stands(l[i]) {
					l[1], l[i] = l[i], l[1]
					s.watched[l[1]] = append(s.watched[l[1]], l)
					continue next
				}
			}
			found = s.settle(l[0].opposite(), l)
		}
		kept = append(kept, l)
	}
	if len(watched) > 0 {
		s.watched[f] = kept
	}
	return found
}
