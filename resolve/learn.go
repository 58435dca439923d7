package resolve

import (
	"cmp"
	"slices"
)

// The most facts that the clashes which were learned may have together: they take
// room, and time to look at them.
const mostLearned = 1 << 19

// learn goes back from facts that stand and clash to those of which they follow, till
// of the facts that came with the last try there is but one among them. It tells these,
// that one first, and next to it the one of the others that came last.
func (s *search) learn(found clash) clash {
	learned := clash{{}}
	open := 0
	at := len(s.facts)
	for {
		for _, f := range found {
			m := s.mark(f.choice)
			if m.blamed == s.deadEnds || m.level == 0 {
				continue
			}
			m.blamed = s.deadEnds
			if m.level == len(s.tries) {
				open++
			} else {
				learned = append(learned, f)
			}
		}
		at--
		for s.mark(s.facts[at].choice).blamed != s.deadEnds {
			at--
		}
		if open == 1 {
			break
		}
		open--
		found = s.mark(s.facts[at].choice).why
	}
	learned[0] = s.facts[at]
	for i := 2; i < len(learned); i++ {
		if s.level(learned[i]) > s.level(learned[1]) {
			learned[1], learned[i] = learned[i], learned[1]
		}
	}
	return learned
}

// level tells behind how many tries a fact came that stands.
func (s *search) level(f fact) int { return s.mark(f.choice).level }

// goBack takes back tries, as many as it can while all facts of a clash but the first
// stand.
func (s *search) goBack(l clash) {
	tries := 0
	if len(l) > 1 {
		tries = s.level(l[1])
	}
	end := s.tries[tries]
	for _, f := range s.facts[end:] {
		s.unsettle(f)
	}
	s.facts = s.facts[:end]
	s.followed = end
	s.tries = s.tries[:tries]
}

// keep keeps a clash that was learned. One of a single fact need not be kept: what
// follows of it stands ahead of all tries, and is never taken back.
func (s *search) keep(l clash) {
	if len(l) == 1 {
		return
	}
	s.take(l)
	if s.have > s.most {
		s.forget()
	}
}

// take takes a clash to those that were learned.
func (s *search) take(l clash) {
	s.watch(l)
	s.learned = append(s.learned, l)
	s.have += len(l)
}

// forget forgets the longer half of what was learned. As nothing is taken back for
// that, the search goes on from where it is, and ends all the same.
func (s *search) forget() {
	l := s.learned
	slices.SortStableFunc(l, func(a, b clash) int { return cmp.Compare(len(a), len(b)) })
	s.learned, s.have = nil, 0
	clear(s.watched)
	for _, needed := range s.needed {
		s.watch(needed)
	}
	for _, shorter := range l[:len(l)/2] {
		s.take(shorter)
	}
}

// watch lets a clash wait for its first two facts.
func (s *search) watch(l clash) {
	for _, f := range l[:2] {
		s.watched[f] = append(s.watched[f], l)
	}
}
