package span_test

import (
	"strconv"
	"strings"
	"testing"

	"stillroom/span"
)

// P14.3 and P14.5

// someRanges tells ranges of all kinds.
func someRanges() []string {
	return []string{
		"*", ">1,<1", "=1", "=2", "=1.0", "=1-a", "=0-0", ">=1", ">1", "<=1", "<1", ">=2", "<2", ">=0-0", "<0-0", ">0-0", "<=0-0", ">=1,<2", ">1,<=2", ">1,<2", ">=1,<=2", "^1.2", "^0.2", "~1.2", "^999999999", "~1.999999999",
		"<1|>1", "<=1|>2", "<1|>=2", "=1|=2|=3", "<1|=2|>3", ">=1,<2|=3", ">=1,<2|>=3,<4", ">1,<2|>2,<3", "<0|>=0.5,<1|=1.5|>2", "<0-0|>0-0", ">=0-0,<1", ">=0-0,<1|>1",
		"=0|=2|=4|=6|=8|=10|=12|=14|=16|=18|=20|=22|=24|=26|=28|=30", "=1|=3|=5|=7|=9|=11|=13|=15|=17|=19|=21|=23|=25|=27|=29|=31", ">999999999.999999999.999999999.999999999", "<=999999999.999999999.999999999.999999999",
	}
}

func TestAnd(t *testing.T) {
	for _, c := range [][3]string{
		{">=1", "<2", ">=1,<2"},
		{">=1", "<=1", "=1"},
		{">1", "<=1", ">0-0,<0-0"},
		{">=1", "<1", ">0-0,<0-0"},
		{"<1|>1", "=1", ">0-0,<0-0"},
		{"<1|>1", ">=1", ">1"},
		{"<1|>1", "<=1", "<1"},
		{"<1|>1", "<2|>2", "<1|>1,<2|>2"},
		{"<2|>3", ">=1,<=4", ">=1,<2|>3,<=4"},
		{"=1|=2|=3", "=2|=3|=4", "=2|=3"},
		{"=1|=2|=3", "<=1|>=3", "=1|=3"},
		{"^1", "^1.2", ">=1.2,<2"},
		{"^1", "^2", ">0-0,<0-0"},
		{"*", "=1", "=1"},
		{">=1,<3|>=5,<7", ">=2,<6", ">=2,<3|>=5,<6"},
		{"<0-0", ">=0-0", ">0-0,<0-0"},
	} {
		tells(t, set(t, c[0]).And(set(t, c[1])), c[2])
		tells(t, set(t, c[1]).And(set(t, c[0])), c[2])
	}
}

func TestOr(t *testing.T) {
	for _, c := range [][3]string{
		{">=1", "<2", "*"},
		{">=1", "<1", "*"},
		{">1", "<1", "<1|>1"},
		{">1", "<=1", "*"},
		{"=1", "=2", "=1|=2"},
		{"=1", ">1", ">=1"},
		{"=1", "<1", "<=1"},
		{"<1|>1", "=1", "*"},
		{"=1|=3", "=2", "=1|=2|=3"},
		{"=1|=3", ">1,<3", ">=1,<=3"},
		{">=1,<2", ">=2,<3", ">=1,<3"},
		{">=1,<=2", ">2,<3", ">=1,<3"},
		{">=1,<2", ">2,<3", ">=1,<2|>2,<3"},
		{">=1,<5", ">=2,<3", ">=1,<5"},
		{">1,<1", "=1", "=1"},
		{"*", "=1", "*"},
		{"=1", "=1.0", "=1|=1.0"},
		{"<0-0", ">=0-0", "*"},
	} {
		tells(t, set(t, c[0]).Or(set(t, c[1])), c[2])
		tells(t, set(t, c[1]).Or(set(t, c[0])), c[2])
	}
}

func TestNot(t *testing.T) {
	for _, c := range [][2]string{
		{"*", ">0-0,<0-0"},
		{"=1", "<1|>1"},
		{">=1", "<1"},
		{">1", "<=1"},
		{">=1,<2", "<1|>=2"},
		{">1,<=2", "<=1|>2"},
		{"=1|=2", "<1|>1,<2|>2"},
		{">=1,<2|=3", "<1|>=2,<3|>3"},
		{"<1|=2|>3", ">=1,<2|>2,<=3"},
		{">=0-0", "<0-0"},
		{"=0-0", "<0-0|>0-0"},
		{"=1|=1.0", "<1|>1,<1.0|>1.0"},
		{"<=999999999.999999999.999999999.999999999", ">999999999.999999999.999999999.999999999"},
	} {
		tells(t, set(t, c[0]).Not(), c[1])
		tells(t, set(t, c[1]).Not(), c[0])
		tells(t, set(t, c[0]).Not().Not(), c[0])
	}
	tells(t, span.All().Not(), ">0-0,<0-0")
	tells(t, span.None().Not(), "*")
	same(t, span.All().Not(), span.None(), true)
	same(t, span.None().Not(), span.All(), true)
}

// TestWithAllNoneAndItself: And and Or with all, with none, with itself, and with
// its Not.
func TestWithAllNoneAndItself(t *testing.T) {
	for _, text := range someRanges() {
		s, all, none := set(t, text), span.All(), span.None()
		for _, made := range []*span.Span{s.And(all), all.And(s), s.Or(none), none.Or(s), s.And(s), s.Or(s), s.Not().Not(), s.And(set(t, text)), s.Or(set(t, text))} {
			same(t, made, s, true)
			tells(t, made, s.Text())
		}
		for _, made := range []*span.Span{s.And(none), none.And(s), s.And(s.Not()), s.Not().And(s)} {
			same(t, made, none, true)
			if !made.Empty() {
				t.Errorf("of %q: %q is not empty", text, made.Text())
			}
		}
		for _, made := range []*span.Span{s.Or(all), all.Or(s), s.Or(s.Not()), s.Not().Or(s)} {
			same(t, made, all, true)
			if made.Empty() {
				t.Errorf("of %q: empty", text)
			}
		}
		same(t, s, s.Not(), false)
	}
}

// TestLaws: of all pairs and of many triples.
func TestLaws(t *testing.T) {
	l := someRanges()
	for i, x := range l {
		for j, y := range l {
			a, b := set(t, x), set(t, y)
			same(t, a.And(b).Not(), a.Not().Or(b.Not()), true)
			same(t, a.Or(b).Not(), a.Not().And(b.Not()), true)
			same(t, a.And(b), b.And(a), true)
			same(t, a.Or(b), b.Or(a), true)
			same(t, a.And(a.Or(b)), a, true)
			same(t, a.Or(a.And(b)), a, true)
			c := set(t, l[(7*i+3*j)%len(l)])
			same(t, a.And(b).And(c), a.And(b.And(c)), true)
			same(t, a.Or(b).Or(c), a.Or(b.Or(c)), true)
			same(t, a.And(b.Or(c)), a.And(b).Or(a.And(c)), true)
			same(t, a.Or(b.And(c)), a.Or(b).And(a.Or(c)), true)
		}
	}
}

// TestEachVersion: each version is in And, Or and Not just as it must be.
func TestEachVersion(t *testing.T) {
	for _, x := range someRanges() {
		for _, y := range someRanges() {
			a, b := set(t, x), set(t, y)
			and, or, no := a.And(b), a.Or(b), a.Not()
			for _, s := range rising() {
				v := parsed(t, s)
				inA, inB := plainHas(t, x, v), plainHas(t, y, v)
				if and.Has(v) != (inA && inB) || or.Has(v) != (inA || inB) || no.Has(v) == inA {
					t.Errorf("%s of %q and %q: And %v, Or %v, Not %v", s, x, y, and.Has(v), or.Has(v), no.Has(v))
				}
			}
		}
	}
}

// TestOnAScale: what calls make of sets, one upon the other, is what the rows say.
func TestOnAScale(t *testing.T) {
	texts := rising()
	l := scaleOf(t, texts...)
	r := noise(145)
	pieces := map[int]int{}
	for range 400 {
		sets, rows := []*span.Span{span.All(), span.None()}, []row{l.all(), l.none()}
		for range 40 {
			a, b := r.below(len(sets)), r.below(len(sets))
			switch r.below(5) {
			case 0, 1:
				s := r.rangeText(texts, 16, 1+r.below(3))
				if r.below(2) == 0 {
					s = r.pieces(texts)
				}
				sets, rows = append(sets, set(t, s)), append(rows, l.row(t, s))
			case 2:
				sets, rows = append(sets, sets[a].And(sets[b])), append(rows, both(rows[a], rows[b]))
			case 3:
				sets, rows = append(sets, sets[a].Or(sets[b])), append(rows, any2(rows[a], rows[b]))
			default:
				sets, rows = append(sets, sets[a].Not()), append(rows, not(rows[a]))
			}
		}
		// All of them, at the end: none has been changed since.
		for i := range sets {
			l.isRow(t, sets[i], rows[i])
			pieces[min(len(rows[i].runs()), 17)]++
			j := r.below(len(sets))
			same(t, sets[i], sets[j], l.text(rows[i]) == l.text(rows[j]))
		}
	}
	for n := range 18 {
		if pieces[n] < 30 {
			t.Error("too little was tried:", pieces)
		}
	}
}

// TestEveryRow: all sets whose cuts are at three versions, and each pair of them.
func TestEveryRow(t *testing.T) {
	l := scale{parsed(t, "1-a"), parsed(t, "1"), parsed(t, "1.0")}
	var sets []*span.Span
	var rows []row
	for bits := range 1 << 7 {
		r := l.none()
		for i := range r {
			r[i] = bits>>i&1 == 1
		}
		s := set(t, l.text(r))
		l.isRow(t, s, r)
		l.isRow(t, s.Not(), not(r))
		sets, rows = append(sets, s), append(rows, r)
	}
	for i := range sets {
		for j := range sets {
			l.isRow(t, sets[i].And(sets[j]), both(rows[i], rows[j]))
			l.isRow(t, sets[i].Or(sets[j]), any2(rows[i], rows[j]))
			same(t, sets[i], sets[j], i == j)
		}
	}
}

// TestManyPieces: sets with as many pieces as sixteen, and more.
func TestManyPieces(t *testing.T) {
	even, odd := span.None(), span.None()
	var names []string
	for i := range 1000 {
		even = even.Or(set(t, "="+strconv.Itoa(2*i)))
		odd = odd.Or(set(t, "="+strconv.Itoa(2*i+1)))
		names = append(names, "="+strconv.Itoa(2*i))
		tells(t, even, strings.Join(names, "|"))
		if i < 16 {
			same(t, set(t, even.Text()), even, true)
		} else {
			readsNot(t, even.Text())
		}
	}
	same(t, even.And(odd), span.None(), true)
	same(t, even.Not().Not(), even, true)
	same(t, even.Or(odd).And(odd.Not()), even, true)
	same(t, even.And(odd).Not(), even.Not().Or(odd.Not()), true)
	tells(t, even.And(set(t, "<=4")), "=0|=2|=4")
	tells(t, even.Or(set(t, "<1998")), "<=1998")
	tells(t, even.Not().And(set(t, ">=2,<=4")), ">2,<4")
	has(t, even, true, "0", "2", "1000", "1998")
	has(t, even, false, "1", "2.0", "2000", "1000-a")
	has(t, even.Not(), true, "1", "2.0", "2000", "1000-a")
}

// TestSame: the cuts tell, whether there are versions between them or not.
func TestSame(t *testing.T) {
	l := someRanges()
	for i, x := range l {
		for j, y := range l {
			same(t, set(t, x), set(t, y), i == j)
		}
	}
	for _, c := range [][2]string{{"^1", ">=1,<2"}, {"~1", "^1"}, {"=1|=2", "=2|=1"}, {">=1,<=1", "=1"}, {"<1|>=1", "*"}, {">1,<1", "=1,=2"}, {"^1.2,~1.2", "~1.2"}, {"<2,<3", "<2"}} {
		same(t, set(t, c[0]), set(t, c[1]), true)
	}
	for _, c := range [][2]string{
		// No version lies between 1 and 1.0, below 0-0, or above the greatest.
		{"<=1", "<1.0"}, {">1", ">=1.0"}, {"=1|=1.0", ">=1,<=1.0"}, {">1,<1.0", ">1,<1"}, {">=0-0", "*"}, {"<0-0", ">1,<1"}, {"=0-0", "<=0-0"},
		{"<=999999999.999999999.999999999.999999999", "*"}, {">999999999.999999999.999999999.999999999", ">1,<1"}, {"^999999999", ">=999999999,<=999999999.999999999.999999999.999999999"},
		{"=1", "=1.0"}, {"=1", "=1-a"}, {"<1", "<=1"}, {">1", ">=1"}, {"<1", ">1"}, {"<1", ">=1"}, {"=1", ">=1"}, {"=1", "<=1"}, {"=1|=2", "=1"}, {"=1|=2", "=2"}, {"<1|>1", "*"}, {"<1|>1", "<1"}, {"<1|>1", ">1"},
	} {
		same(t, set(t, c[0]), set(t, c[1]), false)
	}
}

func TestEmpty(t *testing.T) {
	for _, s := range []string{">1,<1", ">0-0,<0-0", "=1,=2", ">=1,<1", ">1,<=1", "^1,^2", "=1,=2|=3,=4", ">1,<1|>2,<2"} {
		if made := set(t, s); !made.Empty() || made.Not().Empty() {
			t.Errorf("Empty of %q: %v, of its Not: %v", s, made.Empty(), made.Not().Empty())
		}
	}
	// A set that has cuts is not empty, even if no version lies between them.
	for _, s := range []string{"*", "=1", "<0-0", ">999999999.999999999.999999999.999999999", ">1,<1.0", ">0-0,<0.0-0", "<1", ">1", "<1|>1"} {
		if set(t, s).Empty() {
			t.Errorf("%q is empty", s)
		}
	}
}

// Rule 1: sets that are nil or that no call made.

func TestUnmade(t *testing.T) {
	for _, u := range unmade() {
		if u.Not() != nil {
			t.Errorf("Not: %v", u.Not())
		}
		if !u.Empty() {
			t.Error("it is not empty")
		}
		if u.Text() != "" {
			t.Errorf("Text: %q", u.Text())
		}
		for _, o := range unmade() {
			if u.And(o) != nil || u.Or(o) != nil {
				t.Errorf("And %v, Or %v", u.And(o), u.Or(o))
			}
			same(t, u, o, true)
		}
		for _, text := range someRanges() {
			s := set(t, text)
			if u.And(s) != nil || u.Or(s) != nil || s.And(u) != nil || s.Or(u) != nil {
				t.Errorf("of %q: And %v, Or %v, %v, %v", text, u.And(s), u.Or(s), s.And(u), s.Or(u))
			}
			same(t, u, s, false)
		}
	}
}

// Rule 4: no call changes a set, and what is told is new memory.

func TestSetsStay(t *testing.T) {
	for _, x := range someRanges() {
		for _, y := range someRanges() {
			a, b := set(t, x), set(t, y)
			textA, textB := a.Text(), b.Text()
			made := []*span.Span{a.And(b), a.Or(b), a.Not(), b.Not(), a.And(a), a.Or(a), a.And(span.All()), a.Or(span.None()), span.All().And(a), span.None().Or(a)}
			var texts []string
			for _, m := range made {
				texts = append(texts, m.Text())
			}
			a.Has(parsed(t, "1"))
			a.Same(b)
			a.Empty()
			tells(t, a, textA)
			tells(t, b, textB)
			// Nothing that was made is one of the others, or changes with them.
			*a = span.Span{}
			tells(t, b, textB)
			for i, m := range made {
				tells(t, m, texts[i])
				*m = span.Span{}
				if i+1 < len(made) {
					tells(t, made[i+1], texts[i+1])
				}
			}
			tells(t, b, textB)
		}
	}
}

// TestSetsGrowApart: sets made of one and the same do not write into one another.
func TestSetsGrowApart(t *testing.T) {
	base := span.None()
	for i := range 20 {
		one, other := base.Or(set(t, "=100")), base.Or(set(t, "=200"))
		was := strings.TrimPrefix(base.Text()+"|", ">0-0,<0-0|")
		tells(t, one, was+"=100")
		tells(t, other, was+"=200")
		base = base.Or(set(t, "="+strconv.Itoa(i)))
		tells(t, one, was+"=100")
		tells(t, other, was+"=200")
	}
}
