package span_test

import (
	"cmp"
	"math"
	"regexp"
	"slices"
	"strconv"
	"strings"
	"testing"

	"stillroom/api"
	"stillroom/span"
	"stillroom/version"
)

// Making versions and sets.

// parsed tells the version of a text, which must be one.
func parsed(t *testing.T, s string) version.Version {
	t.Helper()
	v, e := version.Parse(s)
	if e != api.OK {
		t.Fatalf("version.Parse(%q): %v", s, e)
	}
	return v
}

// set tells the set of a range's text, which must be one.
func set(t *testing.T, s string) *span.Span {
	t.Helper()
	made, e := span.Parse(s)
	if made == nil || e != api.OK {
		t.Fatalf("Parse(%q): %v, %v", s, made, e)
	}
	return made
}

// unmade tells sets that are nil or that no call made.
func unmade() []*span.Span {
	var none span.Span
	return []*span.Span{nil, {}, &none, new(span.Span)}
}

// rising tells texts of versions at all edges, each above the one ahead of it.
func rising() []string {
	return []string{
		"0-0", "0.0-0", "0-a", "0.0.0.0-z", "0", "0.0", "0.0.0", "0.0.0.0", "0.0.0.1-a", "0.0.0.1", "0.0.0.2", "0.0.1-a", "0.0.1", "0.0.1.0", "0.0.2", "0.1-rc1", "0.1", "0.1.0", "0.1.0.1",
		"0.2-rc1", "0.2", "0.2.0.0", "0.2.5", "0.3-rc1", "0.3", "0.3.0", "0.999999999", "0.999999999.999999999.999999999",
		"1-000000000000", "1-a", "1.0-a", "1-aa", "1-b", "1-rc1", "1.0.0.0-rc1", "1-zzzzzzzzzzzz", "1", "1.0", "1.0.0", "1.0.0.0", "1.0.0.1", "1.1", "1.2-rc1", "1.2.0-rc1", "1.2-rc2", "1.2", "1.2.0", "1.2.0.1",
		"1.2.3-rc1", "1.2.3", "1.2.3.0", "1.2.3.4-rc1", "1.2.3.4", "1.2.3.5", "1.2.4", "1.2.9", "1.3-0", "1.3-rc1", "1.3", "1.3.0", "1.9", "1.10", "1.999999999", "1.999999999.1",
		"2-0", "2-rc1", "2.0-rc1", "2", "2.0", "2.0.0.0", "3-a", "3", "3.0", "4", "9", "10", "999999998", "999999999-a", "999999999", "999999999.0", "999999999.1", "999999999.999999999",
		"999999999.999999999.999999999.999999999-z", "999999999.999999999.999999999.999999999",
	}
}

// wrongVersions tells structs that are no versions.
func wrongVersions() []version.Version {
	l := []version.Version{
		{}, {Tag: "a"}, {Nums: [4]int{1}}, {Nums: [4]int{1, 2, 3, 4}, Tag: "rc1"},
		{Nums: [4]int{1, 2}, Count: 1}, {Nums: [4]int{1, 0, 0, 1}, Count: 3}, {Nums: [4]int{0, 0, 1}, Count: 2}, {Nums: [4]int{1, 2, 3, 4}, Count: 1},
	}
	for _, tag := range []string{"A", "-", " ", "a b", "a-b", "a.b", "\x00", "\xff", "\u00e4", "a\n", "abcdefghijklm", strings.Repeat("a", 1<<16)} {
		l = append(l, version.Version{Nums: [4]int{1}, Count: 1, Tag: tag}, version.Version{Nums: [4]int{1, 2, 3, 4}, Count: 4, Tag: tag})
	}
	for _, count := range []int{-1, 5, 256, 257, math.MaxInt, math.MinInt} {
		l = append(l, version.Version{Count: count}, version.Version{Nums: [4]int{1, 2, 3, 4}, Count: count})
	}
	for _, n := range []int{-1, 1000000000, math.MaxInt, math.MinInt} {
		for at := range 4 {
			v := version.Version{Nums: [4]int{1, 1, 1, 1}, Count: 4}
			v.Nums[at] = n
			l = append(l, v)
		}
	}
	return l
}

// noise tells numbers that are alike in every run.
type noise uint64

func (r *noise) below(n int) int {
	*r ^= *r << 13
	*r ^= *r >> 7
	*r ^= *r << 17
	return int(uint64(*r) >> 16 % uint64(n))
}

// rangeText tells a range's text with versions of these texts.
func (r *noise) rangeText(texts []string, alternatives, terms int) string {
	var or []string
	for range 1 + r.below(alternatives) {
		var and []string
		for range 1 + r.below(terms) {
			sign := []string{">=", ">", "<=", "<", "=", "^", "~", "*"}[r.below(8)]
			if sign != "*" {
				sign += texts[r.below(len(texts))]
			}
			and = append(and, sign)
		}
		or = append(or, strings.Join(and, ","))
	}
	return strings.Join(or, "|")
}

// pieces tells a range's text of small pieces with versions of these texts, which
// rise.
func (r *noise) pieces(texts []string) string {
	var or []string
	for range 1 + r.below(16) {
		at := r.below(len(texts) - 1)
		lower, upper := []string{">=", ">"}[r.below(2)], []string{"<=", "<"}[r.below(2)]
		or = append(or, []string{"=" + texts[at], lower + texts[at] + "," + upper + texts[at+1]}[r.below(2)])
	}
	return strings.Join(or, "|")
}

// A plain reading of the chapter, by other means than the program's.

const plainNumber = `(0|[1-9][0-9]{0,8})`

var plainTerm = regexp.MustCompile(`\A(?:\*|(>=|>|<=|<|=|\^|~)(` + plainNumber + `(?:\.` + plainNumber + `(?:\.` + plainNumber + `(?:\.` + plainNumber + `)?)?)?(?:-([a-z0-9]{1,12}))?))\z`)

// plainRange tells whether a text is a range's.
func plainRange(s string) bool {
	alternatives := strings.Split(s, "|")
	for _, alternative := range alternatives {
		terms := strings.Split(alternative, ",")
		for _, term := range terms {
			if !plainTerm.MatchString(term) {
				return false
			}
		}
		if len(terms) > 16 {
			return false
		}
	}
	return len(alternatives) <= 16
}

// plainCompare tells the order of two.
func plainCompare(a, b version.Version) int {
	rank := func(v version.Version) int {
		if v.Tag == "" {
			return 1
		}
		return 0
	}
	return cmp.Or(
		cmp.Compare(a.Nums[0], b.Nums[0]), cmp.Compare(a.Nums[1], b.Nums[1]), cmp.Compare(a.Nums[2], b.Nums[2]), cmp.Compare(a.Nums[3], b.Nums[3]),
		cmp.Compare(rank(a), rank(b)), strings.Compare(a.Tag, b.Tag), cmp.Compare(a.Count, b.Count))
}

// plainBound tells the bound above of ^ or ~ of a version's text, by its text, or
// nothing if there is none.
func plainBound(sign, s string) string {
	s, _, _ = strings.Cut(s, "-")
	nums := strings.Split(s, ".")
	place := min(len(nums), 2)
	if sign == "^" {
		place = 1
		for place < len(nums) && nums[place-1] == "0" {
			place++
		}
	}
	nums = nums[:place]
	n, _ := strconv.Atoi(nums[place-1])
	if n == 999999999 {
		return ""
	}
	nums[place-1] = strconv.Itoa(n + 1)
	return strings.Join(nums, ".")
}

// plainTermHas tells whether a term has a version.
func plainTermHas(t *testing.T, term string, v version.Version) bool {
	t.Helper()
	if term == "*" {
		return true
	}
	m := plainTerm.FindStringSubmatch(term)
	if m == nil {
		t.Fatalf("%q is no term", term)
	}
	c := plainCompare(v, parsed(t, m[2]))
	switch m[1] {
	case ">=":
		return c >= 0
	case ">":
		return c > 0
	case "<=":
		return c <= 0
	case "<":
		return c < 0
	case "=":
		return c == 0
	}
	bound := plainBound(m[1], m[2])
	return c >= 0 && (bound == "" || plainCompare(v, parsed(t, bound)) < 0)
}

// plainHas tells whether a range has a version.
func plainHas(t *testing.T, s string, v version.Version) bool {
	t.Helper()
	return slices.ContainsFunc(strings.Split(s, "|"), func(alternative string) bool {
		return !slices.ContainsFunc(strings.Split(alternative, ","), func(term string) bool { return !plainTermHas(t, term, v) })
	})
}

// A scale is versions that rise. Between each two, ahead of the first and behind
// the last, lies a gap, in which whatever lies is in a set, or out: so a set whose
// cuts are at these versions is a row of bools, gap and version in turn.
type scale []version.Version

// scaleOf tells the scale of texts, and of the bounds that ^ and ~ make of them.
func scaleOf(t *testing.T, texts ...string) scale {
	t.Helper()
	var l scale
	for _, s := range texts {
		l = append(l, parsed(t, s))
		for _, sign := range []string{"^", "~"} {
			if bound := plainBound(sign, s); bound != "" {
				l = append(l, parsed(t, bound))
			}
		}
	}
	slices.SortFunc(l, plainCompare)
	return slices.Compact(l)
}

// row is a set on a scale.
type row []bool

// each tells what a rule makes of two rows.
func each(a, b row, rule func(a, b bool) bool) row {
	made := make(row, len(a))
	for i := range a {
		made[i] = rule(a[i], b[i])
	}
	return made
}

// none and all are the rows of none, and of all.
func (l scale) none() row { return make(row, 2*len(l)+1) }
func (l scale) all() row  { return not(l.none()) }

func both(a, b row) row { return each(a, b, func(a, b bool) bool { return a && b }) }
func any2(a, b row) row { return each(a, b, func(a, b bool) bool { return a || b }) }
func not(a row) row     { return each(a, a, func(a, _ bool) bool { return !a }) }

// place tells where on a row a version of the scale lies.
func (l scale) place(t *testing.T, v version.Version) int {
	t.Helper()
	i := slices.Index(l, v)
	if i < 0 {
		t.Fatalf("%v is not on the scale", v)
	}
	return 2*i + 1
}

// term tells the row of a term.
func (l scale) term(t *testing.T, term string) row {
	t.Helper()
	if term == "*" {
		return l.all()
	}
	m := plainTerm.FindStringSubmatch(term)
	at := l.place(t, parsed(t, m[2]))
	from, to := 0, 2*len(l)
	switch m[1] {
	case ">=":
		from = at
	case ">":
		from = at + 1
	case "<=":
		to = at
	case "<":
		to = at - 1
	case "=":
		from, to = at, at
	default:
		from = at
		if bound := plainBound(m[1], m[2]); bound != "" {
			to = l.place(t, parsed(t, bound)) - 1
		}
	}
	made := l.none()
	for i := from; i <= to; i++ {
		made[i] = true
	}
	return made
}

// row tells the row of a range's text.
func (l scale) row(t *testing.T, s string) row {
	t.Helper()
	made := l.none()
	for alternative := range strings.SplitSeq(s, "|") {
		one := l.all()
		for term := range strings.SplitSeq(alternative, ",") {
			one = both(one, l.term(t, term))
		}
		made = any2(made, one)
	}
	return made
}

// runs tells from where to where a row is in.
func (r row) runs() (l [][2]int) {
	for i, in := range r {
		if in && (i == 0 || !r[i-1]) {
			l = append(l, [2]int{i, i})
		}
		if in {
			l[len(l)-1][1] = i
		}
	}
	return l
}

// text tells the text of a row.
func (l scale) text(r row) string {
	name := func(i int) string {
		s, _ := version.Text(l[i])
		return s
	}
	var pieces []string
	for _, run := range r.runs() {
		from, to := run[0], run[1]
		var terms []string
		switch {
		case from == to && from%2 == 1:
			terms = append(terms, "="+name(from/2))
			from, to = 0, len(r)-1
		case from == 0 && to == len(r)-1:
			terms = append(terms, "*")
		}
		if from%2 == 1 {
			terms = append(terms, ">="+name(from/2))
		} else if from > 0 {
			terms = append(terms, ">"+name(from/2-1))
		}
		if to%2 == 1 {
			terms = append(terms, "<="+name(to/2))
		} else if to < len(r)-1 {
			terms = append(terms, "<"+name(to/2))
		}
		pieces = append(pieces, strings.Join(terms, ","))
	}
	if pieces == nil {
		return ">0-0,<0-0"
	}
	return strings.Join(pieces, "|")
}

// Asking.

// has asks whether versions are in a set.
func has(t *testing.T, s *span.Span, want bool, versions ...string) {
	t.Helper()
	for _, v := range versions {
		if got := s.Has(parsed(t, v)); got != want {
			t.Errorf("%q has %s: %v, want %v", s.Text(), v, got, want)
		}
	}
}

// tells asks that a set has this text.
func tells(t *testing.T, s *span.Span, want string) {
	t.Helper()
	if s == nil {
		t.Fatalf("no set, want %q", want)
	}
	if got := s.Text(); got != want {
		t.Errorf("Text: %.300q, want %.300q", got, want)
	}
}

// readsNot asks that a text is no range's.
func readsNot(t *testing.T, s string) {
	t.Helper()
	if made, e := span.Parse(s); made != nil || e != api.ErrRange {
		t.Errorf("Parse(%.100q): %v, %v, want ErrRange", s, made, e)
	}
}

// readsAsPlain asks that a text is a range's just where the plain reading says so,
// and tells that.
func readsAsPlain(t *testing.T, s string) bool {
	t.Helper()
	if !plainRange(s) {
		readsNot(t, s)
		return false
	}
	set(t, s)
	return true
}

// same asks that two are the same, or not, whichever is asked.
func same(t *testing.T, a, b *span.Span, want bool) {
	t.Helper()
	if a.Same(b) != want || b.Same(a) != want {
		t.Errorf("Same of %.200q and %.200q: %v, %v, want %v", a.Text(), b.Text(), a.Same(b), b.Same(a), want)
	}
}

// isRow asks that a set is what a row says, in every way.
func (l scale) isRow(t *testing.T, s *span.Span, r row) {
	t.Helper()
	tells(t, s, l.text(r))
	for i, v := range l {
		if s.Has(v) != r[2*i+1] {
			t.Errorf("%q has %v: %v, want %v", s.Text(), v, s.Has(v), r[2*i+1])
		}
	}
	if runs := len(r.runs()); s.Empty() != (runs == 0) {
		t.Errorf("Empty of %q: %v", s.Text(), s.Empty())
	} else if runs <= 16 {
		same(t, set(t, s.Text()), s, true)
	} else {
		readsNot(t, s.Text())
	}
}
