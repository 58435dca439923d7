package span_test

import (
	"testing"

	"stillroom/span"
	"stillroom/version"
)

// P14.2

func TestHasExamples(t *testing.T) {
	has(t, set(t, "^1.2"), true, "1.2", "1.9")
	has(t, set(t, "^1.2"), false, "2")
	has(t, set(t, "^0.2"), true, "0.2.5")
	has(t, set(t, "^0.2"), false, "0.3")
	has(t, set(t, "~1.2"), true, "1.2.9")
	has(t, set(t, "~1.2"), false, "1.3")
	has(t, set(t, ">=1,<2|=3"), true, "1", "1.5", "3")
	has(t, set(t, ">=1,<2|=3"), false, "0.9", "2", "3.0", "4")
}

// TestHasAtABound: versions just at a bound, with and without a tag, and alike but
// for Count.
func TestHasAtABound(t *testing.T) {
	for _, c := range []struct {
		text    string
		in, out []string
	}{
		{">=1.2", []string{"1.2", "1.2.0", "1.2.0.0", "1.2.0.1-a", "1.3-a"}, []string{"1.2-zzzzzzzzzzzz", "1.2.0-a", "1.2.0.0-z", "1.1", "1.1.999999999.999999999"}},
		{">1.2", []string{"1.2.0", "1.2.0.0", "1.2.0.1-a", "1.3-a"}, []string{"1.2", "1.2-z", "1.2.0-a", "1.1"}},
		{"<=1.2", []string{"1.2", "1.2-z", "1.2.0-a", "1.2.0.0-z", "1.1"}, []string{"1.2.0", "1.2.0.0", "1.2.0.1-a"}},
		{"<1.2", []string{"1.2-z", "1.2.0-a", "1.2.0.0-zzzzzzzzzzzz", "1.1.999999999.999999999"}, []string{"1.2", "1.2.0", "1.2.1-a"}},
		{"=1.2", []string{"1.2"}, []string{"1.2.0", "1.2.0.0", "1.2-a", "1.2.0-a", "1", "1.1", "1.3"}},
		{"=1", []string{"1"}, []string{"1.0", "1.0.0", "1-a", "0", "2"}},
		{"=1.0", []string{"1.0"}, []string{"1", "1.0.0", "1.0-a"}},
		{">=1.2.0", []string{"1.2.0", "1.2.0.0"}, []string{"1.2", "1.2.0-a"}},
		{">=1.2-rc1", []string{"1.2-rc1", "1.2.0-rc1", "1.2-rc10", "1.2-rc2", "1.2", "1.2.0"}, []string{"1.2-rc", "1.2-rc0", "1.2-a", "1.2.0-rc0", "1.1"}},
		{">1.2-rc1", []string{"1.2.0-rc1", "1.2-rc10", "1.2"}, []string{"1.2-rc1", "1.2-rc"}},
		{"<1.2-rc1", []string{"1.2-rc", "1.2-a", "1.2.0.0-a", "1.1"}, []string{"1.2-rc1", "1.2.0-rc1", "1.2"}},
		{"<=1.2-rc1", []string{"1.2-rc1", "1.2-rc", "1.2.0-rc"}, []string{"1.2.0-rc1", "1.2-rc10", "1.2"}},
		{"=1.2-rc1", []string{"1.2-rc1"}, []string{"1.2.0-rc1", "1.2", "1.2-rc", "1.2-rc10"}},
		// A tag's version is below its bound.
		{"^1.2", []string{"1.2", "1.2.0", "1.999999999.999999999.999999999", "2-rc1", "2-0", "2.0.0.0-z"}, []string{"1.2-rc1", "1.2.0-a", "2", "2.0", "2.0.0.1-a", "1", "1.1"}},
		{"^1.2-rc1", []string{"1.2-rc1", "1.2.0-rc1", "1.2", "1.9", "2-a"}, []string{"1.2-rc0", "1.2-a", "2"}},
		{"^0.2", []string{"0.2", "0.2.5", "0.2.999999999.999999999", "0.3-rc1"}, []string{"0.2-a", "0.3", "0.3.0", "1", "0.1"}},
		{"^0.0.3", []string{"0.0.3", "0.0.3.0", "0.0.3.999999999", "0.0.4-a"}, []string{"0.0.4", "0.0.3-a", "0.0.2", "0.1"}},
		{"^0.0.0.4", []string{"0.0.0.4", "0.0.0.5-a"}, []string{"0.0.0.5", "0.0.0.4-z", "0.0.0.3"}},
		{"^0", []string{"0", "0.0", "0.999999999", "1-a"}, []string{"0-0", "0-a", "1", "1.0"}},
		{"^0-0", []string{"0-0", "0.0-0", "0", "0.9", "1-a"}, []string{"1"}},
		{"^0.0", []string{"0.0", "0.0.0", "0.0.999999999", "0.1-a"}, []string{"0", "0.1", "0.0-a"}},
		{"^0.0.0", []string{"0.0.0", "0.0.0.0", "0.0.0.999999999", "0.0.1-a"}, []string{"0", "0.0", "0.0.1"}},
		{"^0.0.0.0", []string{"0.0.0.0", "0.0.0.1-a"}, []string{"0", "0.0", "0.0.0", "0.0.0.1"}},
		{"~1", []string{"1", "1.0", "1.9", "2-a"}, []string{"1-a", "2"}},
		{"~1.2", []string{"1.2", "1.2.9", "1.2.999999999.999999999", "1.3-a"}, []string{"1.2-a", "1.3", "1.3.0", "2"}},
		{"~1.2.3", []string{"1.2.3", "1.2.9", "1.3-a"}, []string{"1.2.2", "1.2.3-a", "1.3"}},
		{"~1.2.3.4-rc1", []string{"1.2.3.4-rc1", "1.2.3.4", "1.2.9", "1.3-a"}, []string{"1.2.3.4-rc0", "1.2.3.3", "1.3"}},
		{"~0", []string{"0", "0.9", "1-a"}, []string{"0-a", "1"}},
		{"~0.0.0.1", []string{"0.0.0.1", "0.0.9", "0.1-a"}, []string{"0.0.0.0", "0.1"}},
		// There is no bound above.
		{"^999999999", []string{"999999999", "999999999.0", "999999999.999999999.999999999.999999999"}, []string{"999999999-a", "999999998"}},
		{"^0.999999999", []string{"0.999999999", "1", "2", "999999999.999999999.999999999.999999999"}, []string{"0.999999998", "0.999999999-a"}},
		{"~1.999999999", []string{"1.999999999", "1.999999999.1", "2", "999999999"}, []string{"1.999999998", "1.999999999-a", "1"}},
		{"~999999999", []string{"999999999", "999999999.5"}, []string{"999999998", "999999999-a"}},
		// The least version, and the greatest.
		{"<0-0", nil, []string{"0-0", "0", "1"}},
		{"<=0-0", []string{"0-0"}, []string{"0.0-0", "0"}},
		{">=0-0", []string{"0-0", "0", "1"}, nil},
		{">0-0", []string{"0.0-0", "0-00", "0"}, []string{"0-0"}},
		{">999999999.999999999.999999999.999999999", nil, []string{"999999999.999999999.999999999.999999999", "1"}},
		{">=999999999.999999999.999999999.999999999", []string{"999999999.999999999.999999999.999999999"}, []string{"999999999.999999999.999999999.999999999-zzzzzzzzzzzz"}},
	} {
		has(t, set(t, c.text), true, c.in...)
		has(t, set(t, c.text), false, c.out...)
		has(t, set(t, c.text).Not(), false, c.in...)
		has(t, set(t, c.text).Not(), true, c.out...)
	}
}

// TestHasEveryTerm: each sign with each version, of each version.
func TestHasEveryTerm(t *testing.T) {
	for _, sign := range []string{">=", ">", "<=", "<", "=", "^", "~"} {
		for _, s := range rising() {
			term := set(t, sign+s)
			for _, v := range rising() {
				has(t, term, plainTermHas(t, sign+s, parsed(t, v)), v)
			}
		}
	}
}

// TestHasRandom: ranges of many terms and alternatives.
func TestHasRandom(t *testing.T) {
	r := noise(142)
	told := map[bool]int{}
	for range 3000 {
		s := r.rangeText(rising(), 16, 1+r.below(4))
		made := set(t, s)
		for range 20 {
			v := rising()[r.below(len(rising()))]
			want := plainHas(t, s, parsed(t, v))
			told[want]++
			has(t, made, want, v)
		}
	}
	if told[true] < 5000 || told[false] < 3000 {
		t.Error("too little was tried:", told)
	}
}

// TestHasWrongVersion: what may not be is in no set, nor in its Not.
func TestHasWrongVersion(t *testing.T) {
	for _, s := range []string{"*", ">=0-0", ">1", "<2", "<=1", "=1", "^0", ">1,<1", "<1|>1", ">=1|=0", ">999999999.999999999.999999999.999999999"} {
		for _, made := range []*span.Span{set(t, s), set(t, s).Not()} {
			for _, v := range wrongVersions() {
				if made.Has(v) {
					t.Errorf("%q has %#v", made.Text(), v)
				}
			}
		}
	}
}

func TestHasUnmade(t *testing.T) {
	for _, s := range unmade() {
		has(t, s, false, rising()...)
		for _, v := range append(wrongVersions(), version.Version{}) {
			if s.Has(v) {
				t.Errorf("what no call made has %#v", v)
			}
		}
	}
}

// TestHasManyPieces: each of many pieces is found.
func TestHasManyPieces(t *testing.T) {
	made := span.None()
	for i := range 200 {
		v := version.Version{Nums: [4]int{2 * i}, Count: 1}
		s, _ := version.Text(v)
		made = made.Or(set(t, "="+s))
	}
	for i := range 500 {
		v := version.Version{Nums: [4]int{i}, Count: 1}
		if want := i%2 == 0 && i < 400; made.Has(v) != want {
			t.Errorf("%d: %v", i, !want)
		}
	}
}
