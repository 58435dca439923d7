package version_test

import (
	"slices"
	"strconv"
	"strings"
	"testing"

	"stillroom/version"
)

// P13.3

// sorts asks that a list is told so.
func sorts(t *testing.T, l, want []string) {
	t.Helper()
	if got := version.Sort(l); !slices.Equal(got, want) {
		t.Errorf("Sort(%.300q): %.300q, want %.300q", l, got, want)
	}
}

// plainSort takes each time a greatest version, then the others.
func plainSort(l []string) []string {
	var versions, others, sorted []string
	for _, s := range l {
		if _, ok := plainParse(s); ok {
			versions = append(versions, s)
		} else {
			others = append(others, s)
		}
	}
	for len(versions) > 0 {
		greatest := 0
		for i, s := range versions {
			a, _ := plainParse(s)
			b, _ := plainParse(versions[greatest])
			if plainCompare(a, b) > 0 {
				greatest = i
			}
		}
		sorted = append(sorted, versions[greatest])
		versions = slices.Delete(versions, greatest, greatest+1)
	}
	return append(sorted, others...)
}

func TestSortExample(t *testing.T) {
	sorts(t, []string{"1.2", "x", "1.10"}, []string{"1.10", "1.2", "x"})
}

func TestSortFew(t *testing.T) {
	sorts(t, nil, nil)
	sorts(t, []string{}, nil)
	sorts(t, []string{"1"}, []string{"1"})
	sorts(t, []string{"x"}, []string{"x"})
	sorts(t, []string{""}, []string{""})
	sorts(t, []string{"1", "2"}, []string{"2", "1"})
	sorts(t, []string{"2", "1"}, []string{"2", "1"})
	sorts(t, []string{"1", "1.0"}, []string{"1.0", "1"})
	sorts(t, []string{"1.0", "1"}, []string{"1.0", "1"})
	sorts(t, []string{"1", "1.0", "1", "1.0.0", "1.0"}, []string{"1.0.0", "1.0", "1.0", "1", "1"})
	sorts(t, []string{"1.2-rc1", "1.2", "1.2-rc", "1.1"}, []string{"1.2", "1.2-rc1", "1.2-rc", "1.1"})
	sorts(t, []string{"9", "10", "1.9", "1.10"}, []string{"10", "9", "1.10", "1.9"})
}

// TestSortAlike: alike ones come as often as they came.
func TestSortAlike(t *testing.T) {
	sorts(t, []string{"1", "1", "1"}, []string{"1", "1", "1"})
	sorts(t, []string{"1", "2", "1", "2", "1"}, []string{"2", "2", "1", "1", "1"})
	sorts(t, []string{"x", "x", "y", "x"}, []string{"x", "x", "y", "x"})
	many := slices.Repeat([]string{"1-a", "x", "2"}, 100)
	sorts(t, many, slices.Concat(slices.Repeat([]string{"2"}, 100), slices.Repeat([]string{"1-a"}, 100), slices.Repeat([]string{"x"}, 100)))
}

// TestSortOthers: what is no version's text comes behind, in the order in which it
// came.
func TestSortOthers(t *testing.T) {
	sorts(t, []string{"z", "1", "a", "2", "m", "", "b"}, []string{"2", "1", "z", "a", "m", "", "b"})
	sorts(t, []string{"b", "a", "c"}, []string{"b", "a", "c"})
	sorts(t, []string{"02", "01", "2", "1.", "1", "-1", " 1"}, []string{"2", "1", "02", "01", "1.", "-1", " 1"})
	others := noVersions()
	sorts(t, others, others)
	slices.Reverse(others)
	sorts(t, others, others)
	var mixed []string
	for i, s := range others {
		mixed = append(mixed, strconv.Itoa(i), s)
	}
	var want []string
	for i := range others {
		want = append(want, strconv.Itoa(len(others)-1-i))
	}
	sorts(t, mixed, append(want, others...))
}

// TestSortRising: from any order the same comes.
func TestSortRising(t *testing.T) {
	want := rising()
	slices.Reverse(want)
	r := noise(133)
	sorts(t, want, want)
	sorts(t, rising(), want)
	for range 200 {
		l := slices.Clone(want)
		for i := range l {
			j := r.below(i + 1)
			l[i], l[j] = l[j], l[i]
		}
		sorts(t, l, want)
	}
}

func TestSortRandom(t *testing.T) {
	r := noise(134)
	texts, others := someTexts(), []string{"", "x", "y", "1.", "01", "-1", "1-", "1.2.3.4.5", "1-A", "\xff"}
	for range 1000 {
		var l []string
		for range r.below(60) {
			switch r.below(3) {
			case 0:
				l = append(l, others[r.below(len(others))])
			case 1:
				l = append(l, texts[r.below(len(texts))])
			default:
				s, _ := version.Text(r.version())
				l = append(l, s)
			}
		}
		sorts(t, l, plainSort(l))
	}
}

// TestSortMany: long lists take no longer than they must.
func TestSortMany(t *testing.T) {
	const n = 200000
	var l, want []string
	for i := range n {
		l = append(l, "1."+strconv.Itoa(i*7919%n), "x"+strconv.Itoa(i))
		want = append(want, "1."+strconv.Itoa(n-1-i))
	}
	for i := range n {
		want = append(want, "x"+strconv.Itoa(i))
	}
	if !slices.Equal(version.Sort(l), want) {
		t.Error("a long list is told otherwise")
	}
}

// Rule 4: the list is not changed, and what is told is new memory.

func TestSortLeavesTheList(t *testing.T) {
	for _, l := range [][]string{{}, {"1"}, {"x"}, {"1", "x", "3", "2", "", "2"}, {"3", "2", "1"}, {"b", "a"}} {
		handed := append(slices.Clone(l), "9", "spare", "10")[:len(l)]
		sorted := version.Sort(handed)
		if whole := handed[:len(l)+3]; !slices.Equal(whole, append(slices.Clone(l), "9", "spare", "10")) {
			t.Errorf("%q has become %q", l, whole)
		}
		want := plainSort(l)
		if !slices.Equal(sorted, want) {
			t.Errorf("Sort(%q): %q", l, sorted)
		}
		// What was told does not change with the list, nor the list with it.
		for i := range handed[:cap(handed)] {
			handed[:cap(handed)][i] = "!"
		}
		if !slices.Equal(sorted, want) {
			t.Errorf("Sort(%q) has become %q", l, sorted)
		}
		for i := range sorted[:cap(sorted)] {
			sorted[:cap(sorted)][i] = "?"
		}
		for _, s := range handed[:cap(handed)] {
			if s != "!" {
				t.Errorf("the list of %q has become %q", l, handed[:cap(handed)])
			}
		}
	}
}

// TestSortTwice: two answers share nothing.
func TestSortTwice(t *testing.T) {
	l := []string{"1", "x", "2", "y"}
	one, other := version.Sort(l), version.Sort(l)
	for i := range one[:cap(one)] {
		one[:cap(one)][i] = "!"
	}
	if want := []string{"2", "1", "x", "y"}; !slices.Equal(other, want) {
		t.Errorf("%q, want %q", other, want)
	}
	sorts(t, l, []string{"2", "1", "x", "y"})
}

// TestSortTextsAreNewMemory: a piece of a text that was handed in would keep the
// whole of it.
func TestSortTextsAreNewMemory(t *testing.T) {
	text := strings.Clone("1.2.3.4-abcdefghijkl another text that is none")
	sorted := version.Sort([]string{text[21:], text[:20], text[:7]})
	if !slices.Equal(sorted, []string{"1.2.3.4", "1.2.3.4-abcdefghijkl", text[21:]}) {
		t.Errorf("%q", sorted)
	}
	for _, s := range sorted {
		if inside(s, text) {
			t.Errorf("%q lies where it was handed in", s)
		}
	}
}
