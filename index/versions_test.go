package index_test

import (
	"slices"
	"testing"

	"stillroom/api"
	"stillroom/index"
	"stillroom/version"
)

// P15.2: Versions

// has asks that packages have these versions of a name.
func has(t *testing.T, l []api.Pack, name string, want ...string) {
	t.Helper()
	if got := index.Versions(l, name); !slices.Equal(got, want) {
		t.Errorf("Versions(%.300v, %q): %.300q, want %.300q", l, name, got, want)
	}
}

func TestVersionsFew(t *testing.T) {
	l := []api.Pack{pack("a", "1.0", "b ^1"), pack("b", "1.2"), pack("b", "1.10"), pack("c", "1-a", "b *", "a *"), pack("c", "1"), pack("b", "1.9"), pack("bb", "3")}
	has(t, l, "a", "1.0")
	has(t, l, "b", "1.10", "1.9", "1.2")
	has(t, l, "c", "1", "1-a")
	has(t, l, "bb", "3")
}

// TestVersionsNone: of names that no package has, be they needed or no names at all.
func TestVersionsNone(t *testing.T) {
	l := []api.Pack{pack("a", "1.0", "b ^1", "needed *"), pack("ab", "1.2")}
	for _, name := range []string{"b", "needed", "A", "", "a ", "aa", "abc", "a\x00", "a 1.0", "\xff", "*"} {
		has(t, l, name)
		has(t, nil, name)
		has(t, []api.Pack{}, name)
	}
}

// TestVersionsAlike: versions with more numbers are above those with fewer.
func TestVersionsAlike(t *testing.T) {
	has(t, []api.Pack{pack("a", "1.0"), pack("a", "1"), pack("a", "1.0.0.0"), pack("a", "1.0.0"), pack("a", "1-z")}, "a", "1.0.0.0", "1.0.0", "1.0", "1", "1-z")
}

// TestVersionsOfWrong: of packages that may not be, too: as often as they come, and
// what is no version's text behind, as it came.
func TestVersionsOfWrong(t *testing.T) {
	l := []api.Pack{pack("a", "1"), pack("a", "x"), pack("a", "2"), pack("", "1"), pack("a", "1"), pack("a", ""), pack("A", "3"), pack("a", "01"), pack("", "y"), pack("", "2"), {Name: "a", Version: "3", Needs: manyNeeds(65)}, pack("a", "0", "B x", "B x")}
	has(t, l, "a", "3", "2", "1", "1", "0", "x", "", "01")
	has(t, l, "", "2", "1", "y")
	has(t, l, "A", "3")
	has(t, []api.Pack{{}, {}}, "", "", "")
	many := manyPacks(5000)
	want := []string{}
	for i := range 50 {
		want = append(want, many[4900-100*i].Version)
	}
	has(t, many, "p0", want...)
}

// TestVersionsRandom holds them against version.Sort of what a name has.
func TestVersionsRandom(t *testing.T) {
	r := noise(155)
	for range 5000 {
		l := r.packs(20, 5, 6)
		for i := range l {
			l[i].Version = r.one(append(someVersions(), noVersions()...)...)
		}
		for _, name := range []string{"a0", "a1", "a4", "b0", "", "P"} {
			var texts []string
			for _, p := range l {
				texts = append(texts, map[bool][]string{true: {p.Version}}[p.Name == name]...)
			}
			has(t, l, name, version.Sort(texts)...)
		}
	}
}
