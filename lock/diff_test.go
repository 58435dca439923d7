package lock_test

import (
	"slices"
	"testing"

	"stillroom/api"
)

// P17.3, and of P17.4 what it says of Diff

func TestDiffExamples(t *testing.T) {
	unlike(t, picks("a 1", "b 1"), picks("b 2", "c 1"), []string{"c"}, []string{"a"}, []string{"b"})
}

// TestDiffFew: no picks, one, and all of one sort.
func TestDiffFew(t *testing.T) {
	unlike(t, nil, nil, nil, nil, nil)
	unlike(t, nil, []api.Pick{}, nil, nil, nil)
	unlike(t, nil, picks("a 1"), []string{"a"}, nil, nil)
	unlike(t, picks("a 1"), picks("a 1"), nil, nil, nil)
	unlike(t, picks("a 1"), picks("a 2"), nil, nil, []string{"a"})
	unlike(t, picks("a 1"), picks("b 1"), []string{"b"}, []string{"a"}, nil)
	unlike(t, nil, picks("a 1", "b 2", "c 3"), []string{"a", "b", "c"}, nil, nil)
	unlike(t, picks("a 1", "b 2", "c 3"), picks("a 2", "b 3", "c 1"), nil, nil, []string{"a", "b", "c"})
	unlike(t, picks("a 1", "c 1", "e 1"), picks("b 1", "d 1", "f 1"), []string{"b", "d", "f"}, []string{"a", "c", "e"}, nil)
	unlike(t, picks("a 1", "b 1", "c 1"), picks("b 1"), nil, []string{"a", "c"}, nil)
	unlike(t, picks("b 1"), picks("a 1", "b 2", "c 1"), []string{"a", "c"}, nil, []string{"b"})
}

// TestDiffVersionTexts: another text is another version, whichever is the greater.
func TestDiffVersionTexts(t *testing.T) {
	texts := append(someVersions(), "", "x", "01", "1 ", "1\n", "1.0.", "1-")
	for i, s := range texts {
		for j, o := range texts {
			var changed []string
			if i != j {
				changed = []string{"a"}
			}
			unlike(t, picks("a "+s), picks("a "+o), nil, nil, changed)
		}
	}
}

// TestDiffNamesAlike: names alike but for their last byte, or of which one begins the
// other, are two.
func TestDiffNamesAlike(t *testing.T) {
	unlike(t, picks("xa 1"), picks("xb 1"), []string{"xb"}, []string{"xa"}, nil)
	unlike(t, picks("x 1"), picks("xa 1"), []string{"xa"}, []string{"x"}, nil)
	unlike(t, picks("x 1", "x- 1", "x0 1", "xa 1"), picks("x 2", "x0 1", "xa 2", "xb 1"), []string{"xb"}, []string{"x-"}, []string{"x", "xa"})
	names := someNames()
	for i, a := range names {
		for j, b := range names {
			if i != j {
				unlike(t, picks(a+" 1"), picks(b+" 1"), []string{b}, []string{a}, nil)
			}
		}
	}
	// Where the name ends counts, not what both make together.
	unlike(t, []api.Pick{{Name: "a", Version: "11"}}, []api.Pick{{Name: "a1", Version: "1"}}, []string{"a1"}, []string{"a"}, nil)
	unlike(t, []api.Pick{{Name: "a 1", Version: "1"}}, []api.Pick{{Name: "a", Version: "1 1"}}, []string{"a"}, []string{"a 1"}, nil)
}

// TestDiffOften: of a name that one list has oftener its first place counts, and it
// is told once.
func TestDiffOften(t *testing.T) {
	// With one version.
	unlike(t, picks("a 1", "a 1"), picks("a 1"), nil, nil, nil)
	unlike(t, picks("a 1", "a 1"), picks("a 2"), nil, nil, []string{"a"})
	unlike(t, picks("a 1", "a 1"), nil, nil, []string{"a"}, nil)
	unlike(t, picks("a 1", "a 1", "a 1"), picks("b 1", "b 1"), []string{"b"}, []string{"a"}, nil)
	unlike(t, picks("a 1", "a 1"), picks("a 1", "a 1", "a 1"), nil, nil, nil)
	unlike(t, picks("a 1", "a 1"), picks("a 2", "a 2"), nil, nil, []string{"a"})
	// With two.
	unlike(t, picks("a 1", "a 2"), picks("a 1"), nil, nil, nil)
	unlike(t, picks("a 1", "a 2"), picks("a 2"), nil, nil, []string{"a"})
	unlike(t, picks("a 2", "a 1"), picks("a 1"), nil, nil, []string{"a"})
	unlike(t, picks("a 2", "a 1"), picks("a 2"), nil, nil, nil)
	unlike(t, picks("a 1", "a 2"), picks("a 1", "a 3"), nil, nil, nil)
	unlike(t, picks("a 1", "a 2"), picks("a 2", "a 1"), nil, nil, []string{"a"})
	unlike(t, picks("a 1", "a 2"), picks("b 1", "b 2"), []string{"b"}, []string{"a"}, nil)
	// With others between.
	unlike(t, picks("a 2", "b 1", "a 1", "c 1", "a 3"), picks("a 2", "c 1"), nil, []string{"b"}, nil)
	unlike(t, picks("a 2", "b 1", "a 1", "c 1", "a 3"), picks("c 1", "a 3"), nil, []string{"b"}, []string{"a"})
	unlike(t, picks("c 1", "b 1", "c 2", "a 1", "b 2", "a 2"), picks("a 1", "b 2", "c 1"), nil, nil, []string{"b"})
	// Very often.
	var often []api.Pick
	for i := range 3000 {
		often = append(often, picks("b "+someVersions()[(i+1)%15], "a 1", "c 1")...)
	}
	unlike(t, often, picks("a 1", "b 1", "c 1"), nil, nil, nil)
	unlike(t, often, picks("a 1", "b 0"), nil, []string{"c"}, []string{"b"})
}

// TestDiffNotRising: lists that do not rise, or that may not be, are told of rising.
func TestDiffNotRising(t *testing.T) {
	unlike(t, picks("c 1", "a 1", "b 1"), picks("b 1", "c 1", "a 1"), nil, nil, nil)
	unlike(t, picks("c 1", "a 1", "b 1"), picks("b 2", "c 2", "a 2"), nil, nil, []string{"a", "b", "c"})
	unlike(t, picks("c 1", "a 1", "b 1"), picks("f 1", "e 1", "d 1"), []string{"d", "e", "f"}, []string{"a", "b", "c"}, nil)
	unlike(t, picks("z 1", "m 1", "a 1"), picks("n 1", "m 2", "b 1", "a 1"), []string{"b", "n"}, []string{"z"}, []string{"m"})
	// Names and versions that are none; bytes are held against each other as numbers.
	unlike(t, []api.Pick{{}}, nil, nil, []string{""}, nil)
	unlike(t, []api.Pick{{}}, []api.Pick{{}}, nil, nil, nil)
	unlike(t, []api.Pick{{}}, picks("a 1"), []string{"a"}, []string{""}, nil)
	unlike(t, []api.Pick{{}}, []api.Pick{{Version: "1"}}, nil, nil, []string{""})
	unlike(t, nil, picks("\xff 1", "\u00e4 1", "a 1", "Z 1", "0 1", "\x00 1", " 1", "b\n 1", "a\x00 1", "-1 1"), []string{"", "\x00", "-1", "0", "Z", "a", "a\x00", "b\n", "\u00e4", "\xff"}, nil, nil)
	unlike(t, picks("A x", "b x", "a 1"), picks("a ", "B x", "b x"), []string{"B"}, []string{"A"}, []string{"a"})
	// Letters are not alike for being great or small, nor for what they look like.
	unlike(t, picks("\u00e4 1", "k 1"), picks("a\u0308 1", "\u212a 1"), []string{"a\u0308", "\u212a"}, []string{"k", "\u00e4"}, nil)
}

// TestDiffMany: more picks than a lockfile has.
func TestDiffMany(t *testing.T) {
	from, to := manyPicks(5000), manyPicks(6000)[1000:]
	var added, gone, changed []string
	for i := range 1000 {
		gone = append(gone, numbered(i))
		added = append(added, numbered(5000+i))
		to[3*i].Version += ".0"
		changed = append(changed, numbered(1000+3*i))
	}
	unlike(t, from, to, added, gone, changed)
	slices.Reverse(from)
	unlike(t, from, to, added, gone, changed)
	slices.Reverse(to)
	unlike(t, from, to, added, gone, changed)
}

// TestDiffSame: of picks to themselves there is no difference.
func TestDiffSame(t *testing.T) {
	r := noise(174)
	for range 3000 {
		l := r.rising(30)
		unlike(t, l, l, nil, nil, nil)
		unlike(t, l, slices.Clone(l), nil, nil, nil)
		l = r.any(30, 5)
		unlike(t, l, l, nil, nil, nil)
		unlike(t, l, slices.Clone(l), nil, nil, nil)
	}
}

// TestDiffRandom holds Diff against the plain reading.
func TestDiffRandom(t *testing.T) {
	r := noise(175)
	sorts := map[string]int{}
	for range 20000 {
		from, to := r.any(20, 3), r.any(20, 3)
		if r.below(2) == 0 {
			from, to = r.rising(20), r.rising(20)
		}
		unlikeAsPlain(t, from, to)
		added, gone, changed := plainDiff(from, to)
		for name, l := range map[string][]string{"added": added, "gone": gone, "changed": changed} {
			if len(l) > 1 {
				sorts[name]++
			}
		}
	}
	for _, name := range []string{"added", "gone", "changed"} {
		if sorts[name] < 5000 {
			t.Errorf("%s came up %d times alone", name, sorts[name])
		}
	}
}
