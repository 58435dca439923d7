package lock_test

import (
	"slices"
	"strings"
	"testing"

	"stillroom/api"
	"stillroom/lock"
)

// P17.1, and of P17.4 what it says of Text

func TestTextExamples(t *testing.T) {
	told(t, picks("a 1.0"), "lock 1\na 1.0\n")
	told(t, nil, "lock 1\n")
	told(t, []api.Pick{}, "lock 1\n")
	told(t, picks("a 1", "b-2 1.2.3.4-rc1", "c 0"), "lock 1\na 1\nb-2 1.2.3.4-rc1\nc 0\n")
}

// TestTextWords: each name and version that may be, and each that may not, alone,
// first, between and last.
func TestTextWords(t *testing.T) {
	for _, s := range someNames() {
		told(t, picks(s+" 1"), "lock 1\n"+s+" 1\n")
	}
	for _, s := range someVersions() {
		told(t, picks("a "+s, "b 1"), "lock 1\na "+s+"\nb 1\n")
	}
	wrongs := []api.Pick{{}, {Name: "b"}, {Version: "1"}, {Name: "b ", Version: "1"}, {Name: " b", Version: "1"}, {Name: "b b", Version: "1"}, {Name: "b\n", Version: "1"}, {Name: "\nb", Version: "1"}, {Name: "b", Version: "1 "}, {Name: "b", Version: " 1"}, {Name: "b", Version: "1 1"}, {Name: "b", Version: "1\n"}, {Name: "b", Version: "\n1"}, {Name: "b 1\nc", Version: "1"}, {Name: "b", Version: "1\nc 1"}}
	for _, s := range noNames() {
		wrongs = append(wrongs, api.Pick{Name: s, Version: "1"})
	}
	for _, s := range noVersions() {
		wrongs = append(wrongs, api.Pick{Name: "b", Version: s})
	}
	for _, p := range wrongs {
		a, z := api.Pick{Name: "a", Version: "1"}, api.Pick{Name: "zzz", Version: "1"}
		wrong(t, []api.Pick{p})
		wrong(t, []api.Pick{p, z})
		wrong(t, []api.Pick{a, p})
		wrong(t, []api.Pick{a, p, z})
	}
}

// TestTextRising: each name is above the one ahead of it, byte by byte.
func TestTextRising(t *testing.T) {
	names := someNames()
	for i, a := range names {
		for j, b := range names {
			l := picks(a+" 2", b+" 1")
			if i < j {
				told(t, l, plainText(l))
			} else {
				wrong(t, l)
			}
		}
	}
	wrong(t, picks("a 1", "a 1"))
	wrong(t, picks("a 1", "a 2"))
	wrong(t, picks("a 1", "b 1", "a 1"))
	wrong(t, picks("a 1", "c 1", "b 1"))
	wrong(t, picks("b 1", "a 1", "c 1"))
	wrong(t, picks("a 1", "b 1", "b 1", "c 1"))
	// Names alike but for their last bytes, and the one that the other begins with.
	long := strings.Repeat("x", 19)
	told(t, picks(long+"- 1", long+"0 1", long+"9 1", long+"a 1", long+"z 1"), "lock 1\n"+long+"- 1\n"+long+"0 1\n"+long+"9 1\n"+long+"a 1\n"+long+"z 1\n")
	wrong(t, picks(long+"b 1", long+"a 1"))
	wrong(t, picks(long+"a 1", long+"a 1"))
	wrong(t, picks(long+"a 1", long+" 1"))
	told(t, picks(long+" 1", long+"- 1"), "lock 1\n"+long+" 1\n"+long+"- 1\n")
}

// TestTextMany: as many picks as may be, and one more.
func TestTextMany(t *testing.T) {
	for _, n := range []int{1, 2, 1000, 1023, 1024} {
		told(t, manyPicks(n), plainText(manyPicks(n)))
	}
	for _, n := range []int{1025, 1026, 5000} {
		wrong(t, manyPicks(n))
		wrong(t, make([]api.Pick, n))
	}
	l := manyPicks(1024)
	for _, at := range []int{0, 1, 511, 1022, 1023} {
		bad := slices.Clone(l)
		bad[at].Version = "x"
		wrong(t, bad)
		bad = slices.Clone(l)
		bad[at].Name = "X"
		wrong(t, bad)
		if at > 0 {
			bad = slices.Clone(l)
			bad[at].Name = bad[at-1].Name
			wrong(t, bad)
		}
	}
}

// TestTextTooLong: a text may be longer than what is read.
func TestTextTooLong(t *testing.T) {
	l := manyPicks(1024)
	for i := range l {
		l[i] = api.Pick{Name: l[i].Name + strings.Repeat("z", 13), Version: "999999999.999999999.999999999.999999999-zzzzzzzzzzzz"}
	}
	s, e := lock.Text(l)
	if len(s) != 7+1024*74 || s != plainText(l) || e != api.OK {
		t.Fatalf("%d bytes, %v", len(s), e)
	}
	readsNot(t, s, 0, api.ErrBig)
}

// TestTextRandom holds Text against the plain reading.
func TestTextRandom(t *testing.T) {
	r := noise(171)
	asked := 0
	for range 20000 {
		l := r.rising(8)
		if len(l) > 0 && r.below(2) == 0 {
			p := &l[r.below(len(l))]
			switch r.below(3) {
			case 0:
				p.Name = r.one(append(someNames(), noNames()...)...)
			case 1:
				p.Version = r.one(noVersions()...)
			default:
				p.Name = l[r.below(len(l))].Name
			}
		}
		if plainMayBe(l) {
			told(t, l, plainText(l))
			asked++
		} else {
			wrong(t, l)
		}
	}
	if asked < 5000 || asked > 15000 {
		t.Errorf("%d lists may be", asked)
	}
}

// TestTextAgain: Parse of Text are the picks, Text of Parse the text.
func TestTextAgain(t *testing.T) {
	r := noise(172)
	for range 3000 {
		l := r.rising(30)
		s, e := lock.Text(l)
		if e != api.OK {
			t.Fatalf("Text(%v): %v", l, e)
		}
		again, at, e := lock.Parse(s)
		if !slices.Equal(again, l) || at != 0 || e != api.OK {
			t.Errorf("Parse of Text of %v: %v, %d, %v", l, again, at, e)
		}
		if text, e := lock.Text(again); text != s || e != api.OK {
			t.Errorf("Text of Parse of %q: %q, %v", s, text, e)
		}
	}
}
