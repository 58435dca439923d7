package index_test

import (
	"strings"
	"testing"

	"stillroom/api"
	"stillroom/index"
)

// P15.2: the text, and P15.3

func TestTextExamples(t *testing.T) {
	for want, l := range map[string][]api.Pack{
		"":                            nil,
		"package a 1.0\nneeds b ^1\n": {pack("a", "1.0", "b ^1")},
		"package b 2\npackage a 1\n":  {pack("b", "2"), pack("a", "1")},
		"package a 1\nneeds z >=1,<2|=3\nneeds b *\npackage a 1-rc1\n": {pack("a", "1", "z >=1,<2|=3", "b *"), pack("a", "1-rc1")},
	} {
		if s, e := index.Text(l); s != want || e != api.OK {
			t.Errorf("Text(%v): %q, %v, want %q", l, s, e, want)
		}
	}
}

// TestRangesStayAsTold: a range is told as it came, not as span.Text tells its set.
func TestRangesStayAsTold(t *testing.T) {
	for _, s := range []string{"^1", "~1", "=2|=1", "*|=1", "<2,>1", "=1,=2", "*,*"} {
		reads(t, "package a 1\nneeds b "+s+"\n", []api.Pack{pack("a", "1", "b "+s)})
	}
}

// TestTextTooLong: a text may be longer than what is read.
func TestTextTooLong(t *testing.T) {
	l := manyPacks(1024)
	for i := range l {
		l[i].Needs = manyNeeds(64)
	}
	long := strings.Repeat(">=1.2.3.4-abcdefghijkl,", 15) + "*"
	for _, l := range [][]api.Pack{l, {{Name: "a", Version: "1", Needs: longNeeds(64, strings.Repeat(long+"|", 15)+long)}}} {
		s, e := index.Text(l)
		if e != api.OK || s != plainText(l) || len(s) <= 65536 {
			t.Fatalf("Text: %d bytes, %v", len(s), e)
		}
		readsNot(t, s, 0, api.ErrBig)
	}
	// Just as long as may be, and a byte longer.
	for n, want := range map[int]api.Errno{65536: api.OK, 65537: api.ErrBig} {
		s, e := index.Text(packsOf(n))
		if s != textOf(n) || len(s) != n || e != api.OK {
			t.Fatalf("%d bytes, %v, want %d", len(s), e, n)
		}
		if _, at, e := index.Parse(s); at != 0 || e != want {
			t.Errorf("Parse of %d bytes: %d, %v, want %v", n, at, e, want)
		}
	}
}

// longNeeds tells needs with that range.
func longNeeds(n int, text string) []api.Need {
	l := manyNeeds(n)
	for i := range l {
		l[i].Range = text
	}
	return l
}

// TestTextAgain: Parse of Text are the packages, Text of Parse the text.
func TestTextAgain(t *testing.T) {
	r := noise(154)
	asked := 0
	for range 5000 {
		l := r.packs(20, 1000, 0)
		for i := range l {
			l[i].Name = r.one(someNames()...)
			l[i].Version = r.one(someVersions()...)
			for j := range l[i].Needs {
				l[i].Needs[j].Range = r.one(someRanges()...)
			}
		}
		if index.Right(l) != api.OK {
			continue
		}
		asked++
		s, e := index.Text(l)
		if e != api.OK {
			t.Fatalf("Text(%v): %v", l, e)
		}
		again, at, e := index.Parse(s)
		if !samePacks(again, l) || at != 0 || e != api.OK {
			t.Errorf("Parse of Text of %v: %v, %d, %v", l, again, at, e)
		}
		if text, e := index.Text(again); text != s || e != api.OK {
			t.Errorf("Text of Parse of %q: %q, %v", s, text, e)
		}
	}
	if asked < 1000 {
		t.Errorf("only %d lists may be", asked)
	}
}
