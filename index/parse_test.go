package index_test

import (
	"slices"
	"strconv"
	"strings"
	"testing"

	"stillroom/api"
)

// P15.1

func TestParseExamples(t *testing.T) {
	reads(t, "package a 1.0\nneeds b ^1\n", []api.Pack{pack("a", "1.0", "b ^1")})
	readsNot(t, "needs a *\n", 0, api.ErrLine)
}

func TestParseFew(t *testing.T) {
	reads(t, "", nil)
	reads(t, "package a 1\n", []api.Pack{pack("a", "1")})
	reads(t, "package a 1\npackage b 2\n", []api.Pack{pack("a", "1"), pack("b", "2")})
	// They stay in the order in which they come, packages and needs.
	reads(t, "package b 1\nneeds z *\nneeds a *\npackage a 2\npackage a 1\nneeds b =1\n",
		[]api.Pack{pack("b", "1", "z *", "a *"), pack("a", "2"), pack("a", "1", "b =1")})
	// What is needed need not be there, and may be the package itself.
	reads(t, "package a 1\nneeds a =1\nneeds nowhere ^9\n", []api.Pack{pack("a", "1", "a =1", "nowhere ^9")})
	// The first words are names, too.
	reads(t, "package package 1\nneeds needs *\npackage needs 1\nneeds package *\n", []api.Pack{pack("package", "1", "needs *"), pack("needs", "1", "package *")})
}

// TestParseAlike: what may be alike. A version's text counts, not its place in the
// order; and needs are those of one package alone.
func TestParseAlike(t *testing.T) {
	reads(t, "package a 1\npackage a 1.0\npackage a 1.0.0\npackage a 1.0.0.0\npackage a 1-0\npackage a 1.0-0\n",
		[]api.Pack{pack("a", "1"), pack("a", "1.0"), pack("a", "1.0.0"), pack("a", "1.0.0.0"), pack("a", "1-0"), pack("a", "1.0-0")})
	reads(t, "package a 1\npackage b 1\npackage aa 1\npackage a-a 1\n", []api.Pack{pack("a", "1"), pack("b", "1"), pack("aa", "1"), pack("a-a", "1")})
	reads(t, "package a 1\nneeds b ^1\nneeds c *\npackage a 2\nneeds b ^1\nneeds c *\n", []api.Pack{pack("a", "1", "b ^1", "c *"), pack("a", "2", "b ^1", "c *")})
	reads(t, "package a 1\nneeds b ^1\nneeds c ^1\n", []api.Pack{pack("a", "1", "b ^1", "c ^1")})
	// Where one word ends and the next begins counts.
	reads(t, "package a1 1\npackage a 11\npackage a-1 1\npackage a 1-1\n", []api.Pack{pack("a1", "1"), pack("a", "11"), pack("a-1", "1"), pack("a", "1-1")})
}

// TestParseWords: which words may stand at each place, and which not.
func TestParseWords(t *testing.T) {
	for _, s := range someNames() {
		reads(t, "package "+s+" 1\nneeds "+s+" *\n", []api.Pack{pack(s, "1", s+" *")})
	}
	for _, s := range someVersions() {
		reads(t, "package a "+s+"\n", []api.Pack{pack("a", s)})
	}
	for _, s := range someRanges() {
		reads(t, "package a 1\nneeds b "+s+"\n", []api.Pack{pack("a", "1", "b "+s)})
	}
	for _, s := range noNames() {
		readsNot(t, "package "+s+" 1\n", 0, api.ErrLine)
		readsNot(t, "package a 1\npackage "+s+" 1\n", 1, api.ErrLine)
		readsNot(t, "package a 1\nneeds "+s+" *\n", 1, api.ErrLine)
	}
	for _, s := range noVersions() {
		readsNot(t, "package a "+s+"\n", 0, api.ErrLine)
		readsNot(t, "package a 1\nneeds b *\npackage a "+s+"\n", 2, api.ErrLine)
	}
	for _, s := range noRanges() {
		readsNot(t, "package a 1\nneeds b "+s+"\n", 1, api.ErrLine)
	}
}

// TestParseFirstWords: other first words, and what stands at another's place.
func TestParseFirstWords(t *testing.T) {
	for _, word := range []string{"", "x", "pack", "packages", "package1", "Package", "PACKAGE", "need", "needss", "Needs", "NEEDS", "\tpackage", "package\t", "\u00a0package", "packag", "package\x00", "needs:", "package:", "#", ";", "//", "0", "lock"} {
		for _, rest := range []string{" a 1", " a *", " b 2", " b ^1", "", " a", " a 1 2"} {
			readsNot(t, word+rest+"\n", 0, api.ErrLine)
			readsNot(t, "package a 1\n"+word+rest+"\n", 1, api.ErrLine)
			readsNot(t, "package a 1\nneeds x *\n"+word+rest+"\npackage a 2\n", 2, api.ErrLine)
		}
	}
	// A range is no version, and a version no range.
	readsNot(t, "package a ^1\n", 0, api.ErrLine)
	readsNot(t, "package a *\n", 0, api.ErrLine)
	readsNot(t, "package a 1\nneeds b 1\n", 1, api.ErrLine)
	readsNot(t, "package a 1\nneeds b 1.0\n", 1, api.ErrLine)
	// Words in another order.
	readsNot(t, "a package 1\n", 0, api.ErrLine)
	readsNot(t, "package 1 a\n", 0, api.ErrLine)
	readsNot(t, "package a 1\nneeds * b\n", 1, api.ErrLine)
}

// TestParseHowManyWords: too few, too many.
func TestParseHowManyWords(t *testing.T) {
	for _, line := range []string{"package", "package a", "package a 1 2", "package a 1 1", "package a 1 needs b *", "package a b 1", "package a 1 x y z", "needs", "needs b", "needs b * *", "needs b ^1 ^2", "needs b c *", "needs b * c *", "a", "a 1", "1"} {
		readsNot(t, line+"\n", 0, api.ErrLine)
		readsNot(t, "package z 1\n"+line+"\n", 1, api.ErrLine)
		readsNot(t, "package z 1\nneeds y *\npackage y 1\n"+line+"\nx\n", 3, api.ErrLine)
	}
	readsNot(t, strings.Repeat("a ", 1<<15), 0, api.ErrLine)
	readsNot(t, "package a 1"+strings.Repeat(" ", 60000)+"\n", 0, api.ErrLine)
}

// TestParseBlanks: a blank too many, or another sign in place of one.
func TestParseBlanks(t *testing.T) {
	for _, line := range []string{"package b 1", "needs b *"} {
		words := strings.Split(line, " ")
		for at := range 4 {
			for _, more := range []string{"", "\t", "\r", "\v", "\f", "\x00", "\u00a0", ","} {
				// Ahead of a word, or behind the last one, stands one sign more.
				parts := slices.Clone(words)
				if at < 3 {
					parts[at] = more + " " + parts[at]
				} else {
					parts[2] += " " + more
				}
				readsNot(t, "package a 1\n"+strings.Join(parts, " ")+"\n", 1, api.ErrLine)
				parts = slices.Clone(words)
				if more == "" {
					more = "  "
				}
				if at < 3 {
					parts[at] = more + parts[at]
				} else {
					parts[2] += more
				}
				readsNot(t, "package a 1\n"+strings.Join(parts, " ")+"\npackage c 1\n", 1, api.ErrLine)
			}
		}
		for _, between := range []string{"", "\t", "  ", "\u00a0", "\n", "\r", ",", " \t", "\t "} {
			readsNot(t, "package a 1\n"+words[0]+between+words[1]+" "+words[2]+"\n", 1, api.ErrLine)
			readsNot(t, "package a 1\n"+words[0]+" "+words[1]+between+words[2]+"\n", 1, api.ErrLine)
		}
	}
}

// TestParseEnds: lines without anything, other ends of lines, and none at the last.
func TestParseEnds(t *testing.T) {
	readsNot(t, "\n", 0, api.ErrLine)
	readsNot(t, " ", 0, api.ErrLine)
	readsNot(t, " \n", 0, api.ErrLine)
	readsNot(t, "  \n", 0, api.ErrLine)
	readsNot(t, "\n\n", 0, api.ErrLine)
	readsNot(t, "\npackage a 1\n", 0, api.ErrLine)
	readsNot(t, "package a 1\n\n", 1, api.ErrLine)
	readsNot(t, "package a 1\n\nneeds b *\n", 1, api.ErrLine)
	readsNot(t, "package a 1\nneeds b *\n\n", 2, api.ErrLine)
	readsNot(t, "package a 1\r\n", 0, api.ErrLine)
	readsNot(t, "package a 1\nneeds b *\r\n", 1, api.ErrLine)
	readsNot(t, "package a 1\rpackage b 1\n", 0, api.ErrLine)
	readsNot(t, "package a 1", 0, api.ErrLine)
	readsNot(t, "package a 1\nneeds b *", 1, api.ErrLine)
	readsNot(t, "package a 1\nneeds b *\npackage b 1", 2, api.ErrLine)
	readsNot(t, "package a 1\nx", 1, api.ErrLine)
	readsNot(t, "package a 1\n ", 1, api.ErrLine)
	readsNot(t, "package a 1\n\x00", 1, api.ErrLine)
	// The line has no end: what else is wrong with it is not asked.
	readsNot(t, "package a 1\npackage a 1", 1, api.ErrLine)
	readsNot(t, "package a 1\nneeds b *\nneeds b *", 2, api.ErrLine)
	readsNot(t, plainText(manyPacks(1024))+"package more 1", 1024, api.ErrLine)
}

// TestParseNeedsFirst: needs ahead of any package.
func TestParseNeedsFirst(t *testing.T) {
	readsNot(t, "needs a *\npackage b 1\n", 0, api.ErrLine)
	readsNot(t, "needs a *\nneeds a *\n", 0, api.ErrLine)
	readsNot(t, "needs a x\n", 0, api.ErrLine)
	readsNot(t, "needs a *", 0, api.ErrLine)
}

// TestParseThere: packages and needs that are told twice, with the line of the
// second one.
func TestParseThere(t *testing.T) {
	readsNot(t, "package a 1\npackage a 1\n", 1, api.ErrThere)
	readsNot(t, "package a 1\nneeds b *\npackage a 1\n", 2, api.ErrThere)
	readsNot(t, "package a 1\npackage b 1\npackage a 1.0\npackage c 1\npackage a 1\nneeds b *\n", 4, api.ErrThere)
	readsNot(t, "package a 1\npackage b 1\npackage b 1\npackage a 1\n", 2, api.ErrThere)
	readsNot(t, "package a 1\nneeds b *\nneeds b *\n", 2, api.ErrThere)
	readsNot(t, "package a 1\nneeds b *\nneeds b ^1\n", 2, api.ErrThere)
	readsNot(t, "package a 1\nneeds b ^1\nneeds c *\nneeds d *\nneeds b =2\n", 4, api.ErrThere)
	readsNot(t, "package a 1\nneeds b *\npackage b 1\nneeds c *\nneeds c *\n", 4, api.ErrThere)
	readsNot(t, "package a 1\nneeds a *\nneeds a *\n", 2, api.ErrThere)
	// Anywhere among many.
	l := manyPacks(1023)
	for _, at := range []int{0, 1, 99, 100, 500, 1022} {
		readsNot(t, plainText(append(slices.Clone(l), l[at])), 1023, api.ErrThere)
	}
	needs := manyNeeds(63)
	for _, at := range []int{0, 1, 31, 62} {
		readsNot(t, plainText([]api.Pack{pack("a", "1"), {Name: "b", Version: "1", Needs: append(slices.Clone(needs), needs[at])}}), 65, api.ErrThere)
	}
}

// TestParseMany: as many packages and needs as may be, and one more.
func TestParseMany(t *testing.T) {
	reads(t, plainText(manyPacks(1024)), manyPacks(1024))
	readsNot(t, plainText(manyPacks(1025)), 1024, api.ErrBig)
	readsNot(t, plainText(manyPacks(2000)), 1024, api.ErrBig)
	// A need of the last one is none too many.
	l := manyPacks(1024)
	l[1023].Needs = manyNeeds(3)
	l[0].Needs = manyNeeds(2)
	reads(t, plainText(l), l)
	readsNot(t, plainText(l)+"package more 1\n", 1029, api.ErrBig)

	for _, n := range []int{0, 1, 2, 63, 64} {
		l := []api.Pack{{Name: "a", Version: "1", Needs: manyNeeds(n)}, {Name: "b", Version: "1", Needs: manyNeeds(n)}}
		reads(t, plainText(l), l)
	}
	for _, n := range []int{65, 66, 200} {
		readsNot(t, plainText([]api.Pack{{Name: "a", Version: "1", Needs: manyNeeds(n)}}), 65, api.ErrBig)
		readsNot(t, plainText([]api.Pack{pack("b", "1", "c *"), {Name: "a", Version: "1", Needs: manyNeeds(64)}, {Name: "a", Version: "2", Needs: manyNeeds(n)}}), 2+65+65, api.ErrBig)
	}
	// All packages together may have more than 64.
	l = manyPacks(40)
	for i := range l {
		l[i].Needs = manyNeeds(64)
	}
	reads(t, plainText(l), l)
}

// TestParseBig: a text of just as many bytes as may be, and of more.
func TestParseBig(t *testing.T) {
	for _, n := range []int{100, 1000, 65000, 65535, 65536} {
		s := textOf(n)
		if len(s) != n {
			t.Fatalf("%d bytes, want %d", len(s), n)
		}
		reads(t, s, packsOf(n))
	}
	for _, n := range []int{65537, 65538, 1 << 17, 1 << 20} {
		readsNot(t, textOf(n), 0, api.ErrBig)
		// That is asked first, whatever else is wrong.
		readsNot(t, strings.Repeat("x", n), 0, api.ErrBig)
		readsNot(t, strings.Repeat("\n", n), 0, api.ErrBig)
		readsNot(t, "package a 1\npackage a 1\nx"+strings.Repeat("\n", n), 0, api.ErrBig)
	}
	readsNot(t, textOf(65536)[:65535], strings.Count(textOf(65536), "\n")-1, api.ErrLine)
	readsNot(t, strings.Repeat("x", 65536), 0, api.ErrLine)
	readsNot(t, strings.Repeat("\n", 65536), 0, api.ErrLine)
	readsNot(t, textOf(65535)+"\n", strings.Count(textOf(65535), "\n"), api.ErrLine)
}

// TestParseFirst: of several things that are wrong, that of the first line.
func TestParseFirst(t *testing.T) {
	readsNot(t, "package a 1\npackage a 1\nx\n", 1, api.ErrThere)
	readsNot(t, "package a 1\npackage a 1\npackage b 1", 1, api.ErrThere)
	readsNot(t, "package a 1\nx\npackage a 1\n", 1, api.ErrLine)
	readsNot(t, "x\npackage a 1\npackage a 1\n", 0, api.ErrLine)
	readsNot(t, "package a 1\nneeds b *\nneeds b *\nneeds c x\n", 2, api.ErrThere)
	readsNot(t, "package a 1\nneeds b *\nneeds c x\nneeds b *\n", 2, api.ErrLine)
	readsNot(t, "package a 1\nneeds b *\npackage a 1\nneeds b *\nneeds b *\n", 2, api.ErrThere)
	readsNot(t, "package a 1\nneeds b *\nneeds b *\npackage a 1\n", 2, api.ErrThere)
	// Within a line its words are asked first.
	readsNot(t, "package a 1\nneeds b *\nneeds b x\n", 2, api.ErrLine)
	readsNot(t, "package a 1\nneeds b *\nneeds b * \n", 2, api.ErrLine)
	readsNot(t, "package a 1\npackage a 1 \n", 1, api.ErrLine)
	// What is one too many comes up at its line, not ahead of what is wrong there.
	many := plainText(manyPacks(1024))
	readsNot(t, many+"package P 1\n", 1024, api.ErrLine)
	readsNot(t, many+"package p x\n", 1024, api.ErrLine)
	readsNot(t, many+"package p 1\nx\n", 1024, api.ErrBig)
	readsNot(t, many+"x\npackage p 1\n", 1024, api.ErrLine)
	readsNot(t, "package p0 0\n"+many, 1, api.ErrThere)
	readsNot(t, "package x 1\nneeds a *\nneeds a *\n"+many, 2, api.ErrThere)
	readsNot(t, "x\n"+many+"package p 1\n", 0, api.ErrLine)
	needs := plainText([]api.Pack{{Name: "a", Version: "1", Needs: manyNeeds(64)}})
	readsNot(t, needs+"needs P *\n", 65, api.ErrLine)
	readsNot(t, needs+"needs p x\n", 65, api.ErrLine)
	readsNot(t, needs+"needs p *\nx\n", 65, api.ErrBig)
	readsNot(t, needs+"package a 1\nneeds p *\n", 65, api.ErrThere)
	readsNot(t, needs+"needs p *\npackage a 1\n", 65, api.ErrBig)
	// One too many that is there already: Right tells ErrBig first.
	readsNot(t, many+"package p0 0\n", 1024, api.ErrBig)
	readsNot(t, needs+"needs n0 *\n", 65, api.ErrBig)
}

// TestParseChanged: texts of which a byte is gone, another one, or one more.
func TestParseChanged(t *testing.T) {
	text := "package a 1.0\nneeds b ^1\nneeds c-2 >=1,<2|=3\npackage b 1-a\npackage b 2\nneeds a *\n"
	if !readsAsPlain(t, text) {
		t.Fatalf("%q is none", text)
	}
	good := 0
	check := func(s string) {
		if readsAsPlain(t, s) {
			good++
		}
	}
	for at := range len(text) {
		check(text[:at])
		check(text[at:])
		check(text[:at] + text[at+1:])
		for c := range 256 {
			b := string([]byte{byte(c)})
			check(text[:at] + b + text[at+1:])
			check(text[:at] + b + text[at:])
		}
	}
	if good < 500 {
		t.Errorf("only %d of these are texts", good)
	}
}

// TestParseRandom: lines of a few words, right and wrong ones.
func TestParseRandom(t *testing.T) {
	r := noise(152)
	counts := map[api.Errno]int{}
	for round := range 20000 {
		var b strings.Builder
		rare := 2 + round%40
		for range r.below(12) {
			line := []string{"needs", "b" + strconv.Itoa(r.below(6)), r.one(someRanges()...)}
			if r.below(2) == 0 {
				line = []string{"package", "a" + strconv.Itoa(r.below(4)), r.one(someVersions()...)}
			}
			if r.below(rare) == 0 {
				line[r.below(3)] = r.one("", "x", "package", "needs", "1", "*", "a b", "a1 ", " 1")
			}
			b.WriteString(strings.Join(line, " "))
			if r.below(5*rare) != 0 {
				b.WriteByte('\n')
			}
		}
		readsAsPlain(t, b.String())
		_, _, e := plainParse(b.String())
		counts[e]++
	}
	for _, e := range []api.Errno{api.OK, api.ErrLine, api.ErrThere} {
		if counts[e] < 500 {
			t.Errorf("%v came up %d times alone", e, counts[e])
		}
	}
}
