package index_test

import (
	"regexp"
	"slices"
	"strconv"
	"strings"
	"testing"

	"stillroom/api"
	"stillroom/index"
)

// Making packages and texts.

// pack tells a package with needs, each as "name range".
func pack(name, version string, needs ...string) api.Pack {
	p := api.Pack{Name: name, Version: version}
	for _, s := range needs {
		n, r, _ := strings.Cut(s, " ")
		p.Needs = append(p.Needs, api.Need{Name: n, Range: r})
	}
	return p
}

// lines tells a text of lines.
func lines(l ...string) string {
	if len(l) == 0 {
		return ""
	}
	return strings.Join(l, "\n") + "\n"
}

// manyPacks tells n packages, all unlike.
func manyPacks(n int) (l []api.Pack) {
	for i := range n {
		l = append(l, pack("p"+strconv.Itoa(i%100), strconv.Itoa(i/100)))
	}
	return l
}

// manyNeeds tells n needs, all of unlike names.
func manyNeeds(n int) (l []api.Need) {
	for i := range n {
		l = append(l, api.Need{Name: "n" + strconv.Itoa(i), Range: "*"})
	}
	return l
}

// packsOf tells packages whose text has just n bytes, of at least 100.
func packsOf(n int) (l []api.Pack) {
	rest := n
	for i := 0; rest > 60; i++ {
		name := "n" + strconv.Itoa(i)
		if i%65 == 0 {
			l = append(l, pack(name, "1"))
			rest -= len("package  1\n") + len(name)
		} else {
			last := &l[len(l)-1]
			last.Needs = append(last.Needs, api.Need{Name: name, Range: "=1.2.3"})
			rest -= len("needs  =1.2.3\n") + len(name)
		}
	}
	half := rest / 2
	return append(l, pack(strings.Repeat("y", half-len("package  1\n")), "1"), pack(strings.Repeat("z", rest-half-len("package  1\n")), "1"))
}

// textOf tells an index's text of just n bytes, of at least 100.
func textOf(n int) string { return plainText(packsOf(n)) }

// noNames tells names that no package may have.
func noNames() []string {
	l := []string{
		"", " ", "\n", "\x00", "0", "9", "1a", "0a", "9-", "-", "-a", "--", "-1", "A", "Z", "aB", "Aa", "aZ", "_", "a_", "a.b", ".", "a.", "a+", "a b", " a", "a ", "a\n", "\na", "a\t", "a\r", "a\x00", "a\x7f", "a\x80", "a\xff", "\xff",
		"`", "{", "a`", "a{", "a/", "a:", "/", ":", "@", "[", "a@", "a[", "a,", "a=", "a*", "*", "\u00e4", "a\u00e4", "a\u0661", "\uff41", "\u212a",
		"abcdefghijklmnopqrstu", strings.Repeat("a", 21), "a" + strings.Repeat("-", 20), "a" + strings.Repeat("0", 20), strings.Repeat("a", 40), strings.Repeat("a", 256+1), strings.Repeat("a", 1<<15), strings.Repeat("\u00e4", 10),
	}
	return l
}

// someNames tells names that packages may have.
func someNames() []string {
	return []string{"a", "z", "m", "aa", "a0", "a9", "z9", "a-", "a--", "a-b", "a-0", "package", "needs", "zlib", "lib-x-2", "abcdefghijklmnopqrst", "uvwxyz0123456789----", strings.Repeat("a", 20), strings.Repeat("z", 19), "a" + strings.Repeat("-", 19)}
}

// noVersions tells texts that no version has, and someVersions texts that one has.
func noVersions() []string {
	return []string{"", "x", "v1", "01", "1.", ".1", "1..2", "1.2.3.4.5", "1000000000", "-1", "+1", "1-", "1-A", "1-a-b", "1-abcdefghijklm", "*", "=1", "^1", "1\r", "1\t", "1\x00", "1,2", "\u0661", "1 ", " 1", "x\n", "\n1", "1 \n"}
}

func someVersions() []string {
	return []string{"0", "1", "9", "10", "1.0", "1.0.0", "1.0.0.0", "0.0", "1.2", "1.10", "1.2-rc1", "1.2-0", "999999999", "999999999.999999999.999999999.999999999-zzzzzzzzzzzz", "0-0"}
}

// noRanges tells texts that no range has, and someRanges texts that one has.
func noRanges() []string {
	return []string{"", "1", "x", "**", "^", "^x", "=", ">", "=>1", "==1", "!1", "^01", "|", "*|", "|*", ",", "*,", ",*", "^1,", ">=1,<2|", ">= 1", "*\r", "*\t", "*\x00", "^-1", strings.Repeat("*|", 16) + "*", strings.Repeat("*,", 16) + "*", "* ", " *", "x\n", "\n*", "* \n"}
}

func someRanges() []string {
	return []string{"*", "^1", "~1.2", "=1", ">=1", ">1", "<=1", "<1", ">=1,<2|=3", ">0-0,<0-0", "*|*", "*,*", "^999999999", "=1|=1", strings.Repeat("*|", 15) + "*", strings.Repeat("*,", 15) + "*", ">=1.2.3.4-abcdefghijkl"}
}

// noise tells numbers that are alike in every run.
type noise uint64

func (r *noise) below(n int) int {
	*r ^= *r << 13
	*r ^= *r >> 7
	*r ^= *r << 17
	return int(uint64(*r) >> 16 % uint64(n))
}

// one tells one of a few texts.
func (r *noise) one(l ...string) string { return l[r.below(len(l))] }

// packs tells packages, most of which may be: of few names and versions, so that
// some are there twice, and now and then with what may not be.
func (r *noise) packs(most, names, wrong int) (l []api.Pack) {
	word := func(letter string, n int, bad func() []string) string {
		if wrong > 0 && r.below(wrong) == 0 {
			return r.one(bad()...)
		}
		return letter + strconv.Itoa(r.below(n))
	}
	for range r.below(most + 1) {
		p := api.Pack{Name: word("a", names, noNames), Version: word("1.", names, noVersions)}
		for range r.below(4) {
			p.Needs = append(p.Needs, api.Need{Name: word("b", names, noNames), Range: word(">=", names, noRanges)})
		}
		l = append(l, p)
	}
	return l
}

// A plain reading of the chapter, by other means than the program's.

const (
	plainNumber  = `(?:0|[1-9][0-9]{0,8})`
	plainVersion = plainNumber + `(?:\.` + plainNumber + `){0,3}(?:-[a-z0-9]{1,12})?`
	plainTerm    = `(?:\*|(?:>=|>|<=|<|=|\^|~)` + plainVersion + `)`
	plainTerms   = plainTerm + `(?:,` + plainTerm + `){0,15}`
	plainName    = `[a-z][a-z0-9-]{0,19}`
)

// whole tells the pattern that a whole text must be.
func whole(pattern string) *regexp.Regexp { return regexp.MustCompile(`\A(?:` + pattern + `)\z`) }

var (
	aName    = whole(plainName)
	aVersion = whole(plainVersion)
	aTerms   = whole(plainTerms)
	aLine    = whole(`(package|needs) (` + plainName + `) ([^ \n]*)\n`)
)

// isRange tells whether a text is a range's. (As one pattern it would be too great.)
func isRange(s string) bool {
	alternatives := strings.Split(s, "|")
	return len(alternatives) <= 16 && !slices.ContainsFunc(alternatives, func(a string) bool { return !aTerms.MatchString(a) })
}

// plainRight tells what is wrong with packages.
func plainRight(l []api.Pack) api.Errno {
	if len(l) > 1024 {
		return api.ErrBig
	}
	for _, p := range l {
		if len(p.Needs) > 64 {
			return api.ErrBig
		}
	}
	// What was told ahead, as texts with a sign between that neither has.
	var releases []string
	for _, p := range l {
		var needed []string
		key := p.Name + "/" + p.Version
		switch {
		case !aName.MatchString(p.Name):
			return api.ErrName
		case !aVersion.MatchString(p.Version):
			return api.ErrVersion
		case slices.Contains(releases, key):
			return api.ErrThere
		}
		releases = append(releases, key)
		for _, n := range p.Needs {
			switch {
			case !aName.MatchString(n.Name):
				return api.ErrName
			case !isRange(n.Range):
				return api.ErrRange
			case slices.Contains(needed, n.Name):
				return api.ErrThere
			}
			needed = append(needed, n.Name)
		}
	}
	return api.OK
}

// plainParse tells what a text says: line by line, with Right's error of all that
// was told up to there.
func plainParse(s string) (l []api.Pack, at int, e api.Errno) {
	if len(s) > 65536 {
		return nil, 0, api.ErrBig
	}
	for at := 0; s != ""; at++ {
		end := strings.IndexByte(s, 10) + 1
		if end == 0 {
			return nil, at, api.ErrLine
		}
		m := aLine.FindStringSubmatch(s[:end])
		s = s[end:]
		switch {
		case m == nil, m[1] == "needs" && len(l) == 0:
			return nil, at, api.ErrLine
		case m[1] == "package":
			l = append(l, pack(m[2], m[3]))
		default:
			last := &l[len(l)-1]
			last.Needs = append(last.Needs, api.Need{Name: m[2], Range: m[3]})
		}
		switch {
		case m[1] == "package" && !aVersion.MatchString(m[3]), m[1] == "needs" && !isRange(m[3]):
			return nil, at, api.ErrLine
		}
		if e := plainRight(l); e != api.OK {
			return nil, at, e
		}
	}
	return l, 0, api.OK
}

// plainText tells the text of packages that may be.
func plainText(l []api.Pack) string {
	var all []string
	for _, p := range l {
		all = append(all, "package "+p.Name+" "+p.Version)
		for _, n := range p.Needs {
			all = append(all, "needs "+n.Name+" "+n.Range)
		}
	}
	return lines(all...)
}

// Asking.

// samePacks tells whether two lists have the same packages.
func samePacks(a, b []api.Pack) bool {
	return slices.EqualFunc(a, b, func(p, q api.Pack) bool {
		return p.Name == q.Name && p.Version == q.Version && slices.Equal(p.Needs, q.Needs)
	})
}

// reads asks that a text has these packages, and that they have that text.
func reads(t *testing.T, s string, want []api.Pack) {
	t.Helper()
	if l, at, e := index.Parse(s); !samePacks(l, want) || at != 0 || e != api.OK {
		t.Errorf("Parse(%.200q): %.300v, %d, %v, want %.300v", s, l, at, e, want)
	}
	if text, e := index.Text(want); text != s || e != api.OK {
		t.Errorf("Text(%.300v): %.200q, %v, want %.200q", want, text, e, s)
	}
	if e := index.Right(want); e != api.OK {
		t.Errorf("Right(%.300v): %v", want, e)
	}
}

// readsNot asks that a text is none, at that line and with that error.
func readsNot(t *testing.T, s string, line int, want api.Errno) {
	t.Helper()
	if l, at, e := index.Parse(s); len(l) != 0 || at != line || e != want {
		t.Errorf("Parse(%.200q): %.300v, %d, %v, want %d, %v", s, l, at, e, line, want)
	}
}

// readsAsPlain holds Parse against the plain reading, and tells whether it is an
// index's text; of one that is, Text must tell it again.
func readsAsPlain(t *testing.T, s string) bool {
	t.Helper()
	l, at, e := plainParse(s)
	if e == api.OK {
		reads(t, s, l)
	} else {
		readsNot(t, s, at, e)
	}
	return e == api.OK
}

// wrong asks that packages may not be.
func wrong(t *testing.T, l []api.Pack, want api.Errno) {
	t.Helper()
	if e := index.Right(l); e != want {
		t.Errorf("Right(%.300v): %v, want %v", l, e, want)
	}
	if s, e := index.Text(l); s != "" || e != want {
		t.Errorf("Text(%.300v): %.200q, %v, want %v", l, s, e, want)
	}
}
