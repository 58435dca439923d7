package lock_test

import (
	"regexp"
	"slices"
	"strconv"
	"strings"
	"testing"

	"stillroom/api"
	"stillroom/lock"
)

// Making picks and texts.

// picks tells picks, each as "name version".
func picks(l ...string) (made []api.Pick) {
	for _, s := range l {
		name, said, _ := strings.Cut(s, " ")
		made = append(made, api.Pick{Name: name, Version: said})
	}
	return made
}

// manyPicks tells n picks that may be, if n is not too great.
func manyPicks(n int) (l []api.Pick) {
	for i := range n {
		l = append(l, api.Pick{Name: numbered(i), Version: strconv.Itoa(i % 7)})
	}
	return l
}

// numbered tells a name that is above that of each lesser number.
func numbered(i int) string { return "p" + strconv.Itoa(100000+i) }

// picksOf tells picks whose text has just n bytes, of at least 2000.
func picksOf(n int) (l []api.Pick) {
	const said = "999999999.999999999.999999999.999999999-zzzzzzzzzzzz"
	least := len(numbered(0)) + len(said) + 2
	rest := n - len("lock 1\n")
	count := rest / 67
	more := rest - count*least
	for i := range count {
		fill := (i+1)*more/count - i*more/count
		l = append(l, api.Pick{Name: numbered(i) + strings.Repeat("-", fill), Version: said})
	}
	return l
}

// noNames tells names that no package may have.
func noNames() []string {
	return []string{
		"", "\x00", "0", "9", "1a", "-", "-a", "--", "A", "Z", "aB", "Aa", "_", "a_", "a.b", ".", "a.", "a+", "a\t", "a\r", "\ra", "a\v", "a\x00", "a\x7f", "a\x80", "a\xff", "\xff",
		"`", "{", "a`", "a{", "a/", "a:", "@", "[", "a,", "a=", "*", "\u00e4", "a\u00e4", "a\u0661", "\uff41", "a\u00a0", "abcdefghijklmnopqrstu", strings.Repeat("a", 21), strings.Repeat("a", 1<<15),
	}
}

// someNames tells names that packages may have, rising.
func someNames() []string {
	return []string{"a", "a-", "a--", "a-0", "a-b", "a0", "a9", "aa", "aaaaaaaaaaaaaaaaaaaa", "ab", "abcdefghijklmnopqrst", "lib-x-2", "lock", "m", "needs", "package", "uvwxyz0123456789----", "z", "z9", "zlib", "zzzzzzzzzzzzzzzzzzzz"}
}

// noVersions tells texts that no version has, and someVersions texts that one has.
func noVersions() []string {
	return []string{"", "x", "v1", "01", "00", "1.01", "1.", ".1", "1..2", "1.2.3.4.5", "1000000000", "-1", "+1", "1-", "1-A", "1-a-b", "1-abcdefghijklm", "*", "=1", "^1", "1,2", "1\r", "1\t", "1\x00", "\u0661", "1\u00a0", "\xff", strings.Repeat("1.", 1<<14)}
}

func someVersions() []string {
	return []string{"0", "1", "9", "10", "1.0", "1.0.0", "1.0.0.0", "0.0", "1.2", "1.10", "1.2-rc1", "1.2-0", "999999999", "999999999.999999999.999999999.999999999-zzzzzzzzzzzz", "0-0"}
}

// noise tells numbers that are alike in every run.
type noise uint64

func (r *noise) below(n int) int {
	*r ^= *r << 13
	*r ^= *r >> 7
	*r ^= *r << 17
	return int(uint64(*r) >> 16 % uint64(n))
}

// one tells one of a few texts.
func (r *noise) one(l ...string) string { return l[r.below(len(l))] }

// rising tells picks that may be.
func (r *noise) rising(most int) (l []api.Pick) {
	for i := range r.below(most + 1) {
		l = append(l, api.Pick{Name: numbered(10*i + r.below(10)), Version: r.one(someVersions()...)})
	}
	return l
}

// any tells picks of a few names and versions, in any order, that may be or not.
func (r *noise) any(most, names int) (l []api.Pick) {
	for range r.below(most + 1) {
		name := r.one("a", "b", "", "Z", "x y", "\n", "\xff") + strconv.Itoa(r.below(names))
		l = append(l, api.Pick{Name: name, Version: r.one("1", "1.0", "2", "", "no", "1\n")})
	}
	return l
}

// A plain reading of the chapter, by other means than the program's.

const plainNumber = `(?:0|[1-9][0-9]{0,8})`

var aPick = regexp.MustCompile(`\A([a-z][a-z0-9-]{0,19}) (` + plainNumber + `(?:\.` + plainNumber + `){0,3}(?:-[a-z0-9]{1,12})?)\z`)

// plainMayBe tells whether picks may be.
func plainMayBe(l []api.Pick) bool {
	ok := len(l) <= 1024
	for i, p := range l {
		ok = ok && aPick.MatchString(p.Name+" "+p.Version) && !strings.Contains(p.Name, " ")
		ok = ok && (i == 0 || l[i-1].Name < p.Name)
	}
	return ok
}

// plainText tells the text of picks, be they as they may.
func plainText(l []api.Pick) string {
	var b strings.Builder
	b.WriteString("lock 1\n")
	for _, p := range l {
		b.WriteString(p.Name + " " + p.Version + "\n")
	}
	return b.String()
}

// plainParse tells what a text says: line by line.
func plainParse(s string) (l []api.Pick, at int, e api.Errno) {
	if len(s) > 65536 {
		return nil, 0, api.ErrBig
	}
	lines := strings.Split(s, "\n")
	last := len(lines) - 1
	for at, line := range lines[:last] {
		m := aPick.FindStringSubmatch(line)
		switch {
		case at == 0 && line == "lock 1":
			continue
		case at == 0, m == nil, at > 1024, at > 1 && l[at-2].Name >= m[1]:
			return nil, at, api.ErrLine
		}
		l = append(l, api.Pick{Name: m[1], Version: m[2]})
	}
	// What is behind the last byte 10 is a line, too, unless it is nothing; but
	// there is a first line always.
	if lines[last] != "" || last == 0 {
		return nil, last, api.ErrLine
	}
	return l, 0, api.OK
}

// plainDiff tells what is unlike, name by name.
func plainDiff(from, to []api.Pick) (added, gone, changed []string) {
	// Of a name the place in a list, or -1.
	place := func(l []api.Pick, name string) int {
		return slices.IndexFunc(l, func(p api.Pick) bool { return p.Name == name })
	}
	var names []string
	for _, p := range append(slices.Clone(from), to...) {
		if !slices.Contains(names, p.Name) {
			names = append(names, p.Name)
		}
	}
	slices.Sort(names)
	for _, name := range names {
		i, j := place(from, name), place(to, name)
		switch {
		case i < 0:
			added = append(added, name)
		case j < 0:
			gone = append(gone, name)
		case from[i].Version != to[j].Version:
			changed = append(changed, name)
		}
	}
	return added, gone, changed
}

// Asking.

// reads asks that a text has these picks, and that they have that text.
func reads(t *testing.T, s string, want []api.Pick) {
	t.Helper()
	if l, at, e := lock.Parse(s); !slices.Equal(l, want) || at != 0 || e != api.OK {
		t.Errorf("Parse(%.200q): %.300v, %d, %v, want %.300v", s, l, at, e, want)
	}
	told(t, want, s)
}

// told asks that picks have a text.
func told(t *testing.T, l []api.Pick, want string) {
	t.Helper()
	if s, e := lock.Text(l); s != want || e != api.OK {
		t.Errorf("Text(%.300v): %.200q, %v, want %.200q", l, s, e, want)
	}
}

// readsNot asks that a text is none, at that line and with that error.
func readsNot(t *testing.T, s string, line int, want api.Errno) {
	t.Helper()
	if l, at, e := lock.Parse(s); len(l) != 0 || at != line || e != want {
		t.Errorf("Parse(%.200q): %.300v, %d, %v, want %d, %v", s, l, at, e, line, want)
	}
}

// readsAsPlain holds Parse against the plain reading, and tells whether it is a
// lockfile's text; of one that is, Text must tell it again.
func readsAsPlain(t *testing.T, s string) bool {
	t.Helper()
	l, at, e := plainParse(s)
	if e == api.OK {
		reads(t, s, l)
	} else {
		readsNot(t, s, at, e)
	}
	return e == api.OK
}

// wrong asks that picks may not be.
func wrong(t *testing.T, l []api.Pick) {
	t.Helper()
	if s, e := lock.Text(l); s != "" || e != api.ErrForm {
		t.Errorf("Text(%.300v): %.200q, %v, want %v", l, s, e, api.ErrForm)
	}
}

// unlike asks what Diff tells, and, the other way round, the same with both of the
// first in each other's place.
func unlike(t *testing.T, from, to []api.Pick, added, gone, changed []string) {
	t.Helper()
	if a, g, c := lock.Diff(from, to); !slices.Equal(a, added) || !slices.Equal(g, gone) || !slices.Equal(c, changed) {
		t.Errorf("Diff(%.300q, %.300q): %.200q, %.200q, %.200q, want %.200q, %.200q, %.200q", from, to, a, g, c, added, gone, changed)
	}
	if a, g, c := lock.Diff(to, from); !slices.Equal(a, gone) || !slices.Equal(g, added) || !slices.Equal(c, changed) {
		t.Errorf("Diff(%.300q, %.300q): %.200q, %.200q, %.200q, want %.200q, %.200q, %.200q", to, from, a, g, c, gone, added, changed)
	}
}

// unlikeAsPlain holds Diff against the plain reading.
func unlikeAsPlain(t *testing.T, from, to []api.Pick) {
	t.Helper()
	added, gone, changed := plainDiff(from, to)
	unlike(t, from, to, added, gone, changed)
}
