package lock_test

import (
	"slices"
	"strconv"
	"strings"
	"testing"

	"stillroom/api"
)

// P17.2, and of P17.4 what it says of Parse

func TestParseExamples(t *testing.T) {
	reads(t, "lock 1\na 1.0\n", picks("a 1.0"))
	reads(t, "lock 1\n", nil)
	reads(t, "lock 1\na 1\nb-2 1.2.3.4-rc1\nc 0\n", picks("a 1", "b-2 1.2.3.4-rc1", "c 0"))
	// The first line's word is a package's name, too.
	reads(t, "lock 1\nlock 1\n", picks("lock 1"))
}

// TestParseFirstLine: another first line, or none.
func TestParseFirstLine(t *testing.T) {
	readsNot(t, "", 0, api.ErrLine)
	first := []string{
		"", " ", "lock", "lock ", "lock 0", "lock 2", "lock 10", "lock 1.0", "lock 01", "lock  1", " lock 1", "lock 1 ", "lock 1 1", "lock\t1", "lock1", "lock-1", "Lock 1", "LOCK 1", "locks 1", "ock 1", "loc 1", "lock 1\r", "\rlock 1", "lock 1\x00", "lock 1\t", "lock\u00a01", "lock \u0661", "\ufefflock 1", "a 1", "package a 1", "#", "lock 1lock 1",
	}
	for _, s := range first {
		readsNot(t, s, 0, api.ErrLine)
		readsNot(t, s+"\n", 0, api.ErrLine)
		readsNot(t, s+"\na 1\n", 0, api.ErrLine)
		readsNot(t, s+"\nlock 1\n", 0, api.ErrLine)
		readsNot(t, s+"\nx", 0, api.ErrLine)
	}
	// All that the line begins with, with nothing behind it.
	for at := range len("lock 1\n") {
		readsNot(t, "lock 1\n"[:at], 0, api.ErrLine)
	}
	// It stands ahead of all picks alone.
	readsNot(t, "lock 1\nlock 1\nlock 1\n", 2, api.ErrLine)
	readsNot(t, "lock 1\nm 1\nlock 1\n", 2, api.ErrLine)
}

// TestParseEnds: lines without anything, other ends of lines, and none at the last.
func TestParseEnds(t *testing.T) {
	readsNot(t, "lock 1", 0, api.ErrLine)
	readsNot(t, "lock 1\na 1", 1, api.ErrLine)
	readsNot(t, "lock 1\na 1\nb 1.0", 2, api.ErrLine)
	readsNot(t, "lock 1\na 1\nb", 2, api.ErrLine)
	readsNot(t, "lock 1\na 1\nb ", 2, api.ErrLine)
	readsNot(t, "lock 1\na 1\n ", 2, api.ErrLine)
	readsNot(t, "lock 1\na 1\n\x00", 2, api.ErrLine)
	readsNot(t, "lock 1\n\n", 1, api.ErrLine)
	readsNot(t, "lock 1\n\n\n", 1, api.ErrLine)
	readsNot(t, "lock 1\n\na 1\n", 1, api.ErrLine)
	readsNot(t, "lock 1\na 1\n\n", 2, api.ErrLine)
	readsNot(t, "lock 1\na 1\n\nb 1\n", 2, api.ErrLine)
	readsNot(t, "\nlock 1\na 1\n", 0, api.ErrLine)
	readsNot(t, "lock 1\r\na 1\r\n", 0, api.ErrLine)
	readsNot(t, "lock 1\ra 1\r", 0, api.ErrLine)
	readsNot(t, "lock 1\na 1\r\n", 1, api.ErrLine)
	readsNot(t, "lock 1\na 1\n\r\n", 2, api.ErrLine)
	readsNot(t, "lock 1\na 1\nb 1\r\nc 1\n", 2, api.ErrLine)
	readsNot(t, "lock 1\na\r 1\n", 1, api.ErrLine)
	readsNot(t, "lock 1\na \r1\n", 1, api.ErrLine)
	readsNot(t, "lock 1\n\ra 1\n", 1, api.ErrLine)
	readsNot(t, "lock 1\na 1\rb 1\n", 1, api.ErrLine)
}

// TestParseBlanks: none, two, another sign for one, or nothing at one of its sides.
func TestParseBlanks(t *testing.T) {
	lines := []string{"b", "1", "b1", "b  1", "b 1 ", " b 1", "b 1 1", "b c 1", "b 1 c", " ", "  ", "b ", " 1", "b  ", "  1", " b", "1 b", "1 ", " b 1 "}
	for _, between := range []string{"\t", "\v", "\f", "\r", "\x00", "\u00a0", ",", "=", "-", "/", " \t", "\t "} {
		lines = append(lines, "b"+between+"1")
	}
	for _, line := range lines {
		readsNot(t, "lock 1\n"+line+"\n", 1, api.ErrLine)
		readsNot(t, "lock 1\na 1\n"+line+"\n", 2, api.ErrLine)
		readsNot(t, "lock 1\na 1\n"+line+"\nc 1\n", 2, api.ErrLine)
		readsNot(t, "lock 1\na 1\n"+line, 2, api.ErrLine)
	}
	readsNot(t, "lock 1\n"+strings.Repeat(" ", 60000)+"\n", 1, api.ErrLine)
	readsNot(t, "lock 1\na"+strings.Repeat(" ", 60000)+"1\n", 1, api.ErrLine)
}

// TestParseWords: which names and versions may stand there, and which not.
func TestParseWords(t *testing.T) {
	for _, s := range someNames() {
		reads(t, "lock 1\n"+s+" 1\n", picks(s+" 1"))
	}
	for _, s := range someVersions() {
		reads(t, "lock 1\na 1\nb "+s+"\n", picks("a 1", "b "+s))
	}
	for _, s := range noNames() {
		readsNot(t, "lock 1\n"+s+" 1\n", 1, api.ErrLine)
		readsNot(t, "lock 1\na 1\n"+s+" 1\nzzz 1\n", 2, api.ErrLine)
	}
	for _, s := range noVersions() {
		readsNot(t, "lock 1\na "+s+"\n", 1, api.ErrLine)
		readsNot(t, "lock 1\na 1\nb "+s+"\nc 1\n", 2, api.ErrLine)
	}
}

// TestParseRising: names that fall, or are told twice.
func TestParseRising(t *testing.T) {
	readsNot(t, "lock 1\nb 1\na 1\n", 2, api.ErrLine)
	readsNot(t, "lock 1\na 1\na 1\n", 2, api.ErrLine)
	readsNot(t, "lock 1\na 1\na 2\n", 2, api.ErrLine)
	readsNot(t, "lock 1\na 2\na 1\n", 2, api.ErrLine)
	readsNot(t, "lock 1\na 1\nb 1\na 1\n", 3, api.ErrLine)
	readsNot(t, "lock 1\na 1\nc 1\nb 1\nd 1\n", 3, api.ErrLine)
	readsNot(t, "lock 1\nb 1\nc 1\na 1\na 1\n", 3, api.ErrLine)
	// Versions need not rise.
	reads(t, "lock 1\na 2\nb 1\nc 1\nd 1.0\n", picks("a 2", "b 1", "c 1", "d 1.0"))
	names := someNames()
	for i, a := range names {
		for j, b := range names {
			s := "lock 1\n" + a + " 1\n" + b + " 1\n"
			if i < j {
				reads(t, s, picks(a+" 1", b+" 1"))
			} else {
				readsNot(t, s, 2, api.ErrLine)
			}
		}
	}
}

// TestParseNamesAlike: names alike but for their last byte, short and long ones, and
// one that the other begins with.
func TestParseNamesAlike(t *testing.T) {
	for _, ahead := range []string{"x", "x-", strings.Repeat("x", 19)} {
		for _, pair := range []string{"-0", "09", "9a", "ab", "yz"} {
			low, high := ahead+pair[:1], ahead+pair[1:]
			reads(t, "lock 1\n"+low+" 1\n"+high+" 1\n", picks(low+" 1", high+" 1"))
			readsNot(t, "lock 1\n"+high+" 1\n"+low+" 1\n", 2, api.ErrLine)
			reads(t, "lock 1\n"+ahead+" 1\n"+low+" 1\n", picks(ahead+" 1", low+" 1"))
			readsNot(t, "lock 1\n"+low+" 1\n"+ahead+" 1\n", 2, api.ErrLine)
		}
	}
}

// TestParseMany: as many picks as may be, and one more.
func TestParseMany(t *testing.T) {
	for _, n := range []int{1, 2, 1000, 1023, 1024} {
		reads(t, plainText(manyPicks(n)), manyPicks(n))
	}
	for _, n := range []int{1025, 1026, 3000} {
		readsNot(t, plainText(manyPicks(n)), 1025, api.ErrLine)
	}
	many := plainText(manyPicks(1024))
	// Whatever is wrong with the line too many, or behind it; and what is wrong ahead
	// of it comes first.
	for _, line := range []string{"\n", "x", "z", "z 1", "a 1\n", "z x\n", "z 1\nz 1\n", "z 1\nx"} {
		readsNot(t, many+line, 1025, api.ErrLine)
	}
	l := append(manyPicks(1024), picks("z 1")...)
	for _, at := range []int{0, 1, 500, 1022, 1023} {
		bad := slices.Clone(l)
		bad[at].Version = "x"
		readsNot(t, plainText(bad), at+1, api.ErrLine)
	}
}

// TestParseBig: a text of just as many bytes as may be, and of more.
func TestParseBig(t *testing.T) {
	for _, n := range []int{2000, 10000, 65000, 65535, 65536} {
		s := plainText(picksOf(n))
		if len(s) != n {
			t.Fatalf("%d bytes, want %d", len(s), n)
		}
		reads(t, s, picksOf(n))
	}
	if s := plainText(picksOf(65537)); len(s) != 65537 {
		t.Fatalf("%d bytes", len(s))
	}
	told(t, picksOf(65537), plainText(picksOf(65537)))
	readsNot(t, plainText(picksOf(65537)), 0, api.ErrBig)
	for _, n := range []int{65537, 65538, 1 << 17, 1 << 20} {
		// That is asked first, whatever else is wrong.
		readsNot(t, strings.Repeat("x", n), 0, api.ErrBig)
		readsNot(t, strings.Repeat("\n", n), 0, api.ErrBig)
		readsNot(t, "lock 1\nb 1\na 1\n"+strings.Repeat("\n", n), 0, api.ErrBig)
		readsNot(t, plainText(manyPicks(n/8)), 0, api.ErrBig)
	}
	readsNot(t, strings.Repeat("x", 65536), 0, api.ErrLine)
	readsNot(t, "lock 1\n"+strings.Repeat("\n", 65529), 1, api.ErrLine)
	readsNot(t, "lock 1\n"+strings.Repeat("x", 65529), 1, api.ErrLine)
	most := plainText(picksOf(65536))
	readsNot(t, most[:65535], strings.Count(most, "\n")-1, api.ErrLine)
}

// TestParseFirst: of several lines that are wrong the first one.
func TestParseFirst(t *testing.T) {
	lines := map[string]string{"a fall": "a 1", "a name twice": "m 1", "no name": "M 1", "no version": "n x", "no blank": "n", "two blanks": "n  1", "nothing": "", "a byte 13": "n 1\r", "nothing behind": "n ", "nothing ahead": " 1"}
	for one, a := range lines {
		for other, b := range lines {
			s := "m 1\n" + a + "\nn 1\n" + b + "\n"
			for _, end := range []string{"", "x", "n 1", "z 1\n"} {
				readsNot(t, "lock 1\n"+s+end, 2, api.ErrLine)
				readsNot(t, "lock 2\n"+s+end, 0, api.ErrLine)
			}
			if t.Failed() {
				t.Fatalf("%s, %s", one, other)
			}
		}
	}
	readsNot(t, "lock 1\na 1\nb 1\nb 1\na x\n", 3, api.ErrLine)
	readsNot(t, "lock 1\na 1\nb 1\nc 1\na x", 4, api.ErrLine)
}

// TestParseChanged: texts of which a byte is gone, another one, or one more.
func TestParseChanged(t *testing.T) {
	text := "lock 1\na 1.0\nb2-x 1.2.3-rc1\nb3 10\nzlib 1.2.3.4\n"
	if !readsAsPlain(t, text) {
		t.Fatalf("%q is none", text)
	}
	good := 0
	check := func(s string) {
		if readsAsPlain(t, s) {
			good++
		}
	}
	for at := range len(text) {
		check(text[:at])
		check(text[at:])
		check(text[:at] + text[at+1:])
		for c := range 256 {
			b := string([]byte{byte(c)})
			check(text[:at] + b + text[at+1:])
			check(text[:at] + b + text[at:])
		}
	}
	if good < 300 {
		t.Errorf("only %d of these are texts", good)
	}
}

// TestParseRandom: lines of a few words, right and wrong ones.
func TestParseRandom(t *testing.T) {
	r := noise(173)
	good := 0
	for round := range 20000 {
		var b strings.Builder
		rare := 2 + round%40
		if r.below(rare) != 0 {
			b.WriteString("lock 1\n")
		}
		for i := range r.below(12) {
			name := "a" + strconv.Itoa(i%10)
			if r.below(rare) == 0 {
				name = r.one("", "x", "a0", "a", "A", "a b", " a", "1", "lock")
			}
			said := r.one(someVersions()...)
			if r.below(rare) == 0 {
				said = r.one("", "x", "01", " 1", "1 ", "1 1", "1\r")
			}
			b.WriteString(name + " " + said)
			if r.below(5*rare) != 0 {
				b.WriteByte('\n')
			}
		}
		if readsAsPlain(t, b.String()) {
			good++
		}
	}
	if good < 2000 || good > 18000 {
		t.Errorf("%d of these are texts", good)
	}
}
