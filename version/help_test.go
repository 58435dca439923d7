package version_test

import (
	"cmp"
	"math"
	"regexp"
	"strconv"
	"strings"
	"testing"

	"stillroom/api"
	"stillroom/version"
)

// Making versions.

// of tells a version without a tag.
func of(nums ...int) version.Version { return tagged("", nums...) }

// tagged tells a version with a tag.
func tagged(tag string, nums ...int) version.Version {
	v := version.Version{Count: len(nums), Tag: tag}
	copy(v.Nums[:], nums)
	return v
}

// parsed tells the version of a text, which must be one.
func parsed(t *testing.T, s string) version.Version {
	t.Helper()
	v, e := version.Parse(s)
	if e != api.OK {
		t.Fatalf("Parse(%q): %v", s, e)
	}
	return v
}

// someTexts tells texts of versions at all edges, in no order.
func someTexts() []string {
	return []string{
		"0", "1", "9", "10", "2", "999999999", "0.0", "1.0", "0.1", "1.2", "1.10", "1.9", "1.0.0", "1.0.0.0", "0.0.0.0", "1.2.3", "1.2.3.4", "0.0.0.1",
		"1.999999999", "1.999999999.999999999.999999999", "999999999.999999999.999999999.999999999", "999999999.0.0.999999999", "2.0", "1.1.0", "1.1.0.1",
		"0-0", "0-z", "1-0", "1-a", "1-aa", "1-z", "1-9", "1-10", "1.0-a", "1.0-rc1", "1.2-rc1", "1.2-rc10", "1.2-rc2", "1.2-rc", "1.2.0-rc1", "1.2.0",
		"1.2.3.4-abcdefghijkl", "1.2.3.4-000000000000", "1.2.3.4-999999999999", "1.2.3.4-zzzzzzzzzzzz", "999999999.999999999.999999999.999999999-zzzzzzzzzzzz",
	}
}

// someVersions tells the versions of these texts, by the plain reading.
func someVersions() (l []version.Version) {
	for _, s := range someTexts() {
		v, _ := plainParse(s)
		l = append(l, v)
	}
	return l
}

// noVersions tells texts that are none.
func noVersions() []string {
	return []string{
		"", " ", "\n", "\x00", "x", "v1", "1x", "x1", "one", "1e3", "0x1", "0b1", "0o1", "1_0", "1,2", "1/2", "1:2", "1+2", "1~2", "1*", "*",
		// Too many numbers.
		"1.2.3.4.5", "0.0.0.0.0", "1.2.3.4.5-a", "1.2.3.4.", "1.2.3.4.-a", "1.2.3.4.x", "1.2.3.4.5.6.7.8", "1.2.3.4.5.", strings.Repeat("1.", 1<<16) + "1",
		// Ten digits and more.
		"1000000000", "9999999999", "0000000000", "1.1000000000", "1.2.3.1000000000", "1000000000-a", "4294967296", "4294967297", "9223372036854775808",
		"18446744073709551616", "18446744073709551617", strings.Repeat("1", 100), strings.Repeat("9", 1<<16),
		// Noughts ahead.
		"00", "01", "000000000", "000000001", "1.01", "1.00", "1.2.03", "1.2.3.04", "00.1", "01.1", "01-a", "1.00-a",
		// Points without a number.
		".", "..", "...", "....", ".1", "1.", "1..2", "1..", "..1", "1.2.", ".1.2", "1.2..3", "1.2.3.", "1...2", "1.-a", ".-a", "1..2-a", ".1-a",
		// Signs ahead of a number.
		"+1", "-1", "+0", "-0", "1.+2", "1.-2", "+1.2", "-1.2", "1.2.3.+4", "1.2.3.-4", "--1", "+-1", "+", "+1-a", "\u22121",
		// Blanks and ends of lines.
		" 1", "1 ", "1 .2", "1. 2", "1.2 -a", "1.2- a", "1.2-a ", "1.2-a b", "\n1", "1\n", "1\n.2", "1.2-a\n", "1.2\n-a", "1\r\n", "1\r", "\t1", "1\t", "1\x00", "1\u00a0", "1\v", "1\f",
		"1.2\n1.3",
		// Tags that are none.
		"-", "--", "-a", "-rc1", "1-", "1.2.3.4-", "1--", "1-a-", "1--a", "1-a-b", "1-A", "1-rC1", "1-Z", "1-a.b", "1-.", "1-a.", "1-.a", "1.2-3.4", "1-_", "1-a_b", "1-+", "1-a+b",
		"1-\x00", "1-a\x00", "1-\x7f", "1-\x80", "1-\xff", "1-/", "1-:", "1-`", "1-{", "1-@", "1-[",
		"1-\u00e4", "1-a\u0308", "1-\u0661", "1-\uff41", "1-\u212a", "1-\u017f",
		"1-abcdefghijklm", "1-0000000000000", "1-" + strings.Repeat("z", 13), "1-" + strings.Repeat("z", 24), "1-" + strings.Repeat("a", 1<<16), "1-" + strings.Repeat("a", 256+12), "1-" + strings.Repeat("\u00e4", 6),
		// Digits, but none of these bytes.
		"\u0661", "\uff11", "\u00b2", "1.\u0661", "\xb1", "1.\xb1", "\xff", "/", ":", "1/", "1:",
	}
}

// wrongStructs tells versions that may not be.
func wrongStructs() []version.Version {
	l := []version.Version{{}, {Tag: "a"}, {Nums: [4]int{1}}, {Nums: [4]int{1, 2, 3, 4}, Tag: "rc1"}}
	for _, count := range []int{0, 5, 6, -1, -4, 256, 257, 1 << 30, math.MaxInt32, math.MinInt32, math.MaxInt, math.MinInt} {
		l = append(l, version.Version{Count: count}, version.Version{Nums: [4]int{1, 2, 3, 4}, Count: count}, version.Version{Nums: [4]int{1}, Count: count, Tag: "a"})
	}
	for _, n := range []int{-1, -999999999, 1000000000, math.MaxInt32, math.MinInt32, math.MaxInt, math.MinInt} {
		for count := 1; count <= 4; count++ {
			for at := range 4 {
				v := version.Version{Count: count}
				v.Nums[at] = n
				l = append(l, v)
				v.Tag = "a"
				l = append(l, v)
			}
		}
	}
	for count := 1; count <= 3; count++ {
		for at := count; at < 4; at++ {
			for _, n := range []int{1, 999999999} {
				v := version.Version{Nums: [4]int{1}, Count: count}
				v.Nums[at] = n
				l = append(l, v)
			}
		}
	}
	for _, s := range noVersions() {
		if tag, ok := strings.CutPrefix(s, "1-"); ok && tag != "" {
			l = append(l, tagged(tag, 1), tagged(tag, 1, 2, 3, 4))
		}
	}
	return append(l, tagged(" ", 1), tagged("\n", 1), tagged("a ", 1), tagged("a\n", 1), tagged("-", 1), tagged("-a", 1))
}

// noise tells numbers that are alike in every run.
type noise uint64

func (r *noise) below(n int) int {
	*r ^= *r << 13
	*r ^= *r >> 7
	*r ^= *r << 17
	return int(uint64(*r) >> 16 % uint64(n))
}

// number tells one that a version may have, small ones oftener.
func (r *noise) number() int {
	if r.below(8) == 0 {
		return 999999999 - r.below(3)
	}
	return r.below(1 << (3 * r.below(10)))
}

// version tells a version that may be.
func (r *noise) version() version.Version {
	v := version.Version{Count: 1 + r.below(4)}
	for i := range v.Count {
		v.Nums[i] = r.number()
	}
	if r.below(2) == 0 {
		for range 1 + r.below(12) {
			v.Tag += string("az09mn5bc"[r.below(9)])
		}
	}
	return v
}

// A plain reading of the chapter, by other means than the program's.

const plainNumber = `(0|[1-9][0-9]{0,8})`

var plainText = regexp.MustCompile(`\A` + plainNumber + `(?:\.` + plainNumber + `(?:\.` + plainNumber + `(?:\.` + plainNumber + `)?)?)?(?:-([a-z0-9]{1,12}))?\z`)

// plainParse tells the version of a text, if it is one.
func plainParse(s string) (v version.Version, ok bool) {
	m := plainText.FindStringSubmatch(s)
	if m == nil {
		return v, false
	}
	for i, digits := range m[1:5] {
		if digits != "" {
			v.Nums[i], _ = strconv.Atoi(digits)
			v.Count++
		}
	}
	v.Tag = m[5]
	return v, true
}

// plainCompare tells the order of any two.
func plainCompare(a, b version.Version) int {
	rank := func(v version.Version) int {
		if v.Tag == "" {
			return 1
		}
		return 0
	}
	return cmp.Or(
		cmp.Compare(a.Nums[0], b.Nums[0]), cmp.Compare(a.Nums[1], b.Nums[1]), cmp.Compare(a.Nums[2], b.Nums[2]), cmp.Compare(a.Nums[3], b.Nums[3]),
		cmp.Compare(rank(a), rank(b)), strings.Compare(a.Tag, b.Tag), cmp.Compare(a.Count, b.Count))
}

// Asking.

// reads asks that a text is this version's, and that it is told again.
func reads(t *testing.T, s string, want version.Version) {
	t.Helper()
	if v, e := version.Parse(s); v != want || e != api.OK {
		t.Errorf("Parse(%q): %#v, %v, want %#v", s, v, e, want)
	}
	if text, e := version.Text(want); text != s || e != api.OK {
		t.Errorf("Text(%#v): %q, %v, want %q", want, text, e, s)
	}
}

// readsNot asks that a text is no version's.
func readsNot(t *testing.T, s string) {
	t.Helper()
	if v, e := version.Parse(s); v != (version.Version{}) || e != api.ErrVersion {
		t.Errorf("Parse(%.100q): %#v, %v, want ErrVersion", s, v, e)
	}
}

// readsAsPlain holds Parse and Text against the plain reading, and tells whether
// it is a version's text.
func readsAsPlain(t *testing.T, s string) bool {
	t.Helper()
	v, ok := plainParse(s)
	if ok {
		reads(t, s, v)
	} else {
		readsNot(t, s)
	}
	return ok
}

// compares asks how two compare, in both orders.
func compares(t *testing.T, a, b version.Version, want int) {
	t.Helper()
	if got := version.Compare(a, b); got != want {
		t.Errorf("Compare(%#v, %#v): %d, want %d", a, b, got, want)
	}
	if got := version.Compare(b, a); got != -want {
		t.Errorf("Compare(%#v, %#v): %d, want %d", b, a, got, -want)
	}
}
