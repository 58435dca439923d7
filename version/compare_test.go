package version_test

import (
	"math"
	"testing"

	"stillroom/version"
)

// P13.2

func TestCompareExamples(t *testing.T) {
	compares(t, parsed(t, "1.2-rc1"), parsed(t, "1.2"), -1)
	compares(t, parsed(t, "1"), parsed(t, "1.0"), -1)
}

// rising tells texts of versions, each above the one ahead of it.
func rising() []string {
	return []string{
		"0-0", "0.0-0", "0.0.0.0-0", "0-00", "0-a", "0.0-a", "0-aa", "0-b", "0", "0.0", "0.0.0", "0.0.0.0", "0.0.0.1-a", "0.0.0.1", "0.0.1-z", "0.0.1", "0.0.1.0",
		"0.1-rc", "0.1.0-rc", "0.1-rc1", "0.1-rc10", "0.1-rc2", "0.1-rca", "0.1-rd", "0.1", "0.1.0", "0.1.0.0", "0.1.0.1", "0.1.1", "0.2", "0.9", "0.10", "0.99", "0.100", "0.999999999.999999999.999999999",
		"1-000000000000", "1-0a", "1-9", "1-99", "1-9a", "1-a", "1.0-a", "1-a0", "1-z", "1.0.0-zzzzzzzzzzz", "1-zzzzzzzzzzzz", "1.0-zzzzzzzzzzzz", "1.0.0.0-zzzzzzzzzzzz", "1", "1.0", "1.0.0", "1.0.0.0",
		"1.0.0.999999999", "1.0.1", "1.0.999999999.999999999", "1.1", "1.2-rc1", "1.2", "1.2.3", "1.10", "2", "9", "10", "999999999", "999999999.999999999.999999999.999999999-z", "999999999.999999999.999999999.999999999",
	}
}

func TestCompareRising(t *testing.T) {
	l := rising()
	for i, a := range l {
		for j, b := range l {
			want := 0
			if i < j {
				want = -1
			} else if i > j {
				want = 1
			}
			compares(t, parsed(t, a), parsed(t, b), want)
		}
	}
}

// TestCompareAlikeBut: versions that are alike but for one thing.
func TestCompareAlikeBut(t *testing.T) {
	for _, v := range someVersions() {
		compares(t, v, v, 0)
		for at := range 4 {
			w := v
			w.Nums[at]++
			compares(t, v, w, -1)
		}
		w := v
		w.Count++
		compares(t, v, w, -1)
		w = v
		w.Tag += "0"
		if v.Tag == "" {
			compares(t, v, w, 1)
		} else {
			compares(t, v, w, -1)
		}
	}
}

// TestCompareFirstUnlike: what is unlike first decides, whatever is behind it.
func TestCompareFirstUnlike(t *testing.T) {
	low := version.Version{Nums: [4]int{5, 5, 5, 5}, Count: 4, Tag: "m"}
	for at := range 4 {
		a, b := low, low
		a.Nums[at], b.Nums[at] = 4, 6
		for i := at + 1; i < 4; i++ {
			a.Nums[i], b.Nums[i] = 999999999, 0
		}
		compares(t, a, b, -1)
		a.Tag, b.Tag = "", "a"
		a.Count, b.Count = 4, 1
		compares(t, a, b, -1)
	}
	a, b := low, low
	a.Tag, a.Count, b.Tag, b.Count = "a", 4, "b", 1
	compares(t, a, b, -1)
	a.Tag, a.Count, b.Tag, b.Count = "zz", 4, "", 1
	compares(t, a, b, -1)
}

// odd tells structs of all kinds, most of which are no versions.
func odd() []version.Version {
	var l []version.Version
	for _, n := range []int{0, 1, -1, math.MaxInt, math.MinInt, math.MaxInt32, math.MinInt32, 1 << 31, 1 << 32, 1<<32 + 1, math.MaxInt - 1, math.MinInt + 1} {
		l = append(l, version.Version{Count: n}, version.Version{Count: n, Tag: "\x00"})
		for at := range 4 {
			v := version.Version{Nums: [4]int{1, 1, 1, 1}, Count: 2}
			v.Nums[at] = n
			l = append(l, v)
		}
	}
	for _, tag := range []string{"\x00", "\x00\x00", " ", "-", "A", "Z", "a", "a\x00", "a ", "aB", "ab", "\x7f", "\x80", "\xff", "\xff\xff", "\u00e4", "a\u0308", "\u65e5", "\ufffd", "\U0001f600", "abcdefghijklmnopqrstuvwxyz"} {
		l = append(l, tagged(tag), tagged(tag, 1), tagged(tag, 1, 0))
	}
	return append(l, wrongStructs()[:40]...)
}

// TestCompareAnyStructs: they are taken as they are.
func TestCompareAnyStructs(t *testing.T) {
	compares(t, version.Version{}, version.Version{}, 0)
	compares(t, of(math.MinInt), of(math.MaxInt), -1)
	compares(t, of(-1), of(0), -1)
	compares(t, of(1, 0, 0, math.MinInt), of(1, 0, 0, math.MaxInt), -1)
	compares(t, version.Version{Count: math.MinInt}, version.Version{Count: math.MaxInt}, -1)
	compares(t, version.Version{Count: -1}, version.Version{}, -1)
	compares(t, version.Version{Count: 5}, version.Version{Count: 4}, 1)
	// Numbers behind Count are held against each other, too.
	compares(t, version.Version{Nums: [4]int{1, 0, 0, 1}, Count: 1}, version.Version{Nums: [4]int{1, 0, 0, 0}, Count: 4}, 1)
	compares(t, version.Version{Nums: [4]int{1, 7}, Count: 1}, version.Version{Nums: [4]int{1, 6}, Count: 1}, 1)
	compares(t, tagged("A", 1), tagged("a", 1), -1)
	compares(t, tagged("\xff", 1), of(1), -1)
	compares(t, tagged("\x00", 1), of(1), -1)
	compares(t, tagged("z", 1), tagged("\u00e4", 1), -1)
	compares(t, tagged("\uffff", 1), tagged("\U00010000", 1), -1)
	compares(t, tagged("a", 1), tagged("a\x00", 1), -1)
	for _, a := range odd() {
		for _, b := range odd() {
			compares(t, a, b, plainCompare(a, b))
		}
	}
}

func TestCompareRandom(t *testing.T) {
	r := noise(132)
	for range 50000 {
		a, b := r.version(), r.version()
		compares(t, a, b, plainCompare(a, b))
		// Such as have much in common.
		b = a
		switch r.below(4) {
		case 0:
			b.Nums[r.below(4)] = r.number()
		case 1:
			b.Tag = r.version().Tag
		case 2:
			b.Count = 1 + r.below(4)
		}
		compares(t, a, b, plainCompare(a, b))
	}
}

// P13.5: Compare is an order.

func TestCompareIsAnOrder(t *testing.T) {
	l := append(someVersions(), odd()[:60]...)
	for _, a := range l {
		for _, b := range l {
			c := version.Compare(a, b)
			if c != -version.Compare(b, a) || (c == 0) != (a == b) || c < -1 || c > 1 {
				t.Errorf("Compare(%#v, %#v): %d, the other way %d", a, b, c, version.Compare(b, a))
			}
			for _, d := range l {
				if c <= 0 && version.Compare(b, d) <= 0 && version.Compare(a, d) > 0 {
					t.Errorf("%#v is not above %#v, which is not above %#v, but the first is above the last", a, b, d)
				}
			}
		}
	}
}
