package version_test

import (
	"strconv"
	"strings"
	"testing"
	"unsafe"

	"stillroom/api"
	"stillroom/version"
)

// P13.1

func TestParseExample(t *testing.T) {
	reads(t, "1.2-rc1", version.Version{Nums: [4]int{1, 2, 0, 0}, Count: 2, Tag: "rc1"})
}

func TestParseOrdinary(t *testing.T) {
	for s, want := range map[string]version.Version{
		"0":               of(0),
		"1":               of(1),
		"9":               of(9),
		"10":              of(10),
		"100000000":       of(100000000),
		"999999999":       of(999999999),
		"0.0":             of(0, 0),
		"0.0.0.0":         of(0, 0, 0, 0),
		"1.0":             of(1, 0),
		"1.2":             of(1, 2),
		"1.10":            of(1, 10),
		"1.2.3":           of(1, 2, 3),
		"1.2.3.4":         of(1, 2, 3, 4),
		"10.20.30.40":     of(10, 20, 30, 40),
		"0.0.0.999999999": of(0, 0, 0, 999999999),
		"999999999.999999999.999999999.999999999": of(999999999, 999999999, 999999999, 999999999),
		"1-a":                  tagged("a", 1),
		"1-z":                  tagged("z", 1),
		"1-0":                  tagged("0", 1),
		"1-9":                  tagged("9", 1),
		"1-00":                 tagged("00", 1),
		"0-0":                  tagged("0", 0),
		"1.2-rc1":              tagged("rc1", 1, 2),
		"1.2.3-1rc":            tagged("1rc", 1, 2, 3),
		"1.2.3.4-abcdefghijkl": tagged("abcdefghijkl", 1, 2, 3, 4),
		"1.2.3.4-mnopqrstuvwx": tagged("mnopqrstuvwx", 1, 2, 3, 4),
		"1-012345678901":       tagged("012345678901", 1),
		"0.0-000000000000":     tagged("000000000000", 0, 0),
		"999999999.999999999.999999999.999999999-zzzzzzzzzzzz": tagged("zzzzzzzzzzzz", 999999999, 999999999, 999999999, 999999999),
	} {
		reads(t, s, want)
	}
}

func TestParseWrong(t *testing.T) {
	for _, s := range noVersions() {
		readsNot(t, s)
	}
}

// TestParseNumbers: numbers of all lengths in each place.
func TestParseNumbers(t *testing.T) {
	for count := 1; count <= 4; count++ {
		for at := range count {
			for digits := 1; digits <= 30; digits++ {
				for _, first := range []string{"0", "1", "9"} {
					parts := strings.Split("5.6.7.8", ".")[:count]
					parts[at] = first + strings.Repeat("9", digits-1)
					s := strings.Join(parts, ".")
					ok := digits == 1 || digits <= 9 && first != "0"
					if got := readsAsPlain(t, s); got != ok {
						t.Errorf("the plain reading of %q: %v", s, got)
					}
					readsAsPlain(t, s+"-a1")
				}
			}
		}
	}
	for n := range 2000 {
		reads(t, strconv.Itoa(n), of(n))
		reads(t, "0."+strconv.Itoa(n), of(0, n))
		reads(t, "0.0.0."+strconv.Itoa(n)+"-a", tagged("a", 0, 0, 0, n))
	}
}

// TestParseCounts: so many numbers.
func TestParseCounts(t *testing.T) {
	for n := range 300 {
		s := strings.TrimSuffix(strings.Repeat("7.", n), ".")
		if got := readsAsPlain(t, s); got != (n >= 1 && n <= 4) {
			t.Errorf("the plain reading of %q: %v", s, got)
		}
		readsAsPlain(t, s+"-a")
	}
}

// TestParseTags: tags of all lengths, with each byte in each place.
func TestParseTags(t *testing.T) {
	for n := range 300 {
		for _, c := range []string{"a", "z", "0", "9"} {
			s := "1.2-" + strings.Repeat(c, n)
			if got := readsAsPlain(t, s); got != (n >= 1 && n <= 12) {
				t.Errorf("the plain reading of %q: %v", s, got)
			}
		}
	}
	for n := 1; n <= 13; n++ {
		for at := range n {
			for c := range 256 {
				tag := []byte(strings.Repeat("m", n))
				tag[at] = byte(c)
				readsAsPlain(t, "1-"+string(tag))
				_, ok := plainParse("1-" + string(tag))
				v := tagged(string(tag), 1)
				if text, e := version.Text(v); ok != (e == api.OK) || ok != (text == "1-"+string(tag)) {
					t.Errorf("Text(%q): %q, %v", v.Tag, text, e)
				}
			}
		}
	}
}

// TestParseChanged: texts with each byte more in each place, another one, or one
// less.
func TestParseChanged(t *testing.T) {
	told := map[bool]int{}
	for _, s := range append(someTexts(), "1.2.3.4.5", "01", "1.", "1-") {
		for at := range len(s) + 1 {
			for c := range 256 {
				told[readsAsPlain(t, s[:at]+string([]byte{byte(c)})+s[at:])]++
				if at < len(s) {
					told[readsAsPlain(t, s[:at]+string([]byte{byte(c)})+s[at+1:])]++
				}
			}
			if at < len(s) {
				told[readsAsPlain(t, s[:at]+s[at+1:])]++
			}
		}
	}
	if told[true] < 5000 || told[false] < 100000 {
		t.Error("too little was tried:", told)
	}
}

// TestParseEveryShort: every text of few signs, up to a length.
func TestParseEveryShort(t *testing.T) {
	texts := []string{""}
	for range 7 {
		var longer []string
		for _, s := range texts {
			readsAsPlain(t, s)
			for _, c := range []string{"0", "1", ".", "-", "a"} {
				longer = append(longer, s+c)
			}
		}
		texts = longer
	}
	for _, s := range texts {
		readsAsPlain(t, s)
	}
}

// TestTextWrong: structs that may not be have no text.
func TestTextWrong(t *testing.T) {
	for _, v := range wrongStructs() {
		if s, e := version.Text(v); s != "" || e != api.ErrVersion {
			t.Errorf("Text(%#v): %q, %v, want ErrVersion", v, s, e)
		}
	}
}

// TestTextBehindCount: the numbers from Count on are 0, and each of those ahead
// of it may be any.
func TestTextBehindCount(t *testing.T) {
	for count := 1; count <= 4; count++ {
		for at := range 4 {
			for _, n := range []int{0, 1, 999999998, 999999999} {
				v := version.Version{Count: count}
				v.Nums[at] = n
				s, e := version.Text(v)
				if ok := at < count || n == 0; ok != (e == api.OK) || ok != (s != "") {
					t.Errorf("Text(%#v): %q, %v", v, s, e)
				}
			}
		}
	}
}

// P13.5: Parse of Text is the version.

func TestParseOfText(t *testing.T) {
	r := noise(13)
	for range 50000 {
		v := r.version()
		s, e := version.Text(v)
		if e != api.OK {
			t.Fatalf("Text(%#v): %v", v, e)
		}
		reads(t, s, v)
		if want, ok := plainParse(s); !ok || want != v {
			t.Errorf("%q of %#v", s, v)
		}
	}
}

// TestTextsUnlike: unlike versions have unlike texts.
func TestTextsUnlike(t *testing.T) {
	from := map[string]version.Version{}
	for _, nums := range [][]int{{0}, {0, 0}, {0, 0, 0}, {0, 0, 0, 0}, {1}, {1, 0}, {1, 1}, {11}, {1, 1, 1}, {11, 1}, {1, 11}, {111}, {1, 0, 1}, {10, 1}} {
		for _, tag := range []string{"", "0", "1", "00", "a", "aa", "1a", "a1"} {
			v := tagged(tag, nums...)
			s, e := version.Text(v)
			if other, ok := from[s]; ok || e != api.OK {
				t.Errorf("Text(%#v): %q, %v, as of %#v", v, s, e, other)
			}
			from[s] = v
		}
	}
}

// Rule 4: what is told is new memory.

// inside tells whether one text lies on the memory of another.
func inside(a, b string) bool {
	if a == "" || b == "" {
		return false
	}
	at, from := uintptr(unsafe.Pointer(unsafe.StringData(a))), uintptr(unsafe.Pointer(unsafe.StringData(b)))
	return at >= from && at < from+uintptr(len(b))
}

func TestTextsAreNewMemory(t *testing.T) {
	s := strings.Clone("1.2.3-abcdefgh")
	if !inside(s[6:], s) {
		t.Fatal("nothing is told apart")
	}
	v := parsed(t, s)
	if v.Tag != "abcdefgh" || inside(v.Tag, s) {
		t.Errorf("the tag %q lies where it was handed in", v.Tag)
	}
	if text, _ := version.Text(v); text != s || inside(text, v.Tag) || inside(text, s) {
		t.Errorf("the text %q lies where it was handed in", text)
	}
}
