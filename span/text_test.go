package span_test

import (
	"strconv"
	"strings"
	"testing"
	"unsafe"

	"stillroom/span"
)

// P14.4

func TestTextExamples(t *testing.T) {
	tells(t, set(t, ">=1,<2|=3"), ">=1,<2|=3")
	tells(t, set(t, "*|=1"), "*")
	tells(t, span.None(), ">0-0,<0-0")
	tells(t, span.All(), "*")
}

// TestTextOfItself: texts that are told just as they came.
func TestTextOfItself(t *testing.T) {
	for _, s := range []string{
		"*", ">0-0,<0-0", "=1", "=1-a", "=0-0", ">=1", ">1", "<=1", "<1", ">=1,<2", ">=1,<=2", ">1,<2", ">1,<=2", ">1,<1.0", ">=1,<=1.0", ">=1-a,<=1",
		"<1|>1", "<=1|>2", "<1|>=2", "<1|=2|>3", "=1|=2", "=1|=1.0|=1.0.0|=1.0.0.0", ">1,<2|>2,<3|>3", ">=1,<2|=3", "<0-0", "<0-0|>0-0", "=0-0|>0", "<=0-0|=0|=0.0",
		">=1.2.3.4-abcdefghijkl,<999999999.999999999.999999999.999999999", "=999999999.999999999.999999999.999999999-zzzzzzzzzzzz", ">999999999.999999999.999999999.999999999",
	} {
		made := set(t, s)
		tells(t, made, s)
		same(t, set(t, made.Text()), made, true)
	}
}

// TestTextNotOfItself: ^ and ~ are told by their bounds, and pieces rise.
func TestTextNotOfItself(t *testing.T) {
	for s, want := range map[string]string{
		"^1":             ">=1,<2",
		"~1.2.3":         ">=1.2.3,<1.3",
		"^999999999":     ">=999999999",
		"~0.999999999":   ">=0.999999999",
		"=3|=1|=2":       "=1|=2|=3",
		"<2,>1":          ">1,<2",
		"=2|>3|<1":       "<1|=2|>3",
		"=1,=2":          ">0-0,<0-0",
		"<=2,>=2":        "=2",
		"*,<1":           "<1",
		"=1.0|=1":        "=1|=1.0",
		"=1|=1-a|=1-0":   "=1-0|=1-a|=1",
		"=10|=9":         "=9|=10",
		"=1.10|=1.9":     "=1.9|=1.10",
		"=1-rc2|=1-rc10": "=1-rc10|=1-rc2",
	} {
		tells(t, set(t, s), want)
	}
}

// TestTextPieces: one to sixteen pieces are read again, more are not.
func TestTextPieces(t *testing.T) {
	for n := 1; n <= 40; n++ {
		for _, rule := range []func(i int) string{
			func(i int) string { return "=" + strconv.Itoa(i) },
			func(i int) string { return ">=" + strconv.Itoa(2*i) + ",<" + strconv.Itoa(2*i+1) },
			func(i int) string { return ">" + strconv.Itoa(i) + ",<" + strconv.Itoa(i+1) },
		} {
			made := span.None()
			var pieces []string
			for i := range n {
				// From the last on: what is told rises all the same.
				made = made.Or(set(t, rule(n-1-i)))
				pieces = append(pieces, rule(i))
			}
			tells(t, made, strings.Join(pieces, "|"))
			for _, s := range []*span.Span{made, made.Not()} {
				if strings.Count(s.Text(), "|") < 16 {
					same(t, set(t, s.Text()), s, true)
				} else {
					readsNot(t, s.Text())
				}
			}
		}
	}
}

// TestTextRandom: Parse of Text is the same set, and is told the same.
func TestTextRandom(t *testing.T) {
	r := noise(144)
	for range 5000 {
		s := r.rangeText(rising(), 16, 1+r.below(3))
		made := set(t, s)
		if pieces := 1 + strings.Count(made.Text(), "|"); pieces > 16 {
			t.Errorf("%q has %d pieces", s, pieces)
		}
		again := set(t, made.Text())
		same(t, again, made, true)
		tells(t, again, made.Text())
	}
}

func TestTextUnmade(t *testing.T) {
	for _, u := range unmade() {
		if u.Text() != "" {
			t.Errorf("%q", u.Text())
		}
	}
}

// inside tells whether one text lies on the memory of another.
func inside(a, b string) bool {
	if a == "" || b == "" {
		return false
	}
	at, from := uintptr(unsafe.Pointer(unsafe.StringData(a))), uintptr(unsafe.Pointer(unsafe.StringData(b)))
	return at >= from && at < from+uintptr(len(b))
}

// TestTextIsNewMemory: the text that was handed in is neither kept nor handed out,
// nor is what was handed out ahead.
func TestTextIsNewMemory(t *testing.T) {
	handed := strings.Clone("=1.2.3-abcdefgh")
	if !inside(handed[4:], handed) {
		t.Fatal("nothing is told apart")
	}
	made := set(t, handed)
	one, other := made.Text(), made.Text()
	if one != handed || other != handed || inside(one, handed) || inside(one, other) {
		t.Errorf("%q, %q of %q", one, other, handed)
	}
	bytes := []byte("=1.2.3-abcdefgh|>=2-xyz,<3-rst")
	made = set(t, unsafe.String(&bytes[0], len(bytes)))
	for i := range bytes {
		bytes[i] = '!'
	}
	tells(t, made, "=1.2.3-abcdefgh|>=2-xyz,<3-rst")
}
