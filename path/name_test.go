package path_test

import (
	"strings"
	"testing"

	"stillroom/path"
)

// P9.1

// named asks whether a text is a name.
func named(t *testing.T, s string, want bool) {
	t.Helper()
	if got := path.Name(s); got != want {
		t.Errorf("Name(%.100q): %v, want %v", s, got, want)
	}
}

func TestNameOrdinary(t *testing.T) {
	for _, s := range []string{
		"a", "hello-1.0", "hello-1.0.drv", "gcc_13.2", "libstdc++", "A", "Z", "z", "0", "9", "+", "-", "_", "--", "-a", "a-",
		"a.", "a..", "a.b", "-.", "_.a", "+.", "0.", "mNoPq", "+-._azAZ09",
	} {
		named(t, s, true)
	}
}

func TestNameWrong(t *testing.T) {
	for _, s := range []string{
		"", ".", "..", ".a", ".-", "._", ".a.b", " ", "a b", " a", "a ", "a/b", "/", "/a", "a/", "a:b", "a\n", "\na", "a\x00", "\x00",
		"~", "a~", "a=b", "a?b", "a*", "a,b", "a@1", "a[", "a`b", "a{", "a^", "a\\b", "\"a\"", "a\x7f", "a\x80", "\xff",
		// Letters and digits, but none of these bytes.
		"é", "aé", "ß", "\u212a", "\u017f", "\uff41", "\u0661", "a\u0301",
	} {
		named(t, s, false)
	}
}

// TestNameEveryByte: each byte in each place of names of each length, all else
// being a letter.
func TestNameEveryByte(t *testing.T) {
	for _, c := range allBytes() {
		may := strings.Contains(nameSigns, c)
		for n := 1; n <= 27; n++ {
			for at := range n {
				named(t, strings.Repeat("m", at)+c+strings.Repeat("m", n-1-at), may && (c != "." || at > 0))
			}
		}
	}
}

// TestNameLengths: names of each sign alone, of all lengths up to the greatest
// and beyond it.
func TestNameLengths(t *testing.T) {
	for i := range nameSigns {
		for n := range 60 {
			c := nameSigns[i : i+1]
			named(t, strings.Repeat(c, n), n >= 1 && n <= 27 && c != ".")
			named(t, "a"+strings.Repeat(c, n), n <= 26)
		}
	}
	for _, n := range []int{255, 256, 257, 256 + 27, 1 << 16, 1<<16 + 1, 1 << 20} {
		named(t, strings.Repeat("a", n), false)
	}
}

// TestNameRandom holds many texts against the plain reading, of which some
// have a byte that no name has.
func TestNameRandom(t *testing.T) {
	x := noise(9)
	told := map[bool]int{}
	for range 50000 {
		s := []byte(x.text(x.below(31), nameSigns))
		if len(s) > 0 && x.below(3) == 0 {
			s[x.below(len(s))] = byte(x.next())
		}
		want := plainName.Match(s)
		told[want]++
		named(t, string(s), want)
	}
	if told[true] < 10000 || told[false] < 10000 {
		t.Error("too little was tried:", told)
	}
}
