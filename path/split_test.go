package path_test

import (
	"strings"
	"testing"

	"stillroom/api"
	"stillroom/path"
)

// P9.3

// Paths whose names are of one byte, of some, and of the most.
func somePaths() []string {
	long, _ := path.Make("output", full(0xff), strings.Repeat("Z", 27))
	return []string{
		"/store/" + noughts + "-a",
		"/store/" + signs + "-hello-1.0",
		"/store/" + strings.Repeat("z", 32) + "--",
		long,
	}
}

func TestStore(t *testing.T) {
	if path.Store != "/store/" {
		t.Errorf("Store: %q", path.Store)
	}
}

func TestSplitExample(t *testing.T) {
	splits(t, "/store/"+noughts+"-a", noughts, "a")
}

func TestSplitOrdinary(t *testing.T) {
	for _, name := range []string{"a", "-", "--", "-a", "a-", "a.", "-.", "_", "+", "0", "hello-1.0", "a.drv", noughts[:27], strings.Repeat("-", 27), "-store", "a" + strings.Repeat(".", 26)} {
		for _, s := range []string{noughts, signs, strings.Repeat("z", 32), noughts[:31] + "1", "z" + noughts[1:]} {
			splits(t, "/store/"+s+"-"+name, s, name)
		}
	}
}

func TestSplitWrong(t *testing.T) {
	for _, s := range []string{
		"", "/", "-", "-a", "a", "/store", "/store/", "/store/-", "/store/-a", "/store/a", "/store/.", "/store/..",
		noughts, noughts + "-a", "/" + noughts + "-a",
		"/store/" + noughts, "/store/" + noughts + "-",
		"/store/" + noughts + "a", "/store/" + noughts + "_a", "/store/" + noughts + "/a", "/store/" + noughts + ".a",
		"/store/" + noughts + "/-a", "/store/" + noughts + "-a/", "/store/" + noughts + "-a/x", "/store/" + noughts + "-a-/-b",
		"/store/" + noughts + "-a\n", "/store/" + noughts + "-a\x00", "/store/" + noughts + "-a ", "/store/" + noughts + "-\xff",
		"/store/" + noughts + "-.a", "/store/" + noughts + "-.", "/store/" + noughts + "-..",
		"/store/" + noughts + "-" + strings.Repeat("a", 28), "/store/" + noughts + "-" + strings.Repeat("a", 1<<20),
		"/store/" + strings.Repeat("0", 1<<20),
		"/store/" + strings.Repeat("-", 34), "/store/" + strings.Repeat("a", 34), "/store/" + strings.Repeat("\x00", 34), "/store/" + strings.Repeat("\xff", 34),
	} {
		splitsNot(t, s)
	}
}

// TestSplitSeveralWrong: it is one error, whatever of it is wrong.
func TestSplitSeveralWrong(t *testing.T) {
	for i, start := range []string{"/store/", "/stora/", "store/", ""} {
		for j, s := range []string{noughts, noughts[1:], noughts + "0", noughts[1:] + "e"} {
			for k, dash := range []string{"-", "", "_"} {
				for l, name := range []string{"a", "", ".a", "a/b", strings.Repeat("a", 28)} {
					if i+j+k+l > 0 {
						splitsNot(t, start+s+dash+name)
					}
				}
			}
		}
	}
}

func TestSplitOtherStarts(t *testing.T) {
	rest := noughts + "-a"
	for _, start := range []string{
		"store/", "/stor/", "/store", "//store/", "/store//", "/Store/", "/STORE/", "/storé/", " /store/", "/store/ ", "/store /", "./store/",
		"/nix/store/", "/store/store/", "/./store/", "/store/./", "/store/../store/", "\\store\\", "/store\x00", "\x00/store/", "/db/", "/stored/", "/store-", "/storf/", "/store.",
	} {
		splitsNot(t, start+rest)
	}
}

// TestSplitSignsCount: so many signs, of which the one that stands where the -
// must be may be a - itself.
func TestSplitSignsCount(t *testing.T) {
	for n := range 80 {
		for _, name := range []string{"a", "-a", "hello-1.0"} {
			s := strings.Repeat("0", n)
			if n == 32 {
				splits(t, "/store/"+s+"-"+name, s, name)
			} else {
				splitsNot(t, "/store/"+s+"-"+name)
			}
		}
	}
}

// TestSplitSigns: each byte in each place of the signs.
func TestSplitSigns(t *testing.T) {
	for _, c := range allBytes() {
		for at := range 32 {
			s := signs[:at] + c + signs[at+1:]
			if strings.Contains(signs, c) {
				splits(t, "/store/"+s+"-a", s, "a")
			} else {
				splitsNot(t, "/store/"+s+"-a")
			}
		}
	}
	for _, s := range []string{strings.ToUpper(signs), strings.Repeat("e", 32), strings.Repeat("o", 32), strings.Repeat("t", 32), strings.Repeat("u", 32), strings.Repeat("A", 32), strings.Repeat("é", 16)} {
		splitsNot(t, "/store/"+s+"-a")
	}
}

// TestSplitNames: each byte in each place of a name, and names of all lengths.
func TestSplitNames(t *testing.T) {
	for _, c := range allBytes() {
		for _, n := range []int{1, 2, 3, 27, 28} {
			for at := range n {
				splitsAsPlain(t, "/store/"+signs+"-"+strings.Repeat("n", at)+c+strings.Repeat("n", n-1-at))
			}
		}
	}
	for n := range 60 {
		name := strings.Repeat("n", n)
		if n >= 1 && n <= 27 {
			splits(t, "/store/"+signs+"-"+name, signs, name)
		} else {
			splitsNot(t, "/store/"+signs+"-"+name)
		}
	}
}

// TestSplitCutOff: of what is cut off that alone is a path which has a name
// left.
func TestSplitCutOff(t *testing.T) {
	for _, s := range somePaths() {
		for n := range len(s) {
			if n > 40 {
				splits(t, s[:n], s[7:39], s[40:n])
			} else {
				splitsNot(t, s[:n])
			}
			if n > 0 {
				splitsNot(t, s[n:])
			}
		}
	}
}

// TestSplitByteMore: each byte more in each place, held against the plain
// reading; ahead of the - none may be.
func TestSplitByteMore(t *testing.T) {
	for _, s := range somePaths() {
		paths := 0
		for at := range len(s) + 1 {
			for _, c := range allBytes() {
				ok := splitsAsPlain(t, s[:at]+c+s[at:])
				if ok {
					paths++
				}
				// At 39 a - may be more: the one behind it begins the name then.
				if ok && at < 39 {
					t.Errorf("%q more at %d of %q", c, at, s)
				}
			}
		}
		if most := len(s) == 67; (paths == 0) != most {
			t.Errorf("%q: %d paths", s, paths)
		}
	}
}

// TestSplitOtherByte: each other byte in each place.
func TestSplitOtherByte(t *testing.T) {
	for _, s := range somePaths() {
		for at := range len(s) {
			for _, c := range allBytes() {
				if c == s[at:at+1] {
					continue
				}
				ok := splitsAsPlain(t, s[:at]+c+s[at+1:])
				if ok && (at < 7 || at == 39) {
					t.Errorf("%q at %d of %q", c, at, s)
				}
			}
		}
	}
}

// TestSplitByteLess: one byte left out in each place.
func TestSplitByteLess(t *testing.T) {
	for _, s := range somePaths() {
		for at := range len(s) {
			if ok := splitsAsPlain(t, s[:at]+s[at+1:]); ok && at < 39 {
				t.Errorf("without the byte %d of %q", at, s)
			}
		}
	}
}

// TestSplitRandom holds many texts against the plain reading: paths of which
// some have a byte more, less, or another.
func TestSplitRandom(t *testing.T) {
	x := noise(93)
	told := map[bool]int{}
	for range 50000 {
		s := "/store/" + x.text(32, signs) + "-" + x.name()
		at := x.below(len(s))
		switch x.below(6) {
		case 0:
			s = s[:at] + x.text(1, nameSigns) + s[at:]
		case 1:
			s = s[:at] + s[at+1:]
		case 2:
			s = s[:at] + x.text(1, nameSigns) + s[at+1:]
		}
		told[splitsAsPlain(t, s)]++
	}
	if told[true] < 10000 || told[false] < 10000 {
		t.Error("too little was tried:", told)
	}
}

// P9.4

// TestSplitMade: what is made is split into signs and that name, and its last
// name is both with a - between.
func TestSplitMade(t *testing.T) {
	x := noise(4)
	for range 20000 {
		name := x.name()
		p, e := path.Make(x.text(1+x.below(20), nameSigns), x.digest(), name)
		if e != api.OK || len(p) != 7+32+1+len(name) {
			t.Fatalf("Make(%q): %q, %v", name, p, e)
		}
		splits(t, p, p[7:39], name)
	}
}
