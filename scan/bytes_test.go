package scan_test

import (
	"bytes"
	"slices"
	"strings"
	"testing"

	"stillroom/api"
	"stillroom/digest"
	"stillroom/path"
	"stillroom/scan"
)

// P10.1

func TestBytesExample(t *testing.T) {
	for _, p := range []string{pathA, pathX, pathY, pathOf(signsY, "hello-1.0")} {
		finds(t, "x"+p[7:39], []string{p}, []string{p})
	}
}

// TestBytesOfMade: paths as the store makes them, as they stand in scripts and
// lists.
func TestBytesOfMade(t *testing.T) {
	var all []string
	for _, name := range []string{"gcc-13", "glibc", "hello-1.0", "zlib"} {
		p, e := path.Make("output", digest.Sum([]byte(name)), name)
		if e != api.OK {
			t.Fatal(e)
		}
		all = append(all, p)
	}
	want := slices.Sorted(slices.Values(all))
	finds(t, "#!"+all[0]+"/bin/sh\nexport PATH="+all[1]+"/bin:"+all[2]+"/bin\n", all, slices.Sorted(slices.Values(all[:3])))
	finds(t, strings.Join(all, "\n"), all, want)
	finds(t, all[3][7:39]+"\x00"+all[0][7:39], all, slices.Sorted(slices.Values([]string{all[0], all[3]})))
	// Names alone are nothing that is sought.
	finds(t, "gcc-13 glibc hello-1.0 zlib /store/", all, nil)
}

func TestBytesOfNothing(t *testing.T) {
	all := []string{pathA, pathX, pathY}
	finds(t, "", all, nil)
	finds(t, "", nil, nil)
	finds(t, signsA, nil, nil)
	finds(t, signsA, []string{}, nil)
	for _, b := range [][]byte{nil, {}} {
		for _, paths := range [][]string{nil, {}, all, {""}} {
			if l := scan.Bytes(b, paths); len(l) != 0 {
				t.Errorf("Bytes(nothing, %q): %q", paths, l)
			}
		}
	}
}

// TestBytesPlaces: at the beginning, in the midst and at the end, wherever that
// is, and whatever stands around.
func TestBytesPlaces(t *testing.T) {
	for _, p := range []string{pathA, pathX, pathY} {
		s, paths := p[7:39], []string{p}
		finds(t, s, paths, paths)
		for _, around := range []string{"-", "a", "0", "z", "e", "\x00", "\xff", "\n", "/"} {
			for n := range 70 {
				ahead := strings.Repeat(around, n)
				finds(t, ahead+s, paths, paths)
				finds(t, s+ahead, paths, paths)
				finds(t, ahead+s+ahead, paths, paths)
				finds(t, ahead+s+around+s, paths, paths)
			}
		}
	}
	for _, n := range []int{255, 256, 4096, 65535, 1 << 20} {
		zeros := strings.Repeat("0", n)
		finds(t, zeros+signsX, []string{pathX, pathY}, []string{pathX})
		finds(t, signsX+zeros, []string{pathX, pathY}, []string{pathX})
		finds(t, zeros+signsX+zeros, []string{pathY, pathX}, []string{pathX})
		finds(t, zeros, []string{pathX, pathY}, nil)
	}
}

// TestBytesPart: a part of the signs, be it all but one, is nothing.
func TestBytesPart(t *testing.T) {
	for _, p := range []string{pathA, pathX, pathY} {
		s, paths := p[7:39], []string{p}
		for from := range 32 {
			for to := from; to <= 32; to++ {
				var want []string
				if from == 0 && to == 32 {
					want = paths
				}
				finds(t, s[from:to], paths, want)
				finds(t, "x:"+s[from:to]+":x", paths, want)
				finds(t, s[:from]+"-"+s[from:to], paths, want)
			}
		}
		// In two parts, with something or nothing of them between.
		for at := 1; at < 32; at++ {
			for _, between := range []string{" ", "\n", "\x00", "-", "e", "E"} {
				finds(t, s[:at]+between+s[at:], paths, nil)
			}
			finds(t, s[:at-1]+s[at:], paths, nil)
		}
	}
}

// TestBytesOtherSign: one sign that is another byte, at each place.
func TestBytesOtherSign(t *testing.T) {
	for _, p := range []string{pathA, pathX, pathY} {
		s, paths := p[7:39], []string{p}
		for at := range 32 {
			for c := range 256 {
				var want []string
				if byte(c) == s[at] {
					want = paths
				}
				b := []byte("ee" + s + "ee")
				b[2+at] = byte(c)
				finds(t, string(b), paths, want)
			}
			// The path of these signs is another one, which is found by itself.
			other := pathOf(s[:at]+"z"+s[at+1:], "a")
			if s[at] != 'z' {
				finds(t, other, []string{p, other}, []string{other})
				finds(t, p, []string{p, other}, paths)
			}
		}
	}
	finds(t, strings.ToUpper(signsX+signsY), []string{pathX, pathY}, nil)
}

// TestBytesOverlap: signs that share their end with the beginning of others, or
// of themselves.
func TestBytesOverlap(t *testing.T) {
	for n := 1; n < 32; n++ {
		// The last n of the one are the first n of the other.
		other := pathOf(signsX[32-n:]+signsY[:32-n], "o")
		both := slices.Sorted(slices.Values([]string{pathX, other}))
		finds(t, signsX+signsY[:32-n], []string{pathX, other, pathY}, both)
		finds(t, signsX+signsY[:32-n]+"z", []string{other, pathX, pathY}, both)
		finds(t, signsX+signsY[:31-n], []string{pathX, other}, []string{pathX})
		finds(t, signsX[1:]+signsY[:32-n], []string{pathX, other}, []string{other})
	}
	// All that stand in a text of signs, one at each place.
	text := signsX + signsY + signsX
	var all []string
	for at := range len(text) - 31 {
		all = append(all, pathOf(text[at:at+32], "p"))
	}
	slices.Reverse(all)
	finds(t, text, all, slices.Compact(slices.Sorted(slices.Values(all))))
	for n := range 100 {
		var want []string
		if n >= 32 {
			want = []string{pathA}
		}
		finds(t, strings.Repeat("a", n), []string{pathA, pathX}, want)
		finds(t, "b"+strings.Repeat("a", n)+"b", []string{pathX, pathA}, want)
	}
	// What begins a second time ahead of its end.
	again := "0b0b0b0b0b0b0b0b0b0b0b0b0b0b0b0c"
	finds(t, "0b"+again, []string{pathOf(again, "a")}, []string{pathOf(again, "a")})
	finds(t, again[:30]+again, []string{pathOf(again, "a")}, []string{pathOf(again, "a")})
}

// TestBytesLists: what is told rises, each path once, in whatever order and
// however often the paths come.
func TestBytesLists(t *testing.T) {
	finds(t, signsX, []string{pathX, pathX}, []string{pathX})
	finds(t, signsX+signsX, []string{pathX, pathY, pathX, pathX, pathY}, []string{pathX})
	finds(t, signsY+signsA+signsX, []string{pathX, pathA, pathY}, []string{pathX, pathA, pathY})
	for _, paths := range [][]string{
		{pathX, pathA, pathY}, {pathX, pathY, pathA}, {pathA, pathX, pathY}, {pathA, pathY, pathX}, {pathY, pathA, pathX}, {pathY, pathX, pathA},
		{pathY, pathY, pathX, pathA, pathX, pathY, pathA, pathA},
	} {
		finds(t, signsY+signsX+signsA, paths, []string{pathX, pathA, pathY})
		finds(t, signsA+signsX+signsY, paths, []string{pathX, pathA, pathY})
		finds(t, signsY+signsX, paths, []string{pathX, pathY})
		finds(t, signsA, paths, []string{pathA})
		finds(t, "none", paths, nil)
	}
}

// TestBytesSameSigns: paths with the same signs and other names are all told.
func TestBytesSameSigns(t *testing.T) {
	names := []string{"b", "a", "a-1", "B", "+", "-", "_", "a.drv", "aa", "9", strings.Repeat("n", 27)}
	var all []string
	for _, name := range names {
		all = append(all, pathOf(signsX, name), pathOf(signsY, name))
	}
	rising := slices.Sorted(slices.Values(all))
	finds(t, signsX, all, rising[:len(names)])
	finds(t, signsY, all, rising[len(names):])
	finds(t, signsY+signsX, append(all, all...), rising)
	finds(t, "a", all, nil)
	// It hangs on no name, be it another one in the bytes.
	finds(t, pathOf(signsX, "other"), []string{pathX}, []string{pathX})
}

// TestBytesNoPaths: texts that are no paths are not told, whatever stands in the
// bytes, and hide no path.
func TestBytesNoPaths(t *testing.T) {
	for _, s := range []string{signsA, signsX, signsY} {
		for _, p := range append(wrongPaths(s), "", "/", "/x", "/store/", "x", strings.Repeat("x", 1000)) {
			one := pathOf(s, "r")
			finds(t, s+p+s, []string{p}, nil)
			finds(t, s+p+s, []string{p, one, p}, []string{one})
			finds(t, "none", []string{p, one, p}, nil)
		}
	}
	// Letters that are no signs.
	for _, c := range []string{"e", "o", "t", "u", "A", " ", "\x00", "\xff"} {
		for at := range 32 {
			s := signsX[:at] + c + signsX[at+1:]
			finds(t, s, []string{pathOf(s, "a")}, nil)
		}
	}
}

// TestBytesEachSign: each of the thirty-two signs is one.
func TestBytesEachSign(t *testing.T) {
	for _, c := range signs {
		s := strings.Repeat(string(c), 32)
		finds(t, "e"+s+"e", []string{pathX, pathOf(s, "a"), pathY}, []string{pathOf(s, "a")})
	}
}

// TestBytesSpareRoom: what lies behind the bytes and the paths is not read, nor
// changed.
func TestBytesSpareRoom(t *testing.T) {
	b := []byte(signsX + signsY)
	paths := []string{pathX, pathY, pathA}
	if l := scan.Bytes(b[:63], paths[:2]); !slices.Equal(l, []string{pathX}) {
		t.Errorf("%q", l)
	}
	if l := scan.Bytes(b[:31], paths); len(l) != 0 {
		t.Errorf("%q", l)
	}
	if l := scan.Bytes(b[1:], paths[:1]); len(l) != 0 {
		t.Errorf("%q", l)
	}
	if l := scan.Bytes(b, paths[:0]); len(l) != 0 {
		t.Errorf("%q", l)
	}
	if string(b) != signsX+signsY || !slices.Equal(paths, []string{pathX, pathY, pathA}) {
		t.Error("what was handed in has changed")
	}
}

// TestBytesShareNothing: what is told later hangs on nothing of what was told or
// handed in earlier.
func TestBytesShareNothing(t *testing.T) {
	b, paths := []byte(signsX+signsY), []string{pathY, pathX}
	want := []string{pathX, pathY}
	first := scan.Bytes(b, paths)
	second := scan.Bytes(b, paths)
	for i := range first[:cap(first)] {
		first[:cap(first)][i] = "!"
	}
	if !slices.Equal(paths, []string{pathY, pathX}) || !slices.Equal(second, want) {
		t.Errorf("%q, %q", paths, second)
	}
	for i := range b {
		b[i] = '!'
	}
	paths[0], paths[1] = "!", "!"
	if !slices.Equal(second, want) {
		t.Errorf("%q", second)
	}
	// What lies behind what is told is nothing that was handed in.
	many := []string{pathX, pathX, pathX, pathY, pathX}
	l := scan.Bytes([]byte(signsX), many)
	for _, p := range l[:cap(l)][len(l):] {
		if p != "" {
			t.Errorf("%q lies behind %q", p, l)
		}
	}
	if again := scan.Bytes([]byte(signsX+signsY), []string{pathX, pathY}); !slices.Equal(again, want) {
		t.Errorf("%q", again)
	}
}

// TestBytesMany: as many paths as a store may ever have, each one in the bytes
// or not.
func TestBytesMany(t *testing.T) {
	x := noise(101)
	var all, in []string
	var b bytes.Buffer
	for range 20000 {
		p := pathOf(x.text(32, signs), x.text(1, "abc"))
		all = append(all, p)
		if x.below(2) == 0 {
			in = append(in, p)
			b.WriteString(p[7:39] + x.text(x.below(5), signs))
		}
	}
	finds(t, b.String(), all, slices.Sorted(slices.Values(in)))
}

// TestBytesRandom holds many texts and paths against the plain reading.
func TestBytesRandom(t *testing.T) {
	x := noise(102)
	told := map[int]int{}
	for range 6000 {
		paths := x.paths()
		s := x.bytes(6, paths)
		want := plainFound([]string{s}, paths)
		told[min(2, len(want))]++
		finds(t, s, paths, want)
	}
	if told[0] < 1000 || told[1] < 1000 || told[2] < 1000 {
		t.Error("too little was tried:", told)
	}
}

// paths tells some texts, most of them paths, of which some have signs alike, or
// signs that overlap those of others.
func (x *noise) paths() []string {
	pool := x.text(40, "01ab"[:1+x.below(4)]) + signsX
	l := []string{pathX}
	for range 1 + x.below(6) {
		at := x.below(len(pool) - 31)
		p := pathOf(pool[at:at+32], x.text(1+x.below(2), "ab"))
		if x.below(8) == 0 {
			wrong := wrongPaths(p[7:39])
			p = wrong[x.below(len(wrong))]
		}
		l = append(l, p)
	}
	return l[x.below(2):]
}
