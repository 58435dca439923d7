package path_test

import (
	"fmt"
	"strings"
	"testing"

	"stillroom/api"
	"stillroom/digest"
	"stillroom/path"
)

// P9.2

func counted() (d api.Digest) {
	for i := range d {
		d[i] = byte(i)
	}
	return d
}

// TestMakeKnown: paths that were worked out by other means.
func TestMakeKnown(t *testing.T) {
	for _, c := range []struct {
		kind string
		d    api.Digest
		name string
		want string
	}{
		{"source", api.Digest{1}, "hello-1.0", "/store/32jz082mz30vvds9rlc97x4vclnb0n70-hello-1.0"},
		{"k", api.Digest{}, "a", "/store/mz694lc0s4rj6baihf0yvs9j2r1dkgw3-a"},
		{"k", full(0xff), "a", "/store/6065wlmk5hrk1k2al6kfih1izd9c0mld-a"},
		{"output", digest.Sum([]byte("abc")), "abc", "/store/d9agw59kf4aa98vqlr42q7qqr7xscxy6-abc"},
		{"drv", digest.Sum(nil), "a.drv", "/store/k4kcc2hyw4fa5apjk1a9c205m9yclb5s-a.drv"},
		{strings.Repeat("x", 20), counted(), "+-._azAZ09" + strings.Repeat("z", 17), "/store/zrynyw0micrc8ka4dr54z2j1szcf3bba-+-._azAZ09zzzzzzzzzzzzzzzzz"},
		{"\x00\xff \n/", counted(), "_", "/store/lybv198537r0bqib8x5l97wm2y3g04ha-_"},
	} {
		makes(t, c.kind, c.d, c.name, c.want)
	}
}

func TestMakeExample(t *testing.T) {
	makesNone(t, "k", counted(), ".a")
}

// TestMakeSigns: the signs are the short digest of the digest of kind, digest
// and name.
func TestMakeSigns(t *testing.T) {
	for _, kind := range []string{"k", "source", "output", "drv", "-", " ", strings.Repeat("\xff", 20)} {
		for _, d := range []api.Digest{{}, full(0xff), counted(), digest.Sum([]byte(kind))} {
			for _, name := range []string{"a", "-", "hello-1.0", strings.Repeat("9", 27)} {
				text := kind + ":" + digest.Text(d) + ":" + name
				makes(t, kind, d, name, "/store/"+digest.Short(digest.Sum([]byte(text)))+"-"+name)
			}
		}
	}
}

// TestMakeKinds: kinds of all lengths up to the greatest and beyond it, with
// each byte in each place.
func TestMakeKinds(t *testing.T) {
	for n := range 60 {
		kind := strings.Repeat("k", n)
		if n >= 1 && n <= 20 {
			makes(t, kind, api.Digest{}, "a", plainMake(kind, api.Digest{}, "a"))
		} else {
			makesNone(t, kind, api.Digest{}, "a")
		}
	}
	for _, n := range []int{255, 256, 256 + 20, 1 << 16, 1<<16 + 1, 1 << 20} {
		makesNone(t, strings.Repeat("k", n), api.Digest{}, "a")
	}
	for _, c := range allBytes() {
		for _, n := range []int{1, 2, 3, 19, 20} {
			for at := range n {
				kind := strings.Repeat("k", at) + c + strings.Repeat("k", n-1-at)
				if c == ":" {
					makesNone(t, kind, counted(), "a")
				} else {
					makes(t, kind, counted(), "a", plainMake(kind, counted(), "a"))
				}
			}
		}
	}
}

// TestMakeKindsOfRunes: it is bytes that are counted.
func TestMakeKindsOfRunes(t *testing.T) {
	ten := strings.Repeat("é", 10)
	makes(t, ten, api.Digest{}, "a", plainMake(ten, api.Digest{}, "a"))
	makesNone(t, ten+"é", api.Digest{}, "a")
	makesNone(t, strings.Repeat("é", 20), api.Digest{}, "a")
	// A sign that looks like a colon, and one whose lowest byte is a colon's.
	for _, kind := range []string{"\uff1a", "\u013a"} {
		makes(t, kind, api.Digest{}, "a", plainMake(kind, api.Digest{}, "a"))
	}
}

// TestMakeNames: with each byte in each place, and of all lengths.
func TestMakeNames(t *testing.T) {
	for n := range 60 {
		name := strings.Repeat("n", n)
		if n >= 1 && n <= 27 {
			makes(t, "k", counted(), name, plainMake("k", counted(), name))
		} else {
			makesNone(t, "k", counted(), name)
		}
	}
	for _, c := range allBytes() {
		for _, name := range []string{c, c + "n", "n" + c + "n", "n" + c, strings.Repeat("n", 26) + c} {
			if plainName.MatchString(name) {
				makes(t, "k", counted(), name, plainMake("k", counted(), name))
			} else {
				makesNone(t, "k", counted(), name)
			}
		}
	}
}

// TestMakeSeveralWrong: kind and name may both be wrong, or one alone,
// whatever the digest is.
func TestMakeSeveralWrong(t *testing.T) {
	kinds := []string{"", ":", "::", "a:b", ":a", "a:", strings.Repeat("k", 21), strings.Repeat(":", 21), strings.Repeat("k", 21) + ":"}
	names := []string{"", ".", ".a", "a b", "a:b", "a/b", strings.Repeat("n", 28), "." + strings.Repeat("n", 27)}
	for _, d := range []api.Digest{{}, full(0xff), counted()} {
		for _, kind := range kinds {
			makesNone(t, kind, d, "a")
			for _, name := range names {
				makesNone(t, "k", d, name)
				makesNone(t, kind, d, name)
			}
		}
	}
}

// P9.4

// TestMakeUnlike: what differs anywhere in kind, digest or name has another
// path, and other signs.
func TestMakeUnlike(t *testing.T) {
	digests := []api.Digest{{}, full(0xff), counted()}
	for i := range 256 {
		var one, all api.Digest
		one[i/8] = 1 << (i % 8)
		all = full(0xff)
		all[i/8] ^= 1 << (i % 8)
		digests = append(digests, one, all)
	}
	// Among them are kinds and names that are alike but for capitals, for
	// what stands at an end, or for where one of them ends.
	kinds := []string{"k", "K", "kk", "k ", " k", "k\x00", "\x00", "\x00\x00", "0", "k0", "source", "output", "drv", strings.Repeat("k", 19), strings.Repeat("k", 20)}
	names := []string{"a", "A", "aa", "a.", "-a", "a-", "0", "0a", "+", "-", "_", "--", strings.Repeat("a", 26), strings.Repeat("a", 27)}
	from := map[string]string{}
	for _, d := range digests {
		for _, kind := range kinds {
			for _, name := range names {
				p, e := path.Make(kind, d, name)
				s, _, _ := path.Split(p)
				what := fmt.Sprintf("%q, %x, %q", kind, d, name)
				if other, ok := from[s]; ok || e != api.OK || s == "" {
					t.Fatalf("Make(%s): %q, %v, as of %s", what, p, e, other)
				}
				from[s] = what
			}
		}
	}
}

// TestMakeSame: the same is made again, whatever was made or refused between.
func TestMakeSame(t *testing.T) {
	x := noise(94)
	type what struct {
		kind string
		d    api.Digest
		name string
	}
	made := map[what]string{}
	for range 2000 {
		w := what{x.text(1+x.below(20), signs), x.digest(), x.name()}
		made[w], _ = path.Make(w.kind, w.d, w.name)
	}
	for range 3 {
		for w, p := range made {
			makesNone(t, w.kind+":", w.d, w.name)
			makes(t, strings.Clone(w.kind), w.d, strings.Clone(w.name), p)
		}
	}
}

// TestMakeRandom holds many kinds, digests and names against the plain
// reading; what is made is split into signs and that name.
func TestMakeRandom(t *testing.T) {
	x := noise(92)
	some := "ab:\x00" + nameSigns
	told := map[bool]int{}
	for range 20000 {
		kind, d, name := x.text(x.below(23), some), x.digest(), x.text(x.below(31), nameSigns)
		ok := plainKind.MatchString(kind) && plainName.MatchString(name)
		told[ok]++
		if ok {
			makes(t, kind, d, name, plainMake(kind, d, name))
		} else {
			makesNone(t, kind, d, name)
		}
	}
	if told[true] < 5000 || told[false] < 3000 {
		t.Error("too little was tried:", told)
	}
}
