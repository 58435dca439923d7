package path_test

import (
	"crypto/sha256"
	"encoding/base32"
	"regexp"
	"strings"
	"testing"

	"stillroom/api"
	"stillroom/path"
)

// What names and paths consist of, as the chapter says it.
const (
	signs     = "0123456789abcdfghijklmnpqrsvwxyz"
	nameSigns = "abcdefghijklmnopqrstuvwxyzABCDEFGHIJKLMNOPQRSTUVWXYZ0123456789+-._"
	noughts   = "00000000000000000000000000000000"
)

// A plain reading of the chapter, by other means than the program's.
var (
	plainName = regexp.MustCompile(`^[a-zA-Z0-9+_-][a-zA-Z0-9+._-]{0,26}$`)
	plainKind = regexp.MustCompile(`^(?s:[^:]{1,20})$`)
	plainPath = regexp.MustCompile(`^/store/([` + signs + `]{32})-([a-zA-Z0-9+_-][a-zA-Z0-9+._-]{0,26})$`)
	plainText = base32.NewEncoding(signs).WithPadding(base32.NoPadding)
)

// plainMake tells the path of a kind and a name that may be.
func plainMake(kind string, d api.Digest, name string) string {
	long := sha256.Sum256([]byte(kind + ":" + plainText.EncodeToString(d[:]) + ":" + name))
	short := make([]byte, 20)
	for i, c := range long {
		short[i%20] ^= c
	}
	return "/store/" + plainText.EncodeToString(short) + "-" + name
}

// noise tells numbers that are alike in every run.
type noise uint64

func (x *noise) next() uint64 {
	*x ^= *x << 13
	*x ^= *x >> 7
	*x ^= *x << 17
	return uint64(*x) >> 16
}

func (x *noise) below(n int) int { return int(x.next() % uint64(n)) }

// text tells so many bytes, each one of these.
func (x *noise) text(n int, of string) string {
	b := make([]byte, n)
	for i := range b {
		b[i] = of[x.below(len(of))]
	}
	return string(b)
}

func (x *noise) name() string {
	s := x.text(1+x.below(27), nameSigns)
	if s[0] == '.' {
		return "_" + s[1:]
	}
	return s
}

func (x *noise) digest() (d api.Digest) {
	for i := range d {
		d[i] = byte(x.next())
	}
	return d
}

// allBytes tells the bytes 0 to 255, each as a text.
func allBytes() (l []string) {
	for c := range 256 {
		l = append(l, string([]byte{byte(c)}))
	}
	return l
}

// full tells a digest of this byte alone.
func full(c byte) (d api.Digest) {
	for i := range d {
		d[i] = c
	}
	return d
}

// makes asks that this path is made, and that it is split again.
func makes(t *testing.T, kind string, d api.Digest, name, want string) {
	t.Helper()
	got, e := path.Make(kind, d, name)
	if got != want || e != api.OK {
		t.Errorf("Make(%q, %x, %q): %q, %v, want %q", kind, d, name, got, e, want)
	}
	splits(t, got, strings.TrimSuffix(strings.TrimPrefix(want, "/store/"), "-"+name), name)
}

// makesNone asks that nothing is made.
func makesNone(t *testing.T, kind string, d api.Digest, name string) {
	t.Helper()
	if got, e := path.Make(kind, d, name); got != "" || e != api.ErrName {
		t.Errorf("Make(%q, %x, %q): %q, %v, want ErrName", kind, d, name, got, e)
	}
}

// splits asks that a path is split so.
func splits(t *testing.T, s, wantSigns, wantName string) {
	t.Helper()
	got, name, e := path.Split(s)
	if got != wantSigns || name != wantName || e != api.OK {
		t.Errorf("Split(%q): %q, %q, %v, want %q, %q", s, got, name, e, wantSigns, wantName)
	}
	if base := path.Base(s); base != wantSigns+"-"+wantName || "/store/"+base != s {
		t.Errorf("Base(%q): %q", s, base)
	}
}

// splitsNot asks that something is no path.
func splitsNot(t *testing.T, s string) {
	t.Helper()
	if got, name, e := path.Split(s); got != "" || name != "" || e != api.ErrName {
		t.Errorf("Split(%.100q): %q, %q, %v, want ErrName", s, got, name, e)
	}
	if base := path.Base(s); base != "" {
		t.Errorf("Base(%.100q): %q, want nothing", s, base)
	}
}

// splitsAsPlain holds Split and Base against the plain reading, and tells
// whether it is a path.
func splitsAsPlain(t *testing.T, s string) bool {
	t.Helper()
	m := plainPath.FindStringSubmatch(s)
	if m == nil {
		splitsNot(t, s)
		return false
	}
	splits(t, s, m[1], m[2])
	return true
}
