package index_test

import (
	"strings"
	"testing"

	"stillroom/index"
)

// named asks whether a package may have a name.
func named(t *testing.T, s string, want bool) {
	t.Helper()
	if got := index.Name(s); got != want {
		t.Errorf("Name(%.60q): %v, want %v", s, got, want)
	}
}

func TestNames(t *testing.T) {
	for _, s := range someNames() {
		named(t, s, true)
	}
	for _, s := range noNames() {
		named(t, s, false)
	}
}

// TestNameLengths: 1 to 20 bytes.
func TestNameLengths(t *testing.T) {
	for n := range 300 {
		named(t, strings.Repeat("x", n), 1 <= n && n <= 20)
		named(t, "x"+strings.Repeat("-", n), n <= 19)
		named(t, "x"+strings.Repeat("7", n), n <= 19)
	}
}

// TestNameBytes: each byte alone, first, between and last, in a short name and in
// one of 20 bytes.
func TestNameBytes(t *testing.T) {
	for b := range 256 {
		c := string([]byte{byte(b)})
		letter := strings.Contains("abcdefghijklmnopqrstuvwxyz", c)
		other := letter || strings.Contains("0123456789-", c)
		named(t, c, letter)
		named(t, c+"a", letter)
		named(t, c+strings.Repeat("a", 19), letter)
		for at := 1; at < 20; at++ {
			named(t, strings.Repeat("a", at)+c, other)
			named(t, strings.Repeat("a", at)+c+strings.Repeat("z", 19-at), other)
		}
	}
}

func TestNamesPlain(t *testing.T) {
	r := noise(151)
	for range 20000 {
		var b strings.Builder
		for range r.below(24) {
			b.WriteByte("abcz019-abcz019-A_"[r.below(18-2*r.below(2))])
		}
		named(t, b.String(), aName.MatchString(b.String()))
	}
}
