package scan_test

import (
	"slices"
	"strings"
	"testing"
	"unsafe"

	"stillroom/api"
	"stillroom/scan"
)

// All that is told, texts too, is new memory: a piece of a text that was handed
// in would keep the whole of it.

// share tells whether two texts that have bytes lie on one memory.
func share(a, b string) bool {
	return a != "" && b != "" && unsafe.StringData(a) == unsafe.StringData(b)
}

// onNewMemory asks that none of the texts that were told lies where one of those
// lies that were handed in.
func onNewMemory(t *testing.T, what string, told, handed []string) {
	t.Helper()
	for _, s := range told {
		if slices.ContainsFunc(handed, func(h string) bool { return share(s, h) }) {
			t.Errorf("%s: %q lies where it was handed in", what, s)
		}
	}
}

func TestPathsAreNewMemory(t *testing.T) {
	n, _ := rich()
	all := []string{strings.Clone(pathY), strings.Clone(pathX), strings.Clone(pathA)}
	if !share(all[0], all[0]) {
		t.Fatal("nothing is told apart")
	}
	l := scan.Bytes([]byte(signsX+signsY+signsA), all)
	onNewMemory(t, "Bytes", l, all)
	m := scan.Node(n, all)
	onNewMemory(t, "Node", m, all)
	onNewMemory(t, "Node", m, l)
	if len(l) != 3 || len(m) != 3 {
		t.Errorf("%q, %q", l, m)
	}
}

func TestTextsAndNamesAreNewMemory(t *testing.T) {
	long := strings.Clone("bin/" + signsX)
	n := dir(entry{long[:3], dir(entry{long[4:], file("x")})})
	texts := slices.Collect(scan.Texts(n))
	onNewMemory(t, "Texts", texts, []string{long, long[4:]})
	r, e := scan.Replace(n, pathX, pathY)
	if e != api.OK || !slices.Equal(texts, []string{"bin", signsX, "x"}) || !same(r, n) {
		t.Fatalf("%q, %s, %v", texts, short(r), e)
	}
	onNewMemory(t, "Replace", []string{r.Names[0], r.Nodes[0].Names[0]}, []string{long, long[4:]})
}
