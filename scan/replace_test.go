package scan_test

import (
	"fmt"
	"strings"
	"testing"

	"stillroom/api"
	"stillroom/scan"
	"stillroom/tree"
)

// P10.3

func TestReplaceOfEachKind(t *testing.T) {
	for _, c := range []struct {
		what       string
		node, want api.Node
	}{
		{"a File", file("x" + signsX + "y"), file("x" + signsY + "y")},
		{"a File of a path", file(pathX + "/bin"), file("/store/" + signsY + "-x/bin")},
		{"a File that is Exec", script("#!" + signsX), script("#!" + signsY)},
		{"the signs alone", file(signsX), file(signsY)},
		{"at the beginning", file(signsX + " "), file(signsY + " ")},
		{"at the end", file(" " + signsX), file(" " + signsY)},
		{"twice", file(signsX + signsX), file(signsY + signsY)},
		{"thrice", file(signsX + "0" + signsX + "\x00" + signsX + "1"), file(signsY + "0" + signsY + "\x00" + signsY + "1")},
		{"what stands there already", file(signsY + signsX + signsY), file(signsY + signsY + signsY)},
		{"none", file("none"), file("none")},
		{"thirty-one", file(signsX[1:] + " " + signsX[:31]), file(signsX[1:] + " " + signsX[:31])},
		{"capitals", file(strings.ToUpper(signsX)), file(strings.ToUpper(signsX))},
		{"no bytes", file(""), file("")},
		{"no bytes that are Exec", script(""), script("")},
		{"a Link", link(pathX), link("/store/" + signsY + "-x")},
		{"a Link without", link("x"), link("x")},
		{"a Dir without names", dir(), dir()},
		{"a name", dir(entry{signsX, file(signsX)}), dir(entry{signsX, file(signsY)})},
		{"a name of a Dir", dir(entry{"n" + signsX, dir(entry{signsX, link(signsX)})}), dir(entry{"n" + signsX, dir(entry{signsX, link(signsY)})})},
		{"two texts", dir(entry{"a", file(signsX[:16])}, entry{"b", file(signsX[16:])}), dir(entry{"a", file(signsX[:16])}, entry{"b", file(signsX[16:])})},
		{"all of them", dir(entry{"a", script(signsX)}, entry{"b", link(signsX)}, entry{"c", dir(entry{"d", file(signsX)}, entry{"e", file(signsA)})}),
			dir(entry{"a", script(signsY)}, entry{"b", link(signsY)}, entry{"c", dir(entry{"d", file(signsY)}, entry{"e", file(signsA)})})},
	} {
		replaces(t, c.what, c.node, pathX, pathY, c.want)
		// No path that is spoken of: the node as it is.
		replaces(t, c.what, c.node, pathOf(signsX[1:]+"z", "x"), pathY, c.node)
	}
}

// TestReplaceNames: it hangs on no name of the paths.
func TestReplaceNames(t *testing.T) {
	for _, name := range []string{"a", "-", "hello-1.0", strings.Repeat("n", 27)} {
		replaces(t, name, file(pathX), pathOf(signsX, name), pathOf(signsY, "other"), file("/store/"+signsY+"-x"))
	}
}

// TestReplaceLeft: from the left on, not overlapping, and what was put there is
// not looked at again.
func TestReplaceLeft(t *testing.T) {
	for n := range 200 {
		want := strings.Repeat(signsX, n/32) + strings.Repeat("a", n%32)
		replaces(t, fmt.Sprint(n), file(strings.Repeat("a", n)), pathA, pathX, file(want))
		replaces(t, fmt.Sprint(n), file("b"+strings.Repeat("a", n)+"b"), pathA, pathX, file("b"+want+"b"))
		if n > 0 {
			replaces(t, fmt.Sprint(n), link(strings.Repeat("a", n)), pathA, pathX, link(want))
		}
	}
	// Signs that overlap themselves by one, by two, and by half.
	one, two, half := "z"+signsX[:30]+"z", "0b"+signsY[:28]+"0b", signsX[:16]+signsX[:16]
	for _, c := range []struct{ from, text, want string }{
		{one, one + one[1:], signsY + one[1:]},
		{one, one + one[1:] + one[1:], signsY + one[1:31] + signsY},
		{one, one + one, signsY + signsY},
		{two, two + two[2:], signsY + two[2:]},
		{two, "0b" + two, "0b" + signsY},
		{half, half + half[:16], signsY + half[:16]},
		{half, half + half[:15], signsY + half[:15]},
		{half, half[:16] + half[:16] + half[:16] + half[:16], signsY + signsY},
		{half, half[1:] + half, half[1:16] + signsY + half[:16]},
	} {
		replaces(t, c.text, file(c.text), pathOf(c.from, "f"), pathY, file(c.want))
	}
}

// TestReplaceAnew: what makes the signs anew stays as it is.
func TestReplaceAnew(t *testing.T) {
	as := signsA[:31]
	for _, c := range []struct{ from, to, text, want string }{
		{as + "b", signsA, as + "b" + "b", signsA + "b"},
		{"b" + as, signsA, "b" + "b" + as, "b" + signsA},
		{as + "b", "b" + as, as + "b" + "b", "b" + as + "b"},
		{"b" + as, as + "b", "b" + as + as, as + "b" + as},
	} {
		from, to := pathOf(c.from, "f"), pathOf(c.to, "t")
		replaces(t, c.text, file(c.text), from, to, file(c.want))
		findsIn(t, c.want, file(c.want), []string{from}, []string{from})
		findsIn(t, c.want, file(c.want), []string{to}, []string{to})
	}
}

// TestReplaceAlike: with signs that are alike nothing changes.
func TestReplaceAlike(t *testing.T) {
	n, _ := rich()
	for _, p := range []string{pathX, pathY, pathA} {
		replaces(t, "alike", n, p, p, n)
		replaces(t, "alike but for the name", n, p, p+"-more", n)
		r, _ := scan.Replace(n, p, p+"-more")
		findsIn(t, "alike", r, []string{p}, []string{p})
	}
}

// TestReplaceGreatest: as many bytes, nodes and levels as there may be.
func TestReplaceGreatest(t *testing.T) {
	replaces(t, "MaxFile", file(strings.Repeat(signsX, api.MaxFile/32)), pathX, pathY, file(strings.Repeat(signsY, api.MaxFile/32)))
	replaces(t, "MaxFile", file(strings.Repeat("a", api.MaxFile)), pathA, pathY, file(strings.Repeat(signsY, api.MaxFile/32)))
	replaces(t, "1024", link(strings.Repeat(signsX, 32)), pathX, pathY, link(strings.Repeat(signsY, 32)))
	for levels := 1; levels <= api.MaxDepth; levels++ {
		replaces(t, fmt.Sprint(levels), under(levels, file("x"+signsX)), pathX, pathY, under(levels, file("x"+signsY)))
		replaces(t, fmt.Sprint(levels), under(levels, link(signsX)), pathX, pathY, under(levels, link(signsY)))
	}
	n, want := wide(api.MaxNodes), wide(api.MaxNodes)
	for i := range n.Nodes {
		n.Nodes[i], want.Nodes[i] = file(fmt.Sprint(i)+signsX), file(fmt.Sprint(i)+signsY)
	}
	replaces(t, "MaxNodes", n, pathX, pathY, want)
}

// TestReplaceNoPaths: from or to, or both, that are no path.
func TestReplaceNoPaths(t *testing.T) {
	n, _ := rich()
	wrongs := append(wrongPaths(signsX), "", "/x", "/store/", "/")
	for _, p := range wrongs {
		replacesNot(t, "from", n, p, pathY, api.ErrName)
		replacesNot(t, "to", n, pathX, p, api.ErrName)
		replacesNot(t, "both", n, p, p, api.ErrName)
		for _, q := range wrongs {
			replacesNot(t, "both", n, p, q, api.ErrName)
		}
		// Though nothing would have to be replaced.
		replacesNot(t, "to", file(""), pathX, p, api.ErrName)
		replacesNot(t, "to", dir(), pathX, p, api.ErrName)
	}
}

// TestReplaceWrongNodes: nodes that may not be, and what is told where a path is
// none besides.
func TestReplaceWrongNodes(t *testing.T) {
	for _, w := range append(wrongNodes(signsX), wrong{"nothing", api.Node{}, api.ErrKind}) {
		replacesNot(t, w.what, w.node, pathX, pathY, w.want)
		replacesNot(t, w.what, w.node, pathX, pathX, w.want)
		replacesNot(t, w.what, w.node, pathA, pathY, w.want)
		for _, p := range []string{"", "/x", signsX, pathX + "/"} {
			replacesNot(t, w.what, w.node, p, pathY, api.ErrName)
			replacesNot(t, w.what, w.node, pathX, p, api.ErrName)
			replacesNot(t, w.what, w.node, p, p, api.ErrName)
		}
	}
	// Which of several is told of the node, tree.Right says.
	replacesNot(t, "a kind, then bytes", dir(entry{"a", api.Node{Kind: 9}}, entry{"b", link("")}), pathX, pathY, api.ErrKind)
	replacesNot(t, "bytes, then a kind", dir(entry{"a", link("")}, entry{"b", api.Node{Kind: 9}}), pathX, pathY, api.ErrArg)
	replacesNot(t, "too deep besides", dir(entry{"/", under(api.MaxDepth, link(""))}), pathX, pathY, api.ErrBig)
}

// TestReplaceShareNothing: what is told and what was handed in can be changed
// without the other one, spare room too.
func TestReplaceShareNothing(t *testing.T) {
	n, _ := rich()
	for _, c := range []struct{ from, to string }{{pathX, pathY}, {pathX, pathX}, {pathOf("z"+signsA[1:], "z"), pathY}} {
		spare := pathX
		handed := roomy(n, spare)
		first, e := scan.Replace(handed, c.from, c.to)
		second, _ := scan.Replace(handed, c.from, c.to)
		want := plainReplace(n, c.from[7:39], c.to[7:39])
		if e != api.OK || !same(first, want) || !same(second, want) {
			t.Fatalf("%s, %v", short(first), e)
		}
		if hasSpare(first) {
			t.Error("spare room was handed out")
		}
		scribble(first)
		if !same(handed, n) || !isRoomy(handed, spare) || !same(second, want) {
			t.Error("what was told is shared")
		}
		scribble(handed)
		if !same(second, want) {
			t.Error("what was handed in is kept")
		}
	}
}

// hasSpare tells whether anything lies behind a list of a node.
func hasSpare(n api.Node) bool {
	for _, c := range n.Data[len(n.Data):cap(n.Data)] {
		if c != 0 {
			return true
		}
	}
	for _, s := range n.Names[len(n.Names):cap(n.Names)] {
		if s != "" {
			return true
		}
	}
	for i, kid := range n.Nodes[:cap(n.Nodes)] {
		if i >= len(n.Nodes) && kid.Kind != 0 || hasSpare(kid) {
			return true
		}
	}
	return false
}

// TestReplaceNodesOnce: two nodes on one memory become two on their own.
func TestReplaceNodesOnce(t *testing.T) {
	one := dir(entry{"a", file(signsX)})
	r, e := scan.Replace(dir(entry{"x", one}, entry{"y", one}), pathX, pathY)
	if e != api.OK {
		t.Fatal(e)
	}
	scribble(r.Nodes[0])
	if want := dir(entry{"a", file(signsY)}); !same(r.Nodes[1], want) {
		t.Error("two lists share their memory")
	}
	// One memory for the bytes, each a piece of it, one behind the other.
	data := []byte(signsX + signsX)
	two := dir(entry{"a", api.Node{Kind: api.File, Data: data[:32]}}, entry{"b", api.Node{Kind: api.File, Data: data[32:]}})
	replaces(t, "one memory", two, pathX, pathY, dir(entry{"a", file(signsY)}, entry{"b", file(signsY)}))
	replaces(t, "one memory", two, pathA, pathY, two)
	if string(data) != signsX+signsX {
		t.Errorf("%q", data)
	}
}

// lengthsStay asks that two nodes differ in nothing but in which bytes they
// have.
func lengthsStay(t *testing.T, a, b api.Node) {
	t.Helper()
	if a.Kind != b.Kind || a.Exec != b.Exec || len(a.Data) != len(b.Data) || strings.Join(a.Names, "/") != strings.Join(b.Names, "/") || len(a.Nodes) != len(b.Nodes) {
		t.Fatalf("%s became %s", short(a), short(b))
	}
	for i := range a.Nodes {
		lengthsStay(t, a.Nodes[i], b.Nodes[i])
	}
}

// TestReplaceRandom holds many nodes against the plain reading.
func TestReplaceRandom(t *testing.T) {
	x := noise(104)
	changed := 0
	for range 4000 {
		var right, of []string
		for _, p := range append(x.paths(), pathX, pathA) {
			if plainPath.MatchString(p) {
				right, of = append(right, p), append(of, p[7:])
			}
		}
		n := x.node(4, of)
		from, to := right[x.below(len(right))], right[x.below(len(right))]
		want := plainReplace(n, from[7:39], to[7:39])
		replaces(t, "random", n, from, to, want)
		r, _ := scan.Replace(n, from, to)
		lengthsStay(t, n, r)
		if e := tree.Right(r); e != api.OK {
			t.Fatal(short(r), e)
		}
		if !same(r, n) {
			changed++
		}
	}
	if changed < 1000 {
		t.Error("too little was tried:", changed)
	}
}

// P10.4

// bytesAndNames tells the texts of a node that are bytes, and those that are
// names.
func bytesAndNames(n api.Node) (data, names []string) {
	data, names = append(data, string(n.Data)), append(names, n.Names...)
	for _, kid := range n.Nodes {
		d, l := bytesAndNames(kid)
		data, names = append(data, d...), append(names, l...)
	}
	return data, names
}

// TestReplacedIsNotFound: signs that have none in common with the others can't
// be made anew: they are not found any more but in names, and the others are
// found where something was replaced.
func TestReplacedIsNotFound(t *testing.T) {
	x := noise(105)
	told := map[string]int{}
	for range 4000 {
		from := pathOf(x.text(32, signs[:1+x.below(3)]), "f")
		to := pathOf(x.text(32, signs[20:20+1+x.below(3)]), "t")
		n := x.node(4, []string{from[7:], from[7:39], from[7:38], "x", "abc"})
		data, names := bytesAndNames(n)
		var want []string
		if len(plainFound(names, []string{from})) > 0 {
			want = append(want, from)
			told["named"]++
		}
		if len(plainFound(data, []string{from})) > 0 {
			want = append(want, to)
			told["replaced"]++
		}
		r, e := scan.Replace(n, from, to)
		if e != api.OK {
			t.Fatal(short(n), e)
		}
		findsIn(t, "replaced", r, []string{to, from}, want)
	}
	if told["replaced"] < 1000 || told["named"] < 500 {
		t.Error("too little was tried:", told)
	}
}

// TestReplacedBack: what is replaced by signs that were nowhere, and those by
// the first ones, is the node again.
func TestReplacedBack(t *testing.T) {
	n, _ := rich()
	fresh := pathOf(strings.Repeat("z", 32), "z")
	for _, p := range []string{pathX, pathY, pathA} {
		r, e := scan.Replace(n, p, fresh)
		if e != api.OK {
			t.Fatal(e)
		}
		replaces(t, "back", r, fresh, p, n)
	}
	r, _ := scan.Replace(n, pathX, fresh)
	findsIn(t, "replaced", r, []string{pathX, pathY, pathA, fresh}, []string{pathA, pathY, fresh})
	// A's signs stand in a name alone.
	r, _ = scan.Replace(n, pathA, fresh)
	findsIn(t, "in a name", r, []string{pathX, pathY, pathA, fresh}, []string{pathX, pathA, pathY})
}
