package scan_test

import (
	"fmt"
	"slices"
	"strings"
	"testing"

	"stillroom/api"
	"stillroom/scan"
	"stillroom/tree"
)

// P10.2

// rich tells a node that has something of everything, and its texts.
func rich() (n api.Node, texts []string) {
	n = dir(
		entry{signsA, dir(entry{"x", dir(entry{"y", file("é")})})},
		entry{"bin", dir(entry{"run", script("#!" + pathX + "/sh\x00\xff")}, entry{"walk", link(pathY)})},
		entry{"e", dir()},
		entry{"none", file("")},
	)
	texts = []string{
		signsA, "x", "y", "é",
		"bin", "run", "#!" + pathX + "/sh\x00\xff", "walk", pathY,
		"e",
		"none", "",
	}
	return n, texts
}

func TestTextsOfEachKind(t *testing.T) {
	for _, c := range []struct {
		what string
		node api.Node
		want []string
	}{
		{"a File", file("hi"), []string{"hi"}},
		{"a File that is Exec", script("hi\n"), []string{"hi\n"}},
		{"a File without bytes", file(""), []string{""}},
		{"a File of all bytes", file("\x00\x7f\x80\xff"), []string{"\x00\x7f\x80\xff"}},
		{"the greatest File", file(strings.Repeat("x", api.MaxFile)), []string{strings.Repeat("x", api.MaxFile)}},
		{"a Link", link("../to"), []string{"../to"}},
		{"the greatest Link", link(strings.Repeat("l", 1024)), []string{strings.Repeat("l", 1024)}},
		{"a Dir without names", dir(), nil},
		{"a Dir of a Dir", dir(entry{"a", dir()}), []string{"a"}},
		{"a Dir of two", dir(entry{"a", file("1")}, entry{"b", link("2")}), []string{"a", "1", "b", "2"}},
		{"texts alike", dir(entry{"a", file("a")}, entry{"b", dir(entry{"a", link("a")})}), []string{"a", "a", "b", "a", "a"}},
		{"a Dir between", dir(entry{"a", dir(entry{"z", file("1")})}, entry{"b", file("2")}), []string{"a", "z", "1", "b", "2"}},
		{"a long name", dir(entry{strings.Repeat("n", 60), file("1")}), []string{strings.Repeat("n", 60), "1"}},
	} {
		tells(t, c.what, c.node, c.want)
	}
	n, texts := rich()
	tells(t, "a rich one", n, texts)
}

// TestTextsOfTheGreatest: as many nodes and levels as there may be.
func TestTextsOfTheGreatest(t *testing.T) {
	n := wide(api.MaxNodes)
	tells(t, "MaxNodes", n, plainTexts(n))
	if l := plainTexts(n); len(l) != 2*(api.MaxNodes-1) {
		t.Fatal(len(l))
	}
	tells(t, "MaxDepth", under(api.MaxDepth, file("x")), append(slices.Repeat([]string{"d"}, api.MaxDepth-1), "x"))
}

// TestTextsOfWrongNodes: of a node that may not be nothing, though it can be
// gone through.
func TestTextsOfWrongNodes(t *testing.T) {
	for _, w := range append(wrongNodes(signsX), wrong{"nothing", api.Node{}, api.ErrKind}) {
		if e := tree.Right(w.node); e != w.want {
			t.Fatalf("Right(%s): %v", w.what, e)
		}
		texts := scan.Texts(w.node)
		if texts == nil {
			t.Fatalf("Texts(%s): nil", w.what)
		}
		for range 2 {
			for s := range texts {
				t.Errorf("Texts(%s): %.100q", w.what, s)
			}
		}
		findsIn(t, w.what, w.node, []string{pathX}, nil)
		findsIn(t, w.what, w.node, nil, nil)
	}
	// Names of a node that may not be are not looked at either.
	bad := dir(entry{signsX, file(signsX)}, entry{signsX, file("")})
	tells(t, "a name twice", bad, nil)
	findsIn(t, "a name twice", bad, []string{pathX}, nil)
}

// TestTextsLeftAnywhere: it can be left behind each text, and gone through again.
func TestTextsLeftAnywhere(t *testing.T) {
	n, want := rich()
	texts := scan.Texts(n)
	for most := range len(want) + 1 {
		var l []string
		for s := range texts {
			if l = append(l, s); len(l) >= most {
				break
			}
		}
		if !slices.Equal(l, want[:max(1, most)]) {
			t.Errorf("left behind %d: %q", most, l)
		}
		if all := slices.Collect(texts); !slices.Equal(all, want) {
			t.Errorf("again, left behind %d before: %q", most, all)
		}
	}
	// By hand: nothing more is told once it was left.
	for most := 1; most <= len(want); most++ {
		count := 0
		texts(func(string) bool {
			count++
			return count < most
		})
		if count != most {
			t.Errorf("left behind %d: %d were told", most, count)
		}
	}
}

// TestTextsLeftByPanic: whoever goes through it may end by a panic, or a return.
func TestTextsLeftByPanic(t *testing.T) {
	n, want := rich()
	texts := scan.Texts(n)
	func() {
		defer func() {
			if r := recover(); r != "enough" {
				t.Error(r)
			}
		}()
		for range texts {
			panic("enough")
		}
	}()
	first := func() string {
		for s := range texts {
			return s
		}
		return "none"
	}
	if s := first(); s != want[0] {
		t.Errorf("%q", s)
	}
	if l := slices.Collect(texts); !slices.Equal(l, want) {
		t.Errorf("%q", l)
	}
}

// TestTextsWithinThemselves: it can be gone through while it is gone through,
// and two of one node do not hang on each other.
func TestTextsWithinThemselves(t *testing.T) {
	n, want := rich()
	a, b := scan.Texts(n), scan.Texts(n)
	var l []string
	for s := range a {
		l = append(l, s)
		for range a {
			break
		}
		if in := slices.Collect(a); !slices.Equal(in, want) {
			t.Errorf("within: %q", in)
		}
		if in := slices.Collect(b); !slices.Equal(in, want) {
			t.Errorf("another within: %q", in)
		}
	}
	if !slices.Equal(l, want) {
		t.Errorf("%q", l)
	}
}

// TestTextsShareNothing: what becomes of the node later is not told, nor what
// becomes of what was told.
func TestTextsShareNothing(t *testing.T) {
	n, want := rich()
	texts := scan.Texts(n)
	again := clone(n)
	scribble(n)
	for range 2 {
		if l := slices.Collect(texts); !slices.Equal(l, want) {
			t.Errorf("behind a change: %q", l)
		}
	}
	// A change in the midst.
	texts = scan.Texts(again)
	var l []string
	for s := range texts {
		l = append(l, s)
		if len(l) == 3 {
			scribble(again)
		}
	}
	if !slices.Equal(l, want) {
		t.Errorf("in the midst of a change: %q", l)
	}
	// A node that may not be when it was handed in stays one, and one that may
	// be too.
	bad := api.Node{Kind: api.Dir, Names: []string{"b", "a"}, Nodes: []api.Node{file(""), file("")}}
	none := scan.Texts(bad)
	bad.Names[0], bad.Names[1] = "a", "b"
	if l := slices.Collect(none); len(l) != 0 {
		t.Errorf("of one that could not be: %q", l)
	}
	some := scan.Texts(bad)
	bad.Names[0], bad.Names[1] = "b", "a"
	if l := slices.Collect(some); !slices.Equal(l, []string{"a", "", "b", ""}) {
		t.Errorf("of one that could be: %q", l)
	}
}

// TestTextsAndNodeChangeNothing: neither the node nor its spare room, which is
// not read either.
func TestTextsAndNodeChangeNothing(t *testing.T) {
	n, want := rich()
	r := roomy(n, pathOf("z"+signsA[1:], "z"))
	all := []string{pathOf("z"+signsA[1:], "z"), pathX, pathY, pathA}
	for range 2 {
		tells(t, "with spare room", r, want)
		findsIn(t, "with spare room", r, all, []string{pathX, pathA, pathY})
	}
	if !same(r, n) || !isRoomy(r, pathOf("z"+signsA[1:], "z")) {
		t.Error("the node has changed")
	}
}

// TestNodeOfEachKind: signs in a file, in a link, and in a name.
func TestNodeOfEachKind(t *testing.T) {
	all := []string{pathY, pathX, pathA}
	name := "n-" + signsX + "-n"
	for _, c := range []struct {
		what string
		node api.Node
		want []string
	}{
		{"a File", file("x" + signsX), []string{pathX}},
		{"a File that is Exec", script("#!" + pathY + "/bin/sh\n"), []string{pathY}},
		{"a File of both", file(signsY + signsX), []string{pathX, pathY}},
		{"a File without bytes", file(""), nil},
		{"the greatest File", file(strings.Repeat("0", api.MaxFile-32) + signsX), []string{pathX}},
		{"a Link", link(pathX + "/bin"), []string{pathX}},
		{"the greatest Link", link(strings.Repeat("/", 1024-32) + signsY), []string{pathY}},
		{"a Dir without names", dir(), nil},
		{"a name", dir(entry{signsX, file("")}), []string{pathX}},
		{"a longer name", dir(entry{name, file("")}), []string{pathX}},
		{"a name of a Link", dir(entry{name, link("x")}), []string{pathX}},
		{"a name of a Dir", dir(entry{name, dir()}), []string{pathX}},
		{"a name and a File", dir(entry{name, file(signsY)}), []string{pathX, pathY}},
		{"a File and a name", dir(entry{"a", file(signsA)}, entry{name, file("")}), []string{pathX, pathA}},
		{"three", dir(entry{"a", file(signsY)}, entry{"b", link(signsA)}, entry{name, dir()}), []string{pathX, pathA, pathY}},
		{"one in all", dir(entry{"a", file(signsX)}, entry{"b", link(signsX)}, entry{name, dir(entry{name, file(signsX)})}), []string{pathX}},
	} {
		findsIn(t, c.what, c.node, all, c.want)
		findsIn(t, c.what, c.node, append(all, all...), c.want)
		findsIn(t, c.what, c.node, nil, nil)
		findsIn(t, c.what, c.node, wrongPaths(signsX), nil)
	}
}

// TestNodeLists: paths that do not rise, come twice, or have the same signs.
func TestNodeLists(t *testing.T) {
	n, _ := rich()
	other := pathOf(signsX, "a")
	findsIn(t, "a rich one", n, []string{pathY, "", pathX, "/x", pathA, other, pathX, pathY}, []string{other, pathX, pathA, pathY})
	findsIn(t, "a rich one", n, []string{pathOf("z"+signsX[1:], "a")}, nil)
}

// TestNodeAtAnyDepth: signs in a name, a file and a link at each level.
func TestNodeAtAnyDepth(t *testing.T) {
	all := []string{pathX, pathY}
	for levels := 1; levels <= api.MaxDepth; levels++ {
		what := fmt.Sprintf("%d levels", levels)
		findsIn(t, what, under(levels, file("x"+signsX)), all, []string{pathX})
		findsIn(t, what, under(levels, link(signsY+"/")), all, []string{pathY})
		findsIn(t, what, under(levels, file(signsX[1:])), all, nil)
		if levels > 1 {
			findsIn(t, what, under(levels-1, dir(entry{"n" + signsX, file(signsY)})), all, all)
			// The last of a Dir, behind Dirs.
			findsIn(t, what, under(levels-1, dir(entry{"a", file("")}, entry{"b", link(signsY)})), all, []string{pathY})
		}
	}
	findsIn(t, "too deep", under(api.MaxDepth+1, file(signsX)), all, nil)
	many := wide(api.MaxNodes)
	many.Nodes[api.MaxNodes-2] = file(signsX)
	findsIn(t, "the last of many", many, all, []string{pathX})
	many = wide(api.MaxNodes + 1)
	many.Nodes[0] = file(signsX)
	findsIn(t, "too many", many, all, nil)
}

// TestNodeTextByText: signs of which a part stands at the end of one text, and
// the rest at the beginning of the next one, do not occur.
func TestNodeTextByText(t *testing.T) {
	paths := []string{pathX}
	for at := 1; at < 32; at++ {
		head, tail := signsX[:at], signsX[at:]
		for what, n := range map[string]api.Node{
			"name and File":        dir(entry{head, file(tail)}),
			"name and Link":        dir(entry{head, link(tail)}),
			"name and name":        dir(entry{head, dir(entry{tail, file("")})}),
			"File and name":        dir(entry{"!", file(head)}, entry{tail, file("")}),
			"Link and name":        dir(entry{"!", link(head)}, entry{tail, file("")}),
			"File and File":        dir(entry{"a", file(head)}, entry{"b", file(tail)}),
			"File and Link":        dir(entry{"a", file(head)}, entry{"b", link(tail)}),
			"File and beneath":     dir(entry{"a", file(head)}, entry{"b", dir(entry{"c", file(tail)})}),
			"beneath and the next": dir(entry{"!", dir(entry{"c", file(head)})}, entry{tail, file("")}),
			"a name around":        dir(entry{"n" + head, file(tail + "n")}),
		} {
			findsIn(t, what, n, paths, nil)
		}
		findsIn(t, "both in one", dir(entry{head, file(head + tail)}), paths, paths)
	}
}

// TestNodeShareNothing: the lists that are told are new.
func TestNodeShareNothing(t *testing.T) {
	n, _ := rich()
	held, paths := clone(n), []string{pathY, pathX}
	first := scan.Node(n, paths)
	second := scan.Node(n, paths)
	for i := range first[:cap(first)] {
		first[:cap(first)][i] = "!"
	}
	paths[0], paths[1] = "!", "!"
	if !slices.Equal(second, []string{pathX, pathY}) {
		t.Errorf("%q", second)
	}
	if !same(n, held) {
		t.Error("the node has changed")
	}
}

// TestNodeRandom holds many nodes against the plain reading.
func TestNodeRandom(t *testing.T) {
	x := noise(103)
	told := map[int]int{}
	for range 4000 {
		paths := x.paths()
		// All that stands in bytes here could stand in names too.
		of := []string{"x"}
		for _, p := range paths {
			if plainPath.MatchString(p) {
				of = append(of, p[7:])
			}
		}
		n := x.node(4, of)
		if e := tree.Right(n); e != api.OK {
			t.Fatal(short(n), e)
		}
		held, texts := clone(n), plainTexts(n)
		tells(t, "random", n, texts)
		want := plainFound(texts, paths)
		told[min(2, len(want))]++
		findsIn(t, "random", n, paths, want)
		if !same(n, held) {
			t.Fatal("the node has changed")
		}
	}
	if told[0] < 500 || told[1] < 500 || told[2] < 500 {
		t.Error("too little was tried:", told)
	}
}
