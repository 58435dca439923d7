package tree_test

import (
	"fmt"
	"math"
	"slices"
	"strings"
	"testing"

	"stillroom/api"
	"stillroom/tree"
)

// texts tells texts that are names, and such that are none.
func texts() (names, none []string) {
	names = []string{"a", "!", "~", "-", "0", "A", "\\", "...", "....", ".a", "..a", "a.", "a..", ".-", "..-", "a.b", "!~", strings.Repeat("n", api.MaxName-1), strings.Repeat("n", api.MaxName), strings.Repeat(".", api.MaxName)}
	none = []string{"", ".", "..", "/", "a/b", "/a", "a/", "./", " ", "a b", " a", "a ", "\x7f", "a\x7f", "\x00", "a\x00", "\n", "\x1f", "\x80", "\xff", "é", strings.Repeat("n", api.MaxName+1), strings.Repeat("n", 2*api.MaxName), strings.Repeat("n", 256), strings.Repeat("n", 257)}
	for c := range 256 {
		s := string([]byte{byte(c)})
		if c >= 33 && c <= 126 && c != '/' {
			names = append(names, s+"x", "x"+s, "x"+s+"x")
		} else {
			none = append(none, s, s+"x", "x"+s, "x"+s+"x")
		}
	}
	return names, none
}

func right(t *testing.T, what string, n api.Node, want api.Errno) {
	t.Helper()
	if e := tree.Right(n); e != want {
		t.Errorf("Right(%s): %v, want %v", what, e, want)
	}
	if s := tree.Sectors(n); (s > 0) != (want == api.OK) || s < 0 {
		t.Errorf("Sectors(%s): %d, though Right is %v", what, s, want)
	}
}

func TestRightOfNames(t *testing.T) {
	names, none := texts()
	for _, s := range names {
		right(t, fmt.Sprintf("name %q", s), dir(entry{s, file("")}), api.OK)
	}
	for _, s := range none {
		right(t, fmt.Sprintf("name %q", s), dir(entry{s, file("")}), api.ErrName)
	}
}

func TestRightOfOrder(t *testing.T) {
	for _, c := range []struct {
		names []string
		want  api.Errno
	}{
		{[]string{"a", "b"}, api.OK},
		{[]string{"a", "aa", "ab", "b"}, api.OK},
		{[]string{"A", "Z", "a", "z"}, api.OK},
		{[]string{"!", "-", ".a", "0", "~"}, api.OK},
		{[]string{"10", "9"}, api.OK},
		{[]string{"a", "a"}, api.ErrName},
		{[]string{"b", "a"}, api.ErrName},
		{[]string{"aa", "a"}, api.ErrName},
		{[]string{"a", "B"}, api.ErrName},
		{[]string{"a", "c", "b"}, api.ErrName},
		{[]string{"a", "b", "b"}, api.ErrName},
		{[]string{"a", "b", "a"}, api.ErrName},
		{[]string{"a", "b", ""}, api.ErrName},
		{[]string{"", "a"}, api.ErrName},
		{[]string{".", "a"}, api.ErrName},
		{[]string{"a", "b/"}, api.ErrName},
	} {
		n := dir()
		for _, s := range c.names {
			n.Names, n.Nodes = append(n.Names, s), append(n.Nodes, file(""))
		}
		right(t, fmt.Sprintf("names %q", c.names), n, c.want)
	}
}

func TestRightOfKinds(t *testing.T) {
	one, names := []api.Node{file("")}, []string{"a"}
	for _, c := range []struct {
		what string
		node api.Node
		want api.Errno
	}{
		{"File", api.Node{Kind: api.File}, api.OK},
		{"File of empty lists", api.Node{Kind: api.File, Data: []byte{}, Names: []string{}, Nodes: []api.Node{}}, api.OK},
		{"File, Exec", script("x"), api.OK},
		{"File, Exec, without bytes", script(""), api.OK},
		{"File with Names", api.Node{Kind: api.File, Names: names}, api.ErrKind},
		{"File with Nodes", api.Node{Kind: api.File, Nodes: one}, api.ErrKind},
		{"File with both", api.Node{Kind: api.File, Names: names, Nodes: one}, api.ErrKind},
		{"Link", link("x"), api.OK},
		{"Link of any bytes", link("\x00\xff / .. \n"), api.OK},
		{"Link of empty lists", api.Node{Kind: api.Link, Data: []byte("x"), Names: []string{}, Nodes: []api.Node{}}, api.OK},
		{"Link, Exec", api.Node{Kind: api.Link, Exec: true, Data: []byte("x")}, api.ErrKind},
		{"Link with Names", api.Node{Kind: api.Link, Data: []byte("x"), Names: names}, api.ErrKind},
		{"Link with Nodes", api.Node{Kind: api.Link, Data: []byte("x"), Nodes: one}, api.ErrKind},
		{"Link with both", api.Node{Kind: api.Link, Data: []byte("x"), Names: names, Nodes: one}, api.ErrKind},
		{"Dir", dir(), api.OK},
		{"Dir of empty lists", api.Node{Kind: api.Dir, Data: []byte{}, Names: []string{}, Nodes: []api.Node{}}, api.OK},
		{"Dir, Exec", api.Node{Kind: api.Dir, Exec: true}, api.ErrKind},
		{"Dir with bytes", api.Node{Kind: api.Dir, Data: []byte{0}}, api.ErrKind},
		{"Dir with more Names", api.Node{Kind: api.Dir, Names: []string{"a", "b"}, Nodes: one}, api.ErrKind},
		{"Dir with more Nodes", api.Node{Kind: api.Dir, Names: names, Nodes: []api.Node{file(""), file("")}}, api.ErrKind},
		{"Dir with Names alone", api.Node{Kind: api.Dir, Names: names}, api.ErrKind},
		{"Dir with Nodes alone", api.Node{Kind: api.Dir, Nodes: one}, api.ErrKind},
		{"no kind", api.Node{}, api.ErrKind},
		{"no kind with bytes", api.Node{Data: []byte("x")}, api.ErrKind},
	} {
		right(t, c.what, c.node, c.want)
		right(t, "within a Dir: "+c.what, dir(entry{"a", file("")}, entry{"b", c.node}), c.want)
		right(t, "deep within: "+c.what, dir(entry{"a", dir(entry{"b", dir(entry{"c", c.node})})}, entry{"b", link("x")}), c.want)
	}
	for _, kind := range []int{math.MinInt, -1, 0, 4, 5, 256 + api.File, 256 + api.Dir, 1<<32 + api.File, math.MaxInt} {
		right(t, fmt.Sprintf("kind %d", kind), api.Node{Kind: kind}, api.ErrKind)
	}
}

func TestRightOfBytes(t *testing.T) {
	for size, want := range map[int]api.Errno{0: api.OK, 1: api.OK, 255: api.OK, 256: api.OK, 257: api.OK, 1024: api.OK, 1025: api.OK,
		api.MaxFile - 1: api.OK, api.MaxFile: api.OK, api.MaxFile + 1: api.ErrBig, 1 << 16: api.ErrBig, 1<<16 + 5: api.ErrBig} {
		right(t, fmt.Sprintf("File of %d", size), fileOf(size), want)
	}
	for size, want := range map[int]api.Errno{0: api.ErrArg, 1: api.OK, 255: api.OK, 256: api.OK, 257: api.OK, 1023: api.OK, 1024: api.OK, 1025: api.ErrBig,
		api.MaxFile: api.ErrBig, api.MaxFile + 1: api.ErrBig} {
		right(t, fmt.Sprintf("Link of %d", size), api.Node{Kind: api.Link, Data: make([]byte, size)}, want)
	}
}

func TestRightOfEntries(t *testing.T) {
	for bytes, want := range map[int]api.Errno{63: api.OK, 70: api.OK, 256: api.OK, 257: api.OK, api.MaxFile - 1: api.OK, api.MaxFile: api.OK, api.MaxFile + 1: api.ErrBig, api.MaxFile + 63: api.ErrBig} {
		n := full(bytes)
		sum := 0
		for _, name := range n.Names {
			sum += len(name) + 3
		}
		if sum != bytes {
			t.Fatalf("full(%d) has %d", bytes, sum)
		}
		right(t, fmt.Sprintf("entries of %d", bytes), n, want)
	}
	// One name alone may be too many bytes, and is none besides.
	right(t, "a very long name", dir(entry{strings.Repeat("n", api.MaxFile-3), file("")}), api.ErrName)
	right(t, "a longer one", dir(entry{strings.Repeat("n", api.MaxFile-2), file("")}), api.ErrBig)
}

func TestRightOfCountsAndLevels(t *testing.T) {
	right(t, "MaxNodes", wide(api.MaxNodes), api.OK)
	right(t, "one more", wide(api.MaxNodes+1), api.ErrBig)
	right(t, "MaxNodes in two", dir(entry{"a", wide(500)}, entry{"b", wide(api.MaxNodes - 501)}), api.OK)
	right(t, "one more in two", dir(entry{"a", wide(500)}, entry{"b", wide(api.MaxNodes - 500)}), api.ErrBig)
	right(t, "MaxDepth", chain(api.MaxDepth), api.OK)
	right(t, "one more", chain(api.MaxDepth+1), api.ErrBig)
	right(t, "much more", chain(5000), api.ErrBig)
	right(t, "MaxDepth in the last", dir(entry{"a", file("")}, entry{"b", chain(api.MaxDepth - 1)}), api.OK)
	right(t, "one more in the last", dir(entry{"a", file("")}, entry{"b", chain(api.MaxDepth)}), api.ErrBig)
	// As many as there may be on as many levels as there may be.
	n := wide(api.MaxNodes - api.MaxDepth + 2)
	for range api.MaxDepth - 2 {
		n = dir(entry{"d", n})
	}
	right(t, "both at their limits", n, api.OK)
}

func TestRightOfNodesWithinThemselves(t *testing.T) {
	for _, width := range []int{1, 2, 3, 1000, 5000} {
		list := make([]api.Node, width)
		names := wide(width + 1).Names
		for i := range list {
			list[i] = api.Node{Kind: api.Dir, Names: names, Nodes: list}
		}
		right(t, fmt.Sprintf("%d within themselves", width), list[0], api.ErrBig)
		x, d := newTree(t, 20)
		failsPut(t, x, d, "/a", list[0], api.ErrBig)
	}
}

// Which error is told where several apply.

func TestRightTellsTheFirst(t *testing.T) {
	many, deep := wide(api.MaxNodes+1), chain(api.MaxDepth+1)
	kind, big, arg := api.Node{Kind: 9}, fileOf(api.MaxFile+1), link("")
	name := dir(entry{"/", file("")})
	at := func(l ...api.Node) api.Node { // each one in its place
		n := dir()
		for i, kid := range l {
			n.Names, n.Nodes = append(n.Names, fmt.Sprintf("n%d", i)), append(n.Nodes, kid)
		}
		return n
	}
	manyOf := func(n api.Node) api.Node {
		n.Nodes = wide(api.MaxNodes + 1).Nodes
		return n
	}
	for what, c := range map[string]struct {
		node api.Node
		want api.Errno
	}{
		"too many ahead of a kind":               {at(kind, many), api.ErrBig},
		"too deep ahead of a kind":               {at(kind, deep), api.ErrBig},
		"too many ahead of an argument":          {at(arg, many), api.ErrBig},
		"too deep ahead of a name":               {at(name, deep), api.ErrBig},
		"too deep ahead of the node's own":       {dir(entry{"/", deep}), api.ErrBig},
		"too many of a File":                     {manyOf(file("")), api.ErrBig},
		"too many of no kind":                    {manyOf(api.Node{}), api.ErrBig},
		"too many Nodes than Names":              {manyOf(dir()), api.ErrBig},
		"just Names are many":                    {api.Node{Kind: api.Dir, Names: wide(2000).Names}, api.ErrKind},
		"a kind ahead of its bytes":              {api.Node{Kind: 4, Data: make([]byte, api.MaxFile+1)}, api.ErrKind},
		"Names of a File ahead of bytes":         {api.Node{Kind: api.File, Names: []string{"/"}, Data: big.Data}, api.ErrKind},
		"Exec of a Link ahead of bytes":          {api.Node{Kind: api.Link, Exec: true, Data: big.Data}, api.ErrKind},
		"Exec of a Link ahead of none":           {api.Node{Kind: api.Link, Exec: true}, api.ErrKind},
		"Names of a Link ahead of none":          {api.Node{Kind: api.Link, Names: []string{"a"}}, api.ErrKind},
		"bytes of a Dir ahead of a name":         {api.Node{Kind: api.Dir, Data: []byte("x"), Names: []string{"/"}, Nodes: []api.Node{kind}}, api.ErrKind},
		"Exec of a Dir ahead of a name":          {api.Node{Kind: api.Dir, Exec: true, Names: []string{"/"}, Nodes: []api.Node{arg}}, api.ErrKind},
		"unlike counts ahead of a name":          {api.Node{Kind: api.Dir, Names: []string{"/", "/"}, Nodes: []api.Node{big}}, api.ErrKind},
		"unlike counts ahead of entries":         {api.Node{Kind: api.Dir, Names: full(api.MaxFile + 1).Names, Nodes: []api.Node{arg}}, api.ErrKind},
		"entries ahead of a name":                {dir(entry{strings.Repeat("/", api.MaxFile), file("")}), api.ErrBig},
		"a Dir's name ahead of what is in it":    {dir(entry{"a", kind}, entry{"/", file("")}), api.ErrName},
		"a Dir's order ahead of what is in it":   {dir(entry{"b", big}, entry{"a", arg}), api.ErrName},
		"a Dir's own ahead of a Dir's in it":     {dir(entry{"b", api.Node{Kind: api.Dir, Exec: true}}, entry{"a", file("")}), api.ErrName},
		"kind, bytes":                            {at(kind, big), api.ErrKind},
		"bytes, kind":                            {at(big, kind), api.ErrBig},
		"argument, kind":                         {at(arg, kind), api.ErrArg},
		"name, kind":                             {at(name, kind), api.ErrName},
		"kind, name":                             {at(kind, name), api.ErrKind},
		"argument, bytes":                        {at(arg, big), api.ErrArg},
		"bytes, argument":                        {at(big, arg), api.ErrBig},
		"what is in the first ahead of the next": {at(dir(entry{"a", dir(entry{"b", arg})}), kind), api.ErrArg},
		"behind what is right":                   {at(file("x"), dir(entry{"a", link("y")}), name, arg), api.ErrName},
	} {
		right(t, what, c.node, c.want)
	}
}

// found is a node of a tree and its level.
type found struct {
	node  api.Node
	level int
}

// listed tells a node and all beneath it, a directory ahead of what is in it.
func listed(n api.Node, level int) []found {
	l := []found{{n, level}}
	for _, kid := range n.Nodes {
		l = append(l, listed(kid, level+1)...)
	}
	return l
}

// plainRight reads the chapter's words one by one.
func plainRight(n api.Node) api.Errno {
	all := listed(n, 1)
	deepest := 0
	for _, f := range all {
		deepest = max(deepest, f.level)
	}
	if len(all) > 1024 || deepest > 32 {
		return api.ErrBig
	}
	for _, f := range all {
		n := f.node
		isFile, isDir, isLink := n.Kind == api.File, n.Kind == api.Dir, n.Kind == api.Link
		entries := 0
		for _, name := range n.Names {
			entries += len(name) + 3
		}
		if !isFile && !isDir && !isLink || !isDir && (len(n.Names) > 0 || len(n.Nodes) > 0) || n.Exec && !isFile ||
			isDir && len(n.Data) > 0 || isDir && len(n.Names) != len(n.Nodes) {
			return api.ErrKind
		}
		if isFile && len(n.Data) > 31744 || isLink && len(n.Data) > 1024 || isDir && entries > 31744 {
			return api.ErrBig
		}
		if isLink && len(n.Data) == 0 {
			return api.ErrArg
		}
		for i, name := range n.Names {
			ok := len(name) >= 1 && len(name) <= 60 && name != "." && name != ".." && (i == 0 || strings.Compare(n.Names[i-1], name) < 0)
			if !ok || strings.ContainsFunc(name, func(r rune) bool { return r < 33 || r > 126 || r == '/' }) {
				return api.ErrName
			}
		}
	}
	return api.OK
}

// plainSectors likewise, of a node that may be.
func plainSectors(n api.Node) int {
	sum := 0
	for _, f := range listed(n, 1) {
		bytes := len(f.node.Data)
		for _, name := range f.node.Names {
			bytes += len(name) + 3
		}
		sum++
		for ; bytes > 0; bytes -= 256 {
			sum++
		}
	}
	return sum
}

// node tells a node that may be, of at most so many levels.
func (x *noise) node(levels int) api.Node {
	sizes := []int{0, 1, 7, 255, 256, 257, 512, 600}
	switch k := x.below(6); {
	case k == 0:
		return api.Node{Kind: api.Link, Data: x.bytes(1 + x.below(300))}
	case k < 3 || levels == 1:
		return api.Node{Kind: api.File, Exec: x.below(2) == 0, Data: x.bytes(sizes[x.below(len(sizes))])}
	}
	n := dir()
	for _, name := range []string{"a", "b", "cc", "d", longName(9, api.MaxName)} {
		if x.below(2) == 0 {
			n.Names, n.Nodes = append(n.Names, name), append(n.Nodes, x.node(levels-1))
		}
	}
	slices.Sort(n.Names)
	return n
}

// spoil makes something of a node, or of one beneath it, another thing.
func (x *noise) spoil(n *api.Node) {
	for len(n.Nodes) > 0 && x.below(3) > 0 {
		n = &n.Nodes[x.below(len(n.Nodes))]
	}
	switch x.below(9) {
	case 0:
		n.Kind = x.below(5)
	case 1:
		n.Exec = !n.Exec
	case 2:
		n.Data = x.bytes([]int{0, 1, 1024, 1025, api.MaxFile, api.MaxFile + 1}[x.below(6)])
	case 3:
		n.Names = append(n.Names, []string{"zz", "", "a", ".", "x/y", "~", longName(1, api.MaxName+1)}[x.below(7)])
	case 4:
		n.Nodes = append(n.Nodes, []api.Node{file(""), link(""), dir(), {}}[x.below(4)])
	case 5:
		n.Names, n.Nodes = append(n.Names, []string{"~", "!", "~~"}[x.below(3)]), append(n.Nodes, file(""))
	case 6:
		slices.Reverse(n.Names)
	case 7:
		n.Nodes = append(n.Nodes, chain(29+x.below(4)))
		n.Names = append(n.Names, "~")
	case 8:
		*n = link("")
	}
}

func TestRightAndSectorsOfManyNodes(t *testing.T) {
	x := noise(11)
	told := map[api.Errno]int{}
	for range 6000 {
		n := x.node(4)
		for range x.below(4) {
			x.spoil(&n)
		}
		held := clone(n)
		want := plainRight(n)
		told[want]++
		if e := tree.Right(n); e != want {
			t.Fatalf("Right(%s): %v, want %v", short(n), e, want)
		}
		sectors := 0
		if want == api.OK {
			sectors = plainSectors(n)
		}
		if s := tree.Sectors(n); s != sectors {
			t.Fatalf("Sectors(%s): %d, want %d", short(n), s, sectors)
		}
		if !same(n, held) {
			t.Fatal("the node has changed")
		}
	}
	for _, e := range []api.Errno{api.OK, api.ErrBig, api.ErrKind, api.ErrArg, api.ErrName} {
		if told[e] < 50 {
			t.Errorf("only %d of %v", told[e], e)
		}
	}
}

// What a node needs.

func TestSectors(t *testing.T) {
	for _, c := range []struct {
		what string
		node api.Node
		want int
	}{
		{"File of 0", fileOf(0), 1}, {"File of 1", fileOf(1), 2}, {"File of 255", fileOf(255), 2}, {"File of 256", fileOf(256), 2},
		{"File of 257", fileOf(257), 3}, {"File of 512", fileOf(512), 3}, {"File of 513", fileOf(513), 4},
		{"File of MaxFile", fileOf(api.MaxFile), 125}, {"File of one more", fileOf(api.MaxFile + 1), 0},
		{"Exec of 256", script(strings.Repeat("x", 256)), 2},
		{"Link of 1", link("x"), 2}, {"Link of 256", link(strings.Repeat("x", 256)), 2}, {"Link of 257", link(strings.Repeat("x", 257)), 3},
		{"Link of 1024", link(strings.Repeat("x", 1024)), 5}, {"Link of 0", link(""), 0}, {"Link of 1025", link(strings.Repeat("x", 1025)), 0},
		{"Dir", dir(), 1},
		{"Dir of a File", dir(entry{"a", file("x")}), 4},
		{"Dir of an empty File", dir(entry{"a", file("")}), 3},
		{"Dirs within one another", chain(3), 2 + 2 + 2},
		{"entries of 256", full(256), 1 + 1 + len(full(256).Names)},
		{"entries of 257", full(257), 1 + 2 + len(full(257).Names)},
		{"entries of MaxFile", full(api.MaxFile), 1 + 124 + len(full(api.MaxFile).Names)},
		{"entries of one more", full(api.MaxFile + 1), 0},
		{"MaxNodes", wide(api.MaxNodes), 1 + 36 + 1023},
		{"one more", wide(api.MaxNodes + 1), 0},
		{"MaxDepth", chain(api.MaxDepth), 2 * api.MaxDepth},
		{"one deeper", chain(api.MaxDepth + 1), 0},
		{"no kind", api.Node{}, 0},
		{"a name that is none", dir(entry{"..", file("x")}), 0},
	} {
		if s := tree.Sectors(c.node); s != c.want {
			t.Errorf("Sectors(%s): %d, want %d", c.what, s, c.want)
		}
	}
	// As many bytes as a tree may have.
	most := wide(api.MaxNodes)
	for i := range most.Nodes {
		most.Nodes[i] = fileOf(api.MaxFile)
	}
	if s := tree.Sectors(most); s != 1+36+1023*125 {
		t.Errorf("Sectors(the most): %d", s)
	}
}
