package scan_test

import (
	"bytes"
	"fmt"
	"regexp"
	"slices"
	"strings"
	"testing"

	"stillroom/api"
	"stillroom/scan"
)

// signs are those that paths are made of, as the chapters say it.
const signs = "0123456789abcdfghijklmnpqrsvwxyz"

// Signs of paths: x and y have no sign alike at any place, nor in common; all
// of a's are alike.
const (
	signsA = "aaaaaaaaaaaaaaaaaaaaaaaaaaaaaaaa"
	signsX = "0123456789abcdf00123456789abcdf1"
	signsY = "ghijklmnpqrsvwxyzghijklmnpqrsvwx"
)

const (
	pathA = "/store/" + signsA + "-a"
	pathX = "/store/" + signsX + "-x"
	pathY = "/store/" + signsY + "-y"
)

// pathOf tells the path of signs and a name.
func pathOf(signs, name string) string { return "/store/" + signs + "-" + name }

// noise tells numbers that are alike in every run.
type noise uint64

func (x *noise) next() uint64 {
	*x ^= *x << 13
	*x ^= *x >> 7
	*x ^= *x << 17
	return uint64(*x) >> 16
}

func (x *noise) below(n int) int { return int(x.next() % uint64(n)) }

// text tells so many bytes, each one of these.
func (x *noise) text(n int, of string) string {
	b := make([]byte, n)
	for i := range b {
		b[i] = of[x.below(len(of))]
	}
	return string(b)
}

// bytes tells bytes that have some texts in them, whole or in part, with other
// bytes between or none.
func (x *noise) bytes(parts int, texts []string) string {
	s := ""
	for range x.below(parts + 1) {
		part := texts[x.below(len(texts))]
		switch x.below(6) {
		case 0:
			part = part[:x.below(len(part)+1)]
		case 1:
			part = part[x.below(len(part)+1):]
		case 2:
			part = x.text(x.below(40), part+"\x00\xff")
		case 3:
			part += x.text(x.below(3), signs)
		}
		s += part
	}
	return s
}

// wrongPaths tells texts that are no paths, in each of which these signs stand.
func wrongPaths(s string) []string {
	return []string{
		s, s + "-a", "/" + s + "-a", "store/" + s + "-a", "/Store/" + s + "-a", "//store/" + s + "-a", "/store//" + s + "-a", " " + pathOf(s, "a"),
		"/store/" + s, "/store/" + s + "-", "/store/" + s + "a", "/store/" + s + "_a", "/store/" + s + "/a", "/store/" + s + "--.\x00",
		pathOf(s, ".a"), pathOf(s, "a/b"), pathOf(s, "a b"), pathOf(s, "a\n"), pathOf(s, "é"), pathOf(s, strings.Repeat("n", 28)),
		"/store/" + s[:31] + "-a", "/store/" + s + s[:1] + "-a", "/store/" + strings.ToUpper(s) + "-a",
	}
}

// Nodes.

func file(s string) api.Node   { return api.Node{Kind: api.File, Data: []byte(s)} }
func script(s string) api.Node { return api.Node{Kind: api.File, Exec: true, Data: []byte(s)} }
func link(s string) api.Node   { return api.Node{Kind: api.Link, Data: []byte(s)} }

// entry is a name and its node.
type entry struct {
	name string
	node api.Node
}

// dir tells a directory with these entries, in this order.
func dir(entries ...entry) api.Node {
	n := api.Node{Kind: api.Dir}
	for _, e := range entries {
		n.Names, n.Nodes = append(n.Names, e.name), append(n.Nodes, e.node)
	}
	return n
}

// under tells a node with directories above it, so many levels in all.
func under(levels int, n api.Node) api.Node {
	for range levels - 1 {
		n = dir(entry{"d", n})
	}
	return n
}

// wide tells a directory of so many files, so many nodes with itself.
func wide(nodes int) api.Node {
	n := dir()
	for i := range nodes - 1 {
		n.Names, n.Nodes = append(n.Names, fmt.Sprintf("f%05d", i)), append(n.Nodes, file(""))
	}
	return n
}

// within tells a directory whose nodes lie within themselves.
func within(data string) api.Node {
	list := []api.Node{{}, file(data)}
	list[0] = api.Node{Kind: api.Dir, Names: []string{"a", "b"}, Nodes: list}
	return list[0]
}

// wrong is a node that may not be, and what tree.Right tells of it.
type wrong struct {
	what string
	node api.Node
	want api.Errno
}

// wrongNodes tells nodes that may not be, by each of tree.Right's errors. The
// text stands in each of them, in bytes that are right but for where they are.
func wrongNodes(s string) []wrong {
	big := strings.Repeat("b", api.MaxFile+1-len(s)) + s
	many := wide(api.MaxNodes + 1)
	many.Nodes[0] = file(s)
	manyBytes := dir()
	for i := range 504 {
		manyBytes.Names, manyBytes.Nodes = append(manyBytes.Names, fmt.Sprintf("%060d", i)), append(manyBytes.Nodes, file(s))
	}
	return []wrong{
		{"too many nodes", many, api.ErrBig},
		{"too deep", under(api.MaxDepth+1, file(s)), api.ErrBig},
		{"within itself", within(s), api.ErrBig},
		{"a File of too many bytes", file(big), api.ErrBig},
		{"a Link of too many bytes", link(big[api.MaxFile+1-1025:]), api.ErrBig},
		{"entries of too many bytes", manyBytes, api.ErrBig},
		{"no kind", api.Node{Data: []byte(s)}, api.ErrKind},
		{"another kind", api.Node{Kind: 4, Data: []byte(s)}, api.ErrKind},
		{"a kind below", api.Node{Kind: -1, Data: []byte(s)}, api.ErrKind},
		{"a File with Names", api.Node{Kind: api.File, Data: []byte(s), Names: []string{"a"}}, api.ErrKind},
		{"a File with Nodes", api.Node{Kind: api.File, Data: []byte(s), Nodes: []api.Node{file(s)}}, api.ErrKind},
		{"a Link with Names", api.Node{Kind: api.Link, Data: []byte(s), Names: []string{"a"}}, api.ErrKind},
		{"a Link that is Exec", api.Node{Kind: api.Link, Data: []byte(s), Exec: true}, api.ErrKind},
		{"a Dir with bytes", api.Node{Kind: api.Dir, Data: []byte(s)}, api.ErrKind},
		{"a Dir that is Exec", api.Node{Kind: api.Dir, Exec: true, Names: []string{"a"}, Nodes: []api.Node{file(s)}}, api.ErrKind},
		{"fewer Nodes than Names", api.Node{Kind: api.Dir, Names: []string{"a", "b"}, Nodes: []api.Node{file(s)}}, api.ErrKind},
		{"fewer Names than Nodes", api.Node{Kind: api.Dir, Names: []string{"a"}, Nodes: []api.Node{file(s), file(s)}}, api.ErrKind},
		{"a Link without bytes", dir(entry{"a", file(s)}, entry{"b", link("")}), api.ErrArg},
		{"a name that is none", dir(entry{"a", file(s)}, entry{"b/", file(s)}), api.ErrName},
		{"the name ..", dir(entry{"..", file(s)}), api.ErrName},
		{"a name without bytes", dir(entry{"", file(s)}), api.ErrName},
		{"names that do not rise", dir(entry{"b", file(s)}, entry{"a", file(s)}), api.ErrName},
		{"names that are alike", dir(entry{"a", file(s)}, entry{"a", file(s)}), api.ErrName},
		{"a wrong one at a depth", dir(entry{"a", file(s)}, entry{"b", dir(entry{"c", dir(entry{"d", api.Node{Kind: 9}})})}), api.ErrKind},
	}
}

// node tells a node that may be, of at most so many levels, with some of these
// texts in its bytes and, if they may be names, in its names.
func (x *noise) node(levels int, texts []string) api.Node {
	switch k := x.below(6); {
	case k == 0:
		return link("l" + x.bytes(4, texts))
	case k < 3 || levels == 1:
		n := file(x.bytes(8, texts))
		n.Exec = x.below(2) == 0
		return n
	}
	names := []string{"a", "b", "c", "d", "~"}
	for range x.below(2) {
		names = append(names, "n"+strings.ReplaceAll(texts[x.below(len(texts))], "/", "_"))
	}
	slices.Sort(names)
	n := dir()
	for _, name := range names {
		if x.below(3) > 0 {
			n.Names, n.Nodes = append(n.Names, name), append(n.Nodes, x.node(levels-1, texts))
		}
	}
	return n
}

// same tells whether two nodes are the same; lists without an element are.
func same(a, b api.Node) bool {
	return a.Kind == b.Kind && a.Exec == b.Exec && bytes.Equal(a.Data, b.Data) &&
		slices.Equal(a.Names, b.Names) && slices.EqualFunc(a.Nodes, b.Nodes, same)
}

// clone tells a node on memory of its own.
func clone(n api.Node) api.Node {
	c := api.Node{Kind: n.Kind, Exec: n.Exec, Data: bytes.Clone(n.Data), Names: slices.Clone(n.Names)}
	for _, kid := range n.Nodes {
		c.Nodes = append(c.Nodes, clone(kid))
	}
	return c
}

// roomy tells a node whose lists have spare room, in which others of their kind
// stand.
func roomy(n api.Node, spare string) api.Node {
	c := api.Node{Kind: n.Kind, Exec: n.Exec}
	c.Data = append(bytes.Clone(n.Data), spare...)[:len(n.Data)]
	c.Names = append(slices.Clone(n.Names), spare, spare)[:len(n.Names)]
	for _, kid := range n.Nodes {
		c.Nodes = append(c.Nodes, roomy(kid, spare))
	}
	c.Nodes = append(c.Nodes, file(spare), file(spare))[:len(n.Nodes)]
	return c
}

// isRoomy tells whether a node's spare room still has what roomy put there.
func isRoomy(n api.Node, spare string) bool {
	data, names, nodes := n.Data[len(n.Data):cap(n.Data)], n.Names[len(n.Names):cap(n.Names)], n.Nodes[len(n.Nodes):cap(n.Nodes)]
	if string(data[:len(spare)]) != spare || names[0] != spare || names[1] != spare || string(nodes[0].Data) != spare || string(nodes[1].Data) != spare {
		return false
	}
	return !slices.ContainsFunc(n.Nodes, func(kid api.Node) bool { return !isRoomy(kid, spare) })
}

// scribble makes all lists of a node, and of all beneath it, others, up to the
// end of their spare room.
func scribble(n api.Node) {
	for i := range n.Data[:cap(n.Data)] {
		n.Data[:cap(n.Data)][i] = '!'
	}
	for i := range n.Names[:cap(n.Names)] {
		n.Names[:cap(n.Names)][i] = "!"
	}
	for i, kid := range n.Nodes[:cap(n.Nodes)] {
		scribble(kid)
		n.Nodes[:cap(n.Nodes)][i] = api.Node{Kind: -1}
	}
}

// short tells of a node what a message has room for.
func short(n api.Node) string {
	return fmt.Sprintf("a node of kind %d, Exec %v, bytes %.80q, Names %.60q, %d Nodes", n.Kind, n.Exec, n.Data, n.Names[:min(4, len(n.Names))], len(n.Nodes))
}

// A plain reading of the chapter.

var plainPath = regexp.MustCompile(`^/store/([` + signs + `]{32})-[a-zA-Z0-9+_-][a-zA-Z0-9+._-]{0,26}$`)

// plainFound tells which of some texts are paths whose signs occur in any of
// these texts.
func plainFound(texts, paths []string) (l []string) {
	for _, p := range paths {
		m := plainPath.FindStringSubmatch(p)
		in := func(s string) bool { return strings.Contains(s, m[1]) }
		if m != nil && slices.ContainsFunc(texts, in) && !slices.Contains(l, p) {
			l = append(l, p)
		}
	}
	slices.Sort(l)
	return l
}

// plainTexts tells the texts of a node that may be.
func plainTexts(n api.Node) (l []string) {
	if n.Kind == api.File || n.Kind == api.Link {
		l = append(l, string(n.Data))
	}
	for i, name := range n.Names {
		l = append(l, name)
		l = append(l, plainTexts(n.Nodes[i])...)
	}
	return l
}

// plainReplaced tells a text in which other signs stand.
func plainReplaced(s, from, to string) string {
	at := strings.Index(s, from)
	if at < 0 {
		return s
	}
	return s[:at] + to + plainReplaced(s[at+len(from):], from, to)
}

// plainReplace tells a node that may be in which other signs stand.
func plainReplace(n api.Node, from, to string) api.Node {
	n = clone(n)
	n.Data = []byte(plainReplaced(string(n.Data), from, to))
	for i, kid := range n.Nodes {
		n.Nodes[i] = plainReplace(kid, from, to)
	}
	return n
}

// Asking.

// finds asks that Bytes, and Node of a File, tell just these paths.
func finds(t *testing.T, s string, paths, want []string) {
	t.Helper()
	b, held := []byte(s), slices.Clone(paths)
	if l := scan.Bytes(b, paths); !slices.Equal(l, want) {
		t.Errorf("Bytes(%.200q, %.200q): %q, want %q", s, paths, l, want)
	}
	if string(b) != s || !slices.Equal(paths, held) {
		t.Errorf("Bytes(%.200q, %.200q): what was handed in has changed", s, paths)
	}
	if len(s) <= api.MaxFile {
		findsIn(t, "a File", file(s), paths, want)
	}
}

// findsIn asks that Node tells just these paths.
func findsIn(t *testing.T, what string, n api.Node, paths, want []string) {
	t.Helper()
	held := slices.Clone(paths)
	if l := scan.Node(n, paths); !slices.Equal(l, want) {
		t.Errorf("Node(%s: %s, %.200q): %q, want %q", what, short(n), paths, l, want)
	}
	if !slices.Equal(paths, held) {
		t.Errorf("Node(%s): the paths have changed", what)
	}
}

// tells asks that Texts tells just these.
func tells(t *testing.T, what string, n api.Node, want []string) {
	t.Helper()
	if l := slices.Collect(scan.Texts(n)); !slices.Equal(l, want) {
		t.Errorf("Texts(%s: %s): %.300q, want %.300q", what, short(n), l, want)
	}
}

// replaces asks that Replace tells this node, and that the one that was handed
// in stays as it is.
func replaces(t *testing.T, what string, n api.Node, from, to string, want api.Node) {
	t.Helper()
	held := clone(n)
	if r, e := scan.Replace(n, from, to); e != api.OK || !same(r, want) {
		t.Errorf("Replace(%s: %s, %q, %q): %s, %v, want %s", what, short(n), from, to, short(r), e, short(want))
	}
	if !same(n, held) {
		t.Errorf("Replace(%s): the node has changed", what)
	}
}

// replacesNot asks that Replace tells this error, and nothing else.
func replacesNot(t *testing.T, what string, n api.Node, from, to string, want api.Errno) {
	t.Helper()
	r, e := scan.Replace(n, from, to)
	if e != want || r.Kind != 0 || r.Exec || len(r.Data)+len(r.Names)+len(r.Nodes) != 0 {
		t.Errorf("Replace(%s, %.100q, %.100q): %s, %v, want %v", what, from, to, short(r), e, want)
	}
}
