package object_test

import (
	"bytes"
	"slices"
	"strings"
	"testing"
	"unsafe"

	"stillroom/api"
	"stillroom/object"
)

// Rule 4: what is handed in is neither changed nor kept, what is told is new
// memory.

// roomy tells a node whose lists have spare room, in which others of their kind
// stand.
func roomy(n api.Node, spare string) api.Node {
	c := api.Node{Kind: n.Kind, Exec: n.Exec}
	c.Data = append(bytes.Clone(n.Data), spare...)[:len(n.Data)]
	c.Names = append(slices.Clone(n.Names), spare, spare)[:len(n.Names)]
	for _, kid := range n.Nodes {
		c.Nodes = append(c.Nodes, roomy(kid, spare))
	}
	c.Nodes = append(c.Nodes, file(spare), file(spare))[:len(n.Nodes)]
	return c
}

// isRoomy tells whether a node's spare room still has what roomy put there.
func isRoomy(n api.Node, spare string) bool {
	data, names, nodes := n.Data[len(n.Data):cap(n.Data)], n.Names[len(n.Names):cap(n.Names)], n.Nodes[len(n.Nodes):cap(n.Nodes)]
	if string(data[:len(spare)]) != spare || names[0] != spare || names[1] != spare || string(nodes[0].Data) != spare || string(nodes[1].Data) != spare {
		return false
	}
	return !slices.ContainsFunc(n.Nodes, func(kid api.Node) bool { return !isRoomy(kid, spare) })
}

// scribble makes all lists of a node, and of all beneath it, others, up to the
// end of their spare room.
func scribble(n api.Node) {
	for i := range n.Data[:cap(n.Data)] {
		n.Data[:cap(n.Data)][i] = '!'
	}
	scribbleTexts(n.Names)
	for i, kid := range n.Nodes[:cap(n.Nodes)] {
		scribble(kid)
		n.Nodes[:cap(n.Nodes)][i] = api.Node{Kind: -1}
	}
}

// scribbleTexts makes all texts others, up to the end of their spare room.
func scribbleTexts(l []string) {
	for i := range l[:cap(l)] {
		l[:cap(l)][i] = "!"
	}
}

func TestWhatIsHandedInStays(t *testing.T) {
	s := newScene(t)
	add(t, s.objects, pathA, file("a"), nil, "")
	n := roomy(rich(), "spare")
	refs := append([]string{pathA, pathB}, pathC, "spare")[:2]
	for _, want := range []api.Errno{api.OK, api.ErrThere} {
		is(t, "Add", s.objects.Add(pathB, n, refs, pathA), want)
		if !same(n, rich()) || !isRoomy(n, "spare") {
			t.Errorf("the node has changed: %s", short(n))
		}
		if !slices.Equal(refs[:4], []string{pathA, pathB, pathC, "spare"}) {
			t.Errorf("the references have changed: %q", refs[:4])
		}
	}
	scribble(n)
	scribbleTexts(refs)
	holds(t, "scribbled", s.tree, s.objects, store{pathA: {node: file("a")}, pathB: {rich(), []string{pathA, pathB}, pathA}})
}

// What lies behind the end of a list of references is none of them.
func TestSpareReferencesAreNotRead(t *testing.T) {
	s := newScene(t)
	add(t, s.objects, pathA, file("a"), []string{"x", pathD}[:0], "")
	add(t, s.objects, pathB, file("b"), []string{pathA, "x", pathA}[:1], "")
	holds(t, "both", s.tree, s.objects, store{pathA: {node: file("a")}, pathB: {node: file("b"), refs: []string{pathA}}})
	i := api.Info{Path: pathA, Hash: hashX, Refs: []string{pathA, "x", pathA}[:1]}
	if text, e := object.Text(i); e != api.OK || text != "hash "+hashX+"\nref "+pathA+"\n" {
		t.Errorf("Text: %q, %v", text, e)
	}
	if !slices.Equal(i.Refs[:3], []string{pathA, "x", pathA}) {
		t.Errorf("the references have changed: %q", i.Refs[:3])
	}
}

func TestWhatIsToldIsNewMemory(t *testing.T) {
	s := newScene(t)
	want := store{pathA: {node: file("a")}, pathB: {rich(), []string{pathA, pathB}, pathA}}
	add(t, s.objects, pathA, file("a"), nil, "")
	add(t, s.objects, pathB, rich(), []string{pathA, pathB}, pathA)
	n, _ := s.objects.Get(pathB)
	m, _ := s.objects.Get(pathB)
	scribble(n)
	if !same(m, rich()) {
		t.Errorf("two nodes share memory: %s", short(m))
	}
	i, _ := s.objects.Info(pathB)
	j, _ := s.objects.Info(pathB)
	scribbleTexts(i.Refs)
	if !slices.Equal(j.Refs, []string{pathA, pathB}) {
		t.Errorf("two infos share memory: %q", j.Refs)
	}
	l, k := s.objects.List(), s.objects.List()
	scribbleTexts(l)
	if !slices.Equal(k, []string{pathA, pathB}) {
		t.Errorf("two lists share memory: %q", k)
	}
	holds(t, "scribbled", s.tree, s.objects, want)

	text := plainText(want[pathB].info(pathB))
	i, _ = object.Read(pathB, text)
	j, _ = object.Read(pathB, text)
	scribbleTexts(i.Refs)
	if !slices.Equal(j.Refs, []string{pathA, pathB}) {
		t.Errorf("what is read twice shares memory: %q", j.Refs)
	}
}

// inside tells whether one text lies on the memory of another.
func inside(a, b string) bool {
	if a == "" || b == "" {
		return false
	}
	at, from := uintptr(unsafe.Pointer(unsafe.StringData(a))), uintptr(unsafe.Pointer(unsafe.StringData(b)))
	return at >= from && at < from+uintptr(len(b))
}

// A piece of a text that was handed in would keep the whole of it.
func TestTextsAreNewMemory(t *testing.T) {
	path := strings.Clone(pathB)
	text := plainText(api.Info{Hash: hashX, Deriver: pathC, Refs: []string{pathA, pathD}})
	if !inside(text[5:9], text) || inside(path, text) {
		t.Fatal("nothing is told apart")
	}
	i, e := object.Read(path, text)
	is(t, "Read", e, api.OK)
	for _, told := range append([]string{i.Path, i.Hash, i.Deriver}, i.Refs...) {
		if inside(told, text) || inside(told, path) {
			t.Errorf("%q lies where it was handed in", told)
		}
	}
	s := newScene(t)
	add(t, s.objects, path, file("x"), []string{path}, path)
	i, e = s.objects.Info(path)
	is(t, "Info", e, api.OK)
	for _, told := range append(append([]string{i.Path, i.Hash, i.Deriver}, i.Refs...), s.objects.List()...) {
		if inside(told, path) {
			t.Errorf("%q lies where it was handed in", told)
		}
	}
}
