package tree

import (
	"bytes"
	"maps"
	"slices"

	"stillroom/api"
)

// node is a node as a tree keeps it: it embeds what it is told as, whose Names
// and Nodes stay empty, for what is in a directory stands in kids.
type node struct {
	api.Node
	kids map[string]*node
}

// keep tells a node that may be as a tree keeps it, on memory of its own.
func keep(n api.Node) *node {
	k := &node{Node: api.Node{Kind: n.Kind, Exec: n.Exec, Data: bytes.Clone(n.Data)}}
	if n.Kind == api.Dir {
		k.kids = make(map[string]*node, len(n.Names))
	}
	for i, name := range n.Names {
		k.kids[name] = keep(n.Nodes[i])
	}
	return k
}

// view tells what a node is told as, but shares its bytes: it stays in this package.
func (n *node) view() api.Node {
	v := n.Node
	for _, name := range slices.Sorted(maps.Keys(n.kids)) {
		v.Names = append(v.Names, name)
		v.Nodes = append(v.Nodes, n.kids[name].view())
	}
	return v
}

// told tells what a node is told as, on new memory.
func (n *node) told() api.Node {
	v := n.view()
	ownBytes(&v)
	return v
}

// ownBytes lets a node, and all beneath it, have its bytes on new memory.
func ownBytes(n *api.Node) {
	n.Data = bytes.Clone(n.Data)
	for i := range n.Nodes {
		ownBytes(&n.Nodes[i])
	}
}

// find goes the way of these names, and tells the node there.
func (n *node) find(names []string) (*node, api.Errno) {
	for _, name := range names {
		if n.Kind != api.Dir {
			return nil, api.ErrKind
		}
		kid, there := n.kids[name]
		if !there {
			return nil, api.ErrNone
		}
		n = kid
	}
	return n, api.OK
}

// place is where a node is, or may be: in which directory, by which name.
type place struct {
	dir  *node
	name string
}

// placeOf tells the place that these names, at least one, lead to.
func (t *Tree) placeOf(names []string) (place, api.Errno) {
	last := len(names) - 1
	dir, e := t.root.find(names[:last])
	if e != api.OK {
		return place{}, e
	}
	if dir.Kind != api.Dir {
		return place{}, api.ErrKind
	}
	return place{dir, names[last]}, api.OK
}

// fullPlace tells the place that these names, at least one, lead to; ErrNone if
// nothing is there.
func (t *Tree) fullPlace(names []string) (place, api.Errno) {
	p, e := t.placeOf(names)
	if e == api.OK && !p.full() {
		return place{}, api.ErrNone
	}
	return p, e
}

// emptyPlace tells the place that these names lead to; ErrThere if something is
// there, as it always is at the root.
func (t *Tree) emptyPlace(names []string) (place, api.Errno) {
	if len(names) == 0 {
		return place{}, api.ErrThere
	}
	p, e := t.placeOf(names)
	if e == api.OK && p.full() {
		return place{}, api.ErrThere
	}
	return p, e
}

// full tells whether something is there.
func (p place) full() bool { return p.dir.kids[p.name] != nil }

// fill lets a node be there.
func (p place) fill(n *node) { p.dir.kids[p.name] = n }

// clear lets nothing be there.
func (p place) clear() { delete(p.dir.kids, p.name) }

// move lets what is at one place be at another one.
func move(from, to place) {
	n := from.dir.kids[from.name]
	from.clear()
	to.fill(n)
}
