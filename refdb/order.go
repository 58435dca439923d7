package refdb

import (
	"slices"

	"stillroom/api"
)

// order is how far the paths of a graph are told, each behind what it refers to.
type order struct {
	referrers [][]int // by numbers, in any order, none its own
	waits     []int   // by numbers: for how many that a path refers to it waits
	ready     []int   // the numbers of those that wait for none and are not told, rising
}

// Order tells all, each behind what it refers to.
func (g *Graph) Order() ([]string, api.Errno) {
	if !g.made() {
		return nil, api.ErrNil
	}
	o := g.begin()
	var list []string
	for len(o.ready) > 0 {
		list = append(list, g.paths[o.next()])
	}
	// Those that reach themselves by others wait for one another for ever.
	if len(list) < len(g.paths) {
		return nil, api.ErrState
	}
	return list, api.OK
}

// begin tells the order in which no path is told yet.
func (g *Graph) begin() *order {
	o := &order{referrers: make([][]int, len(g.paths)), waits: make([]int, len(g.paths))}
	for e := range g.edges {
		if e.from != e.to {
			o.referrers[e.to] = append(o.referrers[e.to], e.from)
			o.waits[e.from]++
		}
	}
	for n, waits := range o.waits {
		if waits == 0 {
			o.ready = append(o.ready, n)
		}
	}
	return o
}

// next takes the least path of those that are ready: it is told then, and its
// referrers do not wait for it any more.
func (o *order) next() int {
	n := o.ready[0]
	o.ready = o.ready[1:]
	for _, from := range o.referrers[n] {
		o.waits[from]--
		if o.waits[from] == 0 {
			at, _ := slices.BinarySearch(o.ready, from)
			o.ready = slices.Insert(o.ready, at, from)
		}
	}
	return n
}
