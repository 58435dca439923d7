package refdb_test

import (
	"fmt"
	"slices"
	"strings"
	"testing"

	"stillroom/api"
	"stillroom/refdb"
)

// Making infos.

// info tells the info of a path that refers to others.
func info(path string, refs ...string) api.Info { return api.Info{Path: path, Refs: refs} }

// made tells the info of a path that a derivation made.
func made(deriver, path string, refs ...string) api.Info {
	return api.Info{Path: path, Hash: "h" + path, Deriver: deriver, Refs: refs}
}

// name tells a text for a number; greater numbers have greater ones.
func name(n int) string { return fmt.Sprintf("p%05d", n) }

// chain tells n infos, each of which refers to the next one.
func chain(n int) []api.Info {
	var l []api.Info
	for i := range n {
		x := info(name(i))
		if i+1 < n {
			x.Refs = []string{name(i + 1)}
		}
		l = append(l, x)
	}
	return l
}

// round tells n infos, each of which refers to the next one, and the last one to
// the first.
func round(n int) []api.Info {
	l := chain(n)
	l[n-1].Refs = []string{name(0)}
	return l
}

// star tells n infos: the first refers to all others.
func star(n int) []api.Info {
	l := []api.Info{info(name(0))}
	for i := 1; i < n; i++ {
		l[0].Refs = append(l[0].Refs, name(i))
		l = append(l, info(name(i)))
	}
	return l
}

// sun tells n infos: all others refer to the first.
func sun(n int) []api.Info {
	l := []api.Info{info(name(0))}
	for i := 1; i < n; i++ {
		l = append(l, info(name(i), name(0)))
	}
	return l
}

// ladder tells infos of n steps of two each: both refer to both of the next step,
// so that there are 2^n ways down.
func ladder(n int) []api.Info {
	var l []api.Info
	for i := range n {
		for side := range 2 {
			x := info(name(2*i + side))
			if i+1 < n {
				x.Refs = []string{name(2*i + 2), name(2*i + 3)}
			}
			l = append(l, x)
		}
	}
	return l
}

// odd tells texts of all kinds, among them ones that begin others.
func odd() []string {
	return []string{
		"", " ", "  ", "a", "a ", " a", "a b", "ab", "A", "b", "a/", "/", "//", "/a", "a/b", "\x00", "\x00\x00", "a\x00", "a\x00b",
		"\n", "a\n", "\xff", "\xff\xfe", "\u00e4", "a\u0308", "\u65e5\u672c", "-", "ref a", "0", "00", "10", "9",
		"/store/00000000000000000000000000000000-a", "/store/00000000000000000000000000000000-a.drv", strings.Repeat("x", 5000), strings.Repeat("x", 5001),
	}
}

// copyOf tells infos that share no memory with these.
func copyOf(l []api.Info) []api.Info {
	var c []api.Info
	for _, i := range l {
		x := api.Info{Path: strings.Clone(i.Path), Hash: strings.Clone(i.Hash), Deriver: strings.Clone(i.Deriver)}
		for _, ref := range i.Refs {
			x.Refs = append(x.Refs, strings.Clone(ref))
		}
		c = append(c, x)
	}
	return c
}

// sameInfos tells whether infos are the same ones, in the same order.
func sameInfos(a, b []api.Info) bool {
	return slices.EqualFunc(a, b, func(x, y api.Info) bool {
		return x.Path == y.Path && x.Hash == y.Hash && x.Deriver == y.Deriver && slices.Equal(x.Refs, y.Refs)
	})
}

// pathsOf tells the infos' paths, rising.
func pathsOf(l []api.Info) []string {
	var paths []string
	for _, i := range l {
		paths = append(paths, i.Path)
	}
	slices.Sort(paths)
	return paths
}

// noise tells numbers that hang on nothing but what it begins with.
type noise uint64

func (r *noise) below(n int) int {
	*r ^= *r << 13
	*r ^= *r >> 7
	*r ^= *r << 17
	return int(uint64(*r) >> 1 % uint64(n))
}

// shuffled tells the same infos in another order, their references too.
func (r *noise) shuffled(l []api.Info) []api.Info {
	c := copyOf(l)
	for i := range c {
		j := r.below(i + 1)
		c[i], c[j] = c[j], c[i]
	}
	for _, x := range c {
		for i := range x.Refs {
			j := r.below(i + 1)
			x.Refs[i], x.Refs[j] = x.Refs[j], x.Refs[i]
		}
	}
	return c
}

// some tells some of these texts, in any order, some of them oftener than once.
func (r *noise) some(l []string, most int) []string {
	var s []string
	if len(l) == 0 {
		return s
	}
	for range r.below(most + 1) {
		s = append(s, l[r.below(len(l))])
	}
	return s
}

// A plain reading of the chapter, as slow as it may be.

// plainNew tells the error of making a graph.
func plainNew(l []api.Info) api.Errno {
	if len(l) > 4096 {
		return api.ErrArg
	}
	for i := range l {
		for j := range i {
			if l[i].Path == l[j].Path {
				return api.ErrThere
			}
		}
	}
	for _, i := range l {
		for _, ref := range i.Refs {
			if !slices.Contains(pathsOf(l), ref) {
				return api.ErrNone
			}
		}
	}
	return api.OK
}

// plainReach tells what one of these texts reaches, rising: to what is reached
// what that refers to is added till nothing comes any more.
func plainReach(l []api.Info, from []string) []string {
	var reached []string
	for _, p := range pathsOf(l) {
		if slices.Contains(from, p) {
			reached = append(reached, p)
		}
	}
	for more := true; more; {
		more = false
		for _, i := range l {
			if !slices.Contains(reached, i.Path) {
				continue
			}
			for _, ref := range i.Refs {
				if !slices.Contains(reached, ref) {
					reached, more = append(reached, ref), true
				}
			}
		}
	}
	slices.Sort(reached)
	return reached
}

// plainReferrers tells the paths that refer to one, rising.
func plainReferrers(l []api.Info, path string) []string {
	var list []string
	for _, i := range l {
		if slices.Contains(i.Refs, path) {
			list = append(list, i.Path)
		}
	}
	slices.Sort(list)
	return list
}

// plainDead tells the paths that no root reaches, rising.
func plainDead(l []api.Info, roots []string) []string {
	reached := plainReach(l, roots)
	return slices.DeleteFunc(pathsOf(l), func(p string) bool { return slices.Contains(reached, p) })
}

// plainDerived tells the paths with that deriver, rising.
func plainDerived(l []api.Info, deriver string) []string {
	var list []string
	for _, i := range l {
		if i.Deriver == deriver {
			list = append(list, i.Path)
		}
	}
	slices.Sort(list)
	return list
}

// plainOrder tells all paths, each time the least that may come, and whether that
// came to its end.
func plainOrder(l []api.Info) ([]string, api.Errno) {
	var told []string
	for len(told) < len(l) {
		least, found := "", false
		for _, i := range l {
			may := !slices.Contains(told, i.Path)
			for _, ref := range i.Refs {
				may = may && (ref == i.Path || slices.Contains(told, ref))
			}
			if may && (!found || i.Path < least) {
				least, found = i.Path, true
			}
		}
		if !found {
			return nil, api.ErrState
		}
		told = append(told, least)
	}
	return told, api.OK
}

// Asking.

// graph makes a graph, which must be all right.
func graph(t *testing.T, l []api.Info) *refdb.Graph {
	t.Helper()
	g, e := refdb.New(l)
	if e != api.OK || g == nil {
		t.Fatalf("New(%s): %v, %v", short(l), g != nil, e)
	}
	return g
}

// refuses asks that no graph is made of infos, and which error tells so.
func refuses(t *testing.T, l []api.Info, want api.Errno) {
	t.Helper()
	if g, e := refdb.New(l); e != want || g != nil {
		t.Errorf("New(%s): a graph %v, %v, want %v", short(l), g != nil, e, want)
	}
}

// tells asks that a list is this one.
func tells(t *testing.T, what string, l, want []string) {
	t.Helper()
	if !slices.Equal(l, want) {
		t.Errorf("%s: %.300q, want %.300q", what, l, want)
	}
}

// closes asks that the closure of some paths is this one.
func closes(t *testing.T, g *refdb.Graph, paths, want []string) {
	t.Helper()
	l, e := g.Closure(paths)
	if e != api.OK {
		t.Errorf("Closure(%.300q): %v", paths, e)
	}
	tells(t, fmt.Sprintf("Closure(%.300q)", paths), l, want)
}

// isReferredTo asks that just these refer to a path.
func isReferredTo(t *testing.T, g *refdb.Graph, path string, want []string) {
	t.Helper()
	l, e := g.Referrers(path)
	if e != api.OK {
		t.Errorf("Referrers(%.300q): %v", path, e)
	}
	tells(t, fmt.Sprintf("Referrers(%.300q)", path), l, want)
}

// leaves asks that just these are dead.
func leaves(t *testing.T, g *refdb.Graph, roots, want []string) {
	t.Helper()
	tells(t, fmt.Sprintf("Dead(%.300q)", roots), g.Dead(roots), want)
}

// orders asks that all paths come in this order.
func orders(t *testing.T, g *refdb.Graph, want []string) {
	t.Helper()
	l, e := g.Order()
	if e != api.OK {
		t.Errorf("Order: %v", e)
	}
	tells(t, "Order", l, want)
}

// goesRound asks that there is no order.
func goesRound(t *testing.T, g *refdb.Graph) {
	t.Helper()
	if l, e := g.Order(); e != api.ErrState || len(l) != 0 {
		t.Errorf("Order: %.300q, %v, want ErrState", l, e)
	}
}

// knowsNot asks that a path is no info's, whoever is asked.
func knowsNot(t *testing.T, g *refdb.Graph, known []string, path string) {
	t.Helper()
	lists := [][]string{{path}, {path, path}}
	for _, p := range known {
		lists = append(lists, []string{p, path}, []string{path, p})
		if g.Refers(p, path) || g.Refers(path, p) {
			t.Errorf("%.300q and %.300q refer to one another", p, path)
		}
	}
	for _, paths := range append(lists, append(slices.Clone(known), path)) {
		if l, e := g.Closure(paths); e != api.ErrNone || len(l) != 0 {
			t.Errorf("Closure(%.300q): %.300q, %v, want ErrNone", paths, l, e)
		}
	}
	if l, e := g.Referrers(path); e != api.ErrNone || len(l) != 0 {
		t.Errorf("Referrers(%.300q): %.300q, %v, want ErrNone", path, l, e)
	}
	if g.Refers(path, path) {
		t.Errorf("%.300q refers to itself", path)
	}
	leaves(t, g, []string{path}, known)
}

// is asks that all calls of a graph tell what the plain reading tells of these
// infos: of each path, of each two, and of these lists of paths.
func is(t *testing.T, g *refdb.Graph, l []api.Info, lists ...[]string) {
	t.Helper()
	all := pathsOf(l)
	for _, p := range all {
		lists = append(lists, []string{p})
		isReferredTo(t, g, p, plainReferrers(l, p))
	}
	for _, paths := range append(lists, nil, all) {
		closes(t, g, paths, plainReach(l, paths))
		leaves(t, g, paths, plainDead(l, paths))
	}
	for _, i := range l {
		for _, p := range all {
			if got, want := g.Refers(i.Path, p), slices.Contains(i.Refs, p); got != want {
				t.Errorf("Refers(%.300q, %.300q): %v, want %v", i.Path, p, got, want)
			}
		}
		tells(t, fmt.Sprintf("Derived(%.300q)", i.Deriver), g.Derived(i.Deriver), plainDerived(l, i.Deriver))
	}
	order, e := plainOrder(l)
	if e != api.OK {
		goesRound(t, g)
	} else {
		orders(t, g, order)
	}
	if t.Failed() {
		t.Fatalf("the infos were %s", short(l))
	}
}

// short tells infos, or of many of them the first.
func short(l []api.Info) string {
	if len(l) > 8 {
		return fmt.Sprintf("%d infos: %.300q ..", len(l), l[:8])
	}
	return fmt.Sprintf("%.1000q", l)
}
