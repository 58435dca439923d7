package tree_test

import (
	"slices"
	"testing"

	"stillroom/api"
	"stillroom/block"
	"stillroom/tree"
)

// P6.4

// keeps tells which of so many writes may be kept: all ways of few, some of many.
func keeps(writes int) [][]bool {
	var ways [][]bool
	if writes <= 3 {
		for mask := range 1 << writes {
			keep := make([]bool, writes)
			for k := range keep {
				keep[k] = mask>>k&1 == 1
			}
			ways = append(ways, keep)
		}
		return ways
	}
	x := noise(writes)
	ways = append(ways, nil, slices.Repeat([]bool{true}, writes), x.keep(writes), x.keep(writes), x.keep(writes))
	for k := range writes {
		one, others := make([]bool, writes), slices.Repeat([]bool{true}, writes)
		one[k], others[k] = true, false
		ways = append(ways, one, others)
	}
	return ways
}

// mounted asks that Mount finds this tree, twice, also where the power goes in
// the midst of mounting; and that the tree that is found goes on.
func mounted(t *testing.T, d *block.Disk, want api.Node) {
	t.Helper()
	o := fresh(t, d)
	gets(t, mount(t, o), "/", want)
	events := o.Events()
	again := mount(t, o)
	gets(t, again, "/", want)
	room(t, again, plainSectors(want), d.Sectors()-5-plainSectors(want))
	if o.Events() != events {
		t.Fatal("the second Mount wrote")
	}
	for n := range events + 1 {
		for _, keep := range [][]bool{nil, {true}} {
			lost := after(t, o, n, keep)
			gets(t, mount(t, lost), "/", want)
			gets(t, mount(t, lost), "/", want)
		}
	}
	become(t, again, dir())
	commit(t, again)
	lost := after(t, o, o.Events(), nil)
	gets(t, mount(t, lost), "/", dir())
}

// losses asks that behind a power loss anywhere in the commit whose events are
// the last ones from one on, the tree is what was, or what is.
func losses(t *testing.T, d *block.Disk, from int, was, is api.Node) {
	t.Helper()
	needs := plainSectors(is)
	// The journal's header is written behind the tree's sectors, a flush, the
	// journal's data and another flush; and it stands behind one more flush.
	header := needs + 4
	for n := range d.Events() - from + 1 {
		writes := 1
		if n <= needs {
			writes = n
		}
		for _, keep := range keeps(writes) {
			want := was
			if n > header || n == header && keep[0] {
				want = is
			}
			mounted(t, after(t, d, from+n, keep), want)
		}
	}
}

func TestPowerLossesInACommit(t *testing.T) {
	x, d := newTree(t, 40)
	was := dir()
	for _, is := range []api.Node{
		dir(entry{"a", file("x")}),
		dir(),
		treeOf(3),
		dir(entry{"a", dir(entry{"b", link("b")})}, entry{"f", fileOf(600)}),
		dir(entry{"a", dir(entry{"c", link("b")})}, entry{"f", fileOf(601)}),
		dir(entry{"a", dir(entry{"c", link("b")})}, entry{"f", fileOf(601)}), // the same once more
		sample(),
		treeOf(35 - plainSectors(sample())), // all that is free
		dir(),
	} {
		become(t, x, is)
		from := d.Events()
		commit(t, x)
		losses(t, d, from, was, is)
		was = is
	}
}

func TestPowerLossesInCommitsOfSmallDisks(t *testing.T) {
	for sectors := 8; sectors < 14; sectors++ {
		x, d := newTree(t, sectors)
		was := dir()
		for i := range 8 {
			is := dir()
			if i%2 == 0 && sectors > 8 {
				is = treeOf(sectors - 6)
			}
			become(t, x, is)
			from := d.Events()
			commit(t, x)
			losses(t, d, from, was, is)
			was = is
		}
	}
}

func TestPowerLossesInAGreatCommit(t *testing.T) {
	x, d := newTree(t, api.MaxSectors)
	was := wide(300)
	fill(t, x, was)
	commit(t, x)
	is := dir(entry{"big", fileOf(api.MaxFile)}, entry{"more", treeOf(400)})
	become(t, x, is)
	from, needs := d.Events(), plainSectors(is)
	commit(t, x)
	y := noise(41)
	for n := 0; n <= d.Events()-from; n++ {
		if n > 3 && n < needs-3 && y.below(25) > 0 {
			continue
		}
		for _, keep := range [][]bool{nil, slices.Repeat([]bool{true}, n), y.keep(n)} {
			want := was
			if n > needs+4 || n == needs+4 && len(keep) > 0 && keep[0] {
				want = is
			}
			o := after(t, d, from+n, keep)
			gets(t, mount(t, o), "/", want)
			gets(t, mount(t, o), "/", want)
		}
	}
}

func TestPowerLossesInFormat(t *testing.T) {
	x, d := newTree(t, 30)
	was := treeOf(24) // all but one sector
	become(t, x, was)
	commit(t, x)
	from := d.Events()
	format(t, d)
	losses(t, d, from, was, dir())

	// Of a disk that has no tree there is none, or the one that is being made.
	d = newDisk(t, 30)
	format(t, d)
	for n := range d.Events() + 1 {
		for _, keep := range [][]bool{nil, {true}} {
			o := after(t, d, n, keep)
			if n > 5 || n == 5 && keep != nil {
				mounted(t, o, dir())
			} else {
				hasNone(t, "a disk that was not formatted", o)
			}
		}
	}
}

func TestFormatBehindAPowerLoss(t *testing.T) {
	x, d := newTree(t, 16)
	put(t, x, "/a", fileOf(900))
	from := d.Events()
	commit(t, x)
	is := whole(t, x)
	for n := range d.Events() - from + 1 {
		o := after(t, d, from+n, nil)
		found := whole(t, mount(t, fresh(t, o)))
		y := format(t, o)
		gets(t, y, "/", dir())
		// The journal's header may be done first; then it is a commit.
		for k := range o.Events() + 1 {
			for _, keep := range [][]bool{nil, {true}} {
				got := whole(t, mount(t, after(t, o, k, keep)))
				if !same(got, found) && !same(got, dir()) {
					t.Fatalf("behind %d and %d events: another tree", n, k)
				}
			}
		}
		gets(t, mount(t, after(t, o, o.Events(), nil)), "/", dir())
		if n == d.Events()-from && !same(found, is) {
			t.Error("the last commit was not found")
		}
	}
}

func TestPowerLossesInManyCalls(t *testing.T) {
	x := noise(42)
	for range 12 {
		y, d := newTree(t, 30+x.below(60))
		h := &history{y, d, newModel(), newModel(), map[string]int{}}
		for range 60 {
			from, was := d.Events(), h.last.node("/")
			h.step(t, &x)
			is := h.last.node("/")
			for n := from; n <= d.Events(); n++ {
				o := after(t, d, n, x.keep(x.below(12)))
				got := whole(t, mount(t, o))
				if !same(got, was) && !same(got, is) || n == from && !same(got, was) || n == d.Events() && !same(got, is) {
					t.Fatalf("behind event %d of %d to %d: another tree", n, from, d.Events())
				}
				gets(t, mount(t, o), "/", got)
			}
		}
	}
}

func TestTheTreeGoesOnBehindAPowerLoss(t *testing.T) {
	x, d := newTree(t, 24)
	put(t, x, "/a", fileOf(900))
	commit(t, x)
	was := whole(t, x)
	put(t, x, "/b", fileOf(700))
	from := d.Events()
	commit(t, x)
	y := noise(43)
	for n := range d.Events() - from + 1 {
		o := after(t, d, from+n, y.keep(20))
		z := mount(t, o)
		if same(whole(t, z), was) {
			put(t, z, "/c", fileOf(256*4)) // all that is free
		} else {
			remove(t, z, "/b")
		}
		first, mid, is := whole(t, mount(t, fresh(t, o))), o.Events(), whole(t, z)
		commit(t, z)
		for k := mid; k <= o.Events(); k++ {
			got := whole(t, mount(t, after(t, o, k, y.keep(20))))
			if !same(got, first) && !same(got, is) {
				t.Fatalf("behind %d and %d events: another tree", n, k)
			}
		}
		gets(t, mount(t, after(t, o, o.Events(), nil)), "/", is)
	}
}

func TestATreeWhoseDiskLostItsTree(t *testing.T) {
	x, d := newTree(t, 20)
	put(t, x, "/a", file("x"))
	commit(t, x)
	put(t, x, "/b", file("y"))
	n := whole(t, x)
	for i := range 20 {
		write(t, d, i, make([]byte, api.Sector))
	}
	// There is nothing that an Abort could find; but the tree can be committed.
	if e := x.Abort(); e != api.ErrForm {
		t.Errorf("Abort: %v", e)
	}
	gets(t, x, "/", n)
	room(t, x, plainSectors(n), 15)
	commit(t, x)
	gets(t, mount(t, d), "/", n)
	if _, e := tree.Mount(after(t, d, d.Events(), nil)); e != api.OK {
		t.Errorf("Mount: %v", e)
	}
}
