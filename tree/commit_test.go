package tree_test

import (
	"bytes"
	"fmt"
	"slices"
	"strings"
	"testing"

	"stillroom/api"
	"stillroom/block"
	"stillroom/tree"
	"stillroom/wal"
)

// P6.1

func TestFormatAndMountOfDisksThatAreNone(t *testing.T) {
	none, _ := block.New(0)
	for _, d := range []*block.Disk{nil, {}, new(block.Disk), none} {
		for range 2 {
			if x, e := tree.Format(d); x != nil || e != api.ErrNil {
				t.Errorf("Format: %v, %v", x, e)
			}
			if x, e := tree.Mount(d); x != nil || e != api.ErrNil {
				t.Errorf("Mount: %v, %v", x, e)
			}
		}
	}
}

func TestFormatAndMountOfSmallDisks(t *testing.T) {
	for sectors := 1; sectors < 8; sectors++ {
		d := newDisk(t, sectors)
		// A journal's header that stands is not done: the disk is too small.
		header := make([]byte, api.Sector)
		copy(header, "stillwal\x00\x00\x00\x00\x00\x00\x00\x01\x00\x00\x00\x00\x00\x00\x00\x04")
		write(t, d, 0, header)
		first, events := content(t, d), d.Events()
		if x, e := tree.Format(d); x != nil || e != api.ErrFull {
			t.Errorf("Format(%d sectors): %v, %v", sectors, x, e)
		}
		if x, e := tree.Mount(d); x != nil || e != api.ErrFull {
			t.Errorf("Mount(%d sectors): %v, %v", sectors, x, e)
		}
		if d.Events() != events || !bytes.Equal(content(t, d), first) {
			t.Errorf("%d sectors: something was written", sectors)
		}
	}
}

func TestFormatOfEachDisk(t *testing.T) {
	for _, sectors := range []int{8, 9, 10, 20, 100, 256, 257, 1000, api.MaxSectors - 1, api.MaxSectors} {
		x, d := newTree(t, sectors)
		gets(t, x, "/", dir())
		room(t, x, 1, sectors-6)
		y := mount(t, d)
		gets(t, y, "/", dir())
		room(t, y, 1, sectors-6)
		z := mount(t, after(t, d, d.Events(), nil)) // all of it was flushed
		gets(t, z, "/", dir())
	}
}

func TestFormatOfADiskThatHasATree(t *testing.T) {
	x, d := newTree(t, 20)
	for range 8 {
		put(t, x, "/a", fileOf(256*(20-6-4)))
		room(t, x, 14-1, 14)
		commit(t, x)
		x = format(t, d)
		gets(t, x, "/", dir())
		room(t, x, 1, 14)
		gets(t, mount(t, d), "/", dir())
	}
}

func TestFormatOfADiskWithOtherBytes(t *testing.T) {
	x := noise(31)
	for sectors := 8; sectors < 30; sectors++ {
		d := newDisk(t, sectors)
		for n := range sectors {
			write(t, d, n, x.bytes(api.Sector))
		}
		y := format(t, d)
		gets(t, y, "/", dir())
		put(t, y, "/a", file(""))
		if sectors > 8 {
			commit(t, y)
			gets(t, mount(t, d), "/", dir(entry{"a", file("")}))
		} else {
			failsCommit(t, y, d, api.ErrFull)
		}
	}
}

// hasNone asks that a disk has no tree, and that nothing is written to it.
func hasNone(t *testing.T, what string, d *block.Disk) {
	t.Helper()
	events := d.Events()
	if x, e := tree.Mount(d); x != nil || e != api.ErrForm {
		t.Errorf("%s: Mount: %v, %v", what, x, e)
	}
	if d.Events() != events {
		t.Errorf("%s: something was written", what)
	}
}

func TestMountOfADiskWithoutATree(t *testing.T) {
	for _, sectors := range []int{8, 9, 20, api.MaxSectors} {
		for _, c := range []byte{0, 1, 2, 4, 5, 7, 32, 127, 128, 255} {
			d := newDisk(t, sectors)
			for n := range sectors {
				write(t, d, n, bytes.Repeat([]byte{c}, api.Sector))
			}
			hasNone(t, fmt.Sprintf("%d sectors, all %d", sectors, c), d)
		}
	}
	x := noise(32)
	for range 200 {
		d := newDisk(t, 8+x.below(20))
		for n := range d.Sectors() {
			write(t, d, n, x.bytes(api.Sector))
		}
		hasNone(t, "noise", d)
	}
}

func TestMountWithoutTheSectorThatTellsWhere(t *testing.T) {
	x, d := newTree(t, 40)
	put(t, x, "/a", sample())
	commit(t, x)
	for what, b := range map[string][]byte{"0": make([]byte, api.Sector), "255": bytes.Repeat([]byte{255}, api.Sector), "another": read(t, d, 0), "a node": read(t, d, 5)} {
		o := fresh(t, d)
		write(t, o, 4, b)
		hasNone(t, what, o)
	}
	o := fresh(t, d)
	for n := 5; n < 40; n++ {
		write(t, o, n, make([]byte, api.Sector))
	}
	hasNone(t, "no nodes", o)
}

// Whatever lies on a disk, Mount ends, and tells a tree that may be, or none; a
// tree that is told goes on.
func TestMountOfSpoiltDisks(t *testing.T) {
	x, d := newTree(t, 24)
	put(t, x, "/a", dir(entry{"b", dir(entry{"c", script("c")})}, entry{"d", fileOf(300)}))
	put(t, x, "/l", link("l"))
	commit(t, x)
	was := whole(t, x)
	d = fresh(t, d)
	faults := 0
	for n := 4; n < d.Sectors(); n++ {
		first := read(t, d, n)
		for i := range api.Sector {
			for _, c := range []byte{0, 1, 2, 3, 4, 5, 6, 7, 9, 23, 24, 60, 124, 125, 255, first[i] + 1, first[i] - 1, first[i] ^ 128} {
				b := slices.Clone(first)
				b[i] = c
				write(t, d, n, b)
				y, e := tree.Mount(d)
				switch {
				case e == api.ErrForm && y == nil:
					faults++
				case e != api.OK || y == nil || tree.Right(whole(t, y)) != api.OK:
					t.Fatalf("sector %d, byte %d, %d: %v, %v", n, i, c, y, e)
				}
			}
		}
		write(t, d, n, first)
		d = fresh(t, d)
	}
	if faults < 500 {
		t.Errorf("only %d faults", faults)
	}
	gets(t, mount(t, d), "/", was)
}

func TestMountDoesTheJournal(t *testing.T) {
	x, d := newTree(t, 20)
	put(t, x, "/a", file("x"))
	commit(t, x)
	// The last four events write the sector 4, and take the header away.
	o := after(t, d, d.Events()-4, nil)
	first := fresh(t, o)
	gets(t, mount(t, o), "/", dir(entry{"a", file("x")}))
	if _, e := wal.Open(first, 0, 4); e != api.OK {
		t.Fatal(e)
	}
	if o.Events() != 4 || first.Events() != 4 || !bytes.Equal(content(t, o), content(t, first)) {
		t.Error("Mount wrote something else than the journal's opening")
	}
	mount(t, o)
	if o.Events() != 4 {
		t.Error("the second Mount wrote")
	}
	// The journal is opened also where no tree is found.
	blank := newDisk(t, 20)
	write(t, blank, 0, read(t, after(t, d, d.Events()-4, nil), 0))
	n := blank.Events()
	if x, e := tree.Mount(blank); x != nil || e != api.ErrForm {
		t.Errorf("Mount: %v, %v", x, e)
	}
	if blank.Events() != n+4 || !bytes.Equal(read(t, blank, 0), make([]byte, api.Sector)) {
		t.Error("the journal was not opened")
	}
}

func TestTheJournalHasFourSectors(t *testing.T) {
	for count, stands := range map[int]bool{1: true, 3: true, 4: false} {
		header := make([]byte, api.Sector)
		copy(header, "stillwal")
		header[15] = byte(count)
		for i := range count {
			header[23+8*i] = byte(10 + i)
		}
		for _, call := range []func(*block.Disk) (*tree.Tree, api.Errno){tree.Mount, tree.Format} {
			d := newDisk(t, 20)
			for n := range 4 {
				write(t, d, n, bytes.Repeat([]byte{byte(n + 1)}, api.Sector))
			}
			write(t, d, 0, header)
			call(d)
			for i := range count {
				want := make([]byte, api.Sector)
				if stands {
					want = bytes.Repeat([]byte{byte(i + 2)}, api.Sector)
				}
				if b := read(t, d, 10+i); !bytes.Equal(b, want) {
					t.Errorf("a header of %d: the sector %d is %x", count, 10+i, b[:8])
				}
			}
		}
	}
}

// P6.3

func TestRoom(t *testing.T) {
	x, d := newTree(t, 40)
	room(t, x, 1, 34)
	put(t, x, "/a", fileOf(0))
	room(t, x, 3, 34)
	put(t, x, "/b", fileOf(256))
	room(t, x, 5, 34)
	put(t, x, "/c", fileOf(257))
	room(t, x, 8, 34)
	put(t, x, "/d", dir(entry{"l", link("l")}))
	room(t, x, 12, 34)
	commit(t, x)
	room(t, x, 12, 23)
	remove(t, x, "/c")
	room(t, x, 9, 23)
	rename(t, x, "/d", "/"+longName(0, api.MaxName))
	room(t, x, 9, 23)
	abort(t, x)
	room(t, x, 12, 23)
	// It may need more than there is.
	put(t, x, "/x", fileOf(api.MaxFile))
	put(t, x, "/y", fileOf(api.MaxFile))
	room(t, x, 12+250, 23)
	failsCommit(t, x, d, api.ErrFull)
	room(t, mount(t, d), 12, 23)
}

// treeOf tells a tree that needs so many sectors (1, or from 3 on).
func treeOf(needs int) api.Node {
	n := dir()
	if needs == 1 {
		return n
	}
	needs -= 2 // the root and its entries
	for i := 0; needs > 0; i++ {
		size := min(needs, 125)
		n.Names = append(n.Names, fmt.Sprintf("%02d", i))
		n.Nodes = append(n.Nodes, fileOf((size-1)*api.Sector))
		needs -= size
	}
	return n
}

// become makes a tree have just what this one has.
func become(t *testing.T, x *tree.Tree, n api.Node) {
	t.Helper()
	for _, name := range whole(t, x).Names {
		remove(t, x, "/"+name)
	}
	fill(t, x, n)
}

func TestCommitWithJustEnoughRoom(t *testing.T) {
	for _, sectors := range []int{8, 9, 10, 11, 12, 20, 33, 64, 255, 256, 257, 258, 1000, api.MaxSectors - 1, api.MaxSectors} {
		x, d := newTree(t, sectors)
		if sectors > 8 {
			become(t, x, treeOf(sectors-6))
			room(t, x, sectors-6, sectors-6)
			commit(t, x)
			room(t, x, sectors-6, 1)
			gets(t, mount(t, d), "/", treeOf(sectors-6))
			failsCommit(t, x, d, api.ErrFull) // once more there is no room for it
			gets(t, mount(t, d), "/", treeOf(sectors-6))
			become(t, x, treeOf(3))
			failsCommit(t, x, d, api.ErrFull)
			become(t, x, treeOf(1))
			commit(t, x) // but for the root alone there is
			room(t, x, 1, sectors-6)
		}
		become(t, x, treeOf(max(sectors-5, 3)))
		room(t, x, sectors-5, sectors-6)
		failsCommit(t, x, d, api.ErrFull)
		gets(t, mount(t, d), "/", dir())
		gets(t, x, "/", treeOf(sectors-5))
		abort(t, x)
		gets(t, x, "/", dir())
	}
}

func TestCommitAgainAndAgain(t *testing.T) {
	x, d := newTree(t, 35)
	for i := range 60 {
		// Two trees share the disk to its last sector.
		one, two := 3+i%25, 30-(3+i%25)
		for _, needs := range []int{one, two} {
			if needs < 3 {
				continue
			}
			become(t, x, treeOf(1))
			commit(t, x)
			become(t, x, treeOf(one))
			commit(t, x)
			become(t, x, treeOf(needs))
			if needs > 30-one {
				failsCommit(t, x, d, api.ErrFull)
				abort(t, x)
				continue
			}
			commit(t, x)
			gets(t, mount(t, d), "/", treeOf(needs))
			room(t, x, needs, 30-needs)
			become(t, x, treeOf(30-needs+1))
			failsCommit(t, x, d, api.ErrFull)
			gets(t, mount(t, d), "/", treeOf(needs))
		}
	}
	become(t, x, treeOf(1))
	commit(t, x)
	become(t, x, treeOf(15))
	for range 100 { // half of the disk, from one half to the other one
		commit(t, x)
		room(t, x, 15, 15)
	}
	gets(t, mount(t, after(t, d, d.Events(), nil)), "/", treeOf(15))
	put(t, x, "/z", file(""))
	failsCommit(t, x, d, api.ErrFull)
}

func TestCommitOfTheLimits(t *testing.T) {
	most := wide(api.MaxNodes)
	deep := chain(api.MaxDepth)
	entries := full(api.MaxFile)
	bytes := dir(entry{"f", fileOf(api.MaxFile)}, entry{"g", script(strings.Repeat("g", api.MaxFile))}, entry{"l", link(strings.Repeat("l", 1024))})
	for i, n := range []api.Node{most, deep, entries, bytes} {
		x, d := newTree(t, api.MaxSectors)
		fill(t, x, n)
		commit(t, x)
		y := mount(t, d)
		gets(t, y, "/", n)
		room(t, y, plainSectors(n), api.MaxSectors-5-plainSectors(n))
		if i == 0 {
			failsPut(t, y, d, "/a", file(""), api.ErrBig)
		}
	}
}

func TestCommitOfManyTrees(t *testing.T) {
	x := noise(33)
	y, d := newTree(t, 500)
	for range 150 {
		n := x.node(4)
		for n.Kind != api.Dir {
			n = x.node(4)
		}
		become(t, y, n)
		if plainSectors(n) > 495-plainSectors(whole(t, mount(t, d))) {
			failsCommit(t, y, d, api.ErrFull)
			abort(t, y)
			continue
		}
		commit(t, y)
		gets(t, y, "/", n)
		gets(t, mount(t, d), "/", n)
	}
}

func TestAbort(t *testing.T) {
	x, d := newTree(t, 60)
	put(t, x, "/a", file("x"))
	abort(t, x)
	gets(t, x, "/", dir())
	fill(t, x, sample())
	commit(t, x)
	for name, change := range map[string]func(){
		"nothing":            func() {},
		"a put":              func() { put(t, x, "/d/d/x", file("x")) },
		"a remove":           func() { remove(t, x, "/d") },
		"a remove within":    func() { remove(t, x, "/d/f") },
		"a rename":           func() { rename(t, x, "/f", "/d/g") },
		"a rename of a Dir":  func() { rename(t, x, "/d", "/e/d") },
		"a put, a remove":    func() { put(t, x, "/x", file("x")); remove(t, x, "/x") },
		"another in its way": func() { remove(t, x, "/f"); put(t, x, "/f", dir()) },
		"all":                func() { become(t, x, dir()) },
		"too much": func() {
			put(t, x, "/big", fileOf(api.MaxFile))
			failsCommit(t, x, d, api.ErrFull)
		},
	} {
		change()
		events := d.Events()
		abort(t, x)
		if !same(whole(t, x), sample()) {
			t.Errorf("behind %s: another tree", name)
		}
		if d.Events() != events {
			t.Errorf("behind %s: Abort wrote", name)
		}
		gets(t, mount(t, d), "/", sample())
		abort(t, x)
	}
	remove(t, x, "/d")
	commit(t, x)
	n := whole(t, x)
	put(t, x, "/d", file("d"))
	abort(t, x)
	gets(t, x, "/", n)
}

func TestChangesAreNotOnTheDiskTillTheyAreCommitted(t *testing.T) {
	x, d := newTree(t, 60)
	events := d.Events()
	fill(t, x, sample())
	rename(t, x, "/d", "/dd")
	remove(t, x, "/e")
	x.Get("/")
	x.Room()
	if d.Events() != events {
		t.Errorf("%d events, want %d", d.Events(), events)
	}
	gets(t, mount(t, d), "/", dir())
}

func TestTwoTreesOfOneDisk(t *testing.T) {
	x, d := newTree(t, 40)
	y := mount(t, d)
	put(t, x, "/x", treeOf(9))
	put(t, y, "/y", treeOf(7))
	lacks(t, y, "/x", api.ErrNone)
	commit(t, x)
	lacks(t, y, "/x", api.ErrNone) // what another one commits is not seen till an Abort
	room(t, y, 9, 35-11)
	from := d.Events()
	commit(t, y) // it must spare what x committed
	losses(t, d, from, dir(entry{"x", treeOf(9)}), dir(entry{"y", treeOf(7)}))
	room(t, x, 11, 35-9)
	gets(t, x, "/", dir(entry{"x", treeOf(9)}))
	abort(t, x)
	gets(t, x, "/", dir(entry{"y", treeOf(7)}))
	z := format(t, d)
	gets(t, y, "/", dir(entry{"y", treeOf(7)}))
	abort(t, y)
	gets(t, y, "/", dir())
	put(t, z, "/z", file("z"))
	commit(t, z)
	gets(t, mount(t, d), "/", dir(entry{"z", file("z")}))
}

// The disk: which sectors are written, and when.

// written tells which sectors the events from one on up to another one changed.
func written(t *testing.T, d *block.Disk, from, to int) []int {
	t.Helper()
	var l []int
	all := slices.Repeat([]bool{true}, to)
	for n := from; n < to; n++ {
		was, is := after(t, d, n, all), after(t, d, n+1, all)
		for k := range d.Sectors() {
			if !bytes.Equal(read(t, was, k), read(t, is, k)) {
				l = append(l, k)
			}
		}
	}
	return l
}

func TestEventsOfCommit(t *testing.T) {
	x := noise(34)
	y, d := newTree(t, 40)
	for range 25 {
		was := whole(t, mount(t, d))
		needs := 3 + x.below(12)
		become(t, y, treeOf(needs))
		put(t, y, "/new", file(fmt.Sprint(x.next()))) // it has what no sector had
		needs += 2
		from := d.Events()
		commit(t, y)
		// Each of its sectors once, a flush, and the eight events of the journal.
		if n := d.Events() - from; n != needs+1+8 {
			t.Fatalf("%d events for %d sectors", n, needs)
		}
		first := after(t, d, from, nil)
		tree := written(t, d, from, from+needs)
		spoilt := fresh(t, first)
		for _, n := range tree {
			if n < 5 {
				t.Errorf("the sector %d was written ahead of the journal", n)
			}
			write(t, spoilt, n, x.bytes(api.Sector))
		}
		gets(t, mount(t, spoilt), "/", was) // it uses none of them
		if l := written(t, d, from+needs, from+needs+1); len(l) > 0 {
			t.Errorf("no flush behind the tree's sectors, but a write to %v", l)
		}
		// Behind it: what the journal makes of a commit of the sector 4.
		flushed := after(t, d, from+needs+1, nil)
		j, _ := wal.Open(flushed, 0, 4)
		if e := j.Put(4, read(t, d, 4)); e != api.OK {
			t.Fatal(e)
		}
		if e := j.Commit(); e != api.OK {
			t.Fatal(e)
		}
		for n := range 9 {
			for _, keep := range [][]bool{nil, {true}} {
				if !bytes.Equal(content(t, after(t, d, from+needs+1+n, keep)), content(t, after(t, flushed, n, keep))) {
					t.Fatalf("other events than the journal's: behind %d", n)
				}
			}
		}
	}
}
