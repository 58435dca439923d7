package block_test

import (
	"bytes"
	"fmt"
	"math"
	"slices"
	"testing"

	"stillroom/api"
	"stillroom/block"
)

// noise tells numbers that are alike in every run.
type noise uint64

func (x *noise) next() uint64 {
	*x ^= *x << 13
	*x ^= *x >> 7
	*x ^= *x << 17
	return uint64(*x) >> 16
}

func (x *noise) below(n int) int { return int(x.next() % uint64(n)) }

func (x *noise) bytes(n int) []byte {
	b := make([]byte, n)
	for i := range b {
		b[i] = byte(x.next())
	}
	return b
}

// all tells a sector whose bytes are all alike.
func all(c byte) []byte { return bytes.Repeat([]byte{c}, api.Sector) }

func newDisk(t *testing.T, sectors int) *block.Disk {
	t.Helper()
	d, e := block.New(sectors)
	if e != api.OK || d == nil {
		t.Fatalf("New(%d): %v, %v", sectors, d, e)
	}
	return d
}

func write(t *testing.T, d *block.Disk, n int, b []byte) {
	t.Helper()
	if e := d.Write(n, b); e != api.OK {
		t.Fatalf("Write(%d): %v", n, e)
	}
}

func flush(t *testing.T, d *block.Disk) {
	t.Helper()
	if e := d.Flush(); e != api.OK {
		t.Fatalf("Flush: %v", e)
	}
}

func after(t *testing.T, d *block.Disk, events int, keep ...bool) *block.Disk {
	t.Helper()
	o, e := d.After(events, keep)
	if e != api.OK || o == nil {
		t.Fatalf("After(%d, %v): %v, %v", events, keep, o, e)
	}
	if o.Events() != 0 || o.Sectors() != d.Sectors() {
		t.Fatalf("After(%d, %v): %d events, %d sectors", events, keep, o.Events(), o.Sectors())
	}
	return o
}

// content tells all bytes of a disk.
func content(t *testing.T, d *block.Disk) []byte {
	t.Helper()
	var whole []byte
	for n := range d.Sectors() {
		b, e := d.Read(n)
		if e != api.OK || len(b) != api.Sector {
			t.Fatalf("Read(%d): %d bytes, %v", n, len(b), e)
		}
		whole = append(whole, b...)
	}
	return whole
}

// holds asks that the sectors are all of these bytes, one for each.
func holds(t *testing.T, d *block.Disk, want ...byte) {
	t.Helper()
	var whole []byte
	for _, c := range want {
		whole = append(whole, all(c)...)
	}
	got := content(t, d)
	if !bytes.Equal(got, whole) {
		var first []byte
		for n := 0; n < len(got); n += api.Sector {
			first = append(first, got[n])
		}
		t.Errorf("sectors that begin with %v, want all of %v", first, want)
	}
}

// P3.1

func TestNewOfNumbersThatMayBe(t *testing.T) {
	for _, n := range []int{1, 2, 17, api.MaxSectors - 1, api.MaxSectors} {
		d := newDisk(t, n)
		if d.Sectors() != n || d.Events() != 0 {
			t.Errorf("New(%d): %d sectors, %d events", n, d.Sectors(), d.Events())
		}
		if !bytes.Equal(content(t, d), make([]byte, n*api.Sector)) {
			t.Errorf("New(%d): not all 0", n)
		}
	}
}

func TestNewOfNumbersThatMayNotBe(t *testing.T) {
	for _, n := range []int{0, -1, -api.MaxSectors, math.MinInt, api.MaxSectors + 1, math.MaxInt, math.MaxInt / api.Sector, math.MaxInt/api.Sector + 2} {
		if d, e := block.New(n); d != nil || e != api.ErrArg {
			t.Errorf("New(%d): %v, %v", n, d, e)
		}
	}
}

func TestDisksOfNewAreTheirOwn(t *testing.T) {
	a, b := newDisk(t, 2), newDisk(t, 2)
	write(t, a, 1, all(7))
	holds(t, a, 0, 7)
	holds(t, b, 0, 0)
	if a.Events() != 1 || b.Events() != 0 {
		t.Error(a.Events(), b.Events())
	}
}

func TestSectorsStayAsMany(t *testing.T) {
	d := newDisk(t, 3)
	write(t, d, 2, all(1))
	flush(t, d)
	d.Write(3, all(1))
	if d.Sectors() != 3 || after(t, d, 2).Sectors() != 3 {
		t.Error(d.Sectors())
	}
}

// P3.2

func TestReadTellsWhatWasWrittenLast(t *testing.T) {
	for _, sectors := range []int{1, 2, 5, api.MaxSectors} {
		x := noise(sectors)
		d := newDisk(t, sectors)
		want := make([]byte, sectors*api.Sector)
		for i := range 40 {
			n := []int{0, sectors - 1, x.below(sectors)}[i%3]
			b := x.bytes(api.Sector)
			write(t, d, n, b)
			copy(want[n*api.Sector:], b)
			if got, e := d.Read(n); e != api.OK || !bytes.Equal(got, b) {
				t.Fatalf("%d sectors: Read(%d): %x, %v", sectors, n, got, e)
			}
			if i%7 == 0 {
				flush(t, d)
			}
		}
		if !bytes.Equal(content(t, d), want) {
			t.Errorf("%d sectors: other bytes", sectors)
		}
	}
}

func TestNoSuchSector(t *testing.T) {
	for _, sectors := range []int{1, 2, api.MaxSectors} {
		d := newDisk(t, sectors)
		for _, n := range []int{-1, sectors, sectors + 1, math.MinInt, math.MaxInt, math.MaxInt/api.Sector + 1, -(math.MaxInt / api.Sector) - 1} {
			if b, e := d.Read(n); len(b) != 0 || e != api.ErrArg {
				t.Errorf("%d sectors: Read(%d): %x, %v", sectors, n, b, e)
			}
			if e := d.Write(n, all(7)); e != api.ErrArg {
				t.Errorf("%d sectors: Write(%d): %v", sectors, n, e)
			}
		}
		if d.Events() != 0 || !bytes.Equal(content(t, d), make([]byte, sectors*api.Sector)) {
			t.Errorf("%d sectors: changed, %d events", sectors, d.Events())
		}
	}
}

func TestWriteOfAnotherNumberOfBytes(t *testing.T) {
	d := newDisk(t, 2)
	write(t, d, 0, all(5))
	for _, b := range [][]byte{nil, {}, {1}, all(7)[:api.Sector-1], append(all(7), 7), append(all(7), all(7)...)} {
		for _, n := range []int{0, 1, -1, 2} {
			if e := d.Write(n, b); e != api.ErrArg {
				t.Errorf("Write(%d, %d bytes): %v", n, len(b), e)
			}
		}
	}
	holds(t, d, 5, 0)
	if d.Events() != 1 {
		t.Error(d.Events())
	}
}

func TestEventsAreWritesAndFlushes(t *testing.T) {
	d := newDisk(t, 2)
	for i, do := range []func() api.Errno{
		d.Flush,
		d.Flush,
		func() api.Errno { return d.Write(0, all(1)) },
		func() api.Errno { return d.Write(0, all(1)) },
		func() api.Errno { return d.Write(1, all(0)) },
		d.Flush,
	} {
		if d.Events() != i {
			t.Errorf("%d events, want %d", d.Events(), i)
		}
		if e := do(); e != api.OK {
			t.Error(i, e)
		}
	}
	content(t, d)
	after(t, d, 3, true)
	d.Read(2)
	d.Write(2, all(1))
	d.After(7, nil)
	if d.Events() != 6 {
		t.Errorf("%d events, want 6: what only tells, or is wrong, is none", d.Events())
	}
}

func TestFlushChangesNoBytes(t *testing.T) {
	d := newDisk(t, 3)
	write(t, d, 0, all(1))
	flush(t, d)
	write(t, d, 2, all(255))
	flush(t, d)
	flush(t, d)
	holds(t, d, 1, 0, 255)
}

func TestBytesHandedToWriteAreNotKept(t *testing.T) {
	d := newDisk(t, 3)
	room := make([]byte, 3*api.Sector)
	copy(room, all(7))
	copy(room[api.Sector:], all(9))
	b := room[:api.Sector]
	write(t, d, 1, b)
	if !bytes.Equal(room, slices.Concat(all(7), all(9), all(0))) {
		t.Error("what was handed in, or its spare room, has changed")
	}
	b[0], b[255] = 1, 2
	_ = append(b, 3)
	holds(t, d, 0, 7, 0)
	holds(t, after(t, d, 1, true), 0, 7, 0)
	write(t, d, 1, all(4))
	if b[0] != 1 || b[1] != 7 || b[255] != 2 {
		t.Error("a later write changed what was handed in")
	}
}

func TestBytesToldByReadAreNew(t *testing.T) {
	d := newDisk(t, 3)
	for n := range 3 {
		write(t, d, n, all(byte(n+1)))
	}
	one, _ := d.Read(1)
	again, _ := d.Read(1)
	for i := range one {
		one[i] = 99
	}
	_ = append(one, all(98)...)
	spare := one[:cap(one)]
	for i := range spare {
		spare[i] = 97
	}
	if !bytes.Equal(again, all(2)) {
		t.Error("two answers share memory")
	}
	holds(t, d, 1, 2, 3)
	holds(t, after(t, d, 3, true, true, true), 1, 2, 3)
	write(t, d, 1, all(50))
	if !bytes.Equal(again, all(2)) {
		t.Error("a later write changed what was told")
	}
}

// P3.3

func TestAfterOfTheExample(t *testing.T) {
	d := newDisk(t, 2)
	write(t, d, 1, all(7))
	holds(t, after(t, d, 1), 0, 0)
	holds(t, after(t, d, 1, true), 0, 7)
	holds(t, after(t, d, 1, false), 0, 0)
	flush(t, d)
	holds(t, after(t, d, 2), 0, 7)
	holds(t, after(t, d, 1), 0, 0)
}

func TestAfterOfNumbersOfEvents(t *testing.T) {
	d := newDisk(t, 1)
	for i := range 4 {
		for _, n := range []int{-1, math.MinInt, i + 1, i + 2, math.MaxInt} {
			if o, e := d.After(n, []bool{true, true, true, true, true}); o != nil || e != api.ErrArg {
				t.Errorf("%d events: After(%d): %v, %v", i, n, o, e)
			}
		}
		holds(t, after(t, d, 0, true, true, true, true), 0)
		holds(t, after(t, d, i, true, true, true, true), byte(i))
		write(t, d, 0, all(byte(i+1)))
	}
}

func TestAfterWithLongerAndShorterKeep(t *testing.T) {
	d := newDisk(t, 4)
	write(t, d, 0, all(1))
	flush(t, d)
	write(t, d, 1, all(2))
	write(t, d, 2, all(3))
	write(t, d, 3, all(4))
	for _, c := range []struct {
		keep []bool
		want [4]byte
	}{
		{nil, [4]byte{1, 0, 0, 0}},
		{[]bool{}, [4]byte{1, 0, 0, 0}},
		{[]bool{true}, [4]byte{1, 2, 0, 0}},
		{[]bool{false, true}, [4]byte{1, 0, 3, 0}},
		{[]bool{false, false, true}, [4]byte{1, 0, 0, 4}},
		{[]bool{true, false, true}, [4]byte{1, 2, 0, 4}},
		{[]bool{true, true, true}, [4]byte{1, 2, 3, 4}},
		{[]bool{false, false, false}, [4]byte{1, 0, 0, 0}},
		{[]bool{true, true, true, true, false, true}, [4]byte{1, 2, 3, 4}},
		{[]bool{false, false, false, true, true}, [4]byte{1, 0, 0, 0}},
		{[]bool{true, true, true}[:1], [4]byte{1, 2, 0, 0}},
		{[]bool{true, true, true}[:0], [4]byte{1, 0, 0, 0}},
	} {
		was := slices.Clone(c.keep)
		holds(t, after(t, d, 5, c.keep...), c.want[:]...)
		if !slices.Equal(was, c.keep) {
			t.Errorf("keep has changed: %v, %v", was, c.keep)
		}
	}
	// Fewer events: the writes that are not among them are none at all.
	holds(t, after(t, d, 4, true, true, true), 1, 2, 3, 0)
	holds(t, after(t, d, 2, true, true, true), 1, 0, 0, 0)
	holds(t, after(t, d, 1, false, true), 0, 0, 0, 0)
}

func TestAfterWhereFlushesAreFirstLastAndTwice(t *testing.T) {
	d := newDisk(t, 2)
	flush(t, d) // 1
	holds(t, after(t, d, 1, true), 0, 0)
	write(t, d, 0, all(1)) // 2
	holds(t, after(t, d, 2), 0, 0)
	holds(t, after(t, d, 2, true), 1, 0)
	holds(t, after(t, d, 2, false, true), 0, 0)
	flush(t, d) // 3
	flush(t, d) // 4
	holds(t, after(t, d, 3), 1, 0)
	holds(t, after(t, d, 4), 1, 0)
	holds(t, after(t, d, 4, false, false), 1, 0)
	write(t, d, 1, all(2)) // 5
	holds(t, after(t, d, 5), 1, 0)
	holds(t, after(t, d, 5, true), 1, 2)
	holds(t, after(t, d, 5, false, true, true), 1, 0)
	flush(t, d) // 6
	holds(t, after(t, d, 6), 1, 2)
	holds(t, after(t, d, 6, false), 1, 2)
}

func TestAfterWhereASectorIsWrittenMoreThanOnce(t *testing.T) {
	d := newDisk(t, 2)
	write(t, d, 0, all(1))
	write(t, d, 0, all(2))
	for _, c := range []struct {
		one, two bool
		want     byte
	}{{false, false, 0}, {true, false, 1}, {false, true, 2}, {true, true, 2}} {
		holds(t, after(t, d, 2, c.one, c.two), c.want, 0)
	}
	flush(t, d)
	holds(t, after(t, d, 3), 2, 0)
	write(t, d, 0, all(3))
	write(t, d, 1, all(9))
	write(t, d, 0, all(4))
	for _, c := range []struct {
		keep []bool
		want byte
	}{
		{[]bool{false, true}, 2},
		{[]bool{true, true, false}, 3},
		{[]bool{false, true, true}, 4},
		{[]bool{true, true, true}, 4},
	} {
		holds(t, after(t, d, 6, c.keep...), c.want, 9)
	}
}

func TestASectorThatIsWrittenAll0IsAWrite(t *testing.T) {
	d := newDisk(t, 2)
	write(t, d, 0, all(5))
	flush(t, d)
	write(t, d, 0, all(0))
	write(t, d, 1, all(6))
	holds(t, after(t, d, 4), 5, 0)
	holds(t, after(t, d, 4, true), 0, 0)
	holds(t, after(t, d, 4, false, true), 5, 6)
}

func TestAfterTellsADiskOnItsOwn(t *testing.T) {
	d := newDisk(t, 2)
	write(t, d, 0, all(1))
	o, p := after(t, d, 1, true), after(t, d, 1, true)
	write(t, o, 0, all(2))
	flush(t, o)
	holds(t, d, 1, 0)
	holds(t, p, 1, 0)
	if d.Events() != 1 || o.Events() != 2 || p.Events() != 0 {
		t.Error(d.Events(), o.Events(), p.Events())
	}
	write(t, d, 1, all(3))
	holds(t, o, 2, 0)
	holds(t, d, 1, 3)
	holds(t, after(t, d, 2, true, true), 1, 3)
	holds(t, after(t, d, 2), 0, 0)
}

func TestAfterLeavesTheDiskAsItIs(t *testing.T) {
	d := newDisk(t, 3)
	write(t, d, 0, all(1))
	flush(t, d)
	write(t, d, 1, all(2))
	for n := range 4 {
		after(t, d, n)
		after(t, d, n, true)
		holds(t, d, 1, 2, 0)
		if d.Events() != 3 || d.Sectors() != 3 {
			t.Error(d.Events(), d.Sectors())
		}
	}
	write(t, d, 2, all(3))
	holds(t, after(t, d, 4, true, true), 1, 2, 3)
}

func TestAfterOfADiskThatAfterTold(t *testing.T) {
	d := newDisk(t, 3)
	write(t, d, 0, all(1))
	write(t, d, 1, all(2))
	o := after(t, d, 2, true)
	if p, e := o.After(1, nil); p != nil || e != api.ErrArg {
		t.Error(p, e)
	}
	holds(t, after(t, o, 0, false), 1, 0, 0)
	write(t, o, 0, all(8))
	write(t, o, 2, all(9))
	// What the disk was told with is its first state: nothing takes it back.
	holds(t, after(t, o, 2), 1, 0, 0)
	holds(t, after(t, o, 2, false, true), 1, 0, 9)
	holds(t, after(t, after(t, o, 2, true, true), 0), 8, 0, 9)
}

// plain is what After must tell, said by the chapter's words alone.
type plain struct {
	sectors int
	sector  []int // -1: a flush
	bytes   [][]byte
}

func (p plain) after(events int, keep []bool) []byte {
	last := -1
	for i, n := range p.sector[:events] {
		if n < 0 {
			last = i
		}
	}
	whole := make([]byte, p.sectors*api.Sector)
	k := 0
	for i, n := range p.sector[:events] {
		if n < 0 {
			continue
		}
		lost := false
		if i > last {
			lost = k >= len(keep) || !keep[k]
			k++
		}
		if !lost {
			copy(whole[n*api.Sector:], p.bytes[i])
		}
	}
	return whole
}

// history does some writes and flushes, and tells them.
func (x *noise) history(t *testing.T, sectors, events int) (*block.Disk, plain) {
	t.Helper()
	d, p := newDisk(t, sectors), plain{sectors: sectors}
	for range events {
		n, b := x.below(sectors), x.bytes(api.Sector)
		if x.below(5) == 0 {
			n, b = -1, nil
			flush(t, d)
		} else {
			write(t, d, n, b)
		}
		p.sector, p.bytes = append(p.sector, n), append(p.bytes, b)
	}
	return d, p
}

func (x *noise) keep(most int) []bool {
	keep := make([]bool, x.below(most+1))
	for i := range keep {
		keep[i] = x.below(2) == 0
	}
	return keep
}

func TestAfterOfManyHistories(t *testing.T) {
	x := noise(3)
	for range 60 {
		d, p := x.history(t, 1+x.below(6), x.below(30))
		for n := range d.Events() + 1 {
			for range 3 {
				keep := x.keep(12)
				if !bytes.Equal(content(t, after(t, d, n, keep...)), p.after(n, keep)) {
					t.Fatalf("events at %v: After(%d, %v)", p.sector, n, keep)
				}
			}
		}
		all := slices.Repeat([]bool{true}, d.Events())
		if !bytes.Equal(content(t, d), content(t, after(t, d, d.Events(), all...))) {
			t.Fatalf("events at %v: the disk is not what all its events make", p.sector)
		}
	}
}

// P3.4

func TestNothingAheadOfAFlushIsLost(t *testing.T) {
	x := noise(4)
	for range 40 {
		d, p := x.history(t, 1+x.below(5), 10+x.below(10))
		flush(t, d)
		was := content(t, d)
		for _, keep := range [][]bool{nil, {false}, {true}, x.keep(30)} {
			if !bytes.Equal(content(t, after(t, d, d.Events(), keep...)), was) {
				t.Fatalf("events at %v, a flush, and keep %v: something is lost", p.sector, keep)
			}
		}
		// Later writes that are lost don't take along what they were written over.
		flushed := d.Events()
		for i := range 4 {
			write(t, d, x.below(d.Sectors()), all(byte(i)))
			o := after(t, d, flushed+i+1, make([]bool, x.below(5))...)
			if !bytes.Equal(content(t, o), was) {
				t.Fatalf("events at %v, and %d later: something is lost", p.sector, i+1)
			}
		}
	}
}

func TestNothingAheadOfAFlushIsLostByTwoPowerLosses(t *testing.T) {
	d := newDisk(t, 2)
	write(t, d, 0, all(1))
	flush(t, d)
	o := after(t, d, 2)
	write(t, o, 1, all(2))
	flush(t, o)
	write(t, o, 0, all(3))
	o = after(t, o, 3)
	holds(t, o, 1, 2)
	holds(t, after(t, o, 0), 1, 2)
}

// Disks that are nil, or that no call made.

func TestDisksThatNoCallMade(t *testing.T) {
	none, _ := block.New(0)
	for i, d := range []*block.Disk{nil, {}, new(block.Disk), none} {
		t.Run(fmt.Sprint(i), func(t *testing.T) {
			for _, n := range []int{-1, 0, 1, math.MaxInt, math.MinInt} {
				if b, e := d.Read(n); len(b) != 0 || e != api.ErrNil {
					t.Errorf("Read(%d): %x, %v", n, b, e)
				}
				for _, b := range [][]byte{nil, {1}, all(7)} {
					if e := d.Write(n, b); e != api.ErrNil {
						t.Errorf("Write(%d, %d bytes): %v", n, len(b), e)
					}
				}
				for _, keep := range [][]bool{nil, {true}} {
					if o, e := d.After(n, keep); o != nil || e != api.ErrNil {
						t.Errorf("After(%d, %v): %v, %v", n, keep, o, e)
					}
				}
			}
			if e := d.Flush(); e != api.ErrNil {
				t.Errorf("Flush: %v", e)
			}
			if d.Events() != 0 || d.Sectors() != 0 {
				t.Errorf("%d events, %d sectors", d.Events(), d.Sectors())
			}
		})
	}
}
