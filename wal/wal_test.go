package wal_test

import (
	"bytes"
	"encoding/binary"
	"fmt"
	"maps"
	"math"
	"slices"
	"testing"

	"stillroom/api"
	"stillroom/block"
	"stillroom/wal"
)

// noise tells numbers that are alike in every run.
type noise uint64

func (x *noise) next() uint64 {
	*x ^= *x << 13
	*x ^= *x >> 7
	*x ^= *x << 17
	return uint64(*x) >> 16
}

func (x *noise) below(n int) int { return int(x.next() % uint64(n)) }

func (x *noise) bytes(n int) []byte {
	b := make([]byte, n)
	for i := range b {
		b[i] = byte(x.next())
	}
	return b
}

func (x *noise) keep(n int) []bool {
	keep := make([]bool, n)
	for i := range keep {
		keep[i] = x.below(2) == 0
	}
	return keep
}

// all tells a sector whose bytes are all alike.
func all(c byte) []byte { return bytes.Repeat([]byte{c}, api.Sector) }

func newDisk(t *testing.T, sectors int) *block.Disk {
	t.Helper()
	d, e := block.New(sectors)
	if e != api.OK || d == nil {
		t.Fatalf("New(%d): %v, %v", sectors, d, e)
	}
	return d
}

// filledDisk tells a disk without events, whose n-th sector is all n + 1.
func filledDisk(t *testing.T, sectors int) *block.Disk {
	t.Helper()
	d := newDisk(t, sectors)
	for n := range sectors {
		write(t, d, n, all(byte(n+1)))
	}
	return fresh(t, d)
}

func write(t *testing.T, d *block.Disk, n int, b []byte) {
	t.Helper()
	if e := d.Write(n, b); e != api.OK {
		t.Fatalf("Write(%d): %v", n, e)
	}
}

func flush(t *testing.T, d *block.Disk) {
	t.Helper()
	if e := d.Flush(); e != api.OK {
		t.Fatalf("Flush: %v", e)
	}
}

func after(t *testing.T, d *block.Disk, events int, keep []bool) *block.Disk {
	t.Helper()
	o, e := d.After(events, keep)
	if e != api.OK || o == nil {
		t.Fatalf("After(%d, %v): %v, %v", events, keep, o, e)
	}
	return o
}

// fresh tells a disk without events that has the bytes that this one has.
func fresh(t *testing.T, d *block.Disk) *block.Disk {
	t.Helper()
	return after(t, d, d.Events(), slices.Repeat([]bool{true}, d.Events()))
}

func read(t *testing.T, d *block.Disk, n int) []byte {
	t.Helper()
	b, e := d.Read(n)
	if e != api.OK || len(b) != api.Sector {
		t.Fatalf("Read(%d): %d bytes, %v", n, len(b), e)
	}
	return b
}

// content tells all bytes of a disk.
func content(t *testing.T, d *block.Disk) []byte {
	t.Helper()
	var whole []byte
	for n := range d.Sectors() {
		whole = append(whole, read(t, d, n)...)
	}
	return whole
}

func open(t *testing.T, d *block.Disk, at, sectors int) *wal.Journal {
	t.Helper()
	j, e := wal.Open(d, at, sectors)
	if e != api.OK || j == nil {
		t.Fatalf("Open(%d sectors, %d, %d): %v, %v", d.Sectors(), at, sectors, j, e)
	}
	return j
}

func put(t *testing.T, j *wal.Journal, n int, b []byte) {
	t.Helper()
	if e := j.Put(n, b); e != api.OK {
		t.Fatalf("Put(%d): %v", n, e)
	}
}

func commit(t *testing.T, j *wal.Journal) {
	t.Helper()
	if e := j.Commit(); e != api.OK {
		t.Fatalf("Commit: %v", e)
	}
	pending(t, j)
}

func abort(t *testing.T, j *wal.Journal) {
	t.Helper()
	if e := j.Abort(); e != api.OK {
		t.Fatalf("Abort: %v", e)
	}
	pending(t, j)
}

// gets asks that the journal tells these bytes of a sector.
func gets(t *testing.T, j *wal.Journal, n int, want []byte) {
	t.Helper()
	if b, e := j.Get(n); e != api.OK || !bytes.Equal(b, want) {
		t.Errorf("Get(%d): %x, %v, want %x", n, b, e, want)
	}
}

// pending asks that just these sectors are put.
func pending(t *testing.T, j *wal.Journal, want ...int) {
	t.Helper()
	if got := j.Pending(); !slices.Equal(got, want) {
		t.Errorf("Pending: %v, want %v", got, want)
	}
}

// step is an event that a disk should have had: a sector of -1 is a flush.
type step struct {
	sector int
	bytes  []byte
}

func play(t *testing.T, d *block.Disk, steps []step) {
	t.Helper()
	for _, s := range steps {
		if s.sector < 0 {
			flush(t, d)
		} else {
			write(t, d, s.sector, s.bytes)
		}
	}
}

// headerOf tells a header with this count and these numbers, whether it stands
// or not; behind: what its other bytes are.
func headerOf(count uint64, behind byte, numbers ...uint64) []byte {
	b := []byte("stillwal")
	b = binary.BigEndian.AppendUint64(b, count)
	for _, n := range numbers {
		b = binary.BigEndian.AppendUint64(b, n)
	}
	return append(b, all(behind)...)[:api.Sector]
}

// doing tells what doing a header makes of a disk, by the chapter's words; data:
// what lies in the data sectors.
func doing(at int, numbers []int, data [][]byte) []step {
	var steps []step
	for i, n := range numbers {
		steps = append(steps, step{n, data[i]})
	}
	return append(steps, step{-1, nil}, step{at, all(0)}, step{-1, nil})
}

// committing tells what a commit of these sectors makes of a disk, likewise.
func committing(at int, puts map[int][]byte) []step {
	numbers := slices.Sorted(maps.Keys(puts))
	var steps []step
	var data [][]byte
	var words []uint64
	for i, n := range numbers {
		steps = append(steps, step{at + 1 + i, puts[n]})
		data = append(data, puts[n])
		words = append(words, uint64(n))
	}
	header := headerOf(uint64(len(numbers)), 0, words...)
	steps = append(steps, step{-1, nil}, step{at, header}, step{-1, nil})
	return append(steps, doing(at, numbers, data)...)
}

// unflushed tells how many writes lie behind the last flush of steps.
func unflushed(steps []step) int {
	n := 0
	for _, s := range steps {
		n++
		if s.sector < 0 {
			n = 0
		}
	}
	return n
}

// keeps tells which of so many writes may be kept: all ways of few, some of many.
func keeps(writes int) [][]bool {
	var ways [][]bool
	if writes <= 6 {
		for mask := range 1 << writes {
			keep := make([]bool, writes)
			for k := range keep {
				keep[k] = mask>>k&1 == 1
			}
			ways = append(ways, keep)
		}
		return ways
	}
	x := noise(writes)
	ways = append(ways, nil, slices.Repeat([]bool{true}, writes))
	for range 12 {
		ways = append(ways, x.keep(writes))
	}
	for k := range writes {
		one := make([]bool, writes)
		one[k] = true
		ways = append(ways, one)
	}
	return ways
}

// sameEvents asks that a disk that had no events had these ones since, in this
// order: behind a power loss anywhere it is then as one that they were done to.
func sameEvents(t *testing.T, got, first *block.Disk, steps []step) {
	t.Helper()
	want := fresh(t, first)
	play(t, want, steps)
	if got.Events() != len(steps) {
		t.Fatalf("%d events, want %d", got.Events(), len(steps))
	}
	if !bytes.Equal(content(t, got), content(t, want)) {
		t.Fatal("other bytes than the events make")
	}
	for n := range len(steps) + 1 {
		for _, keep := range keeps(unflushed(steps[:n])) {
			if !bytes.Equal(content(t, after(t, got, n, keep)), content(t, after(t, want, n, keep))) {
				t.Fatalf("other events: behind %d of them, with %v kept", n, keep)
			}
		}
	}
}

// P4.1

func TestOpenOfArguments(t *testing.T) {
	for _, disk := range []int{1, 2, 8, 30, 31, 32, 40, api.MaxSectors} {
		for _, sectors := range []int{math.MinInt, -2, -1, 0, 1, 2, 3, 30, 31, 32, 33, disk, disk + 1, math.MaxInt - 1, math.MaxInt} {
			for _, at := range []int{math.MinInt, -31, -2, -1, 0, 1, disk - sectors - 1, disk - sectors, disk - sectors + 1, disk - 1, disk, disk + 1,
				math.MaxInt - 31, math.MaxInt - 30, math.MaxInt - 3, math.MaxInt - 2, math.MaxInt - 1, math.MaxInt, math.MaxInt - sectors + 1} {
				want := api.ErrArg
				if sectors >= 2 && sectors <= 31 && at >= 0 && at <= disk && disk-at >= sectors {
					want = api.OK
				}
				d := newDisk(t, disk)
				j, e := wal.Open(d, at, sectors)
				if e != want || (j != nil) != (want == api.OK) {
					t.Errorf("Open(%d sectors, %d, %d): %v, %v, want %v", disk, at, sectors, j, e, want)
				}
				if d.Events() != 0 {
					t.Errorf("Open(%d sectors, %d, %d): %d events", disk, at, sectors, d.Events())
				}
			}
		}
	}
}

func TestOpenOfNamedEdges(t *testing.T) {
	for _, c := range []struct {
		at, sectors int
		want        api.Errno
	}{
		{-1, 3, api.ErrArg}, {0, 3, api.OK}, {37, 3, api.OK}, {38, 3, api.ErrArg},
		{0, 1, api.ErrArg}, {0, 2, api.OK}, {0, 31, api.OK}, {0, 32, api.ErrArg},
		{38, 2, api.OK}, {39, 2, api.ErrArg}, {9, 31, api.OK}, {10, 31, api.ErrArg}, {8, 32, api.ErrArg},
		{math.MaxInt, 2, api.ErrArg}, {math.MaxInt - 1, 2, api.ErrArg}, {math.MaxInt - 30, 31, api.ErrArg},
	} {
		if j, e := wal.Open(newDisk(t, 40), c.at, c.sectors); e != c.want || (j != nil) != (e == api.OK) {
			t.Errorf("Open(40 sectors, %d, %d): %v, %v, want %v", c.at, c.sectors, j, e, c.want)
		}
	}
}

func TestOpenOfADiskThatIsNone(t *testing.T) {
	none, _ := block.New(0)
	for _, d := range []*block.Disk{nil, {}, new(block.Disk), none} {
		for _, at := range []int{math.MinInt, -1, 0, 1, math.MaxInt} {
			for _, sectors := range []int{math.MinInt, 0, 1, 2, 31, 32, math.MaxInt} {
				if j, e := wal.Open(d, at, sectors); j != nil || e != api.ErrNil {
					t.Errorf("Open(%v, %d, %d): %v, %v", d, at, sectors, j, e)
				}
			}
		}
	}
}

// headers tells headers for a journal of 4 sectors at 5 of a disk of 12, and
// which numbers each has if it stands.
func headers() map[string]struct {
	header []byte
	stands []int
} {
	type row = struct {
		header []byte
		stands []int
	}
	rows := map[string]row{
		"one number":                   {headerOf(1, 0, 3), []int{3}},
		"two numbers":                  {headerOf(2, 0, 0, 11), []int{0, 11}},
		"as many as there may be":      {headerOf(3, 0, 0, 4, 9), []int{0, 4, 9}},
		"right ahead and behind":       {headerOf(2, 0, 4, 9), []int{4, 9}},
		"neighbours":                   {headerOf(3, 0, 9, 10, 11), []int{9, 10, 11}},
		"other bytes behind":           {headerOf(2, 0xff, 1, 2), []int{1, 2}},
		"other numbers behind":         {headerOf(1, 0, 2, 1, 6, 99), []int{2}},
		"a number behind that rises":   {headerOf(1, 0, 2, 3), []int{2}},
		"none":                         {all(0), nil},
		"all bytes 255":                {all(255), nil},
		"a count of 0":                 {headerOf(0, 0), nil},
		"a count of 0 with numbers":    {headerOf(0, 0, 1, 2, 3), nil},
		"a count of one more":          {headerOf(4, 0, 0, 1, 2, 3), nil},
		"a count of one more again":    {headerOf(5, 0, 0, 1, 2, 3, 4), nil},
		"a count of 30":                {headerOf(30, 0, 0, 1, 2), nil},
		"a count of 31":                {headerOf(31, 0, 0, 1, 2), nil},
		"a count of 2^32 + 1":          {headerOf(1<<32+1, 0, 1), nil},
		"a count of 2^63 - 1":          {headerOf(math.MaxInt64, 0, 1), nil},
		"a count of 2^63":              {headerOf(1<<63, 0, 1), nil},
		"a count of 2^63 + 1":          {headerOf(1<<63+1, 0, 1), nil},
		"a count of 2^64 - 1":          {headerOf(math.MaxUint64, 0, 1), nil},
		"numbers that fall":            {headerOf(2, 0, 2, 1), nil},
		"numbers that fall at last":    {headerOf(3, 0, 1, 3, 2), nil},
		"numbers that fall at first":   {headerOf(3, 0, 2, 1, 3), nil},
		"numbers that fall to 0":       {headerOf(2, 0, 1, 0), nil},
		"numbers that are alike":       {headerOf(2, 0, 3, 3), nil},
		"numbers that are alike, 0":    {headerOf(2, 0, 0, 0), nil},
		"a count beyond the numbers":   {headerOf(3, 0, 1, 2), nil},
		"alike at last":                {headerOf(3, 0, 1, 3, 3), nil},
		"alike, not side by side":      {headerOf(3, 0, 1, 3, 1), nil},
		"the header's own":             {headerOf(1, 0, 5), nil},
		"a data sector":                {headerOf(1, 0, 6), nil},
		"the last data sector":         {headerOf(2, 0, 1, 8), nil},
		"its own between others":       {headerOf(3, 0, 1, 7, 11), nil},
		"one that the disk has not":    {headerOf(1, 0, 12), nil},
		"one that it has not, at last": {headerOf(3, 0, 1, 2, 12), nil},
		"a very great number":          {headerOf(2, 0, 1, math.MaxInt64), nil},
		"2^32 + 1":                     {headerOf(1, 0, 1<<32+1), nil},
		"2^63":                         {headerOf(1, 0, 1<<63), nil},
		"2^63 + 3":                     {headerOf(2, 0, 1, 1<<63+3), nil},
		"2^64 - 1":                     {headerOf(1, 0, math.MaxUint64), nil},
		"2^64 - 1 ahead of others":     {headerOf(2, 0, math.MaxUint64, 3), nil},
		"2^64 - 5 behind others":       {headerOf(3, 0, 1, 2, math.MaxUint64-4), nil},
	}
	for i := range 8 {
		b := headerOf(1, 0, 3)
		b[i]++
		rows[fmt.Sprintf("byte %d changed", i)] = row{b, nil}
		b = headerOf(1, 0, 3)
		b[i] ^= 0x20
		rows[fmt.Sprintf("byte %d in capitals", i)] = row{b, nil}
	}
	little := headerOf(1, 0, 3)
	slices.Reverse(little[8:16])
	rows["a count with the lowest byte first"] = row{little, nil}
	little = headerOf(1, 0, 3)
	slices.Reverse(little[16:24])
	rows["a number with the lowest byte first"] = row{little, nil}
	return rows
}

func TestOpenDoesAHeaderThatStands(t *testing.T) {
	for name, row := range headers() {
		t.Run(name, func(t *testing.T) {
			first := filledDisk(t, 12)
			write(t, first, 5, row.header)
			d := fresh(t, first)
			j := open(t, d, 5, 4)
			pending(t, j)
			var steps []step
			if row.stands != nil {
				steps = doing(5, row.stands, [][]byte{all(7), all(8), all(9)})
			}
			sameEvents(t, d, first, steps)
			for n := range 12 {
				gets(t, j, n, read(t, d, n))
			}
			open(t, d, 5, 4)
			if d.Events() != len(steps) {
				t.Errorf("the second Open wrote: %d events, want %d", d.Events(), len(steps))
			}
		})
	}
}

func TestOpenOfFullHeaders(t *testing.T) {
	for _, sectors := range []int{2, 3, 30, 31} {
		for _, at := range []int{0, 1, 33, 64 - sectors} {
			var numbers []int
			var words []uint64
			var data [][]byte
			for n := 0; len(words) < sectors-1; n++ {
				if n < at || n >= at+sectors {
					numbers, words = append(numbers, n), append(words, uint64(n))
					data = append(data, all(byte(at+len(numbers)+1)))
				}
			}
			for more := range 2 {
				first := filledDisk(t, 64)
				write(t, first, at, headerOf(uint64(sectors-1+more), 0, words...))
				d := fresh(t, first)
				open(t, d, at, sectors)
				var steps []step
				if more == 0 {
					steps = doing(at, numbers, data)
				}
				sameEvents(t, d, first, steps)
			}
		}
	}
}

func TestWhetherAHeaderStandsHangsOnTheSectors(t *testing.T) {
	header := headerOf(3, 0, 4, 5, 6)
	for sectors, stands := range map[int]bool{2: false, 3: false, 4: true, 5: false, 6: false} {
		first := filledDisk(t, 10)
		write(t, first, 0, header)
		d := fresh(t, first)
		open(t, d, 0, sectors)
		if (d.Events() > 0) != stands {
			t.Errorf("%d sectors: %d events", sectors, d.Events())
		}
	}
	// What stands elsewhere than at the journal's first sector is no header.
	first := filledDisk(t, 10)
	write(t, first, 1, headerOf(1, 0, 9))
	d := fresh(t, first)
	open(t, d, 0, 3)
	open(t, d, 2, 3)
	if d.Events() != 0 {
		t.Errorf("%d events", d.Events())
	}
}

func TestOpenFailingWritesNothing(t *testing.T) {
	first := filledDisk(t, 8)
	write(t, first, 5, headerOf(1, 0, 1))
	d := fresh(t, first)
	for _, c := range [][2]int{{5, 1}, {5, 4}, {5, 0}, {5, 32}, {-1, 3}} {
		if j, e := wal.Open(d, c[0], c[1]); j != nil || e != api.ErrArg {
			t.Errorf("Open(%d, %d): %v, %v", c[0], c[1], j, e)
		}
	}
	sameEvents(t, d, first, nil)
	open(t, d, 5, 3)
	sameEvents(t, d, first, doing(5, []int{1}, [][]byte{all(7)}))
}

func TestTheDiskIsShared(t *testing.T) {
	d := newDisk(t, 8)
	one, two := open(t, d, 0, 3), open(t, d, 0, 3)
	write(t, d, 4, all(1))
	gets(t, one, 4, all(1))
	put(t, one, 4, all(2))
	pending(t, two)
	gets(t, two, 4, all(1))
	write(t, d, 4, all(3))
	gets(t, one, 4, all(2))
	gets(t, two, 4, all(3))
	commit(t, one)
	gets(t, two, 4, all(2))
	if !bytes.Equal(read(t, d, 4), all(2)) {
		t.Error("what was committed is not the disk's")
	}
}

// P4.2

func TestExample(t *testing.T) {
	d := newDisk(t, 8)
	j := open(t, d, 0, 3)
	if j.Most() != 2 {
		t.Errorf("Most: %d", j.Most())
	}
	some := noise(1)
	x := some.bytes(api.Sector)
	put(t, j, 5, x)
	gets(t, j, 5, x)
	if !bytes.Equal(read(t, d, 5), all(0)) {
		t.Error("put, and on the disk")
	}
	commit(t, j)
	if !bytes.Equal(read(t, d, 5), x) {
		t.Error("committed, and not on the disk")
	}
	if e := j.Put(1, x); e != api.ErrArg {
		t.Errorf("Put(1): %v", e)
	}
}

func TestMost(t *testing.T) {
	for sectors := 2; sectors <= 31; sectors++ {
		if m := open(t, newDisk(t, 40), 3, sectors).Most(); m != sectors-1 {
			t.Errorf("%d sectors: Most: %d", sectors, m)
		}
	}
}

func TestSectorsOfGetAndPut(t *testing.T) {
	for _, at := range []int{0, 1, 4, 8, 9} {
		d := filledDisk(t, 12)
		j := open(t, d, at, 3)
		for n := -2; n < 14; n++ {
			there := n >= 0 && n < 12
			own := n >= at && n < at+3
			if there {
				gets(t, j, n, all(byte(n+1)))
			} else if b, e := j.Get(n); len(b) != 0 || e != api.ErrArg {
				t.Errorf("Get(%d): %x, %v", n, b, e)
			}
			want := api.ErrArg
			if there && !own {
				want = api.OK
			}
			if e := j.Put(n, all(99)); e != want {
				t.Errorf("journal at %d: Put(%d): %v, want %v", at, n, e, want)
			}
			if want == api.OK {
				pending(t, j, n)
				gets(t, j, n, all(99))
			} else {
				pending(t, j)
			}
			abort(t, j)
		}
		if d.Events() != 0 {
			t.Errorf("journal at %d: %d events", at, d.Events())
		}
	}
}

func TestSectorsFarOutside(t *testing.T) {
	j := open(t, newDisk(t, 8), 2, 3)
	for _, n := range []int{math.MinInt, math.MinInt + 1, -256, 256, 2048, 1 << 31, 1 << 32, 1<<32 + 6, math.MaxInt - 1, math.MaxInt} {
		if b, e := j.Get(n); len(b) != 0 || e != api.ErrArg {
			t.Errorf("Get(%d): %x, %v", n, b, e)
		}
		if e := j.Put(n, all(1)); e != api.ErrArg {
			t.Errorf("Put(%d): %v", n, e)
		}
	}
	pending(t, j)
}

func TestPutOfAnotherNumberOfBytes(t *testing.T) {
	d := newDisk(t, 8)
	j := open(t, d, 0, 3)
	put(t, j, 7, all(5))
	for _, b := range [][]byte{nil, {}, {1}, all(7)[:api.Sector-1], append(all(7), 7), append(all(7), all(7)...)} {
		for _, n := range []int{-1, 0, 2, 3, 7, 8} {
			if e := j.Put(n, b); e != api.ErrArg {
				t.Errorf("Put(%d, %d bytes): %v", n, len(b), e)
			}
		}
	}
	pending(t, j, 7)
	gets(t, j, 7, all(5))
	gets(t, j, 3, all(0))
}

func TestPutOfMostAndOneMore(t *testing.T) {
	for _, sectors := range []int{2, 3, 31} {
		d := newDisk(t, 70)
		j := open(t, d, 0, sectors)
		var want []int
		for round := range 2 {
			want = nil
			for n := sectors; n < 2*sectors-1; n++ {
				put(t, j, n, all(byte(n+round)))
				want = append(want, n)
			}
			for _, n := range []int{2*sectors - 1, 69} {
				if e := j.Put(n, all(1)); e != api.ErrBig {
					t.Errorf("%d sectors: Put(%d) as one too many: %v", sectors, n, e)
				}
				gets(t, j, n, all(0))
			}
			// What may not be put is told ahead of that there are too many.
			for n, b := range map[int][]byte{-1: all(1), 70: all(1), 0: all(1), sectors - 1: all(1), 69: all(1)[:255], sectors: nil} {
				if e := j.Put(n, b); e != api.ErrArg {
					t.Errorf("%d sectors: Put(%d, %d bytes): %v", sectors, n, len(b), e)
				}
			}
			pending(t, j, want...)
			put(t, j, want[len(want)-1], all(201))
			put(t, j, want[0], all(200))
			gets(t, j, want[0], all(200))
			pending(t, j, want...)
			if round == 0 {
				abort(t, j)
			}
		}
		commit(t, j)
		if !bytes.Equal(read(t, d, want[0]), all(200)) {
			t.Errorf("%d sectors: what was put again is not on the disk", sectors)
		}
		put(t, j, 69, all(3))
	}
}

func TestPutTwiceTellsTheLast(t *testing.T) {
	d := newDisk(t, 8)
	j := open(t, d, 0, 4)
	put(t, j, 5, all(1))
	put(t, j, 6, all(2))
	put(t, j, 5, all(3))
	put(t, j, 6, all(0))
	pending(t, j, 5, 6)
	gets(t, j, 5, all(3))
	gets(t, j, 6, all(0))
	first := fresh(t, d)
	commit(t, j)
	sameEvents(t, d, first, committing(0, map[int][]byte{5: all(3), 6: all(0)}))
}

func TestADiskThatIsAllJournal(t *testing.T) {
	d := newDisk(t, 2)
	j := open(t, d, 0, 2)
	for n := -1; n <= 2; n++ {
		if e := j.Put(n, all(1)); e != api.ErrArg {
			t.Errorf("Put(%d): %v", n, e)
		}
	}
	gets(t, j, 0, all(0))
	gets(t, j, 1, all(0))
	commit(t, j)
	if d.Events() != 0 {
		t.Errorf("%d events", d.Events())
	}
}

func TestAbort(t *testing.T) {
	d := filledDisk(t, 8)
	j := open(t, d, 3, 3)
	abort(t, j)
	put(t, j, 0, all(50))
	put(t, j, 7, all(51))
	abort(t, j)
	for n := range 8 {
		gets(t, j, n, all(byte(n+1)))
	}
	commit(t, j)
	if d.Events() != 0 {
		t.Errorf("%d events", d.Events())
	}
	// Both places are free again, and what was put ahead of that is gone.
	put(t, j, 1, all(52))
	put(t, j, 2, all(53))
	pending(t, j, 1, 2)
	commit(t, j)
	abort(t, j)
	gets(t, j, 0, all(1))
	gets(t, j, 1, all(52))
	gets(t, j, 2, all(53))
}

func TestPendingInAnyOrder(t *testing.T) {
	x := noise(5)
	for range 50 {
		j := open(t, newDisk(t, 100), 20, 31)
		var want []int
		for range x.below(31) {
			n := x.below(100)
			if n >= 20 && n < 51 {
				continue
			}
			put(t, j, n, x.bytes(api.Sector))
			if !slices.Contains(want, n) {
				want = append(want, n)
			}
		}
		slices.Sort(want)
		pending(t, j, want...)
	}
	j := open(t, newDisk(t, 8), 3, 4)
	for i, n := range []int{7, 0, 2} {
		put(t, j, n, all(1))
		pending(t, j, [][]int{{7}, {0, 7}, {0, 2, 7}}[i]...)
	}
}

func TestPutAndAbortWriteNothing(t *testing.T) {
	first := filledDisk(t, 8)
	d := fresh(t, first)
	j := open(t, d, 1, 4)
	for _, n := range []int{0, 5, 7, 0} {
		put(t, j, n, all(77))
		j.Get(n)
		j.Pending()
	}
	j.Put(6, all(1))
	sameEvents(t, d, first, nil)
	abort(t, j)
	sameEvents(t, d, first, nil)
}

// What the caller holds on to.

func TestBytesHandedToPutAreNotKept(t *testing.T) {
	d := newDisk(t, 8)
	j := open(t, d, 0, 3)
	room := slices.Concat(all(7), all(9))
	b := room[:api.Sector]
	put(t, j, 5, b)
	put(t, j, 6, b)
	if !bytes.Equal(room, slices.Concat(all(7), all(9))) {
		t.Error("what was handed in, or its spare room, has changed")
	}
	b[0], b[255] = 1, 2
	gets(t, j, 5, all(7))
	gets(t, j, 6, all(7))
	put(t, j, 5, all(8))
	commit(t, j)
	copy(b, all(3))
	if !bytes.Equal(read(t, d, 5), all(8)) || !bytes.Equal(read(t, d, 6), all(7)) {
		t.Error("the disk has other bytes than were put")
	}
	if !bytes.Equal(room, slices.Concat(all(3), all(9))) {
		t.Error("a commit changed what was handed in")
	}
}

func TestBytesToldByGetAreNew(t *testing.T) {
	d := filledDisk(t, 8)
	j := open(t, d, 0, 3)
	put(t, j, 5, all(60))
	put(t, j, 6, all(61))
	for n, want := range map[int]byte{0: 1, 3: 4, 5: 60, 6: 61} {
		one, _ := j.Get(n)
		two, _ := j.Get(n)
		spare := one[:cap(one)]
		for i := range spare {
			spare[i] = 99
		}
		if !bytes.Equal(two, all(want)) {
			t.Errorf("Get(%d): two answers share memory", n)
		}
		gets(t, j, n, all(want))
	}
	held, _ := j.Get(5)
	put(t, j, 5, all(62))
	abort(t, j)
	put(t, j, 5, all(63))
	commit(t, j)
	if !bytes.Equal(held, all(60)) {
		t.Error("what was told has changed")
	}
	gets(t, j, 5, all(63))
	gets(t, j, 6, all(7))
	for n := range 8 {
		if got := read(t, d, n); bytes.Contains(got, []byte{99}) {
			t.Errorf("the disk's %d has changed", n)
		}
	}
}

func TestSectorsToldByPendingAreNew(t *testing.T) {
	d := newDisk(t, 9)
	j := open(t, d, 0, 4)
	put(t, j, 8, all(8))
	put(t, j, 4, all(4))
	put(t, j, 6, all(6))
	one, two := j.Pending(), j.Pending()
	spare := one[:cap(one)]
	for i := range spare {
		spare[i] = 7
	}
	if !slices.Equal(two, []int{4, 6, 8}) {
		t.Errorf("two answers share memory: %v", two)
	}
	pending(t, j, 4, 6, 8)
	first := fresh(t, d)
	commit(t, j)
	sameEvents(t, d, first, committing(0, map[int][]byte{4: all(4), 6: all(6), 8: all(8)}))
	if !slices.Equal(two, []int{4, 6, 8}) {
		t.Errorf("what was told has changed: %v", two)
	}
}

// P4.3

func TestCommitOfNothing(t *testing.T) {
	first := filledDisk(t, 8)
	d := fresh(t, first)
	j := open(t, d, 2, 3)
	commit(t, j)
	commit(t, j)
	sameEvents(t, d, first, nil)
	put(t, j, 0, all(9))
	commit(t, j)
	n := d.Events()
	commit(t, j)
	if d.Events() != n {
		t.Errorf("%d events, want %d", d.Events(), n)
	}
}

func TestEventsOfCommit(t *testing.T) {
	x := noise(6)
	for _, c := range []struct{ disk, at, sectors, puts int }{
		{8, 0, 3, 1}, {8, 0, 3, 2}, {8, 5, 3, 2}, {8, 3, 2, 1}, {12, 4, 6, 5}, {12, 4, 6, 3},
		{64, 0, 31, 30}, {64, 33, 31, 30}, {64, 10, 31, 29}, {api.MaxSectors, api.MaxSectors - 3, 3, 2}, {api.MaxSectors, 0, 3, 2},
	} {
		d := newDisk(t, c.disk)
		for n := range c.disk {
			write(t, d, n, x.bytes(api.Sector))
		}
		d = fresh(t, d)
		first := fresh(t, d)
		j := open(t, d, c.at, c.sectors)
		puts := map[int][]byte{}
		for len(puts) < c.puts {
			n := x.below(c.disk)
			if len(puts) == 0 && c.at+c.sectors < c.disk {
				n = c.disk - 1
			}
			if n < c.at || n >= c.at+c.sectors {
				puts[n] = x.bytes(api.Sector)
				put(t, j, n, puts[n])
			}
		}
		commit(t, j)
		sameEvents(t, d, first, committing(c.at, puts))
		for n, b := range puts {
			gets(t, j, n, b)
		}
	}
}

func TestEventsOfCommitsBehindOneAnother(t *testing.T) {
	first := filledDisk(t, 9)
	d := fresh(t, first)
	j := open(t, d, 3, 4)
	put(t, j, 8, all(20))
	put(t, j, 0, all(21))
	put(t, j, 2, all(22))
	commit(t, j)
	steps := committing(3, map[int][]byte{8: all(20), 0: all(21), 2: all(22)})
	put(t, j, 1, all(30))
	commit(t, j)
	// The header of the second one has fewer numbers, and bytes 0 behind them.
	steps = append(steps, committing(3, map[int][]byte{1: all(30)})...)
	put(t, j, 7, all(40))
	abort(t, j)
	put(t, j, 2, all(41))
	commit(t, j)
	steps = append(steps, committing(3, map[int][]byte{2: all(41)})...)
	sameEvents(t, d, first, steps)
}

func TestCommitWritesWhatIsThereAlready(t *testing.T) {
	first := filledDisk(t, 8)
	d := fresh(t, first)
	j := open(t, d, 0, 3)
	put(t, j, 5, all(6))
	commit(t, j)
	sameEvents(t, d, first, committing(0, map[int][]byte{5: all(6)}))
}

// P4.4

// shows tells what a journal shows of all sectors but its own.
func shows(t *testing.T, j *wal.Journal, d *block.Disk, at, sectors int) []byte {
	t.Helper()
	var whole []byte
	for n := range d.Sectors() {
		if n >= at && n < at+sectors {
			continue
		}
		b, e := j.Get(n)
		if e != api.OK || !bytes.Equal(b, read(t, d, n)) {
			t.Fatalf("Get(%d): %x, %v: not the disk's", n, b, e)
		}
		whole = append(whole, b...)
	}
	return whole
}

// reopened opens a journal twice, and tells what both show.
func reopened(t *testing.T, d *block.Disk, at, sectors int) []byte {
	t.Helper()
	j := open(t, d, at, sectors)
	pending(t, j)
	one := shows(t, j, d, at, sectors)
	events := d.Events()
	two := shows(t, open(t, d, at, sectors), d, at, sectors)
	if !bytes.Equal(one, two) || d.Events() != events {
		t.Fatalf("opened twice it shows something else: %d events, then %d", events, d.Events())
	}
	// A third one over what is left of the second, though nothing was flushed since.
	three := after(t, d, d.Events(), nil)
	if !bytes.Equal(shows(t, open(t, three, at, sectors), three, at, sectors), one) {
		t.Fatal("opened behind another power loss it shows something else")
	}
	return one
}

// recovers asks that the journal shows this, also where the power goes while it
// is being opened.
func recovers(t *testing.T, d *block.Disk, at, sectors, puts int, want []byte) {
	t.Helper()
	o := fresh(t, d)
	if !bytes.Equal(reopened(t, o, at, sectors), want) {
		t.Fatal("opened again it shows something else")
	}
	for n := range o.Events() {
		writes := 1
		if n <= puts {
			writes = n
		}
		for _, keep := range keeps(writes) {
			again := after(t, o, n, keep)
			if !bytes.Equal(reopened(t, again, at, sectors), want) {
				t.Fatalf("opened behind a power loss behind %d events of Open, with %v kept, it shows something else", n, keep)
			}
		}
	}
}

// losses asks that behind a power loss anywhere in the last commit of so many
// sectors, whose events begin at from, the journal shows what was, or all of it.
func losses(t *testing.T, d *block.Disk, from, at, sectors, puts int, was, is []byte) {
	t.Helper()
	flushed, header, stands, home, done := puts+1, puts+2, puts+3, 2*puts+3, 2*puts+4
	for n := range d.Events() - from + 1 {
		writes := 0
		switch {
		case n < flushed:
			writes = n
		case n == header:
			writes = 1
		case n >= stands && n <= home:
			writes = n - stands
		case n == done+1:
			writes = 1
		}
		for _, keep := range keeps(writes) {
			want := was
			if n >= stands || n == header && keep[0] {
				want = is
			}
			recovers(t, after(t, d, from+n, keep), at, sectors, puts, want)
		}
	}
}

func TestPowerLossesInACommit(t *testing.T) {
	x := noise(7)
	for _, c := range []struct{ disk, at, sectors, puts int }{
		{6, 0, 2, 1}, {6, 4, 2, 1}, {6, 2, 3, 1}, {8, 0, 4, 3}, {8, 5, 3, 2}, {9, 3, 4, 3}, {10, 1, 5, 4},
	} {
		for round := range 3 {
			first := filledDisk(t, c.disk)
			if round > 0 { // a header that stands, and one that does not
				write(t, first, c.at, headerOf(uint64(2-round), 0, uint64((c.at+c.sectors)%c.disk)))
			}
			d := fresh(t, first)
			j := open(t, d, c.at, c.sectors)
			for range 2 {
				was := shows(t, j, d, c.at, c.sectors)
				from := d.Events()
				for len(j.Pending()) < c.puts {
					if n := x.below(c.disk); n < c.at || n >= c.at+c.sectors {
						put(t, j, n, x.bytes(api.Sector))
					}
				}
				commit(t, j)
				losses(t, d, from, c.at, c.sectors, c.puts, was, shows(t, j, d, c.at, c.sectors))
			}
		}
	}
}

func TestPowerLossesInAFullCommit(t *testing.T) {
	x := noise(8)
	first := filledDisk(t, 62)
	d := fresh(t, first)
	j := open(t, d, 11, 31)
	was := shows(t, j, d, 11, 31)
	for len(j.Pending()) < 30 {
		if n := x.below(62); n < 11 || n >= 42 {
			put(t, j, n, x.bytes(api.Sector))
		}
	}
	commit(t, j)
	is := shows(t, j, d, 11, 31)
	header := 32
	for n := range d.Events() + 1 {
		for i, keep := range [][]bool{nil, slices.Repeat([]bool{true}, 30), x.keep(30), x.keep(30)} {
			want := was
			if n > header || n == header && len(keep) > 0 && keep[0] {
				want = is
			}
			if !bytes.Equal(reopened(t, after(t, d, n, keep), 11, 31), want) {
				t.Fatalf("behind %d events, %d: something else", n, i)
			}
		}
	}
}

func TestPowerLossesInAnOpenThatDoesAHeader(t *testing.T) {
	for _, row := range []struct {
		header  []byte
		numbers []int
	}{
		{headerOf(1, 0, 0), []int{0}},
		{headerOf(2, 0xee, 1, 9), []int{1, 9}},
		{headerOf(4, 0, 0, 1, 8, 9), []int{0, 1, 8, 9}},
	} {
		d := filledDisk(t, 10)
		write(t, d, 3, row.header)
		d = fresh(t, d)
		var want []byte
		for n := range 10 {
			if n >= 3 && n < 8 {
				continue
			}
			b := all(byte(n + 1))
			if i := slices.Index(row.numbers, n); i >= 0 {
				b = all(byte(3 + 1 + i + 1))
			}
			want = append(want, b...)
		}
		recovers(t, d, 3, 5, len(row.numbers), want)
	}
}

// span is a stretch of a disk's events, and what may be shown behind each.
type span struct {
	from, to int
	was, is  []byte
}

func TestPowerLossesInManyCalls(t *testing.T) {
	x := noise(9)
	for range 25 {
		disk, sectors := 8+x.below(8), 2+x.below(4)
		at := x.below(disk - sectors + 1)
		d := newDisk(t, disk)
		j := open(t, d, at, sectors)
		model := make(map[int][]byte)
		puts := make(map[int][]byte)
		plain := func() []byte {
			var whole []byte
			for n := range disk {
				if n >= at && n < at+sectors {
					continue
				}
				b := model[n]
				if b == nil {
					b = all(0)
				}
				whole = append(whole, b...)
			}
			return whole
		}
		var spans []span
		for range 40 {
			s := span{from: d.Events(), was: plain()}
			switch x.below(8) {
			case 0:
				abort(t, j)
				clear(puts)
			case 1, 2:
				commit(t, j)
				maps.Copy(model, puts)
				clear(puts)
			case 3:
				j = open(t, d, at, sectors)
				clear(puts)
			default:
				n, b := x.below(disk), x.bytes(api.Sector)
				if e := j.Put(n, b); e == api.OK {
					puts[n] = b
				}
			}
			pending(t, j, slices.Sorted(maps.Keys(puts))...)
			s.to, s.is = d.Events(), plain()
			spans = append(spans, s)
		}
		for _, s := range spans {
			for n := s.from; n <= s.to; n++ {
				o := after(t, d, n, x.keep(x.below(6)))
				got := reopened(t, o, at, sectors)
				if !bytes.Equal(got, s.was) && !bytes.Equal(got, s.is) {
					t.Fatalf("behind %d events, of a call from %d to %d: neither all nor nothing", n, s.from, s.to)
				}
				if n == s.from && !bytes.Equal(got, s.was) || n == s.to && !bytes.Equal(got, s.is) {
					t.Fatalf("behind %d events: not what was done", n)
				}
			}
		}
	}
}

func TestTheJournalGoesOnBehindAPowerLoss(t *testing.T) {
	d := filledDisk(t, 8)
	j := open(t, d, 2, 3)
	put(t, j, 0, all(90))
	put(t, j, 7, all(91))
	commit(t, j)
	for n := range d.Events() + 1 {
		o := after(t, d, n, nil)
		k := open(t, o, 2, 3)
		put(t, k, 7, all(92))
		put(t, k, 1, all(93))
		commit(t, k)
		first := byte(1)
		if n >= 5 {
			first = 90
		}
		p := after(t, o, o.Events(), nil)
		k = open(t, p, 2, 3)
		gets(t, k, 0, all(first))
		gets(t, k, 1, all(93))
		gets(t, k, 7, all(92))
	}
}

// Journals that are nil, or that no call made.

func TestJournalsThatNoCallMade(t *testing.T) {
	noDisk, _ := wal.Open(nil, 0, 3)
	unmade, _ := wal.Open(&block.Disk{}, 0, 3)
	wrong, _ := wal.Open(newDisk(t, 8), 0, 1)
	for i, j := range []*wal.Journal{nil, {}, new(wal.Journal), noDisk, unmade, wrong} {
		t.Run(fmt.Sprint(i), func(t *testing.T) {
			for range 2 {
				for _, n := range []int{math.MinInt, -1, 0, 1, 5, math.MaxInt} {
					if b, e := j.Get(n); len(b) != 0 || e != api.ErrNil {
						t.Errorf("Get(%d): %x, %v", n, b, e)
					}
					for _, b := range [][]byte{nil, {1}, all(7)} {
						if e := j.Put(n, b); e != api.ErrNil {
							t.Errorf("Put(%d, %d bytes): %v", n, len(b), e)
						}
					}
				}
				if p := j.Pending(); len(p) != 0 {
					t.Errorf("Pending: %v", p)
				}
				if m := j.Most(); m != 0 {
					t.Errorf("Most: %d", m)
				}
				if e := j.Commit(); e != api.ErrNil {
					t.Errorf("Commit: %v", e)
				}
				if e := j.Abort(); e != api.ErrNil {
					t.Errorf("Abort: %v", e)
				}
			}
		})
	}
}
