package alloc_test

import (
	"bytes"
	"fmt"
	"math"
	"slices"
	"testing"

	"stillroom/alloc"
	"stillroom/api"
)

// noise tells numbers that are alike in every run.
type noise uint64

func (x *noise) next() uint64 {
	*x ^= *x << 13
	*x ^= *x >> 7
	*x ^= *x << 17
	return uint64(*x) >> 16
}

func (x *noise) below(n int) int { return int(x.next() % uint64(n)) }

// sizes are numbers that New takes: the edges, and those about multiples of 8 and 64.
func sizes() []int {
	return []int{1, 2, 3, 7, 8, 9, 15, 16, 17, 63, 64, 65, 100, 127, 128, 129, 255, 256, 257, 1000, api.MaxSectors - 1, api.MaxSectors}
}

// noSizes are numbers that New does not take.
func noSizes() []int {
	return []int{0, -1, -8, -api.MaxSectors, math.MinInt, api.MaxSectors + 1, 2 * api.MaxSectors, 1 << 32, 1<<32 + 1, math.MaxInt}
}

// noNumbers are numbers that a set of n does not have, the nearest ones first.
func noNumbers(n int) []int {
	return []int{-1, n, n + 1, -n, -8, -64, n + 8, n + 64, api.MaxSectors, -api.MaxSectors, 1 << 32, -1 << 32, math.MaxInt, math.MaxInt - 7, math.MinInt, math.MinInt + 1}
}

func newSet(t *testing.T, n int, in ...int) *alloc.Set {
	t.Helper()
	s, e := alloc.New(n)
	if e != api.OK || s == nil {
		t.Fatalf("New(%d): %v, %v", n, s, e)
	}
	for _, k := range in {
		put(t, s, k)
	}
	return s
}

// fullSet tells a set of n with all in it but those that it lacks.
func fullSet(t *testing.T, n int, lacks ...int) *alloc.Set {
	t.Helper()
	s := newSet(t, n)
	for k := range n {
		if !slices.Contains(lacks, k) {
			put(t, s, k)
		}
	}
	return s
}

func put(t *testing.T, s *alloc.Set, n int) {
	t.Helper()
	if e := s.Put(n); e != api.OK {
		t.Fatalf("Put(%d): %v", n, e)
	}
}

func drop(t *testing.T, s *alloc.Set, n int) {
	t.Helper()
	if e := s.Drop(n); e != api.OK {
		t.Fatalf("Drop(%d): %v", n, e)
	}
}

func take(t *testing.T, s *alloc.Set, want int) {
	t.Helper()
	if n, e := s.Take(); n != want || e != api.OK {
		t.Fatalf("Take: %d, %v, want %d", n, e, want)
	}
}

func takeNone(t *testing.T, s *alloc.Set) {
	t.Helper()
	if n, e := s.Take(); n != 0 || e != api.ErrFull {
		t.Fatalf("Take: %d, %v, want ErrFull", n, e)
	}
}

func read(t *testing.T, b []byte, n int) *alloc.Set {
	t.Helper()
	s, e := alloc.Read(b, n)
	if e != api.OK || s == nil {
		t.Fatalf("Read(%x, %d): %v, %v", b, n, s, e)
	}
	return s
}

func readNone(t *testing.T, b []byte, n int, want api.Errno) {
	t.Helper()
	if s, e := alloc.Read(b, n); s != nil || e != want {
		t.Errorf("Read(%d bytes, %d): %v, %v, want %v", len(b), n, s, e, want)
	}
}

// withBits tells a sector in which these bits are set.
func withBits(set ...int) []byte {
	b := make([]byte, api.Sector)
	for _, v := range set {
		b[v/8] |= 1 << (v % 8)
	}
	return b
}

// holds asks that the set is of n, and that just these are in it, of each call that tells something of it.
func holds(t *testing.T, s *alloc.Set, n int, want ...int) {
	t.Helper()
	var got []int
	for k := -9; k < api.MaxSectors+9; k++ {
		if s.Has(k) {
			got = append(got, k)
		}
	}
	if !slices.Equal(got, want) {
		t.Fatalf("a set of %d has %v, want %v", n, got, want)
	}
	if in, out := s.Count(); in != len(want) || out != n-len(want) {
		t.Fatalf("Count of a set of %d with %d in it: %d, %d", n, len(want), in, out)
	}
	if b := s.Bytes(); !bytes.Equal(b, withBits(want...)) {
		t.Fatalf("Bytes of a set of %d with %v in it: %x", n, want, b)
	}
}

func upTo(n int, but ...int) []int {
	var all []int
	for k := range n {
		if !slices.Contains(but, k) {
			all = append(all, k)
		}
	}
	return all
}

// The chapter's example.

func TestExample(t *testing.T) {
	s := newSet(t, 3)
	put(t, s, 1)
	take(t, s, 0)
	take(t, s, 2)
	takeNone(t, s)
	if b := s.Bytes(); len(b) != api.Sector || b[0] != 7 {
		t.Errorf("Bytes: %x", b)
	}
}

// P5.1

func TestNewOfNumbersThatMayBe(t *testing.T) {
	for _, n := range sizes() {
		s := newSet(t, n)
		holds(t, s, n)
		put(t, s, n-1)
		holds(t, s, n, n-1)
		if e := s.Put(n); e != api.ErrArg {
			t.Errorf("New(%d): Put(%d): %v", n, n, e)
		}
	}
}

func TestNewOfNumbersThatMayNotBe(t *testing.T) {
	for _, n := range noSizes() {
		if s, e := alloc.New(n); s != nil || e != api.ErrArg {
			t.Errorf("New(%d): %v, %v", n, s, e)
		}
	}
}

func TestSetsOfNewAreTheirOwn(t *testing.T) {
	a, b := newSet(t, 9), newSet(t, 9)
	put(t, a, 8)
	take(t, a, 0)
	holds(t, a, 9, 0, 8)
	holds(t, b, 9)
	holds(t, newSet(t, 9), 9)
}

// P5.2

func TestTakeTellsTheLeastThatIsNotInIt(t *testing.T) {
	s := newSet(t, 12, 0, 1, 4, 9)
	for _, want := range []int{2, 3, 5, 6} {
		take(t, s, want)
		if !s.Has(want) {
			t.Errorf("%d was taken, and is not in it", want)
		}
	}
	drop(t, s, 4)
	drop(t, s, 1)
	for _, want := range []int{1, 4, 7, 8, 10, 11} {
		take(t, s, want)
	}
	takeNone(t, s)
	holds(t, s, 12, upTo(12)...)
}

func TestTakeAsOftenAsThereAreNumbersAndOnceMore(t *testing.T) {
	for _, n := range sizes() {
		s := newSet(t, n)
		for k := range n {
			take(t, s, k)
			if in, out := s.Count(); in != k+1 || out != n-k-1 {
				t.Fatalf("a set of %d: Count behind Take = %d: %d, %d", n, k, in, out)
			}
		}
		for range 3 {
			takeNone(t, s)
			holds(t, s, n, upTo(n)...)
		}
		drop(t, s, n-1)
		take(t, s, n-1)
		takeNone(t, s)
	}
}

func TestTakeOfASetThatLacksOneAlone(t *testing.T) {
	for _, n := range sizes() {
		for _, lacks := range []int{0, n / 2, n / 3, n - 1} {
			s := fullSet(t, n, lacks)
			holds(t, s, n, upTo(n, lacks)...)
			take(t, s, lacks)
			holds(t, s, n, upTo(n)...)
			takeNone(t, s)
		}
	}
	for lacks := range 130 {
		s := fullSet(t, 130, lacks)
		take(t, s, lacks)
		takeNone(t, s)
	}
}

func TestTakeOfAFullSetChangesNothing(t *testing.T) {
	s := fullSet(t, 10)
	was := s.Clone()
	takeNone(t, s)
	if !s.Same(was) {
		t.Error("it has changed")
	}
	holds(t, s, 10, upTo(10)...)
}

func TestPutAndDropAtTheEdges(t *testing.T) {
	for _, n := range sizes() {
		for _, k := range slices.Compact([]int{0, n / 2, n - 1}) {
			s := newSet(t, n)
			put(t, s, k)
			holds(t, s, n, k)
			drop(t, s, k)
			holds(t, s, n)

			s = fullSet(t, n)
			drop(t, s, k)
			holds(t, s, n, upTo(n, k)...)
			put(t, s, k)
			holds(t, s, n, upTo(n)...)
		}
	}
}

func TestNoSuchNumber(t *testing.T) {
	for _, n := range sizes() {
		for _, s := range []*alloc.Set{newSet(t, n), fullSet(t, n)} {
			was := s.Clone()
			for _, k := range noNumbers(n) {
				if k >= 0 && k < n {
					continue
				}
				if e := s.Put(k); e != api.ErrArg {
					t.Errorf("a set of %d: Put(%d): %v", n, k, e)
				}
				if e := s.Drop(k); e != api.ErrArg {
					t.Errorf("a set of %d: Drop(%d): %v", n, k, e)
				}
				if s.Has(k) {
					t.Errorf("a set of %d: Has(%d)", n, k)
				}
			}
			if !s.Same(was) {
				t.Errorf("a set of %d has changed", n)
			}
		}
	}
}

func TestPutOfWhatIsInItAndDropOfWhatIsNot(t *testing.T) {
	for _, n := range sizes() {
		full, empty := fullSet(t, n), newSet(t, n)
		for _, k := range []int{0, n / 2, n - 1} {
			if e := full.Put(k); e != api.ErrThere {
				t.Errorf("a full set of %d: Put(%d): %v", n, k, e)
			}
			if e := empty.Drop(k); e != api.ErrNone {
				t.Errorf("an empty set of %d: Drop(%d): %v", n, k, e)
			}
		}
		holds(t, full, n, upTo(n)...)
		holds(t, empty, n)
	}
	s := newSet(t, 20, 3, 11)
	for _, k := range []int{3, 11, 3} {
		if e := s.Put(k); e != api.ErrThere {
			t.Errorf("Put(%d): %v", k, e)
		}
	}
	for _, k := range []int{2, 4, 10, 12, 19} {
		if e := s.Drop(k); e != api.ErrNone {
			t.Errorf("Drop(%d): %v", k, e)
		}
	}
	holds(t, s, 20, 3, 11)
	drop(t, s, 3)
	if e := s.Drop(3); e != api.ErrNone {
		t.Errorf("Drop(3) again: %v", e)
	}
	holds(t, s, 20, 11)
}

func TestWhatIsTakenCanBeDroppedAndNotPut(t *testing.T) {
	s := newSet(t, 9)
	take(t, s, 0)
	if e := s.Put(0); e != api.ErrThere {
		t.Errorf("Put(0): %v", e)
	}
	drop(t, s, 0)
	take(t, s, 0)
	take(t, s, 1)
	holds(t, s, 9, 0, 1)
}

func TestCount(t *testing.T) {
	for _, n := range sizes() {
		for _, c := range []struct {
			s    *alloc.Set
			want int
		}{
			{newSet(t, n), 0},
			{newSet(t, n, 0), 1},
			{newSet(t, n, n-1), 1},
			{fullSet(t, n, n/2), n - 1},
			{fullSet(t, n), n},
		} {
			if in, out := c.s.Count(); in != c.want || out != n-c.want {
				t.Errorf("a set of %d with %d in it: Count: %d, %d", n, c.want, in, out)
			}
		}
	}
	s := newSet(t, 70, 0, 1, 7, 8, 63, 64, 69)
	if in, out := s.Count(); in != 7 || out != 63 {
		t.Errorf("Count: %d, %d", in, out)
	}
}

// plain is what a set must have in it, said by the chapter's words alone.
type plain struct {
	n  int
	in map[int]bool
}

func (p plain) list() []int {
	var in []int
	for k := range p.n {
		if p.in[k] {
			in = append(in, k)
		}
	}
	return in
}

func (p plain) take() (int, api.Errno) {
	for k := range p.n {
		if !p.in[k] {
			p.in[k] = true
			return k, api.OK
		}
	}
	return 0, api.ErrFull
}

func (p plain) put(k int) api.Errno {
	if k < 0 || k >= p.n {
		return api.ErrArg
	}
	if p.in[k] {
		return api.ErrThere
	}
	p.in[k] = true
	return api.OK
}

func (p plain) drop(k int) api.Errno {
	if k < 0 || k >= p.n {
		return api.ErrArg
	}
	if !p.in[k] {
		return api.ErrNone
	}
	delete(p.in, k)
	return api.OK
}

// step does one call to a set, and asks that the plain one answers the same.
func (x *noise) step(t *testing.T, s *alloc.Set, p plain) {
	t.Helper()
	k := x.below(p.n+4) - 2
	switch x.below(4) {
	case 0:
		want, wantE := p.take()
		if n, e := s.Take(); n != want || e != wantE {
			t.Fatalf("a set of %d: Take: %d, %v, want %d, %v", p.n, n, e, want, wantE)
		}
	case 1, 2:
		want := p.put(k)
		if e := s.Put(k); e != want {
			t.Fatalf("a set of %d: Put(%d): %v, want %v", p.n, k, e, want)
		}
	case 3:
		want := p.drop(k)
		if e := s.Drop(k); e != want {
			t.Fatalf("a set of %d: Drop(%d): %v, want %v", p.n, k, e, want)
		}
	}
	if s.Has(k) != p.in[k] {
		t.Fatalf("a set of %d: Has(%d): %v", p.n, k, s.Has(k))
	}
}

func TestManyHistories(t *testing.T) {
	x := noise(5)
	for _, n := range sizes() {
		for range 4 {
			s, p := newSet(t, n), plain{n, map[int]bool{}}
			for i := range 3*n + 20 {
				x.step(t, s, p)
				if i%97 == 0 {
					holds(t, s, n, p.list()...)
				}
			}
			holds(t, s, n, p.list()...)
			// What is read of its bytes has the same to come.
			o := read(t, s.Bytes(), n)
			for range 50 {
				x.step(t, o, p)
			}
			holds(t, o, n, p.list()...)
		}
	}
}

// P5.3

func TestBytesOfFewAndOfMost(t *testing.T) {
	for _, n := range []int{1, 7, 8, 9, api.MaxSectors} {
		for _, in := range [][]int{nil, {0}, {n - 1}, slices.Compact([]int{0, n - 1}), upTo(n)} {
			s := newSet(t, n, in...)
			if b := s.Bytes(); len(b) != api.Sector || !bytes.Equal(b, withBits(in...)) {
				t.Errorf("Bytes of a set of %d with %d in it: %x", n, len(in), b)
			}
		}
	}
}

func TestBytesByHand(t *testing.T) {
	for _, c := range []struct {
		n, in, at int
		want      byte
	}{
		{1, 0, 0, 1},
		{7, 6, 0, 64},
		{8, 7, 0, 128},
		{9, 8, 1, 1},
		{20, 11, 1, 8},
		{64, 63, 7, 128},
		{65, 64, 8, 1},
		{api.MaxSectors, 1024, 128, 1},
		{api.MaxSectors, 2047, 255, 128},
		{api.MaxSectors, 2040, 255, 1},
	} {
		want := make([]byte, api.Sector)
		want[c.at] = c.want
		if b := newSet(t, c.n, c.in).Bytes(); !bytes.Equal(b, want) {
			t.Errorf("Bytes of a set of %d with %d in it: %x", c.n, c.in, b)
		}
		holds(t, read(t, want, c.n), c.n, c.in)
	}
	if b := fullSet(t, api.MaxSectors).Bytes(); !bytes.Equal(b, bytes.Repeat([]byte{255}, api.Sector)) {
		t.Errorf("Bytes of a full set: %x", b)
	}
}

func TestReadOfAnotherNumberOfBytes(t *testing.T) {
	for _, n := range sizes() {
		for _, size := range []int{0, 1, api.Sector - 1, api.Sector + 1, 2 * api.Sector} {
			readNone(t, make([]byte, size), n, api.ErrArg)
			readNone(t, bytes.Repeat([]byte{255}, size), n, api.ErrArg)
		}
		readNone(t, nil, n, api.ErrArg)
		// Spare room is no part of what is handed in.
		readNone(t, make([]byte, api.Sector)[:api.Sector-1], n, api.ErrArg)
		readNone(t, make([]byte, 0, api.Sector), n, api.ErrArg)
	}
}

func TestReadOfNumbersThatMayNotBe(t *testing.T) {
	for _, n := range noSizes() {
		for _, b := range [][]byte{nil, {}, make([]byte, api.Sector-1), make([]byte, api.Sector), make([]byte, api.Sector+1)} {
			readNone(t, b, n, api.ErrArg)
		}
	}
}

func TestReadOfBitsAtTheEdges(t *testing.T) {
	last := api.MaxSectors - 1
	for _, n := range sizes() {
		holds(t, read(t, make([]byte, api.Sector), n), n)
		holds(t, read(t, withBits(0), n), n, 0)
		holds(t, read(t, withBits(n-1), n), n, n-1)
		holds(t, read(t, withBits(upTo(n)...), n), n, upTo(n)...)
		for _, k := range []int{n, n + 1, n + 7, n + 8, n + 64, last - 1, last} {
			if k < n || k > last {
				continue
			}
			readNone(t, withBits(k), n, api.ErrForm)
			readNone(t, withBits(n-1, k), n, api.ErrForm)
			readNone(t, withBits(append(upTo(n), k)...), n, api.ErrForm)
		}
	}
	all := bytes.Repeat([]byte{255}, api.Sector)
	readNone(t, all, 1, api.ErrForm)
	readNone(t, all, last, api.ErrForm)
	holds(t, read(t, all, api.MaxSectors), api.MaxSectors, upTo(api.MaxSectors)...)
}

func TestReadOfEachBitAlone(t *testing.T) {
	for _, n := range []int{1, 8, 61, 64, 1000, api.MaxSectors} {
		for k := range api.MaxSectors {
			s, e := alloc.Read(withBits(k), n)
			if k >= n {
				if s != nil || e != api.ErrForm {
					t.Fatalf("the bit %d, n = %d: %v, %v", k, n, s, e)
				}
			} else if in, _ := s.Count(); e != api.OK || in != 1 || !s.Has(k) {
				t.Fatalf("the bit %d, n = %d: %d in it, %v", k, n, in, e)
			}
		}
	}
}

func TestReadWhereSeveralErrorsApply(t *testing.T) {
	all := bytes.Repeat([]byte{255}, 2*api.Sector)
	for _, n := range noSizes() {
		for _, size := range []int{0, api.Sector - 1, api.Sector, api.Sector + 1} {
			readNone(t, all[:size], n, api.ErrArg)
		}
	}
	for _, n := range []int{1, 9, 100} {
		for _, size := range []int{api.Sector - 1, api.Sector + 1} {
			readNone(t, all[:size], n, api.ErrArg)
		}
		readNone(t, all[:api.Sector], n, api.ErrForm)
	}
}

func TestReadTellsASetThatGoesOn(t *testing.T) {
	s := read(t, withBits(0, 2, 8), 9)
	take(t, s, 1)
	take(t, s, 3)
	drop(t, s, 8)
	if e := s.Put(0); e != api.ErrThere {
		t.Errorf("Put(0): %v", e)
	}
	if e := s.Put(9); e != api.ErrArg {
		t.Errorf("Put(9): %v", e)
	}
	holds(t, s, 9, 0, 1, 2, 3)
}

func TestBytesHandedToReadAreNotKept(t *testing.T) {
	room := slices.Concat(withBits(1, 3), bytes.Repeat([]byte{9}, api.Sector))
	was := slices.Clone(room)
	b := room[:api.Sector]
	s := read(t, b, 20)
	take(t, s, 0)
	put(t, s, 19)
	if !bytes.Equal(room, was) {
		t.Error("what was handed in, or its spare room, has changed")
	}
	for i := range b {
		b[i] = 255
	}
	_ = append(b, 1, 2, 3)
	holds(t, s, 20, 0, 1, 3, 19)
	readNone(t, b, 20, api.ErrForm)
	if !bytes.Equal(b, bytes.Repeat([]byte{255}, api.Sector)) {
		t.Error("what was handed in has changed")
	}
}

func TestBytesToldAreNew(t *testing.T) {
	s := newSet(t, 20, 1, 3)
	one, again := s.Bytes(), s.Bytes()
	for i := range one {
		one[i] = 255
	}
	_ = append(one, 1, 2, 3)
	spare := one[:cap(one)]
	for i := range spare {
		spare[i] = 254
	}
	holds(t, s, 20, 1, 3)
	if !bytes.Equal(again, withBits(1, 3)) {
		t.Error("two answers share memory")
	}
	put(t, s, 0)
	drop(t, s, 3)
	if !bytes.Equal(again, withBits(1, 3)) {
		t.Error("a later call changed what was told")
	}
}

// P5.4

func TestCloneIsTheSame(t *testing.T) {
	for _, n := range sizes() {
		for _, in := range [][]int{nil, {0}, {n - 1}, upTo(n, n/2), upTo(n)} {
			s := newSet(t, n, in...)
			c := s.Clone()
			if c == s || !c.Same(s) || !s.Same(c) {
				t.Errorf("a set of %d with %d in it: its clone is not the same", n, len(in))
			}
			holds(t, c, n, in...)
			holds(t, s, n, in...)
		}
	}
}

func TestASetAndItsCloneGoOnByThemselves(t *testing.T) {
	s := newSet(t, 70, 0, 5, 64)
	c := s.Clone()
	take(t, s, 1)
	drop(t, s, 64)
	holds(t, c, 70, 0, 5, 64)
	put(t, c, 69)
	drop(t, c, 0)
	holds(t, s, 70, 0, 1, 5)
	holds(t, c, 70, 5, 64, 69)
	if s.Same(c) || c.Same(s) {
		t.Error("they are told to be the same")
	}
	d := c.Clone()
	take(t, c, 0)
	take(t, d, 0)
	if !c.Same(d) || !d.Same(c) {
		t.Error("they are told not to be the same")
	}
}

func TestSame(t *testing.T) {
	for _, n := range sizes() {
		kinds := []*alloc.Set{newSet(t, n), newSet(t, n, 0), fullSet(t, n)}
		again := []*alloc.Set{newSet(t, n), newSet(t, n, 0), fullSet(t, n)}
		if n > 1 {
			kinds = append(kinds, newSet(t, n, n-1))
			again = append(again, newSet(t, n, n-1))
		}
		for i, a := range kinds {
			for k, b := range again {
				// Of 1 the set with the first in it is the full one.
				want := i == k || n == 1 && i > 0 && k > 0
				if a.Same(b) != want || b.Same(a) != want {
					t.Errorf("sets of %d, %d and %d: %v, %v", n, i, k, a.Same(b), b.Same(a))
				}
			}
			if !a.Same(a) {
				t.Errorf("a set of %d is not the same as itself", n)
			}
		}
	}
}

func TestSameOfSetsOfAnotherNumber(t *testing.T) {
	for i, n := range sizes() {
		for k, m := range sizes() {
			for _, in := range [][]int{nil, {0}} {
				a, b := newSet(t, n, in...), newSet(t, m, in...)
				if a.Same(b) != (i == k) {
					t.Errorf("sets of %d and of %d with %v in them: %v", n, m, in, a.Same(b))
				}
			}
			if fullSet(t, n).Same(fullSet(t, m)) != (i == k) {
				t.Errorf("full sets of %d and of %d", n, m)
			}
		}
	}
	if newSet(t, 9, 8).Same(newSet(t, 9, 7)) || newSet(t, 9, 8).Same(newSet(t, 10, 9)) {
		t.Error("sets with others in them are the same")
	}
}

func TestSameHangsOnNoHistory(t *testing.T) {
	a := newSet(t, 9, 8, 3, 0)
	b := newSet(t, 9)
	take(t, b, 0)
	put(t, b, 7)
	put(t, b, 3)
	drop(t, b, 7)
	put(t, b, 8)
	b.Put(8)
	b.Put(9)
	b.Drop(1)
	if !a.Same(b) || !b.Same(a) || !a.Same(read(t, b.Bytes(), 9)) {
		t.Error("sets with the same in them are not the same")
	}
	for _, k := range []int{0, 3, 8} {
		drop(t, b, k)
	}
	if !b.Same(newSet(t, 9)) {
		t.Error("a set that was emptied is not the empty one")
	}
}

func TestSameAndCloneAndBytesChangeNothing(t *testing.T) {
	a, b := newSet(t, 9, 1), newSet(t, 9, 2)
	a.Same(b)
	a.Clone()
	a.Bytes()
	a.Count()
	a.Has(2)
	holds(t, a, 9, 1)
	holds(t, b, 9, 2)
}

// P5.5

func TestTakeNeverTellsOneThatIsInIt(t *testing.T) {
	x := noise(55)
	for _, n := range sizes() {
		s := newSet(t, n)
		for range n {
			s.Put(x.below(n))
		}
		for {
			was := s.Clone()
			k, e := s.Take()
			if e == api.ErrFull {
				break
			}
			if e != api.OK || was.Has(k) || !s.Has(k) {
				t.Fatalf("a set of %d: Take: %d, %v; in it: ahead %v, behind %v", n, k, e, was.Has(k), s.Has(k))
			}
		}
		holds(t, s, n, upTo(n)...)
	}
}

func TestWhatIsReadOfBytesIsTheSame(t *testing.T) {
	x := noise(555)
	for _, n := range sizes() {
		for _, s := range []*alloc.Set{newSet(t, n), newSet(t, n, 0), newSet(t, n, n-1), fullSet(t, n)} {
			for range 5 {
				o := read(t, s.Bytes(), n)
				if !o.Same(s) || !s.Same(o) || !bytes.Equal(o.Bytes(), s.Bytes()) {
					t.Fatalf("a set of %d: what is read of its bytes %x is another one", n, s.Bytes())
				}
				for range 1 + n/4 {
					s.Put(x.below(n))
					s.Drop(x.below(n))
				}
			}
		}
	}
}

func TestBytesAreReadAsASetOfMoreToo(t *testing.T) {
	b := newSet(t, 9, 0, 8).Bytes()
	o := read(t, b, 10)
	holds(t, o, 10, 0, 8)
	if o.Same(newSet(t, 9, 0, 8)) {
		t.Error("a set of 10 is the same as one of 9")
	}
	readNone(t, b, 8, api.ErrForm)
}

// Sets that are nil, or that no call made.

func notMade(t *testing.T) []*alloc.Set {
	t.Helper()
	ofNew, _ := alloc.New(0)
	ofRead, _ := alloc.Read(nil, 1)
	var none *alloc.Set
	return []*alloc.Set{nil, {}, new(alloc.Set), ofNew, ofRead, none.Clone(), new(alloc.Set).Clone()}
}

func TestSetsThatNoCallMade(t *testing.T) {
	for i, s := range notMade(t) {
		t.Run(fmt.Sprint(i), func(t *testing.T) {
			for range 2 {
				if n, e := s.Take(); n != 0 || e != api.ErrNil {
					t.Errorf("Take: %d, %v", n, e)
				}
				for _, n := range []int{-1, 0, 1, 7, api.MaxSectors - 1, api.MaxSectors, math.MaxInt, math.MinInt} {
					if e := s.Put(n); e != api.ErrNil {
						t.Errorf("Put(%d): %v", n, e)
					}
					if e := s.Drop(n); e != api.ErrNil {
						t.Errorf("Drop(%d): %v", n, e)
					}
					if s.Has(n) {
						t.Errorf("Has(%d)", n)
					}
				}
				if in, out := s.Count(); in != 0 || out != 0 {
					t.Errorf("Count: %d, %d", in, out)
				}
				if b := s.Bytes(); len(b) != 0 {
					t.Errorf("Bytes: %x", b)
				}
				if c := s.Clone(); c != nil {
					t.Errorf("Clone: %v", c)
				}
			}
		})
	}
}

func TestSameOfSetsThatNoCallMade(t *testing.T) {
	for i, s := range notMade(t) {
		for k, o := range notMade(t) {
			if !s.Same(o) {
				t.Errorf("%d and %d are not the same", i, k)
			}
		}
		for _, n := range sizes() {
			for _, o := range []*alloc.Set{newSet(t, n), newSet(t, n, 0), fullSet(t, n)} {
				if s.Same(o) || o.Same(s) {
					t.Errorf("%d and a set of %d: %v, %v", i, n, s.Same(o), o.Same(s))
				}
			}
		}
	}
}
