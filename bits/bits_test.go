package bits_test

import (
	"bytes"
	"fmt"
	"math"
	"strings"
	"testing"

	"stillroom/api"
	"stillroom/bits"
)

const allSigns = "0123456789abcdfghijklmnpqrsvwxyz"

// noise tells numbers that are alike in every run.
type noise uint64

func (x *noise) next() uint64 {
	*x ^= *x << 13
	*x ^= *x >> 7
	*x ^= *x << 17
	return uint64(*x)
}

func (x *noise) bytes(n int) []byte {
	b := make([]byte, n)
	for i := range b {
		b[i] = byte(x.next() >> 24)
	}
	return b
}

// P1.1

func TestRotateOfNamedInputs(t *testing.T) {
	for _, c := range []struct {
		x    uint32
		n    int
		want uint32
	}{
		{1, 1, 1 << 31},
		{1, 0, 1},
		{1, -1, 2},
		{1 << 31, -1, 1},
		{1, 31, 2},
		{1, 32, 1},
		{1, 33, 1 << 31},
		{1, 64, 1},
		{1, -31, 1 << 31},
		{1, -32, 1},
		{1, -33, 2},
		{0x12345678, 8, 0x78123456},
		{0x12345678, -8, 0x34567812},
		{0x12345678, 16, 0x56781234},
		{0, 7, 0},
		{math.MaxUint32, 7, math.MaxUint32},
		{1, math.MinInt, 1},
		{1, math.MinInt + 1, 1 << 31},
		{1, math.MaxInt, 2},
	} {
		if got := bits.Rotate(c.x, c.n); got != c.want {
			t.Errorf("Rotate(%#x, %d) = %#x, not %#x", c.x, c.n, got, c.want)
		}
	}
}

func TestRotateMovesEachBit(t *testing.T) {
	for n := -100; n <= 100; n++ {
		for place := range 32 {
			want := uint32(1) << (((place-n)%32 + 32) % 32)
			if got := bits.Rotate(1<<place, n); got != want {
				t.Fatalf("Rotate(1<<%d, %d) = %#x, not %#x", place, n, got, want)
			}
			if got := bits.Rotate(^(uint32(1) << place), n); got != ^want {
				t.Fatalf("Rotate(^(1<<%d), %d) = %#x, not %#x", place, n, got, ^want)
			}
		}
	}
}

// P1.2

func TestNumber(t *testing.T) {
	for _, c := range []struct {
		b    []byte
		want uint64
		e    api.Errno
	}{
		{nil, 0, api.ErrArg},
		{[]byte{}, 0, api.ErrArg},
		{[]byte{0}, 0, api.OK},
		{[]byte{255}, 255, api.OK},
		{[]byte{1, 0}, 256, api.OK},
		{[]byte{0, 0, 7}, 7, api.OK},
		{[]byte{1, 2, 3, 4}, 0x01020304, api.OK},
		{[]byte{1, 2, 3, 4, 5, 6, 7}, 0x01020304050607, api.OK},
		{[]byte{1, 2, 3, 4, 5, 6, 7, 8}, 0x0102030405060708, api.OK},
		{[]byte{0x80, 0, 0, 0, 0, 0, 0, 0}, 1 << 63, api.OK},
		{bytes.Repeat([]byte{255}, 8), math.MaxUint64, api.OK},
		{make([]byte, 9), 0, api.ErrArg},
		{bytes.Repeat([]byte{255}, 9), 0, api.ErrArg},
		{make([]byte, 1000), 0, api.ErrArg},
	} {
		if got, e := bits.Number(c.b); got != c.want || e != c.e {
			t.Errorf("Number(%v) = %d, %d, not %d, %d", c.b, got, e, c.want, c.e)
		}
	}
}

func TestNumberReadsNothingBehindTheLength(t *testing.T) {
	room := bytes.Repeat([]byte{9}, 20)
	if v, e := bits.Number(room[:1]); v != 9 || e != api.OK {
		t.Error(v, int(e))
	}
	if v, e := bits.Number(room[:0]); v != 0 || e != api.ErrArg {
		t.Error(v, int(e))
	}
	if !bytes.Equal(room, bytes.Repeat([]byte{9}, 20)) {
		t.Error("the bytes were changed:", room)
	}
}

func TestBytes(t *testing.T) {
	for _, c := range []struct {
		v    uint64
		n    int
		want []byte
	}{
		{258, 2, []byte{1, 2}},
		{258, 1, []byte{2}},
		{258, 3, []byte{0, 1, 2}},
		{0, 1, []byte{0}},
		{0, 8, make([]byte, 8)},
		{0x0102030405060708, 1, []byte{8}},
		{0x0102030405060708, 7, []byte{2, 3, 4, 5, 6, 7, 8}},
		{0x0102030405060708, 8, []byte{1, 2, 3, 4, 5, 6, 7, 8}},
		{math.MaxUint64, 8, bytes.Repeat([]byte{255}, 8)},
	} {
		if got, e := bits.Bytes(c.v, c.n); !bytes.Equal(got, c.want) || e != api.OK {
			t.Errorf("Bytes(%#x, %d) = %v, %d, not %v", c.v, c.n, got, e, c.want)
		}
	}
}

func TestBytesOfWrongCounts(t *testing.T) {
	for _, n := range []int{math.MinInt, -8, -1, 0, 9, 64, math.MaxInt} {
		if got, e := bits.Bytes(258, n); len(got) != 0 || e != api.ErrArg {
			t.Errorf("Bytes(258, %d) = %v, %d", n, got, e)
		}
	}
}

func TestBytesIsNewMemory(t *testing.T) {
	a, _ := bits.Bytes(7, 8)
	for i := range a[:cap(a)] {
		a[:cap(a)][i] = 99
	}
	if b, e := bits.Bytes(7, 8); !bytes.Equal(b, []byte{0, 0, 0, 0, 0, 0, 0, 7}) || e != api.OK {
		t.Error(b, int(e))
	}
}

func TestNumberOfBytes(t *testing.T) {
	x := noise(1)
	for range 1000 {
		v := x.next()
		for n := 1; n <= 8; n++ {
			want := v
			if n < 8 {
				want = v % (1 << (8 * n))
			}
			b, e := bits.Bytes(v, n)
			if len(b) != n || e != api.OK {
				t.Fatalf("Bytes(%#x, %d) = %v, %d", v, n, b, e)
			}
			if got, e := bits.Number(b); got != want || e != api.OK {
				t.Fatalf("Number(Bytes(%#x, %d)) = %#x, %d", v, n, got, e)
			}
		}
	}
}

func TestNarrow(t *testing.T) {
	for _, c := range []struct {
		v    uint64
		n    int
		want int64
	}{
		{255, 8, -1},
		{127, 8, 127},
		{128, 8, -128},
		{256, 8, 0},
		{0x17f, 8, 127},
		{255, 9, 255},
		{0, 1, 0},
		{1, 1, -1},
		{2, 1, 0},
		{3, 1, -1},
		{2, 2, -2},
		{1 << 31, 32, math.MinInt32},
		{1<<31 - 1, 32, math.MaxInt32},
		{1 << 62, 63, -1 << 62},
		{1 << 63, 63, 0},
		{1<<63 - 1, 64, math.MaxInt64},
		{1 << 63, 64, math.MinInt64},
		{math.MaxUint64, 64, -1},
	} {
		if got, e := bits.Narrow(c.v, c.n); got != c.want || e != api.OK {
			t.Errorf("Narrow(%#x, %d) = %d, %d, not %d", c.v, c.n, got, e, c.want)
		}
	}
}

func TestNarrowOfWrongCounts(t *testing.T) {
	for _, n := range []int{math.MinInt, -64, -1, 0, 65, 128, math.MaxInt} {
		if got, e := bits.Narrow(255, n); got != 0 || e != api.ErrArg {
			t.Errorf("Narrow(255, %d) = %d, %d", n, got, e)
		}
	}
}

func TestNarrowByTwosComplement(t *testing.T) {
	x := noise(2)
	for range 1000 {
		v := x.next()
		for n := 1; n < 64; n++ {
			want := int64(v % (1 << n))
			if v>>(n-1)%2 == 1 {
				want = want - 1<<(n-1) - 1<<(n-1)
			}
			if got, e := bits.Narrow(v, n); got != want || e != api.OK {
				t.Fatalf("Narrow(%#x, %d) = %d, %d, not %d", v, n, got, e, want)
			}
		}
	}
}

// P1.3

// encodeBySpelling spells the bits out, as the chapter's words say it.
func encodeBySpelling(b []byte) string {
	spelt := ""
	for _, c := range b {
		spelt += fmt.Sprintf("%08b", c)
	}
	for len(spelt)%5 != 0 {
		spelt += "0"
	}
	out := ""
	for ; spelt != ""; spelt = spelt[5:] {
		v := 0
		fmt.Sscanf(spelt[:5], "%b", &v)
		out += allSigns[v : v+1]
	}
	return out
}

func TestEncodeOfNamedInputs(t *testing.T) {
	for _, c := range []struct {
		b    []byte
		want string
	}{
		{nil, ""},
		{[]byte{}, ""},
		{[]byte{0}, "00"},
		{[]byte{1}, "04"},
		{[]byte{255}, "zw"},
		{[]byte{255, 255}, "zzzh"},
		{[]byte{255, 255, 255}, "zzzzy"},
		{[]byte{255, 255, 255, 255}, "zzzzzzq"},
		{[]byte{255, 255, 255, 255, 255}, "zzzzzzzz"},
		{[]byte{0, 0, 0, 0, 1}, "00000001"},
	} {
		if got := bits.Encode(c.b); got != c.want {
			t.Errorf("Encode(%v) = %q, not %q", c.b, got, c.want)
		}
		if got, e := bits.Decode(c.want); !bytes.Equal(got, c.b) || e != api.OK {
			t.Errorf("Decode(%q) = %v, %d, not %v", c.want, got, e, c.b)
		}
	}
}

// The twenty bytes have the numbers 0 to 31 in their groups of five bits.
func TestEachSignStandsForItsNumber(t *testing.T) {
	b := []byte{
		0x00, 0x44, 0x32, 0x14, 0xc7,
		0x42, 0x54, 0xb6, 0x35, 0xcf,
		0x84, 0x65, 0x3a, 0x56, 0xd7,
		0xc6, 0x75, 0xbe, 0x77, 0xdf,
	}
	if got := bits.Encode(b); got != allSigns {
		t.Errorf("Encode = %q, not %q", got, allSigns)
	}
	if got, e := bits.Decode(allSigns); !bytes.Equal(got, b) || e != api.OK {
		t.Errorf("Decode = %x, %d, not %x", got, e, b)
	}
}

func TestEncodeBySpelling(t *testing.T) {
	x := noise(3)
	for n := range 80 {
		for range 5 {
			b := x.bytes(n)
			if got, want := bits.Encode(b), encodeBySpelling(b); got != want {
				t.Fatalf("Encode(%x) = %q, not %q", b, got, want)
			}
		}
	}
}

func TestEncodeLeavesItsArgument(t *testing.T) {
	room := bytes.Repeat([]byte{255}, 20)
	if got := bits.Encode(room[:1]); got != "zw" {
		t.Error(got)
	}
	if !bytes.Equal(room, bytes.Repeat([]byte{255}, 20)) {
		t.Error("the bytes were changed:", room)
	}
}

func TestDecodeOfWrongTexts(t *testing.T) {
	for _, s := range []string{
		// Another byte than the signs, at each place.
		"e0", "o0", "t0", "u0", "0e", "0o", "0t", "0u",
		"A0", "Z0", "/0", ":0", "`0", "{0", " 0", "0 ", "0\n", "\x00\x00", "\xff0", "é", "zwe",
		// A sign too many.
		"0", "z", "000", "zw0", "zzz", "000000", "zzzzy0", "000000000", "zzzzzzzzz",
		// Bits that fill up and are not 0.
		"zz", "zx", "01", "02", "03", "0001", "0008", "00001", "0000001", "0000004", "zzzzz",
	} {
		if b, e := bits.Decode(s); len(b) != 0 || e != api.ErrForm {
			t.Errorf("Decode(%q) = %v, %d", s, b, e)
		}
	}
}

// Of all texts of two bytes just those that a byte has are right.
func TestDecodeOfAllTextsOfTwoBytes(t *testing.T) {
	right := map[string]byte{}
	for c := range 256 {
		right[encodeBySpelling([]byte{byte(c)})] = byte(c)
	}
	for i := range 1 << 16 {
		s := string([]byte{byte(i >> 8), byte(i)})
		checkDecode(t, s, right)
	}
}

func checkDecode(t *testing.T, s string, right map[string]byte) {
	t.Helper()
	got, e := bits.Decode(s)
	if c, ok := right[s]; ok {
		if len(got) != 1 || got[0] != c || e != api.OK {
			t.Fatalf("Decode(%q) = %v, %d, not %d", s, got, e, c)
		}
	} else if len(got) != 0 || e != api.ErrForm {
		t.Fatalf("Decode(%q) = %v, %d", s, got, e)
	}
}

func TestDecodeOfTextsOfOneAndThreeSigns(t *testing.T) {
	for c := range 256 {
		checkDecode(t, string([]byte{byte(c)}), nil)
	}
	for i := range 1 << 15 {
		s := []byte{allSigns[i>>10], allSigns[i>>5&31], allSigns[i&31]}
		checkDecode(t, string(s), nil)
	}
}

// A text is right if, and only if, its bytes have that text; a last sign of
// each kind at each length tells all that can be wrong with the fill.
func TestDecodeOfEachLastSign(t *testing.T) {
	x := noise(4)
	for n := range 80 {
		b := x.bytes(n)
		text := encodeBySpelling(b)
		if n == 0 {
			continue
		}
		fill := 5*len(text) - 8*n
		for v := range 32 {
			s := text[:len(text)-1] + allSigns[v:v+1]
			got, e := bits.Decode(s)
			if v%(1<<fill) != 0 {
				if len(got) != 0 || e != api.ErrForm {
					t.Fatalf("Decode(%q) = %v, %d", s, got, e)
				}
			} else if e != api.OK || encodeBySpelling(got) != s {
				t.Fatalf("Decode(%q) = %v, %d", s, got, e)
			}
		}
	}
}

func TestDecodeOfEachLength(t *testing.T) {
	for n := range 100 {
		got, e := bits.Decode(strings.Repeat("0", n))
		many := 5 * n / 8
		if (many*8+4)/5 != n {
			if len(got) != 0 || e != api.ErrForm {
				t.Errorf("%d signs: %v, %d", n, got, e)
			}
		} else if !bytes.Equal(got, make([]byte, many)) || e != api.OK {
			t.Errorf("%d signs: %v, %d", n, got, e)
		}
	}
}

func TestDecodeIsNewMemory(t *testing.T) {
	a, _ := bits.Decode("zw")
	for i := range a[:cap(a)] {
		a[:cap(a)][i] = 99
	}
	if b, e := bits.Decode("zw"); !bytes.Equal(b, []byte{255}) || e != api.OK {
		t.Error(b, int(e))
	}
}

// P1.4

func TestDecodeOfEncode(t *testing.T) {
	x := noise(5)
	for i := range 1 << 16 {
		checkBack(t, []byte{byte(i >> 8), byte(i)})
	}
	for n := range 200 {
		checkBack(t, make([]byte, n))
		checkBack(t, bytes.Repeat([]byte{255}, n))
		checkBack(t, x.bytes(n))
	}
	checkBack(t, x.bytes(api.MaxText))
}

func checkBack(t *testing.T, b []byte) {
	t.Helper()
	if got, e := bits.Decode(bits.Encode(b)); !bytes.Equal(got, b) || e != api.OK {
		t.Fatalf("%x: Decode of Encode is %x, %d", b, got, e)
	}
}

func TestTheLesserBytesHaveTheLesserText(t *testing.T) {
	last := bits.Encode([]byte{0, 0})
	for i := 1; i < 1<<16; i++ {
		next := bits.Encode([]byte{byte(i >> 8), byte(i)})
		if last >= next {
			t.Fatalf("%04x: %q is not above %q", i, next, last)
		}
		last = next
	}
	x := noise(6)
	for n := 1; n < 60; n++ {
		for range 50 {
			checkOrder(t, x.bytes(n), x.bytes(n))
		}
		a := x.bytes(n)
		b := bytes.Clone(a)
		b[x.next()%uint64(n)] ^= 1 << (x.next() % 8)
		checkOrder(t, a, b)
		checkOrder(t, a, a)
	}
}

func checkOrder(t *testing.T, a, b []byte) {
	t.Helper()
	if strings.Compare(bits.Encode(a), bits.Encode(b)) != bytes.Compare(a, b) {
		t.Fatalf("%x, %x: their texts are in another order", a, b)
	}
}
