package digest_test

import (
	"bytes"
	"crypto/sha256"
	"encoding/hex"
	"fmt"
	"slices"
	"strings"
	"testing"

	"stillroom/api"
	"stillroom/bits"
	"stillroom/digest"
)

// noise tells numbers that are alike in every run.
type noise uint64

func (x *noise) next() uint64 {
	*x ^= *x << 13
	*x ^= *x >> 7
	*x ^= *x << 17
	return uint64(*x)
}

func (x *noise) bytes(n int) []byte {
	b := make([]byte, n)
	for i := range b {
		b[i] = byte(x.next() >> 24)
	}
	return b
}

func (x *noise) digest() api.Digest { return api.Digest(x.bytes(32)) }

func fromHex(t *testing.T, s string) api.Digest {
	t.Helper()
	b, err := hex.DecodeString(s)
	if err != nil || len(b) != 32 {
		t.Fatal(s, err)
	}
	return api.Digest(b)
}

// P2.1

func TestSumOfNamedInputs(t *testing.T) {
	for _, c := range []struct{ in, want string }{
		{"", "e3b0c44298fc1c149afbf4c8996fb92427ae41e4649b934ca495991b7852b855"},
		{"abc", "ba7816bf8f01cfea414140de5dae2223b00361a396177a9cb410ff61f20015ad"},
		{"abcdbcdecdefdefgefghfghighijhijkijkljklmklmnlmnomnopnopq", "248d6a61d20638b8e5c026930c3e6039a33ce45964ff2167f6ecedd419db06c1"},
		{strings.Repeat("a", 1000000), "cdc76e5c9914fb9281a1c7e284d73e67f1809a48a497200e046d39ccc7112cd0"},
	} {
		if got := digest.Sum([]byte(c.in)); got != fromHex(t, c.want) {
			t.Errorf("Sum of %d bytes: %x, want %s", len(c.in), got, c.want)
		}
	}
}

func TestSumOfNoBytesNilOrEmpty(t *testing.T) {
	if digest.Sum(nil) != digest.Sum([]byte{}) {
		t.Error("nil and empty differ")
	}
}

func TestSumWhereTheFillingUpBeginsAFurtherChunk(t *testing.T) {
	x := noise(1)
	for _, n := range []int{0, 55, 56, 63, 64, 65, 119, 120, 128} {
		for _, in := range [][]byte{make([]byte, n), bytes.Repeat([]byte{0xff}, n), bytes.Repeat([]byte{0x80}, n), x.bytes(n)} {
			if got, want := digest.Sum(in), api.Digest(sha256.Sum256(in)); got != want {
				t.Errorf("%d bytes %x: %x, want %x", n, in, got, want)
			}
		}
	}
}

func TestSumOfEveryLength(t *testing.T) {
	x := noise(2)
	for n := range 600 {
		in := x.bytes(n)
		if got, want := digest.Sum(in), api.Digest(sha256.Sum256(in)); got != want {
			t.Errorf("%d bytes: %x, want %x", n, got, want)
		}
	}
}

// So many bits need each of the length's lower bytes.
func TestSumOfManyBytes(t *testing.T) {
	x := noise(3)
	for _, n := range []int{8191, 8192, 31744, 65536, 1 << 21, 1<<21 + 57} {
		in := x.bytes(n)
		if got, want := digest.Sum(in), api.Digest(sha256.Sum256(in)); got != want {
			t.Errorf("%d bytes: %x, want %x", n, got, want)
		}
	}
}

func TestSumLeavesWhatItIsGiven(t *testing.T) {
	x := noise(4)
	for _, n := range []int{0, 3, 55, 56, 64, 100} {
		whole := x.bytes(n + 200)
		before := slices.Clone(whole)
		got := digest.Sum(whole[:n])
		if !bytes.Equal(whole, before) {
			t.Errorf("%d bytes: the argument or its spare room changed", n)
		}
		if want := digest.Sum(slices.Clip(slices.Clone(whole[:n]))); got != want {
			t.Errorf("%d bytes: the spare room tells", n)
		}
		if again := digest.Sum(whole[:n]); again != got {
			t.Errorf("%d bytes: a second call answers otherwise", n)
		}
	}
}

// P2.2

func TestTextIsEncode(t *testing.T) {
	x := noise(5)
	all := api.Digest(bytes.Repeat([]byte{0xff}, 32))
	for _, d := range []api.Digest{{}, {31: 1}, {0: 0x80}, all, digest.Sum(nil), digest.Sum([]byte("abc")), x.digest(), x.digest()} {
		got := digest.Text(d)
		if want := bits.Encode(d[:]); got != want {
			t.Errorf("Text(%x) = %s, want %s", d, got, want)
		}
		if len(got) != 52 {
			t.Errorf("Text(%x) has %d signs", d, len(got))
		}
	}
}

func TestTextOfNamedDigests(t *testing.T) {
	for _, c := range []struct {
		d    api.Digest
		want string
	}{
		{api.Digest{}, strings.Repeat("0", 52)},
		{api.Digest(bytes.Repeat([]byte{0xff}, 32)), strings.Repeat("z", 51) + "h"},
		{api.Digest{0: 0x80}, "h" + strings.Repeat("0", 51)},
		{api.Digest{31: 1}, strings.Repeat("0", 51) + "h"},
	} {
		if got := digest.Text(c.d); got != c.want {
			t.Errorf("Text(%x) = %s, want %s", c.d, got, c.want)
		}
	}
}

func TestParseOfTextsOfOtherSizes(t *testing.T) {
	x := noise(6)
	for _, n := range []int{0, 1, 5, 20, 30, 31, 33, 34, 64} {
		for _, in := range [][]byte{make([]byte, n), x.bytes(n)} {
			refused(t, bits.Encode(in))
		}
	}
	in := x.bytes(32)
	if d, e := digest.Parse(bits.Encode(in)); e != api.OK || d != api.Digest(in) {
		t.Errorf("%x %d", d, int(e))
	}
}

func refused(t *testing.T, s string) {
	t.Helper()
	if d, e := digest.Parse(s); e != api.ErrForm || d != (api.Digest{}) {
		t.Errorf("Parse(%q) = %x %d", s, d, int(e))
	}
}

func TestParseRefusesOtherBytesThanTheSigns(t *testing.T) {
	good := digest.Text(digest.Sum([]byte("abc")))
	for c := range 256 {
		known := strings.IndexByte("0123456789abcdfghijklmnpqrsvwxyz", byte(c)) >= 0
		for _, at := range []int{0, 25, 50} {
			s := good[:at] + string([]byte{byte(c)}) + good[at+1:]
			if !known {
				refused(t, s)
			} else if d, e := digest.Parse(s); e != api.OK || digest.Text(d) != s {
				t.Errorf("Parse(%q) = %x %d", s, d, int(e))
			}
		}
	}
	for _, s := range []string{" " + good, good + " ", good + "\n", strings.ToUpper(good), "é" + good[2:]} {
		refused(t, s)
	}
}

func TestParseRefusesASignTooManyOrTooFew(t *testing.T) {
	x := noise(7)
	for range 8 {
		good := digest.Text(x.digest())
		refused(t, good+"0")
		refused(t, "0"+good)
		refused(t, good+"z")
		refused(t, good[:51])
		refused(t, good[1:])
		refused(t, good+good)
	}
	refused(t, strings.Repeat("0", 51))
	refused(t, strings.Repeat("0", 53))
	refused(t, "")
}

// The last of the 52 signs has one bit of the digest, and four that fill up.
func TestParseRefusesBitsThatFillUpAndAreNotZero(t *testing.T) {
	const all = "0123456789abcdfghijklmnpqrsvwxyz"
	head := strings.Repeat("0", 51)
	for i := range all {
		s := head + all[i:i+1]
		switch i {
		case 0, 16:
			if d, e := digest.Parse(s); e != api.OK || d != (api.Digest{31: byte(i >> 4)}) {
				t.Errorf("Parse(%q) = %x %d", s, d, int(e))
			}
		default:
			refused(t, s)
		}
	}
}

func TestShortOfOneByte(t *testing.T) {
	for _, at := range []int{0, 11, 12, 19, 20, 31} {
		for _, c := range []byte{1, 0x80, 0xa5, 0xff} {
			var d api.Digest
			d[at] = c
			want := make([]byte, 20)
			want[at%20] = c
			if got := digest.Short(d); got != bits.Encode(want) {
				t.Errorf("place %d, byte %x: %s, want %s", at, c, got, bits.Encode(want))
			}
		}
	}
}

func TestShortLaysBytesOverOneAnother(t *testing.T) {
	x := noise(8)
	for range 50 {
		d := x.digest()
		var want []byte
		for i := range 20 {
			c := d[i]
			if i < 12 {
				c ^= d[i+20]
			}
			want = append(want, c)
		}
		got := digest.Short(d)
		if got != bits.Encode(want) || len(got) != 32 {
			t.Errorf("Short(%x) = %s, want %s", d, got, bits.Encode(want))
		}
	}
	if got := digest.Short(api.Digest{0: 7, 20: 7, 11: 9, 31: 9}); got != strings.Repeat("0", 32) {
		t.Errorf("bytes that are alike are not taken away: %s", got)
	}
	if got := digest.Short(api.Digest{12: 7, 19: 7}); got == strings.Repeat("0", 32) {
		t.Error("the places 12 and 19 fall together")
	}
}

func TestDistinct(t *testing.T) {
	x := noise(9)
	a, b, c := x.digest(), x.digest(), x.digest()
	for i, k := range []struct {
		in   []api.Digest
		want int
	}{
		{nil, 0},
		{[]api.Digest{}, 0},
		{[]api.Digest{{}}, 1},
		{[]api.Digest{{}, {}}, 1},
		{[]api.Digest{a}, 1},
		{slices.Repeat([]api.Digest{a}, 1000), 1},
		{[]api.Digest{a, b}, 2},
		{[]api.Digest{a, b, a}, 2},
		{[]api.Digest{b, b, a, a, c, {}}, 4},
		{[]api.Digest{a, {}, a}, 2},
	} {
		before := slices.Clone(k.in)
		if got := digest.Distinct(k.in); got != k.want {
			t.Errorf("case %d: %d, want %d", i, got, k.want)
		}
		if !slices.Equal(before, k.in) {
			t.Errorf("case %d: the argument changed", i)
		}
	}
}

func TestDistinctOfDigestsThatDifferInOneByte(t *testing.T) {
	x := noise(10)
	base := x.digest()
	l := []api.Digest{base}
	for at := range base {
		d := base
		d[at] ^= 1
		if got := digest.Distinct([]api.Digest{base, d, base, d}); got != 2 {
			t.Errorf("place %d: %d", at, got)
		}
		l = append(l, d)
	}
	if got := digest.Distinct(l); got != 33 {
		t.Errorf("all: %d", got)
	}
}

func TestDistinctDoesNotReadBehindTheEnd(t *testing.T) {
	l := []api.Digest{{1}, {1}, {2}, {3}}
	if got := digest.Distinct(l[:2]); got != 1 {
		t.Error(got)
	}
}

// P2.3

func TestParseOfTextIsTheDigest(t *testing.T) {
	x := noise(11)
	l := []api.Digest{{}, api.Digest(bytes.Repeat([]byte{0xff}, 32))}
	for i := range 256 {
		var d api.Digest
		d[i/8] = 1 << (i % 8)
		l = append(l, d, x.digest())
	}
	for i := range 100 {
		l = append(l, digest.Sum(fmt.Append(nil, i)))
	}
	for _, d := range l {
		if got, e := digest.Parse(digest.Text(d)); got != d || e != api.OK {
			t.Errorf("%x became %x %d", d, got, int(e))
		}
	}
}
