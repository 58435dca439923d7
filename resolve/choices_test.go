package resolve_test

import (
	"math"
	"math/big"
	"strconv"
	"testing"

	"stillroom/api"
)

// P16.3

func TestChoicesExamples(t *testing.T) {
	counts(t, example(), 100, 8)
	counts(t, nil, 100, 1)
	counts(t, []api.Pack{}, 1, 1)
	counts(t, []api.Pack{pack("a 1")}, 100, 2)
	counts(t, []api.Pack{pack("a 1"), pack("b 1"), pack("c 1")}, 100, 8)
	counts(t, []api.Pack{pack("a 1"), pack("a 2"), pack("a 3")}, 100, 4)
	// Needs do not count, nor names that are needed alone.
	counts(t, []api.Pack{pack("a 1", "b *", "c *", "a =2")}, 100, 2)
}

// TestChoicesMost: most below 1, at 1, at the product, and one below and far below it.
func TestChoicesMost(t *testing.T) {
	// 3 times 4 times 6.
	l := []api.Pack{pack("a 1"), pack("a 2"), pack("b 1"), pack("b 2"), pack("b 3"), pack("c 1"), pack("c 2"), pack("c 3"), pack("c 4"), pack("c 5")}
	for most := -100; most <= 200; most++ {
		counts(t, l, most, min(max(most, 0), 72))
		counts(t, nil, most, min(max(most, 0), 1))
	}
	for _, most := range []int{math.MinInt, math.MinInt32, -1 << 40} {
		counts(t, l, most, 0)
		counts(t, nil, most, 0)
	}
	for _, most := range []int{math.MaxInt, math.MaxInt - 1, math.MaxInt32, api.MaxFuel} {
		counts(t, l, most, 72)
		counts(t, nil, most, 1)
	}
}

// TestChoicesLarge: products at the greatest number, and far above it.
func TestChoicesLarge(t *testing.T) {
	var l []api.Pack
	product := big.NewInt(1)
	for i := range 300 {
		for v := range 1 + i%3 {
			l = append(l, pack(name(i)+" "+strconv.Itoa(v)))
		}
		product.Mul(product, big.NewInt(int64(2+i%3)))
		for _, most := range []int{1, 2, 1000, api.MaxFuel, math.MaxInt32, math.MaxInt/2 + 1, math.MaxInt - 1, math.MaxInt} {
			want := most
			if product.Cmp(big.NewInt(int64(most))) < 0 {
				want = int(product.Int64())
			}
			counts(t, l, most, want)
		}
	}
	// Just 2^62, and 2^63 and 2^64, which are above the greatest number.
	l = nil
	for i := range 62 {
		l = append(l, pack(name(i)+" 1"))
	}
	counts(t, l, math.MaxInt, 1<<62)
	counts(t, l, 1<<62, 1<<62)
	counts(t, l, 1<<62-1, 1<<62-1)
	counts(t, l, 1<<62+1, 1<<62)
	l = append(l, pack("a 1"))
	counts(t, l, math.MaxInt, math.MaxInt)
	l = append(l, pack("b 1"))
	counts(t, l, math.MaxInt, math.MaxInt)
	counts(t, l, 12345, 12345)
}

// TestChoicesOfWrong: of packages that may not be, too: each that has a name counts.
func TestChoicesOfWrong(t *testing.T) {
	counts(t, []api.Pack{{}}, 100, 2)
	counts(t, []api.Pack{{}, {}, {}}, 100, 4)
	counts(t, []api.Pack{pack("a 1"), pack("a 1")}, 100, 3)
	counts(t, []api.Pack{pack("A x"), pack("A x", "B x"), pack("a x"), pack("")}, 100, 12)
	counts(t, make([]api.Pack, 5000), math.MaxInt, 5001)
	counts(t, make([]api.Pack, 5000), 5000, 5000)
	counts(t, make([]api.Pack, 5000), 0, 0)
}

// TestChoicesRandom holds them against all assignments that there are.
func TestChoicesRandom(t *testing.T) {
	r := noise(169)
	for round := range 2000 {
		packs := r.packs(1+round%6, 2, 500)
		n := 0
		assignments(packs, func(assignment) { n++ })
		for _, most := range []int{-1, 0, 1, n / 2, n - 1, n, n + 1, math.MaxInt} {
			counts(t, packs, most, max(min(most, n), 0))
		}
	}
}
