package version_test

import (
	"math"
	"testing"

	"stillroom/api"
	"stillroom/version"
)

// P13.4

// bumps asks that the version behind one is this.
func bumps(t *testing.T, v version.Version, n int, want version.Version) {
	t.Helper()
	if got, e := version.Bump(v, n); got != want || e != api.OK {
		t.Errorf("Bump(%#v, %d): %#v, %v, want %#v", v, n, got, e, want)
	}
}

// bumpsNot asks that there is none, and which error tells so.
func bumpsNot(t *testing.T, v version.Version, n int, want api.Errno) {
	t.Helper()
	if got, e := version.Bump(v, n); got != (version.Version{}) || e != want {
		t.Errorf("Bump(%#v, %d): %#v, %v, want %v", v, n, got, e, want)
	}
}

func TestBumpExample(t *testing.T) {
	bumps(t, parsed(t, "1.2.3"), 2, parsed(t, "1.3"))
}

func TestBumpOrdinary(t *testing.T) {
	for _, c := range []struct {
		text string
		n    int
		want string
	}{
		{"1.2.3.4", 1, "2"},
		{"1.2.3.4", 2, "1.3"},
		{"1.2.3.4", 3, "1.2.4"},
		{"1.2.3.4", 4, "1.2.3.5"},
		{"1.2.3.4-rc1", 1, "2"},
		{"1.2.3.4-rc1", 2, "1.3"},
		{"1.2.3.4-rc1", 3, "1.2.4"},
		{"1.2.3.4-rc1", 4, "1.2.3.5"},
		{"0", 1, "1"},
		{"0-0", 1, "1"},
		{"9", 1, "10"},
		{"0.0.0.0", 4, "0.0.0.1"},
		{"0.0.0.0", 1, "1"},
		{"1.9", 2, "1.10"},
		// n is above the version's own Count.
		{"1", 2, "1.1"},
		{"1", 3, "1.0.1"},
		{"1", 4, "1.0.0.1"},
		{"1.2", 3, "1.2.1"},
		{"1.2", 4, "1.2.0.1"},
		{"1.2.3", 4, "1.2.3.1"},
		{"1.2-rc1", 4, "1.2.0.1"},
		{"999999999", 2, "999999999.1"},
		{"999999999-z", 4, "999999999.0.0.1"},
		// The last number becomes the greatest one, or one ahead of it is it.
		{"999999998", 1, "999999999"},
		{"1.999999998", 2, "1.999999999"},
		{"1.2.999999998", 3, "1.2.999999999"},
		{"1.2.3.999999998", 4, "1.2.3.999999999"},
		{"1.2.3.999999998-a", 4, "1.2.3.999999999"},
		{"999999999.999999999.999999999.999999998", 4, "999999999.999999999.999999999.999999999"},
		{"999999999.1", 2, "999999999.2"},
		{"1.999999999.3", 3, "1.999999999.4"},
		// One behind it is the greatest.
		{"1.999999999", 1, "2"},
		{"1.2.3.999999999", 3, "1.2.4"},
		{"1.999999999.999999999.999999999", 1, "2"},
	} {
		bumps(t, parsed(t, c.text), c.n, parsed(t, c.want))
	}
}

// TestBumpBeyond: a number above the greatest one can't be.
func TestBumpBeyond(t *testing.T) {
	for n := 1; n <= 4; n++ {
		for count := n; count <= 4; count++ {
			for _, tag := range []string{"", "rc1"} {
				v := version.Version{Count: count, Tag: tag}
				v.Nums[n-1] = 999999999
				bumpsNot(t, v, n, api.ErrVersion)
				v = version.Version{Nums: [4]int{5, 6, 7, 8}, Count: 4, Tag: tag}
				v.Nums[n-1] = 999999999
				bumpsNot(t, v, n, api.ErrVersion)
			}
		}
	}
	for n := 1; n <= 4; n++ {
		bumpsNot(t, of(999999999, 999999999, 999999999, 999999999), n, api.ErrVersion)
	}
}

// noPlaces tells numbers that are not from 1 to 4.
func noPlaces() []int {
	return []int{0, 5, 6, -1, -2, -4, 100, 256, 257, 1<<32 + 1, math.MaxInt32, math.MinInt32, math.MaxInt, math.MinInt}
}

func TestBumpWrongPlace(t *testing.T) {
	for _, v := range someVersions() {
		for _, n := range noPlaces() {
			bumpsNot(t, v, n, api.ErrArg)
		}
	}
}

// TestBumpWrongStruct: of a struct that may not be that is told, whatever n is.
func TestBumpWrongStruct(t *testing.T) {
	for _, v := range wrongStructs() {
		for n := 1; n <= 4; n++ {
			bumpsNot(t, v, n, api.ErrVersion)
		}
		for _, n := range noPlaces() {
			bumpsNot(t, v, n, api.ErrVersion)
		}
	}
}

// P13.5: Bump(v, n) is above each version that has v's first n numbers.

// begins tells whether two have the same first n numbers.
func begins(v, w version.Version, n int) bool {
	for i := range n {
		if v.Nums[i] != w.Nums[i] {
			return false
		}
	}
	return true
}

func TestBumpIsAbove(t *testing.T) {
	r := noise(135)
	l := someVersions()
	for range 300 {
		l = append(l, r.version())
	}
	tried := 0
	for _, v := range l {
		for n := 1; n <= 4; n++ {
			b, e := version.Bump(v, n)
			if e != api.OK {
				if e != api.ErrVersion || v.Nums[n-1] != 999999999 {
					t.Errorf("Bump(%#v, %d): %v", v, n, e)
				}
				continue
			}
			for _, w := range l {
				if begins(v, w, n) {
					tried++
					compares(t, b, w, 1)
				}
			}
			// The greatest that begins so.
			last := v
			for i := n; i < 4; i++ {
				last.Nums[i] = 999999999
			}
			last.Count, last.Tag = 4, ""
			compares(t, b, last, 1)
			if _, e := version.Text(b); e != api.OK {
				t.Errorf("Bump(%#v, %d): %#v, which may not be", v, n, b)
			}
		}
	}
	if tried < 3000 {
		t.Error("too little was tried:", tried)
	}
}

// TestBumpRandom: all of what is told, of many versions.
func TestBumpRandom(t *testing.T) {
	r := noise(136)
	for range 20000 {
		v, n := r.version(), 1+r.below(4)
		want := version.Version{Count: n}
		for i := range n {
			want.Nums[i] = v.Nums[i]
		}
		if want.Nums[n-1] == 999999999 {
			bumpsNot(t, v, n, api.ErrVersion)
			continue
		}
		want.Nums[n-1]++
		bumps(t, v, n, want)
	}
}
