package resolve_test

import (
	"slices"
	"strconv"
	"testing"

	"stillroom/api"
)

// P16.1

// example tells the packages of the chapter's example.
func example() []api.Pack {
	return []api.Pack{pack("a 1", "b ^1"), pack("b 1"), pack("b 1.5"), pack("b 2")}
}

func TestSolveExample(t *testing.T) {
	solved(t, example(), needsOf("a *"), "a 1", "b 1.5")
	solvedNot(t, example(), needsOf("a *", "b =2"))
	solved(t, example(), needsOf("b =2"), "b 2")
	solved(t, example(), needsOf("b *", "a *"), "a 1", "b 1.5")
	solved(t, example(), needsOf("b =1", "a *"), "a 1", "b 1")
}

func TestSolveNothing(t *testing.T) {
	solved(t, nil, nil)
	solved(t, []api.Pack{}, []api.Need{})
	solved(t, example(), nil)
	solvedNot(t, nil, needsOf("a *"))
	solvedNot(t, example(), needsOf("c *"))
	solvedNot(t, example(), needsOf("a *", "c *"))
	solvedNot(t, example(), needsOf("a >0-0,<0-0"))
	solvedNot(t, example(), needsOf("a =1.0"))
	solvedNot(t, example(), needsOf("b >2"))
	// What is not reached may be as it likes.
	solved(t, []api.Pack{pack("a 1", "nowhere *"), pack("b 1", "b =2"), pack("c 1")}, nil)
	solved(t, []api.Pack{pack("a 1", "nowhere *"), pack("b 1", "b =2"), pack("c 1")}, needsOf("c *"), "c 1")
}

// TestSolveGreatest: the greatest version that may be, in the order of versions, in
// whatever order the packages come.
func TestSolveGreatest(t *testing.T) {
	l := []api.Pack{pack("a 1.9"), pack("a 1.10"), pack("a 1.2"), pack("a 2-rc1"), pack("a 0.9")}
	solved(t, l, needsOf("a *"), "a 2-rc1")
	solved(t, l, needsOf("a <2-0"), "a 1.10")
	solved(t, l, needsOf("a <1.10"), "a 1.9")
	solved(t, l, needsOf("a =1.2|=0.9"), "a 1.2")
	slices.Reverse(l)
	solved(t, l, needsOf("a *"), "a 2-rc1")
	solved(t, l, needsOf("a <2-0"), "a 1.10")
}

// TestSolveAlike: versions that are alike but for their texts' Count are two.
func TestSolveAlike(t *testing.T) {
	l := []api.Pack{pack("a 1", "b =1.0"), pack("a 1.0", "b =1"), pack("b 1.0.0"), pack("b 1"), pack("b 1.0")}
	solved(t, l, needsOf("a *"), "a 1.0", "b 1")
	solved(t, l, needsOf("a =1"), "a 1", "b 1.0")
	solved(t, l, needsOf("a =1.0"), "a 1.0", "b 1")
	solved(t, l, needsOf("a *", "b >=1.0"), "a 1", "b 1.0")
	solved(t, l, needsOf("a *", "b <1.0"), "a 1.0", "b 1")
	solvedNot(t, l, needsOf("a *", "b =1.0.0"))
	solved(t, l, needsOf("b *"), "b 1.0.0")
	checked(t, l, needsOf("a *"), api.ErrSolve, "a 1.0", "b 1.0")
	checked(t, l, needsOf("a *"), api.ErrNone, "a 1.0", "b 1.0.0.0")
}

// TestSolveSelf: a package that needs itself.
func TestSolveSelf(t *testing.T) {
	solved(t, []api.Pack{pack("a 1", "a *")}, needsOf("a *"), "a 1")
	solved(t, []api.Pack{pack("a 1", "a =1"), pack("a 2", "a =1")}, needsOf("a *"), "a 1")
	solved(t, []api.Pack{pack("a 1", "a =2"), pack("a 2", "a =2")}, needsOf("a *"), "a 2")
	solvedNot(t, []api.Pack{pack("a 1", "a =2"), pack("a 2", "a =1")}, needsOf("a *"))
	solvedNot(t, []api.Pack{pack("a 1", "a =1"), pack("a 2", "a =1")}, needsOf("a =2"))
	solvedNot(t, []api.Pack{pack("a 1", "a =3")}, needsOf("a *"))
	// It does not reach itself.
	solved(t, []api.Pack{pack("a 1", "a *"), pack("b 1")}, needsOf("b *"), "b 1")
	// What else it needs counts, too, ahead of itself and behind.
	solved(t, []api.Pack{pack("a 1", "b =1", "a *", "c *"), pack("b 1"), pack("b 2"), pack("c 1")}, needsOf("a *"), "a 1", "b 1", "c 1")
}

// TestSolveRings: packages that need one another in a ring.
func TestSolveRings(t *testing.T) {
	ring := []api.Pack{pack("a 1", "b *"), pack("b 1", "c *"), pack("c 1", "a *"), pack("d 1", "b *"), pack("e 1")}
	for _, w := range []string{"a *", "b *", "c *"} {
		solved(t, ring, needsOf(w), "a 1", "b 1", "c 1")
	}
	solved(t, ring, needsOf("d *"), "a 1", "b 1", "c 1", "d 1")
	// A ring that nothing reaches is not chosen.
	solved(t, ring, needsOf("e *"), "e 1")
	solved(t, ring, nil)
	// In a ring there may be one assignment that goes round, or none.
	solved(t, []api.Pack{pack("a 2", "b =1"), pack("b 1", "a =1"), pack("a 1", "b =2"), pack("b 2", "a =1")}, needsOf("a *"), "a 1", "b 2")
	solvedNot(t, []api.Pack{pack("a 2", "b =1"), pack("b 1", "a =1"), pack("a 1", "b =2"), pack("b 2", "a =2")}, needsOf("a *"))
	solved(t, []api.Pack{pack("a 2", "b =1"), pack("b 1", "a =1"), pack("a 1", "b =2"), pack("b 2", "a =2"), pack("b 3", "a <2"), pack("a 0", "b =3")}, needsOf("b *"), "a 0", "b 3")
}

// TestSolveLongRing: each of many names needs the next, the last one the first.
func TestSolveLongRing(t *testing.T) {
	const n = 256
	var l []api.Pack
	var want []string
	for i := range n {
		for v := range 4 {
			need := name((i+1)%n) + " =" + strconv.Itoa(v)
			if i == n/2 && v == 3 {
				need = name(i+1) + " =2"
			}
			l = append(l, pack(name(i)+" "+strconv.Itoa(v), need))
		}
		want = append(want, name(i)+" 2")
	}
	solved(t, l, needsOf(name(7)+" *"), want...)
	solved(t, l, nil)
	for i := range want {
		want[i] = name(i) + " 0"
	}
	solved(t, l, needsOf(name(n-1)+" =0"), want...)
	solvedNot(t, l, needsOf(name(n-1)+" =3"))
}

// TestSolveUnlikeRanges: a name that is wanted and needed with unlike ranges, and one
// that is needed so.
func TestSolveUnlikeRanges(t *testing.T) {
	bs := []api.Pack{pack("b 1"), pack("b 2"), pack("b 3"), pack("b 4")}
	l := append([]api.Pack{pack("a 1", "b >=2")}, bs...)
	solved(t, l, needsOf("a *", "b <=3"), "a 1", "b 3")
	solved(t, l, needsOf("a *", "b <=2"), "a 1", "b 2")
	solvedNot(t, l, needsOf("a *", "b <2"))
	solved(t, l, needsOf("b <2"), "b 1")
	l = append([]api.Pack{pack("a 1", "b >=2"), pack("c 1", "b <4"), pack("c 2", "b <2"), pack("d 1", "b =3|=1")}, bs...)
	solved(t, l, needsOf("a *", "c *"), "a 1", "b 3", "c 1")
	solved(t, l, needsOf("c *"), "b 3", "c 1")
	solved(t, l, needsOf("c >1"), "b 1", "c 2")
	solved(t, l, needsOf("d *", "c *", "a *"), "a 1", "b 3", "c 1", "d 1")
	solvedNot(t, l, needsOf("d *", "c =2", "a *"))
}

// TestSolveNoPackage: a need of a name that no package has.
func TestSolveNoPackage(t *testing.T) {
	l := []api.Pack{pack("a 1"), pack("a 2", "nowhere *"), pack("b 1", "a *"), pack("b 2", "a =2")}
	solved(t, l, needsOf("a *"), "a 1")
	solvedNot(t, l, needsOf("a =2"))
	solved(t, l, needsOf("b *"), "a 1", "b 1")
	solvedNot(t, l, needsOf("b =2"))
	solvedNot(t, l, needsOf("nowhere *"))
	solvedNot(t, []api.Pack{pack("a 1", "a *", "b *"), pack("b 1", "c *"), pack("c 1", "d *")}, needsOf("a *"))
}

// TestSolveNothingIsBest: at the first name nothing goes ahead of any version.
func TestSolveNothingIsBest(t *testing.T) {
	// Without a there is but the least of b.
	l := []api.Pack{pack("a 1"), pack("b 3", "a *"), pack("b 2", "a *"), pack("b 1")}
	solved(t, l, needsOf("b *"), "b 1")
	solved(t, l, needsOf("b >1"), "a 1", "b 3")
	solved(t, l, needsOf("b *", "a *"), "a 1", "b 3")
	// But a name that comes first decides, whatever comes behind it.
	l = []api.Pack{pack("a 1"), pack("a 2", "b *"), pack("b 1", "c *", "d *"), pack("c 1"), pack("d 1")}
	solved(t, l, needsOf("a *"), "a 2", "b 1", "c 1", "d 1")
	// A name that is needed by packages alone that are not chosen is nothing.
	l = []api.Pack{pack("m 2", "a *", "z *"), pack("m 1", "z *"), pack("a 1"), pack("z 1"), pack("z 2", "a *")}
	solved(t, l, needsOf("m *"), "m 1", "z 1")
	solved(t, l, needsOf("m =2"), "a 1", "m 2", "z 2")
	solved(t, l, needsOf("m =1", "z =2"), "a 1", "m 1", "z 2")
	solved(t, l, needsOf("z *"), "z 1")
}

// TestSolveFirstName: a greater version of an early name against one of a later name,
// and names are texts, byte by byte.
func TestSolveFirstName(t *testing.T) {
	l := []api.Pack{pack("a 1"), pack("a 2", "b =1", "c =1"), pack("b 1"), pack("b 2"), pack("c 1"), pack("c 9")}
	solved(t, l, needsOf("a *", "b *", "c *"), "a 2", "b 1", "c 1")
	solved(t, l, needsOf("c *", "a *", "b =2"), "a 1", "b 2", "c 9")
	for _, order := range [][2]string{{"a", "b"}, {"a", "a-"}, {"a-", "a0"}, {"a0", "aa"}, {"a10", "a9"}, {"a", "aa"}, {"b9", "ba"}, {"z-z", "z0"}} {
		x, y := order[0], order[1]
		l := []api.Pack{pack(y+" 2", x+" =1"), pack(x+" 2", y+" =1"), pack(y + " 1"), pack(x + " 1")}
		solved(t, l, needsOf(x+" *", y+" *"), x+" 2", y+" 1")
		solved(t, l, needsOf(y+" *", x+" *"), x+" 2", y+" 1")
	}
}

// TestSolveTakenBack: a choice that must be taken back several names later.
func TestSolveTakenBack(t *testing.T) {
	l := []api.Pack{
		pack("a 3", "b *"), pack("a 2", "b *"), pack("a 1", "b *"),
		pack("b 3", "c *"), pack("b 2", "c *"), pack("b 1", "c *"),
		pack("c 3", "d *"), pack("c 2", "d *"),
		pack("d 3", "e *"), pack("d 2", "e *"),
		pack("e 2", "a <3", "z *"), pack("e 1", "a <2"), pack("z 1", "b =2", "c =2"),
	}
	solved(t, l, needsOf("a *"), "a 2", "b 2", "c 2", "d 3", "e 2", "z 1")
	solved(t, l, needsOf("a *", "b =3"), "a 1", "b 3", "c 3", "d 3", "e 1")
	solved(t, l, needsOf("a *", "b =1|=2", "c =3"), "a 1", "b 2", "c 3", "d 3", "e 1")
	solvedNot(t, l, needsOf("a >1", "c =3"))
}

// TestSolveWants: sixty-four wants, and their order does not count.
func TestSolveWants(t *testing.T) {
	var l []api.Pack
	var wants []api.Need
	var want []string
	for i := range 64 {
		l = append(l, pack(name(i)+" 1"), pack(name(i)+" 3", name(i+1)+" <3"), pack(name(i)+" 2"))
		wants = append(wants, needsOf(name(i)+" *")...)
		want = append(want, name(i)+" "+strconv.Itoa(3-i%2))
	}
	l = append(l, pack(name(64)+" 3"))
	// The last one's greatest needs a name that has but the version 3.
	want[63] = name(63) + " 2"
	solved(t, l, wants, want...)
	slices.Reverse(wants)
	slices.Reverse(l)
	solved(t, l, wants, want...)
	// Two wants of others than the best: all behind them shift.
	wants[5].Range, wants[4].Range = "=1", "=3"
	for i, v := range []string{"1", "3", "2", "3", "2", "2"} {
		want[58+i] = name(58+i) + " " + v
	}
	solved(t, l, wants, want...)
	solvedNot(t, l, append(slices.Clone(wants[:63]), needsOf("nowhere *")...))
}
