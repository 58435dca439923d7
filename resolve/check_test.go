package resolve_test

import (
	"testing"

	"stillroom/api"
)

// P16.2

func TestCheckExample(t *testing.T) {
	l, w := example(), needsOf("a *")
	checked(t, l, w, api.OK, "a 1", "b 1.5")
	// A solution need not be the best one.
	checked(t, l, w, api.OK, "a 1", "b 1")
	checked(t, l, w, api.ErrSolve, "a 1", "b 2")
	checked(t, l, w, api.ErrSolve, "a 1")
	checked(t, l, w, api.ErrSolve, "b 1")
	checked(t, l, w, api.ErrSolve)
	checked(t, l, nil, api.OK)
	checked(t, nil, nil, api.OK)
	checked(t, nil, w, api.ErrSolve)
}

// TestCheckNames: names that do not rise, or are told twice.
func TestCheckNames(t *testing.T) {
	l := []api.Pack{pack("a 1"), pack("a 2"), pack("a- 1"), pack("a0 1"), pack("aa 1"), pack("b 1")}
	w := needsOf("a *", "b *")
	checked(t, l, w, api.OK, "a 1", "b 1")
	checked(t, l, w, api.ErrName, "b 1", "a 1")
	checked(t, l, w, api.ErrName, "a 1", "a 1")
	checked(t, l, w, api.ErrName, "a 1", "a 1", "b 1")
	checked(t, l, w, api.ErrName, "a 1", "a 2", "b 1")
	checked(t, l, w, api.ErrName, "a 1", "b 1", "b 1")
	checked(t, l, w, api.ErrName, "a 1", "b 1", "a 1")
	all := needsOf("a *", "b *", "aa *", "a0 *", "a- *")
	checked(t, l, all, api.OK, "a 2", "a- 1", "a0 1", "aa 1", "b 1")
	checked(t, l, all, api.ErrName, "a 2", "a0 1", "a- 1", "aa 1", "b 1")
	checked(t, l, all, api.ErrName, "a- 1", "a 2", "a0 1", "aa 1", "b 1")
	checked(t, l, all, api.ErrName, "a 2", "a- 1", "a0 1", "b 1", "aa 1")
	// That goes ahead of picks that no package has, and of what is no solution.
	checked(t, l, w, api.ErrName, "nowhere 1", "b 1", "a 1")
	checked(t, l, w, api.ErrName, "a 9", "a 9")
	checked(t, l, w, api.ErrName, "z x", "A x")
	checked(t, nil, nil, api.ErrName, "a 1", "a 1")
	checked(t, l, w, api.ErrName, " ", " ")
}

// TestCheckNone: picks that no package has, by their names' and versions' texts.
func TestCheckNone(t *testing.T) {
	l, w := []api.Pack{pack("a 1"), pack("b 2"), pack("c 1.0")}, needsOf("a *")
	checked(t, l, w, api.OK, "a 1")
	for _, pick := range []string{"a 2", "a 1.0", "a 1.0.0.0", "a 01", "a ", "a x", "a *", "a =1", "A 1", "aa 1", "", " 1", "nowhere 1", "b 1", "c 1", "a 1 ", "\xff 1"} {
		checked(t, l, w, api.ErrNone, pick)
		checked(t, l, nil, api.ErrNone, pick)
		checked(t, nil, nil, api.ErrNone, pick)
	}
	checked(t, l, w, api.ErrNone, "a 1", "b 1")
	checked(t, l, w, api.ErrNone, "a 1", "nowhere 1")
	checked(t, l, w, api.ErrNone, "a 1", "b 2", "d 1")
	checked(t, l, w, api.ErrNone, "0 1", "a 1")
	// That goes ahead of what is no solution.
	checked(t, l, w, api.ErrNone, "b 2", "nowhere 1")
	checked(t, l, needsOf("nowhere *"), api.ErrNone, "nowhere 1")
	checked(t, nil, needsOf("a *"), api.ErrNone, "a 1")
}

// TestCheckLeftOut: picks that leave a want or a need out, or break a range.
func TestCheckLeftOut(t *testing.T) {
	l := []api.Pack{pack("a 1", "b ^1", "c *"), pack("a 2", "b =2"), pack("b 1", "d >1"), pack("b 2"), pack("c 1"), pack("d 1"), pack("d 2")}
	w := needsOf("a *")
	checked(t, l, w, api.OK, "a 1", "b 1", "c 1", "d 2")
	checked(t, l, w, api.OK, "a 2", "b 2")
	checked(t, l, w, api.ErrSolve, "a 1", "b 1", "c 1")
	checked(t, l, w, api.ErrSolve, "a 1", "b 1", "d 2")
	checked(t, l, w, api.ErrSolve, "a 1", "c 1", "d 2")
	checked(t, l, w, api.ErrSolve, "a 1", "b 1", "c 1", "d 1")
	checked(t, l, w, api.ErrSolve, "a 1", "b 2", "c 1")
	checked(t, l, w, api.ErrSolve, "a 2", "b 1", "d 2")
	checked(t, l, w, api.ErrSolve, "b 1", "c 1", "d 2")
	checked(t, l, needsOf("a *", "c *"), api.OK, "a 1", "b 1", "c 1", "d 2")
	checked(t, l, needsOf("a *", "c *"), api.ErrSolve, "a 2", "b 2")
	checked(t, l, needsOf("c *", "a =2"), api.OK, "a 2", "b 2", "c 1")
	checked(t, l, needsOf("c >1", "a =2"), api.ErrSolve, "a 2", "b 2", "c 1")
	checked(t, l, needsOf("a =2"), api.ErrSolve, "a 1", "b 1", "c 1", "d 2")
	checked(t, l, needsOf("nowhere *"), api.ErrSolve)
	checked(t, l, needsOf("nowhere *"), api.ErrSolve, "c 1")
	// A need of a name that no package has can't be met.
	l = append(l, pack("e 1", "nowhere *"))
	checked(t, l, needsOf("e *"), api.ErrSolve, "e 1")
}

// TestCheckNotNeeded: picks that nothing needs, or nothing that a want leads to.
func TestCheckNotNeeded(t *testing.T) {
	l := []api.Pack{pack("a 1", "b *"), pack("a 2"), pack("b 1"), pack("c 1", "d *"), pack("d 1", "c *"), pack("e 1", "e *"), pack("f 1", "a *")}
	w := needsOf("a *")
	checked(t, l, w, api.OK, "a 1", "b 1")
	checked(t, l, w, api.OK, "a 2")
	checked(t, l, w, api.ErrSolve, "a 2", "b 1")
	checked(t, l, w, api.ErrSolve, "a 2", "f 1")
	checked(t, l, nil, api.ErrSolve, "a 2")
	checked(t, l, nil, api.ErrSolve, "b 1")
	// A ring, or a package that needs itself, is not what leads to it.
	checked(t, l, w, api.ErrSolve, "a 2", "c 1", "d 1")
	checked(t, l, needsOf("a *", "d *"), api.OK, "a 2", "c 1", "d 1")
	checked(t, l, nil, api.ErrSolve, "c 1", "d 1")
	checked(t, l, w, api.ErrSolve, "a 2", "e 1")
	checked(t, l, needsOf("e *"), api.OK, "e 1")
	checked(t, l, nil, api.ErrSolve, "e 1")
	// What was not chosen leads to nothing, nor does another version.
	checked(t, l, needsOf("f *"), api.OK, "a 1", "b 1", "f 1")
	checked(t, l, needsOf("f *"), api.ErrSolve, "a 2", "b 1", "f 1")
}

// TestCheckChain: a chain of many needs leads to what is chosen, as long as none is
// missing.
func TestCheckChain(t *testing.T) {
	var l []api.Pack
	var picks []string
	for i := range 1000 {
		l = append(l, pack(name(999-i)+" 1", name(1000-i)+" *"))
		picks = append(picks, name(i)+" 1")
	}
	l = append(l, pack(name(1000)+" 1"))
	picks = append(picks, name(1000)+" 1")
	checked(t, l, needsOf(name(0)+" *"), api.OK, picks...)
	checked(t, l, needsOf(name(1)+" *"), api.OK, picks[1:]...)
	checked(t, l, needsOf(name(1)+" *"), api.ErrSolve, picks...)
	checked(t, l, needsOf(name(0)+" *"), api.ErrSolve, picks[:1000]...)
	for _, at := range []int{0, 1, 500, 999} {
		checked(t, l, needsOf(name(0)+" *"), api.ErrSolve, append(append([]string{}, picks[:at]...), picks[at+1:]...)...)
	}
}
