package index_test

import (
	"slices"
	"strings"
	"testing"
	"unsafe"

	"stillroom/api"
	"stillroom/index"
)

// Rules 3 to 5 and 8: what is handed in stays as it is, and what is handed out is
// new memory.

// inside tells whether one text lies on the memory of another.
func inside(a, b string) bool {
	if a == "" || b == "" {
		return false
	}
	at, from := uintptr(unsafe.Pointer(unsafe.StringData(a))), uintptr(unsafe.Pointer(unsafe.StringData(b)))
	return at >= from && at < from+uintptr(len(b))
}

// spare is what stands in the spare room of lists that are handed in.
var spare = struct {
	pack api.Pack
	need api.Need
}{api.Pack{Name: "a", Version: "1"}, api.Need{Name: "b", Range: "*"}}

// roomy tells the same packages, each list with spare room behind it that is filled.
func roomy(l []api.Pack) []api.Pack {
	made := make([]api.Pack, len(l)+3)
	for i := range made {
		made[i] = spare.pack
	}
	for i, p := range l {
		needs := make([]api.Need, len(p.Needs)+3)
		for j := range needs {
			needs[j] = spare.need
		}
		copy(needs, p.Needs)
		made[i] = api.Pack{Name: p.Name, Version: p.Version, Needs: needs[:len(p.Needs)]}
	}
	return made[:len(l)]
}

// TestListsStay: no call changes packages, or reads or changes their spare room.
func TestListsStay(t *testing.T) {
	r := noise(156)
	for round := range 2000 {
		l := r.packs(10, 4+round%30, round%30)
		handed := roomy(l)
		plain, right := plainText(l), plainRight(l)
		if e := index.Right(handed); e != right {
			t.Fatalf("Right(%v): %v, want %v", l, e, right)
		}
		if s, e := index.Text(handed); e != right || e == api.OK && s != plain {
			t.Fatalf("Text(%v): %q, %v", l, s, e)
		}
		if got, want := index.Versions(handed, "a1"), index.Versions(l, "a1"); !slices.Equal(got, want) {
			t.Fatalf("Versions(%v): %q, want %q", l, got, want)
		}
		if !samePacks(handed[:cap(handed)], append(slices.Clone(l), spare.pack, spare.pack, spare.pack)) {
			t.Fatalf("%v was changed to %v", l, handed[:cap(handed)])
		}
		for i, p := range handed {
			if !slices.Equal(p.Needs[:cap(p.Needs)], append(slices.Clone(l[i].Needs), spare.need, spare.need, spare.need)) {
				t.Fatalf("%v was changed to %v", l[i].Needs, p.Needs[:cap(p.Needs)])
			}
		}
	}
}

// TestSpareRoomIsNotRead: what would be too many or there already is none behind the
// lists' ends.
func TestSpareRoomIsNotRead(t *testing.T) {
	l := roomy([]api.Pack{pack("a", "1", "b *")})
	mayBe(t, l...)
	has(t, l, "a", "1")
	many := manyPacks(1030)
	mayBe(t, many[:1024]...)
	mayBe(t, api.Pack{Name: "a", Version: "1", Needs: manyNeeds(70)[:64]})
}

// TestParsedIsNewMemory: no list of what Parse tells lies in another, spare room
// neither, and no text in the one that was handed in.
func TestParsedIsNewMemory(t *testing.T) {
	l := manyPacks(50)
	for i := range l {
		l[i].Needs = manyNeeds(i % 20)
	}
	text := strings.Clone(plainText(l))
	one, _, e := index.Parse(text)
	other, _, f := index.Parse(text)
	if e != api.OK || f != api.OK {
		t.Fatal(e, f)
	}
	for i, p := range one {
		for _, s := range []string{p.Name, p.Version} {
			if inside(s, text) {
				t.Fatalf("%q lies in the text", s)
			}
		}
		for _, n := range p.Needs {
			if inside(n.Name, text) || inside(n.Range, text) {
				t.Fatalf("%v lies in the text", n)
			}
		}
		// All of the list's room is written upon.
		room := p.Needs[:cap(p.Needs)]
		for j := range room {
			room[j] = spare.need
		}
		one[i].Name = "gone"
		for k := i + 1; k < len(one); k++ {
			if one[k].Name != l[k].Name || !slices.Equal(one[k].Needs, l[k].Needs) {
				t.Fatalf("the needs of %d and %d share memory", i, k)
			}
		}
	}
	room := one[:cap(one)]
	for i := range room {
		room[i] = spare.pack
	}
	if !samePacks(other, l) {
		t.Error("what was told twice shares memory")
	}
}

// TestTextsAreNotKept: what is told stays, whatever becomes of what was handed in.
func TestTextsAreNotKept(t *testing.T) {
	bytes := []byte("package a 1.0-abc\nneeds b ^1,<2-abc\n")
	l, _, e := index.Parse(unsafe.String(&bytes[0], len(bytes)))
	if e != api.OK {
		t.Fatal(e)
	}
	for i := range bytes {
		bytes[i] = '!'
	}
	if !samePacks(l, []api.Pack{pack("a", "1.0-abc", "b ^1,<2-abc")}) {
		t.Errorf("%v", l)
	}
}

func TestVersionsAreNewMemory(t *testing.T) {
	l := []api.Pack{pack("a", "1.2.3-abc"), pack("a", "no version"), pack("a", "2.0.0")}
	one, other := index.Versions(l, "a"), index.Versions(l, "a")
	for _, s := range one {
		for _, p := range l {
			if inside(s, p.Version) {
				t.Errorf("%q lies in what was handed in", s)
			}
		}
	}
	for i := range one[:cap(one)] {
		one[:cap(one)][i] = "gone"
	}
	if !slices.Equal(other, []string{"2.0.0", "1.2.3-abc", "no version"}) {
		t.Errorf("%q", other)
	}
	has(t, l, "a", "2.0.0", "1.2.3-abc", "no version")
}

// TestNothingIsKept: a call with a fault leaves nothing for the next.
func TestNothingIsKept(t *testing.T) {
	for range 3 {
		readsNot(t, "package a 1\nneeds b *\npackage a 1\n", 2, api.ErrThere)
		reads(t, "package a 1\nneeds b *\n", []api.Pack{pack("a", "1", "b *")})
		wrong(t, []api.Pack{pack("a", "1"), pack("a", "1")}, api.ErrThere)
		mayBe(t, pack("a", "1"))
	}
}
