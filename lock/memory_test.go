package lock_test

import (
	"slices"
	"strings"
	"testing"
	"unsafe"

	"stillroom/api"
	"stillroom/lock"
)

// Rules 3 to 5 and 8: what is handed in stays as it is and is not kept, and what is
// handed out is new memory.

// spare is what stands in the spare room of lists that are handed in. It would change
// each answer.
var spare = api.Pick{Name: "A", Version: "x"}

// roomy tells the same list with spare room behind it that is filled.
func roomy(l []api.Pick) []api.Pick {
	made := append(slices.Clone(l), spare, spare, spare)
	return made[:len(l)]
}

// stays asks that a list that was handed in is what it was, its spare room too.
func stays(t *testing.T, l, was []api.Pick) {
	t.Helper()
	if !slices.Equal(l[:len(was)+3], append(slices.Clone(was), spare, spare, spare)) {
		t.Fatalf("%v was changed to %v", was, l[:len(was)+3])
	}
}

// inside tells whether one text lies on the memory of another.
func inside(a, b string) bool {
	if a == "" || b == "" {
		return false
	}
	at, from := uintptr(unsafe.Pointer(unsafe.StringData(a))), uintptr(unsafe.Pointer(unsafe.StringData(b)))
	return at >= from && at < from+uintptr(len(b))
}

func TestListsStay(t *testing.T) {
	r := noise(176)
	for round := range 3000 {
		from, to := r.any(10, 3), r.any(10, 3)
		if round%2 == 0 {
			from, to = r.rising(10), r.rising(10)
		}
		handed, other := roomy(from), roomy(to)
		unlikeAsPlain(t, handed, other)
		stays(t, handed, from)
		stays(t, other, to)
		if plainMayBe(from) {
			told(t, handed, plainText(from))
		} else {
			wrong(t, handed)
		}
		stays(t, handed, from)
	}
	many := manyPicks(1030)
	told(t, many[:1024], plainText(manyPicks(1024)))
}

// TestParsedIsNewMemory: what Parse tells lies neither in what it tells another time,
// spare room neither, nor in the text that was handed in.
func TestParsedIsNewMemory(t *testing.T) {
	text := strings.Clone(plainText(picksOf(5000)))
	one, _, e := lock.Parse(text)
	other, _, f := lock.Parse(text)
	if e != api.OK || f != api.OK {
		t.Fatal(e, f)
	}
	for _, p := range one {
		if inside(p.Name, text) || inside(p.Version, text) {
			t.Fatalf("%v lies in the text", p)
		}
	}
	room := one[:cap(one)]
	for i := range room {
		room[i] = spare
	}
	if !slices.Equal(other, picksOf(5000)) {
		t.Error("what was told twice shares memory")
	}
}

// TestTextsAreNotKept: what is told stays, whatever becomes of what was handed in.
func TestTextsAreNotKept(t *testing.T) {
	bytes := []byte("lock 1\na 1.0-abc\nb 2\n")
	l, _, e := lock.Parse(unsafe.String(&bytes[0], len(bytes)))
	for i := range bytes {
		bytes[i] = '!'
	}
	if e != api.OK || !slices.Equal(l, picks("a 1.0-abc", "b 2")) {
		t.Errorf("%v, %v", l, e)
	}
}

// TestDiffIsNewMemory: the lists that Diff tells share no memory, and their texts none
// with those that were handed in.
func TestDiffIsNewMemory(t *testing.T) {
	from, to := manyPicks(100), manyPicks(200)[50:]
	for i := range to {
		to[i].Name = strings.Clone(to[i].Name)
		to[i].Version = "1.0-new"
	}
	lists := func() [3][]string {
		added, gone, changed := lock.Diff(from, to)
		return [3][]string{added, gone, changed}
	}
	one, other := lists(), lists()
	for i, l := range one {
		for _, s := range l {
			if slices.ContainsFunc(append(slices.Clone(from), to...), func(p api.Pick) bool { return inside(s, p.Name) }) {
				t.Fatalf("%q lies in what was handed in", s)
			}
		}
		want := slices.Clone(other[i])
		if !slices.Equal(l, want) || len(l) < 50 {
			t.Fatalf("%q, %q", l, want)
		}
		room := l[:cap(l)]
		for j := range room {
			room[j] = "gone"
		}
		if !slices.Equal(other[i], want) {
			t.Error("what was told twice shares memory")
		}
	}
}

// TestNothingIsKept: a call with a fault leaves nothing for the next.
func TestNothingIsKept(t *testing.T) {
	for range 3 {
		readsNot(t, "lock 1\na 1\na 1\n", 2, api.ErrLine)
		reads(t, "lock 1\na 1\n", picks("a 1"))
		wrong(t, picks("a 1", "a 1"))
		told(t, picks("a 1"), "lock 1\na 1\n")
		unlike(t, picks("a 1"), picks("a 2"), nil, nil, []string{"a"})
		unlike(t, picks("a 1"), picks("a 1"), nil, nil, nil)
	}
}
