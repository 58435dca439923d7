package lex_test

import (
	"slices"
	"strings"
	"testing"
	"unsafe"

	"stillroom/api"
	"stillroom/lex"
)

// Rules 3 to 5 and 8: what is handed in stays as it is and is not kept, and what is
// handed out is new memory.

// spare is what stands in the spare room of lists that are handed in. It would change
// each answer.
var spare = api.Token{Kind: 9, Text: "@", At: 7}

// inside tells whether one text lies on the memory of another.
func inside(a, b string) bool {
	if a == "" || b == "" {
		return false
	}
	at, from := uintptr(unsafe.Pointer(unsafe.StringData(a))), uintptr(unsafe.Pointer(unsafe.StringData(b)))
	return at >= from && at < from+uintptr(len(b))
}

func TestListsStay(t *testing.T) {
	r := noise(183)
	for round := range 3000 {
		l := r.tokens(10)
		if round%2 == 0 {
			l = append(l, spare)
		}
		handed := append(slices.Clone(l), spare, spare, spare)
		want := slices.Clone(handed)
		s, e := lex.Show(handed[:len(l)])
		if round%2 == 0 && (s != "" || e != api.ErrForm) || round%2 == 1 && (s != plainShow(l) || e != api.OK) {
			t.Fatalf("%v: %q, %v", l, s, e)
		}
		if !slices.Equal(handed, want) {
			t.Fatalf("%v was changed to %v", want, handed)
		}
	}
}

// TestLexedIsNewMemory: what Lex tells lies neither in what it tells another time,
// spare room neither, nor in the text that was handed in.
func TestLexedIsNewMemory(t *testing.T) {
	s := plainShow(tokensOf())
	one, _, e := lex.Lex(s)
	other, _, f := lex.Lex(s)
	if e != api.OK || f != api.OK {
		t.Fatal(e, f)
	}
	for _, x := range one {
		if inside(x.Text, s) {
			t.Fatalf("%v lies in the text", x)
		}
	}
	room := one[:cap(one)]
	for i := range room {
		room[i] = spare
	}
	if !slices.Equal(unplaced(other), tokensOf()) {
		t.Error("what was told twice shares memory")
	}
}

// TestTextsAreNotKept: what is told stays, whatever becomes of what was handed in.
func TestTextsAreNotKept(t *testing.T) {
	bytes := []byte("let x = \"ab\" ; 12 ==")
	l, _, e := lex.Lex(unsafe.String(&bytes[0], len(bytes)))
	for i := range bytes {
		bytes[i] = '!'
	}
	want := []api.Token{word("let"), name("x"), sign("="), text("ab"), sign(";"), number("12"), sign("==")}
	if e != api.OK || !slices.Equal(unplaced(l), want) {
		t.Errorf("%v, %v", l, e)
	}
	for _, one := range want {
		bytes := []byte(one.Text)
		one.Text = unsafe.String(&bytes[0], len(bytes))
		s, e := lex.Show([]api.Token{one})
		was := strings.Clone(s)
		for i := range bytes {
			bytes[i] = '!'
		}
		if e != api.OK || s != was || inside(s, one.Text) {
			t.Errorf("%q, %v, want %q", s, e, was)
		}
	}
}

// TestNothingIsKept: a call with a fault leaves nothing for the next.
func TestNothingIsKept(t *testing.T) {
	for range 3 {
		lexesNot(t, "a @", 2, api.ErrLex)
		lexes(t, "a", name("a"))
		lexesNot(t, "\"a", 0, api.ErrLex)
		lexes(t, "")
		showsNot(t, name("a"), name("let"))
		shows(t, "a", name("a"))
		shows(t, "")
	}
}
