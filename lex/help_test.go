package lex_test

import (
	"fmt"
	"regexp"
	"slices"
	"strconv"
	"strings"
	"testing"

	"stillroom/api"
	"stillroom/lex"
)

// Making tokens.

func name(s string) api.Token   { return api.Token{Kind: api.TokName, Text: s} }
func number(s string) api.Token { return api.Token{Kind: api.TokInt, Text: s} }
func text(s string) api.Token   { return api.Token{Kind: api.TokText, Text: s} }
func sign(s string) api.Token   { return api.Token{Kind: api.TokSign, Text: s} }
func word(s string) api.Token   { return api.Token{Kind: api.TokWord, Text: s} }

// put tells a token with a place.
func put(t api.Token, at int) api.Token {
	t.At = at
	return t
}

// kinds tells all kinds of tokens, and some that are none.
func kinds() []int { return []int{1, 2, 3, 4, 5} }

func noKinds() []int { return []int{0, -1, 6, 7, -5, 100, 1 << 31, 1 << 62, -1 << 63, 1<<63 - 1} }

// someNames, someNumbers, someTexts, someSigns and someWords tell what tokens of a
// kind may have as their text.
func someNames() []string {
	return []string{
		"a", "z", "A", "Z", "_", "__", "_'", "a'", "a''", "x1", "x'1", "b_c", "aZ09_'", "letx", "let'", "_let", "let1", "let_", "Let", "LET", "le", "lett", "inn", "in'", "i", "iff", "if0", "then_", "the", "elsee", "els", "rec'", "re", "recc", "nil", "null", "or", "true",
		strings.Repeat("a", 30), strings.Repeat("_", 30), "z" + strings.Repeat("'", 29), "let" + strings.Repeat("0", 27),
	}
}

func someNumbers() []string {
	return []string{"0", "1", "9", "10", "19", "90", "100", "1234567890", "12345678901234", "123456789012345", "999999999999999", "100000000000000"}
}

func someTexts() []string {
	all := ""
	for c := ' '; c <= '~'; c++ {
		all += string(c)
	}
	return []string{
		"", " ", "a", "\"", "\\", "\n", "\t", "\\n", "\\t", "\\\\", "\\\"", "\"\"", "\n\n", "a b", "# a", "a # b\n", "let", "1", "==", "~", "!", "'", all, all + "\t\n",
		strings.Repeat("a", 4000), strings.Repeat("\"", 4000), strings.Repeat("\n", 4000), strings.Repeat("a", 3999) + "\\", strings.Repeat("\\", 3999),
	}
}

func someSigns() []string {
	return strings.Fields("== != <= >= && || ++ -> { } [ ] ( ) = ; : . + - * / < > !")
}

func someWords() []string { return strings.Fields("let in if then else rec") }

// noTexts tells what no token but a text has.
func noTexts() []string {
	return []string{"", " ", "  ", "\n", "\t", "\r", "\v", "\x00", "\x7f", "\x80", "\xff", "@", "#", "#a", "# a", "$", "%", "&", ",", "?", "\\", "^", "`", "|", "~", "'", "\"", "\"\"", "\"a\"", "\u00e4", "\u0661", "\u00a0", "\ufeff"}
}

// tokensOf tells the tokens of all texts that they may have.
func tokensOf() (l []api.Token) {
	for _, s := range someNames() {
		l = append(l, name(s))
	}
	for _, s := range someNumbers() {
		l = append(l, number(s))
	}
	for _, s := range someTexts() {
		l = append(l, text(s))
	}
	for _, s := range someSigns() {
		l = append(l, sign(s))
	}
	for _, s := range someWords() {
		l = append(l, word(s))
	}
	return l
}

// noise tells numbers that are alike in every run.
type noise uint64

func (r *noise) below(n int) int {
	*r ^= *r << 13
	*r ^= *r >> 7
	*r ^= *r << 17
	return int(uint64(*r) >> 16 % uint64(n))
}

// one tells one of a few texts.
func (r *noise) one(l ...string) string { return l[r.below(len(l))] }

// tokens tells tokens that may be.
func (r *noise) tokens(most int) (l []api.Token) {
	all := tokensOf()
	for range r.below(most + 1) {
		t := all[r.below(len(all))]
		if len(t.Text) > 100 && r.below(20) != 0 {
			t = name("x" + strconv.Itoa(r.below(100)))
		}
		l = append(l, put(t, r.below(1000)-500))
	}
	return l
}

// A plain reading of the chapter, by other means than the program's.

var (
	plainBetween = regexp.MustCompile(`\A(?:[ \t\n\r]|#[^\n]*)+`)
	plainText    = regexp.MustCompile(`\A"((?:[ !#-\[\]-~]|\\[nt\\"])*)"`)
	plainSign    = regexp.MustCompile(`\A(?:==|!=|<=|>=|&&|\|\||\+\+|->|[{}\[\]()=;:.+\-*/<>!])`)
	plainRun     = regexp.MustCompile(`\A[A-Za-z0-9_'][A-Za-z0-9_']*`)
	plainNumber  = regexp.MustCompile(`\A(?:0|[1-9][0-9]{0,14})\z`)
	plainName    = regexp.MustCompile(`\A[A-Za-z_][A-Za-z0-9_']{0,29}\z`)
	plainWord    = regexp.MustCompile(`\A(?:let|in|if|then|else|rec)\z`)

	fromQuotes = strings.NewReplacer(`\n`, "\n", `\t`, "\t", `\\`, `\`, `\"`, `"`)
	toQuotes   = strings.NewReplacer("\n", `\n`, "\t", `\t`, `\`, `\\`, `"`, `\"`)
)

// plainToken tells the token that a text begins with, and how many bytes it takes.
func plainToken(s string) (api.Token, int) {
	if m := plainText.FindStringSubmatch(s); m != nil {
		own := fromQuotes.Replace(m[1])
		if len(own) > 4000 {
			return api.Token{}, 0
		}
		return text(own), len(m[0])
	}
	if m := plainSign.FindString(s); m != "" {
		return sign(m), len(m)
	}
	run := plainRun.FindString(s)
	switch {
	case plainNumber.MatchString(run):
		return number(run), len(run)
	case plainWord.MatchString(run):
		return word(run), len(run)
	case plainName.MatchString(run):
		return name(run), len(run)
	}
	return api.Token{}, 0
}

// plainLex tells a text's tokens.
func plainLex(s string) (l []api.Token, at int, e api.Errno) {
	if len(s) > 65536 {
		return nil, 0, api.ErrBig
	}
	for {
		at += len(plainBetween.FindString(s[at:]))
		if at == len(s) {
			return l, 0, api.OK
		}
		t, n := plainToken(s[at:])
		if n == 0 {
			return nil, at, api.ErrLex
		}
		l = append(l, put(t, at))
		at += n
	}
}

// plainMayBe tells whether tokens may be: whether each alone is what its text has.
func plainMayBe(l []api.Token) bool {
	for _, t := range l {
		got, n := plainToken(plainOne(t))
		if got != put(t, 0) || n != len(plainOne(t)) {
			return false
		}
	}
	return true
}

// plainOne tells a token's text, be it as it may.
func plainOne(t api.Token) string {
	if t.Kind == api.TokText {
		return `"` + toQuotes.Replace(t.Text) + `"`
	}
	return t.Text
}

// plainShow tells tokens' text, be they as they may.
func plainShow(l []api.Token) string {
	var parts []string
	for _, t := range l {
		parts = append(parts, plainOne(t))
	}
	return strings.Join(parts, " ")
}

// Asking.

// brief tells tokens, cut where they are many.
func brief(l []api.Token) string {
	s := fmt.Sprintf("%d tokens %+v", len(l), l)
	return s[:min(len(s), 300)]
}

// lexes asks that a text has these tokens at their places.
func lexes(t *testing.T, s string, want ...api.Token) {
	t.Helper()
	if l, at, e := lex.Lex(s); !slices.Equal(l, want) || at != 0 || e != api.OK {
		t.Errorf("Lex(%.200q): %s, %d, %v, want %s", s, brief(l), at, e, brief(want))
	}
}

// has asks that a text has these tokens, wherever they begin.
func has(t *testing.T, s string, want ...api.Token) {
	t.Helper()
	l, at, e := lex.Lex(s)
	if !slices.Equal(unplaced(l), unplaced(want)) || at != 0 || e != api.OK {
		t.Errorf("Lex(%.200q): %s, %d, %v, want %s", s, brief(l), at, e, brief(want))
	}
}

// unplaced tells tokens without their places.
func unplaced(l []api.Token) (made []api.Token) {
	for _, t := range l {
		made = append(made, put(t, 0))
	}
	return made
}

// lexesNot asks that a text has no tokens, with that error at that place.
func lexesNot(t *testing.T, s string, place int, want api.Errno) {
	t.Helper()
	if l, at, e := lex.Lex(s); len(l) != 0 || at != place || e != want {
		t.Errorf("Lex(%.200q): %s, %d, %v, want %d, %v", s, brief(l), at, e, place, want)
	}
}

// lexesAsPlain holds Lex against the plain reading, and tells whether a text has
// tokens; if it has, they must have a text, and that one the same tokens.
func lexesAsPlain(t *testing.T, s string) bool {
	t.Helper()
	l, at, e := plainLex(s)
	if e != api.OK {
		lexesNot(t, s, at, e)
		return false
	}
	lexes(t, s, l...)
	showsAsPlain(t, l)
	return true
}

// shows asks that tokens have a text, and that it has the tokens.
func shows(t *testing.T, want string, l ...api.Token) {
	t.Helper()
	if s, e := lex.Show(l); s != want || e != api.OK {
		t.Errorf("Show(%s): %.200q, %v, want %.200q", brief(l), s, e, want)
	}
	if len(want) <= 65536 {
		has(t, want, l...)
	} else {
		lexesNot(t, want, 0, api.ErrBig)
	}
}

// showsNot asks that tokens may not be.
func showsNot(t *testing.T, l ...api.Token) {
	t.Helper()
	if s, e := lex.Show(l); s != "" || e != api.ErrForm {
		t.Errorf("Show(%s): %.200q, %v, want %v", brief(l), s, e, api.ErrForm)
	}
}

// showsAsPlain holds Show against the plain reading, and tells whether tokens may be.
func showsAsPlain(t *testing.T, l []api.Token) bool {
	t.Helper()
	if !plainMayBe(l) {
		showsNot(t, l...)
		return false
	}
	shows(t, plainShow(l), l...)
	return true
}
