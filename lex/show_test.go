package lex_test

import (
	"slices"
	"strings"
	"testing"

	"stillroom/api"
)

// P18.2, and P18.3: shows asks that a text which Show tells has the same tokens.

func TestShowExamples(t *testing.T) {
	shows(t, "")
	shows(t, "let x = 1 ;", word("let"), name("x"), sign("="), number("1"), sign(";"))
	shows(t, "a", name("a"))
	shows(t, `"a\"\n"`, text("a\"\n"))
	shows(t, `"" "a" "\t\\"`, text(""), text("a"), text("\t\\"))
	shows(t, "= = == ! =", sign("="), sign("="), sign("=="), sign("!"), sign("="))
	shows(t, "a b 1 2 let in", name("a"), name("b"), number("1"), number("2"), word("let"), word("in"))
}

// TestShowEach: each token alone, twice, and ahead of and behind another one.
func TestShowEach(t *testing.T) {
	all := tokensOf()
	for _, one := range all {
		s := plainOne(one)
		shows(t, s, one)
		shows(t, s+" "+s, one, one)
		shows(t, "x "+s+" 1", name("x"), one, number("1"))
		for _, other := range all {
			if len(one.Text)+len(other.Text) < 200 {
				shows(t, s+" "+plainOne(other), one, other)
			}
		}
	}
	shows(t, plainShow(all), all...)
}

// TestShowPlaces: where a token stood changes nothing.
func TestShowPlaces(t *testing.T) {
	for _, at := range []int{0, 1, -1, 5, 65536, 65537, 1 << 40, -1 << 63, 1<<63 - 1} {
		shows(t, `let x = "a" ;`, put(word("let"), at), put(name("x"), at), put(sign("="), -at), put(text("a"), at), put(sign(";"), at/2))
		showsNot(t, put(name("let"), at))
		showsNot(t, put(api.Token{}, at))
	}
}

// TestShowKinds: a kind that is none, and a text that another kind has.
func TestShowKinds(t *testing.T) {
	all := tokensOf()
	for _, one := range all {
		for _, kind := range noKinds() {
			showsNot(t, api.Token{Kind: kind, Text: one.Text})
		}
		for _, kind := range kinds() {
			other := api.Token{Kind: kind, Text: one.Text}
			showsAsPlain(t, []api.Token{other})
			if kind != one.Kind && kind != api.TokText && one.Kind != api.TokText {
				showsNot(t, other)
			}
		}
	}
	showsNot(t, api.Token{})
	showsNot(t, api.Token{Text: "a", At: 3})
	for _, s := range noTexts() {
		for _, kind := range []int{api.TokName, api.TokInt, api.TokSign, api.TokWord, 0, 6} {
			showsNot(t, api.Token{Kind: kind, Text: s})
		}
	}
}

func TestShowNoNames(t *testing.T) {
	for _, s := range []string{
		"", "let", "in", "if", "then", "else", "rec", "'", "'a", "1", "1a", "0", "a b", " a", "a ", "a\n", "a#", "a-b", "a.b", "a\"", "\"a\"", "a\x00", "a\x7f", "a\u00e4", "\u00e4", "a@", "@a", "a`", "`a", "a[", "a{", "{", "a/", "a:",
		strings.Repeat("a", 31), "_" + strings.Repeat("'", 30), strings.Repeat("a", 1<<16), strings.Repeat("a", 1<<17),
	} {
		showsNot(t, name(s))
		showsNot(t, name("a"), name(s))
		showsNot(t, name(s), name("b"))
	}
}

func TestShowNoNumbers(t *testing.T) {
	for _, s := range []string{
		"", "00", "01", "010", "0000000000000001", "1000000000000000", "9999999999999999", "12345678901234567890", "-1", "+1", "-0", "1.0", "1 ", " 1", "1 2", "1\n", "a", "1a", "a1", "1'", "1_", "0x1", "\u0661", "1e3", "/", ":", "1/", "1:", "\x00", strings.Repeat("0", 15), strings.Repeat("1", 16), strings.Repeat("1", 1<<17),
	} {
		showsNot(t, number(s))
		showsNot(t, name("a"), number(s))
		showsNot(t, number(s), sign(";"))
	}
}

func TestShowNoSigns(t *testing.T) {
	for _, s := range []string{
		"", " ", "= ", " =", "===", "!==", "=!", "=<", "=>", "<>", "><", ">>", "<<", "!!", "&", "|", "&&&", "|||", "&|", "+++", "+-", "--", "->>", "-->", "<-", "{}", "[]", "()", "}{", "..", ";;", "::", "**", "//", "/*", "= =", "{ }", ",", "?", "@", "$", "%", "^", "~", "`", "\\", "'", "\"", "#", "a", "1", "let", "\x00", "==\n", "#\n=", strings.Repeat("=", 1<<17),
	} {
		showsNot(t, sign(s))
		showsNot(t, name("a"), sign(s))
		showsNot(t, sign(s), name("b"))
	}
}

func TestShowNoWords(t *testing.T) {
	for _, s := range []string{"", "a", "letx", "let'", "_let", "Let", "LET", "le", "lett", "let ", " let", "let in", "letin", "let\n", "then else", "null", "true", "1", "=", "\x00", "or", "inherit", strings.Repeat("let", 1<<15)} {
		showsNot(t, word(s))
		showsNot(t, word("let"), word(s))
		showsNot(t, word(s), word("in"))
	}
}

// TestShowTexts: which bytes texts have, and how many.
func TestShowTexts(t *testing.T) {
	for c := range 256 {
		s := string([]byte{byte(c)})
		for _, one := range []string{s, "a" + s, s + "b", "a" + s + "b", s + s} {
			switch {
			case c == '\n':
				shows(t, `"`+strings.ReplaceAll(one, s, `\n`)+`"`, text(one))
			case c == '\t':
				shows(t, `"`+strings.ReplaceAll(one, s, `\t`)+`"`, text(one))
			case c == '\\' || c == '"':
				shows(t, `"`+strings.ReplaceAll(one, s, `\`+s)+`"`, text(one))
			case c >= 32 && c <= 126:
				shows(t, `"`+one+`"`, text(one))
			default:
				showsNot(t, text(one))
				showsNot(t, name("x"), text(one), name("y"))
			}
		}
	}
	for _, s := range []string{"\u00e4", "a\u00a0", "\ufeff", "\u2028"} {
		showsNot(t, text(s))
	}
	for _, one := range []string{"a", " ", "~", "\n", "\t", "\\", "\"", "#"} {
		for _, n := range []int{3999, 4000} {
			shows(t, plainOne(text(strings.Repeat(one, n))), text(strings.Repeat(one, n)))
		}
		for _, n := range []int{4001, 4002, 8000, 1 << 17} {
			showsNot(t, text(strings.Repeat(one, n)))
		}
	}
	showsNot(t, text(strings.Repeat("a", 3999)+"\x00"))
	showsNot(t, text(strings.Repeat("a", 4000)+"\x00"))
}

// TestShowMany: however many tokens there are, and wherever one is that may not be.
func TestShowMany(t *testing.T) {
	for _, n := range []int{1, 2, 1023, 1024, 1025, 32767, 32768, 32769, 65536, 100000} {
		l := slices.Repeat([]api.Token{name("a")}, n)
		shows(t, strings.Repeat("a ", n)[:2*n-1], l...)
		for _, at := range []int{0, n / 2, n - 1} {
			l[at] = sign("@")
			showsNot(t, l...)
			l[at] = name("a")
		}
	}
	texts := slices.Repeat([]api.Token{text(strings.Repeat("\n", 4000))}, 20)
	shows(t, plainShow(texts), texts...)
	shows(t, plainShow(texts[:8]), texts[:8]...)
}

// TestShowRandom: tokens that may be, and lists with one among them that may not.
func TestShowRandom(t *testing.T) {
	r := noise(182)
	good := 0
	for range 5000 {
		l := r.tokens(12)
		if len(l) > 0 && r.below(2) == 0 {
			one := &l[r.below(len(l))]
			switch r.below(3) {
			case 0:
				one.Kind = r.below(8) - 1
			case 1:
				one.Text = r.one(noTexts()...)
			default:
				at := r.below(len(one.Text) + 1)
				one.Text = one.Text[:at] + string([]byte{byte(r.below(256))}) + one.Text[at:]
			}
		}
		if showsAsPlain(t, l) {
			good++
		}
	}
	if good < 2000 || good > 4500 {
		t.Errorf("%d of these may be", good)
	}
}
