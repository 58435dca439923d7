package lex_test

import (
	"strings"
	"testing"

	"stillroom/api"
)

// P18.1

func TestLexExamples(t *testing.T) {
	lexes(t, "let x=1;", word("let"), put(name("x"), 4), put(sign("="), 5), put(number("1"), 6), put(sign(";"), 7))
	lexesNot(t, "01", 0, api.ErrLex)
	lexes(t, "a # b", name("a"))
	lexes(t, `{ a = "x\n" ; }`, sign("{"), put(name("a"), 2), put(sign("="), 4), put(text("x\n"), 6), put(sign(";"), 12), put(sign("}"), 14))
}

// TestLexNothing: no bytes, or nothing but what stands between tokens.
func TestLexNothing(t *testing.T) {
	for _, s := range []string{
		"", " ", "   ", "\n", "\t", "\r", "\r\n", " \t\n\r ", "#", "# ", "##", "# a", "#\n", "# a\n", "# a\r\n", "# 01 \"x \x00\x80\xff @ '\n", "#\n#\n#", " # a \n\t# b", "#\r", "#a\rb", "# \" \n", strings.Repeat(" ", 65536), strings.Repeat("\n", 65536), strings.Repeat("#", 65536), strings.Repeat("#\n", 32768),
	} {
		lexes(t, s)
	}
	// A byte 13 ends no remark.
	lexes(t, "#\r1a", nil...)
	lexesNot(t, "#\n1a", 2, api.ErrLex)
}

// TestLexBetween: each token with something ahead of it, behind it, or both.
func TestLexBetween(t *testing.T) {
	for _, one := range tokensOf() {
		s := plainOne(one)
		lexes(t, s, one)
		for _, between := range []string{" ", "\n", "\t", "\r", "  \t\r\n", "#\n", "# a b \" '\n", " # x\n ", "#\xff\x00\n\n"} {
			n := len(between)
			lexes(t, between+s, put(one, n))
			lexes(t, s+between, one)
			lexes(t, between+s+between, put(one, n))
			lexes(t, s+between+s, one, put(one, len(s)+n))
		}
		// A remark that ends with the text.
		lexes(t, s+"#", one)
		lexes(t, s+"# a", one)
		lexes(t, s+"# "+s, one)
		lexes(t, "#\n"+s+"#"+s, put(one, 2))
	}
	lexes(t, "a#b", name("a"))
	lexes(t, "a#\nb", name("a"), put(name("b"), 3))
	lexes(t, "1#2\n3", number("1"), put(number("3"), 4))
	lexes(t, "\"#\"#\"", text("#"))
	lexes(t, "\"a # b\"", text("a # b"))
}

// TestLexNoBytes: bytes that begin no token.
func TestLexNoBytes(t *testing.T) {
	begins := "abcdefghijklmnopqrstuvwxyzABCDEFGHIJKLMNOPQRSTUVWXYZ_0123456789{}[]()=;:.+-*/<>!"
	passed := " \t\n\r#"
	for c := range 256 {
		s := string([]byte{byte(c)})
		switch {
		case strings.Contains(begins, s):
			one, _ := plainToken(s)
			lexes(t, s, one)
		case strings.Contains(passed, s):
			lexes(t, s)
		default:
			lexesNot(t, s, 0, api.ErrLex)
			lexesNot(t, "a "+s, 2, api.ErrLex)
			lexesNot(t, "a + "+s+" 1", 4, api.ErrLex)
			lexesNot(t, "# a\n"+s, 4, api.ErrLex)
			lexesNot(t, "\"a\""+s, 3, api.ErrLex)
			lexesNot(t, s+"@", 0, api.ErrLex)
		}
	}
	for _, s := range []string{"\u00e4", "\u00a0", "\u0661", "\ufeff", "\u2028", "\uff41", "\x80", "\xff", "\x00", "\v", "\f", "\x7f", "\x1f", "@", "$", "%", ",", "?", "\\", "^", "`", "~"} {
		lexesNot(t, s, 0, api.ErrLex)
		lexesNot(t, "ab "+s+" c", 3, api.ErrLex)
	}
	// Behind a name too: a ' goes on in one, these do not.
	lexesNot(t, "a\u00e4", 1, api.ErrLex)
	lexesNot(t, "a-b\\", 3, api.ErrLex)
	lexesNot(t, "'", 0, api.ErrLex)
	lexesNot(t, "'a", 0, api.ErrLex)
	lexesNot(t, "a 'b", 2, api.ErrLex)
}

func TestLexNames(t *testing.T) {
	for _, s := range someNames() {
		lexes(t, s, name(s))
		lexes(t, "("+s+")", sign("("), put(name(s), 1), put(sign(")"), len(s)+1))
	}
	long := strings.Repeat("ab_'0", 6)
	lexes(t, long, name(long))
	for _, s := range []string{long + "x", long + "0", long + "'", long + "_", long + long, strings.Repeat("a", 31), strings.Repeat("_", 65536)} {
		lexesNot(t, s, 0, api.ErrLex)
		if len(s) < 65536 {
			lexesNot(t, s+" @", 0, api.ErrLex)
			lexesNot(t, " "+s, 1, api.ErrLex)
			lexesNot(t, long+" "+s[:31]+";", 31, api.ErrLex)
		}
	}
	lexes(t, long+" x", name(long), put(name("x"), 31))
	lexes(t, long+"-x", name(long), put(sign("-"), 30), put(name("x"), 31))
}

func TestLexWords(t *testing.T) {
	for _, s := range someWords() {
		lexes(t, s, word(s))
		lexes(t, s+" "+s, word(s), put(word(s), len(s)+1))
		lexes(t, "("+s+")", sign("("), put(word(s), 1), put(sign(")"), len(s)+1))
		for _, more := range []string{"x", "'", "_", "0", "9", "Z", s} {
			lexes(t, s+more, name(s+more))
		}
		for _, ahead := range []string{"x", "_", "Z"} {
			lexes(t, ahead+s, name(ahead+s))
		}
		lexes(t, strings.ToUpper(s), name(strings.ToUpper(s)))
		lexes(t, strings.ToUpper(s[:1])+s[1:], name(strings.ToUpper(s[:1])+s[1:]))
		lexes(t, s[:len(s)-1], name(s[:len(s)-1]))
		lexes(t, s[:1]+" "+s[1:], name(s[:1]), put(name(s[1:]), 2))
		lexesNot(t, "1"+s, 0, api.ErrLex)
	}
	lexes(t, "let in if then else rec", word("let"), put(word("in"), 4), put(word("if"), 7), put(word("then"), 10), put(word("else"), 15), put(word("rec"), 20))
	lexes(t, "letin", name("letin"))
	lexes(t, "inherit with or null", name("inherit"), put(name("with"), 8), put(name("or"), 13), put(name("null"), 16))
}

func TestLexNumbers(t *testing.T) {
	for _, s := range someNumbers() {
		lexes(t, s, number(s))
		lexes(t, "-"+s+".", sign("-"), put(number(s), 1), put(sign("."), len(s)+1))
		lexesNot(t, "0"+s, 0, api.ErrLex)
		lexesNot(t, "x 0"+s, 2, api.ErrLex)
	}
	for _, s := range []string{"00", "01", "000", "010", "0000000000000000", "0123456789", "1000000000000000", "1234567890123456", "9999999999999999", "12345678901234567890", strings.Repeat("1", 65536), strings.Repeat("0", 65536)} {
		lexesNot(t, s, 0, api.ErrLex)
		if len(s) < 100 {
			lexesNot(t, "1 "+s+" 1", 2, api.ErrLex)
			lexesNot(t, "1-"+s, 2, api.ErrLex)
			lexesNot(t, s+"@", 0, api.ErrLex)
		}
	}
	lexes(t, "0 1", number("0"), put(number("1"), 2))
	lexes(t, "1.20", number("1"), put(sign("."), 1), put(number("20"), 2))
	lexesNot(t, "1.02", 2, api.ErrLex)
	lexes(t, "1+2", number("1"), put(sign("+"), 1), put(number("2"), 2))
}

// TestLexSideBySide: what may stand with nothing between, and what may not.
func TestLexSideBySide(t *testing.T) {
	has(t, "x=1;y", name("x"), sign("="), number("1"), sign(";"), name("y"))
	lexes(t, `"a""b"`, text("a"), put(text("b"), 3))
	lexes(t, `a"b"`, name("a"), put(text("b"), 1))
	lexes(t, `"b"a`, text("b"), put(name("a"), 3))
	lexes(t, `"b"let`, text("b"), put(word("let"), 3))
	lexes(t, `let"b"`, word("let"), put(text("b"), 3))
	lexes(t, `1"b"2`, number("1"), put(text("b"), 1), put(number("2"), 4))
	lexes(t, `"""1"`, text(""), put(text("1"), 2))
	lexes(t, "a.b(c)[d]", name("a"), put(sign("."), 1), put(name("b"), 2), put(sign("("), 3), put(name("c"), 4), put(sign(")"), 5), put(sign("["), 6), put(name("d"), 7), put(sign("]"), 8))
	for _, number := range someNumbers() {
		for _, behind := range []string{"a", "Z", "_", "'", "let", "x1", "e5", "'0"} {
			lexesNot(t, number+behind, 0, api.ErrLex)
			lexesNot(t, "("+number+behind+")", 1, api.ErrLex)
			lexesNot(t, "a "+number+behind+" @", 2, api.ErrLex)
		}
	}
	lexesNot(t, "12'", 0, api.ErrLex)
	lexesNot(t, "1a", 0, api.ErrLex)
	lexesNot(t, "0x1", 0, api.ErrLex)
	lexesNot(t, "1_000", 0, api.ErrLex)
	lexesNot(t, "x=1y;", 2, api.ErrLex)
	// All pairs of tokens with nothing between: as the plain reading says.
	for _, a := range tokensOf() {
		for _, b := range tokensOf() {
			if len(a.Text)+len(b.Text) < 200 {
				lexesAsPlain(t, plainOne(a)+plainOne(b))
			}
		}
	}
}

// TestLexSigns: each alone, each behind each, and more of them.
func TestLexSigns(t *testing.T) {
	for _, s := range someSigns() {
		lexes(t, s, sign(s))
		lexes(t, "a"+s+"b", name("a"), put(sign(s), 1), put(name("b"), len(s)+1))
		lexes(t, "1"+s+"2", number("1"), put(sign(s), 1), put(number("2"), len(s)+1))
		lexes(t, "\""+s+"\"", text(s))
		for _, other := range someSigns() {
			lexes(t, s+" "+other, sign(s), put(sign(other), len(s)+1))
			for _, third := range someSigns() {
				lexesAsPlain(t, s+other+third)
			}
			lexesAsPlain(t, s+other+"&")
			lexesAsPlain(t, s+other+"|")
		}
	}
	has(t, "===", sign("=="), sign("="))
	has(t, "====", sign("=="), sign("=="))
	has(t, "!==", sign("!="), sign("="))
	has(t, "!!=", sign("!"), sign("!="))
	has(t, "=!=", sign("="), sign("!="))
	has(t, "<=>", sign("<="), sign(">"))
	has(t, "<==", sign("<="), sign("="))
	has(t, ">=<", sign(">="), sign("<"))
	has(t, "=<=", sign("="), sign("<="))
	has(t, ">>=", sign(">"), sign(">="))
	has(t, "=>", sign("="), sign(">"))
	has(t, "->=", sign("->"), sign("="))
	has(t, "-->", sign("-"), sign("->"))
	has(t, "->>", sign("->"), sign(">"))
	has(t, "<->", sign("<"), sign("->"))
	has(t, "- >", sign("-"), sign(">"))
	has(t, "+++", sign("++"), sign("+"))
	has(t, "++++", sign("++"), sign("++"))
	has(t, "+ +", sign("+"), sign("+"))
	has(t, "...", sign("."), sign("."), sign("."))
	has(t, "//", sign("/"), sign("/"))
	has(t, "&&&&", sign("&&"), sign("&&"))
	lexesNot(t, "&&&", 2, api.ErrLex)
	lexesNot(t, "|||", 2, api.ErrLex)
	lexesNot(t, "&", 0, api.ErrLex)
	lexesNot(t, "|", 0, api.ErrLex)
	lexesNot(t, "& &", 0, api.ErrLex)
	lexesNot(t, "| |", 0, api.ErrLex)
	lexesNot(t, "a & b", 2, api.ErrLex)
	lexesNot(t, "a | b", 2, api.ErrLex)
	lexesNot(t, "&|", 0, api.ErrLex)
	lexesNot(t, "a&&|", 3, api.ErrLex)
}

// TestLexTexts: what stands between quotes, behind a \ or not.
func TestLexTexts(t *testing.T) {
	for _, s := range someTexts() {
		lexes(t, plainOne(text(s)), text(s))
		lexes(t, "a+"+plainOne(text(s))+"b", name("a"), put(sign("+"), 1), put(text(s), 2), put(name("b"), 2+len(plainOne(text(s)))))
	}
	lexes(t, `"\n\t\\\""`, text("\n\t\\\""))
	lexes(t, `"\\n"`, text(`\n`))
	lexes(t, `"\\\n"`, text("\\\n"))
	lexes(t, `"\\"`, text(`\`))
	lexes(t, `"\\""\\"`, text(`\`), put(text(`\`), 4))
	lexes(t, `"'"`, text("'"))
	for c := range 256 {
		s := string([]byte{byte(c)})
		switch {
		case c == '"':
			lexes(t, `""`, text(""))
			lexesNot(t, `"""`, 2, api.ErrLex)
		case c == '\\':
			lexesNot(t, `"\"`, 0, api.ErrLex)
		case c >= 32 && c <= 126:
			lexes(t, `"`+s+`"`, text(s))
			lexes(t, `"a`+s+`b"`, text("a"+s+"b"))
		default:
			lexesNot(t, `"`+s+`"`, 0, api.ErrLex)
			lexesNot(t, `x "ab`+s+`cd" y`, 2, api.ErrLex)
		}
		means, ok := map[int]string{'n': "\n", 't': "\t", '\\': "\\", '"': "\""}[c]
		if ok {
			lexes(t, `"\`+s+`"`, text(means))
			lexes(t, `"a\`+s+`b"`, text("a"+means+"b"))
		} else {
			lexesNot(t, `"\`+s+`"`, 0, api.ErrLex)
			lexesNot(t, `x "a\`+s+`b" y`, 2, api.ErrLex)
		}
	}
}

// TestLexTextEnds: texts that do not end.
func TestLexTextEnds(t *testing.T) {
	for _, s := range []string{`"`, `"a`, `"\`, `"\"`, `"a\"`, `"a\\\"`, `"\n`, `"\x`, `"a b # c`, "\"a\n", "\"a\nb\"", "\"\n\"", `"` + strings.Repeat("a", 4000), `"` + strings.Repeat("a", 65535), `"` + strings.Repeat(`\"`, 2000), `"` + strings.Repeat(`\\`, 2000) + `\`} {
		lexesNot(t, s, 0, api.ErrLex)
		if len(s) < 65000 {
			lexesNot(t, "a  "+s, 3, api.ErrLex)
			lexesNot(t, `"b"`+s, 3, api.ErrLex)
			lexesNot(t, "# x \"\n"+s, 6, api.ErrLex)
		}
	}
	lexesNot(t, `"""`, 2, api.ErrLex)
	lexesNot(t, `"a"b"`, 4, api.ErrLex)
	lexesNot(t, `a "b`, 2, api.ErrLex)
	// What looks like a remark within a text is none.
	lexesNot(t, "\"# \n\"", 0, api.ErrLex)
}

// TestLexTextLong: of just as many bytes of its own as a text may have, and of more,
// however many stand between the quotes.
func TestLexTextLong(t *testing.T) {
	for _, one := range []string{"a", " ", "~", `\n`, `\t`, `\\`, `\"`, "#", "'"} {
		own := fromQuotes.Replace(one)
		for _, n := range []int{3998, 3999, 4000} {
			lexes(t, `"`+strings.Repeat(one, n)+`"`, text(strings.Repeat(own, n)))
			lexes(t, "x "+`"`+strings.Repeat(one, n)+`"`, name("x"), put(text(strings.Repeat(own, n)), 2))
		}
		for _, n := range []int{4001, 4002, 5000, 8000, 16000} {
			lexesNot(t, `"`+strings.Repeat(one, n)+`"`, 0, api.ErrLex)
			lexesNot(t, "x "+`"`+strings.Repeat(one, n)+`" @`, 2, api.ErrLex)
			lexesNot(t, `"`+strings.Repeat(one, n), 0, api.ErrLex)
		}
	}
	lexes(t, `"`+strings.Repeat("a", 3999)+`\n"`, text(strings.Repeat("a", 3999)+"\n"))
	lexes(t, `"\"`+strings.Repeat("a", 3998)+`\\"`, text(`"`+strings.Repeat("a", 3998)+`\`))
	lexesNot(t, `"`+strings.Repeat("a", 4000)+`\n"`, 0, api.ErrLex)
	lexesNot(t, `"\"`+strings.Repeat("a", 3999)+`\\"`, 0, api.ErrLex)
}

// TestLexBig: a text of just as many bytes as may be, and of more.
func TestLexBig(t *testing.T) {
	fill := func(s string, n int) string { return strings.Repeat(s, n/len(s)+1)[:n] }
	for _, n := range []int{65535, 65536} {
		for _, s := range []string{"a ", "a+", "1;", ";", `"a"  `, "let x = 1;\n", "# a\n"} {
			if !lexesAsPlain(t, fill(s, n-n%len(s))+strings.Repeat(" ", n%len(s))) {
				t.Errorf("%q has no tokens", s)
			}
		}
		lexes(t, "a"+strings.Repeat(" ", n-2)+"b", name("a"), put(name("b"), n-1))
		lexesNot(t, "a"+strings.Repeat(" ", n-2)+"@", n-1, api.ErrLex)
		lexes(t, strings.Repeat("\n", n-1)+"1", put(number("1"), n-1))
	}
	for _, n := range []int{65537, 65538, 1 << 17, 1 << 20} {
		// That is asked first, whatever else is wrong.
		for _, s := range []string{"a ", " ", "#", "\x00", "@", "01", `"`, "a", "1"} {
			lexesNot(t, fill(s, n), 0, api.ErrBig)
		}
	}
	lexesNot(t, strings.Repeat("\x00", 65536), 0, api.ErrLex)
	lexesNot(t, " "+strings.Repeat("\x00", 65535), 1, api.ErrLex)
	lexesNot(t, strings.Repeat(" ", 65535)+"\"", 65535, api.ErrLex)
}

// TestLexFirst: of several things that are wrong the first one.
func TestLexFirst(t *testing.T) {
	wrong := []string{"@", "01", "1a", "'", "&", "|", `"\x"`, "\"\x01\"", "\"\xff\"", strings.Repeat("a", 31), strings.Repeat("1", 16), `"` + strings.Repeat("a", 4001) + `"`, "\x00", "\xff", ","}
	for _, a := range wrong {
		for _, b := range wrong {
			lexesNot(t, a+" "+b, 0, api.ErrLex)
			lexesNot(t, "let x = "+a+" ; "+b, 8, api.ErrLex)
			lexesNot(t, "# "+b+"\n"+a, len(b)+3, api.ErrLex)
			lexesNot(t, a+" \"", 0, api.ErrLex)
		}
	}
}

// TestLexChanged: texts of which a byte is gone, another one, or one more.
func TestLexChanged(t *testing.T) {
	good := 0
	check := func(s string) {
		if lexesAsPlain(t, s) {
			good++
		}
	}
	for _, s := range []string{"let x' = 10; in # a\n\"b\\n\\\"\\\\\" == _y", "{ a=1; }.a -> [ 0 <= 9 ] ++ \"\\t\" && !x || rec"} {
		if !lexesAsPlain(t, s) {
			t.Fatalf("%q has no tokens", s)
		}
		for at := range len(s) {
			check(s[:at])
			check(s[at:])
			check(s[:at] + s[at+1:])
			for c := range 256 {
				b := string([]byte{byte(c)})
				check(s[:at] + b + s[at+1:])
				check(s[:at] + b + s[at:])
			}
		}
	}
	if good < 5000 {
		t.Errorf("only %d of these have tokens", good)
	}
}

// TestLexRandom: tokens and pieces of them, side by side.
func TestLexRandom(t *testing.T) {
	r := noise(181)
	good := 0
	for round := range 20000 {
		var b strings.Builder
		rare := 3 + round%60
		for range r.below(14) {
			if r.below(rare) == 0 {
				b.WriteString(r.one("@", "'", "&", "|", "\"", "\\", "01", "1a", "00", "\x00", "\xff", "\v", "\"\\x\"", "\"\n\"", strings.Repeat("x", 31), "1234567890123456", ","))
			} else {
				b.WriteString(r.one("a", "let", "in", "_", "b'", "0", "10", "7", "\"\"", "\"a\\n\"", "\"#\"", "=", "==", "!", "<", ">", "-", "+", "++", "&&", "||", ".", ";", "# x\n", "\n", "\r\n\t"))
			}
			if r.below(3) != 0 {
				b.WriteByte(' ')
			}
		}
		if lexesAsPlain(t, b.String()) {
			good++
		}
	}
	if good < 2000 || good > 18000 {
		t.Errorf("%d of these have tokens", good)
	}
}
