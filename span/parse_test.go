package span_test

import (
	"strconv"
	"strings"
	"testing"

	"stillroom/span"
)

// P14.1

func TestParseExamples(t *testing.T) {
	tells(t, set(t, ">=1,<2|=3"), ">=1,<2|=3")
	tells(t, set(t, "*|=1"), "*")
	tells(t, set(t, ">0-0,<0-0"), ">0-0,<0-0")
	tells(t, set(t, "*"), "*")
}

// TestParseTerms: what each term is told as.
func TestParseTerms(t *testing.T) {
	for s, want := range map[string]string{
		"*":              "*",
		">=1.2":          ">=1.2",
		">1.2":           ">1.2",
		"<=1.2":          "<=1.2",
		"<1.2":           "<1.2",
		"=1.2":           "=1.2",
		"^1.2":           ">=1.2,<2",
		"~1.2":           ">=1.2,<1.3",
		">=1.2.3.4-rc1":  ">=1.2.3.4-rc1",
		">0-0":           ">0-0",
		"<=0.0.0.0":      "<=0.0.0.0",
		"<999999999":     "<999999999",
		"=1-0":           "=1-0",
		">=0-0":          ">=0-0",
		"<0-0":           "<0-0",
		"=abcdefghijkl1": "",
	} {
		if want == "" {
			readsNot(t, s)
		} else {
			tells(t, set(t, s), want)
		}
	}
}

// TestParseCaret: ^ is bounded by the first number that is not 0.
func TestParseCaret(t *testing.T) {
	for s, want := range map[string]string{
		"1": "2", "1.2": "2", "1.2.3": "2", "1.2.3.4": "2", "1.0": "2", "1.0.0.0": "2", "9": "10", "10.0.0.5": "11",
		"0.1": "0.2", "0.2": "0.3", "0.1.2": "0.2", "0.1.2.3": "0.2", "0.1.0.0": "0.2", "0.9": "0.10",
		"0.0.1": "0.0.2", "0.0.3.4": "0.0.4", "0.0.1.0": "0.0.2", "0.0.0.1": "0.0.0.2", "0.0.0.9": "0.0.0.10",
		// Noughts alone.
		"0": "1", "0.0": "0.1", "0.0.0": "0.0.1", "0.0.0.0": "0.0.0.1",
		// With a tag.
		"1-a": "2", "1.2-rc1": "2", "0.2-rc1": "0.3", "0.0.0.1-z": "0.0.0.2", "0-0": "1", "0.0-0": "0.1", "0.0.0-a": "0.0.1", "0.0.0.0-a": "0.0.0.1", "1.2.3.4-abcdefghijkl": "2",
		// The greatest numbers.
		"999999998": "999999999", "999999998.999999999": "999999999", "0.999999998": "0.999999999", "1.999999999": "2", "1.999999999.999999999.999999999": "2", "0.1.999999999": "0.2", "0.0.0.999999998": "0.0.0.999999999",
		// Bump refuses.
		"999999999": "", "999999999.1": "", "999999999.0.0.0": "", "999999999.999999999.999999999.999999999": "", "999999999-a": "", "0.999999999": "", "0.999999999.5": "", "0.999999999-rc1": "",
		"0.0.999999999": "", "0.0.999999999.1": "", "0.0.0.999999999": "", "0.0.0.999999999-a": "",
	} {
		tells(t, set(t, "^"+s), strings.TrimSuffix(">="+s+",<"+want, ",<"))
	}
}

// TestParseTilde: ~ is bounded by the second number, or by the only one.
func TestParseTilde(t *testing.T) {
	for s, want := range map[string]string{
		"1": "2", "0": "1", "9": "10", "1.2": "1.3", "1.2.3": "1.3", "1.2.3.4": "1.3", "1.0": "1.1", "1.0.0": "1.1", "1.0.0.0": "1.1", "1.9": "1.10",
		"0.1": "0.2", "0.0": "0.1", "0.0.0": "0.1", "0.0.0.0": "0.1", "0.0.1": "0.1", "0.0.0.1": "0.1", "0.0.999999999": "0.1", "0.0.0.999999999": "0.1",
		// With a tag.
		"1-a": "2", "0-0": "1", "1.2-rc1": "1.3", "1.2.3-rc1": "1.3", "1.2.3.4-abcdefghijkl": "1.3", "0.0.0.0-0": "0.1",
		// The greatest numbers.
		"999999998": "999999999", "999999999.1": "999999999.2", "999999999.0": "999999999.1", "1.999999998.999999999.999999999": "1.999999999", "999999999.999999998": "999999999.999999999",
		// Bump refuses.
		"999999999": "", "999999999-z": "", "1.999999999": "", "1.999999999.3": "", "1.999999999.3.4": "", "0.999999999": "", "0.999999999-a": "", "999999999.999999999": "", "999999999.999999999.999999999.999999999": "",
	} {
		tells(t, set(t, "~"+s), strings.TrimSuffix(">="+s+",<"+want, ",<"))
	}
}

// TestParseTogether: terms that have something together, or nothing, and
// alternatives that touch, overlap, or lie within one another.
func TestParseTogether(t *testing.T) {
	for s, want := range map[string]string{
		">=1,<2":      ">=1,<2",
		"<2,>=1":      ">=1,<2",
		">1,<=2":      ">1,<=2",
		">=1,>=2":     ">=2",
		">=1,>1":      ">1",
		"<=1,<1":      "<1",
		">=1,<=1":     "=1",
		"=1,=1":       "=1",
		"=1,*":        "=1",
		"*,*":         "*",
		"^1,~1.2":     ">=1.2,<1.3",
		"^1.2,>=1.5":  ">=1.5,<2",
		"^1,=1.5":     "=1.5",
		">=1,<1.0":    ">=1,<1.0",
		"^1,^1.2,<=3": ">=1.2,<2",
		// Nothing.
		">1,<1":       ">0-0,<0-0",
		">=1,<1":      ">0-0,<0-0",
		">1,<=1":      ">0-0,<0-0",
		"=1,=2":       ">0-0,<0-0",
		"=1,=1.0":     ">0-0,<0-0",
		"=1,=1-a":     ">0-0,<0-0",
		"=1,>1":       ">0-0,<0-0",
		"=1,<1":       ">0-0,<0-0",
		">=2,<1":      ">0-0,<0-0",
		"^1,^2":       ">0-0,<0-0",
		"~1.2,~1.3":   ">0-0,<0-0",
		"^1,=2":       ">0-0,<0-0",
		">1,<1|>2,<2": ">0-0,<0-0",
		">1,<1,*":     ">0-0,<0-0",
		">1,<1|=2":    "=2",
		"=2|>1,<1":    "=2",
		"*,>1,<1|*":   "*",
		">1,<1|<1,>1": ">0-0,<0-0",
		"=1,=2|=3,=4": ">0-0,<0-0",
		// They touch.
		">=1,<2|>=2,<3": ">=1,<3",
		">=2,<3|>=1,<2": ">=1,<3",
		">1,<=2|>2,<=3": ">1,<=3",
		"^1|^2":         ">=1,<3",
		"^1|=2":         ">=1,<=2",
		">=1,<2|=2|>2":  ">=1",
		"=1|>1,<2":      ">=1,<2",
		"<1|=1|>1":      "*",
		"<1|>=1":        "*",
		"<=1|>1":        "*",
		"<1|>1":         "<1|>1",
		">1|<1":         "<1|>1",
		"<1|>1|=1":      "*",
		"=1|=1":         "=1",
		// They don't, whatever lies between them.
		"=1|=1.0":         "=1|=1.0",
		"=1.0|=1":         "=1|=1.0",
		"<=1|>=1.0":       "<=1|>=1.0",
		"<1|=1.0|>1.0":    "<1|>=1.0",
		">=1,<2|>2,<3":    ">=1,<2|>2,<3",
		"=3|=2|=1":        "=1|=2|=3",
		"^3|~1.2|<1":      "<1|>=1.2,<1.3|>=3,<4",
		">5|=4|=3,=4|<=2": "<=2|=4|>5",
		// They overlap, or lie within one another.
		">=1,<3|>=2,<4": ">=1,<4",
		">=2,<4|>=1,<3": ">=1,<4",
		">=1,<9|=3":     ">=1,<9",
		"=3|>=1,<9":     ">=1,<9",
		">=1|>=2":       ">=1",
		"<1|<2":         "<2",
		"<2|>1":         "*",
		"<=2|>=2":       "*",
		"^1|~1.2":       ">=1,<2",
		"*|=1":          "*",
		"=1|*":          "*",
		"*|*":           "*",
		"*|>1,<1":       "*",
		// The ends are no versions.
		">=0-0":       ">=0-0",
		"<0-0|>=0-0":  "*",
		"<=0-0|>0-0":  "*",
		"<0-0":        "<0-0",
		"<0-0|=0-0":   "<=0-0",
		">=0-0,<=0-0": "=0-0",
		"<=999999999.999999999.999999999.999999999": "<=999999999.999999999.999999999.999999999",
		">999999999.999999999.999999999.999999999":  ">999999999.999999999.999999999.999999999",
	} {
		tells(t, set(t, s), want)
	}
}

// TestParseMany: one to sixteen alternatives, and one to sixteen terms, no more.
func TestParseMany(t *testing.T) {
	for n := 1; n <= 40; n++ {
		var or, and []string
		for i := range n {
			or = append(or, "="+strconv.Itoa(i))
			and = append(and, ">="+strconv.Itoa(i))
		}
		alternatives, terms := strings.Join(or, "|"), strings.Join(and, ",")
		if n > 16 {
			readsNot(t, alternatives)
			readsNot(t, terms)
			readsNot(t, "*|"+terms)
			readsNot(t, terms+"|*")
			readsNot(t, "=1|"+terms+"|=2")
			readsNot(t, strings.TrimSuffix(strings.Repeat("*|", n), "|"))
			readsNot(t, strings.TrimSuffix(strings.Repeat("*,", n), ","))
			continue
		}
		tells(t, set(t, alternatives), alternatives)
		tells(t, set(t, terms), and[n-1])
		tells(t, set(t, strings.TrimSuffix(strings.Repeat("*|", n), "|")), "*")
		tells(t, set(t, strings.TrimSuffix(strings.Repeat("*,", n), ",")), "*")
		tells(t, set(t, strings.TrimSuffix(strings.Repeat(terms+"|", n), "|")), and[n-1])
		tells(t, set(t, strings.TrimSuffix(strings.Repeat(terms+"|", 16), "|")), and[n-1])
		readsNot(t, strings.TrimSuffix(strings.Repeat(terms+"|", 17), "|"))
	}
	for _, s := range []string{strings.Repeat("*,", 1<<20) + "*", strings.Repeat("*|", 1<<20) + "*", strings.Repeat(",", 1<<20), strings.Repeat("|", 1<<20), strings.Repeat("=", 1<<20), "=" + strings.Repeat("1", 1<<20), "=1" + strings.Repeat(".1", 1<<20), strings.Repeat("*", 1<<20), "=1-" + strings.Repeat("a", 1<<20)} {
		readsNot(t, s)
	}
}

// noRanges tells texts that are no ranges'.
func noRanges() []string {
	return []string{
		"",
		// An empty alternative or term.
		"|", "||", ",", ",,", ",|", "|,", "=1|", "|=1", "=1||=2", "=1,", ",=1", "=1,,=2", "=1,|=2", "=1|,=2", "*,", ",*", "*|", "|*", "*||*", "*,,*", "=1|=2|", "|=1|=2", "=1,=2,", ">=1,<2||=3", ">=1,<2|", "|>=1,<2",
		// A blank anywhere.
		" ", "  ", " *", "* ", "= 1", " =1", "=1 ", "=1 |=2", "=1| =2", "=1 ,=2", "=1, =2", "> =1", ">= 1", "< =1", "<= 1", "^ 1", "~ 1", "== 1", "=1. 2", "=1 .2", "=1- a", "=1 -a", "=1-a ", "=1 2", ">=1, <2", ">=1 <2",
		"\n", "*\n", "\n*", "=1\n", "=1\n|=2", "\t=1", "=1\t", "=\t1", "=1\r\n", "=1\x00", "\x00=1", "=\x001", "=1\u00a0", "=\u00a01", "=1\v", "=1\f",
		// A sign alone.
		">=", ">", "<=", "<", "=", "^", "~", "=|=1", "=1|=", "=1,>", ">,=1", "<|", "^,",
		// Two signs.
		"==1", ">>1", "<<1", "^^1", "~~1", "=>1", "=<1", "<>1", "><1", ">==1", "<==1", ">=>1", "<=<1", ">=<1", "=^1", "^=1", "~=1", "=~1", "^~1", "~^1", ">^1", ">=^1", "<~1", "=>=1", "===1",
		// Signs that are none.
		"1", "1.2", "1|2", "1,2", "!1", "!=1", "-1", "+1", "v1", "=v1", "@1", "#1", "&1", "%1", "=+1", "=-1", "\u22651", "\u22641", "(=1)", "[1]", "1=", "1-2", "1..2", "1.2.x", "x", "latest", "all", "none", "\"=1\"", "'*'", "\\*", "/", "?", "?1", "\xff", "\xff1", "=\xff1",
		// * with something behind it, or ahead.
		"**", "*1", "*=1", "=*", "=1*", "*.1", "1.*", "=1.*", ">*", ">=*", "<*", "<=*", "^*", "~*", "*-a", "***", "*>=1", ">=1*", "*x", "x*", "*;", "*,**", "**|=1",
		// No version's text.
		"=x", "=01", "=00", "=1.", "=.1", "=.", "=1..2", "=1.2.3.4.5", "=1.2.3.4.", "=1-", "=-a", "=1-A", "=1-a-b", "=1-a.b", "=1--a", "=1-abcdefghijklm", "=1000000000", "=9999999999", "=1.1000000000", "=0x1", "=1e3", "=1_0", "=1x", "=x1", "=1/2", "=1:2", "=1;=2", "=1&=2", "=1&&=2", "=1=2", "=1>2", "=1|2",
		">=x", ">01", "<=1.", "<.1", "^1..2", "~1.2.3.4.5", "^1-", "~1-A", "^1000000000", "~1000000000", ">=1000000000", "<1.2.3.1000000000", "=\u0661", "=1.\uff12", "=1-\u00e4", "=1-\x80",
		">=1,<x", "<x,>=1", "=1|=x", "=x|=1", "=1|=2|x", "*|x", "x|*", "*,x", "x,*", ">1,<1,x", ">1,<1|x",
	}
}

func TestParseWrong(t *testing.T) {
	for _, s := range noRanges() {
		readsNot(t, s)
		if plainRange(s) {
			t.Errorf("the plain reading of %q", s)
		}
	}
}

// TestParseWrongAmongOthers: one wrong part makes the whole wrong, wherever it
// stands, and whatever the others have.
func TestParseWrongAmongOthers(t *testing.T) {
	for _, wrong := range []string{"", " ", "x", "=", "1", "=01", "**", "==1"} {
		for at := range 16 {
			for _, right := range []string{"*", "=1", ">1"} {
				for _, sign := range []string{",", "|"} {
					parts := strings.Split(strings.Repeat(right+" ", 16), " ")[:16]
					parts[at] = wrong
					readsNot(t, strings.Join(parts, sign))
				}
			}
		}
	}
}

// TestParseChanged: texts with each byte more in each place, another one, or one
// less.
func TestParseChanged(t *testing.T) {
	told := map[bool]int{}
	for _, s := range []string{"*", ">=1", ">1", "<=1.2", "<1-a", "=1.2.3.4", "^0.2", "~1.2-rc1", "*|=1", ">=1,<2|=3", "*,*", "<1|>1,<2", "=999999999", "=1-abcdefghijkl", "=1,,=2", "", "="} {
		for at := range len(s) + 1 {
			for c := range 256 {
				told[readsAsPlain(t, s[:at]+string([]byte{byte(c)})+s[at:])]++
				if at < len(s) {
					told[readsAsPlain(t, s[:at]+string([]byte{byte(c)})+s[at+1:])]++
				}
			}
			if at < len(s) {
				told[readsAsPlain(t, s[:at]+s[at+1:])]++
			}
		}
	}
	if told[true] < 1500 || told[false] < 40000 {
		t.Error("too little was tried:", told)
	}
}

// TestParseEveryShort: every text of few signs, up to a length.
func TestParseEveryShort(t *testing.T) {
	texts := []string{""}
	told := map[bool]int{}
	for range 6 {
		var longer []string
		for _, s := range texts {
			for _, c := range []string{"1", ">", "<", "=", "^", "*", ",", "|"} {
				longer = append(longer, s+c)
				told[readsAsPlain(t, s+c)]++
			}
		}
		texts = longer
	}
	if told[true] < 200 || told[false] < 100000 {
		t.Error("too little was tried:", told)
	}
}

// TestParseTwice: what is told is a set of its own each time.
func TestParseTwice(t *testing.T) {
	for _, s := range []string{"*", "=1", ">1,<1", "=1|=2"} {
		one, other := set(t, s), set(t, s)
		same(t, one, other, true)
		want := other.Text()
		*one = span.Span{}
		tells(t, other, want)
		tells(t, set(t, s), want)
	}
}

func TestAllAndNone(t *testing.T) {
	all, none := span.All(), span.None()
	tells(t, all, "*")
	tells(t, none, ">0-0,<0-0")
	has(t, all, true, rising()...)
	has(t, none, false, rising()...)
	same(t, all, set(t, "*"), true)
	same(t, none, set(t, ">0-0,<0-0"), true)
	same(t, none, set(t, ">1,<1"), true)
	same(t, all, none, false)
	if all.Empty() || !none.Empty() {
		t.Error("Empty", all.Empty(), none.Empty())
	}
	// Each call makes its own.
	*all, *none = span.Span{}, span.Span{}
	tells(t, span.All(), "*")
	tells(t, span.None(), ">0-0,<0-0")
	*all = *span.None()
	tells(t, span.All(), "*")
}
