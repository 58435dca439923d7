package aterm_test

import (
	"fmt"
	"slices"
	"strings"
	"testing"
	"unsafe"

	"stillroom/api"
	"stillroom/aterm"
)

// textsOf tells texts of derivations that may be, those of every kind of list.
func textsOf() []string {
	return []string{
		smallText, richText,
		`Derive([("","","")],[],[],"","",[],[])`,
		`Derive([("a","","")],[("b",["c","d"])],["e"],"f","g",["h"],[("i","j")])`,
		`Derive([("\"","\\","\n")],[("\r",["\t","\\n"])],["\\\\"],"\"\"","\\\"",["\\"],[("\t\t","\r\n")])`,
	}
}

func TestParse(t *testing.T) {
	reads(t, "the chapter's example", smallText, small())
	reads(t, "something of everything", richText, rich())
	for _, s := range textsOf() {
		want, e := plainParse(s)
		if e != api.OK {
			t.Fatal(s, e)
		}
		reads(t, s, s, want)
	}
	reads(t, "each kind of list", `Derive([("a","b","c"),("d","e","f")],[("g",["h","i"]),("j",["k"])],["l","m"],"n","o",["q","p"],[("r","s"),("t","u")])`, api.Drv{
		Outputs: []api.Output{output("a", "b", "c"), output("d", "e", "f")},
		Inputs:  []api.Input{input("g", "h", "i"), input("j", "k")},
		Sources: []string{"l", "m"},
		System:  "n",
		Builder: "o",
		Args:    []string{"q", "p"},
		Env:     []api.Pair{pair("r", "s"), pair("t", "u")},
	})
}

// TestParseForm: texts that are written out, and are no derivation's.
func TestParseForm(t *testing.T) {
	for _, s := range []string{
		"", " ", "Derive", "Derive(", "Derive()", "derive" + smallText[6:], "DERIVE" + smallText[6:], "(" + smallText[7:], smallText[7:],
		smallText + " ", " " + smallText, smallText + "\n", "\n" + smallText, smallText + ")", smallText + smallText, smallText + "\x00", "\xef\xbb\xbf" + smallText,
		`Derive ([("o","","")],[],[],"","",[],[])`,
		`Derive( [("o","","")],[],[],"","",[],[])`,
		`Derive([("o","","")], [],[],"","",[],[])`,
		`Derive([("o","","") ],[],[],"","",[],[])`,
		`Derive([ ("o","","")],[],[],"","",[],[])`,
		`Derive([("o", "","")],[],[],"","",[],[])`,
		`Derive([( "o","","")],[],[],"","",[],[])`,
		`Derive([("o" ,"","")],[],[],"","",[],[])`,
		`Derive([("o","",""),],[],[],"","",[],[])`,
		`Derive([,("o","","")],[],[],"","",[],[])`,
		`Derive([("o","","")("p","","")],[],[],"","",[],[])`,
		`Derive([("o","",""),,("p","","")],[],[],"","",[],[])`,
		`Derive([("o","")],[],[],"","",[],[])`,
		`Derive([("o","","","")],[],[],"","",[],[])`,
		`Derive([()],[],[],"","",[],[])`,
		`Derive(["o"],[],[],"","",[],[])`,
		`Derive([["o","",""]],[],[],"","",[],[])`,
		`Derive([("o","","")],[("p","n")],[],"","",[],[])`,
		`Derive([("o","","")],[("p",[],[])],[],"","",[],[])`,
		`Derive([("o","","")],[("p")],[],"","",[],[])`,
		`Derive([("o","","")],[("p",("n"))],[],"","",[],[])`,
		`Derive([("o","","")],[("p",["n",])],[],"","",[],[])`,
		`Derive([("o","","")],[("p",["n"],)],[],"","",[],[])`,
		`Derive([("o","","")],["p"],[],"","",[],[])`,
		`Derive([("o","","")],[],[("s")],"","",[],[])`,
		`Derive([("o","","")],[],["s",],"","",[],[])`,
		`Derive([("o","","")],[],[,],"","",[],[])`,
		`Derive([("o","","")],[],["s"],["s"],"","",[],[])`,
		`Derive([("o","","")],[],[],[""],"",[],[])`,
		`Derive([("o","","")],[],[],"",[],[])`,
		`Derive([("o","","")],[],[],"","","",[],[])`,
		`Derive([("o","","")],[],[],s,"",[],[])`,
		`Derive([("o","","")],[],[],'s',"",[],[])`,
		`Derive([("o","","")],[],[],,"",[],[])`,
		`Derive([("o","","")],[],[],"","",[],["k"])`,
		`Derive([("o","","")],[],[],"","",[],[("k")])`,
		`Derive([("o","","")],[],[],"","",[],[("k","v","w")])`,
		`Derive([("o","","")],[],[],"","",[],[("k"="v")])`,
		`Derive([("o","","")],[],[],"","",[])`,
		`Derive([("o","","")],[],[],"","",[],[],)`,
		`Derive([("o","","")],[],[],"","",[],[],[])`,
		`Derive([("o","","")],[],[],"","",[],[]`,
		`Derive([("o","","")],[],[],"","",[],[]]`,
		`Derive([("o","","")],[],[],"","",[],[]))`,
		`Derive([("o","","")],[],[],"a"b","",[],[])`,
		`Derive([("o","","")],[],[],"a\","",[],[])`,
		`Derive([("o","","")],[],[],"a\`,
		`Derive([("o","","")],[],[],"a`,
		`Derive([("o","","")],[],[],""",[],[])`,
		`Derive[("o","","")],[],[],"","",[],[])`,
		`Derive([("o","","")],[],[]"","",[],[])`,
		`[("o","","")],[],[],"","",[],[]`,
	} {
		fails(t, short(s), s, api.ErrForm)
	}
}

// TestParseCut: a text that is cut off, wherever it is, is none.
func TestParseCut(t *testing.T) {
	for _, s := range textsOf() {
		for i := range len(s) {
			fails(t, fmt.Sprintf("the first %d bytes of %s", i, short(s)), s[:i], api.ErrForm)
			if i > 0 {
				fails(t, fmt.Sprintf("%s from byte %d on", short(s), i), s[i:], api.ErrForm)
			}
		}
	}
}

// holds asks that Parse answers what a plain reading of the chapter does.
func holds(t *testing.T, s string) api.Errno {
	t.Helper()
	want, e := plainParse(s)
	if e == api.OK {
		reads(t, short(s), s, want)
	} else {
		fails(t, short(s), s, e)
	}
	return e
}

// TestParseByte: a byte more, one fewer, or another one, at every place.
func TestParseByte(t *testing.T) {
	signs := []byte("\"\\\n\r\t nrtabz,[]()De0/\x00\x80\xff")
	told := map[api.Errno]int{}
	for k, s := range textsOf() {
		for i := range len(s) + 1 {
			all := signs
			if k == 0 || k > 2 {
				all = everyByte()
			}
			for _, c := range all {
				told[holds(t, s[:i]+string([]byte{c})+s[i:])]++
				if i < len(s) {
					told[holds(t, s[:i]+string([]byte{c})+s[i+1:])]++
				}
			}
			if i < len(s) {
				told[holds(t, s[:i]+s[i+1:])]++
			}
		}
	}
	if told[api.OK] < 1000 || told[api.ErrForm] < 1000 {
		t.Error("too little was tried:", told)
	}
}

func everyByte() []byte {
	b := make([]byte, 256)
	for i := range b {
		b[i] = byte(i)
	}
	return b
}

// TestParseOutside: outside of quotes no byte may be more, or another one.
func TestParseOutside(t *testing.T) {
	for _, s := range []string{smallText, `Derive([("a","",""),("b","","")],[("c",["d","e"]),("f",["g"])],["h","i"],"j","k",["l","m"],[("n","o"),("p","q")])`} {
		inside := false
		for i := range len(s) {
			if s[i] == '"' {
				inside = !inside
			}
			for _, c := range everyByte() {
				if !inside {
					fails(t, fmt.Sprintf("byte %d more at %d", c, i+1), s[:i+1]+string([]byte{c})+s[i+1:], api.ErrForm)
				}
				if !inside && c != s[i] {
					fails(t, fmt.Sprintf("byte %d at %d", c, i), s[:i]+string([]byte{c})+s[i+1:], api.ErrForm)
				}
			}
		}
	}
}

// TestParseBlanks: blanks stand between quotes alone.
func TestParseBlanks(t *testing.T) {
	for _, blank := range []string{" ", "\t", "\n", "\r\n", "\v", "\u00a0"} {
		for _, sign := range []string{",", "[", "]", "(", ")"} {
			d := small()
			for i := range strings.Count(smallText, sign) {
				parts := strings.SplitAfterN(smallText, sign, i+2)
				fails(t, short(blank+" behind "+sign), strings.Join(parts[:i+1], "")+blank+parts[i+1], api.ErrForm)
			}
			d.Builder = sign + " " + sign
			puts(t, "a blank between quotes", d, strings.Replace(smallText, `"b"`, `"`+sign+" "+sign+`"`, 1))
		}
	}
}

// TestParseEscapes: which bytes may stand between quotes, and which behind a \.
func TestParseEscapes(t *testing.T) {
	means := map[byte]string{'"': `"`, '\\': `\`, 'n': "\n", 'r': "\r", 't': "\t"}
	for _, where := range texts {
		d := small()
		where.put(&d, "mark")
		text := plainPut(d)
		if strings.Count(text, "mark") != 1 {
			t.Fatal(text)
		}
		for _, c := range everyByte() {
			byItself := string([]byte{c})
			s := strings.Replace(text, "mark", "x"+byItself+"y", 1)
			where.put(&d, "x"+byItself+"y")
			if strings.Contains("\"\\\n\r\t", byItself) {
				fails(t, fmt.Sprintf("%s: byte %d as it is", where.name, c), s, api.ErrForm)
			} else {
				reads(t, fmt.Sprintf("%s: byte %d", where.name, c), s, d)
			}
			s = strings.Replace(text, "mark", `x\`+byItself+"y", 1)
			if m, ok := means[c]; ok {
				where.put(&d, "x"+m+"y")
				reads(t, fmt.Sprintf("%s: \\ and byte %d", where.name, c), s, d)
			} else {
				fails(t, fmt.Sprintf("%s: \\ and byte %d", where.name, c), s, api.ErrForm)
			}
		}
		for _, wrong := range []string{"\n", "\r", "\t", "a\n", "\ra", `\`, `\\\`, `\"\`, `\x41`, `\0`, `\012`, `\u0041`, `\N`, `\ `, "\\\n", `\'`, `\/`, `\b`, `"`, `a"`, `"a`, `""`} {
			fails(t, where.name+": "+short(wrong), strings.Replace(text, "mark", wrong, 1), api.ErrForm)
		}
		for right, s := range map[string]string{"": "", `\`: `\\`, `\n`: `\\n`, "\\\n": `\\\n`, `\"`: `\\\"`, `""`: `\"\"`, "\t\r\n": `\t\r\n`, `\\n`: `\\\\n`, `a"`: `a\"`} {
			where.put(&d, right)
			reads(t, where.name+": "+short(s), strings.Replace(text, "mark", s, 1), d)
		}
	}
}

// TestParseRight: texts whose form is right, whose derivation may not be.
func TestParseRight(t *testing.T) {
	for s, want := range map[string]api.Errno{
		`Derive([],[],[],"","",[],[])`:                                   api.ErrForm,
		`Derive([("b","",""),("a","","")],[],[],"","",[],[])`:            api.ErrForm,
		`Derive([("a","",""),("a","b","c")],[],[],"","",[],[])`:          api.ErrForm,
		`Derive([("a","","")],[("p",[])],[],"","",[],[])`:                api.ErrForm,
		`Derive([("a","","")],[("q",["a"]),("p",["a"])],[],"","",[],[])`: api.ErrForm,
		`Derive([("a","","")],[("p",["a"]),("p",["b"])],[],"","",[],[])`: api.ErrForm,
		`Derive([("a","","")],[("p",["b","a"])],[],"","",[],[])`:         api.ErrForm,
		`Derive([("a","","")],[("p",["a","a"])],[],"","",[],[])`:         api.ErrForm,
		`Derive([("a","","")],[],["b","a"],"","",[],[])`:                 api.ErrForm,
		`Derive([("a","","")],[],["a","a"],"","",[],[])`:                 api.ErrForm,
		`Derive([("a","","")],[],["",""],"","",[],[])`:                   api.ErrForm,
		`Derive([("a","","")],[],[],"","",[],[("b","a"),("a","b")])`:     api.ErrForm,
		`Derive([("a","","")],[],[],"","",[],[("a","a"),("a","b")])`:     api.ErrForm,
		`Derive([("a","","")],[],["\n","\t"],"","",[],[])`:               api.ErrForm,
		`Derive([("a","","")],[],["\t","\n"],"","",["b","a","a"],[])`:    api.OK,
		`Derive([("a","z",""),("b","y","")],[],[],"","",["",""],[])`:     api.OK,
	} {
		if e := holds(t, s); e != want {
			t.Errorf("Parse(%s): %v, want %v", s, e, want)
		}
	}
}

// TestParseFirst: which error is told where several apply.
func TestParseFirst(t *testing.T) {
	many := small()
	many.Args = rising(api.MaxItems + 1)
	manyText := plainPut(many)
	fails(t, "too many", manyText, api.ErrBig)
	// The form of all of it is asked ahead of Right.
	fails(t, "too many, and no form behind", manyText[:len(manyText)-1], api.ErrForm)
	fails(t, "too many, and a byte more", manyText+" ", api.ErrForm)
	fails(t, "too many, and none behind the last comma", strings.Replace(manyText, `"]`, `",]`, 1), api.ErrForm)
	for _, list := range lists {
		d := small()
		list.put(&d, rising(api.MaxItems+1))
		s := plainPut(d)
		fails(t, list.name+" too many", s, api.ErrBig)
		fails(t, list.name+" too many, cut off", s[:len(s)-1], api.ErrForm)
		fails(t, list.name+" too many, cut off ahead of its end", s[:strings.Index(s, `"1024"`)+6], api.ErrForm)
		fails(t, list.name+" too many, another last sign", s[:len(s)-1]+"]", api.ErrForm)
	}
	// Too many bytes are told ahead of everything else.
	_, long := longer(t, texts[7].put, "x", most+2)
	for what, s := range map[string]string{
		"bytes that are nothing":  strings.Repeat("x", most+1),
		"bytes 0":                 strings.Repeat("\x00", most+1),
		"a text and blanks":       smallText + strings.Repeat(" ", most),
		"a text cut off":          long[:most+1],
		"texts behind each other": strings.Repeat(smallText, most/len(smallText)+1),
		"no output":               `Derive([],[],[],"","` + strings.Repeat("x", most) + `",[],[])`,
		"far too many bytes":      strings.Repeat("x", 8*most),
	} {
		fails(t, what, s, api.ErrBig)
	}
	for what, s := range map[string]string{
		"bytes that are nothing": strings.Repeat("x", most),
		"a text and blanks":      smallText + strings.Repeat(" ", most-len(smallText)),
		"a text cut off":         long[:most],
		"quotes":                 strings.Repeat(`"`, most),
		"lists in lists":         "Derive(" + strings.Repeat("[", most-7),
		"rows in rows":           "Derive([" + strings.Repeat("(", most-8),
		"commas":                 "Derive([" + strings.Repeat(",", most-8),
		"slashes":                `Derive([("` + strings.Repeat(`\`, most-10),
		"outputs without an end": ("Derive([" + strings.Repeat(`("","",""),`, most/11))[:most],
		"names without an end":   (`Derive([("","","")],[("",[` + strings.Repeat(`"",`, most/3))[:most],
	} {
		if len(s) != most {
			t.Fatal(what, len(s))
		}
		fails(t, what, s, api.ErrForm)
	}
	// Far more elements than may be, in a text that may be as long.
	d := small()
	d.Args = make([]string, (most-len(smallText)+1)/3)
	fails(t, "very many arguments", plainPut(d), api.ErrBig)
	d = small()
	d.Outputs = make([]api.Output, (most-len(smallText))/11)
	fails(t, "very many outputs", plainPut(d), api.ErrBig)
}

// TestParseRandom holds many spoilt texts against a plain reading of the
// chapter.
func TestParseRandom(t *testing.T) {
	x := noise(88)
	told := map[api.Errno]int{}
	pieces := []string{`"`, `\`, `\n`, `\"`, "\n", ",", `,""`, `"",`, "[", "]", "(", ")", "()", "[]", `("","")`, `("","",""),`, `("",[""])`, " ", "a", "Derive(", "\xff"}
	for range 30000 {
		s := plainPut(x.drv())
		for range x.below(3) {
			i := x.below(len(s) + 1)
			j := min(len(s), i+x.below(3))
			switch x.below(4) {
			case 0: // taken out
				s = s[:i] + s[j:]
			case 1: // put in
				s = s[:i] + pieces[x.below(len(pieces))] + s[i:]
			case 2: // replaced
				s = s[:i] + pieces[x.below(len(pieces))] + s[j:]
			case 3: // told again
				s = s[:j] + s[i:]
			}
		}
		told[holds(t, s)]++
	}
	if told[api.OK] < 5000 || told[api.ErrForm] < 5000 {
		t.Error("too little was tried:", told)
	}
}

// FuzzParse holds any text against a plain reading of the chapter.
func FuzzParse(f *testing.F) {
	for _, s := range textsOf() {
		f.Add(s)
	}
	f.Fuzz(func(t *testing.T, s string) { holds(t, s) })
}

// TestParseOwnMemory: two answers of one text share nothing, not even spare
// room.
func TestParseOwnMemory(t *testing.T) {
	first, _ := aterm.Parse(richText)
	second, _ := aterm.Parse(richText)
	spoil(&first)
	extend(&first)
	if !same(second, rich()) {
		t.Errorf("another answer has changed: %s", short(second))
	}
	if third, e := aterm.Parse(richText); e != api.OK || !same(third, rich()) {
		t.Errorf("a later answer has changed: %s, %v", short(third), e)
	}
}

// TestParseListsOwnMemory: no list of texts in an answer shares memory with
// another one, spare room neither.
func TestParseListsOwnMemory(t *testing.T) {
	const s = `Derive([("a","","")],[("b",["c"]),("d",["e","f","g"]),("h",["i"])],["j","k","l"],"m","n",["o","p","q"],[])`
	want, _ := aterm.Parse(s)
	for k, held := range textLists(want) {
		d, _ := aterm.Parse(s)
		for i, list := range textLists(d) {
			for j := range cap(list) {
				if i != k {
					list[:cap(list)][j] = "spoilt"
				}
			}
		}
		if list := textLists(d)[k]; !slices.Equal(list, held) {
			t.Errorf("a list has changed with the others: %q, want %q", list, held)
		}
	}
}

// textLists tells the lists of texts of a derivation, still those.
func textLists(d api.Drv) [][]string {
	l := [][]string{d.Sources, d.Args}
	for _, in := range d.Inputs {
		l = append(l, in.Names)
	}
	return l
}

// extend writes into all spare room of a derivation's lists.
func extend(d *api.Drv) {
	for i, o := 0, d.Outputs; i < cap(o)-len(o); i++ {
		o[:cap(o)][len(o)+i].Name = "spoilt"
	}
	for i, in := 0, d.Inputs; i < cap(in)-len(in); i++ {
		in[:cap(in)][len(in)+i].Path = "spoilt"
	}
	for i, p := 0, d.Env; i < cap(p)-len(p); i++ {
		p[:cap(p)][len(p)+i].Key = "spoilt"
	}
	for _, s := range textLists(*d) {
		for i := range s[len(s):cap(s)] {
			s[:cap(s)][len(s)+i] = "spoilt"
		}
	}
}

// TestParseNewTexts: no text of an answer lies in the text that was handed in.
func TestParseNewTexts(t *testing.T) {
	s := strings.Clone(richText)
	d, _ := aterm.Parse(s)
	from := uintptr(unsafe.Pointer(unsafe.StringData(s)))
	all := append(append([]string{d.System, d.Builder}, d.Sources...), d.Args...)
	for _, o := range d.Outputs {
		all = append(all, o.Name, o.Path, o.Hash)
	}
	for _, in := range d.Inputs {
		all = append(append(all, in.Path), in.Names...)
	}
	for _, p := range d.Env {
		all = append(all, p.Key, p.Value)
	}
	for _, text := range all {
		at := uintptr(unsafe.Pointer(unsafe.StringData(text)))
		if text != "" && at >= from && at < from+uintptr(len(s)) {
			t.Errorf("the text %q lies in what was handed in", text)
		}
	}
	if q := aterm.Quote(s); unsafe.StringData(q) == unsafe.StringData(s) {
		t.Error("Quote tells the text that was handed in")
	}
}

// TestParsedChangedAfterwards: what was read can be changed, and put again.
func TestParsedChangedAfterwards(t *testing.T) {
	d, _ := aterm.Parse(richText)
	d.Outputs[0].Path = "/store/another"
	d.Inputs[1].Names[2] = "zout"
	d.Env = append(d.Env, api.Pair{Key: "\xff\xff", Value: "more"})
	puts(t, "a changed derivation", d, plainPut(d))
	if again, _ := aterm.Parse(richText); !same(again, rich()) {
		t.Errorf("Parse: %s", short(again))
	}
}
