package aterm_test

import (
	"fmt"
	"slices"
	"strings"
	"testing"

	"stillroom/api"
	"stillroom/aterm"
)

func TestPut(t *testing.T) {
	puts(t, "the chapter's example", small(), smallText)
	puts(t, "something of everything", rich(), richText)
	for _, c := range []struct {
		d    api.Drv
		want string
	}{
		{api.Drv{Outputs: outputs("")}, `Derive([("","","")],[],[],"","",[],[])`},
		{api.Drv{Outputs: outputs("a", "b"), Inputs: inputs("")}, `Derive([("a","",""),("b","","")],[("",["out"])],[],"","",[],[])`},
		{api.Drv{Outputs: outputs("o"), Inputs: []api.Input{input("p", ""), input("q", "", "a")}}, `Derive([("o","","")],[("p",[""]),("q",["","a"])],[],"","",[],[])`},
		{api.Drv{Outputs: outputs("o"), Sources: []string{"", "a"}, Args: []string{""}}, `Derive([("o","","")],[],["","a"],"","",[""],[])`},
		{api.Drv{Outputs: []api.Output{output("o", "p", "h")}, Env: []api.Pair{pair("k", "v")}}, `Derive([("o","p","h")],[],[],"","",[],[("k","v")])`},
		{api.Drv{Outputs: outputs("o"), Builder: "a,b [c]", System: "(d)"}, `Derive([("o","","")],[],[],"(d)","a,b [c]",[],[])`},
	} {
		puts(t, c.want, c.d, c.want)
	}
}

// TestPutEmptyLists: a list without an element may be nil or empty.
func TestPutEmptyLists(t *testing.T) {
	d := small()
	d.Inputs, d.Sources, d.Args, d.Env = []api.Input{}, []string{}, []string{}, []api.Pair{}
	puts(t, "empty lists", d, smallText)
	mayNot(t, "empty outputs", api.Drv{Outputs: []api.Output{}}, api.ErrForm)
	d.Inputs = []api.Input{{Path: "p", Names: []string{}}}
	mayNot(t, "empty names", d, api.ErrForm)
}

func TestQuote(t *testing.T) {
	for s, want := range map[string]string{
		"":         `""`,
		"a":        `"a"`,
		"a\"\n":    `"a\"\n"`,
		`"`:        `"\""`,
		`\`:        `"\\"`,
		"\n":       `"\n"`,
		"\r":       `"\r"`,
		"\t":       `"\t"`,
		`\n`:       `"\\n"`,
		`"a\`:      `"\"a\\"`,
		"nrt":      `"nrt"`,
		"\x00\xff": "\"\x00\xff\"",
		"\u2028é'": "\"\u2028é'\"",
		" ,[]() ":  `" ,[]() "`,
	} {
		if q := aterm.Quote(s); q != want {
			t.Errorf("Quote(%q) = %q, want %q", s, q, want)
		}
	}
	for _, s := range oddTexts() {
		if q, want := aterm.Quote(s), plainQuote(s); q != want {
			t.Errorf("Quote(%q) = %q, want %q", s, q, want)
		}
	}
}

// TestQuoteLong: Quote has no limit.
func TestQuoteLong(t *testing.T) {
	for _, n := range []int{api.MaxText, api.MaxText + 1, most, most + 1, 3 * most} {
		if q := aterm.Quote(strings.Repeat("x", n)); len(q) != n+2 || strings.Trim(q[1:n+1], "x") != "" {
			t.Errorf("Quote of %d bytes: %d bytes", n, len(q))
		}
		if q := aterm.Quote(strings.Repeat("\n", n)); len(q) != 2*n+2 || strings.Count(q, `\n`) != n {
			t.Errorf("Quote of %d bytes 10: %d bytes", n, len(q))
		}
	}
}

// TestPutOddTexts: texts may have any bytes, wherever they stand.
func TestPutOddTexts(t *testing.T) {
	for _, where := range texts {
		for _, s := range oddTexts() {
			d := rich()
			where.put(&d, s)
			puts(t, where.name+" "+short(s), d, plainPut(d))
		}
	}
}

// TestRightItems: each list of MaxItems elements, and of one more.
func TestRightItems(t *testing.T) {
	for _, list := range lists {
		d := small()
		list.put(&d, rising(api.MaxItems))
		puts(t, list.name+": MaxItems", d, plainPut(d))
		list.put(&d, rising(api.MaxItems+1))
		mayNot(t, list.name+": one more", d, api.ErrBig)
	}
	// Many in all, but in no list too many.
	d := small()
	for _, list := range lists {
		list.put(&d, rising(api.MaxItems))
	}
	puts(t, "all lists", d, plainPut(d))
}

// TestRightOrder: lists that must rise, and the one that need not.
func TestRightOrder(t *testing.T) {
	for _, list := range lists {
		for _, keys := range [][]string{
			{"b", "a"}, {"a", "a"}, {"", ""}, {"a", ""}, {"a", "b", "b"}, {"a", "a", "b"}, {"a", "c", "b"}, {"b", "a", "c"}, {"a", "b", "a"},
			{"aa", "a"}, {"a\x00", "a"}, {"\x80", "\x7f"}, {"\xff", "z"}, {"a", "Z"}, {"é", "z"}, {"9", "10"}, {"b", "aa"},
			{"\n", "\t"}, {"\"", "!"}, {"]", "\\"},
		} {
			d := small()
			list.put(&d, keys)
			if list.free {
				puts(t, list.name+" "+short(keys), d, plainPut(d))
			} else {
				mayNot(t, list.name+" "+short(keys), d, api.ErrForm)
			}
		}
		for _, keys := range [][]string{
			{"", "a"}, {"a", "aa"}, {"a", "a\x00"}, {"\x7f", "\x80"}, {"z", "\xff"}, {"Z", "a"}, {"z", "é"}, {"10", "9"}, {"aa", "b"},
			{"\t", "\n"}, {"!", "\""}, {"\\", "]"}, {"", "\x00"}, {"", "\x00", "\x00\x00"},
			// As they stand between quotes these do not rise.
			{"\"", "#", "]"}, {"[", "\\", "]"}, {"\n", "A"}, {"\t", "\n", "\r", " "}, {"a\n", "a "}, {"a\"", "a0"},
		} {
			d := small()
			list.put(&d, keys)
			puts(t, list.name+" "+short(keys), d, plainPut(d))
		}
	}
}

// TestRightOrderLong: two elements changed about, or one told twice, wherever
// they stand in a long list.
func TestRightOrderLong(t *testing.T) {
	for _, list := range lists {
		for _, n := range []int{2, 3, 20, api.MaxItems} {
			for i := 0; i+1 < n; i += 1 + n/25 {
				about := rising(n)
				about[i], about[i+1] = about[i+1], about[i]
				twice := rising(n)
				twice[i+1] = twice[i]
				ends := rising(n)
				ends[0], ends[n-1] = ends[n-1], ends[0]
				for _, keys := range [][]string{about, twice, ends} {
					want := api.ErrForm
					if list.free {
						want = api.OK
					}
					d := small()
					list.put(&d, keys)
					if e := aterm.Right(d); e != want {
						t.Errorf("Right(%s: %d, at %d): %v, want %v", list.name, n, i, e, want)
					}
				}
			}
		}
	}
}

// TestRightFree: what need not rise.
func TestRightFree(t *testing.T) {
	puts(t, "paths and hashes of outputs", api.Drv{Outputs: []api.Output{output("a", "z", "z"), output("b", "z", "z"), output("c", "a", "a")}},
		`Derive([("a","z","z"),("b","z","z"),("c","a","a")],[],[],"","",[],[])`)
	puts(t, "values", api.Drv{Outputs: outputs("o"), Env: []api.Pair{pair("a", "z"), pair("b", "z"), pair("c", "a")}},
		`Derive([("o","","")],[],[],"","",[],[("a","z"),("b","z"),("c","a")])`)
	puts(t, "names of unlike inputs", api.Drv{Outputs: outputs("o"), Inputs: []api.Input{input("a", "z"), input("b", "z"), input("c", "a")}},
		`Derive([("o","","")],[("a",["z"]),("b",["z"]),("c",["a"])],[],"","",[],[])`)
	puts(t, "one text everywhere", api.Drv{Outputs: []api.Output{output("a", "a", "a")}, Inputs: []api.Input{input("a", "a")}, Sources: []string{"a"}, System: "a", Builder: "a", Args: []string{"a"}, Env: []api.Pair{pair("a", "a")}},
		`Derive([("a","a","a")],[("a",["a"])],["a"],"a","a",["a"],[("a","a")])`)
}

func TestRightMissing(t *testing.T) {
	mayNot(t, "nothing", api.Drv{}, api.ErrForm)
	d := rich()
	d.Outputs = nil
	mayNot(t, "no output", d, api.ErrForm)
	for i := range rich().Inputs {
		d := rich()
		d.Inputs[i].Names = nil
		mayNot(t, "an input without names", d, api.ErrForm)
	}
}

// TestRightFirst: ErrBig is told wherever ErrForm could be, too.
func TestRightFirst(t *testing.T) {
	for _, list := range lists {
		long := api.Drv{}
		list.put(&long, rising(api.MaxItems+1))
		mayNot(t, list.name+" too long, no output", long, api.ErrBig)
		for _, other := range lists {
			d := small()
			other.put(&d, []string{"b", "a"})
			list.put(&d, rising(api.MaxItems+1))
			mayNot(t, list.name+" too long, "+other.name+" falling", d, api.ErrBig)
		}
		d := small()
		falling := rising(api.MaxItems + 1)
		slices.Reverse(falling)
		list.put(&d, falling)
		mayNot(t, list.name+" too long and falling", d, api.ErrBig)
	}
	d := small()
	d.Inputs = []api.Input{input("b"), input("a", rising(api.MaxItems+1)...)}
	mayNot(t, "an input without names ahead of one of too many", d, api.ErrBig)
}

// longer tells a derivation whose text has so many bytes, for one of its texts
// is filled up by this sign; and that text.
func longer(t *testing.T, put func(*api.Drv, string), sign string, size int) (api.Drv, string) {
	t.Helper()
	d := small()
	put(&d, "")
	rest := size - len(plainPut(d))
	told := len(plainQuote(sign)) - 2
	put(&d, strings.Repeat(sign, rest/told)+strings.Repeat("z", rest%told))
	s := plainPut(d)
	if len(s) != size {
		t.Fatalf("%d bytes, not %d", len(s), size)
	}
	return d, s
}

// tooLong asks that a derivation may be, but that its text is too long.
func tooLong(t *testing.T, what string, d api.Drv) {
	t.Helper()
	if e := aterm.Right(d); e != api.OK {
		t.Errorf("Right(%s): %v", what, e)
	}
	if s, e := aterm.Put(d); e != api.ErrBig || s != "" {
		t.Errorf("Put(%s): %d bytes, %v", what, len(s), e)
	}
}

// TestPutLong: texts of the greatest length, and of one byte more.
func TestPutLong(t *testing.T) {
	for _, where := range texts {
		for _, sign := range []string{"x", "\n"} {
			d, s := longer(t, where.put, sign, most)
			puts(t, where.name, d, s)
			for _, size := range []int{most + 1, most + 2} {
				d, s := longer(t, where.put, sign, size)
				tooLong(t, fmt.Sprintf("%s: %d bytes of %q", where.name, size, sign), d)
				fails(t, where.name, s, api.ErrBig)
			}
		}
		// A text as long as all may be, and one byte more: what stands around
		// it is too much.
		for _, size := range []int{most - 2, most, most + 1, 3 * most} {
			d := small()
			where.put(&d, strings.Repeat("x", size))
			tooLong(t, fmt.Sprintf("%s of %d bytes", where.name, size), d)
		}
	}
	for _, sign := range []string{"\"", "\\", "\r", "\t", "\x00", "\xff"} {
		d, s := longer(t, texts[7].put, sign, most)
		puts(t, short(sign), d, s)
		d, s = longer(t, texts[7].put, sign, most+1)
		tooLong(t, short(sign), d)
		fails(t, short(sign), s, api.ErrBig)
	}
}

// TestPutLongMany: many texts that are too long together, none of them alone.
func TestPutLongMany(t *testing.T) {
	for _, list := range lists {
		d := small()
		keys := rising(api.MaxItems)
		for i := range keys {
			keys[i] += strings.Repeat("x", api.MaxText/64)
		}
		list.put(&d, keys)
		tooLong(t, list.name, d)
	}
	d := small()
	for _, path := range rising(api.MaxItems) {
		d.Inputs = append(d.Inputs, api.Input{Path: path, Names: rising(api.MaxItems)})
	}
	tooLong(t, "all inputs with all names", d)
	// Behind one that is too long there are short ones, which would have room.
	d = small()
	d.Outputs[0].Path = strings.Repeat("x", 2*most)
	tooLong(t, "a long text ahead of short ones", d)
	d.Outputs[0].Path = strings.Repeat("\n", most-1)
	tooLong(t, "a text that gets too long ahead of short ones", d)
}

// TestPutFirst: Right's error is told ahead of the length's.
func TestPutFirst(t *testing.T) {
	long := strings.Repeat("x", most+1)
	for what, d := range map[string]api.Drv{
		"no output":     {Builder: long},
		"falling":       {Outputs: outputs("b", "a"), Builder: long},
		"twice":         {Outputs: outputs(long, long)},
		"without names": {Outputs: outputs("a"), Inputs: []api.Input{{Path: long}}},
	} {
		if s, e := aterm.Put(d); e != api.ErrForm || s != "" {
			t.Errorf("Put(%s): %d bytes, %v", what, len(s), e)
		}
	}
}

// TestPutRandom holds many derivations against a plain reading of the chapter.
func TestPutRandom(t *testing.T) {
	x := noise(8)
	told := map[api.Errno]int{}
	for range 20000 {
		d := x.drv()
		e := plainRight(d)
		told[e]++
		if e == api.OK {
			puts(t, short(d), d, plainPut(d))
		} else {
			mayNot(t, short(d), d, e)
		}
	}
	if told[api.OK] < 5000 || told[api.ErrForm] < 2000 {
		t.Error("too little was tried:", told)
	}
}

// spare tells lists with spare room in which something lies, and what checks
// that it lies there still.
func spare(d *api.Drv) (untouched func() bool) {
	junk := api.Output{Name: "a", Path: "\x01", Hash: "\x02"}
	d.Outputs = append(slices.Clone(d.Outputs), junk)
	d.Inputs = append(slices.Clone(d.Inputs), api.Input{Path: "a"})
	for i := range d.Inputs {
		d.Inputs[i].Names = append(slices.Clone(d.Inputs[i].Names), "a")
		d.Inputs[i].Names = d.Inputs[i].Names[:len(d.Inputs[i].Names)-1]
	}
	d.Sources = append(slices.Clone(d.Sources), "a")
	d.Args = append(slices.Clone(d.Args), "a")
	d.Env = append(slices.Clone(d.Env), api.Pair{Key: "a"})
	all := *d
	d.Outputs, d.Inputs = d.Outputs[:len(d.Outputs)-1], d.Inputs[:len(d.Inputs)-1]
	d.Sources, d.Args, d.Env = d.Sources[:len(d.Sources)-1], d.Args[:len(d.Args)-1], d.Env[:len(d.Env)-1]
	held := clone(all)
	return func() bool {
		for _, in := range all.Inputs {
			if in.Names[:len(in.Names)+1][len(in.Names)] != "a" {
				return false
			}
		}
		return same(all, held)
	}
}

// TestPutSpareRoom: what lies behind a list's length is neither read nor
// written.
func TestPutSpareRoom(t *testing.T) {
	for what, d := range map[string]api.Drv{"small": small(), "rich": rich()} {
		want := plainPut(d)
		untouched := spare(&d)
		puts(t, what, d, want)
		if !untouched() {
			t.Errorf("%s: the spare room has changed", what)
		}
	}
	// What lies behind would make a list too long, and a list without an
	// element one that has some.
	d := small()
	d.Args = rising(api.MaxItems + 1)[:api.MaxItems]
	puts(t, "MaxItems arguments", d, plainPut(d))
	d = small()
	d.Outputs = outputs("a")[:0]
	mayNot(t, "no output, but room", d, api.ErrForm)
}

// TestPutChangedAfterwards: a text that was told stays as it is.
func TestPutChangedAfterwards(t *testing.T) {
	d := rich()
	s, _ := aterm.Put(d)
	spoil(&d)
	if s != richText {
		t.Errorf("a text has changed: %s", short(s))
	}
	d = small()
	if s, e := aterm.Put(d); s != smallText || e != api.OK {
		t.Errorf("Put: %s, %v", short(s), e)
	}
}

// spoil changes every text and list of a derivation where it lies.
func spoil(d *api.Drv) {
	d.System, d.Builder = "spoilt", "spoilt"
	for i := range d.Outputs {
		d.Outputs[i] = api.Output{Name: "spoilt", Path: "spoilt", Hash: "spoilt"}
	}
	for i := range d.Inputs {
		for j := range d.Inputs[i].Names {
			d.Inputs[i].Names[j] = "spoilt"
		}
		d.Inputs[i].Path = "spoilt"
	}
	for i := range d.Sources {
		d.Sources[i] = "spoilt"
	}
	for i := range d.Args {
		d.Args[i] = "spoilt"
	}
	for i := range d.Env {
		d.Env[i] = api.Pair{Key: "spoilt", Value: "spoilt"}
	}
}
