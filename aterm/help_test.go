package aterm_test

import (
	"fmt"
	"regexp"
	"slices"
	"strings"
	"testing"

	"stillroom/api"
	"stillroom/aterm"
)

// most is how many bytes a derivation's text may have.
const most = api.MaxText * 16

// noise tells numbers that are alike in every run.
type noise uint64

func (x *noise) next() uint64 {
	*x ^= *x << 13
	*x ^= *x >> 7
	*x ^= *x << 17
	return uint64(*x) >> 16
}

func (x *noise) below(n int) int { return int(x.next() % uint64(n)) }

// Derivations.

// small tells the chapter's example.
func small() api.Drv {
	return api.Drv{Outputs: []api.Output{{Name: "out", Path: "/store/x"}}, System: "s", Builder: "b"}
}

const smallText = `Derive([("out","/store/x","")],[],[],"s","b",[],[])`

func output(name, path, hash string) api.Output {
	return api.Output{Name: name, Path: path, Hash: hash}
}

func input(path string, names ...string) api.Input { return api.Input{Path: path, Names: names} }

func pair(key, value string) api.Pair { return api.Pair{Key: key, Value: value} }

// rich tells a derivation that has something of everything.
func rich() api.Drv {
	return api.Drv{
		Outputs: []api.Output{output("dev", "/store/z-dev", ""), output("lib", "/store/a-lib", "sha256:0\"1"), output("out", "", "")},
		Inputs: []api.Input{
			input("/store/a.drv", "out"),
			input("/store/b.drv", "dev", "lib", "out"),
		},
		Sources: []string{"", "/store/s1", "/store/s2\\"},
		System:  "still\tvm",
		Builder: "push \"\"\r\ndir",
		Args:    []string{"-c", "", "-c", "a b"},
		Env:     []api.Pair{pair("", "empty"), pair("KEY", ""), pair("key", "1\n2"), pair("\xff", "\x00\x80")},
	}
}

const richText = `Derive([("dev","/store/z-dev",""),("lib","/store/a-lib","sha256:0\"1"),("out","","")],` +
	`[("/store/a.drv",["out"]),("/store/b.drv",["dev","lib","out"])],` +
	`["","/store/s1","/store/s2\\"],"still\tvm","push \"\"\r\ndir",` +
	`["-c","","-c","a b"],[("","empty"),("KEY",""),("key","1\n2"),("` + "\xff\",\"\x00\x80" + `")])`

// rising tells so many texts that rise.
func rising(n int) []string {
	l := make([]string, n)
	for i := range l {
		l[i] = fmt.Sprintf("%04d", i)
	}
	return l
}

// outputs, inputs and env tell such lists with these texts as their keys.

func outputs(names ...string) (l []api.Output) {
	for _, s := range names {
		l = append(l, api.Output{Name: s})
	}
	return l
}

func inputs(paths ...string) (l []api.Input) {
	for _, s := range paths {
		l = append(l, api.Input{Path: s, Names: []string{"out"}})
	}
	return l
}

func env(keys ...string) (l []api.Pair) {
	for _, s := range keys {
		l = append(l, api.Pair{Key: s})
	}
	return l
}

// lists has each list of a derivation, and how one is put in that has these
// texts as its keys; free: its elements may stand in any order.
var lists = []struct {
	name string
	free bool
	put  func(d *api.Drv, keys []string)
}{
	{"outputs", false, func(d *api.Drv, keys []string) { d.Outputs = outputs(keys...) }},
	{"inputs", false, func(d *api.Drv, keys []string) { d.Inputs = inputs(keys...) }},
	{"an input's names", false, func(d *api.Drv, keys []string) { d.Inputs = []api.Input{{Path: "p", Names: keys}} }},
	{"a later input's names", false, func(d *api.Drv, keys []string) {
		d.Inputs = append(inputs("o", "p"), api.Input{Path: "q", Names: keys}, api.Input{Path: "r", Names: []string{"out"}})
	}},
	{"the last input's names", false, func(d *api.Drv, keys []string) {
		d.Inputs = append(inputs("o", "p"), api.Input{Path: "q", Names: keys})
	}},
	{"sources", false, func(d *api.Drv, keys []string) { d.Sources = keys }},
	{"arguments", true, func(d *api.Drv, keys []string) { d.Args = keys }},
	{"environment", false, func(d *api.Drv, keys []string) { d.Env = env(keys...) }},
}

// texts has each text of a derivation, and how it is put in.
var texts = []struct {
	name string
	put  func(d *api.Drv, s string)
}{
	{"an output's name", func(d *api.Drv, s string) { d.Outputs = []api.Output{{Name: s}} }},
	{"an output's path", func(d *api.Drv, s string) { d.Outputs = []api.Output{{Path: s}} }},
	{"an output's hash", func(d *api.Drv, s string) { d.Outputs = []api.Output{{Hash: s}} }},
	{"an input's path", func(d *api.Drv, s string) { d.Inputs = []api.Input{{Path: s, Names: []string{"n"}}} }},
	{"an input's name", func(d *api.Drv, s string) { d.Inputs = []api.Input{{Path: "p", Names: []string{s}}} }},
	{"a source", func(d *api.Drv, s string) { d.Sources = []string{s} }},
	{"the system", func(d *api.Drv, s string) { d.System = s }},
	{"the builder", func(d *api.Drv, s string) { d.Builder = s }},
	{"an argument", func(d *api.Drv, s string) { d.Args = []string{s} }},
	{"a key", func(d *api.Drv, s string) { d.Env = []api.Pair{{Key: s}} }},
	{"a value", func(d *api.Drv, s string) { d.Env = []api.Pair{{Value: s}} }},
}

// oddTexts tells texts that stand at an edge.
func oddTexts() []string {
	all := make([]byte, 256)
	for i := range all {
		all[i] = byte(i)
	}
	l := []string{
		"", `"`, `\`, `""`, `\\`, `\"`, `"\`, `"a`, `a"`, `\a`, `a\`, `"a"`, `\a\`, `a"b`, `a\b`,
		"\n", "\r", "\t", "\r\n", "n", "r", "t", `\n`, `\r`, `\t`, "\\\n", "\"\n", "\x00", "\x0b\x0c\x08\x0e",
		",", "[", "]", "(", ")", "[]", `",`, `","`, `"],["`, `")`, "Derive(", smallText, " ", "é", "\u2028", "\xff\xfe", "\xc3",
		string(all), string(all) + string(all), strings.Repeat(`"`, 300), strings.Repeat(`\`, 301),
	}
	for i := range 256 {
		l = append(l, string([]byte{byte(i)}), string([]byte{'x', byte(i), 'y'}))
	}
	return l
}

// same tells whether two derivations are the same; lists without an element are.
func same(a, b api.Drv) bool {
	return slices.Equal(a.Outputs, b.Outputs) && slices.EqualFunc(a.Inputs, b.Inputs, func(a, b api.Input) bool {
		return a.Path == b.Path && slices.Equal(a.Names, b.Names)
	}) && slices.Equal(a.Sources, b.Sources) && a.System == b.System && a.Builder == b.Builder &&
		slices.Equal(a.Args, b.Args) && slices.Equal(a.Env, b.Env)
}

// clone tells a derivation on memory of its own.
func clone(d api.Drv) api.Drv {
	c := d
	c.Outputs, c.Inputs, c.Sources = slices.Clone(d.Outputs), slices.Clone(d.Inputs), slices.Clone(d.Sources)
	c.Args, c.Env = slices.Clone(d.Args), slices.Clone(d.Env)
	for i, in := range d.Inputs {
		c.Inputs[i].Names = slices.Clone(in.Names)
	}
	return c
}

// short tells what a message has room for.
func short(x any) string {
	s := fmt.Sprintf("%+q", fmt.Sprint(x))
	if len(s) > 300 {
		s = s[:300] + ".."
	}
	return s
}

// text tells a text out of few bytes, so that many are alike, and odd.
func (x *noise) text() string {
	const bytes = "aab\"\\\n\r\tnrt,[]()\x00\xff "
	b := make([]byte, x.below(5))
	for i := range b {
		b[i] = bytes[x.below(len(bytes))]
	}
	return string(b)
}

// texts tells at least so many texts, not many more; most often they rise.
func (x *noise) texts(least int) []string {
	l := make([]string, least+x.below(4))
	for i := range l {
		l[i] = x.text()
	}
	if x.below(12) > 0 {
		slices.Sort(l)
		l = slices.Compact(l)
	}
	return l
}

// drv tells a derivation; most often it may be.
func (x *noise) drv() api.Drv {
	d := api.Drv{System: x.text(), Builder: x.text(), Args: x.texts(0), Sources: x.texts(0)}
	for _, s := range x.texts(min(1, x.below(20))) {
		d.Outputs = append(d.Outputs, api.Output{Name: s, Path: x.text(), Hash: x.text()})
	}
	for _, s := range x.texts(0) {
		d.Inputs = append(d.Inputs, api.Input{Path: s, Names: x.texts(min(1, x.below(20)))})
	}
	for _, s := range x.texts(0) {
		d.Env = append(d.Env, api.Pair{Key: s, Value: x.text()})
	}
	return d
}

// A plain reading of the chapter.

var (
	escaped = strings.NewReplacer(`"`, `\"`, `\`, `\\`, "\n", `\n`, "\r", `\r`, "\t", `\t`)
	meant   = strings.NewReplacer(`\"`, `"`, `\\`, `\`, `\n`, "\n", `\r`, "\r", `\t`, "\t")
)

// plainQuote tells a text between quotes.
func plainQuote(s string) string { return `"` + escaped.Replace(s) + `"` }

func plainList[T any](l []T, tell func(T) string) string {
	var told []string
	for _, x := range l {
		told = append(told, tell(x))
	}
	return "[" + strings.Join(told, ",") + "]"
}

// plainPut tells a derivation's text, also of one that may not be.
func plainPut(d api.Drv) string {
	q := plainQuote
	return "Derive(" + strings.Join([]string{
		plainList(d.Outputs, func(o api.Output) string { return "(" + q(o.Name) + "," + q(o.Path) + "," + q(o.Hash) + ")" }),
		plainList(d.Inputs, func(in api.Input) string { return "(" + q(in.Path) + "," + plainList(in.Names, q) + ")" }),
		plainList(d.Sources, q), q(d.System), q(d.Builder), plainList(d.Args, q),
		plainList(d.Env, func(p api.Pair) string { return "(" + q(p.Key) + "," + q(p.Value) + ")" }),
	}, ",") + ")"
}

// plainRises tells whether each text is above the one ahead of it.
func plainRises(l []string) bool {
	return slices.IsSorted(l) && len(slices.Compact(slices.Clone(l))) == len(l)
}

// plainRight tells what is wrong with a derivation.
func plainRight(d api.Drv) api.Errno {
	var names, paths, keys []string
	for _, o := range d.Outputs {
		names = append(names, o.Name)
	}
	for _, p := range d.Env {
		keys = append(keys, p.Key)
	}
	longest := 0
	form := len(d.Outputs) == 0
	for _, in := range d.Inputs {
		paths = append(paths, in.Path)
		longest = max(longest, len(in.Names))
		form = form || len(in.Names) == 0 || !plainRises(in.Names)
	}
	for _, l := range [][]string{names, paths, d.Sources, keys} {
		longest = max(longest, len(l))
		form = form || !plainRises(l)
	}
	if max(longest, len(d.Args)) > 1024 {
		return api.ErrBig
	}
	if form {
		return api.ErrForm
	}
	return api.OK
}

// The form of a derivation's text, as one expression: parts that match one by
// one, so that each is told by its number.
var (
	textForm   = `"(?:[^"\\\n\r\t]|\\["\\nrt])*"`
	textsForm  = listForm(textForm)
	outputForm = `\(` + textForm + `,` + textForm + `,` + textForm + `\)`
	inputForm  = `\(` + textForm + `,` + textsForm + `\)`
	pairForm   = `\(` + textForm + `,` + textForm + `\)`
	drvForm    = regexp.MustCompile(`\ADerive\((` + listForm(outputForm) + `),(` + listForm(inputForm) + `),(` +
		textsForm + `),(` + textForm + `),(` + textForm + `),(` + textsForm + `),(` + listForm(pairForm) + `)\)\z`)
	anOutput = regexp.MustCompile(outputForm)
	anInput  = regexp.MustCompile(inputForm)
	aPair    = regexp.MustCompile(pairForm)
	aText    = regexp.MustCompile(textForm)
)

func listForm(element string) string { return `\[(?:` + element + `(?:,` + element + `)*)?\]` }

// plainTexts tells the texts between quotes of a piece whose form is right.
func plainTexts(piece string) []string {
	var l []string
	for _, s := range aText.FindAllString(piece, -1) {
		l = append(l, meant.Replace(s[1:len(s)-1]))
	}
	return l
}

// plainParse reads a derivation's text.
func plainParse(s string) (d api.Drv, e api.Errno) {
	if len(s) > 1048576 {
		return d, api.ErrBig
	}
	m := drvForm.FindStringSubmatch(s)
	if m == nil {
		return d, api.ErrForm
	}
	for _, o := range anOutput.FindAllString(m[1], -1) {
		l := plainTexts(o)
		d.Outputs = append(d.Outputs, api.Output{Name: l[0], Path: l[1], Hash: l[2]})
	}
	for _, in := range anInput.FindAllString(m[2], -1) {
		l := plainTexts(in)
		d.Inputs = append(d.Inputs, api.Input{Path: l[0], Names: l[1:]})
	}
	d.Sources, d.Args = plainTexts(m[3]), plainTexts(m[6])
	d.System, d.Builder = plainTexts(m[4])[0], plainTexts(m[5])[0]
	for _, p := range aPair.FindAllString(m[7], -1) {
		l := plainTexts(p)
		d.Env = append(d.Env, api.Pair{Key: l[0], Value: l[1]})
	}
	if e := plainRight(d); e != api.OK {
		return api.Drv{}, e
	}
	return d, api.OK
}

// Asking.

// puts asks that a derivation may be, that this is its text, and that it is
// read again.
func puts(t *testing.T, what string, d api.Drv, want string) {
	t.Helper()
	held := clone(d)
	if e := aterm.Right(d); e != api.OK {
		t.Errorf("Right(%s): %v", what, e)
	}
	s, e := aterm.Put(d)
	if e != api.OK || s != want {
		t.Errorf("Put(%s): %s, %v, want %s", what, short(s), e, short(want))
	}
	if !same(d, held) {
		t.Errorf("Put(%s): what was handed in has changed", what)
	}
	reads(t, what, want, d)
}

// mayNot asks that Right and Put tell this error of a derivation, and so does
// Parse of what would be its text.
func mayNot(t *testing.T, what string, d api.Drv, want api.Errno) {
	t.Helper()
	held := clone(d)
	if e := aterm.Right(d); e != want {
		t.Errorf("Right(%s): %v, want %v", what, e, want)
	}
	if s, e := aterm.Put(d); e != want || s != "" {
		t.Errorf("Put(%s): %s, %v, want %v", what, short(s), e, want)
	}
	if !same(d, held) {
		t.Errorf("Put(%s): what was handed in has changed", what)
	}
	fails(t, what, plainPut(d), want)
}

// reads asks that a text is this derivation's, and that Put tells it again.
func reads(t *testing.T, what, s string, want api.Drv) {
	t.Helper()
	d, e := aterm.Parse(s)
	if e != api.OK || !same(d, want) {
		t.Errorf("Parse(%s): %s, %v, want %s", what, short(d), e, short(want))
		return
	}
	if again, e := aterm.Put(d); e != api.OK || again != s {
		t.Errorf("Put(Parse(%s)): %s, %v, want %s", what, short(again), e, short(s))
	}
}

// fails asks that Parse tells this error, and nothing else.
func fails(t *testing.T, what, s string, want api.Errno) {
	t.Helper()
	if d, e := aterm.Parse(s); e != want || !same(d, api.Drv{}) {
		t.Errorf("Parse(%s): %s, %v, want %v", what, short(d), e, want)
	}
}
