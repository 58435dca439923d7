package object_test

import (
	"fmt"
	"strings"
	"testing"

	"stillroom/api"
	"stillroom/object"
)

// P11.2

// hashX is the text of some digest.
var hashX = hashOf(file("x"))

// infos tells infos that may be, with their texts.
func infos() map[string]api.Info {
	hash := "hash " + hashX + "\n"
	m := map[string]api.Info{
		hash:                                                  {Hash: hashX},
		hash + "deriver " + pathB + "\n":                      {Hash: hashX, Deriver: pathB},
		hash + "deriver " + pathA + "\n":                      {Hash: hashX, Deriver: pathA},
		hash + "ref " + pathA + "\n":                          {Hash: hashX, Refs: []string{pathA}},
		hash + "ref " + pathC + "\n":                          {Hash: hashX, Refs: []string{pathC}},
		"hash " + strings.Repeat("0", 52) + "\n":              {Hash: strings.Repeat("0", 52)},
		"hash " + strings.Repeat("z", 51) + "h\n":             {Hash: strings.Repeat("z", 51) + "h"},
		hash + "deriver " + pathD + "\nref " + pathD + "\n":   {Hash: hashX, Deriver: pathD, Refs: []string{pathD}},
		hash + "ref " + pathA + "\nref " + pathB + "\n":       {Hash: hashX, Refs: []string{pathA, pathB}},
		hash + "ref " + pathA + "\nref " + pathA + "a\n":      {Hash: hashX, Refs: []string{pathA, pathA + "a"}},
		hash + "ref " + pathA[:40] + "Z\nref " + pathA + "\n": {Hash: hashX, Refs: []string{pathA[:40] + "Z", pathA}},
		hash + "ref " + pathA[:40] + "+\nref " + pathA[:40] + "-\nref " + pathA[:40] + "0\nref " + pathA[:40] + "_\n": {
			Hash: hashX, Refs: []string{pathA[:40] + "+", pathA[:40] + "-", pathA[:40] + "0", pathA[:40] + "_"}},
	}
	for text, i := range m {
		i.Path = pathA
		m[text] = i
	}
	return m
}

func TestTextAndRead(t *testing.T) {
	for text, i := range infos() {
		if s, e := object.Text(i); e != api.OK || s != text {
			t.Errorf("Text(%q): %q, %v, want %q", i, s, e, text)
		}
		if r, e := object.Read(pathA, text); e != api.OK || !sameInfo(r, i) {
			t.Errorf("Read(%q): %q, %v, want %q", text, r, e, i)
		}
	}
}

func TestTextDoesNotHangOnThePath(t *testing.T) {
	for text, i := range infos() {
		i.Path = pathD
		if s, e := object.Text(i); e != api.OK || s != text {
			t.Errorf("Text(%q): %q, %v, want %q", i, s, e, text)
		}
		if r, e := object.Read(pathD, text); e != api.OK || !sameInfo(r, i) {
			t.Errorf("Read(%q): %q, %v, want %q", text, r, e, i)
		}
	}
}

func TestTextAndReadOfManyReferences(t *testing.T) {
	for _, n := range []int{0, 1, 2, 100, api.MaxItems - 1, api.MaxItems, api.MaxItems + 1, api.MaxItems + 2, 3 * api.MaxItems} {
		i := api.Info{Path: pathA, Hash: hashX, Deriver: pathC, Refs: pathsTo(n)}
		text := plainText(i)
		s, e := object.Text(i)
		r, f := object.Read(pathA, text)
		if n <= api.MaxItems {
			if e != api.OK || s != text || f != api.OK || !sameInfo(r, i) {
				t.Errorf("%d: %v, %v", n, e, f)
			}
			continue
		}
		if e != api.ErrForm || s != "" || f != api.ErrForm || !sameInfo(r, api.Info{}) {
			t.Errorf("%d: %v, %v", n, e, f)
		}
	}
}

// wrongInfo is an info that may not be.
type wrongInfo struct {
	what string
	info api.Info
}

// wrongHashes tells texts that are no digest's.
func wrongHashes() []string {
	return []string{
		"", "0", hashX[:51], hashX[:50], hashX + "0", hashX + "00000000", hashX + hashX, strings.Repeat("z", 52), hashX[:51] + "1", hashX[:51] + "2",
		"e" + hashX[1:], "-" + hashX[1:], strings.ToUpper(hashX), " " + hashX[:51], hashX[:51] + " ", hashX[:51] + "\n", hashX[:51] + "\x00", hashX[:51] + "\xff", "sha256:" + hashX,
	}
}

// wrongInfos tells infos that may not be.
func wrongInfos() []wrongInfo {
	right := api.Info{Path: pathA, Hash: hashX, Deriver: pathB, Refs: []string{pathA, pathC}}
	var l []wrongInfo
	wrong := func(what string, spoil func(i *api.Info)) {
		i := right
		spoil(&i)
		l = append(l, wrongInfo{what, i})
	}
	for _, h := range wrongHashes() {
		wrong(fmt.Sprintf("hash %q", h), func(i *api.Info) { i.Hash = h })
	}
	for _, p := range wrongPaths() {
		wrong(fmt.Sprintf("path %q", p), func(i *api.Info) { i.Path = p })
		wrong(fmt.Sprintf("ref %q", p), func(i *api.Info) { i.Refs = []string{p} })
		wrong(fmt.Sprintf("ref %q, the first", p), func(i *api.Info) { i.Refs = []string{p, pathD} })
		wrong(fmt.Sprintf("ref %q, the last", p), func(i *api.Info) { i.Refs = []string{pathA, p} })
		if p != "" {
			wrong(fmt.Sprintf("deriver %q", p), func(i *api.Info) { i.Deriver = p })
		}
	}
	for what, refs := range map[string][]string{
		"refs that fall":          {pathB, pathA},
		"refs that fall at last":  {pathA, pathC, pathB},
		"refs that fall at first": {pathB, pathA, pathC},
		"refs told twice":         {pathA, pathA},
		"refs told twice at last": {pathA, pathB, pathB},
		"refs told twice, apart":  {pathA, pathB, pathA},
		"a ref behind its longer": {pathA + "a", pathA},
		"small ahead of great":    {pathA, pathA[:40] + "A"},
		"too many":                pathsTo(api.MaxItems + 1),
	} {
		wrong(what, func(i *api.Info) { i.Refs = refs })
	}
	l = append(l, wrongInfo{"nothing", api.Info{}}, wrongInfo{"a path alone", api.Info{Path: pathA}}, wrongInfo{"a hash alone", api.Info{Hash: hashX}})
	return l
}

func TestTextOfWrongInfos(t *testing.T) {
	for _, c := range wrongInfos() {
		if s, e := object.Text(c.info); e != api.ErrForm || s != "" {
			t.Errorf("%s: %.200q, %v", c.what, s, e)
		}
	}
}

func TestReadOfWrongInfos(t *testing.T) {
	for _, c := range wrongInfos() {
		if i, e := object.Read(c.info.Path, plainText(c.info)); e != api.ErrForm || !sameInfo(i, api.Info{}) {
			t.Errorf("%s: %.200q, %v", c.what, i, e)
		}
	}
}

// wrongText is a text that is no info's.
type wrongText struct{ what, text string }

// wrongTexts tells texts that are no infos', whatever the path.
func wrongTexts() []wrongText {
	hash, deriver, refA, refC := "hash "+hashX+"\n", "deriver "+pathB+"\n", "ref "+pathA+"\n", "ref "+pathC+"\n"
	whole := hash + deriver + refA + refC
	l := []wrongText{
		{"no bytes", ""},
		{"a line without bytes", "\n"},
		{"noise", "x"},
		{"no hash", deriver + refA + refC},
		{"refs alone", refA + refC},
		{"a deriver alone", deriver},
		{"two hashes", hash + hash},
		{"two hashes, and more", hash + hash + deriver + refA},
		{"two unlike hashes", "hash " + strings.Repeat("0", 52) + "\n" + hash + refA},
		{"the hash at last, too", whole + hash},
		{"two derivers", hash + deriver + deriver + refA},
		{"two unlike derivers", hash + "deriver " + pathA + "\n" + deriver + refA},
		{"a ref twice", hash + deriver + refA + refA},
		{"a ref twice, apart", hash + deriver + refA + refC + refA},
		{"refs that fall", hash + deriver + refC + refA},
		{"the deriver first", deriver + hash + refA},
		{"the deriver at last", hash + refA + refC + deriver},
		{"the deriver among refs", hash + refA + deriver + refC},
		{"a ref ahead of the hash", refA + hash + deriver + refC},
		{"the hash at last", refA + refC + hash},
		{"all backwards", refC + refA + deriver + hash},
		{"no last byte 10", strings.TrimSuffix(whole, "\n")},
		{"no last byte 10 of a hash alone", strings.TrimSuffix(hash, "\n")},
		{"a byte 10 more at last", whole + "\n"},
		{"a byte 10 more at first", "\n" + whole},
		{"a byte 10 more in the midst", hash + "\n" + deriver},
		{"bytes 13", strings.ReplaceAll(whole, "\n", "\r\n")},
		{"a byte 13 alone", strings.TrimSuffix(hash, "\n") + "\r"},
		{"a byte 0 behind", whole + "\x00"},
		{"a blank behind", whole + " "},
		{"a byte 0 for a byte 10", strings.ReplaceAll(whole, "\n", "\x00")},
		{"an empty deriver", hash + "deriver \n" + refA},
		{"a deriver without a blank", hash + "deriver\n" + refA},
		{"an empty ref", hash + "ref \n"},
		{"a ref without a blank", hash + "ref\n"},
		{"an empty hash", "hash \n" + refA},
		{"a hash without a blank", "hash\n" + refA},
		{"a path's line", "path " + pathA + "\n" + whole},
		{"a size's line", hash + "size 1\n"},
		{"an end", whole + "end\n"},
		{"a remark", whole + "; x\n"},
	}
	for _, word := range []string{"hash", "deriver", "ref"} {
		for what, other := range map[string]string{
			"a blank ahead of it": " " + word + " ", "two blanks": word + "  ", "no blank": word, "a tab": word + "\t", "a point": word + ".", "a colon": word + ": ", "an equals sign": word + "=",
			"great": strings.ToUpper(word) + " ", "its first great": strings.ToUpper(word[:1]) + word[1:] + " ", "a byte more": word + "s ", "a byte less": word[:len(word)-1] + " ", "its first less": word[1:] + " ",
			"nothing": "", "a blank alone": " ", "a byte 10 in it": word + "\n", "another word": "x ", "a byte 0 ahead of it": "\x00" + word + " ",
		} {
			l = append(l, wrongText{word + ": " + what, strings.Replace(whole, word+" ", other, 1)})
		}
		at := strings.Index(whole, word+" ")
		end := at + strings.Index(whole[at:], "\n")
		l = append(l, wrongText{word + ": a blank at its end", whole[:end] + " " + whole[end:]}, wrongText{word + ": a word more", whole[:end] + " x" + whole[end:]})
	}
	for _, h := range wrongHashes() {
		l = append(l, wrongText{fmt.Sprintf("the hash %q", h), "hash " + h + "\n" + deriver + refA})
	}
	for _, p := range wrongPaths() {
		l = append(l, wrongText{fmt.Sprintf("the deriver %q", p), hash + "deriver " + p + "\n" + refA})
		l = append(l, wrongText{fmt.Sprintf("the ref %q", p), hash + deriver + "ref " + p + "\n"})
	}
	return l
}

func TestReadOfWrongTexts(t *testing.T) {
	for _, c := range wrongTexts() {
		for _, p := range []string{pathA, pathB, pathD} {
			if i, e := object.Read(p, c.text); e != api.ErrForm || !sameInfo(i, api.Info{}) {
				t.Errorf("%s: Read(%.300q): %.300q, %v", c.what, c.text, i, e)
			}
		}
	}
}

func TestReadOfNoPath(t *testing.T) {
	for _, p := range wrongPaths() {
		for text := range infos() {
			if i, e := object.Read(p, text); e != api.ErrForm || !sameInfo(i, api.Info{}) {
				t.Errorf("Read(%q, %q): %q, %v", p, text, i, e)
			}
		}
	}
}

// reads asks that Read tells what a plain reading tells, and that Text is its
// other way.
func reads(t *testing.T, s string) {
	t.Helper()
	want, wantE := plainRead(pathA, s)
	i, e := object.Read(pathA, s)
	if e != wantE || !sameInfo(i, want) {
		t.Fatalf("Read(%q): %q, %v, want %q, %v", s, i, e, want, wantE)
	}
	if e != api.OK {
		return
	}
	if text, e := object.Text(i); e != api.OK || text != s {
		t.Fatalf("Text(%q): %q, %v, want %q", i, text, e, s)
	}
}

func TestReadOfSpoiltTexts(t *testing.T) {
	whole := plainText(api.Info{Hash: hashX, Deriver: pathC, Refs: []string{pathA, pathB}})
	reads(t, whole)
	for at := range len(whole) {
		reads(t, whole[:at])
		reads(t, whole[at:])
		reads(t, whole[:at]+whole[at+1:])
		reads(t, whole+whole[:at])
		for c := range 256 {
			reads(t, whole[:at]+string([]byte{byte(c)})+whole[at+1:])
		}
		for _, c := range []string{" ", "\n", "\x00", "a", "0", "hash ", "ref "} {
			reads(t, whole[:at]+c+whole[at:])
		}
	}
}

func TestReadOfManyTexts(t *testing.T) {
	x := noise(11)
	lines := []string{
		"hash " + hashX + "\n", "hash " + strings.Repeat("0", 52) + "\n", "deriver " + pathA + "\n", "deriver " + pathC + "\n",
		"ref " + pathA + "\n", "ref " + pathB + "\n", "ref " + pathC + "\n", "ref " + pathD + "\n", "\n", "ref \n", "deriver \n", "ref " + pathA, "x",
	}
	right := 0
	for range 20000 {
		s := ""
		if x.below(4) > 0 {
			s = lines[0]
		}
		for range x.below(5) {
			s += oneOf(&x, lines...)
		}
		reads(t, s)
		if _, e := plainRead(pathA, s); e == api.OK {
			right++
		}
	}
	if right < 1000 {
		t.Errorf("only %d of them were infos' texts", right)
	}
}

func TestTextOfManyInfos(t *testing.T) {
	x := noise(12)
	paths := []string{pathA, pathB, pathC, pathD, pathAt(3), pathA[:40] + "A", pathA + "a"}
	any := append(wrongPaths(), paths...)
	right := 0
	for range 20000 {
		i := api.Info{Path: oneOf(&x, paths...), Hash: hashX, Deriver: oneOf(&x, append(paths, "")...)}
		for range x.below(4) {
			i.Refs = append(i.Refs, oneOf(&x, paths...))
		}
		switch x.below(12) {
		case 0:
			i.Path = oneOf(&x, any...)
		case 1:
			i.Deriver = oneOf(&x, any...)
		case 2:
			i.Refs = append(i.Refs, oneOf(&x, any...))
		case 3:
			i.Hash = oneOf(&x, wrongHashes()...)
		}
		s, e := object.Text(i)
		if !plainMayBe(i) {
			if e != api.ErrForm || s != "" {
				t.Fatalf("Text(%q): %q, %v", i, s, e)
			}
			continue
		}
		right++
		if e != api.OK || s != plainText(i) {
			t.Fatalf("Text(%q): %q, %v", i, s, e)
		}
		if r, e := object.Read(i.Path, s); e != api.OK || !sameInfo(r, i) {
			t.Fatalf("Read(%q): %q, %v, want %q", s, r, e, i)
		}
	}
	if right < 1000 {
		t.Errorf("only %d of them may be", right)
	}
}
