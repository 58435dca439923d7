package index

import (
	"strconv"
	"strings"

	"stillroom/api"
)

// The first words of an index's lines, and how many words each line has.
const (
	packageWord = "package"
	needsWord   = "needs"
	wordsOfLine = 3
)

// What stands between a line's words, and behind a line.
const (
	blank   = " "
	lineEnd = "\n"
)

// fault is what is wrong with a line.
type fault struct {
	line  int
	errno api.Errno
}

// Error tells it.
func (f *fault) Error() string {
	return "index: line " + strconv.Itoa(f.line) + ": " + f.errno.Error()
}

// reader keeps what the lines told that were read.
type reader struct {
	packs []api.Pack
	ahead map[release]int
}

// read reads all lines of a text, or those ahead of the first fault.
func read(s string) ([]api.Pack, error) {
	if len(s) > api.MaxText {
		return nil, &fault{0, api.ErrBig}
	}
	r := &reader{ahead: map[release]int{}}
	number := 0
	for line := range strings.Lines(s) {
		if e := r.line(line); e != api.OK {
			return nil, &fault{number, e}
		}
		number++
	}
	return r.packs, nil
}

// line reads a line, and tells what is wrong with it.
func (r *reader) line(s string) api.Errno {
	text, ended := strings.CutSuffix(s, lineEnd)
	words := strings.Split(text, blank)
	if !ended || len(words) != wordsOfLine {
		return api.ErrLine
	}
	// Pieces of the text that was handed in would keep all of it.
	name, said := strings.Clone(words[1]), strings.Clone(words[2])
	switch words[0] {
	case packageWord:
		return r.pack(api.Pack{Name: name, Version: said})
	case needsWord:
		return r.need(api.Need{Name: name, Range: said})
	}
	return api.ErrLine
}

// pack takes a package, or tells what is wrong with it.
func (r *reader) pack(p api.Pack) api.Errno {
	if e := lineErrno(rightPack(p, r.ahead), len(r.packs) == api.MaxItems); e != api.OK {
		return e
	}
	r.ahead[release{p.Name, p.Version}] = len(r.packs)
	r.packs = append(r.packs, p)
	return api.OK
}

// need takes a need of the last package, or tells what is wrong with it.
func (r *reader) need(n api.Need) api.Errno {
	if len(r.packs) == 0 {
		return api.ErrLine
	}
	last := &r.packs[len(r.packs)-1]
	if e := lineErrno(rightNeed(n, last.Needs), len(last.Needs) == maxNeeds); e != api.OK {
		return e
	}
	last.Needs = append(last.Needs, n)
	return api.OK
}

// lineErrno tells a line's error by what is wrong with what it says, and by whether
// as many are ahead of it as may be.
func lineErrno(e api.Errno, full bool) api.Errno {
	switch {
	case e == api.ErrName || e == api.ErrVersion || e == api.ErrRange:
		return api.ErrLine
	case full:
		// One too many that is there already is one too many, as Right has it.
		return api.ErrBig
	}
	return e
}

// appendLine appends a line.
func appendLine(b []byte, word, name, said string) []byte {
	return append(b, word+blank+name+blank+said+lineEnd...)
}
