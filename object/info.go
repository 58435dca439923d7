package object

import (
	"slices"
	"strings"

	"stillroom/api"
	"stillroom/digest"
	"stillroom/path"
)

// The first words of an info's lines.
const (
	hashWord    = "hash"
	deriverWord = "deriver"
	refWord     = "ref"
)

// What stands behind a line's first word, and behind a line.
const (
	blank   = " "
	lineEnd = "\n"
)

// Text tells an info as a text.
func Text(i api.Info) (string, api.Errno) {
	if !mayBe(i) {
		return "", api.ErrForm
	}
	b := appendLine(nil, hashWord, i.Hash)
	if i.Deriver != "" {
		b = appendLine(b, deriverWord, i.Deriver)
	}
	for _, ref := range i.Refs {
		b = appendLine(b, refWord, ref)
	}
	return string(b), api.OK
}

// Read reads a text as the info of a path.
func Read(path, s string) (api.Info, api.Errno) {
	i := api.Info{Path: strings.Clone(path)}
	says := map[string]func(string){
		hashWord:    func(said string) { i.Hash = said },
		deriverWord: func(said string) { i.Deriver = said },
		refWord:     func(said string) { i.Refs = append(i.Refs, said) },
	}
	for line := range strings.Lines(s) {
		word, said, _ := strings.Cut(strings.TrimSuffix(line, lineEnd), blank)
		say, known := says[word]
		if !known {
			return api.Info{}, api.ErrForm
		}
		// A piece of the text that was handed in would keep all of it.
		say(strings.Clone(said))
	}
	// An info has one text alone: a line that is missing, told twice, or at
	// another place makes it another text.
	if text, e := Text(i); e != api.OK || text != s {
		return api.Info{}, api.ErrForm
	}
	return i, api.OK
}

// appendLine appends a line of an info.
func appendLine(b []byte, word, said string) []byte {
	return append(b, word+blank+said+lineEnd...)
}

// mayBe tells whether an info may be.
func mayBe(i api.Info) bool {
	_, e := digest.Parse(i.Hash)
	return e == api.OK && rightRefs(i.Refs) && hasPaths(i)
}

// hasPaths tells whether an info has paths where there must be some.
func hasPaths(i api.Info) bool {
	return isPath(i.Path) && (i.Deriver == "" || isPath(i.Deriver)) &&
		!slices.ContainsFunc(i.Refs, func(ref string) bool { return !isPath(ref) })
}

// isPath tells whether a text is a path.
func isPath(s string) bool {
	_, _, e := path.Split(s)
	return e == api.OK
}

// rightRefs tells whether references rise, and are not too many.
func rightRefs(refs []string) bool {
	for i := range refs {
		if i == api.MaxItems || i > 0 && refs[i] <= refs[i-1] {
			return false
		}
	}
	return true
}

// infoPlace tells where in a tree a path's info lies; of what is no path: where
// nothing can lie.
func infoPlace(p string) string { return infoDir + "/" + path.Base(p) }

// readFile reads a node as a path's info.
func readFile(p string, n api.Node) (api.Info, api.Errno) {
	if n.Kind != api.File || n.Exec {
		return api.Info{}, api.ErrForm
	}
	return Read(p, string(n.Data))
}

// infosIn tells those infos that lie in a directory under their last names, in
// the order of these.
func infosIn(db api.Node) []api.Info {
	var list []api.Info
	for i, name := range db.Names {
		if info, e := readFile(path.Store+name, db.Nodes[i]); e == api.OK {
			list = append(list, info)
		}
	}
	return list
}
