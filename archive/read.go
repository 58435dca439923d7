package archive

import (
	"bytes"
	"errors"
	"slices"
	"strconv"

	"stillroom/api"
	"stillroom/bits"
)

// fault is something that is wrong with an archive.
type fault struct {
	errno api.Errno
	at    int // how many bytes were read
}

// Error tells it.
func (f *fault) Error() string {
	return "archive: byte " + strconv.Itoa(f.at) + ": " + f.errno.Error()
}

// errnoOf tells the number for an error of reading an archive.
func errnoOf(err error) api.Errno {
	var f *fault
	if errors.As(err, &f) {
		return f.errno
	}
	return api.OK
}

// reader reads an archive's strings one behind the other.
type reader struct {
	all []byte
	at  int // what is ahead of it was read
}

// wrong tells a fault behind what was read.
func (r *reader) wrong(e api.Errno) error { return &fault{e, r.at} }

// take tells the next bytes, so many, still those that were handed in.
func (r *reader) take(n int) ([]byte, error) {
	if n > len(r.all)-r.at {
		return nil, r.wrong(api.ErrEnd)
	}
	b := r.all[r.at : r.at+n]
	r.at += n
	return b, nil
}

// next tells the next string's bytes, still those that were handed in.
func (r *reader) next() ([]byte, error) {
	length, err := r.take(lengthBytes)
	if err != nil {
		return nil, err
	}
	// The length is held against all bytes as it is: an int may have no room
	// for it.
	v, _ := bits.Number(length)
	if v > uint64(len(r.all)) {
		return nil, r.wrong(api.ErrForm)
	}
	size := int(v)
	filled, err := r.take(size + fillOf(size))
	if err != nil {
		return nil, err
	}
	if slices.ContainsFunc(filled[size:], func(c byte) bool { return c != 0 }) {
		return nil, r.wrong(api.ErrForm)
	}
	return filled[:size], nil
}

// oneOf tells the next string, which must be one of these words.
func (r *reader) oneOf(words ...string) (string, error) {
	s, err := r.next()
	if err != nil {
		return "", err
	}
	for _, word := range words {
		if string(s) == word {
			return word, nil
		}
	}
	return "", r.wrong(api.ErrForm)
}

// pass passes by the next strings, which must be these words in this order.
func (r *reader) pass(words ...string) error {
	for _, word := range words {
		if _, err := r.oneOf(word); err != nil {
			return err
		}
	}
	return nil
}

// archive reads all bytes as an archive, and tells its node.
func (r *reader) archive() (api.Node, error) {
	if err := r.pass(firstWord); err != nil {
		return api.Node{}, err
	}
	n, err := r.node(1)
	if err == nil && r.at < len(r.all) {
		err = r.wrong(api.ErrForm)
	}
	return n, err
}

// node reads a node of a level; the root's is 1.
func (r *reader) node(level int) (api.Node, error) {
	if err := r.pass(openWord); err != nil {
		return api.Node{}, err
	}
	// It is begun: whatever follows, it is too deep.
	if level > api.MaxDepth {
		return api.Node{}, r.wrong(api.ErrBig)
	}
	if err := r.pass(typeWord); err != nil {
		return api.Node{}, err
	}
	word, err := r.oneOf(fileWord, linkWord, dirWord)
	if err != nil {
		return api.Node{}, err
	}
	switch word {
	case fileWord:
		return r.file()
	case linkWord:
		return r.link()
	}
	return r.dir(level)
}

// file reads what a file has behind its kind.
func (r *reader) file() (api.Node, error) {
	word, err := r.oneOf(execWord, dataWord)
	if err != nil {
		return api.Node{}, err
	}
	exec := word == execWord
	if exec {
		if err := r.pass(nothingWord, dataWord); err != nil {
			return api.Node{}, err
		}
	}
	return r.data(api.Node{Kind: api.File, Exec: exec})
}

// link reads what a link has behind its kind.
func (r *reader) link() (api.Node, error) {
	if err := r.pass(targetWord); err != nil {
		return api.Node{}, err
	}
	return r.data(api.Node{Kind: api.Link})
}

// data reads a node's bytes and its end, and tells the node with them.
func (r *reader) data(n api.Node) (api.Node, error) {
	b, err := r.next()
	if err != nil {
		return api.Node{}, err
	}
	n.Data = bytes.Clone(b)
	return n, r.pass(shutWord)
}

// dir reads what a directory of a level has behind its kind.
func (r *reader) dir(level int) (api.Node, error) {
	n := api.Node{Kind: api.Dir}
entries:
	for {
		word, err := r.oneOf(entryWord, shutWord)
		switch {
		case err != nil:
			return api.Node{}, err
		case word == shutWord:
			break entries
		}
		name, kid, err := r.entry(level)
		if err != nil {
			return api.Node{}, err
		}
		n.Names = append(n.Names, name)
		n.Nodes = append(n.Nodes, kid)
	}
	return n, nil
}

// entry reads what an entry of a directory of a level has behind its first word.
func (r *reader) entry(level int) (string, api.Node, error) {
	if err := r.pass(openWord, nameWord); err != nil {
		return "", api.Node{}, err
	}
	name, err := r.next()
	if err != nil {
		return "", api.Node{}, err
	}
	if err := r.pass(nodeWord); err != nil {
		return "", api.Node{}, err
	}
	kid, err := r.node(level + 1)
	if err != nil {
		return "", api.Node{}, err
	}
	return string(name), kid, r.pass(shutWord)
}
