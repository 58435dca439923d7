package tree

import (
	"strings"

	"stillroom/api"
)

const (
	// slash is the root's path, and stands ahead of each name in others.
	slash = "/"
	// maxLink is how many bytes a link may have.
	maxLink = 1024
	// entryMore is how many bytes an entry has beside its name.
	entryMore = 3
	// The bytes of names.
	firstSign, lastSign = 33, 126
)

// Right tells what is wrong with a node.
func Right(n api.Node) api.Errno {
	if _, few := census(n, 0, 1); !few {
		return api.ErrBig
	}
	return rightEach(n)
}

// census adds a node and all beneath it to those that were counted, and tells
// whether they are few enough and not too deep. It stops at one too many: a list
// of nodes may lie within itself.
func census(n api.Node, counted, level int) (count int, few bool) {
	counted++
	if counted > api.MaxNodes || level > api.MaxDepth {
		return counted, false
	}
	for _, kid := range n.Nodes {
		if counted, few = census(kid, counted, level+1); !few {
			return counted, false
		}
	}
	return counted, true
}

// rightEach tells what is wrong with the first node, of this one and all beneath
// it, that is wrong by itself.
func rightEach(n api.Node) api.Errno {
	if e := rightAlone(n); e != api.OK {
		return e
	}
	for _, kid := range n.Nodes {
		if e := rightEach(kid); e != api.OK {
			return e
		}
	}
	return api.OK
}

// rightAlone tells what is wrong with a node, whatever is beneath it.
func rightAlone(n api.Node) api.Errno {
	switch {
	case !rightKind(n):
		return api.ErrKind
	case size(n) > maxSize(n.Kind):
		return api.ErrBig
	case n.Kind == api.Link && len(n.Data) == 0:
		return api.ErrArg
	case !rightNames(n.Names):
		return api.ErrName
	}
	return api.OK
}

// rightKind tells whether a node is of a kind, and has nothing that only other
// kinds may have.
func rightKind(n api.Node) bool {
	switch n.Kind {
	case api.File:
		return len(n.Names) == 0 && len(n.Nodes) == 0
	case api.Link:
		return len(n.Names) == 0 && len(n.Nodes) == 0 && !n.Exec
	case api.Dir:
		return len(n.Names) == len(n.Nodes) && !n.Exec && len(n.Data) == 0
	}
	return false
}

// size tells how many bytes a node has: a directory's are its entries.
func size(n api.Node) int {
	sum := len(n.Data)
	for _, name := range n.Names {
		sum += len(name) + entryMore
	}
	return sum
}

// maxSize tells how many bytes a node of a kind may have.
func maxSize(kind int) int {
	if kind == api.Link {
		return maxLink
	}
	return api.MaxFile
}

// rightNames tells whether all of these are names, rising.
func rightNames(names []string) bool {
	for i, name := range names {
		if !isName(name) || i > 0 && name <= names[i-1] {
			return false
		}
	}
	return true
}

// isName tells whether a text is a name.
func isName(s string) bool {
	if len(s) < 1 || len(s) > api.MaxName || s == "." || s == ".." {
		return false
	}
	for i := range len(s) {
		if s[i] < firstSign || s[i] > lastSign || s[i] == slash[0] {
			return false
		}
	}
	return true
}

// namesOf tells a path's names, of the root none, and whether it is a path.
func namesOf(path string) (names []string, ok bool) {
	if path == slash {
		return nil, true
	}
	rest, ok := strings.CutPrefix(path, slash)
	if !ok {
		return nil, false
	}
	names = strings.Split(rest, slash)
	for _, name := range names {
		if !isName(name) {
			return nil, false
		}
	}
	return names, true
}

// Sectors tells how many sectors a node needs, with all beneath it.
func Sectors(n api.Node) int {
	if Right(n) != api.OK {
		return 0
	}
	return needs(n)
}

// needs tells how many sectors a node that may be needs, with all beneath it.
func needs(n api.Node) int {
	sum := 1 + (size(n)+api.Sector-1)/api.Sector
	for _, kid := range n.Nodes {
		sum += needs(kid)
	}
	return sum
}
