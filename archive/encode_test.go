package archive_test

import (
	"bytes"
	"crypto/sha256"
	"encoding/hex"
	"fmt"
	"math"
	"strings"
	"testing"

	"stillroom/api"
	"stillroom/archive"
	"stillroom/tree"
)

// Strings as they lie in archives, written out.
const (
	first  = "\x00\x00\x00\x00\x00\x00\x00\x0fstill-archive-1\x00"
	open   = "\x00\x00\x00\x00\x00\x00\x00\x01(\x00\x00\x00\x00\x00\x00\x00"
	shut   = "\x00\x00\x00\x00\x00\x00\x00\x01)\x00\x00\x00\x00\x00\x00\x00"
	kind   = "\x00\x00\x00\x00\x00\x00\x00\x04type\x00\x00\x00\x00"
	folder = "\x00\x00\x00\x00\x00\x00\x00\x09directory\x00\x00\x00\x00\x00\x00\x00"
	item   = "\x00\x00\x00\x00\x00\x00\x00\x05entry\x00\x00\x00"
	called = "\x00\x00\x00\x00\x00\x00\x00\x04name\x00\x00\x00\x00"
	inside = "\x00\x00\x00\x00\x00\x00\x00\x04node\x00\x00\x00\x00"
	plain  = "\x00\x00\x00\x00\x00\x00\x00\x07regular\x00"
	runs   = "\x00\x00\x00\x00\x00\x00\x00\x0aexecutable\x00\x00\x00\x00\x00\x00"
	empty  = "\x00\x00\x00\x00\x00\x00\x00\x00"
	holds  = "\x00\x00\x00\x00\x00\x00\x00\x08contents"
	points = "\x00\x00\x00\x00\x00\x00\x00\x07symlink\x00"
	goal   = "\x00\x00\x00\x00\x00\x00\x00\x06target\x00\x00"
	textA  = "\x00\x00\x00\x00\x00\x00\x00\x01a\x00\x00\x00\x00\x00\x00\x00"
	textB  = "\x00\x00\x00\x00\x00\x00\x00\x01b\x00\x00\x00\x00\x00\x00\x00"
	textHi = "\x00\x00\x00\x00\x00\x00\x00\x02hi\x00\x00\x00\x00\x00\x00"
)

// written tells nodes with their archives, written out, and the digests of these
// in hex.
func written() []struct {
	what    string
	node    api.Node
	archive string
	digest  string
} {
	return []struct {
		what    string
		node    api.Node
		archive string
		digest  string
	}{
		{"an empty Dir", dir(), first + open + kind + folder + shut, "b03e52862421790c1012822fc9456fbaeb22856ed854bf5c4d6fe7e88d8e8bfd"},
		{"a File without bytes", file(""), first + open + kind + plain + holds + empty + shut, "1a11b52ce1586ece74e0807943f9a7ab1bf32ab4f79b9a69cc60837fd0e49e4c"},
		{"a File", file("hi"), first + open + kind + plain + holds + textHi + shut, "a4ca12369e4e71ccb840b8fd4802971a33662c05fc1e14cf091ed01b0b5c1d81"},
		{"a File that is Exec", script("hi"), first + open + kind + plain + runs + empty + holds + textHi + shut, "a4f256a966100f6bed2ad2bb2f4f65e24c57e78551ab862a52d6f6db4f70db30"},
		{"a Link", link("a"), first + open + kind + points + goal + textA + shut, "1e670701022ad2b38b1c78c3a7f679e014974348531c9cb0acb29548430c4f27"},
		{"a Dir of two", dir(entry{"a", script("hi")}, entry{"b", link("a")}),
			first + open + kind + folder +
				item + open + called + textA + inside + open + kind + plain + runs + empty + holds + textHi + shut + shut +
				item + open + called + textB + inside + open + kind + points + goal + textA + shut + shut +
				shut, "1154fa3c75707c3def67a7c65f989f64ddd6cdc247df2435bcf9ca1b67803fb9"},
		{"a Dir within a Dir", dir(entry{"b", dir(entry{"a", dir()})}),
			first + open + kind + folder + item + open + called + textB + inside +
				open + kind + folder + item + open + called + textA + inside +
				open + kind + folder + shut + shut +
				shut + shut +
				shut, "99a1c6805677545d054c02a3e7e83b26f3ab57eed3f3cf92bc670e20d03f0bb1"},
	}
}

func TestWrittenOut(t *testing.T) {
	for _, c := range written() {
		if b, e := archive.Encode(c.node); e != api.OK || string(b) != c.archive {
			t.Errorf("Encode(%s): %q, %v, want %q", c.what, b, e, c.archive)
		}
		if d, e := archive.Hash(c.node); e != api.OK || hex.EncodeToString(d[:]) != c.digest {
			t.Errorf("Hash(%s): %x, %v, want %s", c.what, d, e, c.digest)
		}
		reads(t, c.what, []byte(c.archive), c.node)
	}
}

// stands asks that Encode and Hash tell of a node what a plain reading of the
// chapter tells.
func stands(t *testing.T, what string, n api.Node) []byte {
	t.Helper()
	held, want := clone(n), plainEncode(n)
	b, e := archive.Encode(n)
	if e != api.OK || !bytes.Equal(b, want) {
		t.Fatalf("Encode(%s): %d bytes, %v, want %d others", what, len(b), e, len(want))
	}
	if d, e := archive.Hash(n); e != api.OK || d != api.Digest(sha256.Sum256(want)) {
		t.Fatalf("Hash(%s): %x, %v", what, d, e)
	}
	if !same(n, held) {
		t.Fatalf("%s: the node has changed", what)
	}
	return b
}

// The edges: how long archives are, by the chapter's words.
func TestEncodeAtTheEdges(t *testing.T) {
	// first ( type regular contents, the length of what follows, and )
	const ofFile = 24 + 16 + 16 + 16 + 16 + 8 + 16
	// first ( type symlink target, the length of what follows, and )
	const ofLink = 24 + 16 + 16 + 16 + 16 + 8 + 16
	// first ( type directory )
	const ofDir = 24 + 16 + 16 + 24 + 16
	// entry ( name, a name of at most 8 bytes, node, and ); and its File without bytes
	const ofEntry = 16 + 16 + 16 + 16 + 16 + 16
	const ofEmpty = ofFile - 24
	longName := strings.Repeat("n", api.MaxName)
	for _, c := range []struct {
		what string
		node api.Node
		size int
	}{
		{"File of 0", fileOf(0), ofFile}, {"File of 1", fileOf(1), ofFile + 8}, {"File of 7", fileOf(7), ofFile + 8},
		{"File of 8", fileOf(8), ofFile + 8}, {"File of 9", fileOf(9), ofFile + 16}, {"File of 16", fileOf(16), ofFile + 16},
		{"File of 255", fileOf(255), ofFile + 256}, {"File of 256", fileOf(256), ofFile + 256}, {"File of 257", fileOf(257), ofFile + 264},
		{"File of MaxFile less 1", fileOf(api.MaxFile - 1), ofFile + api.MaxFile}, {"File of MaxFile", fileOf(api.MaxFile), ofFile + api.MaxFile},
		{"Exec of 0", script(""), ofFile + 32}, {"Exec of 8", script("12345678"), ofFile + 40}, {"Exec of 9", script("123456789"), ofFile + 48},
		{"Link of 1", link("x"), ofLink + 8}, {"Link of 8", link("12345678"), ofLink + 8}, {"Link of 9", link("123456789"), ofLink + 16},
		{"Link of 1023", link(strings.Repeat("x", 1023)), ofLink + 1024}, {"Link of 1024", link(strings.Repeat("x", 1024)), ofLink + 1024},
		{"empty Dir", dir(), ofDir},
		{"empty Dir in one", dir(entry{"a", dir()}), ofDir + ofEntry + ofDir - 24},
		{"name of 1", dir(entry{"a", file("")}), ofDir + ofEntry + ofEmpty},
		{"name of 8", dir(entry{"12345678", file("")}), ofDir + ofEntry + ofEmpty},
		{"name of 9", dir(entry{"123456789", file("")}), ofDir + ofEntry + 8 + ofEmpty},
		{"name of MaxName", dir(entry{longName, file("")}), ofDir + ofEntry + 56 + ofEmpty},
		{"MaxNodes", wide(api.MaxNodes), ofDir + (api.MaxNodes-1)*(ofEntry+ofEmpty)},
		{"MaxDepth", under(api.MaxDepth, file("")), 24 + (api.MaxDepth-1)*(ofDir-24+ofEntry) + ofEmpty},
	} {
		if b := stands(t, c.what, c.node); len(b) != c.size {
			t.Errorf("Encode(%s): %d bytes, want %d", c.what, len(b), c.size)
		}
	}
}

func TestEncodeOfEmptyLists(t *testing.T) {
	for what, n := range map[string]api.Node{"Dir": dir(), "File": file("")} {
		full := api.Node{Kind: n.Kind, Data: []byte{}, Names: []string{}, Nodes: []api.Node{}}
		none := api.Node{Kind: n.Kind}
		if a, b := stands(t, what, full), stands(t, what, none); !bytes.Equal(a, b) {
			t.Errorf("%s: %x of empty lists, %x without", what, a, b)
		}
	}
	full := api.Node{Kind: api.Link, Data: []byte("x"), Names: []string{}, Nodes: []api.Node{}}
	if a, b := stands(t, "Link", full), stands(t, "Link", link("x")); !bytes.Equal(a, b) {
		t.Errorf("Link: %x of empty lists, %x without", a, b)
	}
}

func TestEncodeOfManyNodes(t *testing.T) {
	x := noise(7)
	stands(t, "rich", rich())
	for range 2000 {
		n := x.node(5)
		stands(t, short(n), n)
	}
}

// An archive may have more bytes than Decode reads.
func TestEncodeOfMoreThanIsRead(t *testing.T) {
	n := dir()
	for i := range 40 {
		n.Names, n.Nodes = append(n.Names, fmt.Sprintf("%02d", i)), append(n.Nodes, fileOf(api.MaxFile))
	}
	b := stands(t, "40 of MaxFile", n)
	if len(b) <= most {
		t.Fatalf("%d bytes", len(b))
	}
	fails(t, "40 of MaxFile", b, api.ErrBig)
}

// Nodes that may not be.

// refused asks that Encode and Hash tell this error, and nothing else.
func refused(t *testing.T, what string, n api.Node, want api.Errno) {
	t.Helper()
	if b, e := archive.Encode(n); e != want || len(b) != 0 {
		t.Errorf("Encode(%s): %d bytes, %v, want %v", what, len(b), e, want)
	}
	if d, e := archive.Hash(n); e != want || d != (api.Digest{}) {
		t.Errorf("Hash(%s): %x, %v, want %v", what, d, e, want)
	}
}

func TestEncodeOfWrongNodes(t *testing.T) {
	one, names := []api.Node{file("")}, []string{"a"}
	within := []api.Node{{Kind: api.Dir, Names: names}}
	within[0].Nodes = within // a list of nodes that lies within itself
	for what, c := range map[string]struct {
		node api.Node
		want api.Errno
	}{
		"no kind":             {api.Node{}, api.ErrKind},
		"kind 4":              {api.Node{Kind: 4}, api.ErrKind},
		"kind below 0":        {api.Node{Kind: -1}, api.ErrKind},
		"the greatest kind":   {api.Node{Kind: math.MaxInt}, api.ErrKind},
		"the least kind":      {api.Node{Kind: math.MinInt}, api.ErrKind},
		"Exec of a Dir":       {api.Node{Kind: api.Dir, Exec: true}, api.ErrKind},
		"Exec of a Link":      {api.Node{Kind: api.Link, Exec: true, Data: []byte("x")}, api.ErrKind},
		"bytes of a Dir":      {api.Node{Kind: api.Dir, Data: []byte("x")}, api.ErrKind},
		"Names of a File":     {api.Node{Kind: api.File, Names: names}, api.ErrKind},
		"Nodes of a File":     {api.Node{Kind: api.File, Nodes: one}, api.ErrKind},
		"Names of a Link":     {api.Node{Kind: api.Link, Data: []byte("x"), Names: names}, api.ErrKind},
		"Nodes of a Link":     {api.Node{Kind: api.Link, Data: []byte("x"), Nodes: one}, api.ErrKind},
		"more Names":          {api.Node{Kind: api.Dir, Names: names}, api.ErrKind},
		"more Nodes":          {api.Node{Kind: api.Dir, Nodes: one}, api.ErrKind},
		"File of one more":    {fileOf(api.MaxFile + 1), api.ErrBig},
		"Exec of one more":    {script(strings.Repeat("x", api.MaxFile+1)), api.ErrBig},
		"Link of 1025":        {link(strings.Repeat("x", 1025)), api.ErrBig},
		"too many nodes":      {wide(api.MaxNodes + 1), api.ErrBig},
		"too deep":            {under(api.MaxDepth+1, file("")), api.ErrBig},
		"much too deep":       {under(1000, dir()), api.ErrBig},
		"within itself":       {within[0], api.ErrBig},
		"too many entries":    {longEntries(505), api.ErrBig},
		"Link without bytes":  {link(""), api.ErrArg},
		"no name":             {dir(entry{"", file("")}), api.ErrName},
		".":                   {dir(entry{".", file("")}), api.ErrName},
		"..":                  {dir(entry{"..", file("")}), api.ErrName},
		"name with /":         {dir(entry{"a/b", file("")}), api.ErrName},
		"name with a blank":   {dir(entry{"a b", file("")}), api.ErrName},
		"name of one more":    {dir(entry{strings.Repeat("n", api.MaxName+1), file("")}), api.ErrName},
		"names out of order":  {dir(entry{"b", file("")}, entry{"a", file("")}), api.ErrName},
		"one name twice":      {dir(entry{"a", file("")}, entry{"a", file("")}), api.ErrName},
		"deep ahead of kind":  {dir(entry{"a", api.Node{}}, entry{"b", under(api.MaxDepth, file(""))}), api.ErrBig},
		"name ahead of below": {dir(entry{"/", api.Node{}}), api.ErrName},
		"argument, then kind": {dir(entry{"a", link("")}, entry{"b", api.Node{}}), api.ErrArg},
	} {
		refused(t, what, c.node, c.want)
		if c.want != api.ErrBig { // it would be deeper
			refused(t, "within a Dir: "+what, dir(entry{"a", file("x")}, entry{"b", c.node}), c.want)
		}
	}
}

// longEntries tells a directory of so many entries of 63 bytes.
func longEntries(entries int) api.Node {
	n := dir()
	for i := range entries {
		n.Names, n.Nodes = append(n.Names, fmt.Sprintf("%060d", i)), append(n.Nodes, file(""))
	}
	return n
}

// spoil makes something of a node, or of one beneath it, another thing.
func (x *noise) spoil(n *api.Node) {
	for len(n.Nodes) > 0 && x.below(3) > 0 {
		n = &n.Nodes[x.below(len(n.Nodes))]
	}
	switch x.below(7) {
	case 0:
		n.Kind = x.below(5)
	case 1:
		n.Exec = !n.Exec
	case 2:
		n.Data = x.bytes([]int{0, 1, 1025, api.MaxFile + 1}[x.below(4)])
	case 3:
		n.Names = append(n.Names, "zz")
	case 4:
		n.Names, n.Nodes = append(n.Names, []string{"", "~~", "!", "x/y"}[x.below(4)]), append(n.Nodes, link(""))
	case 5:
		n.Names, n.Nodes = append(n.Names, "~~~"), append(n.Nodes, under(28+x.below(5), dir()))
	case 6:
		*n = link("")
	}
}

func TestEncodeOfManySpoiltNodes(t *testing.T) {
	x := noise(9)
	told := map[api.Errno]int{}
	for range 3000 {
		n := x.node(4)
		for range 1 + x.below(2) {
			x.spoil(&n)
		}
		want := tree.Right(n)
		told[want]++
		if want == api.OK {
			stands(t, short(n), n)
		} else {
			refused(t, short(n), n, want)
		}
	}
	for _, e := range []api.Errno{api.OK, api.ErrBig, api.ErrKind, api.ErrArg, api.ErrName} {
		if told[e] < 50 {
			t.Errorf("only %d of %v", told[e], e)
		}
	}
}

// Unlike nodes have unlike digests, like ones the same.
func TestHashTellsNodesApart(t *testing.T) {
	nodes := []api.Node{file(""), script(""), file("\x00"), file("a"), script("a"), link("a"), link("\x00"), dir(),
		dir(entry{"a", file("")}), dir(entry{"a", dir()}), dir(entry{"b", file("")}), dir(entry{"a", file("")}, entry{"b", file("")}),
		dir(entry{"a", dir(entry{"b", dir()})}), dir(entry{"a", dir()}, entry{"b", dir()}), rich()}
	seen := map[api.Digest]int{}
	for i, n := range nodes {
		d, e := archive.Hash(n)
		if at, there := seen[d]; there || e != api.OK {
			t.Errorf("Hash(%s): %x, %v, as of %s", short(n), d, e, short(nodes[at]))
		}
		seen[d] = i
		if again, _ := archive.Hash(clone(n)); again != d {
			t.Errorf("Hash(%s): %x, then %x", short(n), d, again)
		}
	}
}

// What is handed in, and what is handed out.

// roomy tells a node whose lists have spare room, with something in it.
func roomy(n api.Node) api.Node {
	c := api.Node{Kind: n.Kind, Exec: n.Exec}
	c.Data = append(bytes.Clone(n.Data), 9, 9, 9)[:len(n.Data)]
	c.Names = append(append([]string{}, n.Names...), "spare")[:len(n.Names)]
	for _, kid := range n.Nodes {
		c.Nodes = append(c.Nodes, roomy(kid))
	}
	c.Nodes = append(c.Nodes, link("spare"))[:len(n.Nodes)]
	return c
}

// spared asks that the spare room of a roomy node has still what was in it.
func spared(t *testing.T, n api.Node) {
	t.Helper()
	data, names, nodes := n.Data[len(n.Data):len(n.Data)+3], n.Names[:len(n.Names)+1], n.Nodes[:len(n.Nodes)+1]
	if !bytes.Equal(data, []byte{9, 9, 9}) || names[len(n.Names)] != "spare" || !same(nodes[len(n.Nodes)], link("spare")) {
		t.Errorf("%s: its spare room has changed", short(n))
	}
	for _, kid := range n.Nodes {
		spared(t, kid)
	}
}

func TestEncodeOfSpareRoom(t *testing.T) {
	n := roomy(rich())
	stands(t, "roomy", n)
	spared(t, n)
}

func TestEncodeIsOnMemoryOfItsOwn(t *testing.T) {
	n := rich()
	b, again := encoded(t, n), encoded(t, n)
	d, _ := archive.Hash(n)
	held := clone(n)
	for i := range b[:cap(b)] {
		b[:cap(b)][i] ^= 255
	}
	if !same(n, held) {
		t.Error("changed bytes have changed the node")
	}
	if !bytes.Equal(again, plainEncode(n)) || !bytes.Equal(encoded(t, n), again) {
		t.Error("changed bytes have changed those of another call")
	}
	n.Nodes[0].Nodes[0].Data[0] = 'x'
	n.Names[1] = "f"
	if !bytes.Equal(again, plainEncode(held)) {
		t.Error("a changed node has changed its archive")
	}
	if now, _ := archive.Hash(n); now == d {
		t.Error("a changed node has still the old digest")
	}
	if now, _ := archive.Hash(held); now != d {
		t.Error("the node as it was has another digest")
	}
}
