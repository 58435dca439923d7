package tree

import (
	"errors"
	"slices"
	"strconv"

	"stillroom/alloc"
	"stillroom/api"
	"stillroom/bits"
	"stillroom/block"
)

// What lies where on a disk.
const (
	journalAt      = 0
	journalSectors = 4
	placeAt        = 4 // it tells where the tree is
	firstAt        = 5 // from here on all are the tree's
)

// The sector that tells where the tree is has a mark, the root's number, and
// bytes 0. A node's first sector has a mark, the kind, whether it is Exec, how
// many bytes the node has, and the numbers of the sectors that have them: with
// all numbers of MaxFile bytes it is full. A directory's bytes are its entries:
// of each the name's length, the name, and the number of the node's first sector.
const (
	placeMark   = "stilltree"
	nodeMark    = "node"
	kindByte    = len(nodeMark)
	execByte    = kindByte + 1
	sizeByte    = execByte + 1
	numbersByte = sizeByte + numberBytes
	// numberBytes is how many bytes the number of a sector has, and that of a
	// node's bytes.
	numberBytes = 2
)

// fault is something that is wrong on a disk.
type fault struct {
	sector int
	what   string
}

// Error tells it.
func (f *fault) Error() string {
	return "tree: sector " + strconv.Itoa(f.sector) + ": " + f.what
}

// errnoOf tells the number for an error of reading a disk.
func errnoOf(err error) api.Errno {
	var f *fault
	if errors.As(err, &f) {
		return api.ErrForm
	}
	return api.OK
}

// numberAt tells the number that lies at a byte of a sector.
func numberAt(b []byte, at int) int {
	v, _ := bits.Number(b[at : at+numberBytes])
	return int(v)
}

// numberOf tells a number as it lies on the disk.
func numberOf(v int) []byte {
	b, _ := bits.Bytes(uint64(v), numberBytes)
	return b
}

// placeRow tells the sector that says where the root is.
func placeRow(root int) []byte {
	row := make([]byte, api.Sector)
	copy(row, placeMark)
	copy(row[len(placeMark):], numberOf(root))
	return row
}

// ownSet tells the set of those sectors of a disk that no tree may use.
func ownSet(d *block.Disk) *alloc.Set {
	used, _ := alloc.New(d.Sectors())
	for range firstAt {
		used.Take()
	}
	return used
}

// lastTree tells the tree that was committed last, and which sectors are not
// free beside it.
func lastTree(d *block.Disk) (api.Node, *alloc.Set, error) {
	row, _ := d.Read(placeAt)
	root := numberAt(row, len(placeMark))
	if !slices.Equal(row, placeRow(root)) {
		return api.Node{}, nil, &fault{placeAt, "it tells no tree"}
	}
	used := ownSet(d)
	n, err := reader{d, used}.read(root)
	if err != nil {
		return api.Node{}, nil, err
	}
	if n.Kind != api.Dir || Right(n) != api.OK {
		return api.Node{}, nil, &fault{root, "a tree that may not be"}
	}
	return n, used, nil
}

// usedOf tells which sectors are not free beside the tree that was committed
// last. Where there is none, all that a tree may use are free.
func usedOf(d *block.Disk) *alloc.Set {
	_, used, err := lastTree(d)
	if errnoOf(err) != api.OK {
		return ownSet(d)
	}
	return used
}

// reader reads nodes off a disk. No sector may be read twice: so it ends,
// whatever lies there.
type reader struct {
	disk *block.Disk
	used *alloc.Set
}

// sector tells the bytes of a sector that was not used so far, and is then.
func (r reader) sector(at int) ([]byte, error) {
	if r.used.Put(at) != api.OK {
		return nil, &fault{at, "the disk does not have it, or it is used already"}
	}
	b, _ := r.disk.Read(at)
	return b, nil
}

// read tells the node at a sector, with all beneath it.
func (r reader) read(at int) (api.Node, error) {
	head, err := r.sector(at)
	if err != nil {
		return api.Node{}, err
	}
	exec := head[execByte]
	if string(head[:kindByte]) != nodeMark || exec > 1 || numberAt(head, sizeByte) > api.MaxFile {
		return api.Node{}, &fault{at, "no node"}
	}
	content, err := r.content(head)
	if err != nil {
		return api.Node{}, err
	}
	n := api.Node{Kind: int(head[kindByte]), Exec: exec == 1}
	if n.Kind == api.Dir {
		return r.entries(n, at, content)
	}
	n.Data = content
	return n, nil
}

// content tells the bytes of the node whose first sector this is.
func (r reader) content(head []byte) ([]byte, error) {
	size := numberAt(head, sizeByte)
	var content []byte
	for at := numbersByte; len(content) < size; at += numberBytes {
		b, err := r.sector(numberAt(head, at))
		if err != nil {
			return nil, err
		}
		content = append(content, b...)
	}
	return content[:size:size], nil
}

// entries tells a directory with what its entries name; at: its first sector.
func (r reader) entries(n api.Node, at int, content []byte) (api.Node, error) {
	for len(content) > 0 {
		end := 1 + int(content[0])
		if len(content) < end+numberBytes {
			return api.Node{}, &fault{at, "an entry that ends too soon"}
		}
		kid, err := r.read(numberAt(content, end))
		if err != nil {
			return api.Node{}, err
		}
		n.Names = append(n.Names, string(content[1:end]))
		n.Nodes = append(n.Nodes, kid)
		content = content[end+numberBytes:]
	}
	return n, nil
}

// writer writes nodes to sectors that are not used. There must be enough of them.
type writer struct {
	disk *block.Disk
	used *alloc.Set
}

// sector writes bytes, 0 behind them, and tells where.
func (w writer) sector(b []byte) int {
	at, _ := w.used.Take()
	row := make([]byte, api.Sector)
	copy(row, b)
	w.disk.Write(at, row)
	return at
}

// write writes a node with all beneath it, and tells where its first sector is.
func (w writer) write(n api.Node) int {
	content := n.Data
	if n.Kind == api.Dir {
		content = w.entries(n)
	}
	head := make([]byte, api.Sector)
	copy(head, nodeMark)
	head[kindByte] = byte(n.Kind)
	if n.Exec {
		head[execByte] = 1
	}
	copy(head[sizeByte:], numberOf(len(content)))
	at := numbersByte
	for piece := range slices.Chunk(content, api.Sector) {
		copy(head[at:], numberOf(w.sector(piece)))
		at += numberBytes
	}
	return w.sector(head)
}

// entries writes what is in a directory, and tells its entries.
func (w writer) entries(n api.Node) []byte {
	var content []byte
	for i, name := range n.Names {
		content = append(content, byte(len(name)))
		content = append(content, name...)
		content = append(content, numberOf(w.write(n.Nodes[i]))...)
	}
	return content
}
