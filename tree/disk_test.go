package tree

import (
	"errors"
	"slices"
	"strings"
	"testing"

	"stillroom/api"
	"stillroom/block"
)

// These tests lay out disks byte by byte, as no commit would.

// row tells a sector that begins with these bytes.
func row(b ...byte) []byte { return append(b, make([]byte, api.Sector-len(b))...) }

// headRow tells a node's first sector.
func headRow(kind, exec, size int, numbers ...int) []byte {
	b := append([]byte(nodeMark), byte(kind), byte(exec))
	b = append(b, numberOf(size)...)
	for _, n := range numbers {
		b = append(b, numberOf(n)...)
	}
	return row(b...)
}

// entriesOf tells entries: names, and the numbers of their nodes.
func entriesOf(entries ...any) []byte {
	var b []byte
	for _, e := range entries {
		switch e := e.(type) {
		case string:
			b = append(append(b, byte(len(e))), e...)
		case int:
			b = append(b, numberOf(e)...)
		}
	}
	return b
}

// laid tells a disk of 20 sectors with these, whose tree is at the sector root.
func laid(t *testing.T, root int, rows map[int][]byte) *block.Disk {
	t.Helper()
	d, _ := block.New(20)
	for n, b := range rows {
		if e := d.Write(n, b); e != api.OK {
			t.Fatalf("Write(%d, %d bytes): %v", n, len(b), e)
		}
	}
	if rows[placeAt] == nil {
		d.Write(placeAt, placeRow(root))
	}
	return d
}

func TestTreesThatAreLaidOut(t *testing.T) {
	entries := entriesOf("a", 7, "b", 19)
	d := laid(t, 5, map[int][]byte{
		5:  headRow(api.Dir, 0, len(entries), 6),
		6:  row(entries...),
		7:  headRow(api.File, 1, 3, 8),
		8:  row('a', 'b', 'c', 'd'), // the fourth is not the file's
		19: headRow(api.Link, 0, 1, 10),
		10: row('l'),
	})
	x, e := Mount(d)
	if e != api.OK {
		t.Fatal(e)
	}
	if n, e := x.Get("/a"); e != api.OK || n.Kind != api.File || !n.Exec || string(n.Data) != "abc" {
		t.Errorf("Get(/a): %v, %v", n, e)
	}
	if n, e := x.Get("/b"); e != api.OK || n.Kind != api.Link || n.Exec || string(n.Data) != "l" {
		t.Errorf("Get(/b): %v, %v", n, e)
	}
	if needs, free := x.Room(); needs != 6 || free != 9 {
		t.Errorf("Room: %d, %d", needs, free)
	}
}

func TestFaultsOnADisk(t *testing.T) {
	empty := headRow(api.File, 0, 0)
	// within tells a root with these entries, and these sectors besides.
	within := func(entries []byte, more map[int][]byte) map[int][]byte {
		rows := map[int][]byte{5: headRow(api.Dir, 0, len(entries), 6), 6: row(entries...)}
		for n, b := range more {
			rows[n] = b
		}
		return rows
	}
	mark := placeRow(5)
	mark[0] ^= 1
	behind := placeRow(5)
	behind[api.Sector-1] = 1
	unmarked := headRow(api.Dir, 0, 0)
	unmarked[0] ^= 1
	many := make([]int, 16)
	for i := range many {
		many[i] = 5 + i
	}
	for what, c := range map[string]struct {
		root int
		rows map[int][]byte
	}{
		"nothing":                         {5, nil},
		"another mark of the place":       {5, map[int][]byte{4: mark, 5: headRow(api.Dir, 0, 0)}},
		"bytes behind the place":          {5, map[int][]byte{4: behind, 5: headRow(api.Dir, 0, 0)}},
		"a root in the journal":           {0, map[int][]byte{0: headRow(api.Dir, 0, 0)}},
		"a root at the journal's end":     {3, map[int][]byte{3: headRow(api.Dir, 0, 0)}},
		"a root where its place is told":  {4, nil},
		"a root the disk does not have":   {20, nil},
		"a root far behind the disk":      {65535, nil},
		"another mark of a node":          {5, map[int][]byte{5: unmarked}},
		"a root that is a File":           {5, map[int][]byte{5: empty}},
		"a root that is a Link":           {5, map[int][]byte{5: headRow(api.Link, 0, 1, 6), 6: row('l')}},
		"a root of no kind":               {5, map[int][]byte{5: headRow(0, 0, 0)}},
		"a root of another kind":          {5, map[int][]byte{5: headRow(4, 0, 0)}},
		"a root that is Exec":             {5, map[int][]byte{5: headRow(api.Dir, 1, 0)}},
		"Exec that is neither":            {5, within(entriesOf("a", 7), map[int][]byte{7: headRow(api.File, 2, 0)})},
		"a Link that is Exec":             {5, within(entriesOf("a", 7), map[int][]byte{7: headRow(api.Link, 1, 1, 8), 8: row('l')})},
		"a Link without bytes":            {5, within(entriesOf("a", 7), map[int][]byte{7: headRow(api.Link, 0, 0)})},
		"a Link of too many bytes":        {5, within(entriesOf("a", 7), map[int][]byte{7: headRow(api.Link, 0, 1025, 8, 9, 10, 11, 12)})},
		"a node of no kind":               {5, within(entriesOf("a", 7), map[int][]byte{7: headRow(9, 0, 0)})},
		"one byte too many":               {5, within(entriesOf("a", 7), map[int][]byte{7: headRow(api.File, 0, api.MaxFile+1, many...)})},
		"as many bytes as can be told":    {5, within(entriesOf("a", 7), map[int][]byte{7: headRow(api.File, 0, 65535, many...)})},
		"more bytes than the disk has":    {5, within(entriesOf("a", 7), map[int][]byte{7: headRow(api.File, 0, api.MaxFile, 8, 9, 10, 11, 12, 13, 14, 15, 16, 17, 18, 19, 20)})},
		"bytes in the journal":            {5, within(entriesOf("a", 7), map[int][]byte{7: headRow(api.File, 0, 1, 1)})},
		"bytes where the place is told":   {5, within(entriesOf("a", 7), map[int][]byte{7: headRow(api.File, 0, 1, 4)})},
		"bytes in the node":               {5, within(entriesOf("a", 7), map[int][]byte{7: headRow(api.File, 0, 1, 7)})},
		"bytes in the directory's":        {5, within(entriesOf("a", 7), map[int][]byte{7: headRow(api.File, 0, 1, 6)})},
		"bytes twice":                     {5, within(entriesOf("a", 7), map[int][]byte{7: headRow(api.File, 0, 257, 8, 8)})},
		"bytes of another":                {5, within(entriesOf("a", 7, "b", 9), map[int][]byte{7: headRow(api.File, 0, 1, 8), 9: headRow(api.File, 0, 1, 8)})},
		"the second sector is missing":    {5, within(entriesOf("a", 7), map[int][]byte{7: headRow(api.File, 0, 257, 8)})},
		"a node twice":                    {5, within(entriesOf("a", 7, "b", 7), map[int][]byte{7: empty})},
		"a root within itself":            {5, within(entriesOf("a", 5), nil)},
		"a node that is the entries":      {5, within(entriesOf("a", 6), nil)},
		"a node the disk does not have":   {5, within(entriesOf("a", 20), nil)},
		"a node in the journal":           {5, within(entriesOf("a", 1), map[int][]byte{1: empty})},
		"a node that is none":             {5, within(entriesOf("a", 7), nil)},
		"directories within one another":  {5, within(entriesOf("a", 7), map[int][]byte{7: headRow(api.Dir, 0, 4, 8), 8: row(entriesOf("b", 5)...)})},
		"a name without bytes":            {5, within(entriesOf("", 7), map[int][]byte{7: empty})},
		"a name that is none":             {5, within(entriesOf("..", 7), map[int][]byte{7: empty})},
		"a name with a /":                 {5, within(entriesOf("a/b", 7), map[int][]byte{7: empty})},
		"a name too long":                 {5, within(entriesOf(strings.Repeat("n", 61), 7), map[int][]byte{7: empty})},
		"names out of order":              {5, within(entriesOf("b", 7, "a", 8), map[int][]byte{7: empty, 8: empty})},
		"a name twice":                    {5, within(entriesOf("a", 7, "a", 8), map[int][]byte{7: empty, 8: empty})},
		"an entry without a number":       {5, within(entriesOf("a"), nil)},
		"an entry with half of one":       {5, within(append(entriesOf("a"), 0), nil)},
		"an entry of a length alone":      {5, within([]byte{1}, nil)},
		"an entry of zeros":               {5, within([]byte{0, 0, 0}, nil)},
		"an entry beyond the directory's": {5, within([]byte{200, 'a', 'b', 0, 7}, map[int][]byte{7: empty})},
		"a byte behind the entries":       {5, within(append(entriesOf("a", 7), 0), map[int][]byte{7: empty})},
		"a fault deep within":             {5, within(entriesOf("a", 7, "b", 9), map[int][]byte{7: empty, 9: headRow(api.Dir, 0, 4, 10), 10: row(entriesOf("c", 11)...), 11: unmarked})},
	} {
		d := laid(t, c.root, c.rows)
		events := d.Events()
		if x, e := Mount(d); x != nil || e != api.ErrForm {
			t.Errorf("%s: Mount: %v, %v", what, x, e)
		}
		if d.Events() != events {
			t.Errorf("%s: Mount wrote", what)
		}
		_, used, err := lastTree(d)
		var f *fault
		if used != nil || !errors.As(err, &f) || !strings.HasPrefix(err.Error(), "tree: sector ") {
			t.Errorf("%s: %v, no fault", what, err)
		}
		if x, e := Format(d); e != api.OK || x == nil {
			t.Errorf("%s: Format: %v", what, e)
		}
		if _, e := Mount(d); e != api.OK {
			t.Errorf("%s: Mount behind Format: %v", what, e)
		}
	}
}

func TestATreeTooDeepOnADisk(t *testing.T) {
	for levels, want := range map[int]api.Errno{api.MaxDepth: api.OK, api.MaxDepth + 1: api.ErrForm, 500: api.ErrForm} {
		d, _ := block.New(api.MaxSectors)
		d.Write(placeAt, placeRow(firstAt))
		at := firstAt
		for range levels - 1 {
			d.Write(at, headRow(api.Dir, 0, 4, at+1))
			d.Write(at+1, row(entriesOf("d", at+2)...))
			at += 2
		}
		d.Write(at, headRow(api.Dir, 0, 0))
		if _, e := Mount(d); e != want {
			t.Errorf("%d levels: %v, want %v", levels, e, want)
		}
	}
}

func TestATreeOfTooManyNodesOnADisk(t *testing.T) {
	for nodes, want := range map[int]api.Errno{api.MaxNodes: api.OK, api.MaxNodes + 1: api.ErrForm} {
		d, _ := block.New(api.MaxSectors)
		var entries []byte
		for i := range nodes - 1 {
			at := 1000 + i
			d.Write(at, headRow(api.File, 0, 0))
			entries = append(entries, entriesOf(string([]byte{byte('a' + i/50), byte('A' + i%50)}), at)...)
		}
		var numbers []int
		for piece := range slices.Chunk(entries, api.Sector) {
			at := firstAt + 1 + len(numbers)
			d.Write(at, row(piece...))
			numbers = append(numbers, at)
		}
		d.Write(firstAt, headRow(api.Dir, 0, len(entries), numbers...))
		d.Write(placeAt, placeRow(firstAt))
		if _, e := Mount(d); e != want {
			t.Errorf("%d nodes: %v, want %v", nodes, e, want)
		}
	}
}

// A head with the numbers of MaxFile bytes is full, and no more than that.
func TestAHeadHasRoomForAllNumbers(t *testing.T) {
	if numbersByte+numberBytes*(api.MaxFile/api.Sector) != api.Sector {
		t.Error("another layout")
	}
}

func TestAFileOfTooManyBytesOnADisk(t *testing.T) {
	for size, want := range map[int]api.Errno{api.MaxFile: api.OK, api.MaxFile + 1: api.ErrForm, 65535: api.ErrForm} {
		d, _ := block.New(api.MaxSectors)
		d.Write(placeAt, placeRow(5))
		d.Write(5, headRow(api.Dir, 0, 4, 6))
		d.Write(6, row(entriesOf("a", 7)...))
		var numbers []int
		for i := range api.MaxFile / api.Sector {
			numbers = append(numbers, 8+i)
		}
		d.Write(7, headRow(api.File, 0, size, numbers...))
		if _, e := Mount(d); e != want {
			t.Errorf("%d bytes: %v, want %v", size, e, want)
		}
	}
}
