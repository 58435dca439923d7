package resolve

import (
	"slices"
	"strings"

	"stillroom/api"
	"stillroom/index"
)

// choice is what a name has: by the name's place among all names, which rise, and by
// a place among what it may have, the better ahead: 0 is nothing, and behind it come
// its versions, the greatest first. So of two solutions the better one is the one
// whose place is less at the first name at which they are unlike.
type choice struct{ name, place int }

// stock is what may be chosen.
type stock struct {
	names    []string
	versions [][]string
	// parted keeps what was asked once: many packages have the same needs.
	parted map[api.Need]parts
}

// parts is the choices of a name, parted by whether they meet a need.
type parts struct{ met, unmet []choice }

// newStock tells what may be chosen of packages.
func newStock(packs []api.Pack) stock {
	st := stock{parted: map[api.Need]parts{}}
	for _, p := range packs {
		st.names = append(st.names, p.Name)
	}
	slices.Sort(st.names)
	st.names = slices.Compact(st.names)
	for _, name := range st.names {
		st.versions = append(st.versions, index.Versions(packs, name))
	}
	return st
}

// choice tells the choice that a package is.
func (st stock) choice(p api.Pack) choice {
	name, _ := slices.BinarySearch(st.names, p.Name)
	return choice{name, 1 + slices.Index(st.versions[name], p.Version)}
}

// pick tells what was chosen, which must not be nothing.
func (st stock) pick(c choice) api.Pick {
	return api.Pick{Name: strings.Clone(st.names[c.name]), Version: st.versions[c.name][c.place-1]}
}

// part parts the choices of the name that is needed; there are none if no package
// has it.
func (st stock) part(n api.Need) parts {
	p, known := st.parted[n]
	if known {
		return p
	}
	name, there := slices.BinarySearch(st.names, n.Name)
	if !there {
		return parts{}
	}
	isMet := sought(n)
	p.unmet = append(p.unmet, choice{name, 0})
	for i, text := range st.versions[name] {
		c := choice{name, i + 1}
		if isMet(text) {
			p.met = append(p.met, c)
		} else {
			p.unmet = append(p.unmet, c)
		}
	}
	st.parted[n] = p
	return p
}
