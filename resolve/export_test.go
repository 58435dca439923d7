package resolve

import (
	"math"

	"stillroom/api"
)

// SolveForgetful is Solve of packages and wants that may be, with all the fuel that it
// needs, but room for so many facts alone of what dead ends told.
func SolveForgetful(packs []api.Pack, wants []api.Need, most int) ([]api.Pick, api.Errno) {
	s, ok := newSearch(packs, wants)
	if !ok {
		return nil, api.ErrSolve
	}
	s.most = most
	if e := s.run(math.MaxInt); e != api.OK {
		return nil, e
	}
	return s.picks(), api.OK
}
