package sumcheck

import (
	"steeple/api"
	"steeple/line"
	"steeple/octet"
)

// Verify is the claim behind the last round.
func Verify(level, d int, claim api.Elem, rounds [][]api.Elem, r []api.Elem) (api.Elem, api.Errno) {
	if e := hindrance(level, d, claim, rounds, r); e != api.OK {
		return api.Elem{}, e
	}
	for i := range len(r) {
		if line.Ends(rounds[i]) != claim {
			return api.Elem{}, api.ErrProof
		}
		next, e := line.At(level, rounds[i], r[i])
		if e != api.OK {
			return api.Elem{}, e
		}
		claim = next
	}
	return claim, api.OK
}

// hindrance is what hinders rounds from being held against a claim at all.
func hindrance(level, d int, claim api.Elem, rounds [][]api.Elem, r []api.Elem) api.Errno {
	switch {
	case d < 1 || !line.Fits(level, d):
		return api.ErrArg
	case len(rounds) != len(r) || !allLong(rounds, d+1):
		return api.ErrSize
	case !octet.Of(level, claim) || !allOf(level, r):
		return api.ErrField
	}
	for _, v := range rounds {
		if !allOf(level, v) {
			return api.ErrField
		}
	}
	return api.OK
}

// allLong tells whether all lists have n elements.
func allLong(lists [][]api.Elem, n int) bool {
	for _, l := range lists {
		if len(l) != n {
			return false
		}
	}
	return true
}
