package count

import (
	"math/bits"

	"steeple/api"
	"steeple/circuit"
	"steeple/witness"
	"steeple/zero"
)

// maxLevel is the greatest level whose elements are tried.
const maxLevel = 2

// Tries is how many tries there are.
func Tries(level int, s api.System) int {
	if level < 0 || level > maxLevel || circuit.Check(s) != api.OK {
		return 0
	}
	wide := (1 + s.Wide + s.Rows) << level
	if wide >= bits.Len(MaxTries) {
		return 0
	}
	return 1 << wide
}

// Zeros is of how many tries the zero sum is 0.
func Zeros(level int, s api.System, all [][]uint64) (int, api.Errno) {
	conds, e := circuit.Conds(s)
	if e != api.OK {
		return 0, e
	}
	if _, e := witness.Holds(s, all); e != api.OK {
		return 0, e
	}
	if Tries(level, s) == 0 || len(s.Gates) == 0 {
		return 0, api.ErrArg
	}
	tables, e := witness.Tables(s, all)
	if e != api.OK {
		return 0, e
	}
	vars := s.Wide + s.Rows
	// What hinders one try hinders all.
	if _, e := zero.Sum(level, conds, tables, api.Elem{}, point(level, vars, 0)); e != api.OK {
		return 0, e
	}
	many := 0
	for a := range size(level) {
		n, e := zeros(level, vars, conds, tables, api.Elem{Lo: uint64(a)})
		if e != api.OK {
			return 0, e
		}
		many += n
	}
	return many, api.OK
}

// Bound is of how many tries the zero sum is 0 at most, if columns do not hold.
func Bound(level int, s api.System) int {
	conds, e := circuit.Conds(s)
	tries := Tries(level, s)
	if e != api.OK || tries == 0 {
		return 0
	}
	return (len(conds) - 1 + s.Wide + s.Rows) * (tries / size(level))
}

// size is how many elements a level has.
func size(level int) int {
	return 1 << (1 << level)
}

// point is the point of so many variables whose elements are the digits of a number, the lowest first.
func point(level, vars, n int) []api.Elem {
	p := make([]api.Elem, vars)
	for j := range p {
		p[j].Lo = uint64(n % size(level))
		n /= size(level)
	}
	return p
}

// zeros is of how many of all points the zero sum for one a is 0.
func zeros(level, vars int, conds [][]api.Op, tables [][]api.Elem, a api.Elem) (int, api.Errno) {
	// The conditions are mixed once for all points: the zero sum is that of a lone condition over what they are mixed to.
	mix, e := mixed(level, conds, tables, a)
	if e != api.OK {
		return 0, e
	}
	lone := [][]api.Op{{{Kind: api.OpVar}}}
	many := 0
	for n := range 1 << (vars << level) {
		sum, e := zero.Sum(level, lone, [][]api.Elem{mix}, api.Elem{}, point(level, vars, n))
		if e != api.OK {
			return 0, e
		}
		if sum == (api.Elem{}) {
			many++
		}
	}
	return many, api.OK
}

// mixed is the table of the conditions' values, each times its power of a, added.
func mixed(level int, conds [][]api.Op, tables [][]api.Elem, a api.Elem) ([]api.Elem, api.Errno) {
	mix := make([]api.Elem, len(tables[0]))
	v := make([]api.Elem, len(tables))
	for i := range mix {
		for k, t := range tables {
			v[k] = t[i]
		}
		value, e := zero.Value(level, conds, v, a, api.Elem{Lo: 1})
		if e != api.OK {
			return nil, e
		}
		mix[i] = value
	}
	return mix, api.OK
}
