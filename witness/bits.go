package witness

import (
	"iter"

	"steeple/api"
	"steeple/circuit"
	"steeple/turn"
)

// Bits are the bits of columns.
func Bits(s api.System, all [][]uint64) ([]bool, api.Errno) {
	if e := hindrance(s, all); e != api.OK {
		return nil, e
	}
	return bitsOf(s.Wide, all), api.OK
}

// Words are the columns that have bits.
func Words(s api.System, bits []bool) ([][]uint64, api.Errno) {
	if e := circuit.Check(s); e != api.OK {
		return nil, e
	}
	if len(bits) != 1<<circuit.Vars(s) {
		return nil, api.ErrSize
	}
	all := noughts(s)
	for i, at := range places(s.Wide, all) {
		if bits[i] {
			all[at.col][at.row] |= 1 << at.bit
		}
	}
	return all, api.OK
}

// Wire is the bits of a wire.
func Wire(s api.System, all [][]uint64, w api.Claim) ([]bool, api.Errno) {
	if e := hindrance(s, all); e != api.OK {
		return nil, e
	}
	if w.Col < 0 || w.Col >= len(all) {
		return nil, api.ErrNone
	}
	return turn.Bits(w.Kind, s.Wide, w.S, bitsOf(s.Wide, all[w.Col:w.Col+1]))
}

// Tables are the wires' bits as 0 and 1.
func Tables(s api.System, all [][]uint64) ([][]api.Elem, api.Errno) {
	if e := hindrance(s, all); e != api.OK {
		return nil, e
	}
	wires, e := circuit.Wires(s)
	if e != api.OK {
		return nil, e
	}
	tables := make([][]api.Elem, len(wires))
	for i, w := range wires {
		bits, e := Wire(s, all, w)
		if e != api.OK {
			return nil, e
		}
		tables[i] = elems(bits)
	}
	return tables, api.OK
}

// place is where a bit stands.
type place struct {
	col, row, bit int
}

// places yields the places of all bits of columns, each with its number in their table.
func places(wide int, cols [][]uint64) iter.Seq2[int, place] {
	return func(yield func(int, place) bool) {
		i := 0
		for k, col := range cols {
			for x := range col {
				for y := range 1 << wide {
					if !yield(i, place{k, x, y}) {
						return
					}
					i++
				}
			}
		}
	}
}

// bitsOf are the bits of some columns, as one table.
func bitsOf(wide int, cols [][]uint64) []bool {
	var bits []bool
	for _, at := range places(wide, cols) {
		bits = append(bits, cols[at.col][at.row]>>at.bit&1 == 1)
	}
	return bits
}

// elems are bits as elements.
func elems(bits []bool) []api.Elem {
	out := make([]api.Elem, len(bits))
	for i, bit := range bits {
		if bit {
			out[i].Lo = 1
		}
	}
	return out
}
