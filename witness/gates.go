package witness

import (
	"steeple/api"
	"steeple/turn"
)

// run puts what a gate makes into its columns.
func run(wide int, g api.Gate, all [][]uint64) {
	for x := range all[g.Dst] {
		a, b := all[g.A][x], all[g.B][x]
		all[g.Dst][x] = made(wide, g, a, b)
		if g.Kind == api.GateAdd {
			all[g.S][x] = carries(a, b)
		}
	}
}

// holds tells whether a gate holds.
func holds(wide int, g api.Gate, all [][]uint64) bool {
	for x := range all[g.Dst] {
		a, b := all[g.A][x], all[g.B][x]
		switch {
		case g.Kind == api.GateSame:
			if a != b {
				return false
			}
		case all[g.Dst][x] != made(wide, g, a, b):
			return false
		case g.Kind == api.GateAdd && all[g.S][x] != carries(a, b):
			return false
		}
	}
	return true
}

// made is what a gate makes of two words.
func made(wide int, g api.Gate, a, b uint64) uint64 {
	switch g.Kind {
	case api.GateXor:
		return a ^ b
	case api.GateAnd:
		return a & b
	case api.GateNot:
		return a ^ greatest(wide)
	case api.GateLeft:
		return turned(turn.Left, wide, g.S, a)
	case api.GateRight:
		return turned(turn.Right, wide, g.S, a)
	case api.GateRound:
		return turned(turn.Round, wide, g.S, a)
	case api.GateAdd:
		return (a + b) & greatest(wide)
	}
	return 0
}

// carries are those of a sum of two words of 32 bits at most. The sum without its carries is the exclusive or: where it parts from the sum, a carry came in from the bit below.
func carries(a, b uint64) uint64 {
	return (a ^ b ^ (a + b)) >> 1
}

// turned is a word turned.
func turned(kind, wide, by int, word uint64) uint64 {
	var out uint64
	for i := range 1 << wide {
		if from := turn.From(kind, wide, by, i); from >= 0 {
			out |= word >> from & 1 << i
		}
	}
	return out
}
