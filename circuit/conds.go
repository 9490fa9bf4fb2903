package circuit

import (
	"slices"

	"steeple/api"
	"steeple/turn"
	"steeple/zero"
)

// Wires are the wires of a system.
func Wires(s api.System) ([]api.Claim, api.Errno) {
	l, e := laid(s)
	return l.wires, e
}

// Conds are the conditions of a system.
func Conds(s api.System) ([][]api.Op, api.Errno) {
	l, e := laid(s)
	return l.conds, e
}

// layout is the wires of a system, and what is asked of them.
type layout struct {
	wires []api.Claim
	conds [][]api.Op
}

// laid is the layout of a system.
func laid(s api.System) (layout, api.Errno) {
	if e := Check(s); e != api.OK {
		return layout{}, e
	}
	var l layout
	for _, g := range s.Gates {
		var x []int
		for _, wire := range wiresOf(s.Wide, g) {
			x = append(x, l.number(wire))
		}
		l.conds = append(l.conds, condsOf(g.Kind, x)...)
	}
	if len(l.conds) > zero.MaxConds {
		return layout{}, api.ErrLong
	}
	return l, api.OK
}

// number is the number of a wire, which comes up now, if it has not yet.
func (l *layout) number(wire api.Claim) int {
	if i := slices.Index(l.wires, wire); i >= 0 {
		return i
	}
	l.wires = append(l.wires, wire)
	return len(l.wires) - 1
}

// wiresOf are the wires of a gate, as they come up.
func wiresOf(wide int, g api.Gate) []api.Claim {
	d, a, b := api.Claim{Col: g.Dst}, api.Claim{Col: g.A}, api.Claim{Col: g.B}
	switch g.Kind {
	case api.GateSame:
		return []api.Claim{a, b}
	case api.GateNot:
		return []api.Claim{d, a}
	case api.GateLeft, api.GateRight, api.GateRound:
		return []api.Claim{d, {Col: g.A, Kind: turnOf(g.Kind), S: g.S}}
	case api.GateAdd:
		k, m := api.Claim{Col: g.S}, api.Claim{Col: g.S, Kind: turn.Left, S: 1}
		if wide == 0 {
			return []api.Claim{d, a, b, k}
		}
		return []api.Claim{d, a, b, k, m}
	}
	return []api.Claim{d, a, b}
}

// condsOf are the conditions of a gate of a kind, whose wires have the numbers x, as they came up.
func condsOf(kind int, x []int) [][]api.Op {
	var cond steps
	switch kind {
	case api.GateAdd:
		return [][]api.Op{sumOf(x), carryOf(x)}
	case api.GateAnd:
		cond.add(cond.wire(x[0]), cond.mul(cond.wire(x[1]), cond.wire(x[2])))
	case api.GateNot:
		cond.add(cond.sum(x...), cond.one())
	default:
		cond.sum(x...)
	}
	return [][]api.Op{cond}
}

// sumOf is the condition of the sum of GateAdd: m, where there is one, is behind the first four of its wires.
func sumOf(x []int) steps {
	var cond steps
	cond.sum(slices.Concat(x[:3], x[4:])...)
	return cond
}

// carryOf is the condition of the carries of GateAdd.
func carryOf(x []int) steps {
	var cond steps
	a, b, k := x[1], x[2], x[3]
	at := cond.add(cond.wire(k), cond.mul(cond.wire(a), cond.wire(b)))
	for _, m := range x[4:] {
		cond.add(at, cond.mul(cond.wire(m), cond.sum(a, b)))
	}
	return cond
}

// steps are those of a condition, as far as it is put together; each call answers the number of the step that it adds last.
type steps []api.Op

// put adds a step.
func (l *steps) put(op api.Op) int {
	*l = append(*l, op)
	return len(*l) - 1
}

// wire adds a wire.
func (l *steps) wire(n int) int {
	return l.put(api.Op{Kind: api.OpVar, A: n})
}

// one adds the element 1.
func (l *steps) one() int {
	return l.put(api.Op{Kind: api.OpConst, Val: api.Elem{Lo: 1}})
}

// add adds the sum of two steps.
func (l *steps) add(a, b int) int {
	return l.put(api.Op{Kind: api.OpAdd, A: a, B: b})
}

// mul adds the product of two steps.
func (l *steps) mul(a, b int) int {
	return l.put(api.Op{Kind: api.OpMul, A: a, B: b})
}

// sum adds some wires, and their sum from the left.
func (l *steps) sum(wires ...int) int {
	at := l.wire(wires[0])
	for _, n := range wires[1:] {
		at = l.add(at, l.wire(n))
	}
	return at
}
