package gadget

import (
	"math/bits"

	"steeple/api"
)

// builder lays the columns and gates of a system; its calls answer the number of the column that they lay.
type builder struct {
	system api.System
	names  []string
}

// start is a builder of a system without columns.
func start(wide, rows int) *builder {
	return &builder{system: api.System{Wide: wide, Rows: rows}}
}

// end is the system, with just as many columns as it needs, and its names.
func (l *builder) end() (api.System, []string, api.Errno) {
	l.system.Cols = bits.Len(uint(len(l.names) - 1))
	return l.system, l.names, api.OK
}

// column lays the next column.
func (l *builder) column(name string) int {
	l.names = append(l.names, name)
	return len(l.names) - 1
}

// public lays a column that is known to all.
func (l *builder) public(name string) int {
	l.system.Public++
	return l.column(name)
}

// private lays a column that is given.
func (l *builder) private(name string) int {
	l.system.Private++
	return l.column(name)
}

// gate lays a gate.
func (l *builder) gate(g api.Gate) {
	l.system.Gates = append(l.system.Gates, g)
}

// making lays a gate that makes one column, and that column.
func (l *builder) making(name string, g api.Gate) int {
	g.Dst = l.column(name)
	l.gate(g)
	return g.Dst
}

// xor lays the exclusive or of two columns.
func (l *builder) xor(name string, a, b int) int {
	return l.making(name, api.Gate{Kind: api.GateXor, A: a, B: b})
}

// and lays the and of two columns.
func (l *builder) and(name string, a, b int) int {
	return l.making(name, api.Gate{Kind: api.GateAnd, A: a, B: b})
}

// not lays a column each of whose bits is not that of another one.
func (l *builder) not(name string, a int) int {
	return l.making(name, api.Gate{Kind: api.GateNot, A: a})
}

// round lays a column turned round to the left, by an amount modulo the bits of a word.
func (l *builder) round(name string, a, by int) int {
	n := 1 << l.system.Wide
	return l.making(name, api.Gate{Kind: api.GateRound, A: a, S: by % n})
}

// add lays the sum of two columns, and its carries behind it.
func (l *builder) add(name, carry string, a, b int) int {
	sum := l.column(name)
	l.gate(api.Gate{Kind: api.GateAdd, Dst: sum, A: a, B: b, S: l.column(carry)})
	return sum
}

// same asks that two columns are the same.
func (l *builder) same(a, b int) {
	l.gate(api.Gate{Kind: api.GateSame, A: a, B: b})
}
