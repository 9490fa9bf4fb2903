package judge_test

import (
	"slices"

	"steeple/api"
	"steeple/circuit"
	"steeple/claim"
	"steeple/cube"
	"steeple/expr"
	"steeple/judge"
	"steeple/line"
	"steeple/octet"
	"steeple/pcs"
	"steeple/perm"
	"steeple/proof"
	"steeple/prove"
	"steeple/ring"
	"steeple/talk"
	"steeple/tower"
	"steeple/witness"
)

// model tells of a proof that fits what was asked of it, and which steps hold, by the words of the document: masks as whole tables, sums over all corners.
type model struct {
	t      *perm.Tables
	p      api.Params
	s      api.System
	public [][]uint64
	x      api.Proof
	plan   prove.Plan
	hidden []api.Claim
	asked  judge.Asked
}

// newModel asks what is asked.
func newModel(t *perm.Tables, p api.Params, s api.System, public [][]uint64, x api.Proof) *model {
	m := &model{t: t, p: p, s: s, public: public, x: x}
	m.plan, _ = prove.Shape(p, s)
	m.hidden, _ = prove.Hidden(s)
	k := talk.New(t, "steeple")
	params, _ := proof.Params(p)
	system, _ := proof.System(s)
	words, _ := proof.Words(public)
	k.Say("params", params)
	k.Say("system", system)
	k.Say("public", words)
	k.Say("root", x.Root)
	a := &m.asked
	a.A = k.Elem(p.Level)
	a.Rho = k.Elems(p.Level, s.Wide+s.Rows)
	for _, v := range x.Zero {
		k.Say("zero", octet.Elems(p.Level, v))
		a.Z = append(a.Z, k.Elem(p.Level))
	}
	k.Say("wires", octet.Elems(p.Level, x.Wires))
	a.B = k.Elem(p.Level)
	for _, v := range x.Claim {
		k.Say("claim", octet.Elems(p.Level, v))
		a.Q = append(a.Q, k.Elem(p.Level))
	}
	k.Say("value", octet.Elems(p.Level, []api.Elem{x.Value}))
	k.Say("parts", octet.Elems(p.Level, x.Parts))
	a.R = k.Elems(p.Level, p.Level)
	for _, v := range x.Ring {
		k.Say("ring", octet.Elems(p.Level, v))
		a.U = append(a.U, k.Elem(p.Level))
	}
	k.Say("packed", octet.Elems(p.Level, []api.Elem{x.Packed}))
	k.Say("row", octet.Elems(p.Level, x.Open.Row))
	a.Places = k.Places(m.plan.Grid.Cols+m.plan.Grid.Rate, p.Queries)
	a.Point = slices.Concat(a.Q[:s.Wide], a.Z[s.Wide:], a.Q[s.Wide:])
	return m
}

// step is the first step that does not hold, or 0.
func (m *model) step() int {
	for i, holds := range []bool{m.zero(), m.claim(), m.value(), m.ring(), m.open()} {
		if !holds {
			return i + 1
		}
	}
	return 0
}

// led tells whether rounds lead one claim to another one.
func (m *model) led(from api.Elem, rounds [][]api.Elem, point []api.Elem, to api.Elem) bool {
	for i, v := range rounds {
		if tower.Add(v[0], v[1]) != from {
			return false
		}
		from, _ = line.At(m.p.Level, v, point[i])
	}
	return from == to
}

// at is the value of a table at a point: the sum over all corners of weight times element.
func (m *model) at(table, point []api.Elem) api.Elem {
	return tower.Dot(m.p.Level, table, cube.Weights(m.p.Level, point))
}

// zero is step 1.
func (m *model) zero() bool {
	wires, _ := circuit.Wires(m.s)
	conds, _ := circuit.Conds(m.s)
	columns := make([][]uint64, 1<<m.s.Cols)
	for k := range columns {
		columns[k] = make([]uint64, 1<<m.s.Rows)
		if k < m.s.Public {
			columns[k] = m.public[k]
		}
	}
	var values []api.Elem
	told := 0
	for _, w := range wires {
		if w.Col >= m.s.Public {
			values = append(values, m.x.Wires[told])
			told++
			continue
		}
		bits, _ := witness.Wire(m.s, columns, w)
		table := make([]api.Elem, len(bits))
		for i, is := range bits {
			if is {
				table[i].Lo = 1
			}
		}
		values = append(values, m.at(table, m.asked.Z))
	}
	var sum api.Elem
	for j, cond := range conds {
		v, _ := expr.Eval(m.p.Level, cond, values)
		sum = tower.Add(sum, tower.Mul(m.p.Level, tower.Pow(m.p.Level, m.asked.A, uint64(j)), v))
	}
	weight := m.at(cube.Weights(m.p.Level, m.asked.Rho), m.asked.Z)
	return m.led(api.Elem{}, m.x.Zero, m.asked.Z, tower.Mul(m.p.Level, sum, weight))
}

// claim is step 2.
func (m *model) claim() bool {
	var total api.Elem
	for j, v := range m.x.Wires {
		total = tower.Add(total, tower.Mul(m.p.Level, tower.Pow(m.p.Level, m.asked.B, uint64(j)), v))
	}
	mask, _ := claim.Mask(m.p.Level, m.s.Cols, m.s.Wide, m.hidden, m.asked.Z[:m.s.Wide], m.asked.B)
	return m.led(total, m.x.Claim, m.asked.Q, tower.Mul(m.p.Level, m.x.Value, m.at(mask, m.asked.Q)))
}

// value is step 3.
func (m *model) value() bool {
	return m.at(m.x.Parts, m.asked.Point[:m.p.Level]) == m.x.Value
}

// ring is step 4.
func (m *model) ring() bool {
	weights := cube.Weights(m.p.Level, m.asked.R)
	var batched api.Elem
	for u, weight := range weights {
		for v, part := range m.x.Parts {
			if tower.Bits(m.p.Level, part)[u] {
				batched = tower.Add(batched, tower.Mul(m.p.Level, weight, tower.Bit(v)))
			}
		}
	}
	mask, _ := ring.Mask(m.p.Level, m.asked.Point[m.p.Level:], m.asked.R)
	return m.led(batched, m.x.Ring, m.asked.U, tower.Mul(m.p.Level, m.x.Packed, m.at(mask, m.asked.U)))
}

// open is step 5.
func (m *model) open() bool {
	return pcs.Check(m.t, m.plan.Grid, m.x.Root, m.asked.U, m.x.Packed, m.asked.Places, m.x.Open) == api.OK
}
