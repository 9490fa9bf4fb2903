package trial

import (
	"steeple/api"
	"steeple/circuit"
	"steeple/claim"
	"steeple/cube"
	"steeple/pcs"
	"steeple/ring"
	"steeple/sumcheck"
	"steeple/tower"
	"steeple/turn"
	"steeple/zero"
)

// Steps are the steps, in order: each tells whether it holds.
func (c *Trial) Steps() []func() bool {
	return []func() bool{c.zero, c.claims, c.value, c.batch, c.opening}
}

// zero tells whether Zero leads the claim 0 to the conditions' value.
func (c *Trial) zero() bool {
	led, e := sumcheck.Verify(c.plan.Level, c.plan.Degree, api.Elem{}, c.proof.Zero, c.asked.Z)
	if e != api.OK {
		return false
	}
	conds, e := circuit.Conds(c.system)
	if e != api.OK {
		return false
	}
	wires, e := c.wires()
	if e != api.OK {
		return false
	}
	weight := cube.Alike(c.plan.Level, c.asked.Rho, c.asked.Z)
	value, e := zero.Value(c.plan.Level, conds, wires, c.asked.A, weight)
	return e == api.OK && value == led
}

// claims tells whether Claim leads the total of the hidden wires to what Value says.
func (c *Trial) claims() bool {
	level, a := c.plan.Level, c.asked
	told := make([]api.Claim, len(c.hidden))
	for i, wire := range c.hidden {
		told[i] = wire
		told[i].Val = c.proof.Wires[i]
	}
	total, e := claim.Total(level, told, a.B)
	if e != api.OK {
		return false
	}
	mask, e := claim.At(level, c.system.Cols, c.system.Wide, c.hidden, a.Z[:c.system.Wide], a.B, a.Q)
	return e == api.OK && c.leads(c.proof.Claim, a.Q, total, c.proof.Value, mask)
}

// value tells whether Parts say Value.
func (c *Trial) value() bool {
	value, e := ring.Value(c.plan.Level, c.proof.Parts, c.asked.Point[:c.plan.Level])
	return e == api.OK && value == c.proof.Value
}

// batch tells whether Ring leads Parts, batched, to what Packed says.
func (c *Trial) batch() bool {
	level, a := c.plan.Level, c.asked
	batched, e := ring.Batch(level, c.proof.Parts, a.R)
	if e != api.OK {
		return false
	}
	mask, e := ring.At(level, a.Point[level:], a.R, a.U)
	return e == api.OK && c.leads(c.proof.Ring, a.U, batched, c.proof.Packed, mask)
}

// opening tells whether Root is opened at Packed.
func (c *Trial) opening() bool {
	return pcs.Check(c.tables, c.plan.Grid, c.proof.Root, c.asked.U, c.proof.Packed, c.asked.Places, c.proof.Open) == api.OK
}

// leads tells whether rounds lead a claim to the product of two values.
func (c *Trial) leads(rounds [][]api.Elem, point []api.Elem, from, a, b api.Elem) bool {
	led, e := sumcheck.Verify(c.plan.Level, factors, from, rounds, point)
	return e == api.OK && led == tower.Mul(c.plan.Level, a, b)
}

// wires are the values of all wires: those of hidden ones as the proof tells them, those of public ones reckoned.
func (c *Trial) wires() ([]api.Elem, api.Errno) {
	wires, e := circuit.Wires(c.system)
	if e != api.OK {
		return nil, e
	}
	told := c.proof.Wires
	values := make([]api.Elem, len(wires))
	for i, wire := range wires {
		if wire.Col >= c.system.Public {
			values[i], told = told[0], told[1:]
			continue
		}
		if values[i], e = c.publicValue(wire); e != api.OK {
			return nil, e
		}
	}
	return values, api.OK
}

// publicValue is the value of a public wire.
func (c *Trial) publicValue(wire api.Claim) (api.Elem, api.Errno) {
	bits, e := turn.Bits(wire.Kind, c.system.Wide, wire.S, bitsOf(c.system.Wide, c.public[wire.Col]))
	if e != api.OK {
		return api.Elem{}, e
	}
	table := make([]api.Elem, len(bits))
	for i, bit := range bits {
		if bit {
			table[i] = tower.One()
		}
	}
	return cube.At(c.plan.Level, table, c.asked.Z)
}

// bitsOf are the bits of a column of words.
func bitsOf(wide int, column []uint64) []bool {
	var bits []bool
	for _, word := range column {
		for i := range 1 << wide {
			bits = append(bits, word>>i&1 == 1)
		}
	}
	return bits
}
