// Package trial is what layers 31 and 34 share: what is asked of a proof, and the steps that must hold for it to be accepted.
package trial

import (
	"slices"

	"steeple/api"
	"steeple/octet"
	"steeple/perm"
	"steeple/prove"
	"steeple/talk"
)

// factors is how many tables Claim and Ring multiply: the degree of their rounds.
const factors = 2

// Asked is what was asked of a proof, and the point of all variables.
type Asked struct {
	A      api.Elem
	B      api.Elem
	Rho    []api.Elem
	Z      []api.Elem
	Q      []api.Elem
	R      []api.Elem
	U      []api.Elem
	Places []int
	Point  []api.Elem
}

// Trial is a proof that fits, what it is to prove, and what was asked of it.
type Trial struct {
	plan   prove.Plan
	tables *perm.Tables
	system api.System
	public [][]uint64
	hidden []api.Claim
	proof  api.Proof
	asked  Asked
}

// Open is the trial of a proof, or what hinders one: the errors of verify.Check, but ErrProof. It looks at what it was handed as long as it lasts, so it is not to outlast the call that opens it.
func Open(t *perm.Tables, p api.Params, s api.System, public [][]uint64, x api.Proof) (*Trial, api.Errno) {
	k, e := prove.Begin(t, p, s, public, x.Root)
	if e != api.OK {
		return nil, e
	}
	if slices.ContainsFunc(public, func(col []uint64) bool { return slices.Max(col) > greatest(s.Wide) }) {
		return nil, api.ErrField
	}
	plan, e := prove.Shape(p, s)
	if e != api.OK {
		return nil, e
	}
	hidden, e := prove.Hidden(s)
	if e != api.OK {
		return nil, e
	}
	c := &Trial{plan: plan, tables: t, system: s, public: public, hidden: hidden, proof: x}
	if !c.fits() {
		return nil, api.ErrSize
	}
	c.ask(k, p.Queries)
	return c, api.OK
}

// Asked is what was asked.
func (c *Trial) Asked() Asked {
	return c.asked
}

// fits tells whether the proof fits the plan.
func (c *Trial) fits() bool {
	x, s, level := c.proof, c.system, c.plan.Level
	if !sized(x.Zero, c.plan.Corners, c.plan.Degree+1) ||
		!sized(x.Claim, s.Wide+s.Cols, factors+1) ||
		!sized(x.Ring, c.plan.Vars-level, factors+1) ||
		len(x.Wires) != len(c.hidden) || len(x.Parts) != 1<<level {
		return false
	}
	return eachOf(level, x.Zero...) && eachOf(level, x.Claim...) && eachOf(level, x.Ring...) && eachOf(level, x.Open.Cols...) &&
		eachOf(level, x.Wires, x.Parts, x.Open.Row, []api.Elem{x.Value, x.Packed})
}

// ask hears the proof's parts, and keeps what is asked behind each.
func (c *Trial) ask(k *talk.Talk, queries int) {
	level, x, a := c.plan.Level, c.proof, &c.asked
	say := func(label string, l ...api.Elem) {
		// What is too long to be said is left out: a Row as long as that is not accepted, whatever places are asked.
		k.Say(label, octet.Elems(level, l))
	}
	answers := func(label string, rounds [][]api.Elem) []api.Elem {
		var point []api.Elem
		for _, values := range rounds {
			say(label, values...)
			point = append(point, k.Elem(level))
		}
		return point
	}
	a.A = k.Elem(level)
	a.Rho = k.Elems(level, c.plan.Corners)
	a.Z = answers("zero", x.Zero)
	say("wires", x.Wires...)
	a.B = k.Elem(level)
	a.Q = answers("claim", x.Claim)
	say("value", x.Value)
	say("parts", x.Parts...)
	a.R = k.Elems(level, level)
	a.U = answers("ring", x.Ring)
	say("packed", x.Packed)
	say("row", x.Open.Row...)
	a.Places = k.Places(c.plan.Grid.Cols+c.plan.Grid.Rate, queries)
	a.Point = slices.Concat(a.Q[:c.system.Wide], a.Z[c.system.Wide:], a.Q[c.system.Wide:])
}

// greatest is the greatest word: all of its bits are 1.
func greatest(wide int) uint64 {
	return 1<<(1<<wide) - 1
}

// sized tells whether there are so many rounds, each of so many values.
func sized(rounds [][]api.Elem, many, long int) bool {
	return len(rounds) == many && !slices.ContainsFunc(rounds, func(values []api.Elem) bool { return len(values) != long })
}

// eachOf tells whether all elements of lists are of a level.
func eachOf(level int, lists ...[]api.Elem) bool {
	for _, l := range lists {
		for _, e := range l {
			if !octet.Of(level, e) {
				return false
			}
		}
	}
	return true
}
