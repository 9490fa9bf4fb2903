package code

import (
	"slices"

	"steeple/api"
	"steeple/novel"
	"steeple/tower"
)

// Fill is the message whose word has values at places.
func (c *Code) Fill(places []int, values []api.Elem) ([]api.Elem, api.Errno) {
	if e := c.fillHindrance(places, values); e != api.OK {
		return nil, e
	}
	return novel.From(c.space, c.through(places, c.differences(places, values)))
}

// fillHindrance is what hinders places and values from having a message: places are asked about once the values' number is known, and ahead of what the values are.
func (c *Code) fillHindrance(places []int, values []api.Elem) api.Errno {
	switch {
	case c == nil:
		return api.ErrArg
	case len(places) != c.size || len(values) != c.size:
		return api.ErrSize
	}
	for _, j := range places {
		if !c.has(j) {
			return api.ErrNone
		}
	}
	seen := make([]bool, c.Long())
	for _, j := range places {
		if seen[j] {
			return api.ErrTwice
		}
		seen[j] = true
	}
	return c.hindrance(isField, values, c.size)
}

// differences are those of Newton: the factors of 1, of x less the first point, of that times x less the second one, and so on.
func (c *Code) differences(places []int, values []api.Elem) []api.Elem {
	d := slices.Clone(values)
	backs := c.inverses()
	for step := 1; step < len(d); step++ {
		for i := len(d) - 1; i >= step; i-- {
			d[i] = tower.Mul(c.Level(), tower.Add(d[i], d[i-1]), backs[places[i]^places[i-step]])
		}
	}
	return d
}

// inverses are those of all points but the first, which is zero. The sum of two points of a plain space is the one whose number is theirs, added bit by bit: so that all sums are among them.
func (c *Code) inverses() []api.Elem {
	l := make([]api.Elem, c.Long())
	for j := range l {
		l[j] = tower.Inv(c.Level(), c.space.Point(j))
	}
	return l
}

// through is the polynomial, in powers, that has these differences at the places' points.
func (c *Code) through(places []int, differences []api.Elem) []api.Elem {
	p := make([]api.Elem, len(places))
	for i, d := range slices.Backward(differences) {
		x := c.space.Point(places[i])
		// What is there has as many powers as differences behind this one; times x less the point it has one more.
		for j := len(p) - 1 - i; j > 0; j-- {
			p[j] = tower.Add(p[j-1], tower.Mul(c.Level(), p[j], x))
		}
		p[0] = tower.Add(d, tower.Mul(c.Level(), p[0], x))
	}
	return p
}
