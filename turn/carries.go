package turn

import (
	"steeple/api"
	"steeple/tower"
)

// carries are the signs of the lower bits alone, by the carry that they hand on: a turn to the left or round adds s to the number of a bit that was, one to the right adds it to the number of a bit that is, and adding goes from the lowest bit up.
type carries [2]api.Elem

// start is what stands below the lowest bit: no carry comes from there.
func start() carries {
	return carries{tower.One(), api.Elem{}}
}

// next takes one more bit in: bit is that of s, x and y are the sides of the points.
func (c carries) next(level, kind, bit int, x, y [2]api.Elem) carries {
	from, to := y, x
	if kind == Right {
		from, to = x, y
	}
	var out carries
	for carry := range c {
		for b := range from {
			sum := b + bit + carry
			both := tower.Mul(level, from[b], to[sum&1])
			out[sum>>1] = tower.Add(out[sum>>1], tower.Mul(level, c[carry], both))
		}
	}
	return out
}

// sign is the sign of all bits: what is carried out of a word is lost, and the bit with it, but in a turn round, which goes on at the beginning.
func (c carries) sign(kind int) api.Elem {
	if kind == Round {
		return tower.Add(c[0], c[1])
	}
	return c[0]
}

// sides are the weights of 0 and of 1 at an element.
func sides(x api.Elem) [2]api.Elem {
	return [2]api.Elem{tower.Add(tower.One(), x), x}
}
