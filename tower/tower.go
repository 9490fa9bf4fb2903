// Package tower is layer 2: see shared/doc/02-tower.md.
package tower

import (
	"math/bits"

	"steeple/api"
	"steeple/octet"
)

// Add is a sum.
func Add(a, b api.Elem) api.Elem {
	return api.Elem{Hi: a.Hi ^ b.Hi, Lo: a.Lo ^ b.Lo}
}

// Sum is all added.
func Sum(l ...api.Elem) api.Elem {
	var sum api.Elem
	for _, e := range l {
		sum = Add(sum, e)
	}
	return sum
}

// One is 1.
func One() api.Elem {
	return api.Elem{Lo: 1}
}

// Bit is the element with one bit.
func Bit(n int) api.Elem {
	switch {
	case n < 0 || n > 127:
		return api.Elem{}
	case n < 64:
		return api.Elem{Lo: 1 << n}
	default:
		return api.Elem{Hi: 1 << (n - 64)}
	}
}

// X is the generator of a level.
func X(level int) api.Elem {
	switch {
	case level < 0 || level > api.MaxLevel:
		return api.Elem{}
	case level == 0:
		return One()
	default:
		return Bit(1 << (level - 1))
	}
}

// Mul is a product.
func Mul(level int, a, b api.Elem) api.Elem {
	if !octet.Of(level, a) || !octet.Of(level, b) {
		return api.Elem{}
	}
	return product(a, b)
}

// MulX is an element times the generator.
func MulX(level int, a api.Elem) api.Elem {
	if !octet.Of(level, a) {
		return api.Elem{}
	}
	if level == api.MaxLevel {
		return api.Elem{Hi: a.Lo ^ timesX6(a.Hi), Lo: a.Hi}
	}
	return api.Elem{Lo: timesX(level, a.Lo)}
}

// Square is an element times itself.
func Square(level int, a api.Elem) api.Elem {
	if !octet.Of(level, a) {
		return api.Elem{}
	}
	return square(a)
}

// Inv is the inverse.
func Inv(level int, a api.Elem) api.Elem {
	if !octet.Of(level, a) {
		return api.Elem{}
	}
	return inverse(a)
}

// Div is a quotient.
func Div(level int, a, b api.Elem) api.Elem {
	return Mul(level, a, Inv(level, b))
}

// Pow is a power.
func Pow(level int, a api.Elem, n uint64) api.Elem {
	if !octet.Of(level, a) {
		return api.Elem{}
	}
	power := One()
	for i := range bits.Len64(n) {
		if n>>i&1 == 1 {
			power = product(power, a)
		}
		a = square(a)
	}
	return power
}

// Split is the halves of an element.
func Split(level int, a api.Elem) (hi, lo api.Elem) {
	switch {
	case level < 1 || !octet.Of(level, a):
		return api.Elem{}, api.Elem{}
	case level == api.MaxLevel:
		return api.Elem{Lo: a.Hi}, api.Elem{Lo: a.Lo}
	default:
		half := 1 << (level - 1)
		return api.Elem{Lo: a.Lo >> half}, api.Elem{Lo: a.Lo & (1<<half - 1)}
	}
}

// Join is the element of halves.
func Join(level int, hi, lo api.Elem) api.Elem {
	switch {
	case level > api.MaxLevel || !octet.Of(level-1, hi) || !octet.Of(level-1, lo):
		return api.Elem{}
	case level == api.MaxLevel:
		return api.Elem{Hi: hi.Lo, Lo: lo.Lo}
	default:
		return api.Elem{Lo: hi.Lo<<(1<<(level-1)) | lo.Lo}
	}
}

// Level is the least level of which an element is.
func Level(a api.Elem) int {
	if a.Hi != 0 {
		return api.MaxLevel
	}
	// An element of n bits is of the levels that have as many: n is at most 2^level.
	n := bits.Len64(a.Lo | 1)
	return bits.Len(uint(n - 1))
}

// Bits are the bits of an element.
func Bits(level int, a api.Elem) []bool {
	if !octet.Of(level, a) {
		return nil
	}
	l := make([]bool, 1<<level)
	for i := range 1 << level {
		if i < 64 {
			l[i] = a.Lo>>i&1 == 1
		} else {
			l[i] = a.Hi>>(i-64)&1 == 1
		}
	}
	return l
}

// Dot is the sum of products.
func Dot(level int, a, b []api.Elem) api.Elem {
	if len(a) != len(b) {
		return api.Elem{}
	}
	var sum api.Elem
	for i := range a {
		if !octet.Of(level, a[i]) || !octet.Of(level, b[i]) {
			return api.Elem{}
		}
		sum = Add(sum, product(a[i], b[i]))
	}
	return sum
}

// product needs no level: what is reckoned in one is the same in each above.
func product(a, b api.Elem) api.Elem {
	level, other := Level(a), Level(b)
	if level > other {
		a, b, level = b, a, other
	}
	if level < api.MaxLevel {
		return api.Elem{Hi: scaled(level, b.Hi, a.Lo), Lo: scaled(level, b.Lo, a.Lo)}
	}
	// Three products of halves do for four: the mixed ones are those of the sums, less the others.
	high := scaled(level-1, a.Hi, b.Hi)
	low := scaled(level-1, a.Lo, b.Lo)
	mixed := scaled(level-1, a.Hi^a.Lo, b.Hi^b.Lo) ^ high ^ low
	return api.Elem{Hi: mixed ^ timesX6(high), Lo: high ^ low}
}

// square goes over sums: the halves' squares are enough, and X X = Z X + 1.
func square(a api.Elem) api.Elem {
	high, low := squares(a.Hi), squares(a.Lo)
	return api.Elem{Hi: timesX6(high), Lo: high ^ low}
}

// inverse goes down by norms: X and X + Z are the two zeros of X X + Z X + 1, so hi X + lo times hi X + (lo + Z hi) is hi hi + lo (lo + Z hi), of the level below.
func inverse(a api.Elem) api.Elem {
	level := Level(a)
	if level == 0 {
		return a
	}
	hi, lo := Split(level, a)
	other := Add(lo, MulX(level-1, hi))
	norm := Add(square(hi), product(lo, other))
	back := inverse(norm)
	return Join(level, product(hi, back), product(other, back))
}
