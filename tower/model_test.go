package tower_test

import (
	"math"
	"math/rand/v2"

	"steeple/api"
)

// The model reckons as the document's words say, with lists of bits, the lowest first, and no way that is shorter.

// modelBits are the 2^level bits of an element.
func modelBits(level int, e api.Elem) []bool {
	var l []bool
	for i := range 1 << level {
		if i < 64 {
			l = append(l, e.Lo&(1<<i) != 0)
		} else {
			l = append(l, e.Hi&(1<<(i-64)) != 0)
		}
	}
	return l
}

func modelElem(l []bool) api.Elem {
	var e api.Elem
	for i, b := range l {
		if b && i < 64 {
			e.Lo |= 1 << i
		} else if b {
			e.Hi |= 1 << (i - 64)
		}
	}
	return e
}

func modelSum(l ...[]bool) []bool {
	out := make([]bool, len(l[0]))
	for _, x := range l {
		for i, b := range x {
			out[i] = out[i] != b
		}
	}
	return out
}

// modelX is the generator of the level with so many bits; of one bit it is 1.
func modelX(wide int) []bool {
	l := make([]bool, wide)
	l[wide/2] = true
	return l
}

// modelZero tells whether no bit is set, to spare the model what is 0 anyway.
func modelZero(l []bool) bool {
	for _, b := range l {
		if b {
			return false
		}
	}
	return true
}

// modelMul is the product of pairs, X X being Z X + 1.
func modelMul(a, b []bool) []bool {
	if modelZero(a) || modelZero(b) {
		return make([]bool, len(a))
	}
	if len(a) == 1 {
		return []bool{a[0] && b[0]}
	}
	half := len(a) / 2
	aLo, aHi, bLo, bHi := a[:half], a[half:], b[:half], b[half:]
	both := modelMul(aHi, bHi)
	hi := modelSum(modelMul(aHi, bLo), modelMul(aLo, bHi), modelMul(both, modelX(half)))
	lo := modelSum(modelMul(aLo, bLo), both)
	return append(lo, hi...)
}

func model(level int, a, b api.Elem) api.Elem {
	return modelElem(modelMul(modelBits(level, a), modelBits(level, b)))
}

// noLevels are numbers that are no level.
var noLevels = []int{-1, 8, 9, 64, 128, -8, math.MinInt, math.MaxInt}

// lo is the element of the lower 64 bits.
func lo(n uint64) api.Elem {
	return api.Elem{Lo: n}
}

// greatest is the element of a level with all its bits.
func greatest(level int) api.Elem {
	if level == 7 {
		return api.Elem{Hi: math.MaxUint64, Lo: math.MaxUint64}
	}
	return lo(math.MaxUint64 >> (64 - 1<<level))
}

// tooHigh are elements that are not of a level from 0 to 6.
func tooHigh(level int) []api.Elem {
	l := []api.Elem{{Hi: 1}, {Hi: 1 << 63}, {Hi: 1, Lo: 1}}
	if level < 6 {
		l = append(l, lo(1<<(1<<level)), lo(1<<63), lo(1<<(1<<level)|1))
	}
	return l
}

// draw is an element of a level; now and then one of a level below, or of few bits.
func draw(rnd *rand.Rand, level int) api.Elem {
	if level > 0 && rnd.IntN(4) == 0 {
		level = rnd.IntN(level)
	}
	all := greatest(level)
	e := api.Elem{Hi: rnd.Uint64() & all.Hi, Lo: rnd.Uint64() & all.Lo}
	if rnd.IntN(8) == 0 {
		e = api.Elem{Hi: e.Hi & rnd.Uint64() & rnd.Uint64(), Lo: e.Lo & rnd.Uint64() & rnd.Uint64()}
	}
	return e
}
