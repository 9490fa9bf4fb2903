package packv

import (
	"steeple/api"
	"steeple/span"
	"steeple/tower"
)

// addPair adds the pair (a, b) to a tensor.
func addPair(level int, t Tensor, a, b api.Elem) {
	bits := tower.Bits(level, a)
	for u := range len(t) {
		if bits[u] {
			t[u] = tower.Add(t[u], b)
		}
	}
}

// added is tensors of as many parts added, part by part.
func added(l ...Tensor) Tensor {
	sum := make(Tensor, len(l[0]))
	for _, t := range l {
		for u := range len(sum) {
			sum[u] = tower.Add(sum[u], t[u])
		}
	}
	return sum
}

// product goes by halves of the left side, as products in the tower do: hi X + lo stands for a tensor, with X X = Z X + 1. Three products of halves do for four: the mixed ones are those of the sums, less the others.
func product(level int, s, t Tensor) Tensor {
	if len(s) == 1 {
		return Tensor{tower.Mul(level, s[0], t[0])}
	}
	half := len(s) / 2
	low := product(level, s[:half], t[:half])
	high := product(level, s[half:], t[half:])
	mixed := product(level, added(s[:half], s[half:]), added(t[:half], t[half:]))
	return append(added(high, low), added(mixed, high, low, timesX(high))...)
}

// timesX is a tensor times the left one of the generator: (hi X + lo) X is (lo + Z hi) X + hi, and below the lowest level the generator is 1.
func timesX(t Tensor) Tensor {
	if len(t) == 1 {
		return t
	}
	half := len(t) / 2
	return append(added(t[half:]), added(t[:half], timesX(t[half:]))...)
}

// byRight is each part times an element.
func byRight(level int, t Tensor, a api.Elem) Tensor {
	out := make(Tensor, len(t))
	for u := range len(t) {
		out[u] = tower.Mul(level, t[u], a)
	}
	return out
}

// byLeft swaps the sides and swaps them back, so that one product for each part is enough.
func byLeft(level int, t Tensor, a api.Elem) Tensor {
	return turned(byRight(level, turned(t), a))
}

// turned is a tensor with its sides swapped: a pair of bits stands in it by the bit u of the part v, or the bit v of the part u.
func turned(t Tensor) Tensor {
	// No error is left: there are at most as many parts as bits, and no part has a bit more than there are parts.
	out, _ := span.Turn(t, len(t))
	return out
}
