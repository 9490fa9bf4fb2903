package novel

import (
	"math/bits"

	"steeple/api"
	"steeple/linpoly"
	"steeple/tower"
)

// divisor is a polynomial W(k): its coefficients, in powers 2^j, the last of them 1; its value at the basis element k, and the inverse of that.
type divisor struct {
	coeffs []api.Elem
	top    api.Elem
	back   api.Elem
}

// divisors are those of a space.
func divisors(s *linpoly.Space) []divisor {
	l := make([]divisor, s.Dim())
	for k := range l {
		top := s.Value(k, s.Point(1<<k))
		l[k] = divisor{coeffs: s.Coeffs(k), top: top, back: tower.Inv(s.Level(), top)}
	}
	return l
}

// halves cuts a list of two or more at the greatest 2^k within it. What is written to the lower half can't run on into the upper one, nor the upper one beyond the list.
func halves(l []api.Elem) (low, high []api.Elem, k int) {
	k = bits.Len(uint(len(l)-1)) - 1
	cut := 1 << k
	return l[:cut:cut], l[cut:len(l):len(l)], k
}

// toPowers turns a polynomial in the basis of a space into one in powers, in place: the upper half, in powers, times the normal W(k), is added to the lower one.
func toPowers(level int, d []api.Elem, by []divisor) {
	if len(d) < 2 {
		return
	}
	low, high, k := halves(d)
	toPowers(level, low, by)
	toPowers(level, high, by)
	// Going up, each coefficient of the upper half is taken ahead of any sum that changes it: 2^j is below the place of the cut.
	for t := range high {
		high[t] = tower.Mul(level, high[t], by[k].back)
		by[k].spread(level, d[t:], high[t])
	}
}

// fromPowers turns it back, in place: the upper half becomes the quotient by the normal W(k), the lower one what is left.
func fromPowers(level int, c []api.Elem, by []divisor) {
	if len(c) < 2 {
		return
	}
	low, high, k := halves(c)
	// Going down, each coefficient of the upper half has lost the share of those above it when it is taken.
	for t := len(high) - 1; t >= 0; t-- {
		by[k].spread(level, c[t:], high[t])
		high[t] = tower.Mul(level, high[t], by[k].top)
	}
	fromPowers(level, low, by)
	fromPowers(level, high, by)
}

// spread adds a factor times W(k), without its greatest power, to coefficients.
func (w divisor) spread(level int, c []api.Elem, factor api.Elem) {
	for j, coeff := range w.coeffs[:len(w.coeffs)-1] {
		c[1<<j] = tower.Add(c[1<<j], tower.Mul(level, factor, coeff))
	}
}
