package ring_test

import (
	"math/rand/v2"
	"slices"
	"testing"

	"steeple/api"
	"steeple/ring"
)

// noList asks for an error, and for nothing beside it.
func noList(t *testing.T, what string, want api.Errno) func([]api.Elem, api.Errno) {
	return func(l []api.Elem, e api.Errno) {
		t.Helper()
		if e != want || len(l) != 0 {
			t.Errorf("%s: %v, %v, not %v", what, l, e, want)
		}
	}
}

// noElem asks for an error, and for nothing beside it.
func noElem(t *testing.T, what string, want api.Errno) func(api.Elem, api.Errno) {
	return func(x api.Elem, e api.Errno) {
		t.Helper()
		if e != want || x != (api.Elem{}) {
			t.Errorf("%s: %v, %v, not %v", what, x, e, want)
		}
	}
}

// fill is n times an element.
func fill(n int, e api.Elem) []api.Elem {
	return slices.Repeat([]api.Elem{e}, n)
}

// aside are 0 and elements that are not of a level.
func aside(level int) []api.Elem {
	return append(tooHigh(level), api.Elem{})
}

// other are numbers of elements that are not n, from 0 on.
func other(n int) []int {
	return slices.DeleteFunc([]int{0, n - 1, n + 1, n + 2, 2 * n, 16, 17, 129, 4096}, func(m int) bool { return m < 0 || m == n })
}

// bitsRefuse asks for one error of Pack and Parts, ahead of all that is wrong with a high point.
func bitsRefuse(t *testing.T, level, n int, want api.Errno) {
	t.Helper()
	bits := make([]bool, n)
	noList(t, "Pack", want)(ring.Pack(level, bits))
	for _, m := range []int{0, 1, 12, 13} {
		for _, e := range []api.Elem{{}, {Lo: 1 << 63}, {Hi: 1}} {
			noList(t, "Parts", want)(ring.Parts(level, bits, fill(m, e)))
		}
	}
}

// 23.1 to 23.3: levels that are none come first.
func TestNoLevels(t *testing.T) {
	for _, level := range noLevels {
		for _, n := range []int{0, 1, 3, 128, 256, 4096, 8192} {
			bitsRefuse(t, level, n, api.ErrArg)
		}
		for _, e := range []api.Elem{{}, {Lo: 1}, {Hi: 1 << 63}} {
			for _, n := range []int{0, 1, 2, 7, 8, 13, 128, 256} {
				for _, m := range []int{0, 1, 7, 8, 13} {
					noElem(t, "Value", api.ErrArg)(ring.Value(level, fill(n, e), fill(m, e)))
					noElem(t, "Batch", api.ErrArg)(ring.Batch(level, fill(n, e), fill(m, e)))
					noList(t, "Mask", api.ErrArg)(ring.Mask(level, fill(n, e), fill(m, e)))
					noElem(t, "At", api.ErrArg)(ring.At(level, fill(n, e), fill(m, e), fill(n, e)))
					noElem(t, "At", api.ErrArg)(ring.At(level, fill(n, e), fill(m, e), fill(m, e)))
				}
			}
		}
	}
}

// 23.1: as many bits as are no 2^n, n from the level to 12; ahead of a high point that does not fit.
func TestNumbersOfBits(t *testing.T) {
	for level := range 8 {
		if _, e := ring.Pack(level, nil); e != api.ErrSize {
			t.Errorf("Pack of nil: %v", e)
		}
		for n := range 14 {
			if n < level || n > 12 {
				bitsRefuse(t, level, 1<<n, api.ErrSize)
			} else if l, e := ring.Pack(level, make([]bool, 1<<n)); e != api.OK || len(l) != 1<<(n-level) {
				t.Errorf("Pack(%d) of 2^%d: %d elements, %v", level, n, len(l), e)
			}
		}
		for _, n := range []int{0, 3, 5, 6, 7, 9, 12, 96, 127, 129, 255, 257, 384, 2049, 3 << 10, 4095, 4097, 1<<16 - 1, 1 << 16, 1 << 17} {
			bitsRefuse(t, level, n, api.ErrSize)
		}
	}
}

// 23.1: high points of too few and too many elements, and of such as are not of the level.
func TestHighPointsOfParts(t *testing.T) {
	for level := range 8 {
		for n := level; n <= 12; n++ {
			bits := make([]bool, 1<<n)
			for _, e := range aside(level) {
				for _, m := range other(n - level) {
					noList(t, "Parts", api.ErrSize)(ring.Parts(level, bits, fill(m, e)))
				}
			}
			for _, e := range tooHigh(level) {
				for i := range n - level {
					noList(t, "Parts", api.ErrField)(ring.Parts(level, bits, put(make([]api.Elem, n-level), i, e)))
				}
			}
		}
	}
}

// 23.2: too few and too many parts, low points and r, ahead of what is not of the level.
func TestPartsAndPoints(t *testing.T) {
	for level := range 8 {
		n := 1 << level
		for _, e := range aside(level) {
			for _, m := range other(n) {
				for _, k := range append(other(level), level) {
					noElem(t, "Value", api.ErrSize)(ring.Value(level, fill(m, e), fill(k, e)))
					noElem(t, "Batch", api.ErrSize)(ring.Batch(level, fill(m, e), fill(k, e)))
				}
			}
			for _, k := range other(level) {
				noElem(t, "Value", api.ErrSize)(ring.Value(level, fill(n, e), fill(k, e)))
				noElem(t, "Batch", api.ErrSize)(ring.Batch(level, fill(n, e), fill(k, e)))
			}
		}
		for _, e := range tooHigh(level) {
			for i := range n {
				noElem(t, "Value", api.ErrField)(ring.Value(level, put(make([]api.Elem, n), i, e), make([]api.Elem, level)))
				noElem(t, "Batch", api.ErrField)(ring.Batch(level, put(make([]api.Elem, n), i, e), make([]api.Elem, level)))
			}
			for j := range level {
				noElem(t, "Value", api.ErrField)(ring.Value(level, make([]api.Elem, n), put(make([]api.Elem, level), j, e)))
				noElem(t, "Batch", api.ErrField)(ring.Batch(level, make([]api.Elem, n), put(make([]api.Elem, level), j, e)))
			}
		}
	}
}

// 23.3: what hinders a mask, which for At is so whatever q is.
func TestMaskErrors(t *testing.T) {
	for level := range 8 {
		refuse := func(high, r []api.Elem, want api.Errno) {
			t.Helper()
			noList(t, "Mask", want)(ring.Mask(level, high, r))
			for _, e := range aside(level) {
				for _, m := range []int{0, len(high), len(high) + 1, 13, 17} {
					noElem(t, "At", want)(ring.At(level, high, r, fill(m, e)))
				}
			}
		}
		for _, e := range aside(level) {
			for _, n := range []int{13, 14, 16, 17, 64, 4096} {
				refuse(fill(n, e), make([]api.Elem, level), api.ErrSize)
				refuse(make([]api.Elem, n), fill(level, e), api.ErrSize)
				refuse(fill(n, e), fill(level+1, e), api.ErrSize)
			}
			for _, n := range []int{0, 1, 12} {
				for _, m := range other(level) {
					refuse(fill(n, e), fill(m, e), api.ErrSize)
				}
			}
		}
		for _, e := range tooHigh(level) {
			for _, n := range []int{0, 1, 3, 12} {
				for i := range n {
					refuse(put(make([]api.Elem, n), i, e), make([]api.Elem, level), api.ErrField)
				}
				for j := range level {
					refuse(make([]api.Elem, n), put(make([]api.Elem, level), j, e), api.ErrField)
				}
			}
		}
	}
}

// 23.3: a point q of too few and too many elements, and of such as are not of the level.
func TestAtErrors(t *testing.T) {
	rnd := rand.New(rand.NewPCG(23, 9))
	for level := range 8 {
		for _, n := range []int{0, 1, 2, 5, 12} {
			high, r := drawn(rnd, level, n), drawn(rnd, level, level)
			for _, e := range aside(level) {
				for _, m := range other(n) {
					noElem(t, "At", api.ErrSize)(ring.At(level, high, r, fill(m, e)))
				}
			}
			for _, e := range tooHigh(level) {
				for i := range n {
					noElem(t, "At", api.ErrField)(ring.At(level, high, r, put(drawn(rnd, level, n), i, e)))
				}
			}
		}
	}
}
