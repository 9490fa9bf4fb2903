package gadget_test

import (
	"math/rand/v2"
	"slices"
	"testing"

	"steeple/api"
	"steeple/gadget"
	"steeple/witness"
)

// round is a word of n bits turned round to the left.
func round(word uint64, by, n int) uint64 {
	by %= n
	return (word<<by | word>>(n-by)) & (1<<n - 1)
}

// mixed is what the round of mixing makes of three words of n bits.
func mixed(n int, x, y, z uint64) uint64 {
	all := uint64(1)<<n - 1
	choice := x&y ^ (all^x)&z
	most := x&y ^ x&z ^ y&z
	return (choice + most + (round(x, 2, n) ^ round(x, 5, n))) & all
}

// summed is the last sum of a chain of words of n bits.
func summed(n, steps int, a, b uint64) uint64 {
	for range steps {
		a, b = b, (a+b)&(1<<n-1)
	}
	return b
}

// fits tells whether a system holds for given columns.
func fits(t *testing.T, s api.System, given ...[]uint64) bool {
	t.Helper()
	before := make([][]uint64, len(given))
	for k, col := range given {
		before[k] = slices.Clone(col)
	}
	all, e := witness.Run(s, given)
	if e == api.ErrRule {
		return false
	}
	if e != api.OK || !slices.EqualFunc(given, before, slices.Equal[[]uint64]) {
		t.Fatalf("%v, %v: %v", s, given, e)
	}
	if ok, e := witness.Holds(s, all); e != api.OK || !ok {
		t.Fatalf("%v, %v, run: %v, %v", s, given, ok, e)
	}
	return true
}

// one is a column of one word.
func one(word uint64) []uint64 {
	return []uint64{word}
}

// 28.3: of all small words the adder holds for sums, and for nothing else; the document's example.
func TestAdderHolds(t *testing.T) {
	for wide := range 3 {
		s, _, _ := gadget.Adder(wide, 0)
		most := uint64(1) << (1 << wide)
		for a := range most {
			for b := range most {
				for sum := range most {
					if fits(t, s, one(a), one(sum), one(b)) != (sum == (a+b)%most) {
						t.Errorf("%d and %d are not %d", a, b, sum)
					}
				}
			}
		}
	}
	if s, _, _ := gadget.Adder(2, 0); !fits(t, s, one(9), one(1), one(8)) {
		t.Error("9 and 8 are 1")
	}
}

// 28.3: of all small words the round of mixing holds for what its sentence says, and for nothing else.
func TestChooseHolds(t *testing.T) {
	for wide := range 3 {
		s, _, _ := gadget.Choose(wide, 0)
		most := uint64(1) << (1 << wide)
		for x := range most {
			for y := range most {
				for z := range most {
					for o := range most {
						if fits(t, s, one(o), one(x), one(y), one(z)) != (o == mixed(1<<wide, x, y, z)) {
							t.Errorf("%d, %d, %d: %d", x, y, z, o)
						}
					}
				}
			}
		}
	}
}

// 28.3: of all small words each chain holds for its last sum, and for nothing else.
func TestChainHolds(t *testing.T) {
	for n := 1; n <= gadget.MaxChain; n++ {
		for wide := range 3 {
			s, _, _ := gadget.Chain(wide, 0, n)
			most := uint64(1) << (1 << wide)
			for a := range most {
				for b := range most {
					for o := range most {
						if fits(t, s, one(o), one(a), one(b)) != (o == summed(1<<wide, n, a, b)) {
							t.Errorf("%d steps from %d, %d: %d", n, a, b, o)
						}
					}
				}
			}
		}
	}
}

// 28.3: drawn words of all widths, in all rows: with the public column that is made it holds, with one bit of one word turned it does not.
func TestDrawnWords(t *testing.T) {
	rnd := rand.New(rand.NewPCG(28, 1))
	for wide := range 6 {
		n := 1 << wide
		for rows := range 5 {
			draw := func() []uint64 {
				l := make([]uint64, 1<<rows)
				for i := range l {
					l[i] = rnd.Uint64() & (1<<n - 1)
				}
				return l
			}
			x, y, z := draw(), draw(), draw()
			each := func(make func(i int) uint64) []uint64 {
				l := slices.Clone(x)
				for i := range l {
					l[i] = make(i)
				}
				return l
			}
			steps := 1 + rnd.IntN(12)
			adder, _, _ := gadget.Adder(wide, rows)
			choose, _, _ := gadget.Choose(wide, rows)
			chain, _, _ := gadget.Chain(wide, rows, steps)
			onlyFor(t, n, each(func(i int) uint64 { return summed(n, 1, x[i], y[i]) }), func(s []uint64) bool { return fits(t, adder, x, s, y) })
			onlyFor(t, n, each(func(i int) uint64 { return mixed(n, x[i], y[i], z[i]) }), func(o []uint64) bool { return fits(t, choose, o, x, y, z) })
			onlyFor(t, n, each(func(i int) uint64 { return summed(n, steps, x[i], y[i]) }), func(o []uint64) bool { return fits(t, chain, o, x, y) })
		}
	}
}

// onlyFor asks whether something is so for a column of words of n bits, but not with one bit turned.
func onlyFor(t *testing.T, n int, col []uint64, so func(col []uint64) bool) {
	t.Helper()
	if !so(col) {
		t.Errorf("%v does not hold", col)
	}
	for x := range col {
		for i := range n {
			other := slices.Clone(col)
			other[x] ^= 1 << i
			if so(other) {
				t.Errorf("%v holds, as %v does", other, col)
			}
		}
	}
}
