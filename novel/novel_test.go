package novel_test

import (
	"math"
	"math/rand/v2"
	"slices"
	"testing"

	"steeple/api"
	"steeple/linpoly"
	"steeple/novel"
	"steeple/span"
	"steeple/tower"
)

// noLevels are numbers that are no levels.
var noLevels = []int{-1, 8, 9, 64, math.MinInt, math.MaxInt}

// lo is elements of one word each.
func lo(l ...uint64) []api.Elem {
	out := make([]api.Elem, len(l))
	for i, n := range l {
		out[i] = api.Elem{Lo: n}
	}
	return out
}

// draw is n elements of a level.
func draw(rnd *rand.Rand, level, n int) []api.Elem {
	l := make([]api.Elem, n)
	for i := range l {
		l[i].Lo = rnd.Uint64()
		if level == 7 {
			l[i].Hi = rnd.Uint64()
		} else {
			l[i].Lo &= 1<<(1<<level) - 1
		}
	}
	return l
}

// space is a drawn space.
func space(t *testing.T, rnd *rand.Rand, level, dim int) *linpoly.Space {
	t.Helper()
	var l []api.Elem
	for len(l) < dim {
		if x := draw(rnd, level, 1)[0]; !span.In(l, x) {
			l = append(l, x)
		}
	}
	return of(t, level, l...)
}

// of is the space of a basis.
func of(t *testing.T, level int, basis ...api.Elem) *linpoly.Space {
	t.Helper()
	s, e := linpoly.New(level, basis)
	if e != api.OK {
		t.Fatalf("New(%d, %v): %v", level, basis, e)
	}
	return s
}

// tooHigh are elements that are not of a level.
func tooHigh(level int) []api.Elem {
	if level == 7 {
		return nil
	}
	return []api.Elem{tower.Bit(1 << level), tower.Bit(127), tower.Add(tower.One(), tower.Bit(1<<level))}
}

// spaces hands on spaces of all levels, of dimensions up to one.
func spaces(t *testing.T, most int, look func(rnd *rand.Rand, level int, s *linpoly.Space)) {
	rnd := rand.New(rand.NewPCG(6, 1))
	for level := range 8 {
		for dim := range min(1<<level, most) + 1 {
			look(rnd, level, space(t, rnd, level, dim))
		}
	}
}

// modelTimes is a product in powers, coefficient by coefficient.
func modelTimes(level int, a, b []api.Elem) []api.Elem {
	out := make([]api.Elem, len(a)+len(b)-1)
	for k := range out {
		for i := range a {
			if j := k - i; j >= 0 && j < len(b) {
				out[k] = tower.Add(out[k], tower.Mul(level, a[i], b[j]))
			}
		}
	}
	return out
}

// modelBasis is X(j) in powers: the factors x + u, one by one, each product divided by its value at the basis element.
func modelBasis(s *linpoly.Space, j int) []api.Elem {
	x := lo(1)
	for i := range s.Dim() {
		if j>>i&1 == 0 {
			continue
		}
		top := tower.One()
		for k := range 1 << i {
			x = modelTimes(s.Level(), x, []api.Elem{s.Point(k), tower.One()})
			top = tower.Mul(s.Level(), top, tower.Add(s.Point(1<<i), s.Point(k)))
		}
		x = modelTimes(s.Level(), x, []api.Elem{tower.Inv(s.Level(), top)})
	}
	return x
}

// modelPowers is a polynomial in powers: each X(j) times its coefficient.
func modelPowers(s *linpoly.Space, d []api.Elem) []api.Elem {
	out := make([]api.Elem, len(d))
	for j := range d {
		for i, c := range modelBasis(s, j) {
			out[i] = tower.Add(out[i], tower.Mul(s.Level(), c, d[j]))
		}
	}
	return out
}

// modelAt is a polynomial in powers at x, power by power.
func modelAt(level int, c []api.Elem, x api.Elem) api.Elem {
	var sum api.Elem
	for j, factor := range c {
		sum = tower.Add(sum, tower.Mul(level, factor, tower.Pow(level, x, uint64(j))))
	}
	return sum
}

// 6.1
func TestBasis(t *testing.T) {
	spaces(t, 5, func(rnd *rand.Rand, level int, s *linpoly.Space) {
		n := 1 << s.Dim()
		asked := append(draw(rnd, level, 3), lo(0, 1)...)
		for j := range n {
			c := modelBasis(s, j)
			for _, x := range asked {
				if got := novel.Basis(s, j, x); got != modelAt(level, c, x) {
					t.Errorf("Basis(%d, %v): %v", j, x, got)
				}
			}
			for _, x := range tooHigh(level) {
				if got := novel.Basis(s, j, x); got != (api.Elem{}) {
					t.Errorf("Basis(%d, %v): %v", j, x, got)
				}
			}
		}
		for _, j := range []int{-1, -2, n, n + 1, 2 * n, 1 << 62, math.MinInt, math.MaxInt} {
			for _, x := range asked {
				if got := novel.Basis(s, j, x); got != (api.Elem{}) {
					t.Errorf("Basis(%d, %v): %v", j, x, got)
				}
			}
		}
	})
	for _, j := range []int{-1, 0, 1, math.MinInt, math.MaxInt} {
		if got := novel.Basis(nil, j, tower.One()); got != (api.Elem{}) {
			t.Errorf("Basis(nil, %d, 1): %v", j, got)
		}
	}
	// X(3) of the basis 1, 2 is x x x + x x.
	s := of(t, 1, lo(1, 2)...)
	for x := range uint64(4) {
		if got := novel.Basis(s, 3, api.Elem{Lo: x}); got != modelAt(1, lo(0, 0, 1, 1), api.Elem{Lo: x}) {
			t.Errorf("X(3) at %d: %v", x, got)
		}
	}
}

// 6.1
func TestEval(t *testing.T) {
	spaces(t, 6, func(rnd *rand.Rand, level int, s *linpoly.Space) {
		size := 1 << s.Dim()
		for n := range size + 1 {
			d := draw(rnd, level, n)
			kept := slices.Clone(d)
			for _, x := range append(draw(rnd, level, 2), lo(0, 1)...) {
				var want api.Elem
				for j := range d {
					want = tower.Add(want, tower.Mul(level, d[j], novel.Basis(s, j, x)))
				}
				if got := novel.Eval(s, d, x); got != want || !slices.Equal(d, kept) {
					t.Errorf("Eval of %d at %v: %v", n, x, got)
				}
			}
			for _, wrong := range tooHigh(level) {
				if got := novel.Eval(s, d, wrong); got != (api.Elem{}) {
					t.Errorf("Eval of %d at %v: %v", n, wrong, got)
				}
				if n > 0 {
					d[n-1] = wrong
					if got := novel.Eval(s, d, tower.One()); got != (api.Elem{}) {
						t.Errorf("Eval of %d with %v: %v", n, wrong, got)
					}
				}
			}
		}
		more := append(draw(rnd, level, size), api.Elem{})
		more[0] = tower.One()
		if got := novel.Eval(s, more, api.Elem{}); got != (api.Elem{}) {
			t.Errorf("Eval of one more than %d: %v", size, got)
		}
	})
	if got := novel.Eval(nil, lo(1), tower.One()); got != (api.Elem{}) {
		t.Errorf("Eval of a nil space: %v", got)
	}
}

// 6.2, 6.4
func TestPowersAndFrom(t *testing.T) {
	spaces(t, 5, func(rnd *rand.Rand, level int, s *linpoly.Space) {
		for n := range 1<<s.Dim() + 1 {
			d := draw(rnd, level, n)
			kept := slices.Clone(d)
			c, e := novel.Powers(s, d)
			if e != api.OK || !slices.Equal(c, modelPowers(s, d)) || !slices.Equal(d, kept) {
				t.Errorf("Powers of %d, level %d: %v, %v", n, level, c, e)
			}
			kept = slices.Clone(c)
			again, e := novel.From(s, c)
			if e != api.OK || !slices.Equal(again, d) || !slices.Equal(c, kept) {
				t.Errorf("From of %d, level %d: %v, %v", n, level, again, e)
			}
			if novel.Degree(c) != novel.Degree(d) {
				t.Errorf("%v and %v have unlike degrees", c, d)
			}
			back, e := novel.From(s, d)
			forth, f := novel.Powers(s, back)
			if e != api.OK || f != api.OK || !slices.Equal(forth, d) {
				t.Errorf("From of %d, level %d, does not lead back: %v, %v", n, level, e, f)
			}
			zero := make([]api.Elem, n)
			c, e = novel.Powers(s, zero)
			d, f = novel.From(s, zero)
			if e != api.OK || f != api.OK || !slices.Equal(c, zero) || !slices.Equal(d, zero) {
				t.Errorf("%d of 0: %v, %v", n, c, d)
			}
		}
	})
}

// 6.2, 6.4: the greatest spaces, with as many coefficients as they hold, and fewer.
func TestGreatSpaces(t *testing.T) {
	rnd := rand.New(rand.NewPCG(6, 2))
	for _, level := range []int{4, 6, 7} {
		s := space(t, rnd, level, linpoly.MaxDim)
		for _, n := range []int{513, 700, 1023, 1024} {
			d := draw(rnd, level, n)
			c, e := novel.Powers(s, d)
			again, f := novel.From(s, c)
			if e != api.OK || f != api.OK || len(c) != n || !slices.Equal(again, d) {
				t.Errorf("%d of level %d: %v, %v", n, level, e, f)
			}
			for _, x := range draw(rnd, level, 3) {
				if novel.At(level, c, x) != novel.Eval(s, d, x) {
					t.Errorf("%d of level %d: unlike values at %v", n, level, x)
				}
			}
		}
		more := make([]api.Elem, 1025)
		refused(t, "Powers of too many", api.ErrSize)(novel.Powers(s, more))
		refused(t, "From of too many", api.ErrSize)(novel.From(s, more))
	}
}

// refused looks for an error, and for nothing beside it.
func refused(t *testing.T, what string, want api.Errno) func([]api.Elem, api.Errno) {
	return func(l []api.Elem, e api.Errno) {
		t.Helper()
		if e != want || len(l) != 0 {
			t.Errorf("%s: %v, %v; wanted %v", what, l, e, want)
		}
	}
}

// 6.2: each error, and which one is told first.
func TestPowersAndFromErrors(t *testing.T) {
	for _, call := range []func(*linpoly.Space, []api.Elem) ([]api.Elem, api.Errno){novel.Powers, novel.From} {
		for _, l := range [][]api.Elem{nil, {}, lo(1), lo(1, 2, 3), {{Hi: 1 << 63}}} {
			refused(t, "a nil space", api.ErrArg)(call(nil, l))
		}
		spaces(t, 10, func(rnd *rand.Rand, level int, s *linpoly.Space) {
			refused(t, "nothing", api.OK)(call(s, nil))
			refused(t, "nothing", api.OK)(call(s, []api.Elem{}))
			size := 1 << s.Dim()
			refused(t, "one too many", api.ErrSize)(call(s, make([]api.Elem, size+1)))
			for _, wrong := range tooHigh(level) {
				more := make([]api.Elem, size+1)
				more[0] = wrong
				refused(t, "too many, and no element", api.ErrSize)(call(s, more))
				refused(t, "no element", api.ErrField)(call(s, more[:size]))
				l := draw(rnd, level, size)
				l[size-1] = wrong
				refused(t, "no element at the end", api.ErrField)(call(s, l))
			}
		})
	}
}

// R3: answers are new.
func TestAnswersAreNew(t *testing.T) {
	s := of(t, 3, lo(1, 6, 40)...)
	d := lo(5)
	c, _ := novel.Powers(s, d)
	c[0] = api.Elem{}
	back, _ := novel.From(s, d)
	back[0] = api.Elem{}
	novel.Times(3, d, lo(1))[0] = api.Elem{}
	if d[0] != lo(5)[0] {
		t.Errorf("an answer shares memory: %v", d)
	}
}

// 6.3
func TestAt(t *testing.T) {
	rnd := rand.New(rand.NewPCG(6, 3))
	for level := range 8 {
		for n := range 12 {
			c := draw(rnd, level, n)
			for _, x := range append(draw(rnd, level, 3), lo(0, 1)...) {
				if got := novel.At(level, c, x); got != modelAt(level, c, x) {
					t.Errorf("At(%d, %v, %v): %v", level, c, x, got)
				}
			}
			for _, wrong := range tooHigh(level) {
				if got := novel.At(level, c, wrong); got != (api.Elem{}) {
					t.Errorf("At(%d, %v, %v): %v", level, c, wrong, got)
				}
				for _, more := range [][]api.Elem{append(slices.Clone(c), wrong), append([]api.Elem{wrong}, c...)} {
					for _, x := range lo(0, 1) {
						if got := novel.At(level, more, x); got != (api.Elem{}) {
							t.Errorf("At(%d, %v, %v): %v", level, more, x, got)
						}
					}
				}
			}
		}
	}
	for _, level := range noLevels {
		if got := novel.At(level, lo(1), api.Elem{}); got != (api.Elem{}) {
			t.Errorf("At(%d, 1, 0): %v", level, got)
		}
	}
}

// 6.3
func TestTimes(t *testing.T) {
	rnd := rand.New(rand.NewPCG(6, 4))
	for level := range 8 {
		for n := range 8 {
			for m := range 8 {
				a, b := draw(rnd, level, n), draw(rnd, level, m)
				keptA, keptB := slices.Clone(a), slices.Clone(b)
				got := novel.Times(level, a, b)
				if n == 0 || m == 0 {
					if len(got) != 0 {
						t.Errorf("Times of %d, %d: %v", n, m, got)
					}
					continue
				}
				if !slices.Equal(got, modelTimes(level, a, b)) || !slices.Equal(a, keptA) || !slices.Equal(b, keptB) {
					t.Errorf("Times(%d, %v, %v): %v", level, a, b, got)
				}
				for _, wrong := range tooHigh(level) {
					a[n-1], b[m-1] = wrong, keptB[m-1]
					if got := novel.Times(level, a, b); len(got) != 0 {
						t.Errorf("Times(%d, %v, %v): %v", level, a, b, got)
					}
					a[n-1], b[m-1] = keptA[n-1], wrong
					if got := novel.Times(level, a, b); len(got) != 0 {
						t.Errorf("Times(%d, %v, %v): %v", level, a, b, got)
					}
				}
			}
		}
	}
	for _, level := range noLevels {
		if got := novel.Times(level, lo(1), lo(1)); len(got) != 0 {
			t.Errorf("Times(%d, 1, 1): %v", level, got)
		}
	}
	if got := novel.Times(3, lo(0, 0), lo(0, 0, 0)); !slices.Equal(got, lo(0, 0, 0, 0)) {
		t.Errorf("Times of 0: %v", got)
	}
}

// 6.3
func TestDegree(t *testing.T) {
	for _, c := range [][]api.Elem{nil, {}, lo(0), lo(0, 0, 0)} {
		if got := novel.Degree(c); got != -1 {
			t.Errorf("Degree(%v): %d", c, got)
		}
	}
	for n := 1; n < 20; n++ {
		for j := range n {
			c := make([]api.Elem, n)
			c[0] = tower.One()
			for _, x := range []api.Elem{{Lo: 1}, {Hi: 1}, {Hi: 1 << 63}, {Lo: 1 << 63}} {
				c[j] = x
				if got := novel.Degree(c); got != j {
					t.Errorf("Degree(%v): %d", c, got)
				}
			}
		}
	}
}

// 6.4: the same values at all elements of small levels.
func TestSameValues(t *testing.T) {
	rnd := rand.New(rand.NewPCG(6, 5))
	for level := range 4 {
		for dim := range min(1<<level, 6) + 1 {
			s := space(t, rnd, level, dim)
			d := draw(rnd, level, 1<<dim)
			c, _ := novel.Powers(s, d)
			for x := range uint64(1 << (1 << level)) {
				if novel.At(level, c, api.Elem{Lo: x}) != novel.Eval(s, d, api.Elem{Lo: x}) {
					t.Errorf("unlike values at %d, level %d, of %v", x, level, d)
				}
			}
		}
	}
}
