package antt_test

import (
	"math"
	"math/rand/v2"
	"slices"
	"testing"

	"steeple/antt"
	"steeple/api"
	"steeple/linpoly"
	"steeple/novel"
	"steeple/span"
	"steeple/tower"
)

// lo is elements of one word each.
func lo(l ...uint64) []api.Elem {
	out := make([]api.Elem, len(l))
	for i, n := range l {
		out[i] = api.Elem{Lo: n}
	}
	return out
}

// draw is n elements of a level.
func draw(rnd *rand.Rand, level, n int) []api.Elem {
	l := make([]api.Elem, n)
	for i := range l {
		l[i].Lo = rnd.Uint64()
		if level == 7 {
			l[i].Hi = rnd.Uint64()
		} else {
			l[i].Lo &= 1<<(1<<level) - 1
		}
	}
	return l
}

// space is a drawn space.
func space(t *testing.T, rnd *rand.Rand, level, dim int) *linpoly.Space {
	t.Helper()
	var l []api.Elem
	for len(l) < dim {
		if x := draw(rnd, level, 1)[0]; !span.In(l, x) {
			l = append(l, x)
		}
	}
	s, e := linpoly.New(level, l)
	if e != api.OK {
		t.Fatalf("New(%d, %v): %v", level, l, e)
	}
	return s
}

// tooHigh are elements that are not of a level.
func tooHigh(level int) []api.Elem {
	if level == 7 {
		return nil
	}
	return []api.Elem{tower.Bit(1 << level), tower.Bit(127), tower.Add(tower.One(), tower.Bit(1<<level))}
}

// spaces hands on spaces of all levels, of dimensions up to one.
func spaces(t *testing.T, most int, look func(rnd *rand.Rand, level int, s *linpoly.Space)) {
	rnd := rand.New(rand.NewPCG(7, 1))
	for level := range 8 {
		for dim := range min(1<<level, most) + 1 {
			look(rnd, level, space(t, rnd, level, dim))
		}
	}
}

// 7.1, 7.2
func TestForwardAndBack(t *testing.T) {
	spaces(t, 5, func(rnd *rand.Rand, level int, s *linpoly.Space) {
		for n := range s.Dim() + 1 {
			for _, shift := range append(draw(rnd, level, 2), lo(0, 1)...) {
				d := draw(rnd, level, 1<<n)
				kept := slices.Clone(d)
				v, e := antt.Forward(s, d, shift)
				if e != api.OK || len(v) != 1<<n || !slices.Equal(d, kept) {
					t.Fatalf("Forward of %d, level %d: %v", n, level, e)
				}
				for i, x := range s.Points(n, shift) {
					if v[i] != novel.Eval(s, d, x) {
						t.Errorf("Forward of %d, level %d: %v at %d", n, level, v[i], i)
					}
				}
				kept = slices.Clone(v)
				again, e := antt.Back(s, v, shift)
				if e != api.OK || !slices.Equal(again, d) || !slices.Equal(v, kept) {
					t.Errorf("Back of %d, level %d: %v, %v", n, level, again, e)
				}
				back, e := antt.Back(s, d, shift)
				forth, f := antt.Forward(s, back, shift)
				if e != api.OK || f != api.OK || !slices.Equal(forth, d) {
					t.Errorf("Back of %d, level %d, does not lead back: %v, %v", n, level, e, f)
				}
			}
		}
	})
}

// 7.1, 7.2: the greatest spaces.
func TestGreatSpaces(t *testing.T) {
	rnd := rand.New(rand.NewPCG(7, 2))
	for _, level := range []int{4, 5, 6, 7} {
		s := space(t, rnd, level, linpoly.MaxDim)
		shift := draw(rnd, level, 1)[0]
		d := draw(rnd, level, 1024)
		v, e := antt.Forward(s, d, shift)
		again, f := antt.Back(s, v, shift)
		if e != api.OK || f != api.OK || !slices.Equal(again, d) {
			t.Errorf("level %d: %v, %v", level, e, f)
		}
		points := s.Points(10, shift)
		for _, i := range []int{0, 1, 2, 511, 512, 777, 1023} {
			if v[i] != novel.Eval(s, d, points[i]) {
				t.Errorf("level %d: %v at %d", level, v[i], i)
			}
		}
		refused(t, "Forward of too many", api.ErrSize)(antt.Forward(s, make([]api.Elem, 2048), shift))
		refused(t, "Back of too many", api.ErrSize)(antt.Back(s, make([]api.Elem, 2048), shift))
	}
}

// 7.2: each list of values of a small space has one list of coefficients.
func TestBackOfAllValues(t *testing.T) {
	s := space(t, rand.New(rand.NewPCG(7, 3)), 1, 2)
	for shift := range uint64(4) {
		seen := map[[4]api.Elem]int{}
		for n := range uint64(256) {
			v := lo(n&3, n>>2&3, n>>4&3, n>>6)
			d, e := antt.Back(s, v, api.Elem{Lo: shift})
			if e != api.OK || len(d) != 4 {
				t.Fatalf("Back(%v): %v", v, e)
			}
			seen[[4]api.Elem(d)]++
			for i, x := range s.Points(2, api.Elem{Lo: shift}) {
				if novel.Eval(s, d, x) != v[i] {
					t.Errorf("Back(%v): %v at %v", v, d, x)
				}
			}
		}
		if len(seen) != 256 {
			t.Errorf("shift %d: %d lists of coefficients", shift, len(seen))
		}
	}
}

// refused looks for an error, and for nothing beside it.
func refused(t *testing.T, what string, want api.Errno) func([]api.Elem, api.Errno) {
	return func(l []api.Elem, e api.Errno) {
		t.Helper()
		if e != want || len(l) != 0 {
			t.Errorf("%s: %v, %v; wanted %v", what, l, e, want)
		}
	}
}

// 7.1, 7.2: each error, and which one is told first.
func TestErrors(t *testing.T) {
	for _, call := range []func(*linpoly.Space, []api.Elem, api.Elem) ([]api.Elem, api.Errno){antt.Forward, antt.Back} {
		for _, l := range [][]api.Elem{nil, lo(1), lo(1, 2, 3), {{Hi: 1 << 63}}} {
			refused(t, "a nil space", api.ErrArg)(call(nil, l, api.Elem{}))
			refused(t, "a nil space", api.ErrArg)(call(nil, l, api.Elem{Hi: 1}))
		}
		spaces(t, 10, func(rnd *rand.Rand, level int, s *linpoly.Space) {
			refused(t, "no elements", api.ErrSize)(call(s, nil, api.Elem{}))
			refused(t, "no elements", api.ErrSize)(call(s, []api.Elem{}, api.Elem{}))
			size := 1 << s.Dim()
			for n := range 2*size + 2 {
				if n&(n-1) != 0 || n > size {
					refused(t, "a wrong number", api.ErrSize)(call(s, make([]api.Elem, n), api.Elem{}))
				}
			}
			for _, wrong := range tooHigh(level) {
				refused(t, "no elements, no shift", api.ErrSize)(call(s, nil, wrong))
				many := make([]api.Elem, 2*size)
				many[0] = wrong
				refused(t, "too many, no element", api.ErrSize)(call(s, many, wrong))
				for n := range s.Dim() + 1 {
					l := draw(rnd, level, 1<<n)
					refused(t, "no shift", api.ErrField)(call(s, l, wrong))
					l[len(l)-1] = wrong
					refused(t, "no element", api.ErrField)(call(s, l, api.Elem{}))
					l[0], l[len(l)-1] = wrong, api.Elem{}
					if n > 0 {
						refused(t, "no element", api.ErrField)(call(s, l, api.Elem{}))
					}
				}
			}
		})
	}
}

// R3: answers are new.
func TestAnswersAreNew(t *testing.T) {
	s := space(t, rand.New(rand.NewPCG(7, 4)), 3, 3)
	d := lo(5)
	v, _ := antt.Forward(s, d, api.Elem{})
	v[0] = api.Elem{}
	v, _ = antt.Back(s, d, api.Elem{})
	v[0] = api.Elem{}
	if d[0] != lo(5)[0] {
		t.Errorf("an answer shares memory: %v", d)
	}
}

// 7.2
func TestSteps(t *testing.T) {
	for n := 1; n <= 20; n++ {
		want := n
		for range n - 1 {
			want *= 2
		}
		if got := antt.Steps(n); got != want {
			t.Errorf("Steps(%d): %d", n, got)
		}
	}
	if antt.Steps(1) != 1 || antt.Steps(2) != 4 || antt.Steps(20) != 10485760 {
		t.Errorf("Steps: %d, %d, %d", antt.Steps(1), antt.Steps(2), antt.Steps(20))
	}
	for _, n := range []int{0, -1, 21, 22, 64, math.MinInt, math.MaxInt} {
		if got := antt.Steps(n); got != 0 {
			t.Errorf("Steps(%d): %d", n, got)
		}
	}
}

// forward is values of which there must be some.
func forward(t *testing.T, s *linpoly.Space, d []api.Elem, shift api.Elem) []api.Elem {
	t.Helper()
	v, e := antt.Forward(s, d, shift)
	if e != api.OK {
		t.Fatalf("Forward: %v", e)
	}
	return v
}

// 7.3
func TestSumsAndFactors(t *testing.T) {
	spaces(t, 6, func(rnd *rand.Rand, level int, s *linpoly.Space) {
		size := 1 << s.Dim()
		a, b := draw(rnd, level, size), draw(rnd, level, size)
		drawn := draw(rnd, level, 2)
		shift, factor := drawn[0], drawn[1]
		sum := make([]api.Elem, size)
		for i := range sum {
			sum[i] = tower.Add(tower.Mul(level, factor, a[i]), b[i])
		}
		va, vb, vs := forward(t, s, a, shift), forward(t, s, b, shift), forward(t, s, sum, shift)
		for i := range vs {
			if vs[i] != tower.Add(tower.Mul(level, factor, va[i]), vb[i]) {
				t.Errorf("level %d: no sum at %d", level, i)
			}
		}
	})
}

// 7.3: with a point's shift the values stand at their places with that point's number added, bit by bit.
func TestPointsAsShifts(t *testing.T) {
	spaces(t, 5, func(rnd *rand.Rand, level int, s *linpoly.Space) {
		size := 1 << s.Dim()
		d := draw(rnd, level, size)
		plain := forward(t, s, d, api.Elem{})
		for j := range size {
			v := forward(t, s, d, s.Point(j))
			for i := range v {
				if v[i] != plain[i^j] {
					t.Errorf("level %d: shift by the point %d: %v at %d", level, j, v[i], i)
				}
			}
		}
	})
}

// The chapter's example: two coefficients a, b, a basis that begins with 1.
func TestTwoCoefficients(t *testing.T) {
	for level := range 8 {
		s, _ := linpoly.Plain(level, 1)
		if v := forward(t, s, lo(1), tower.One()); !slices.Equal(v, lo(1)) {
			t.Errorf("one coefficient: %v", v)
		}
		if v := forward(t, s, lo(0, 1), api.Elem{}); !slices.Equal(v, lo(0, 1)) {
			t.Errorf("0, 1: %v", v)
		}
		if v := forward(t, s, lo(1, 1), api.Elem{}); !slices.Equal(v, lo(1, 0)) {
			t.Errorf("1, 1: %v", v)
		}
	}
}
