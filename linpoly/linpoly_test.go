package linpoly_test

import (
	"math"
	"math/rand/v2"
	"slices"
	"testing"

	"steeple/api"
	"steeple/linpoly"
	"steeple/span"
	"steeple/tower"
)

// noLevels are numbers that are no levels.
var noLevels = []int{-1, 8, 9, 64, math.MinInt, math.MaxInt}

// lo is elements of one word each.
func lo(l ...uint64) []api.Elem {
	out := make([]api.Elem, len(l))
	for i, n := range l {
		out[i] = api.Elem{Lo: n}
	}
	return out
}

// one is an element of a level, drawn.
func one(rnd *rand.Rand, level int) api.Elem {
	e := api.Elem{Lo: rnd.Uint64()}
	if level == 7 {
		e.Hi = rnd.Uint64()
	} else {
		e.Lo &= 1<<(1<<level) - 1
	}
	return e
}

// basis is a drawn basis.
func basis(rnd *rand.Rand, level, dim int) []api.Elem {
	var l []api.Elem
	for len(l) < dim {
		if x := one(rnd, level); !span.In(l, x) {
			l = append(l, x)
		}
	}
	return l
}

// tooHigh are elements that are not of a level.
func tooHigh(level int) []api.Elem {
	if level == 7 {
		return nil
	}
	return []api.Elem{tower.Bit(1 << level), tower.Bit(127), tower.Add(tower.One(), tower.Bit(1<<level))}
}

// dims is how great a dimension a level has.
func dims(level int) int {
	return min(1<<level, linpoly.MaxDim)
}

// space is the space of a basis that is one.
func space(t *testing.T, level int, basis []api.Elem) *linpoly.Space {
	t.Helper()
	s, e := linpoly.New(level, basis)
	if e != api.OK || s == nil {
		t.Fatalf("New(%d, %v): %v", level, basis, e)
	}
	return s
}

// sums are the points of a basis, each summed up for itself.
func sums(basis []api.Elem) []api.Elem {
	l := make([]api.Elem, 1<<len(basis))
	for j := range l {
		for i, b := range basis {
			if j>>i&1 == 1 {
				l[j] = tower.Add(l[j], b)
			}
		}
	}
	return l
}

// product is W of a basis at x, factor by factor.
func product(level int, basis []api.Elem, x api.Elem) api.Elem {
	p := tower.One()
	for _, u := range sums(basis) {
		p = tower.Mul(level, p, tower.Add(x, u))
	}
	return p
}

// spaces hands on spaces of all levels and dimensions, with their bases.
func spaces(t *testing.T, look func(rnd *rand.Rand, level int, basis []api.Elem, s *linpoly.Space)) {
	rnd := rand.New(rand.NewPCG(5, 1))
	for level := range 8 {
		for dim := range dims(level) + 1 {
			b := basis(rnd, level, dim)
			look(rnd, level, b, space(t, level, b))
		}
	}
}

// 5.1
func TestNew(t *testing.T) {
	spaces(t, func(rnd *rand.Rand, level int, basis []api.Elem, s *linpoly.Space) {
		if s.Level() != level || s.Dim() != len(basis) {
			t.Errorf("New(%d, %v): %d, %d", level, basis, s.Level(), s.Dim())
		}
		for i, b := range basis {
			if s.Point(1<<i) != b {
				t.Errorf("New(%d, %v): %v at %d", level, basis, s.Point(1<<i), i)
			}
		}
	})
	for level := range 8 {
		if s, e := linpoly.New(level, nil); e != api.OK || s.Level() != level || s.Dim() != 0 {
			t.Errorf("New(%d, nil): %v", level, e)
		}
	}
}

// refused looks for an error, and for nothing beside it.
func refused(t *testing.T, what string, want api.Errno) func(*linpoly.Space, api.Errno) {
	return func(s *linpoly.Space, e api.Errno) {
		t.Helper()
		if e != want || s != nil {
			t.Errorf("%s: %v, %v; wanted %v", what, s, e, want)
		}
	}
}

// 5.1: each error, and which one is told first.
func TestNewErrors(t *testing.T) {
	many := make([]api.Elem, linpoly.MaxDim+1)
	many[linpoly.MaxDim] = tower.Bit(127)
	for _, level := range noLevels {
		refused(t, "New of no level", api.ErrArg)(linpoly.New(level, nil))
		refused(t, "New of no level", api.ErrArg)(linpoly.New(level, lo(0, 1)))
		refused(t, "New of no level", api.ErrArg)(linpoly.New(level, many))
	}
	for level := range 8 {
		refused(t, "New of many", api.ErrLong)(linpoly.New(level, many))
		refused(t, "New of 0", api.ErrRule)(linpoly.New(level, lo(0)))
		refused(t, "New of a 0 behind", api.ErrRule)(linpoly.New(level, lo(1, 0)))
		refused(t, "New of twice 1", api.ErrRule)(linpoly.New(level, lo(1, 1)))
		for _, x := range tooHigh(level) {
			refused(t, "New with no element", api.ErrField)(linpoly.New(level, []api.Elem{x}))
			refused(t, "New with no element behind", api.ErrField)(linpoly.New(level, []api.Elem{{Lo: 1}, x}))
			refused(t, "New with no element, and twice 0", api.ErrField)(linpoly.New(level, []api.Elem{{}, {}, x}))
		}
	}
	rnd := rand.New(rand.NewPCG(5, 2))
	for level := 2; level < 8; level++ {
		full := basis(rnd, level, dims(level))
		for n := range len(full) {
			for j := range 1 << n {
				refused(t, "New with a sum", api.ErrRule)(linpoly.New(level, append(slices.Clone(full[:n]), sums(full[:n])[j])))
			}
			between := slices.Clone(full)
			between[n] = sums(full[:n])[1<<n-1]
			refused(t, "New with a sum between", api.ErrRule)(linpoly.New(level, between))
		}
		more := make([]api.Elem, linpoly.MaxDim+1)
		copy(more, full)
		refused(t, "New of one too many", api.ErrLong)(linpoly.New(level, more))
		if s := space(t, level, full); s.Dim() != dims(level) {
			t.Errorf("New of %d: %d", dims(level), s.Dim())
		}
	}
}

// 5.1, R3: what is handed in is neither changed nor kept.
func TestNewKeepsNothing(t *testing.T) {
	b := lo(3, 5, 128)
	s := space(t, 3, b)
	if !slices.Equal(b, lo(3, 5, 128)) {
		t.Errorf("New changed its basis: %v", b)
	}
	clear(b)
	if s.Point(7) != lo(3 ^ 5 ^ 128)[0] || s.Value(2, lo(128)[0]) != product(3, lo(3, 5), lo(128)[0]) {
		t.Errorf("New kept its basis")
	}
	s.Points(2, api.Elem{})[1] = api.Elem{}
	s.Coeffs(2)[1] = api.Elem{}
	if s.Points(2, api.Elem{})[1] != lo(3)[0] {
		t.Errorf("Points are kept")
	}
	if linpoly.Eval(3, s.Coeffs(2), lo(77)[0]) != s.Value(2, lo(77)[0]) {
		t.Errorf("Coeffs are kept")
	}
}

// 5.1
func TestPlain(t *testing.T) {
	for level := range 8 {
		for dim := range 14 {
			s, e := linpoly.Plain(level, dim)
			switch {
			case dim > linpoly.MaxDim:
				refused(t, "Plain of many", api.ErrLong)(s, e)
			case dim > 1<<level:
				refused(t, "Plain beyond the level", api.ErrRule)(s, e)
			case e != api.OK || s.Level() != level || s.Dim() != dim:
				t.Errorf("Plain(%d, %d): %v", level, dim, e)
			}
			for j := range 1 << s.Dim() {
				if e == api.OK && s.Point(j) != lo(uint64(j))[0] {
					t.Errorf("Plain(%d, %d): point %d is %v", level, dim, j, s.Point(j))
				}
			}
			for i := range s.Dim() {
				if s.Norm(i, tower.Bit(i)) != tower.One() {
					t.Errorf("Plain(%d, %d): %d is not normal", level, dim, i)
				}
			}
		}
		for _, dim := range []int{-1, -2, math.MinInt} {
			refused(t, "Plain below 0", api.ErrArg)(linpoly.Plain(level, dim))
		}
		refused(t, "Plain of a great many", api.ErrLong)(linpoly.Plain(level, math.MaxInt))
	}
	for _, level := range noLevels {
		for _, dim := range []int{-1, 0, 1, 10, 11, math.MaxInt} {
			refused(t, "Plain of no level", api.ErrArg)(linpoly.Plain(level, dim))
		}
	}
}

// 5.2
func TestPoints(t *testing.T) {
	spaces(t, func(rnd *rand.Rand, level int, basis []api.Elem, s *linpoly.Space) {
		points := sums(basis)
		for j, p := range points {
			if s.Point(j) != p {
				t.Errorf("Point(%d) of %v: %v", j, basis, s.Point(j))
			}
		}
		for _, j := range []int{-1, len(points), len(points) + 1, 2*len(points) + 1, 1<<62 + 1, math.MinInt, math.MaxInt} {
			if s.Point(j) != (api.Elem{}) {
				t.Errorf("Point(%d) of %v: %v", j, basis, s.Point(j))
			}
		}
		for _, shift := range []api.Elem{{}, one(rnd, level)} {
			for n := range len(basis) + 1 {
				want := slices.Clone(points[:1<<n])
				for i := range want {
					want[i] = tower.Add(want[i], shift)
				}
				if got := s.Points(n, shift); !slices.Equal(got, want) {
					t.Errorf("Points(%d, %v) of %v: %v", n, shift, basis, got)
				}
			}
			for _, n := range []int{-1, len(basis) + 1, 64, math.MinInt, math.MaxInt} {
				if got := s.Points(n, shift); len(got) != 0 {
					t.Errorf("Points(%d, %v) of %v: %v", n, shift, basis, got)
				}
			}
		}
		for _, shift := range tooHigh(level) {
			for n := range len(basis) + 1 {
				if got := s.Points(n, shift); len(got) != 0 {
					t.Errorf("Points(%d, %v) of %v: %v", n, shift, basis, got)
				}
			}
		}
	})
}

// 5.3
func TestValues(t *testing.T) {
	spaces(t, func(rnd *rand.Rand, level int, basis []api.Elem, s *linpoly.Space) {
		asked := []api.Elem{{}, tower.One(), one(rnd, level), one(rnd, level)}
		for i := range len(basis) + 1 {
			c := s.Coeffs(i)
			if len(c) != i+1 || c[i] != tower.One() {
				t.Errorf("Coeffs(%d) of %v: %v", i, basis, c)
			}
			for _, x := range append(slices.Clone(asked), basis...) {
				want := product(level, basis[:i], x)
				if got := s.Value(i, x); got != want {
					t.Errorf("Value(%d, %v) of %v: %v", i, x, basis, got)
				}
				if got := linpoly.Eval(level, c, x); got != want {
					t.Errorf("Coeffs(%d) of %v: %v at %v", i, basis, got, x)
				}
				if i < len(basis) {
					want = tower.Div(level, want, product(level, basis[:i], basis[i]))
				} else {
					want = api.Elem{}
				}
				if got := s.Norm(i, x); got != want {
					t.Errorf("Norm(%d, %v) of %v: %v", i, x, basis, got)
				}
			}
		}
	})
}

// 5.3: what there is not.
func TestNoValues(t *testing.T) {
	spaces(t, func(rnd *rand.Rand, level int, basis []api.Elem, s *linpoly.Space) {
		for _, i := range []int{-1, len(basis) + 1, len(basis) + 2, 64, math.MinInt, math.MaxInt} {
			for _, x := range []api.Elem{tower.One(), one(rnd, level)} {
				if s.Value(i, x) != (api.Elem{}) || s.Norm(i, x) != (api.Elem{}) {
					t.Errorf("%d of %v at %v: %v, %v", i, basis, x, s.Value(i, x), s.Norm(i, x))
				}
			}
			if len(s.Coeffs(i)) != 0 {
				t.Errorf("Coeffs(%d) of %v: %v", i, basis, s.Coeffs(i))
			}
		}
		for _, x := range tooHigh(level) {
			for i := range len(basis) + 1 {
				if s.Value(i, x) != (api.Elem{}) || s.Norm(i, x) != (api.Elem{}) {
					t.Errorf("%d of %v at %v: %v, %v", i, basis, x, s.Value(i, x), s.Norm(i, x))
				}
			}
		}
	})
}

// 5.3
func TestEval(t *testing.T) {
	rnd := rand.New(rand.NewPCG(5, 3))
	for level := range 8 {
		for n := range 20 {
			var c []api.Elem
			for range n {
				c = append(c, one(rnd, level))
			}
			kept, x := slices.Clone(c), one(rnd, level)
			want, power := api.Elem{}, x
			for _, factor := range c {
				want = tower.Add(want, tower.Mul(level, factor, power))
				power = tower.Mul(level, power, power)
			}
			if got := linpoly.Eval(level, c, x); got != want || !slices.Equal(c, kept) {
				t.Errorf("Eval(%d, %v, %v): %v", level, c, x, got)
			}
			for _, wrong := range tooHigh(level) {
				if got := linpoly.Eval(level, c, wrong); got != (api.Elem{}) {
					t.Errorf("Eval(%d, %v, %v): %v", level, c, wrong, got)
				}
				for _, more := range [][]api.Elem{append(slices.Clone(c), wrong), append([]api.Elem{wrong}, c...)} {
					if got := linpoly.Eval(level, more, tower.One()); got != (api.Elem{}) {
						t.Errorf("Eval(%d, %v, 1): %v", level, more, got)
					}
				}
			}
		}
		if got := linpoly.Eval(level, lo(1), tower.One()); got != tower.One() {
			t.Errorf("Eval(%d, 1, 1): %v", level, got)
		}
	}
	for _, level := range noLevels {
		if got := linpoly.Eval(level, lo(1), tower.One()); got != (api.Elem{}) {
			t.Errorf("Eval(%d, 1, 1): %v", level, got)
		}
	}
	// In level 1 with the basis 1, W(1) is x x + x: at 2 it is 1.
	s := space(t, 1, lo(1))
	if s.Value(1, lo(2)[0]) != tower.One() || !slices.Equal(s.Coeffs(1), lo(1, 1)) {
		t.Errorf("W(1) at 2: %v", s.Value(1, lo(2)[0]))
	}
}

// 5.3
func TestNilSpace(t *testing.T) {
	var s *linpoly.Space
	for _, i := range []int{-1, 0, 1, 10, math.MinInt, math.MaxInt} {
		for _, x := range []api.Elem{{}, {Lo: 1}, {Hi: 1 << 63}} {
			if s.Point(i) != (api.Elem{}) || s.Value(i, x) != (api.Elem{}) || s.Norm(i, x) != (api.Elem{}) {
				t.Errorf("a nil space at %d, %v", i, x)
			}
			if len(s.Points(i, x)) != 0 || len(s.Coeffs(i)) != 0 {
				t.Errorf("a nil space has lists at %d, %v", i, x)
			}
		}
	}
	if s.Level() != 0 || s.Dim() != 0 {
		t.Errorf("a nil space: %d, %d", s.Level(), s.Dim())
	}
}

// 5.4
func TestWhatFollows(t *testing.T) {
	spaces(t, func(rnd *rand.Rand, level int, basis []api.Elem, s *linpoly.Space) {
		for i := range len(basis) + 1 {
			a, b := one(rnd, level), one(rnd, level)
			if s.Value(i, tower.Add(a, b)) != tower.Add(s.Value(i, a), s.Value(i, b)) {
				t.Errorf("W(%d) of %v does not go over sums", i, basis)
			}
			if i < len(basis) && s.Norm(i, basis[i]) != tower.One() {
				t.Errorf("Norm(%d) of %v: %v", i, basis, s.Norm(i, basis[i]))
			}
			asked := append(sums(basis), a, b)
			for n := range uint64(1 << min(1<<level, 8)) {
				asked = append(asked, api.Elem{Lo: n})
			}
			for _, x := range asked {
				if (s.Value(i, x) == api.Elem{}) != span.In(basis[:i], x) {
					t.Errorf("W(%d) of %v at %v: %v", i, basis, x, s.Value(i, x))
				}
			}
		}
	})
}
