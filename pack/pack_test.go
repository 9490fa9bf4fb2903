package pack_test

import (
	"math"
	"math/rand/v2"
	"slices"
	"testing"

	"steeple/api"
	"steeple/pack"
	"steeple/tower"
)

// noLevels are no levels of a vector.
var noLevels = []int{-1, 7, 8, 64, math.MinInt, math.MaxInt}

// lo is the element of one word.
func lo(l ...uint64) []api.Elem {
	out := make([]api.Elem, len(l))
	for i, n := range l {
		out[i] = api.Elem{Lo: n}
	}
	return out
}

// draw is n elements of a level.
func draw(rnd *rand.Rand, level, n int) []api.Elem {
	out := make([]api.Elem, n)
	for i := range out {
		out[i].Lo = rnd.Uint64() >> (64 - 1<<level)
	}
	return out
}

// tooHigh are elements that are not of a level.
func tooHigh(level int) []api.Elem {
	out := []api.Elem{{Hi: 1}, {Hi: 1 << 63, Lo: 1}}
	if level < 6 {
		out = append(out, api.Elem{Lo: 1 << (1 << level)}, api.Elem{Lo: 1 << 63})
	}
	return out
}

// lengths are such as fill words of a level, and such as do not.
func lengths(level int) []int {
	per := 64 >> level
	return []int{0, 1, 2, 3, per - 1, per, per + 1, 2*per - 1, 2 * per, 2*per + 1, 100, 129}
}

// made is the vector of elements that are of the level.
func made(t *testing.T, level int, l []api.Elem) pack.Vec {
	t.Helper()
	v, e := pack.Make(level, l)
	if e != api.OK {
		t.Fatalf("Make of level %d, %d elements: %v", level, len(l), e)
	}
	return v
}

// is tells whether a vector has a level and elements, by all that it tells of itself.
func is(t *testing.T, v pack.Vec, level int, l []api.Elem) {
	t.Helper()
	if v.Level() != level || v.Len() != len(l) || !slices.Equal(v.Elems(), l) || !slices.Equal(v.Words(), modelWords(level, l)) {
		t.Errorf("level %d, length %d, %v, words %x; wanted level %d, %v", v.Level(), v.Len(), v.Elems(), v.Words(), level, l)
	}
	for i, e := range l {
		if got, ok := v.Get(i); !ok || got != e {
			t.Errorf("Get(%d): %v, %v; wanted %v", i, got, ok, e)
		}
	}
}

// isNone tells whether an answer is the zero vector beside an error.
func isNone(t *testing.T, what string, want api.Errno) func(pack.Vec, api.Errno) {
	return func(v pack.Vec, e api.Errno) {
		t.Helper()
		if e != want {
			t.Errorf("%s: %v; wanted %v", what, e, want)
		}
		is(t, v, 0, nil)
	}
}

// modelWords lays elements bit by bit.
func modelWords(level int, l []api.Elem) []uint64 {
	wide := 1 << level
	out := make([]uint64, (len(l)*wide+63)/64)
	for i, e := range l {
		for j := range wide {
			bit := i*wide + j
			out[bit/64] |= e.Lo >> j & 1 << (bit % 64)
		}
	}
	return out
}

// 3.1
func TestExamples(t *testing.T) {
	v := made(t, 2, lo(1, 2, 3))
	if !slices.Equal(v.Words(), []uint64{0x321}) {
		t.Errorf("%x", v.Words())
	}
	isNone(t, "Rise of three", api.ErrSize)(pack.Rise(v))
	up, e := pack.Rise(made(t, 2, lo(1, 2, 3, 4)))
	if e != api.OK {
		t.Errorf("Rise: %v", e)
	}
	is(t, up, 3, lo(0x21, 0x43))
}

// 3.1, 3.2, 3.5
func TestMake(t *testing.T) {
	rnd := rand.New(rand.NewPCG(3, 1))
	for level := range 7 {
		for _, n := range lengths(level) {
			l := draw(rnd, level, n)
			is(t, made(t, level, l), level, l)
		}
	}
	is(t, made(t, 6, lo(math.MaxUint64, 0, 1<<63, 1)), 6, lo(math.MaxUint64, 0, 1<<63, 1))
	is(t, made(t, 3, []api.Elem{}), 3, nil)
}

// 3.1
func TestMakeErrors(t *testing.T) {
	long := make([]api.Elem, pack.MaxLen+1)
	long[3].Hi = 1
	for _, level := range noLevels {
		isNone(t, "no level", api.ErrArg)(pack.Make(level, nil))
		isNone(t, "no level, too long", api.ErrArg)(pack.Make(level, long))
		isNone(t, "no level", api.ErrArg)(pack.Fill(level, 1, api.Elem{}))
		isNone(t, "no level, too long", api.ErrArg)(pack.Fill(level, pack.MaxLen+1, api.Elem{Hi: 1}))
	}
	for level := range 7 {
		isNone(t, "too long", api.ErrLong)(pack.Make(level, long))
		for _, e := range tooHigh(level) {
			isNone(t, "first", api.ErrField)(pack.Make(level, []api.Elem{e, {}, {}}))
			isNone(t, "last", api.ErrField)(pack.Make(level, []api.Elem{{}, {}, e}))
			isNone(t, "filled", api.ErrField)(pack.Fill(level, 1, e))
			isNone(t, "filled", api.ErrField)(pack.Fill(level, pack.MaxLen, e))
			isNone(t, "below 0", api.ErrArg)(pack.Fill(level, -1, e))
			isNone(t, "too long", api.ErrLong)(pack.Fill(level, pack.MaxLen+1, e))
			if v, f := pack.Fill(level, 0, e); f != api.OK || v.Level() != level || v.Len() != 0 {
				t.Errorf("Fill with none: %v", f)
			}
		}
		isNone(t, "below 0", api.ErrArg)(pack.Fill(level, math.MinInt, api.Elem{}))
		isNone(t, "too long", api.ErrLong)(pack.Fill(level, math.MaxInt, api.Elem{}))
	}
}

// 3.1
func TestFill(t *testing.T) {
	for level := range 7 {
		for _, e := range lo(0, 1, math.MaxUint64>>(64-1<<level), 0x9e3779b97f4a7c15>>(64-1<<level)) {
			for _, n := range lengths(level) {
				v, f := pack.Fill(level, n, e)
				if f != api.OK {
					t.Errorf("Fill(%d, %d): %v", level, n, f)
				}
				is(t, v, level, slices.Repeat([]api.Elem{e}, n))
			}
		}
	}
}

// 3.1: as many as there may be.
func TestLongest(t *testing.T) {
	rnd := rand.New(rand.NewPCG(3, 2))
	for level := range 7 {
		l := draw(rnd, level, pack.MaxLen)
		v := made(t, level, l)
		if v.Len() != pack.MaxLen || len(v.Words()) != pack.MaxLen>>(6-level) || !slices.Equal(v.Elems(), l) {
			t.Errorf("level %d: %d elements in %d words", level, v.Len(), len(v.Words()))
		}
		e := l[7]
		if v, f := pack.Fill(level, pack.MaxLen, e); f != api.OK || !slices.Equal(v.Elems(), slices.Repeat([]api.Elem{e}, pack.MaxLen)) {
			t.Errorf("Fill of level %d: %v", level, f)
		}
	}
}

// 3.1, 3.2: the zero vector is one of level 0, as all others.
func TestZeroVector(t *testing.T) {
	var zero pack.Vec
	is(t, zero, 0, nil)
	for _, i := range []int{-1, 0, 1, math.MinInt, math.MaxInt} {
		if e, ok := zero.Get(i); ok || e != (api.Elem{}) {
			t.Errorf("Get(%d): %v, %v", i, e, ok)
		}
		isNone(t, "With", api.ErrNone)(zero.With(i, api.Elem{}))
	}
	none := made(t, 0, nil)
	isNone(t, "Add", api.OK)(pack.Add(zero, none))
	isNone(t, "Mul", api.OK)(pack.Mul(none, zero))
	isNone(t, "Scale", api.OK)(pack.Scale(zero, tower.One()))
	isNone(t, "Scale", api.ErrField)(pack.Scale(zero, api.Elem{Lo: 2}))
	if e, f := pack.Dot(zero, zero); f != api.OK || e != (api.Elem{}) {
		t.Errorf("Dot: %v, %v", e, f)
	}
	up, f := pack.Rise(zero)
	if f != api.OK {
		t.Errorf("Rise: %v", f)
	}
	is(t, up, 1, nil)
	isNone(t, "Fall", api.ErrSize)(pack.Fall(zero))
}

// 3.2
func TestGetAndWith(t *testing.T) {
	rnd := rand.New(rand.NewPCG(3, 3))
	for level := range 7 {
		for _, n := range lengths(level) {
			l := draw(rnd, level, n)
			v := made(t, level, l)
			for _, i := range []int{-1, n, n + 1, 64, -64, math.MinInt, math.MaxInt} {
				if i >= 0 && i < n {
					continue
				}
				if e, ok := v.Get(i); ok || e != (api.Elem{}) {
					t.Errorf("Get(%d) of %d: %v, %v", i, n, e, ok)
				}
				isNone(t, "With", api.ErrNone)(v.With(i, api.Elem{}))
				isNone(t, "With", api.ErrNone)(v.With(i, api.Elem{Hi: 1}))
			}
			for i := range n {
				changed := slices.Clone(l)
				changed[i] = draw(rnd, level, 1)[0]
				w, f := v.With(i, changed[i])
				if f != api.OK {
					t.Errorf("With(%d) of %d: %v", i, n, f)
				}
				is(t, w, level, changed)
				for _, e := range tooHigh(level) {
					isNone(t, "With", api.ErrField)(v.With(i, e))
				}
			}
			is(t, v, level, l)
		}
	}
}

// byElem is element by element.
func byElem(a, b []api.Elem, f func(a, b api.Elem) api.Elem) []api.Elem {
	out := make([]api.Elem, len(a))
	for i := range a {
		out[i] = f(a[i], b[i])
	}
	return out
}

// 3.3
func TestElementByElement(t *testing.T) {
	rnd := rand.New(rand.NewPCG(3, 4))
	for level := range 7 {
		for _, n := range lengths(level) {
			a, b := draw(rnd, level, n), draw(rnd, level, n)
			v, w := made(t, level, a), made(t, level, b)
			times := func(a, b api.Elem) api.Elem { return tower.Mul(level, a, b) }
			sums, f := pack.Add(v, w)
			products, g := pack.Mul(v, w)
			if f != api.OK || g != api.OK {
				t.Errorf("level %d, length %d: %v, %v", level, n, f, g)
			}
			is(t, sums, level, byElem(a, b, tower.Add))
			is(t, products, level, byElem(a, b, times))
			if e, f := pack.Dot(v, w); f != api.OK || e != tower.Dot(level, a, b) {
				t.Errorf("Dot of level %d, length %d: %v, %v", level, n, e, f)
			}
			for _, e := range append(lo(0, 1), draw(rnd, level, 2)...) {
				scaled, f := pack.Scale(v, e)
				if f != api.OK {
					t.Errorf("Scale of level %d, length %d: %v", level, n, f)
				}
				is(t, scaled, level, byElem(a, slices.Repeat([]api.Elem{e}, n), times))
			}
			for _, e := range tooHigh(level) {
				isNone(t, "Scale", api.ErrField)(pack.Scale(v, e))
			}
			is(t, v, level, a)
			is(t, w, level, b)
		}
	}
}

// 3.3: all products there are, of the levels that are small enough.
func TestAllProducts(t *testing.T) {
	for level := range 4 {
		size := 1 << (1 << level)
		all := make([]api.Elem, size)
		for i := range all {
			all[i].Lo = uint64(i)
		}
		v := made(t, level, all)
		for _, e := range all {
			p, f := pack.Scale(v, e)
			q, g := pack.Mul(v, made(t, level, slices.Repeat([]api.Elem{e}, size)))
			want := byElem(all, all, func(a, _ api.Elem) api.Elem { return tower.Mul(level, a, e) })
			if f != api.OK || g != api.OK || !slices.Equal(p.Elems(), want) || !slices.Equal(q.Elems(), want) {
				t.Errorf("level %d, times %v: %v, %v", level, e, f, g)
			}
		}
	}
}

// 3.3: the products of each two bits, of all levels.
func TestBitProducts(t *testing.T) {
	for level := range 7 {
		var bits []api.Elem
		for i := range 1 << level {
			bits = append(bits, tower.Bit(i))
		}
		v := made(t, level, bits)
		for _, e := range bits {
			p, _ := pack.Scale(v, e)
			is(t, p, level, byElem(bits, bits, func(a, _ api.Elem) api.Elem { return tower.Mul(level, a, e) }))
		}
	}
}

// 3.3
func TestUnlike(t *testing.T) {
	for level := range 7 {
		v := made(t, level, lo(1, 0, 1))
		for other := range 7 {
			l := lo(1, 0, 1)
			if other == level {
				l = lo(1, 0, 1, 0)
			}
			w := made(t, other, l)
			for _, x := range [][2]pack.Vec{{v, w}, {w, v}} {
				isNone(t, "Add", api.ErrSize)(pack.Add(x[0], x[1]))
				isNone(t, "Mul", api.ErrSize)(pack.Mul(x[0], x[1]))
				if e, f := pack.Dot(x[0], x[1]); f != api.ErrSize || e != (api.Elem{}) {
					t.Errorf("Dot: %v, %v", e, f)
				}
			}
		}
	}
	// Unlike levels, and no elements in either.
	isNone(t, "Add", api.ErrSize)(pack.Add(made(t, 1, nil), made(t, 2, nil)))
}

// 3.4, 3.5
func TestRiseAndFall(t *testing.T) {
	rnd := rand.New(rand.NewPCG(3, 5))
	for level := range 6 {
		for _, n := range lengths(level) {
			l := draw(rnd, level, n)
			v := made(t, level, l)
			if n%2 == 1 {
				isNone(t, "Rise of odd", api.ErrSize)(pack.Rise(v))
				continue
			}
			var joined []api.Elem
			for i := 0; i < n; i += 2 {
				joined = append(joined, tower.Join(level+1, l[i+1], l[i]))
			}
			up, f := pack.Rise(v)
			down, g := pack.Fall(up)
			if f != api.OK || g != api.OK || !slices.Equal(up.Words(), v.Words()) {
				t.Errorf("level %d, length %d: %v, %v", level, n, f, g)
			}
			is(t, up, level+1, joined)
			is(t, down, level, l)
		}
	}
}

// 3.4
func TestRiseAndFallEdges(t *testing.T) {
	isNone(t, "Rise of level 6", api.ErrSize)(pack.Rise(made(t, 6, lo(1, 2))))
	isNone(t, "Rise of level 6", api.ErrSize)(pack.Rise(made(t, 6, nil)))
	isNone(t, "Fall of level 0", api.ErrSize)(pack.Fall(made(t, 0, lo(1, 0))))
	for level := 1; level < 7; level++ {
		full, _ := pack.Fill(level, pack.MaxLen/2+1, tower.One())
		isNone(t, "Fall of many", api.ErrSize)(pack.Fall(full))
		most, _ := pack.Fill(level, pack.MaxLen/2, tower.One())
		if v, f := pack.Fall(most); f != api.OK || v.Level() != level-1 || v.Len() != pack.MaxLen || !slices.Equal(v.Words(), most.Words()) {
			t.Errorf("Fall of level %d: %v", level, f)
		}
		odd, f := pack.Fall(made(t, level, lo(1, 0, 1)))
		if f != api.OK {
			t.Errorf("Fall of three: %v", f)
		}
		is(t, odd, level-1, lo(1, 0, 0, 0, 1, 0))
	}
}

// 3.5: sums rise to sums.
func TestSumsRise(t *testing.T) {
	rnd := rand.New(rand.NewPCG(3, 6))
	for level := range 6 {
		a, b := made(t, level, draw(rnd, level, 130)), made(t, level, draw(rnd, level, 130))
		sum, _ := pack.Add(a, b)
		want, _ := pack.Rise(sum)
		a, _ = pack.Rise(a)
		b, _ = pack.Rise(b)
		got, f := pack.Add(a, b)
		if f != api.OK {
			t.Errorf("level %d: %v", level, f)
		}
		is(t, got, level+1, want.Elems())
	}
}

// R3
func TestNothingIsShared(t *testing.T) {
	l := lo(1, 2, 3, 4)
	v := made(t, 4, l)
	l[0].Lo = 9
	v.Words()[0] = 9
	v.Elems()[0].Lo = 9
	is(t, v, 4, lo(1, 2, 3, 4))
}
