package span_test

import (
	"math"
	"math/rand/v2"
	"slices"
	"testing"

	"steeple/api"
	"steeple/span"
	"steeple/tower"
)

// sizes are lengths of maps.
var sizes = []int{0, 1, 2, 3, 8, 63, 64, 65, 100, 127, 128}

// modelApply is what a map makes, bit by bit.
func modelApply(m []api.Elem, x api.Elem) api.Elem {
	var sum api.Elem
	for i, set := range tower.Bits(7, x) {
		if set {
			sum = tower.Add(sum, m[i])
		}
	}
	return sum
}

// plain is the map that makes each element of itself.
func plain(n int) []api.Elem {
	out := make([]api.Elem, n)
	for i := range out {
		out[i] = tower.Bit(i)
	}
	return out
}

// turnable is a drawn map that leads back, of n bits.
func turnable(rnd *rand.Rand, n int) []api.Elem {
	for {
		if m := draw(rnd, n, n); span.Rank(m) == n {
			return m
		}
	}
}

// noList tells whether an answer is nothing beside an error.
func noList(t *testing.T, what string, want api.Errno) func([]api.Elem, api.Errno) {
	return func(l []api.Elem, e api.Errno) {
		t.Helper()
		if e != want || len(l) != 0 {
			t.Errorf("%s: %v, %v; wanted %v", what, l, e, want)
		}
	}
}

// 4.3
func TestApply(t *testing.T) {
	rnd := rand.New(rand.NewPCG(4, 4))
	for _, n := range sizes {
		m := draw(rnd, n, 128)
		asked := append(draw(rnd, 10, n), api.Elem{})
		asked = append(asked, plain(n)...)
		for _, x := range asked {
			if got, e := span.Apply(m, x); e != api.OK || got != modelApply(m, x) {
				t.Errorf("Apply of %d: %v, %v", n, got, e)
			}
		}
		for bit := n; bit < 128; bit++ {
			x := tower.Bit(bit)
			if n > 0 {
				x = tower.Add(x, tower.One())
			}
			if got, e := span.Apply(m, x); e != api.ErrSize || got != (api.Elem{}) {
				t.Errorf("Apply of %d to the bit %d: %v, %v", n, bit, got, e)
			}
		}
	}
	for _, x := range []api.Elem{{}, {Lo: 1}, {Hi: 1 << 63}} {
		if got, e := span.Apply(make([]api.Elem, 129), x); e != api.ErrArg || got != (api.Elem{}) {
			t.Errorf("Apply of no map: %v, %v", got, e)
		}
	}
}

// 4.3
func TestThen(t *testing.T) {
	rnd := rand.New(rand.NewPCG(4, 5))
	for _, n := range sizes {
		for _, k := range sizes {
			a, b := draw(rnd, n, k), draw(rnd, k, 128)
			m, e := span.Then(a, b)
			if e != api.OK || len(m) != n {
				t.Errorf("Then of %d, %d: %d elements, %v", n, k, len(m), e)
			}
			for i := range m {
				if m[i] != modelApply(b, a[i]) {
					t.Errorf("Then of %d, %d: %v at %d", n, k, m[i], i)
				}
			}
			if n > 0 && k < 128 {
				for _, i := range []int{0, n - 1} {
					wrong := slices.Clone(a)
					wrong[i] = tower.Bit(k)
					noList(t, "Then with a bit too many", api.ErrSize)(span.Then(wrong, b))
				}
			}
		}
	}
	many := append(make([]api.Elem, 128), tower.Bit(127))
	noList(t, "Then of no map", api.ErrArg)(span.Then(many, nil))
	noList(t, "Then of no map", api.ErrArg)(span.Then(lo(1), many))
	noList(t, "Then of no map", api.ErrArg)(span.Then(many, many))
	noList(t, "Then of nothing", api.OK)(span.Then(nil, nil))
	noList(t, "Then of none", api.OK)(span.Then(nil, lo(1)))
}

// 4.3, 4.5
func TestBack(t *testing.T) {
	rnd := rand.New(rand.NewPCG(4, 6))
	for _, n := range sizes {
		m := turnable(rnd, n)
		kept := slices.Clone(m)
		back, e := span.Back(m)
		if e != api.OK || len(back) != n || !slices.Equal(m, kept) {
			t.Errorf("Back of %d: %d elements, %v", n, len(back), e)
		}
		for _, pair := range [][2][]api.Elem{{m, back}, {back, m}} {
			if got, e := span.Then(pair[0], pair[1]); e != api.OK || !slices.Equal(got, plain(n)) {
				t.Errorf("Back of %d does not lead back: %v", n, e)
			}
		}
		if n == 0 {
			continue
		}
		if n < 128 {
			wrong := slices.Clone(m)
			wrong[n-1] = tower.Bit(n)
			noList(t, "Back with a bit too many", api.ErrSize)(span.Back(wrong))
			wrong[0] = wrong[n-1]
			noList(t, "Back with a bit too many, twice", api.ErrSize)(span.Back(wrong))
		}
		wrong := slices.Clone(m)
		wrong[n/2] = tower.Sum(append(slices.Clone(m[:n/2]), m[n/2+1:]...)...)
		noList(t, "Back of one that makes one of two", api.ErrRule)(span.Back(wrong))
	}
	noList(t, "Back of a 0", api.ErrRule)(span.Back(lo(0)))
	noList(t, "Back of twice", api.ErrRule)(span.Back(lo(1, 1)))
	noList(t, "Back of no map", api.ErrArg)(span.Back(make([]api.Elem, 129)))
	noList(t, "Back of no map", api.ErrArg)(span.Back(append(plain(128), tower.Bit(127))))
}

// 4.3: all maps of two bits, and of three.
func TestBackOfAllSmallMaps(t *testing.T) {
	for n := range 1 << 9 {
		m := lo(uint64(n&7), uint64(n>>3&7), uint64(n>>6))
		back, e := span.Back(m)
		made := map[api.Elem]int{}
		for x := range uint64(8) {
			made[modelApply(m, api.Elem{Lo: x})] = 1
		}
		if (e == api.OK) != (len(made) == 8) || e != api.OK && (e != api.ErrRule || back != nil) {
			t.Errorf("Back(%v): %v, %v", m, back, e)
		}
		for x := range uint64(8) {
			if e == api.OK && modelApply(back, modelApply(m, api.Elem{Lo: x})) != (api.Elem{Lo: x}) {
				t.Errorf("Back(%v): %v does not lead back", m, back)
			}
		}
	}
}

// 4.4, 4.5
func TestTurn(t *testing.T) {
	if got, e := span.Turn(lo(1, 3), 2); e != api.OK || !slices.Equal(got, lo(3, 2)) {
		t.Errorf("Turn: %v, %v", got, e)
	}
	rnd := rand.New(rand.NewPCG(4, 7))
	for _, k := range sizes {
		for _, n := range sizes {
			l := draw(rnd, k, n)
			got, e := span.Turn(l, n)
			if e != api.OK || len(got) != n {
				t.Errorf("Turn of %d, %d: %d elements, %v", k, n, len(got), e)
			}
			for j, x := range got {
				for i, set := range tower.Bits(7, x) {
					if want := i < k && tower.Bits(7, l[i])[j]; set != want {
						t.Fatalf("Turn of %d, %d: bit %d of %d is %v", k, n, i, j, set)
					}
				}
			}
			if again, e := span.Turn(got, k); e != api.OK || !slices.Equal(again, l) {
				t.Errorf("Turn of %d, %d, twice: %v", k, n, e)
			}
			if k > 0 && n < 128 {
				l[k-1] = tower.Bit(n)
				noList(t, "Turn with a bit too many", api.ErrSize)(span.Turn(l, n))
			}
		}
	}
}

// 4.4
func TestTurnErrors(t *testing.T) {
	top := api.Elem{Hi: 1 << 63}
	for _, n := range []int{-1, 129, 256, math.MinInt, math.MaxInt} {
		noList(t, "Turn with no number", api.ErrArg)(span.Turn(nil, n))
		noList(t, "Turn with no number", api.ErrArg)(span.Turn([]api.Elem{top}, n))
	}
	noList(t, "Turn of many", api.ErrArg)(span.Turn(append(make([]api.Elem, 128), top), 0))
	noList(t, "Turn to none", api.ErrSize)(span.Turn(lo(1), 0))
	noList(t, "Turn to none", api.OK)(span.Turn(lo(0, 0), 0))
	if got, e := span.Turn(nil, 128); e != api.OK || !slices.Equal(got, make([]api.Elem, 128)) {
		t.Errorf("Turn of nothing: %v, %v", got, e)
	}
	if got, e := span.Turn([]api.Elem{top}, 128); e != api.OK || len(got) != 128 || got[127] != tower.One() {
		t.Errorf("Turn of the greatest bit: %v, %v", got, e)
	}
}
