package frob_test

import (
	"math"
	"math/rand/v2"
	"slices"
	"testing"

	"steeple/api"
	"steeple/frob"
	"steeple/octet"
	"steeple/tower"
)

// noLevels are numbers that are no level.
var noLevels = []int{-1, -2, 8, 9, 64, math.MinInt, math.MaxInt}

// drawn is a drawn element of a level.
func drawn(rnd *rand.Rand, level int) api.Elem {
	e := api.Elem{Hi: rnd.Uint64(), Lo: rnd.Uint64()}
	if level < 7 {
		e = api.Elem{Lo: e.Lo & (1<<(1<<level) - 1)}
	}
	return e
}

// some are all elements of a level up to 3, and of those above all bits, 0, 1, some of each level below and drawn ones.
func some(level int) []api.Elem {
	var l []api.Elem
	if level <= 3 {
		for n := range uint64(1) << (1 << level) {
			l = append(l, api.Elem{Lo: n})
		}
		return l
	}
	rnd := rand.New(rand.NewPCG(33, uint64(level)))
	l = append(l, api.Elem{}, tower.One())
	for i := range 1 << level {
		l = append(l, tower.Bit(i))
	}
	for below := range level + 1 {
		for range 4 {
			l = append(l, drawn(rnd, below))
		}
	}
	return l
}

// few are some drawn elements of a level, and 0 and 1.
func few(rnd *rand.Rand, level int) []api.Elem {
	return []api.Elem{{}, tower.One(), drawn(rnd, level), drawn(rnd, level), drawn(rnd, level), drawn(rnd, max(0, level-1))}
}

// aside are elements that are not of a level.
func aside(level int) []api.Elem {
	switch {
	case level >= 7:
		return nil
	case level == 6:
		return []api.Elem{{Hi: 1}, {Hi: 1 << 63, Lo: 5}}
	}
	return []api.Elem{{Hi: 1}, {Lo: 1 << (1 << level)}, {Lo: 1<<(1<<level) + 1}, {Lo: 1 << 63}, {Hi: 1 << 63}}
}

// power is a to the power 2^k: a times itself, and so on.
func power(level int, a api.Elem, k int) api.Elem {
	for range k {
		a = tower.Mul(level, a, a)
	}
	return a
}

// conjugates are those of a over a level, each of the one ahead.
func conjugates(level, to int, a api.Elem) []api.Elem {
	var l []api.Elem
	for i := range 1 << (level - to) {
		l = append(l, power(level, a, i<<to))
	}
	return l
}

// product is all multiplied.
func product(level int, l []api.Elem) api.Elem {
	p := tower.One()
	for _, e := range l {
		p = tower.Mul(level, p, e)
	}
	return p
}

// 33.1
func TestPowerAndRoot(t *testing.T) {
	for level := range 8 {
		n := 1 << level
		for _, a := range some(level) {
			for _, k := range []int{0, 1, 2, n / 2, n - 2, n - 1} {
				if k < 0 || k >= n {
					continue
				}
				if got, want := frob.Power(level, a, k), power(level, a, k); got != want {
					t.Errorf("Power(%d, %v, %d): %v, not %v", level, a, k, got, want)
				}
			}
			for _, k := range []int{-1, n, n + 1, 2 * n, math.MinInt, math.MaxInt} {
				if got := frob.Power(level, a, k); got != (api.Elem{}) {
					t.Errorf("Power(%d, %v, %d): %v", level, a, k, got)
				}
			}
			root := frob.Root(level, a)
			if tower.Mul(level, root, root) != a || !octet.Of(level, root) {
				t.Errorf("Root(%d, %v): %v", level, a, root)
			}
			if again := frob.Root(level, tower.Mul(level, a, a)); again != a {
				t.Errorf("Root(%d) of the square of %v: %v", level, a, again)
			}
			if got := frob.Power(level, a, 0); got != a {
				t.Errorf("Power(%d, %v, 0): %v", level, a, got)
			}
		}
	}
}

// 33.2, 33.5
func TestConjugates(t *testing.T) {
	for level := range 8 {
		for _, a := range some(level) {
			for to := range level + 1 {
				want := conjugates(level, to, a)
				if got := frob.Conjugates(level, to, a); !slices.Equal(got, want) || len(got) != 1<<(level-to) {
					t.Errorf("Conjugates(%d, %d, %v): %v, not %v", level, to, a, got, want)
				}
				trace, norm := frob.Trace(level, to, a), frob.Norm(level, to, a)
				if trace != tower.Sum(want...) || !octet.Of(to, trace) {
					t.Errorf("Trace(%d, %d, %v): %v", level, to, a, trace)
				}
				if norm != product(level, want) || !octet.Of(to, norm) || (norm == api.Elem{}) != (a == api.Elem{}) {
					t.Errorf("Norm(%d, %d, %v): %v", level, to, a, norm)
				}
			}
			if frob.Trace(level, level, a) != a || frob.Norm(level, level, a) != a {
				t.Errorf("Trace and Norm of %v over its level %d", a, level)
			}
		}
	}
}

// 33.5: traces go over sums and factors, norms over products, both through any level between.
func TestTracesAndNormsOfMany(t *testing.T) {
	rnd := rand.New(rand.NewPCG(33, 99))
	for level := range 8 {
		for to := range level + 1 {
			for _, a := range few(rnd, level) {
				for _, b := range few(rnd, level) {
					if frob.Trace(level, to, tower.Add(a, b)) != tower.Add(frob.Trace(level, to, a), frob.Trace(level, to, b)) {
						t.Errorf("Trace(%d, %d) of %v and %v, added", level, to, a, b)
					}
					if frob.Norm(level, to, tower.Mul(level, a, b)) != tower.Mul(to, frob.Norm(level, to, a), frob.Norm(level, to, b)) {
						t.Errorf("Norm(%d, %d) of %v times %v", level, to, a, b)
					}
				}
				for _, c := range few(rnd, to) {
					if frob.Trace(level, to, tower.Mul(level, a, c)) != tower.Mul(to, c, frob.Trace(level, to, a)) {
						t.Errorf("Trace(%d, %d) of %v times %v", level, to, a, c)
					}
				}
				for between := to; between <= level; between++ {
					if frob.Trace(between, to, frob.Trace(level, between, a)) != frob.Trace(level, to, a) {
						t.Errorf("Trace(%d, %d) of %v through %d", level, to, a, between)
					}
					if frob.Norm(between, to, frob.Norm(level, between, a)) != frob.Norm(level, to, a) {
						t.Errorf("Norm(%d, %d) of %v through %d", level, to, a, between)
					}
				}
			}
		}
	}
}

// 33.3, 33.5: there is a half just where the trace is 0; of small levels by all elements.
func TestHalf(t *testing.T) {
	for level := range 8 {
		for _, a := range some(level) {
			x, is := frob.Half(level, a)
			if is != (frob.Trace(level, 0, a) == api.Elem{}) {
				t.Errorf("Half(%d, %v): %v", level, a, is)
			}
			if is && (tower.Add(tower.Mul(level, x, x), x) != a || x.Lo&1 == 1 || !octet.Of(level, x)) || !is && x != (api.Elem{}) {
				t.Errorf("Half(%d, %v): %v, %v", level, a, x, is)
			}
			// what is made of an element has it for its half, or the one beside it
			made := tower.Add(tower.Mul(level, a, a), a)
			want := a
			want.Lo &^= 1
			if x, is := frob.Half(level, made); !is || x != want {
				t.Errorf("Half(%d) of what %v makes: %v, %v", level, a, x, is)
			}
		}
	}
	for level := range 4 {
		there := 0
		for _, a := range some(level) {
			found := false
			for _, x := range some(level) {
				found = found || x.Lo&1 == 0 && tower.Add(tower.Mul(level, x, x), x) == a
			}
			if _, is := frob.Half(level, a); is != found {
				t.Errorf("Half(%d, %v): %v", level, a, is)
			} else if is {
				there++
			}
		}
		if there != len(some(level))/2 {
			t.Errorf("level %d: %d halves", level, there)
		}
	}
}

// value is that of a polynomial with coefficients 0 and 1.
func value(level int, c []bool, x api.Elem) api.Elem {
	var v api.Elem
	for i := len(c) - 1; i >= 0; i-- {
		v = tower.Mul(level, v, x)
		if c[i] {
			v = tower.Add(v, tower.One())
		}
	}
	return v
}

// 33.3, 33.5: the least polynomial has its degree and its zeros, which are the conjugates; of small levels, no polynomial of a lower degree has a for its zero.
func TestLeast(t *testing.T) {
	for level := range 8 {
		for _, a := range some(level) {
			c := frob.Least(level, a)
			degree := 1 << tower.Level(a)
			if len(c) != degree+1 || !c[degree] {
				t.Fatalf("Least(%d, %v): %v", level, a, c)
			}
			zeros := []api.Elem{a}
			if level < 6 {
				zeros = conjugates(level, 0, a)
			}
			for _, x := range zeros {
				if value(level, c, x) != (api.Elem{}) {
					t.Errorf("Least(%d, %v) at %v: %v", level, a, x, value(level, c, x))
				}
			}
			if own := frob.Least(tower.Level(a), a); !slices.Equal(own, c) {
				t.Errorf("Least(%d, %v) is another one than in its own level", level, a)
			}
			if level > 3 {
				continue
			}
			for n := uint64(1); n < 1<<degree; n++ {
				if value(level, tower.Bits(level+1, api.Elem{Lo: n}), a) == (api.Elem{}) {
					t.Errorf("level %d: the polynomial %b has the zero %v", level, n, a)
					break
				}
			}
		}
	}
	for x, want := range map[uint64][]bool{0: {false, true}, 1: {true, true}, 2: {true, true, true}, 3: {true, true, true}} {
		for level := 1; level < 8; level++ {
			if c := frob.Least(level, api.Elem{Lo: x}); !slices.Equal(c, want) {
				t.Errorf("Least(%d, %d): %v", level, x, c)
			}
		}
	}
}

// 33.4: the traces of the dual list with all bits, at each level.
func TestDual(t *testing.T) {
	for level := range 8 {
		d := frob.Dual(level)
		if len(d) != 1<<level {
			t.Fatalf("Dual(%d): %d elements", level, len(d))
		}
		for j := range d {
			if !octet.Of(level, d[j]) {
				t.Errorf("Dual(%d): %v is not of the level", level, d[j])
			}
			for i := range d {
				want := api.Elem{}
				if i == j {
					want = tower.One()
				}
				if got := frob.Trace(level, 0, tower.Mul(level, tower.Bit(i), d[j])); got != want {
					t.Errorf("Dual(%d), %d, %d: %v", level, i, j, got)
				}
			}
		}
		// with it each element's bits are traces
		rnd := rand.New(rand.NewPCG(33, 7))
		a := drawn(rnd, level)
		for i, is := range tower.Bits(level, a) {
			if (frob.Trace(level, 0, tower.Mul(level, a, d[i])) == tower.One()) != is {
				t.Errorf("level %d: the bit %d of %v is no trace", level, i, a)
			}
		}
	}
	if d := frob.Dual(1); !slices.Equal(d, []api.Elem{{Lo: 3}, {Lo: 1}}) {
		t.Errorf("Dual(1): %v", d)
	}
}

// 33.1 to 33.4: of levels that there are not, of elements that are not of the level, and of a level that is not below, nothing is answered.
func TestWhatThereIsNot(t *testing.T) {
	none := func(level, to int, a api.Elem) {
		t.Helper()
		if l := frob.Conjugates(level, to, a); l != nil {
			t.Errorf("Conjugates(%d, %d, %v): %v", level, to, a, l)
		}
		if x := frob.Trace(level, to, a); x != (api.Elem{}) {
			t.Errorf("Trace(%d, %d, %v): %v", level, to, a, x)
		}
		if x := frob.Norm(level, to, a); x != (api.Elem{}) {
			t.Errorf("Norm(%d, %d, %v): %v", level, to, a, x)
		}
	}
	no := func(level int, a api.Elem) {
		t.Helper()
		for _, k := range []int{-1, 0, 1, 5} {
			if x := frob.Power(level, a, k); x != (api.Elem{}) {
				t.Errorf("Power(%d, %v, %d): %v", level, a, k, x)
			}
		}
		if x := frob.Root(level, a); x != (api.Elem{}) {
			t.Errorf("Root(%d, %v): %v", level, a, x)
		}
		if x, is := frob.Half(level, a); is || x != (api.Elem{}) {
			t.Errorf("Half(%d, %v): %v", level, a, x)
		}
		if l := frob.Least(level, a); l != nil {
			t.Errorf("Least(%d, %v): %v", level, a, l)
		}
		for to := -2; to < 10; to++ {
			none(level, to, a)
		}
	}
	for _, level := range noLevels {
		for _, a := range []api.Elem{{}, {Lo: 1}, {Hi: 1 << 63}} {
			no(level, a)
			none(7, level, a)
			none(level, level, a)
		}
		if d := frob.Dual(level); d != nil {
			t.Errorf("Dual(%d): %v", level, d)
		}
	}
	for level := range 8 {
		for _, a := range aside(level) {
			no(level, a)
		}
		for _, to := range []int{math.MinInt, -1, level + 1, level + 2, math.MaxInt} {
			none(level, to, api.Elem{})
			none(level, to, tower.One())
		}
	}
}

// 33.2: the example.
func TestExample(t *testing.T) {
	two := api.Elem{Lo: 2}
	if l := frob.Conjugates(1, 0, two); !slices.Equal(l, []api.Elem{{Lo: 2}, {Lo: 3}}) {
		t.Errorf("Conjugates: %v", l)
	}
	if frob.Trace(1, 0, two) != tower.One() || frob.Norm(1, 0, two) != tower.One() {
		t.Errorf("Trace %v, Norm %v", frob.Trace(1, 0, two), frob.Norm(1, 0, two))
	}
	if c := frob.Least(1, two); !slices.Equal(c, []bool{true, true, true}) {
		t.Errorf("Least: %v", c)
	}
	// what is answered is new
	l := frob.Conjugates(3, 0, two)
	l[0].Lo = 77
	d := frob.Dual(2)
	d[0].Lo = 77
	if frob.Conjugates(3, 0, two)[0] != two || frob.Dual(2)[0].Lo == 77 {
		t.Errorf("an answer is kept")
	}
}
