package tower_test

import (
	"math"
	"math/rand/v2"
	"slices"
	"testing"

	"steeple/api"
	"steeple/tower"
)

// 2.1
func TestAddAndOne(t *testing.T) {
	a, b := api.Elem{Hi: 0xf0f0, Lo: 0xff00ff00ff00ff00}, api.Elem{Hi: 0xffff, Lo: 0x0ff00ff00ff00ff0}
	if s := tower.Add(a, b); s != (api.Elem{Hi: 0x0f0f, Lo: 0xf0f0f0f0f0f0f0f0}) {
		t.Errorf("Add: %x", s)
	}
	if tower.Add(a, a) != lo(0) || tower.Add(a, lo(0)) != a || tower.Add(greatest(7), greatest(6)) != (api.Elem{Hi: math.MaxUint64}) {
		t.Errorf("Add")
	}
	if tower.One() != lo(1) {
		t.Errorf("One: %v", tower.One())
	}
}

// 2.1
func TestBit(t *testing.T) {
	for n := range 128 {
		want := make([]bool, 128)
		want[n] = true
		if e := tower.Bit(n); e != modelElem(want) {
			t.Errorf("Bit(%d): %v", n, e)
		}
	}
	for _, n := range []int{-1, 128, 129, 192, 256, -64, -128, math.MinInt, math.MaxInt} {
		if e := tower.Bit(n); e != lo(0) {
			t.Errorf("Bit(%d): %v", n, e)
		}
	}
}

// 2.1
func TestX(t *testing.T) {
	for level, want := range []api.Elem{lo(1), lo(2), lo(4), lo(16), lo(256), lo(1 << 16), lo(1 << 32), {Hi: 1}} {
		if e := tower.X(level); e != want {
			t.Errorf("X(%d): %v", level, e)
		}
		if level > 0 && tower.X(level) != tower.Bit(1<<(level-1)) {
			t.Errorf("X(%d) is no bit", level)
		}
	}
	for _, level := range noLevels {
		if e := tower.X(level); e != lo(0) {
			t.Errorf("X(%d): %v", level, e)
		}
	}
}

// 2.1, Words: a bit is the product of the generators that its number has bits for.
func TestBitsAreProducts(t *testing.T) {
	for n := range 128 {
		p := tower.One()
		for j := range 7 {
			if n>>j&1 == 1 {
				p = tower.Mul(7, p, tower.X(j+1))
			}
		}
		if p != tower.Bit(n) {
			t.Errorf("bit %d: %v", n, p)
		}
	}
}

// 2.2
func TestMulExamples(t *testing.T) {
	for _, x := range []struct {
		level      int
		a, b, want api.Elem
	}{
		{0, lo(1), lo(1), lo(1)},
		{0, lo(1), lo(0), lo(0)},
		{1, lo(2), lo(2), lo(3)},
		{1, lo(2), lo(3), lo(1)},
		{1, lo(3), lo(3), lo(2)},
		{2, lo(4), lo(4), lo(9)},
		{2, lo(8), lo(2), lo(12)},
		{3, lo(16), lo(16), lo(65)},
		{4, lo(256), lo(256), lo(4097)},
		{5, lo(1 << 16), lo(1 << 16), lo(1<<24 | 1)},
		{6, lo(1 << 32), lo(1 << 32), lo(1<<48 | 1)},
		{7, api.Elem{Hi: 1}, api.Elem{Hi: 1}, api.Elem{Hi: 1 << 32, Lo: 1}},
	} {
		if p := tower.Mul(x.level, x.a, x.b); p != x.want {
			t.Errorf("Mul(%d, %v, %v): %v", x.level, x.a, x.b, p)
		}
	}
}

// 2.2: all products of the levels up to 3.
func TestMulAll(t *testing.T) {
	for level := range 4 {
		n := uint64(1) << (1 << level)
		for a := range n {
			for b := range n {
				if p, want := tower.Mul(level, lo(a), lo(b)), model(level, lo(a), lo(b)); p != want {
					t.Fatalf("Mul(%d, %d, %d): %v, not %v", level, a, b, p, want)
				}
			}
		}
	}
}

// 2.2: all products of bits, of which each other one is a sum.
func TestMulBits(t *testing.T) {
	for i := range 128 {
		for j := range 128 {
			a, b := tower.Bit(i), tower.Bit(j)
			if p, want := tower.Mul(7, a, b), model(7, a, b); p != want {
				t.Fatalf("bit %d times bit %d: %v, not %v", i, j, p, want)
			}
		}
	}
}

// 2.2
func TestMulAsTheModel(t *testing.T) {
	rnd := rand.New(rand.NewPCG(2, 2))
	for level := range 8 {
		for range 12 {
			a, b := draw(rnd, level), draw(rnd, level)
			if p, want := tower.Mul(level, a, b), model(level, a, b); p != want {
				t.Fatalf("Mul(%d, %v, %v): %v, not %v", level, a, b, p, want)
			}
		}
		all := greatest(level)
		if p, want := tower.Mul(level, all, all), model(level, all, all); p != want {
			t.Errorf("Mul(%d, %v, %v): %v, not %v", level, all, all, p, want)
		}
	}
}

// 2.2
func TestMulXAndSquare(t *testing.T) {
	rnd := rand.New(rand.NewPCG(2, 3))
	for level := range 8 {
		for range 200 {
			a := draw(rnd, level)
			if p := tower.MulX(level, a); p != tower.Mul(level, a, tower.X(level)) {
				t.Fatalf("MulX(%d, %v): %v", level, a, p)
			}
			if p := tower.Square(level, a); p != tower.Mul(level, a, a) {
				t.Fatalf("Square(%d, %v): %v", level, a, p)
			}
		}
		for i := range 1 << level {
			a := tower.Bit(i)
			if tower.MulX(level, a) != tower.Mul(level, a, tower.X(level)) || tower.Square(level, a) != tower.Mul(level, a, a) {
				t.Fatalf("level %d, bit %d: %v, %v", level, i, tower.MulX(level, a), tower.Square(level, a))
			}
		}
	}
}

// 2.2
func TestPow(t *testing.T) {
	rnd := rand.New(rand.NewPCG(2, 4))
	for level := range 8 {
		for _, a := range []api.Elem{lo(0), lo(1), tower.X(level), greatest(level), draw(rnd, level)} {
			p := tower.One()
			for n := range uint64(40) {
				if x := tower.Pow(level, a, n); x != p {
					t.Fatalf("Pow(%d, %v, %d): %v, not %v", level, a, n, x, p)
				}
				p = tower.Mul(level, p, a)
			}
			// a to the power 2^64 is a, squared 64 times
			p = a
			for range 64 {
				p = tower.Square(level, p)
			}
			if x := tower.Mul(level, a, tower.Pow(level, a, math.MaxUint64)); x != p {
				t.Errorf("level %d: %v to the power 2^64: %v, not %v", level, a, x, p)
			}
			p = a
			for range 63 {
				p = tower.Square(level, p)
			}
			if x := tower.Pow(level, a, 1<<63); x != p {
				t.Errorf("level %d: %v to the power 2^63: %v, not %v", level, a, x, p)
			}
		}
		if tower.Pow(level, lo(0), 0) != tower.One() {
			t.Errorf("level %d: 0 to the power 0", level)
		}
	}
}

// 2.3, 2.6
func TestInvAll(t *testing.T) {
	for level := range 5 {
		for a := uint64(1); a < 1<<(1<<level); a++ {
			if b := tower.Inv(level, lo(a)); tower.Mul(level, lo(a), b) != tower.One() {
				t.Fatalf("Inv(%d, %d): %v", level, a, b)
			}
		}
	}
}

// 2.3, 2.6
func TestInvAndDiv(t *testing.T) {
	rnd := rand.New(rand.NewPCG(2, 5))
	for level := range 8 {
		if tower.Inv(level, lo(0)) != lo(0) || tower.Inv(level, lo(1)) != lo(1) {
			t.Errorf("level %d: the inverse of 0, of 1", level)
		}
		for i := range 1 << level {
			if a := tower.Bit(i); tower.Mul(level, a, tower.Inv(level, a)) != tower.One() {
				t.Fatalf("level %d: the inverse of the bit %d", level, i)
			}
		}
		for range 200 {
			a, b := draw(rnd, level), draw(rnd, level)
			c := tower.Inv(level, b)
			if tower.Div(level, a, b) != tower.Mul(level, a, c) {
				t.Fatalf("Div(%d, %v, %v): %v", level, a, b, tower.Div(level, a, b))
			}
			if b != lo(0) && (tower.Mul(level, b, c) != tower.One() || tower.Mul(level, tower.Div(level, a, b), b) != a) {
				t.Fatalf("Inv(%d, %v): %v", level, b, c)
			}
		}
		if tower.Div(level, greatest(level), lo(0)) != lo(0) || tower.Div(level, lo(0), greatest(level)) != lo(0) {
			t.Errorf("level %d: Div by 0, of 0", level)
		}
	}
}

// 2.4
func TestSplitAndJoin(t *testing.T) {
	for _, x := range []struct {
		level     int
		a, hi, lo api.Elem
	}{
		{1, lo(2), lo(1), lo(0)},
		{1, lo(1), lo(0), lo(1)},
		{2, lo(0xb), lo(2), lo(3)},
		{3, lo(0xa5), lo(0xa), lo(0x5)},
		{4, lo(0x1234), lo(0x12), lo(0x34)},
		{5, lo(0x12345678), lo(0x1234), lo(0x5678)},
		{6, lo(0x123456789abcdef0), lo(0x12345678), lo(0x9abcdef0)},
		{7, api.Elem{Hi: 5, Lo: math.MaxUint64}, lo(5), lo(math.MaxUint64)},
	} {
		if hi, low := tower.Split(x.level, x.a); hi != x.hi || low != x.lo {
			t.Errorf("Split(%d, %v): %v, %v", x.level, x.a, hi, low)
		}
		if a := tower.Join(x.level, x.hi, x.lo); a != x.a {
			t.Errorf("Join(%d, %v, %v): %v", x.level, x.hi, x.lo, a)
		}
	}
	for _, a := range []uint64{0, 1} {
		if hi, low := tower.Split(0, lo(a)); hi != lo(0) || low != lo(0) {
			t.Errorf("Split(0, %d): %v, %v", a, hi, low)
		}
		if e := tower.Join(0, lo(a), lo(a)); e != lo(0) {
			t.Errorf("Join(0): %v", e)
		}
	}
}

// 2.4: hi X + lo, reckoned.
func TestJoinIsHiXAndLo(t *testing.T) {
	rnd := rand.New(rand.NewPCG(2, 6))
	for level := 1; level < 8; level++ {
		for range 100 {
			hi, low := draw(rnd, level-1), draw(rnd, level-1)
			a := tower.Join(level, hi, low)
			if a != tower.Add(tower.Mul(level, hi, tower.X(level)), low) {
				t.Fatalf("Join(%d, %v, %v): %v", level, hi, low, a)
			}
			if h, l := tower.Split(level, a); h != hi || l != low {
				t.Fatalf("Split(%d, %v): %v, %v", level, a, h, l)
			}
		}
		for _, e := range tooHigh(level - 1) {
			if tower.Join(level, e, lo(1)) != lo(0) || tower.Join(level, lo(1), e) != lo(0) {
				t.Errorf("Join(%d) of %v, which is not of the level below", level, e)
			}
		}
	}
}

// 2.4
func TestLevel(t *testing.T) {
	if tower.Level(lo(0)) != 0 || tower.Level(lo(1)) != 0 {
		t.Errorf("Level of 0: %d, of 1: %d", tower.Level(lo(0)), tower.Level(lo(1)))
	}
	for level := 1; level < 8; level++ {
		for i := 1 << (level - 1); i < 1<<level; i++ {
			for _, e := range []api.Elem{tower.Bit(i), tower.Add(tower.Bit(i), lo(1)), tower.Add(tower.Bit(i), greatest(level-1))} {
				if tower.Level(e) != level {
					t.Errorf("Level(%v): %d, not %d", e, tower.Level(e), level)
				}
			}
		}
		if tower.Level(greatest(level)) != level {
			t.Errorf("Level(%v): %d", greatest(level), tower.Level(greatest(level)))
		}
	}
}

// 2.4
func TestBits(t *testing.T) {
	rnd := rand.New(rand.NewPCG(2, 7))
	for level := range 8 {
		for _, a := range []api.Elem{lo(0), lo(1), greatest(level), draw(rnd, level), draw(rnd, level)} {
			if l := tower.Bits(level, a); !slices.Equal(l, modelBits(level, a)) {
				t.Errorf("Bits(%d, %v): %v", level, a, l)
			}
		}
		for i := range 1 << level {
			l := tower.Bits(level, tower.Bit(i))
			if len(l) != 1<<level || slices.Index(l, true) != i {
				t.Errorf("Bits(%d) of the bit %d: %v", level, i, l)
			}
		}
	}
}

// 2.5
func TestSum(t *testing.T) {
	a, b := api.Elem{Hi: 7, Lo: 9}, api.Elem{Hi: 2, Lo: 1 << 63}
	if tower.Sum() != lo(0) || tower.Sum(nil...) != lo(0) || tower.Sum(a) != a || tower.Sum(a, b) != tower.Add(a, b) || tower.Sum(a, b, a) != b || tower.Sum(a, b, a, b) != lo(0) {
		t.Errorf("Sum")
	}
}

// 2.5, R3
func TestDot(t *testing.T) {
	rnd := rand.New(rand.NewPCG(2, 8))
	for level := range 8 {
		for n := range 5 {
			var a, b []api.Elem
			var want api.Elem
			for i := range n {
				a, b = append(a, draw(rnd, level)), append(b, draw(rnd, level))
				want = tower.Add(want, tower.Mul(level, a[i], b[i]))
			}
			keptA, keptB := slices.Clone(a), slices.Clone(b)
			if d := tower.Dot(level, a, b); d != want {
				t.Errorf("Dot(%d, %v, %v): %v, not %v", level, a, b, d, want)
			}
			if !slices.Equal(a, keptA) || !slices.Equal(b, keptB) {
				t.Errorf("Dot changed its lists")
			}
		}
		ones := []api.Elem{lo(1), lo(1), lo(1)}
		if tower.Dot(level, ones, ones) != lo(1) || tower.Dot(level, nil, nil) != lo(0) || tower.Dot(level, nil, []api.Elem{}) != lo(0) {
			t.Errorf("Dot(%d) of ones, of none", level)
		}
		if tower.Dot(level, ones, ones[:1]) != lo(0) || tower.Dot(level, ones[:1], ones) != lo(0) || tower.Dot(level, nil, ones) != lo(0) || tower.Dot(level, ones, nil) != lo(0) {
			t.Errorf("Dot(%d) of lists of unlike length", level)
		}
	}
}

// 2.5: one element that is not of the level is enough, wherever it stands and whatever it is multiplied with.
func TestDotNotOfTheLevel(t *testing.T) {
	for level := range 7 {
		for _, e := range tooHigh(level) {
			for i := range 3 {
				for _, other := range []uint64{0, 1} {
					a, b := []api.Elem{lo(1), lo(1), lo(1)}, []api.Elem{lo(1), lo(1), lo(1)}
					a[i], b[i] = e, lo(other)
					if tower.Dot(level, a, b) != lo(0) || tower.Dot(level, b, a) != lo(0) {
						t.Errorf("Dot(%d, %v, %v)", level, a, b)
					}
				}
			}
		}
	}
}

// Words: of elements that are not of the level every answer is zero.
func TestNotOfTheLevel(t *testing.T) {
	for level := range 7 {
		for _, e := range tooHigh(level) {
			notThere(t, level, e)
			for _, other := range []api.Elem{lo(0), lo(1), greatest(level), e} {
				if tower.Mul(level, e, other) != lo(0) || tower.Mul(level, other, e) != lo(0) || tower.Div(level, e, other) != lo(0) || tower.Div(level, other, e) != lo(0) {
					t.Errorf("level %d: Mul or Div of %v and %v", level, e, other)
				}
			}
		}
	}
}

// Words: of a level that there is not every answer is zero.
func TestNoSuchLevel(t *testing.T) {
	for _, level := range noLevels {
		for _, e := range []api.Elem{lo(0), lo(1), greatest(3), greatest(7)} {
			notThere(t, level, e)
			one := []api.Elem{lo(1)}
			if tower.Mul(level, e, lo(1)) != lo(0) || tower.Div(level, e, lo(1)) != lo(0) || tower.Join(level, e, lo(1)) != lo(0) || tower.Dot(level, one, one) != lo(0) || tower.Dot(level, nil, nil) != lo(0) {
				t.Errorf("level %d: something of %v and 1", level, e)
			}
		}
	}
}

// notThere asks all calls of one element for nothing.
func notThere(t *testing.T, level int, e api.Elem) {
	t.Helper()
	if tower.MulX(level, e) != lo(0) || tower.Square(level, e) != lo(0) || tower.Inv(level, e) != lo(0) {
		t.Errorf("level %d: MulX, Square or Inv of %v", level, e)
	}
	for _, n := range []uint64{0, 1, 2, math.MaxUint64} {
		if tower.Pow(level, e, n) != lo(0) {
			t.Errorf("level %d: Pow of %v and %d", level, e, n)
		}
	}
	if hi, low := tower.Split(level, e); hi != lo(0) || low != lo(0) {
		t.Errorf("level %d: Split of %v", level, e)
	}
	if len(tower.Bits(level, e)) != 0 {
		t.Errorf("level %d: Bits of %v", level, e)
	}
}

// 2.6
func TestFieldLaws(t *testing.T) {
	rnd := rand.New(rand.NewPCG(2, 9))
	for level := range 8 {
		for range 300 {
			a, b, c := draw(rnd, level), draw(rnd, level), draw(rnd, level)
			ab := tower.Mul(level, a, b)
			if ab != tower.Mul(level, b, a) || tower.Mul(level, ab, c) != tower.Mul(level, a, tower.Mul(level, b, c)) {
				t.Fatalf("level %d: order or grouping of %v, %v, %v", level, a, b, c)
			}
			if tower.Mul(level, a, tower.Add(b, c)) != tower.Add(ab, tower.Mul(level, a, c)) {
				t.Fatalf("level %d: %v over the sum of %v and %v", level, a, b, c)
			}
			if tower.Mul(level, a, tower.One()) != a || tower.Mul(level, a, lo(0)) != lo(0) {
				t.Fatalf("level %d: %v times 1, times 0", level, a)
			}
			if tower.Square(level, tower.Add(a, b)) != tower.Add(tower.Square(level, a), tower.Square(level, b)) {
				t.Fatalf("level %d: the square of %v + %v", level, a, b)
			}
			if tower.Level(ab) > level || tower.Level(tower.Inv(level, a)) > level {
				t.Fatalf("level %d: what is reckoned of %v and %v is not of it", level, a, b)
			}
		}
	}
}

// 2.6, R4: what is reckoned in a level is the same in each above.
func TestSameInLevelsAbove(t *testing.T) {
	rnd := rand.New(rand.NewPCG(2, 10))
	for level := range 8 {
		for range 30 {
			a, b, n := draw(rnd, level), draw(rnd, level), rnd.Uint64()
			for above := level; above < 8; above++ {
				if tower.Mul(above, a, b) != tower.Mul(level, a, b) || tower.Div(above, a, b) != tower.Div(level, a, b) {
					t.Fatalf("Mul or Div of %v and %v in the levels %d and %d", a, b, level, above)
				}
				if tower.Square(above, a) != tower.Square(level, a) || tower.Inv(above, a) != tower.Inv(level, a) || tower.Pow(above, a, n) != tower.Pow(level, a, n) {
					t.Fatalf("Square, Inv or Pow of %v in the levels %d and %d", a, level, above)
				}
			}
		}
	}
}

func BenchmarkMul(b *testing.B) {
	x := api.Elem{Hi: 0x123456789abcdef7, Lo: 0xfedcba9876543211}
	for b.Loop() {
		x = tower.Mul(7, x, x)
	}
}

func BenchmarkInv(b *testing.B) {
	x := api.Elem{Hi: 0x123456789abcdef7, Lo: 0xfedcba9876543211}
	for b.Loop() {
		x = tower.Inv(7, tower.Add(x, tower.One()))
	}
}
