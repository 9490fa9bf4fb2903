package packv_test

import (
	"math"
	"math/big"
	"math/rand/v2"
	"slices"
	"strings"
	"testing"

	"steeple/api"
	"steeple/packv"
	"steeple/tower"
)

// noLevels are numbers that are no levels.
var noLevels = []int{math.MinInt, math.MinInt32, -64, -1, 8, 9, 63, 64, math.MaxInt32, math.MaxInt}

// lo is elements of one word each.
func lo(l ...uint64) []api.Elem {
	out := make([]api.Elem, len(l))
	for i, n := range l {
		out[i] = api.Elem{Lo: n}
	}
	return out
}

// elems are elements by their digits to the base 16, with spaces between.
func elems(t *testing.T, s string) []api.Elem {
	t.Helper()
	var l []api.Elem
	for _, x := range strings.Fields(s) {
		n, ok := new(big.Int).SetString(x, 16)
		if !ok {
			t.Fatalf("no number: %s", x)
		}
		low := new(big.Int).And(n, new(big.Int).SetUint64(math.MaxUint64))
		l = append(l, api.Elem{Hi: new(big.Int).Rsh(n, 64).Uint64(), Lo: low.Uint64()})
	}
	return l
}

// drawn is n elements of a level.
func drawn(rnd *rand.Rand, level, n int) []api.Elem {
	l := make([]api.Elem, n)
	for i := range l {
		l[i].Lo = rnd.Uint64()
		if level == 7 {
			l[i].Hi = rnd.Uint64()
		} else {
			l[i].Lo &= 1<<(1<<level) - 1
		}
	}
	return l
}

// tensor is a drawn tensor of a level.
func tensor(rnd *rand.Rand, level int) packv.Tensor {
	return drawn(rnd, level, 1<<level)
}

// tooHigh are elements that are not of a level.
func tooHigh(level int) []api.Elem {
	if level == 7 {
		return nil
	}
	return []api.Elem{tower.Bit(1 << level), tower.Bit(127), tower.Add(tower.One(), tower.Bit(1<<level))}
}

// put is a list with another element at a place.
func put(l []api.Elem, i int, e api.Elem) []api.Elem {
	out := slices.Clone(l)
	out[i] = e
	return out
}

// pairs are what a tensor is a sum of: (a, b), one by one.
type pairs [][2]api.Elem

// drawnPairs are n pairs of a level.
func drawnPairs(rnd *rand.Rand, level, n int) pairs {
	l := make(pairs, n)
	for i := range l {
		l[i] = [2]api.Elem(drawn(rnd, level, 2))
	}
	return l
}

// of is the tensor that pairs sum up to, by the words: the bits of a say beside which parts b stands.
func (l pairs) of(level int) packv.Tensor {
	t := make(packv.Tensor, 1<<level)
	for _, pair := range l {
		for u, set := range tower.Bits(level, pair[0]) {
			if set {
				t[u] = tower.Add(t[u], pair[1])
			}
		}
	}
	return t
}

// times is each pair of one sum times each of the other.
func (l pairs) times(level int, others pairs) pairs {
	var out pairs
	for _, a := range l {
		for _, b := range others {
			out = append(out, [2]api.Elem{tower.Mul(level, a[0], b[0]), tower.Mul(level, a[1], b[1])})
		}
	}
	return out
}

// split is a tensor as pairs: each part beside its bit.
func split(t packv.Tensor) pairs {
	l := make(pairs, len(t))
	for u := range t {
		l[u] = [2]api.Elem{tower.Bit(u), t[u]}
	}
	return l
}

// swapped is pairs with their sides swapped.
func (l pairs) swapped() pairs {
	out := make(pairs, len(l))
	for i, pair := range l {
		out[i] = [2]api.Elem{pair[1], pair[0]}
	}
	return out
}

// is asks for a tensor.
func is(t *testing.T, what string, got packv.Tensor, e api.Errno, want packv.Tensor) {
	t.Helper()
	if e != api.OK || !slices.Equal(got, want) {
		t.Errorf("%s: %x, %v, not %x", what, got, e, want)
	}
}

// there is a tensor that there is.
func there(t *testing.T, got packv.Tensor, e api.Errno) packv.Tensor {
	t.Helper()
	if e != api.OK {
		t.Fatalf("no tensor: %v", e)
	}
	return got
}

// times is a product that there is.
func times(t *testing.T, level int, a, b packv.Tensor) packv.Tensor {
	t.Helper()
	p, e := packv.Times(level, a, b)
	return there(t, p, e)
}

// add is a sum that there is.
func add(t *testing.T, level int, a, b packv.Tensor) packv.Tensor {
	t.Helper()
	s, e := packv.Add(level, a, b)
	return there(t, s, e)
}

// 19.1, 19.2: the chapter's example.
func TestExample(t *testing.T) {
	l, r := packv.Left(1, lo(2)[0]), packv.Right(1, lo(2)[0])
	if !slices.Equal(l, lo(0, 1)) || !slices.Equal(r, lo(2, 0)) {
		t.Errorf("Left, Right: %v, %v", l, r)
	}
	p, e := packv.Times(1, l, r)
	is(t, "their product", p, e, lo(0, 2))
}

// 19.1
func TestLeftRight(t *testing.T) {
	rnd := rand.New(rand.NewPCG(19, 1))
	for level := range 8 {
		n := 1 << level
		zero, one := make(packv.Tensor, n), make(packv.Tensor, n)
		one[0] = tower.One()
		if got := packv.One(level); !slices.Equal(got, one) {
			t.Errorf("One(%d): %v", level, got)
		}
		if a, b := packv.Left(level, api.Elem{}), packv.Right(level, api.Elem{}); !slices.Equal(a, zero) || !slices.Equal(b, zero) {
			t.Errorf("Left(%d), Right of 0: %v, %v", level, a, b)
		}
		if a, b := packv.Left(level, tower.One()), packv.Right(level, tower.One()); !slices.Equal(a, one) || !slices.Equal(b, one) {
			t.Errorf("Left(%d), Right of 1: %v, %v", level, a, b)
		}
		for u := range n {
			// A bit on the left is a part that is 1, on the right it is in the first part.
			if got := packv.Left(level, tower.Bit(u)); !slices.Equal(got, put(zero, u, tower.One())) {
				t.Errorf("Left(%d) of the bit %d: %v", level, u, got)
			}
			if got := packv.Right(level, tower.Bit(u)); !slices.Equal(got, put(zero, 0, tower.Bit(u))) {
				t.Errorf("Right(%d) of the bit %d: %v", level, u, got)
			}
		}
		for _, a := range drawn(rnd, level, 20) {
			if got := packv.Left(level, a); !slices.Equal(got, pairs{{a, tower.One()}}.of(level)) {
				t.Errorf("Left(%d, %v): %v", level, a, got)
			}
			if got := packv.Right(level, a); !slices.Equal(got, pairs{{tower.One(), a}}.of(level)) {
				t.Errorf("Right(%d, %v): %v", level, a, got)
			}
		}
	}
}

// 19.1: elements that are not of the level, and levels that are none.
func TestNoLeftRight(t *testing.T) {
	for level := range 8 {
		for _, e := range tooHigh(level) {
			if a, b := packv.Left(level, e), packv.Right(level, e); len(a) != 0 || len(b) != 0 {
				t.Errorf("Left(%d, %v), Right: %v, %v", level, e, a, b)
			}
		}
	}
	for _, level := range noLevels {
		for _, e := range []api.Elem{{}, tower.One(), tower.Bit(2), tower.Bit(127)} {
			if a, b := packv.Left(level, e), packv.Right(level, e); len(a) != 0 || len(b) != 0 {
				t.Errorf("Left(%d, %v), Right: %v, %v", level, e, a, b)
			}
		}
		if got := packv.One(level); len(got) != 0 {
			t.Errorf("One(%d): %v", level, got)
		}
	}
}

// 19.2: products and swapped tensors that were worked out apart from the program, bit by bit.
func TestFixed(t *testing.T) {
	for _, a := range []struct {
		level                int
		s, t, product, swaps string
	}{
		{0, "1", "1", "1", "1"},
		{0, "1", "0", "0", "1"},
		{1, "0 1", "2 0", "0 2", "2 0"},
		{2, "e 0 d a", "7 0 f 7", "c 3 8 c", "4 9 5 d"},
		{3, "e8 47 e9 6e d1 c7 d0 e4", "38 22 11 98 6d 5e 97 13", "f2 c6 e2 ef de cc 98 85", "36 2a aa d 50 8d ff f5"},
		{4, "bf22 ec05 aecf e9af fdc5 d7b7 58da a4c7 dab7 6758 731e 6fef 848c 76b5 e20c 96b3", "9863 7d3d c99 8d48 c622 cfa7 dba4 2ed6 ee38 b3b8 2109 1e87 7e2 79b0 c8ae 69", "b50c d98a 3473 f3eb e3f9 39a8 1d9f eecb e8d1 e6f0 32df a9c 6996 bdb9 14b4 5805", "a9be 8ded 7dbe 5e4c a760 a929 ad4 b9fc e39 ef25 bab7 95f a571 6e9f 6f7a d1bf"},
	} {
		s, other := packv.Tensor(elems(t, a.s)), packv.Tensor(elems(t, a.t))
		p, e := packv.Times(a.level, s, other)
		is(t, "Times", p, e, elems(t, a.product))
		p, e = packv.Times(a.level, other, s)
		is(t, "Times the other way", p, e, elems(t, a.product))
		p, e = packv.Turned(a.level, s)
		is(t, "Turned", p, e, elems(t, a.swaps))
	}
}

// 19.2, 19.3: products of two sums of two pairs, folded by the weights of a point, worked out apart from the program.
func TestFixedFolded(t *testing.T) {
	for _, a := range []struct {
		level            int
		s, t, point, out string
	}{
		{5, "1fe328c3 9ba4c329 b6ba5ebf 555a7fea", "45f309d0 f8027ac5 7194fc03 7d27af48", "bf2569fb 28a413d4 4b591538 7935daf6 318e8bf4", "9fac1485"},
		{6, "bbd3f865296e4a61 396145abc91154f9 5b12f4e8b9811e84 54cf705fa969860c", "5dbb281ba21f5c15 9f9c0fba0b509a16 b2b75cee1f42b6d8 e835d8f9966efd74", "3e0c6a023b382a60 3aa9282dcf6d3a26 b373dcb83cdc40b5 db7cf9242da04195 862c4d7c8bac9110 ab90886bc9deeb6b", "2a8234fba4c5093e"},
		{7, "efac35c421a261859874b243b8a35e4a 550c0e2fded41ff22b428a117ad6bb40 dfd3bb29fc1bec91554e7013e5898edc 8c06765ef3fd6842c7fbc9b36e3238fa", "2e723bbab6710cdd02cc07c06414903e 331db061da71ede39c399e32faf2a519 a22aa7a52da3bd7be9aab1c35006c69 2c30ded7cc2cfd50cc80ed992f0ecc10", "2a3100472c4dabaf5673ad27b1ffb16d 4b68bd32cc9d4f9645adbccfdf196eb0 9f6c208ebc4a3bbc802d8b82ab262729 ba32b74076793dc95226e65b51750420 39f433f5844db304a6aacf77c87e3640 8c5b82a5e92678822fd9a5f6f8709d18 cd46bcd641ab94f58893f90a426907cb", "fe7afad50983df204f95e7e0bda54efb"},
	} {
		s, other := elems(t, a.s), elems(t, a.t)
		p := times(t, a.level, pairs{{s[0], s[1]}, {s[2], s[3]}}.of(a.level), pairs{{other[0], other[1]}, {other[2], other[3]}}.of(a.level))
		if got, e := packv.Fold(a.level, p, weights(a.level, elems(t, a.point))); e != api.OK || got != elems(t, a.out)[0] {
			t.Errorf("Fold of a product of level %d: %x, %v", a.level, got, e)
		}
	}
}

// 19.2
func TestAdd(t *testing.T) {
	rnd := rand.New(rand.NewPCG(19, 2))
	for level := range 8 {
		for range 10 {
			a, b := tensor(rnd, level), tensor(rnd, level)
			sum, e := packv.Add(level, a, b)
			want := make(packv.Tensor, len(a))
			for u := range want {
				want[u] = tower.Add(a[u], b[u])
			}
			is(t, "Add", sum, e, want)
			sum, e = packv.Add(level, a, a)
			is(t, "Add of the same", sum, e, make(packv.Tensor, len(a)))
		}
	}
}

// 19.2: Times against pairs that are multiplied one by one.
func TestTimes(t *testing.T) {
	rnd := rand.New(rand.NewPCG(19, 3))
	for level := range 8 {
		for _, n := range []int{0, 1, 2, 5} {
			for _, m := range []int{0, 1, 3} {
				a, b := drawnPairs(rnd, level, n), drawnPairs(rnd, level, m)
				p, e := packv.Times(level, a.of(level), b.of(level))
				is(t, "Times", p, e, a.times(level, b).of(level))
			}
		}
		a, b := tensor(rnd, level), tensor(rnd, level)
		p, e := packv.Times(level, a, b)
		is(t, "Times, part by part", p, e, split(a).times(level, split(b)).of(level))
		p, e = packv.Times(level, a, packv.One(level))
		is(t, "Times 1", p, e, a)
		p, e = packv.Times(level, packv.Left(level, api.Elem{}), a)
		is(t, "Times 0", p, e, make(packv.Tensor, len(a)))
		p, e = packv.Times(level, a, a)
		is(t, "Times itself", p, e, split(a).times(level, split(a)).of(level))
	}
}

// 19.2: all pairs of bits, on either side, against the words.
func TestTimesBits(t *testing.T) {
	for level := range 6 {
		n := 1 << level
		for u := range n {
			for v := range n {
				a, b := pairs{{tower.Bit(u), tower.Bit(v)}}, pairs{{tower.Bit(v), tower.Bit(n - 1)}}
				p, e := packv.Times(level, a.of(level), b.of(level))
				is(t, "Times", p, e, a.times(level, b).of(level))
			}
		}
	}
}

// 19.2: all tensors of the first levels.
func TestTimesAll(t *testing.T) {
	for level := range 2 {
		n := 1 << level
		for i := range uint64(1) << (n * n) {
			for j := range uint64(1) << (n * n) {
				a, b := make(packv.Tensor, n), make(packv.Tensor, n)
				for u := range n {
					a[u].Lo, b[u].Lo = i>>(u*n)&(1<<n-1), j>>(u*n)&(1<<n-1)
				}
				p, e := packv.Times(level, a, b)
				is(t, "Times", p, e, split(a).times(level, split(b)).of(level))
			}
		}
	}
}

// 19.2: by left, by right.
func TestBy(t *testing.T) {
	rnd := rand.New(rand.NewPCG(19, 4))
	for level := range 8 {
		for _, a := range append(drawn(rnd, level, 10), api.Elem{}, tower.One(), tower.X(level), tower.Bit(1<<level-1)) {
			x := tensor(rnd, level)
			p, e := packv.ByLeft(level, x, a)
			is(t, "ByLeft", p, e, times(t, level, x, packv.Left(level, a)))
			is(t, "ByLeft, pair by pair", p, e, split(x).times(level, pairs{{a, tower.One()}}).of(level))
			p, e = packv.ByRight(level, x, a)
			is(t, "ByRight", p, e, times(t, level, x, packv.Right(level, a)))
			is(t, "ByRight, pair by pair", p, e, split(x).times(level, pairs{{tower.One(), a}}).of(level))
		}
	}
}

// 19.2
func TestTurned(t *testing.T) {
	rnd := rand.New(rand.NewPCG(19, 5))
	for level := range 8 {
		for n := range 5 {
			l := drawnPairs(rnd, level, n)
			p, e := packv.Turned(level, l.of(level))
			is(t, "Turned", p, e, l.swapped().of(level))
		}
		x, y := tensor(rnd, level), tensor(rnd, level)
		p, e := packv.Turned(level, x)
		is(t, "Turned", p, e, split(x).swapped().of(level))
		q, e := packv.Turned(level, p)
		is(t, "Turned twice", q, e, x)
		other, _ := packv.Turned(level, y)
		product, e := packv.Turned(level, times(t, level, x, y))
		is(t, "Turned product", product, e, times(t, level, p, other))
		for _, a := range drawn(rnd, level, 5) {
			p, e := packv.Turned(level, packv.Left(level, a))
			is(t, "Turned left one", p, e, packv.Right(level, a))
			p, e = packv.Turned(level, packv.Right(level, a))
			is(t, "Turned right one", p, e, packv.Left(level, a))
		}
	}
}

// 19.4: any order, any grouping, over sums.
func TestLaws(t *testing.T) {
	rnd := rand.New(rand.NewPCG(19, 6))
	for level := range 8 {
		for range 3 {
			a, b, c := tensor(rnd, level), tensor(rnd, level), tensor(rnd, level)
			ab := times(t, level, a, b)
			is(t, "order", times(t, level, b, a), api.OK, ab)
			is(t, "grouping", times(t, level, ab, c), api.OK, times(t, level, a, times(t, level, b, c)))
			is(t, "over sums", times(t, level, a, add(t, level, b, c)), api.OK, add(t, level, ab, times(t, level, a, c)))
			is(t, "order of sums", add(t, level, a, b), api.OK, add(t, level, b, a))
		}
		x := drawn(rnd, level, 2)
		product := tower.Mul(level, x[0], x[1])
		is(t, "left ones", times(t, level, packv.Left(level, x[0]), packv.Left(level, x[1])), api.OK, packv.Left(level, product))
		is(t, "right ones", times(t, level, packv.Right(level, x[0]), packv.Right(level, x[1])), api.OK, packv.Right(level, product))
	}
}
