package cube_test

import (
	"math"
	"math/big"
	"math/rand/v2"
	"slices"
	"strings"
	"testing"

	"steeple/api"
	"steeple/cube"
	"steeple/tower"
)

// noLevels are numbers that are no levels.
var noLevels = []int{math.MinInt, math.MinInt32, -64, -1, 8, 9, 63, 64, math.MaxInt32, math.MaxInt}

// lo is elements of one word each.
func lo(l ...uint64) []api.Elem {
	out := make([]api.Elem, len(l))
	for i, n := range l {
		out[i] = api.Elem{Lo: n}
	}
	return out
}

// elems are elements by their digits to the base 16, with spaces between.
func elems(t *testing.T, s string) []api.Elem {
	t.Helper()
	var l []api.Elem
	for _, x := range strings.Fields(s) {
		n, ok := new(big.Int).SetString(x, 16)
		if !ok {
			t.Fatalf("no number: %s", x)
		}
		low := new(big.Int).And(n, new(big.Int).SetUint64(math.MaxUint64))
		l = append(l, api.Elem{Hi: new(big.Int).Rsh(n, 64).Uint64(), Lo: low.Uint64()})
	}
	return l
}

// drawn is n elements of a level.
func drawn(rnd *rand.Rand, level, n int) []api.Elem {
	l := make([]api.Elem, n)
	for i := range l {
		l[i].Lo = rnd.Uint64()
		if level == 7 {
			l[i].Hi = rnd.Uint64()
		} else {
			l[i].Lo &= 1<<(1<<level) - 1
		}
	}
	return l
}

// tooHigh are elements that are not of a level.
func tooHigh(level int) []api.Elem {
	if level == 7 {
		return nil
	}
	return []api.Elem{tower.Bit(1 << level), tower.Bit(127), tower.Add(tower.One(), tower.Bit(1<<level))}
}

// put is a list with another element at a place.
func put(l []api.Elem, i int, e api.Elem) []api.Elem {
	out := slices.Clone(l)
	out[i] = e
	return out
}

// plus is 1 + e.
func plus(e api.Elem) api.Elem {
	return tower.Add(tower.One(), e)
}

// modelWeight is the weight of one corner, factor by factor.
func modelWeight(level int, p []api.Elem, i int) api.Elem {
	w := tower.One()
	for j, x := range p {
		if i>>j&1 == 0 {
			x = plus(x)
		}
		w = tower.Mul(level, w, x)
	}
	return w
}

// modelAt is a value, corner by corner.
func modelAt(level int, t, p []api.Elem) api.Elem {
	var sum api.Elem
	for i, e := range t {
		sum = tower.Add(sum, tower.Mul(level, modelWeight(level, p, i), e))
	}
	return sum
}

// modelFirst is a table bound in its first variable.
func modelFirst(level int, t []api.Elem, r api.Elem) []api.Elem {
	var out []api.Elem
	for i := 0; i < len(t); i += 2 {
		out = append(out, tower.Add(tower.Mul(level, plus(r), t[i]), tower.Mul(level, r, t[i+1])))
	}
	return out
}

// modelLast is a table bound in its last variable.
func modelLast(level int, t []api.Elem, r api.Elem) []api.Elem {
	var out []api.Elem
	low, high := t[:len(t)/2], t[len(t)/2:]
	for i := range low {
		out = append(out, tower.Add(tower.Mul(level, plus(r), low[i]), tower.Mul(level, r, high[i])))
	}
	return out
}

// all hands on tables of all levels and up to most variables, and a point for each.
func all(most int, look func(rnd *rand.Rand, level int, t, p []api.Elem)) {
	rnd := rand.New(rand.NewPCG(15, 1))
	for level := range 8 {
		for n := range most + 1 {
			look(rnd, level, drawn(rnd, level, 1<<n), drawn(rnd, level, n))
		}
	}
}

// value is a value that there is.
func value(t *testing.T, level int, table, p []api.Elem) api.Elem {
	t.Helper()
	v, e := cube.At(level, table, p)
	if e != api.OK {
		t.Fatalf("At(%d) of %d elements at %d: %v", level, len(table), len(p), e)
	}
	return v
}

// 15.1
func TestLog(t *testing.T) {
	logs := map[int]int{}
	for k := range 17 {
		logs[1<<k] = k
	}
	for n := -10; n <= 1<<18; n++ {
		want, ok := logs[n]
		if !ok {
			want = -1
		}
		if got := cube.Log(n); got != want {
			t.Errorf("Log(%d): %d", n, got)
		}
	}
	for _, n := range []int{math.MinInt, math.MinInt + 1, math.MinInt32, -1 << 16, 1 << 31, 1 << 32, 1<<32 + 1, 1 << 62, math.MaxInt - 1, math.MaxInt} {
		if got := cube.Log(n); got != -1 {
			t.Errorf("Log(%d): %d", n, got)
		}
	}
}

// 15.1, 15.2: values that were worked out apart from the program.
func TestFixed(t *testing.T) {
	for _, x := range []struct {
		level                                         int
		table, point, weights, at, first, last, alike string
	}{
		{0, "1 0 0 1 1 0 0 1", "1 0 0", "0 1 0 0 0 0 0 0", "0", "0 0", "1 0", "0"},
		{1, "0 3 3 2 0 3 2 3", "1 0 0", "0 1 0 0 0 0 0 0", "3", "3 3", "0 3", "0"},
		{2, "5 7 b 5 4 6 4 5", "3 e d", "b d f 5 e 7 8 c", "8", "c 2", "0 a", "b"},
		{3, "34 df 5a cc 50 39 4e ec", "ba 82 6b", "f8 1f 59 d4 6d 9 77 78", "94", "12 5d", "6b bd", "ae"},
		{4, "3b3c 93c0 749e d736 6b7c 7d57 1436 760b", "908f cc8d 5c26", "1c24 8c2 371d 7fdc d83c 56 638b e7c7", "88f4", "5ebe 5b73", "6fc7 f43e", "ab9f"},
		{5, "70762013 91d255c0 50ae0144 ee22b9b5 b1abac56 a5442840 7359c053 67b4a948", "c6e22ec6 dd132f51 cf439961", "10b1dcc 10e51bfa a6c36b64 786ef432 8fc109f c40139f9 69d648f0 6a68f8f7", "72b9752a", "36ace270 e47e26b3", "66ccce4 a0c211fb", "b950844d"},
		{6, "10dad339fec3a6f6 f58ed9f87d81739b d6bc8874f1ed255f 321a16f504cccda3 88b020b723ebe36e 9d3246282c14f064 c8f40e9df0250392 d8169727b0c39f25", "4731888b815c7c5 87ad23ff495fbdb1 26d522e87eb75787", "470320ced17e7ea1 6b191ec2cd82b8f0 4c81eddecab5727b 464ef13aa8fee3ac 8833b0892740661e 2384ad7a72e31dff 87c26511849ead00 aa05a0aaf8a8166", "bfba6ea433afd9e3", "4b97d411f1fa557 4d91f7ec34da081", "5135a0d676fdd87d 3443d63fa8e8b3a6", "2d2500838ed90f25"},
		{7, "e44f2a3119917326db05ece1e316ac95 12d6afd60c2377526537307d1dc0b5d4 ebe7b475d729d75db9bdfa0e77fa34b4 ec31bec766c609b24bbaf5498e13db3a 8b2f76e82de0cd6a3b7c80968086c746 140c1f555a92baad8004aba8f2b8d77e 2a1fa7bd4facf6e94f63c0fd3c39fecb 630b55b75179fba1a04bb173d32eca48", "dec3f215560fb97979fef3c0e7a16644 c1da023712fed568c825f34271095291 45bf1e0ccbd0951bd672b96fe85008d5", "7f152cb9bbb6259c167e856b1ecf7bb9 3dfd42fe7bb1219b9eae9aad808b991 46cf6f6087863c61514c10cc94df15d 3d19106c9fa5c1586cf214a2e7da3ba1 e4dcc0249cf47f1a9716c24c0cfd9f94 59cc3a85d2079df7f0a75dcfbb330f2c 4166e87e79358039ed8275eb3cde7335 b9c90cd3fc16f7cf5c4153076340eb58", "56cb9100c6e6d561974cade9827cf091", "ef40129f797ae2c324ce4921a3907ac2 4c7a59390adc94d502d0340a8c3dad37", "d92d226a06bd99c27e3743bdd929f837 7af1f461b0893e49b6610c3e7d1f80e0", "e6a440b3f2f885eea8b22e2ddafce43a"},
	} {
		table, p := elems(t, x.table), elems(t, x.point)
		if got := cube.Weights(x.level, p); !slices.Equal(got, elems(t, x.weights)) {
			t.Errorf("Weights of level %d: %x", x.level, got)
		}
		if got, e := cube.At(x.level, table, p); e != api.OK || got != elems(t, x.at)[0] {
			t.Errorf("At of level %d: %x, %v", x.level, got, e)
		}
		if got, e := cube.First(x.level, table, p[0], p[1]); e != api.OK || !slices.Equal(got, elems(t, x.first)) {
			t.Errorf("First of level %d: %x, %v", x.level, got, e)
		}
		if got, e := cube.Last(x.level, table, p[0], p[1]); e != api.OK || !slices.Equal(got, elems(t, x.last)) {
			t.Errorf("Last of level %d: %x, %v", x.level, got, e)
		}
		if got := cube.Alike(x.level, p, []api.Elem{p[1], p[2], p[0]}); got != elems(t, x.alike)[0] {
			t.Errorf("Alike of level %d: %x", x.level, got)
		}
	}
	// The chapter's example.
	if got, e := cube.At(2, lo(1, 2), lo(3)); e != api.OK || got != lo(3)[0] {
		t.Errorf("the table 1, 2 at 3: %v, %v", got, e)
	}
}

// 15.1
func TestWeights(t *testing.T) {
	all(7, func(rnd *rand.Rand, level int, table, p []api.Elem) {
		before := slices.Clone(p)
		got := cube.Weights(level, p)
		if len(got) != len(table) {
			t.Fatalf("Weights(%d) of %d: %d", level, len(p), len(got))
		}
		for i, w := range got {
			if w != modelWeight(level, p, i) {
				t.Errorf("Weights(%d, %v): %v at %d", level, p, w, i)
			}
		}
		if tower.Sum(got...) != tower.One() {
			t.Errorf("the weights at %v are %v in all", p, tower.Sum(got...))
		}
		if !slices.Equal(p, before) {
			t.Errorf("Weights changed the point")
		}
	})
	for level := range 8 {
		for _, none := range [][]api.Elem{nil, {}} {
			if got := cube.Weights(level, none); !slices.Equal(got, lo(1)) {
				t.Errorf("Weights(%d) of no elements: %v", level, got)
			}
		}
	}
}

// 15.1: as many elements as may be, and one more.
func TestWeightsMost(t *testing.T) {
	rnd := rand.New(rand.NewPCG(15, 2))
	for level := range 8 {
		p := drawn(rnd, level, 17)
		got := cube.Weights(level, p[:16])
		if len(got) != 1<<16 {
			t.Fatalf("Weights(%d) of 16 elements: %d", level, len(got))
		}
		for _, i := range []int{0, 1, 2, 0xffff, 0x8000, 0x7fff, 0xaaaa, 0x5555, rnd.IntN(1 << 16), rnd.IntN(1 << 16)} {
			if got[i] != modelWeight(level, p[:16], i) {
				t.Errorf("Weights(%d) of 16 elements: %v at %d", level, got[i], i)
			}
		}
		if cube.Weights(level, p) != nil || cube.Weights(level, make([]api.Elem, 100)) != nil {
			t.Errorf("Weights(%d) of too many elements", level)
		}
	}
}

// 15.1
func TestWeightsNone(t *testing.T) {
	for level := range 8 {
		for _, x := range tooHigh(level) {
			for n := 1; n <= 16; n += 5 {
				for i := range n {
					if got := cube.Weights(level, put(make([]api.Elem, n), i, x)); got != nil {
						t.Errorf("Weights(%d) with %v at %d: %d", level, x, i, len(got))
					}
				}
			}
		}
	}
	for _, level := range noLevels {
		if cube.Weights(level, nil) != nil || cube.Weights(level, []api.Elem{}) != nil || cube.Weights(level, lo(0)) != nil || cube.Weights(level, lo(1, 0, 1)) != nil {
			t.Errorf("Weights of the level %d", level)
		}
	}
}

// 15.1, 15.3: Alike is a product, and the value of the weights of one point at the other.
func TestAlike(t *testing.T) {
	all(8, func(rnd *rand.Rand, level int, _, p []api.Elem) {
		q := drawn(rnd, level, len(p))
		before := slices.Concat(p, q)
		want := tower.One()
		for j := range p {
			want = tower.Mul(level, want, plus(tower.Add(p[j], q[j])))
		}
		if got := cube.Alike(level, p, q); got != want || cube.Alike(level, q, p) != want {
			t.Errorf("Alike(%d, %v, %v): %v", level, p, q, got)
		}
		if got := value(t, level, cube.Weights(level, p), q); got != want {
			t.Errorf("the weights at %v have at %v the value %v", p, q, got)
		}
		if !slices.Equal(before, slices.Concat(p, q)) {
			t.Errorf("Alike changed a point")
		}
	})
}

// 15.1: at corners Alike tells whether they are one.
func TestAlikeCorners(t *testing.T) {
	for level := range 8 {
		for i := range 8 {
			for j := range 8 {
				want := api.Elem{}
				if i == j {
					want = tower.One()
				}
				if got := cube.Alike(level, cube.Corner(3, i), cube.Corner(3, j)); got != want {
					t.Errorf("Alike(%d) of the corners %d and %d: %v", level, i, j, got)
				}
			}
		}
	}
}

// 15.1: no elements, and many: Alike knows no most.
func TestAlikeLengths(t *testing.T) {
	rnd := rand.New(rand.NewPCG(15, 3))
	for level := range 8 {
		if cube.Alike(level, nil, nil) != tower.One() || cube.Alike(level, nil, []api.Elem{}) != tower.One() {
			t.Errorf("Alike(%d) of no elements", level)
		}
		for _, n := range []int{1, 2, 15, 16, 17, 18, 100} {
			a, b := drawn(rnd, level, n), drawn(rnd, level, n)
			want := tower.One()
			for j := range a {
				want = tower.Mul(level, want, plus(tower.Add(a[j], b[j])))
			}
			if got := cube.Alike(level, a, b); got != want {
				t.Errorf("Alike(%d) of %d elements: %v, not %v", level, n, got, want)
			}
			if cube.Alike(level, a, a) != tower.One() {
				t.Errorf("Alike(%d) of one list of %d elements", level, n)
			}
		}
		zeros := make([]api.Elem, 17)
		for n := range 18 {
			for m := range 18 {
				if got := cube.Alike(level, zeros[:n], zeros[:m]); (got == tower.One()) != (n == m) || n != m && got != (api.Elem{}) {
					t.Errorf("Alike(%d) of %d and %d elements: %v", level, n, m, got)
				}
			}
		}
	}
}

// 15.1: an element that is not of the level, in one list or in both, where the sum may be of it.
func TestAlikeNone(t *testing.T) {
	var none api.Elem
	for level := range 8 {
		for _, x := range tooHigh(level) {
			zeros := make([]api.Elem, 5)
			for i := range zeros {
				wrong := put(zeros, i, x)
				if cube.Alike(level, wrong, zeros) != none || cube.Alike(level, zeros, wrong) != none || cube.Alike(level, wrong, wrong) != none {
					t.Errorf("Alike(%d) with %v at %d", level, x, i)
				}
			}
		}
	}
	for _, level := range noLevels {
		if cube.Alike(level, lo(0), lo(0)) != none || cube.Alike(level, lo(1, 0), lo(1, 0)) != none || cube.Alike(level, nil, lo(0)) != none {
			t.Errorf("Alike of the level %d", level)
		}
		// None of no elements is not of the level.
		if cube.Alike(level, nil, nil) != tower.One() {
			t.Errorf("Alike of the level %d, no elements: %v", level, cube.Alike(level, nil, nil))
		}
	}
}

// 15.1
func TestCorner(t *testing.T) {
	for n := 1; n <= 16; n++ {
		for i := range 1 << n {
			got := cube.Corner(n, i)
			if len(got) != n {
				t.Fatalf("Corner(%d, %d): %v", n, i, got)
			}
			back := 0
			for j, e := range got {
				if e.Hi != 0 || e.Lo > 1 {
					t.Fatalf("Corner(%d, %d): %v", n, i, got)
				}
				back += int(e.Lo) << j
			}
			if back != i {
				t.Fatalf("Corner(%d, %d): %v", n, i, got)
			}
		}
		for _, i := range []int{math.MinInt, -1 << n, -2, -1, 1 << n, 1<<n + 1, 2 << n, 1 << 32, math.MaxInt} {
			if got := cube.Corner(n, i); got != nil {
				t.Errorf("Corner(%d, %d): %v", n, i, got)
			}
		}
	}
	for _, n := range []int{math.MinInt, -64, -1, 0, 17, 18, 63, 64, 65, math.MaxInt} {
		for _, i := range []int{-1, 0, 1, 1<<17 - 1, math.MaxInt} {
			if got := cube.Corner(n, i); got != nil {
				t.Errorf("Corner(%d, %d): %v", n, i, got)
			}
		}
	}
	if !slices.Equal(cube.Corner(1, 0), lo(0)) || !slices.Equal(cube.Corner(3, 6), lo(0, 1, 1)) {
		t.Errorf("Corner(1, 0), Corner(3, 6): %v, %v", cube.Corner(1, 0), cube.Corner(3, 6))
	}
}

// 15.2
func TestAt(t *testing.T) {
	all(8, func(_ *rand.Rand, level int, table, p []api.Elem) {
		before := slices.Concat(table, p)
		if got := value(t, level, table, p); got != modelAt(level, table, p) {
			t.Errorf("At(%d, %v, %v): %v", level, table, p, got)
		}
		if !slices.Equal(before, slices.Concat(table, p)) {
			t.Errorf("At changed what was handed in")
		}
	})
}

// 15.2, 15.3: at a corner the value is the element there.
func TestAtCorners(t *testing.T) {
	all(6, func(_ *rand.Rand, level int, table, p []api.Elem) {
		if len(p) == 0 {
			if got := value(t, level, table, nil); got != table[0] {
				t.Errorf("At(%d, %v) of no variables: %v", level, table, got)
			}
			return
		}
		for i, want := range table {
			if got := value(t, level, table, cube.Corner(len(p), i)); got != want {
				t.Errorf("At(%d, %v) at the corner %d: %v", level, table, i, got)
			}
		}
	})
}

// 15.3: values go over sums.
func TestAtSums(t *testing.T) {
	all(6, func(rnd *rand.Rand, level int, table, p []api.Elem) {
		other, by := drawn(rnd, level, len(table)), drawn(rnd, level, 1)[0]
		var sum []api.Elem
		for i := range table {
			sum = append(sum, tower.Add(table[i], tower.Mul(level, by, other[i])))
		}
		want := tower.Add(value(t, level, table, p), tower.Mul(level, by, value(t, level, other, p)))
		if got := value(t, level, sum, p); got != want {
			t.Errorf("At(%d, %v, %v): %v, not %v", level, sum, p, got, want)
		}
	})
}

// 15.2
func TestFirstAndLast(t *testing.T) {
	all(7, func(rnd *rand.Rand, level int, table, r []api.Elem) {
		before := slices.Concat(table, r)
		first, last := table, table
		for n := range len(r) + 1 {
			a, e := cube.First(level, table, r[:n]...)
			b, f := cube.Last(level, table, r[:n]...)
			if e != api.OK || f != api.OK || len(a) != len(table)>>n || !slices.Equal(a, first) || !slices.Equal(b, last) {
				t.Fatalf("First, Last(%d, %v, %v): %v, %v; %v, %v", level, table, r[:n], a, e, b, f)
			}
			if !slices.Equal(before, slices.Concat(table, r)) {
				t.Fatalf("First or Last changed what was handed in")
			}
			clear(a)
			clear(b)
			if !slices.Equal(before, slices.Concat(table, r)) {
				t.Fatalf("an answer shares memory with what was handed in")
			}
			if n < len(r) {
				first, last = modelFirst(level, first, r[n]), modelLast(level, last, r[n])
			}
		}
	})
}

// 15.3: what is bound has at a point the value that the table has at the point with what it was bound to ahead of it, or behind it, the last one first.
func TestBoundValues(t *testing.T) {
	all(7, func(rnd *rand.Rand, level int, table, p []api.Elem) {
		want := value(t, level, table, p)
		for n := range len(p) + 1 {
			a, _ := cube.First(level, table, p[:n]...)
			if got := value(t, level, a, p[n:]); got != want {
				t.Errorf("First(%d) of %d: %v, not %v", level, n, got, want)
			}
			behind := slices.Clone(p[len(p)-n:])
			slices.Reverse(behind)
			b, _ := cube.Last(level, table, behind...)
			if got := value(t, level, b, p[:len(p)-n]); got != want {
				t.Errorf("Last(%d) of %d: %v, not %v", level, n, got, want)
			}
		}
	})
}

// 15.2: bound to noughts and ones a table is one of its parts.
func TestBoundToCorners(t *testing.T) {
	table := lo(10, 11, 12, 13, 14, 15, 16, 17)
	for _, x := range []struct {
		r           []api.Elem
		first, last []api.Elem
	}{
		{nil, table, table},
		{lo(0), lo(10, 12, 14, 16), lo(10, 11, 12, 13)},
		{lo(1), lo(11, 13, 15, 17), lo(14, 15, 16, 17)},
		{lo(0, 1), lo(12, 16), lo(12, 13)},
		{lo(1, 0), lo(11, 15), lo(14, 15)},
		{lo(1, 0, 0), lo(11), lo(14)},
		{lo(1, 1, 0), lo(13), lo(16)},
	} {
		a, e := cube.First(3, table, x.r...)
		b, f := cube.Last(3, table, x.r...)
		if e != api.OK || f != api.OK || !slices.Equal(a, x.first) || !slices.Equal(b, x.last) {
			t.Errorf("bound to %v: %v, %v; %v, %v", x.r, a, e, b, f)
		}
	}
}

// 15.2: tables as great as may be.
func TestGreatTables(t *testing.T) {
	rnd := rand.New(rand.NewPCG(15, 4))
	for _, level := range []int{0, 3, 7} {
		table, p := drawn(rnd, level, 1<<16), drawn(rnd, level, 16)
		before := slices.Clone(table)
		want := modelAt(level, table, p)
		if got := value(t, level, table, p); got != want {
			t.Errorf("At(%d) of 2^16 elements: %v, not %v", level, got, want)
		}
		a, e := cube.First(level, table, p...)
		if e != api.OK || !slices.Equal(a, []api.Elem{want}) {
			t.Errorf("First(%d) of 2^16 elements: %v, %v", level, a, e)
		}
		slices.Reverse(p)
		b, e := cube.Last(level, table, p...)
		if e != api.OK || !slices.Equal(b, []api.Elem{want}) {
			t.Errorf("Last(%d) of 2^16 elements: %v, %v", level, b, e)
		}
		a, e = cube.First(level, table)
		b, f := cube.Last(level, table)
		if e != api.OK || f != api.OK || !slices.Equal(a, before) || !slices.Equal(b, before) || !slices.Equal(table, before) {
			t.Errorf("a table of 2^16 elements, not bound: %v, %v", e, f)
		}
		for i := range 5 {
			at := 1<<16 - 1 - i*1000
			if got := value(t, level, table, cube.Corner(16, at)); got != table[at] {
				t.Errorf("At(%d) at the corner %d: %v", level, at, got)
			}
		}
	}
}

// refused looks at all three calls for one error, and for nothing beside it.
func refused(t *testing.T, what string, want api.Errno, level int, table, r []api.Elem) {
	t.Helper()
	if v, e := cube.At(level, table, r); e != want || v != (api.Elem{}) {
		t.Errorf("At, %s: %v, %v", what, v, e)
	}
	if l, e := cube.First(level, table, r...); e != want || l != nil {
		t.Errorf("First, %s: %d, %v", what, len(l), e)
	}
	if l, e := cube.Last(level, table, r...); e != want || l != nil {
		t.Errorf("Last, %s: %d, %v", what, len(l), e)
	}
}

// 15.2: a level that is none is told ahead of all.
func TestErrArg(t *testing.T) {
	high := tower.Bit(127)
	for _, level := range noLevels {
		refused(t, "a right table", api.ErrArg, level, lo(1, 0), lo(1))
		refused(t, "one element", api.ErrArg, level, lo(1), nil)
		refused(t, "no elements", api.ErrArg, level, nil, nil)
		refused(t, "three elements", api.ErrArg, level, lo(1, 0, 1), lo(1))
		refused(t, "too long a point", api.ErrArg, level, lo(1, 0), lo(1, 1))
		refused(t, "no element of any level below 7", api.ErrArg, level, []api.Elem{high, high, high}, []api.Elem{high})
	}
}

// 15.2: sizes that do not fit are told ahead of elements that are none.
func TestErrSize(t *testing.T) {
	many := make([]api.Elem, 1<<17)
	for level := range 8 {
		for _, x := range append(tooHigh(level), api.Elem{}) {
			for _, n := range []int{3, 5, 6, 7, 9, 12, 1<<16 - 1, 1<<16 + 1, 3 << 15, 1<<17 - 1, 1 << 17} {
				many[n-1] = x
				for _, m := range []int{0, 1, 2, 16, 17} {
					refused(t, "no table", api.ErrSize, level, many[:n], many[:m])
				}
				many[n-1] = api.Elem{}
			}
			for n := range 17 {
				many[0] = x
				refused(t, "one element too many", api.ErrSize, level, many[:1<<n], many[:n+1])
				refused(t, "many elements too many", api.ErrSize, level, many[:1<<n], many[:1<<n+n])
				for m := range n {
					if v, e := cube.At(level, many[:1<<n], many[:m]); e != api.ErrSize || v != (api.Elem{}) {
						t.Errorf("At(%d), 2^%d elements at %d: %v, %v", level, n, m, v, e)
					}
				}
				many[0] = api.Elem{}
			}
			for _, m := range []int{0, 1, 2, 16, 17, 31, 32, 33, 63, 64, 65, 128} {
				refused(t, "no elements", api.ErrSize, level, nil, many[:m])
				refused(t, "an empty list", api.ErrSize, level, []api.Elem{}, many[:m])
			}
		}
	}
}

// 15.2: an element that is not of the level, wherever it stands.
func TestErrField(t *testing.T) {
	for level := range 8 {
		for _, x := range tooHigh(level) {
			for n := range 6 {
				table, p := make([]api.Elem, 1<<n), make([]api.Elem, n)
				for i := range table {
					refused(t, "in the table", api.ErrField, level, put(table, i, x), p)
					for m := range n {
						if l, e := cube.First(level, put(table, i, x), p[:m]...); e != api.ErrField || l != nil {
							t.Errorf("First(%d) with %v at %d: %v, %v", level, x, i, l, e)
						}
						if l, e := cube.Last(level, put(table, i, x), p[:m]...); e != api.ErrField || l != nil {
							t.Errorf("Last(%d) with %v at %d: %v, %v", level, x, i, l, e)
						}
					}
				}
				for i := range p {
					refused(t, "in the point", api.ErrField, level, table, put(p, i, x))
					refused(t, "in both", api.ErrField, level, put(table, i, x), put(p, i, x))
				}
			}
		}
	}
}

// 15.2, R3: elements of the table itself may be what it is bound to.
func TestBoundToItself(t *testing.T) {
	table := lo(200, 9, 77, 33)
	before := slices.Clone(table)
	a, e := cube.First(3, table, table[:2]...)
	b, f := cube.Last(3, table, table[:2]...)
	if e != api.OK || f != api.OK || !slices.Equal(table, before) {
		t.Fatalf("the table is %v: %v, %v", table, e, f)
	}
	if !slices.Equal(a, modelFirst(3, modelFirst(3, table, table[0]), table[1])) || !slices.Equal(b, modelLast(3, modelLast(3, table, table[0]), table[1])) {
		t.Errorf("First, Last: %v, %v", a, b)
	}
}

// R3: what stands behind the end of a list that is handed in is not touched.
func TestBehindTheEnd(t *testing.T) {
	room := lo(1, 2, 3, 4, 5, 6, 7, 8)
	before := slices.Clone(room)
	l, _ := cube.First(3, room[:4])
	l = append(l, lo(99)...)
	m, _ := cube.Last(3, room[:4], room[:1]...)
	m = append(m, lo(98)...)
	w := append(cube.Weights(3, room[:2]), lo(97)...)
	if v := value(t, 3, room[:4], room[:2]); !slices.Equal(room, before) || len(l)+len(m)+len(w) != 13 || v != modelAt(3, room[:4], room[:2]) {
		t.Errorf("what was handed in: %v", room)
	}
}

// R4: what is reckoned in a level is the same in each above.
func TestLevelsAbove(t *testing.T) {
	all(4, func(rnd *rand.Rand, level int, table, p []api.Elem) {
		for above := level; above < 8; above++ {
			a, _ := cube.First(level, table, p...)
			b, _ := cube.First(above, table, p...)
			if !slices.Equal(a, b) || value(t, level, table, p) != value(t, above, table, p) || !slices.Equal(cube.Weights(level, p), cube.Weights(above, p)) || cube.Alike(level, p, p) != cube.Alike(above, p, p) {
				t.Errorf("%v at %v: levels %d and %d differ", table, p, level, above)
			}
		}
	})
}
