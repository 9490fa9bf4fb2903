package packv_test

import (
	"math/rand/v2"
	"slices"
	"testing"

	"steeple/api"
	"steeple/cube"
	"steeple/packv"
	"steeple/tower"
)

// weights are those of all corners at a point, factor by factor.
func weights(level int, p []api.Elem) []api.Elem {
	out := make([]api.Elem, 1<<len(p))
	for i := range out {
		out[i] = tower.One()
		for j, x := range p {
			if i>>j&1 == 0 {
				x = tower.Add(tower.One(), x)
			}
			out[i] = tower.Mul(level, out[i], x)
		}
	}
	return out
}

// modelSum is the pairs of weights, corner by corner.
func modelSum(level int, p, q []api.Elem) packv.Tensor {
	left, right := weights(level, p), weights(level, q)
	l := make(pairs, len(left))
	for x := range l {
		l[x] = [2]api.Elem{left[x], right[x]}
	}
	return l.of(level)
}

// modelAlike is the product of the factors, as the words say.
func modelAlike(t *testing.T, level int, p, q []api.Elem) packv.Tensor {
	t.Helper()
	product := packv.One(level)
	for j := range p {
		factor := add(t, level, packv.One(level), add(t, level, packv.Left(level, p[j]), packv.Right(level, q[j])))
		product = times(t, level, product, factor)
	}
	return product
}

// 19.3: worked out apart from the program, by all corners.
func TestAlikeFixed(t *testing.T) {
	for _, a := range []struct {
		level      int
		p, q, want string
	}{
		{0, "1", "0", "0"},
		{0, "", "", "1"},
		{1, "1 0", "3 3", "1 0"},
		{2, "9 6 5", "b c b", "5 3 2 6"},
		{3, "28 63 ef c3", "a b0 5a 9a", "f7 95 e1 df 87 fe bc 7a"},
		{4, "c7a3 8db8", "e9d5 cc3a", "51ec cc3a 0 e9d5 e9d4 25ef 0 25ef 25ee cc3b 25ef e9d5 1 0 cc3b 25ef"},
	} {
		p, q, want := elems(t, a.p), elems(t, a.q), packv.Tensor(elems(t, a.want))
		got, e := packv.Alike(a.level, p, q)
		is(t, "Alike", got, e, want)
		is(t, "Sum", packv.Sum(a.level, p, q), api.OK, want)
	}
}

// 19.3: Alike, folded by the weights of a point, worked out apart from the program.
func TestAlikeFolded(t *testing.T) {
	for _, a := range []struct {
		level             int
		p, q, point, want string
	}{
		{5, "5b37e20e 79012e41 8ef90b09", "92e0aefb ac674d69 39e2be70", "f9a9e28f 9d451ab3 159121ed 550a84e8 e0ad5965", "77faa626"},
		{6, "6ee57376f64ca27 b20608aaa030f9a7 8bb8f8cac484c7d", "f8755b74919f1209 ebfca71dbf71e860 58f40c89ad2d099e", "d60385ab3b7ee8cc f3bb83bc5933aeb7 fa6d2f4998b3f2df 929e6657df8f5719 6bec1c7859c75a4b 5f3b9bf250397c6", "1c4962efe0280d71"},
		{7, "7b34fc489bc90a14081da3f553abbbb5 8c36f41be83ff6fbfe5d5b1de4b127d8 29295d8d3a30bceadc582fd7ca8da8f9", "a8a94e1db01441a74e8ded38e7b92cfc 8fd92f4e46719803419bec8c3035f3df 7151dcbbb29e660924f7fa00b0fac027", "214aa75a024c1c11233b7bda8481cbd 33b39d901414c03d855c00876a362290 2f04df983b1e2600a9cd92755308b254 9c2de30ff506c7d0066044183dfea098 8d6e00849fb76830c6f9ae63d09bcdc9 9966ba3852c3572abe5d7a3ecc5bb50a 4fba47f3aff8211387a4c8d309f943d7", "e735a4dbde958506960de7331182ea"},
	} {
		p, q, w := elems(t, a.p), elems(t, a.q), weights(a.level, elems(t, a.point))
		x, e := packv.Alike(a.level, p, q)
		for _, l := range []packv.Tensor{there(t, x, e), packv.Sum(a.level, p, q)} {
			if got, e := packv.Fold(a.level, l, w); e != api.OK || got != elems(t, a.want)[0] {
				t.Errorf("level %d: %x, %v", a.level, got, e)
			}
		}
	}
}

// 19.3, 19.4: Alike is the product, Sum goes over the corners, and both are one.
func TestAlikeIsSum(t *testing.T) {
	rnd := rand.New(rand.NewPCG(19, 7))
	for level := range 8 {
		for n := range 9 {
			p, q := drawn(rnd, level, n), drawn(rnd, level, n)
			want := modelSum(level, p, q)
			got, e := packv.Alike(level, p, q)
			is(t, "Alike", got, e, want)
			is(t, "Sum", packv.Sum(level, p, q), api.OK, want)
			is(t, "the product", modelAlike(t, level, p, q), api.OK, want)
		}
	}
}

// 19.3: all points of two variables of the first levels.
func TestAlikeAll(t *testing.T) {
	for level := range 2 {
		n := uint64(1) << (1 << level)
		for i := range n * n * n * n {
			p, q := lo(i%n, i/n%n), lo(i/n/n%n, i/n/n/n)
			got, e := packv.Alike(level, p, q)
			is(t, "Alike", got, e, modelSum(level, p, q))
			is(t, "Sum", packv.Sum(level, p, q), api.OK, got)
		}
	}
}

// 19.3: no elements.
func TestAlikeOfNothing(t *testing.T) {
	for level := range 8 {
		for _, p := range [][]api.Elem{nil, {}} {
			got, e := packv.Alike(level, p, nil)
			is(t, "Alike of nothing", got, e, packv.One(level))
			is(t, "Sum of nothing", packv.Sum(level, nil, p), api.OK, packv.One(level))
		}
	}
}

// 19.3: at corners it is 1, where they are the same, else 0; with one corner it is a weight of the other point.
func TestAlikeAtCorners(t *testing.T) {
	rnd := rand.New(rand.NewPCG(19, 8))
	for level := range 8 {
		for i := range 8 {
			c, p := cube.Corner(3, i), drawn(rnd, level, 3)
			for k := range 8 {
				want := make(packv.Tensor, 1<<level)
				if i == k {
					want = packv.One(level)
				}
				got, e := packv.Alike(level, c, cube.Corner(3, k))
				is(t, "Alike", got, e, want)
				is(t, "Sum", packv.Sum(level, c, cube.Corner(3, k)), api.OK, want)
			}
			got, e := packv.Alike(level, p, c)
			is(t, "Alike with a corner on the right", got, e, packv.Left(level, weights(level, p)[i]))
			got, e = packv.Alike(level, c, p)
			is(t, "Alike with a corner on the left", got, e, packv.Right(level, weights(level, p)[i]))
		}
	}
}

// 19.3: as many elements as there may be.
func TestAlikeMost(t *testing.T) {
	rnd := rand.New(rand.NewPCG(19, 9))
	for _, level := range []int{0, 3, 7} {
		p, q := drawn(rnd, level, api.MaxVars), drawn(rnd, level, api.MaxVars)
		got, e := packv.Alike(level, p, q)
		is(t, "Alike", got, e, modelAlike(t, level, p, q))
		is(t, "Sum", packv.Sum(level, p, q), api.OK, got)
	}
}

// noAlike asks for an error of Alike and for nothing beside it, and for nothing of Sum.
func noAlike(t *testing.T, level int, p, q []api.Elem, want api.Errno) {
	t.Helper()
	if got, e := packv.Alike(level, p, q); e != want || len(got) != 0 {
		t.Errorf("Alike(%d) of %d, %d: %v, %v, not %v", level, len(p), len(q), got, e, want)
	}
	if got := packv.Sum(level, p, q); len(got) != 0 {
		t.Errorf("Sum(%d) of %d, %d: %v", level, len(p), len(q), got)
	}
}

// 19.3: what may not be, and which error comes first.
func TestAlikeErrors(t *testing.T) {
	for _, level := range noLevels {
		for _, e := range []api.Elem{{}, tower.One(), tower.Bit(127)} {
			l := slices.Repeat([]api.Elem{e}, 20)
			for _, n := range []int{0, 1, 3, 16, 17, 20} {
				noAlike(t, level, l[:n], l[:n], api.ErrArg)
				noAlike(t, level, l[:n], l[:1], api.ErrArg)
				noAlike(t, level, l[:2], l[:n], api.ErrArg)
			}
		}
	}
	for level := range 8 {
		for _, e := range append(tooHigh(level), api.Elem{}) {
			l := slices.Repeat([]api.Elem{e}, 130)
			for _, sizes := range [][2]int{{0, 1}, {1, 0}, {1, 2}, {3, 2}, {15, 16}, {16, 15}, {16, 17}, {17, 16}, {17, 17}, {18, 18}, {32, 32}, {64, 64}, {130, 130}, {0, 17}, {130, 1}} {
				noAlike(t, level, l[:sizes[0]], l[:sizes[1]], api.ErrSize)
			}
		}
		for _, e := range tooHigh(level) {
			for _, n := range []int{1, 2, 5, 16} {
				zeros := make([]api.Elem, n)
				for j := range n {
					noAlike(t, level, put(zeros, j, e), zeros, api.ErrField)
					noAlike(t, level, zeros, put(zeros, j, e), api.ErrField)
					noAlike(t, level, put(zeros, j, e), put(zeros, j, e), api.ErrField)
				}
			}
		}
	}
}

// 19.3
func TestFold(t *testing.T) {
	rnd := rand.New(rand.NewPCG(19, 10))
	for level := range 8 {
		n := 1 << level
		for range 10 {
			x, w := tensor(rnd, level), drawn(rnd, level, n)
			var want api.Elem
			for u := range n {
				want = tower.Add(want, tower.Mul(level, w[u], x[u]))
			}
			if got, e := packv.Fold(level, x, w); e != api.OK || got != want {
				t.Errorf("Fold(%d): %v, %v, not %v", level, got, e, want)
			}
		}
		x, zeros := tensor(rnd, level), make([]api.Elem, n)
		if got, e := packv.Fold(level, x, zeros); e != api.OK || got != (api.Elem{}) {
			t.Errorf("Fold(%d) by noughts: %v, %v", level, got, e)
		}
		for u := range n {
			if got, e := packv.Fold(level, x, put(zeros, u, tower.One())); e != api.OK || got != x[u] {
				t.Errorf("Fold(%d) by 1 at %d: %v, %v", level, u, got, e)
			}
		}
		// By the bits themselves a pair (a, b) folds to a b.
		l := drawnPairs(rnd, level, 1)
		bits := make([]api.Elem, n)
		for u := range n {
			bits[u] = tower.Bit(u)
		}
		if got, e := packv.Fold(level, l.of(level), bits); e != api.OK || got != tower.Mul(level, l[0][0], l[0][1]) {
			t.Errorf("Fold(%d) by the bits: %v, %v", level, got, e)
		}
	}
	if got, e := packv.Fold(1, lo(2, 3), lo(1, 2)); e != api.OK || got != lo(3)[0] {
		t.Errorf("Fold of 2, 3 by 1, 2: %v, %v", got, e)
	}
}

// noFold asks for an error of Fold, and for nothing beside it.
func noFold(t *testing.T, level int, x packv.Tensor, w []api.Elem, want api.Errno) {
	t.Helper()
	if got, e := packv.Fold(level, x, w); e != want || got != (api.Elem{}) {
		t.Errorf("Fold(%d) of %d parts by %d: %v, %v, not %v", level, len(x), len(w), got, e, want)
	}
}

// 19.1, 19.3: what may not be, and which error comes first.
func TestFoldErrors(t *testing.T) {
	for _, level := range noLevels {
		for _, l := range [][]api.Elem{nil, {}, lo(1), {tower.Bit(127)}, make([]api.Elem, 128)} {
			noFold(t, level, l, l, api.ErrArg)
			noFold(t, level, l, nil, api.ErrArg)
			noFold(t, level, nil, l, api.ErrArg)
		}
	}
	for level := range 8 {
		n := 1 << level
		for _, e := range append(tooHigh(level), api.Elem{}) {
			l := slices.Repeat([]api.Elem{e}, 300)
			for _, m := range []int{0, n - 1, n + 1, 2 * n, 300} {
				noFold(t, level, l[:m], l[:n], api.ErrSize)
				noFold(t, level, l[:n], l[:m], api.ErrSize)
				noFold(t, level, l[:m], l[:m], api.ErrSize)
			}
		}
		for _, e := range tooHigh(level) {
			zeros := make([]api.Elem, n)
			for u := range n {
				noFold(t, level, put(zeros, u, e), zeros, api.ErrField)
				noFold(t, level, zeros, put(zeros, u, e), api.ErrField)
				noFold(t, level, put(zeros, u, e), put(zeros, 0, e), api.ErrField)
			}
		}
	}
}
