package turn_test

import (
	"math"
	"math/big"
	"math/rand/v2"
	"slices"
	"strings"
	"testing"

	"steeple/api"
	"steeple/cube"
	"steeple/tower"
	"steeple/turn"
)

// noLevels are numbers that are no levels.
var noLevels = []int{math.MinInt, math.MinInt32, -64, -1, 8, 9, 63, 64, math.MaxInt32, math.MaxInt}

// elems are elements by their digits to the base 16, with spaces between.
func elems(t *testing.T, s string) []api.Elem {
	t.Helper()
	var l []api.Elem
	for _, x := range strings.Fields(s) {
		n, ok := new(big.Int).SetString(x, 16)
		if !ok {
			t.Fatalf("no number: %s", x)
		}
		low := new(big.Int).And(n, new(big.Int).SetUint64(math.MaxUint64))
		l = append(l, api.Elem{Hi: new(big.Int).Rsh(n, 64).Uint64(), Lo: low.Uint64()})
	}
	return l
}

// drawn is n elements of a level.
func drawn(rnd *rand.Rand, level, n int) []api.Elem {
	l := make([]api.Elem, n)
	for i := range l {
		l[i].Lo = rnd.Uint64()
		if level == 7 {
			l[i].Hi = rnd.Uint64()
		} else {
			l[i].Lo &= 1<<(1<<level) - 1
		}
	}
	return l
}

// tooHigh are elements that are not of a level.
func tooHigh(level int) []api.Elem {
	if level == 7 {
		return nil
	}
	return []api.Elem{tower.Bit(1 << level), tower.Bit(127), tower.Add(tower.One(), tower.Bit(1<<level))}
}

// put is a list with another element at a place.
func put(l []api.Elem, i int, e api.Elem) []api.Elem {
	out := slices.Clone(l)
	out[i] = e
	return out
}

// corner is a corner of w variables, of none too.
func corner(w, i int) []api.Elem {
	p := make([]api.Elem, w)
	for j := range p {
		p[j].Lo = uint64(i >> j & 1)
	}
	return p
}

// weights are those of all corners, factor by factor.
func weights(level int, p []api.Elem) []api.Elem {
	out := make([]api.Elem, 1<<len(p))
	for i := range out {
		out[i] = tower.One()
		for j, x := range p {
			if i>>j&1 == 0 {
				x = tower.Add(tower.One(), x)
			}
			out[i] = tower.Mul(level, out[i], x)
		}
	}
	return out
}

// modelAt is a sign, by its meaning: the weights of each pair of corners that has one.
func modelAt(level, kind, s int, x, y []api.Elem) api.Elem {
	var sum api.Elem
	of, at := weights(level, x), weights(level, y)
	for i := range of {
		for k := range at {
			if was(kind, len(of), s, i, k) {
				sum = tower.Add(sum, tower.Mul(level, of[i], at[k]))
			}
		}
	}
	return sum
}

// sign is a sign that there is.
func sign(t *testing.T, level, kind, w, s int, x, y []api.Elem) api.Elem {
	t.Helper()
	v, e := turn.At(level, kind, w, s, x, y)
	if e != api.OK {
		t.Fatalf("At(%d, %d, %d, %d) of %d, %d: %v", level, kind, w, s, len(x), len(y), e)
	}
	return v
}

// row is signs that there are.
func row(t *testing.T, level, kind, w, s int, x []api.Elem) []api.Elem {
	t.Helper()
	l, e := turn.Row(level, kind, w, s, x)
	if e != api.OK || len(l) != 1<<w {
		t.Fatalf("Row(%d, %d, %d, %d) of %d: %d, %v", level, kind, w, s, len(x), len(l), e)
	}
	return l
}

// noSign asks for an error of At, and for nothing beside it.
func noSign(t *testing.T, level, kind, w, s int, x, y []api.Elem, want api.Errno) {
	t.Helper()
	if v, e := turn.At(level, kind, w, s, x, y); e != want || v != (api.Elem{}) {
		t.Errorf("At(%d, %d, %d, %d) of %d, %d: %v, %v, not %v", level, kind, w, s, len(x), len(y), v, e, want)
	}
}

// noRow asks for an error of Row, and for nothing beside it.
func noRow(t *testing.T, level, kind, w, s int, x []api.Elem, want api.Errno) {
	t.Helper()
	if l, e := turn.Row(level, kind, w, s, x); e != want || len(l) != 0 {
		t.Errorf("Row(%d, %d, %d, %d) of %d: %v, %v, not %v", level, kind, w, s, len(x), l, e, want)
	}
}

// 18.2: signs that were worked out apart from the program, by a sum over all pairs of corners.
func TestAtFixed(t *testing.T) {
	for _, a := range []struct {
		level, kind, w, s int
		x, y, want        string
	}{
		{0, 0, 0, 0, "", "", "1"},
		{0, 1, 3, 5, "1 0 0", "1 0 1", "0"},
		{1, 3, 1, 1, "1", "2", "3"},
		{2, 1, 2, 1, "6 6", "1 c", "2"},
		{2, 2, 2, 3, "9 6", "f c", "9"},
		{3, 0, 3, 0, "d1 13 62", "34 7 aa", "aa"},
		{3, 1, 3, 5, "a1 11 d0", "4e bc b0", "3c"},
		{3, 2, 3, 2, "c6 31 8d", "7e f2 2f", "7a"},
		{3, 3, 3, 6, "e9 c8 75", "24 4e 3e", "1b"},
		{4, 1, 4, 9, "d4a1 620a d0af c0c4", "a0bb bddc 9681 fdfe", "9d2b"},
		{4, 3, 4, 15, "3e1b 82b0 e4ab b7f5", "72c1 11f 6faf 1210", "dbb8"},
		{5, 2, 5, 17, "75552ad b902e771 a871cdd1 b4203a74 deae2b2", "f6340a1d b3d05972 8d1f74d1 6b2f712a 7db9be7a", "a531477f"},
		{5, 3, 5, 11, "c84b9c1e 49944ede 81644bd2 6c9d57e8 bd5967f6", "afe5c6b9 915b239d f5e74e6 bd93693d 460db844", "31518deb"},
		{6, 1, 6, 37, "1f70f5c8480a5fd7 4ad6b67477b652db d3b44b26a5b0ad34 60e723519e1dfa1e e29ee6eed22b3966 2d0eb796b315ecf5", "7f91d13e3463eb49 104f498c3a88ddb8 f9f871087e6bb10d a495c76ea77b2153 f54f30959a5fe6c8 8c53a3fc72677b8a", "928cc98e7e795dc5"},
		{6, 2, 6, 1, "f3997396e87d2b9 255154873b55e5 816042dae64dcbe5 a935aa729387df71 53c9fae06a225a22 35cdf34023dfc00e", "d4014c9950f9e7e6 c809ef74fa19cbc0 e80c526294deed9c 144d01b945adf023 17df8f822904e117 b664bbb3f2431258", "3183f0177a895450"},
		{6, 3, 6, 63, "632a89e8081cc415 d64eafcc0333d45f 85c8c57feeb64014 67a48a3949f3e44 2645c7186f2db8a0 e294417f42a86375", "a70b47c2e0d2791f d198b45ce1ef15fa 8ac7ac1561c8ba8e 984639f0d4171d2b 1a8e84c3247a7038 7ed17c8f08332aad", "27af5ca37aa42cc2"},
		{7, 0, 6, 0, "b4f2be821fb3d340021c8a824596f843 c0d97dbdd2df3dcaa58def614df30695 9f3576334bb248622ad4e9787f8bab97 e69b68f3aa4553442c61d656eeda94e8 a9d2d5b51c807827cf75fab5aeb8b682 eaad230330ae194d89d6fdd77c1994c0", "44b0970eebd9c61db28ca6d9dbc03fab 39d7ef4a42413fa3f90c2f69f690969b bb329ab7d7baa0c7a55096466adbff55 b9d25b1c0ad23255933f87e6f88fbd6f 574bf0db742ce1ef97ec7a85702969bb b02d04f7fc4452b5e4ecabc1bd88bf5e", "5d4d56085dfd3d0fb6d5e60ee780ebec"},
		{7, 1, 6, 63, "a0f141dd6c03d759a2dbc5ca0dc94abc ea956cd06af02bf266854c642dab7794 eaba4483feffa621f02defcae84770a6 77625b83d9a9a353e53620986fd75eee 98313a4a3e21738febcf2a09ff7368c0 dfef33b0059b5500d095ae7ea48f6e76", "ce771f09d6440d43bbbbcdcd84bd5618 5dd5892f702cc9c210aed6ff540d2cba fc7d5774acf6fe1e0c951b7edcbeb404 eaaf787ae9e41d1440618107d0bc7a8e 4871ce2750fd1faddce2d67f7cebdc92 89105fcfd801f06a147633feaae5e608", "11c83b70d5068ee2c0338df84dbed752"},
		{7, 1, 6, 21, "db67935993306116460c481dd04ac552 9ae04bfdbd0a8d7c4fe58224d63d589e bf739b1accbac3c25ccb8f77cfa27ce1 17804924a471405725cebded0b7f9d91 8ab89e78632254066ff3dc2f7e476eab 823874a508df23c25001ed52b4b4c7d3", "7401980f4a4f082b2349030b19559bdc 71aa96a9428244f34b45723a2aab1026 cc41f67748ca283027afa1e81c505294 8ca65930ba02628641b45df531735eee 1e75ec2040b685b1c8798a491279ddca 6a37b5e82052e12b936d85a8148561b8", "e8a292a4e91d09479cd4eeb9fae9c837"},
		{7, 2, 6, 44, "be63dd17c12aaa32fcf5375870024d48 6189eba0ee97f2860c37a1ad98b75b8f 20419a0422409a203f8767d5e2bc59ef 170e5c31c86f47141645589029433bb6 83d4385b5cf6917bafaf7c10876797a9 62021f18702ce003afacb6ce46825c05", "16c2f49aa1c778350b7c526b3b958739 a3cf9d9b612d2d880cbfdf44625f16f4 feb9744680cfdaa09b91f5604ce97a1f 1d063ca08ab1295727afd4fc9b52e464 a69c04b47bd7b6ca548f8aa4e49412b2 7d13fed7edeb04f3d4e079b3e376d1f0", "884243e6aaa3c101fbfc3d817ed1c446"},
		{7, 3, 6, 29, "f62c0ba5d9b3f82b1d18602351606ba8 f97c3e16b9d1b551970ac4c60d90c87a 24809adae9d5525d55524ff1569bc286 f710de874355338764c0a42fdc3263a3 9ffcd041d1365a7de7910223731b3bf8 965cb029165f815b3d6d0cbf9b898de3", "b5cba6eb59c9f90a73cd23d8030c463d 8f64a2d11a39b9d7a24c9ebb85287e2e 9a8626e4eec0871a90c27ed5b3ed8526 dcab7e1128c169045a14cd2a61e4798d 6524d94227acd72f1ef8a8d2cc3ef895 17eef0a3ef3203dda3c96424a8336604", "b6b75bd10e79d548c914ecc421d810f9"},
	} {
		x, y, want := elems(t, a.x), elems(t, a.y), elems(t, a.want)[0]
		// What is reckoned in a level is the same in each above.
		for level := a.level; level < 8; level++ {
			if got := sign(t, level, a.kind, a.w, a.s, x, y); got != want {
				t.Errorf("At(%d, %d, %d, %d) in level %d: %x", a.level, a.kind, a.w, a.s, level, got)
			}
			if got := tower.Dot(level, row(t, level, a.kind, a.w, a.s, x), weights(level, y)); got != want {
				t.Errorf("Row(%d, %d, %d, %d) in level %d: %x", a.level, a.kind, a.w, a.s, level, got)
			}
		}
	}
}

// 18.2: at corners, all of them, a sign is 1 or 0.
func TestAtCorners(t *testing.T) {
	each(func(kind, w, s int) {
		if w > 4 && s > 1 && s < 1<<w-1 && s != 21 {
			return
		}
		n := 1 << w
		for i := range n {
			signs := row(t, 0, kind, w, s, corner(w, i))
			for k := range n {
				var want api.Elem
				if was(kind, n, s, i, k) {
					want = tower.One()
				}
				if got := sign(t, 0, kind, w, s, corner(w, i), corner(w, k)); got != want || signs[k] != want {
					t.Errorf("(%d, %d, %d) at %d, %d: %v, in the row %v, not %v", kind, w, s, i, k, got, signs[k], want)
				}
			}
		}
	})
}

// 18.2: at any points, by all pairs of corners.
func TestAt(t *testing.T) {
	rnd := rand.New(rand.NewPCG(18, 3))
	for level := range 8 {
		each(func(kind, w, s int) {
			if w == 6 && s > 1 && s < 63 && s%9 != level {
				return
			}
			x, y := drawn(rnd, level, w), drawn(rnd, level, w)
			if got := sign(t, level, kind, w, s, x, y); got != modelAt(level, kind, s, x, y) {
				t.Errorf("At(%d, %d, %d, %d, %v, %v): %v", level, kind, w, s, x, y, got)
			}
		})
	}
}

// 18.2: a row has the signs at all corners, in order, and so says what At does.
func TestRow(t *testing.T) {
	rnd := rand.New(rand.NewPCG(18, 4))
	for level := range 8 {
		each(func(kind, w, s int) {
			x, y := drawn(rnd, level, w), drawn(rnd, level, w)
			before := slices.Clone(x)
			l := row(t, level, kind, w, s, x)
			of := weights(level, x)
			for k := range l {
				var want api.Elem
				for i := range of {
					if was(kind, len(of), s, i, k) {
						want = of[i]
					}
				}
				if l[k] != want {
					t.Errorf("Row(%d, %d, %d, %d, %v): %v at %d, not %v", level, kind, w, s, x, l[k], k, want)
				}
			}
			for _, k := range []int{0, len(l) / 3, len(l) / 2, len(l) - 1} {
				if got := sign(t, level, kind, w, s, x, corner(w, k)); got != l[k] {
					t.Errorf("At(%d, %d, %d, %d, %v) at the corner %d: %v, in the row %v", level, kind, w, s, x, k, got, l[k])
				}
			}
			if v, e := cube.At(level, l, y); e != api.OK || v != sign(t, level, kind, w, s, x, y) {
				t.Errorf("Row(%d, %d, %d, %d, %v) has at %v the value %v", level, kind, w, s, x, y, v)
			}
			clear(l)
			if !slices.Equal(x, before) {
				t.Errorf("Row(%d, %d, %d, %d): what was handed in has changed", level, kind, w, s)
			}
		})
	}
}

// 18.2: a word of one bit stays, whatever the kind.
func TestNoVariables(t *testing.T) {
	for level := range 8 {
		for _, kind := range kinds {
			for _, p := range [][]api.Elem{nil, {}} {
				if got := sign(t, level, kind, 0, 0, p, nil); got != tower.One() {
					t.Errorf("At(%d, %d, 0, 0): %v", level, kind, got)
				}
				if got := row(t, level, kind, 0, 0, p); got[0] != tower.One() {
					t.Errorf("Row(%d, %d, 0, 0): %v", level, kind, got)
				}
			}
		}
	}
}

// 18.2: turns by nothing are the same, and their sign is how alike the points are.
func TestByNothing(t *testing.T) {
	rnd := rand.New(rand.NewPCG(18, 5))
	for level := range 8 {
		for w := range 7 {
			x, y := drawn(rnd, level, w), drawn(rnd, level, w)
			for _, kind := range kinds {
				if got := sign(t, level, kind, w, 0, x, y); got != cube.Alike(level, x, y) {
					t.Errorf("At(%d, %d, %d, 0): %v", level, kind, w, got)
				}
				if got := row(t, level, kind, w, 0, x); !slices.Equal(got, weights(level, x)) {
					t.Errorf("Row(%d, %d, %d, 0): %v", level, kind, w, got)
				}
			}
		}
	}
}

// 18.2: to the right is to the left with the points swapped; round by s is to the left by s, or to the right by what is left of the word.
func TestKindsTogether(t *testing.T) {
	rnd := rand.New(rand.NewPCG(18, 6))
	for level := range 8 {
		for w := range 7 {
			n := 1 << w
			for s := 1; s < n; s++ {
				x, y := drawn(rnd, level, w), drawn(rnd, level, w)
				left, right := sign(t, level, turn.Left, w, s, x, y), sign(t, level, turn.Right, w, n-s, x, y)
				if got := sign(t, level, turn.Right, w, s, y, x); got != left {
					t.Errorf("At(%d, Right, %d, %d): %v, not %v", level, w, s, got, left)
				}
				if got := sign(t, level, turn.Round, w, s, x, y); got != tower.Add(left, right) {
					t.Errorf("At(%d, Round, %d, %d): %v", level, w, s, got)
				}
			}
		}
	}
}

// 18.3: the value of turned bits is the sum of signs times bits.
func TestTurnedValue(t *testing.T) {
	rnd := rand.New(rand.NewPCG(18, 7))
	for level := range 8 {
		each(func(kind, w, s int) {
			x, b := drawn(rnd, level, w), drawnBits(rnd, 1<<w)
			var want, got api.Elem
			of := weights(level, x)
			for i, set := range turned(t, kind, w, s, b) {
				if set {
					want = tower.Add(want, of[i])
				}
			}
			for k, e := range row(t, level, kind, w, s, x) {
				if b[k] {
					got = tower.Add(got, e)
				}
			}
			if got != want {
				t.Errorf("(%d, %d, %d, %d) of %v at %v: %v, not %v", level, kind, w, s, b, x, got, want)
			}
		})
	}
}

// 18.2: levels that are none, and what is no turn, come first.
func TestErrArg(t *testing.T) {
	high := slices.Repeat([]api.Elem{tower.Bit(127)}, 9)
	for _, level := range noLevels {
		for _, kind := range []int{-1, 0, 1, 2, 3, 4} {
			for w := -1; w <= 7; w++ {
				for n := range 9 {
					noSign(t, level, kind, w, 0, make([]api.Elem, n), make([]api.Elem, n), api.ErrArg)
					noSign(t, level, kind, w, 1, high[:n], high[:8-n], api.ErrArg)
					noRow(t, level, kind, w, 0, make([]api.Elem, n), api.ErrArg)
					noRow(t, level, kind, w, 1, high[:n], api.ErrArg)
				}
			}
		}
	}
	noTurns(func(kind, w, s int) {
		n := min(max(w, 0), 8)
		for _, level := range []int{-1, 0, 3, 7, 8} {
			noSign(t, level, kind, w, s, make([]api.Elem, n), make([]api.Elem, n), api.ErrArg)
			noSign(t, level, kind, w, s, high[:n], high[:n], api.ErrArg)
			noSign(t, level, kind, w, s, high[:n+1], nil, api.ErrArg)
			noRow(t, level, kind, w, s, make([]api.Elem, n), api.ErrArg)
			noRow(t, level, kind, w, s, high[:n], api.ErrArg)
			noRow(t, level, kind, w, s, high[:n+1], api.ErrArg)
		}
	})
}

// 18.2: points of too few and of too many elements, ahead of elements that are not of the level.
func TestErrSize(t *testing.T) {
	for level := range 8 {
		for _, e := range append(tooHigh(level), api.Elem{}) {
			many := slices.Repeat([]api.Elem{e}, 130)
			each(func(kind, w, s int) {
				if s != 0 && s != 1<<w-1 {
					return
				}
				for _, n := range []int{0, 1, w - 1, w + 1, w + 2, 1 << w, 7, 64, 128, 130} {
					if n < 0 || n == w {
						continue
					}
					noSign(t, level, kind, w, s, many[:n], many[:w], api.ErrSize)
					noSign(t, level, kind, w, s, many[:w], many[:n], api.ErrSize)
					noSign(t, level, kind, w, s, many[:n], many[:n], api.ErrSize)
					noRow(t, level, kind, w, s, many[:n], api.ErrSize)
				}
			})
		}
	}
}

// 18.2: an element that is not of the level, wherever it stands, also where its factor would be 0.
func TestErrField(t *testing.T) {
	for level := range 8 {
		for _, e := range tooHigh(level) {
			each(func(kind, w, s int) {
				if s != 0 && s != 1<<w-1 {
					return
				}
				for j := range w {
					for _, i := range []int{0, 1<<w - 1} {
						p := corner(w, i)
						noSign(t, level, kind, w, s, put(p, j, e), p, api.ErrField)
						noSign(t, level, kind, w, s, p, put(p, j, e), api.ErrField)
						noSign(t, level, kind, w, s, put(p, j, e), put(p, 0, e), api.ErrField)
						noRow(t, level, kind, w, s, put(p, j, e), api.ErrField)
					}
				}
			})
		}
	}
}

// R3: what is handed in is as it was, and so is what stands behind it.
func TestNothingIsChanged(t *testing.T) {
	rnd := rand.New(rand.NewPCG(18, 8))
	for _, kind := range kinds {
		room := drawn(rnd, 7, 20)
		before := slices.Clone(room)
		x, y := room[:6], room[10:16]
		sign(t, 7, kind, 6, 0, x, y)
		sign(t, 7, kind, 6, 0, x, x)
		l := append(row(t, 7, kind, 6, 0, x), tower.One())
		clear(l)
		if !slices.Equal(room, before) {
			t.Errorf("kind %d: what was handed in has changed", kind)
		}
		b := drawnBits(rnd, 128)
		kept := slices.Clone(b)
		out := append(turned(t, kind, 6, 0, b[:64]), true)
		for i := range out {
			out[i] = !out[i]
		}
		if !slices.Equal(b, kept) {
			t.Errorf("kind %d: the bits that were handed in have changed", kind)
		}
	}
}
