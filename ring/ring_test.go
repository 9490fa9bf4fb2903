package ring_test

import (
	"math"
	"math/big"
	"math/rand/v2"
	"slices"
	"strings"
	"testing"

	"steeple/api"
	"steeple/cube"
	"steeple/ring"
	"steeple/tower"
)

// noLevels are numbers that are no levels.
var noLevels = []int{math.MinInt, math.MinInt32, -64, -1, 8, 9, 63, 64, math.MaxInt32, math.MaxInt}

// lo is elements of one word each.
func lo(l ...uint64) []api.Elem {
	out := make([]api.Elem, len(l))
	for i, n := range l {
		out[i] = api.Elem{Lo: n}
	}
	return out
}

// elems are elements by their digits to the base 16, with spaces between.
func elems(t *testing.T, s string) []api.Elem {
	t.Helper()
	var l []api.Elem
	for _, x := range strings.Fields(s) {
		n, ok := new(big.Int).SetString(x, 16)
		if !ok {
			t.Fatalf("no number: %s", x)
		}
		low := new(big.Int).And(n, new(big.Int).SetUint64(math.MaxUint64))
		l = append(l, api.Elem{Hi: new(big.Int).Rsh(n, 64).Uint64(), Lo: low.Uint64()})
	}
	return l
}

// drawn is n elements of a level.
func drawn(rnd *rand.Rand, level, n int) []api.Elem {
	l := make([]api.Elem, n)
	for i := range l {
		l[i].Lo = rnd.Uint64()
		if level == 7 {
			l[i].Hi = rnd.Uint64()
		} else {
			l[i].Lo &= 1<<(1<<level) - 1
		}
	}
	return l
}

// drawnBits is 2^n bits.
func drawnBits(rnd *rand.Rand, n int) []bool {
	bits := make([]bool, 1<<n)
	for i := range bits {
		bits[i] = rnd.IntN(2) == 1
	}
	return bits
}

// tooHigh are elements that are not of a level.
func tooHigh(level int) []api.Elem {
	if level == 7 {
		return nil
	}
	return []api.Elem{tower.Bit(1 << level), tower.Bit(127), tower.Add(tower.One(), tower.Bit(1<<level))}
}

// put is a list with another element at a place.
func put(l []api.Elem, i int, e api.Elem) []api.Elem {
	out := slices.Clone(l)
	out[i] = e
	return out
}

// has tells whether an element has a bit.
func has(e api.Elem, u int) bool {
	if u >= 64 {
		return e.Hi>>(u-64)&1 == 1
	}
	return e.Lo>>u&1 == 1
}

// weights are those of all corners, factor by factor.
func weights(level int, p []api.Elem) []api.Elem {
	out := make([]api.Elem, 1<<len(p))
	for i := range out {
		out[i] = tower.One()
		for j, x := range p {
			if i>>j&1 == 0 {
				x = tower.Add(tower.One(), x)
			}
			out[i] = tower.Mul(level, out[i], x)
		}
	}
	return out
}

// modelPack has the bit v + 2^level x as the bit v of the element x.
func modelPack(level int, bits []bool) []api.Elem {
	out := make([]api.Elem, len(bits)>>level)
	for i, bit := range bits {
		if bit {
			x := i >> level
			out[x] = tower.Add(out[x], tower.Bit(i-x<<level))
		}
	}
	return out
}

// modelParts is for each v the sum of the weights of those x that have the bit v.
func modelParts(level int, bits []bool, high []api.Elem) []api.Elem {
	out := make([]api.Elem, 1<<level)
	for v := range out {
		for x, weight := range weights(level, high) {
			if bits[v+1<<level*x] {
				out[v] = tower.Add(out[v], weight)
			}
		}
	}
	return out
}

// modelBatch is the sum over u of the weight of u at r times the element whose bit v is the bit u of the part v.
func modelBatch(level int, parts, r []api.Elem) api.Elem {
	var sum api.Elem
	for u, weight := range weights(level, r) {
		var about api.Elem
		for v, part := range parts {
			if has(part, u) {
				about = tower.Add(about, tower.Bit(v))
			}
		}
		sum = tower.Add(sum, tower.Mul(level, weight, about))
	}
	return sum
}

// modelMask is for each x the sum of the weights at r of those u whose bit the weight of x has.
func modelMask(level int, high, r []api.Elem) []api.Elem {
	by := weights(level, r)
	out := make([]api.Elem, 1<<len(high))
	for x, weight := range weights(level, high) {
		for u := range 1 << level {
			if has(weight, u) {
				out[x] = tower.Add(out[x], by[u])
			}
		}
	}
	return out
}

// summed is the sum of products of two lists.
func summed(level int, a, b []api.Elem) api.Elem {
	var sum api.Elem
	for i := range a {
		sum = tower.Add(sum, tower.Mul(level, a[i], b[i]))
	}
	return sum
}

// list asks for a list that there is.
func list(t *testing.T, what string, want []api.Elem) func([]api.Elem, api.Errno) {
	return func(got []api.Elem, e api.Errno) {
		t.Helper()
		if e != api.OK || !slices.Equal(got, want) {
			t.Errorf("%s: %v, %v, not %v", what, got, e, want)
		}
	}
}

// one asks for an element that there is.
func one(t *testing.T, what string, want api.Elem) func(api.Elem, api.Errno) {
	return func(got api.Elem, e api.Errno) {
		t.Helper()
		if e != api.OK || got != want {
			t.Errorf("%s: %v, %v, not %v", what, got, e, want)
		}
	}
}

// 23.1 to 23.3: what was worked out apart from the program, by sums over all bits and corners.
func TestFixed(t *testing.T) {
	for _, a := range []struct {
		level                int
		bits                 string
		low, high, r, q      string
		packed, parts        string
		value, batched, mask string
		atQ                  string
	}{
		{0, "1", "", "", "", "", "1", "1", "1", "1", "1", "1"},
		{0, "10", "", "0", "", "0", "1 0", "1", "1", "1", "1 0", "1"},
		{0, "01101010", "", "0 0 1", "", "1 0 1", "0 1 1 0 1 0 1 0", "1", "1", "1", "0 0 0 0 1 0 0 0", "0"},
		{1, "00", "3", "", "1", "", "0", "0 0", "0", "0", "0", "0"},
		{1, "11010011", "2", "1 3", "0", "1 2", "3 2 0 3", "3 1", "0", "3", "0 0 0 1", "2"},
		{2, "0111", "2 7", "", "4 a", "", "e", "0 1 1 1", "c", "b", "9", "9"},
		{2, "01010111101110101011111111111000", "a 4", "e 1 b", "0 c", "0 b 8", "a e d 5 d f f 1", "1 7 d f", "e", "3", "0 0 0 0 0 0 1 c", "3"},
		{3, "11101001011001010100110000100101", "7b 3a c2", "e d0", "1c 16 5", "cf 2", "97 a6 32 a4", "9f 41 91 0 f 9e 0 91", "fa", "10", "d b3 9 4d", "90"},
		{4, "0010001100000000", "8884 6c15 c8db 6f8a", "", "e2ea 533f 4beb 2bfd", "", "c4", "0 0 1 0 0 0 1 1 0 0 0 0 0 0 0 0", "5a50", "6d54", "245e", "245e"},
		{4, "1001011010101011000010001110001110010100000010101001000011101111", "b361 4def 8daf 7524", "58f2 4820", "5804 1970 ce03 3a56", "e1b3 393b", "d569 c710 5029 f709", "eac 0 0 eac ead 58f3 468c 0 1e7e 58f2 1e7e 0 eac 565f 1 1e7e", "e807", "4f92", "2e3c dce3 f462 dfd3", "e29"},
		{5, "11100011111000110011001111010100111011110100011100010000010010111101010111100110110010000001110011010111101010100010010110110111", "ab9971e5 6bd67ec2 466d2c9 383b6304 5ea5ca41", "f9b12413 1e3cc714", "f6ed702 eb8dd1fc 4a8640d8 8a29fcfc 2a30f217", "d68425aa 146697fb", "2bccc7c7 d208e2f7 381367ab eda455eb", "", "7446619f", "34b4a891", "50150886 970af86f 73108a21 8193c53e", "daf35b09"},
		{6, "1100111010111101011000100111100010110100110011100010000001000100100000010000010000100100000011000000111010110010110001110110110000100110000110101000010000001111011111010010101100001011110111101110011010100000111010010101011101000110110001000111100101011001", "3ef8622f485ed82d 8aae8eb251845a2b a5b20e3b77c5d2ee d76454191443b72c 69a4f9d236f638fc 35e8c4c5d57bc496", "95c177319982811a e42154f7f72f67f", "d398f0cdfc8fa669 c2d5f393fa37bb63 4f5222c9f5fdcf9a f6ab664567bc1aa2 1cd8768a5da0ea70 641dde5babe0cf49", "6c03a13254dca9a8 ae9a20ebb4b120bb", "2204732d1e46bd73 36e34d7030242081 7bd0d4bef0215864 9a9e2362ea970567", "", "104666181821cd3a", "3b5d586749732b39", "172786580c855818 748f35b1e0631220 314b75c39eb2d6af e7e6aff46b71bdd5", "767732b1c8652ca2"},
		{7, "0110110001011001110110001101111000010010111010111000111010100101110000111100110110001101000010001100010000010101111101001100101100101100001011110110101101011111010000111101010010110111010110100111111001100110011101101010100100111001001001110111111110111101", "aafb1369a84013a85566d8031c42b585 c0f1aaaee3a9dde683a7bbb0a1847913 39a1fbe7e4f88f2812d4760827b25258 9465c39bdc603907418929ebf21bd637 b12d3713acc400dbe47999ddc14d81f0 23d759f343bf420c95e555d68c3f2869 a6d70765d0b6ebc87ec5c8d46d473ce9", "c82d0d5d46881112c4415ac1f856e7ba", "8bc768e4fed517ff08e222cbdd7df467 a04215184a464e86dbc9730efba320db 8655288d6558a2d0ab1d74f73363dc62 a12e483939af428ed7b11d0e75544fec e39271d59d4edd3547919472eae157b9 4f5cf9536f65706119014021a150bdf9 716441931a44e0c81a1784d86527e2ef", "53268e7ab74abb2e956f340f0f9337fd", "d32fa82310b1b3c3a571d7487b1b9a36 bdfee49c956e667e5aed2bc2fad6f434", "", "2db24c73f4f193867597042e159415e6", "a1c8fd93aef1415dd8038ea14c82c450", "30b085f07b4c076fd8050a5a705b6034 5271ccb3838aa096744cbf6e5f6cd6fd", "fc3ef11f4c6e1768fd5f2684900078ee"},
		{7, "01000011101000000100111111110110110110010101110000010001111000001101011111000100011001101101011000111101111000110101001111111100", "ec6c6aa85a0f90cbdfe25772880a750d ff129dbe5ed607014f1707b52f983ef3 c79e3551f9bfbf87b4cfea5ceb1ebe28 23d36ced0612647060ba3a1dcbba3893 3dea47c50e147f385d051bed1300c812 efd30a27dacbd867d13323a6f64b93ef a6b7fa0dc0e444663630d7d66da8563a", "", "18ff6334cb6cbeb0007692c0720fcae1 23322efd415972da7fd169bbb02075a2 2d65f012283109e4832df9a4b095b49d d32f6ab6fceb300a84ca761e237b309 828a0b1d9ab66a95a5d2f12f16d07011 e58db43609ee831931ede5e36ad6514 8621f0b50bb9395c48e8b9d8ca4ff076", "", "3fcac7bc6b6623eb07883a9b6ff205c2", "", "80e72edd462fbe904e7777961dbabd34", "8aab5d96f1942ef4ae5a0c4aa2cf91e3", "1d62908638b0301ddb730de231066a4", "1d62908638b0301ddb730de231066a4"},
	} {
		var bits []bool
		for _, c := range a.bits {
			bits = append(bits, c == '1')
		}
		low, high, r, q := elems(t, a.low), elems(t, a.high), elems(t, a.r), elems(t, a.q)
		list(t, "Pack", elems(t, a.packed))(ring.Pack(a.level, bits))
		parts, e := ring.Parts(a.level, bits, high)
		if e != api.OK || a.level < 5 && !slices.Equal(parts, elems(t, a.parts)) {
			t.Errorf("Parts: %v, %v, not %s", parts, e, a.parts)
		}
		one(t, "Value", elems(t, a.value)[0])(ring.Value(a.level, parts, low))
		one(t, "Batch", elems(t, a.batched)[0])(ring.Batch(a.level, parts, r))
		list(t, "Mask", elems(t, a.mask))(ring.Mask(a.level, high, r))
		one(t, "At", elems(t, a.atQ)[0])(ring.At(a.level, high, r, q))
	}
}

// 23.1 to 23.3, at all levels and numbers of variables: by the words.
func TestByTheWords(t *testing.T) {
	rnd := rand.New(rand.NewPCG(23, 1))
	for level := range 8 {
		for n := level; n <= 12; n++ {
			bits, high, low := drawnBits(rnd, n), drawn(rnd, level, n-level), drawn(rnd, level, level)
			r, q := drawn(rnd, level, level), drawn(rnd, level, n-level)
			list(t, "Pack", modelPack(level, bits))(ring.Pack(level, bits))
			list(t, "Parts", modelParts(level, bits, high))(ring.Parts(level, bits, high))
			parts := drawn(rnd, level, 1<<level)
			one(t, "Value", summed(level, weights(level, low), parts))(ring.Value(level, parts, low))
			one(t, "Batch", modelBatch(level, parts, r))(ring.Batch(level, parts, r))
			mask := modelMask(level, high, r)
			list(t, "Mask", mask)(ring.Mask(level, high, r))
			one(t, "At", summed(level, weights(level, q), mask))(ring.At(level, high, r, q))
		}
	}
}

// 23.3: a high point may have 12 elements at each level, and none.
func TestLongHighPoints(t *testing.T) {
	rnd := rand.New(rand.NewPCG(23, 2))
	for level := range 8 {
		for _, n := range []int{0, 1, 11, 12} {
			high, r, q := drawn(rnd, level, n), drawn(rnd, level, level), drawn(rnd, level, n)
			mask := modelMask(level, high, r)
			list(t, "Mask", mask)(ring.Mask(level, high, r))
			one(t, "At", summed(level, weights(level, q), mask))(ring.At(level, high, r, q))
		}
		r := drawn(rnd, level, level)
		list(t, "Mask of none", weights(level, r)[:1])(ring.Mask(level, nil, r))
		one(t, "At of none", weights(level, r)[0])(ring.At(level, []api.Elem{}, r, nil))
	}
}

// 23.3: at a corner the value is the mask's element there.
func TestAtCorners(t *testing.T) {
	rnd := rand.New(rand.NewPCG(23, 3))
	for level := range 8 {
		high, r := drawn(rnd, level, 3), drawn(rnd, level, level)
		mask, _ := ring.Mask(level, high, r)
		for x := range 8 {
			one(t, "At", mask[x])(ring.At(level, high, r, cube.Corner(3, x)))
		}
	}
}

// 23.4: Value of the parts is the bits' value at the low and high point.
func TestValueOfParts(t *testing.T) {
	rnd := rand.New(rand.NewPCG(23, 4))
	for level := range 8 {
		for n := level; n <= min(12, level+5); n++ {
			for range 3 {
				bits := drawnBits(rnd, n)
				table := make([]api.Elem, len(bits))
				for i, bit := range bits {
					if bit {
						table[i] = tower.One()
					}
				}
				p := drawn(rnd, level, n)
				want, _ := cube.At(level, table, p)
				parts, e := ring.Parts(level, bits, p[level:])
				if e != api.OK {
					t.Fatalf("Parts: %v", e)
				}
				one(t, "Value", want)(ring.Value(level, parts, p[:level]))
				if n == 0 {
					continue
				}
				i := rnd.IntN(len(bits))
				p = cube.Corner(n, i)
				parts, _ = ring.Parts(level, bits, p[level:])
				one(t, "Value at a corner", table[i])(ring.Value(level, parts, p[:level]))
			}
		}
	}
}

// 23.4: the sum of the packed table times the mask is the parts batched.
func TestSumOfMask(t *testing.T) {
	rnd := rand.New(rand.NewPCG(23, 5))
	for level := range 8 {
		for n := level; n <= 12; n++ {
			bits, high, r := drawnBits(rnd, n), drawn(rnd, level, n-level), drawn(rnd, level, level)
			packed, _ := ring.Pack(level, bits)
			mask, _ := ring.Mask(level, high, r)
			parts, _ := ring.Parts(level, bits, high)
			if len(packed) != 1<<(n-level) || len(mask) != len(packed) || len(parts) != 1<<level {
				t.Fatalf("level %d, %d variables: %d, %d, %d", level, n, len(packed), len(mask), len(parts))
			}
			one(t, "Batch", summed(level, packed, mask))(ring.Batch(level, parts, r))
		}
	}
}

// Few points let wrong parts be right: parts that differ are batched alike at no more points than a multilinear polynomial has zeros.
func TestFewPointsBatchAlike(t *testing.T) {
	rnd := rand.New(rand.NewPCG(23, 6))
	for _, x := range []struct{ level, lists, most int }{{0, 2, 0}, {1, 40, 1}, {2, 60, 31}} {
		size := 1 << (1 << x.level)
		points := 1
		for range x.level {
			points *= size
		}
		for range x.lists {
			right, wrong := drawn(rnd, x.level, 1<<x.level), drawn(rnd, x.level, 1<<x.level)
			if slices.Equal(right, wrong) {
				continue
			}
			alike := 0
			for n := range points {
				r := make([]api.Elem, x.level)
				for j := range r {
					r[j].Lo = uint64(n / max(1, j*size) % size)
				}
				a, _ := ring.Batch(x.level, right, r)
				if b, _ := ring.Batch(x.level, wrong, r); a == b {
					alike++
				}
			}
			if alike > x.most {
				t.Errorf("level %d: %v and %v are alike at %d points", x.level, right, wrong, alike)
			}
		}
	}
}

// The chapter's example: at level 0 nothing is packed.
func TestExample(t *testing.T) {
	rnd := rand.New(rand.NewPCG(23, 7))
	for n := range 7 {
		bits := drawnBits(rnd, n)
		table := make([]api.Elem, len(bits))
		for i, bit := range bits {
			if bit {
				table[i] = tower.One()
			}
		}
		high := drawn(rnd, 0, n)
		value, _ := cube.At(0, table, high)
		list(t, "Pack", table)(ring.Pack(0, bits))
		list(t, "Parts", []api.Elem{value})(ring.Parts(0, bits, high))
		one(t, "Value", value)(ring.Value(0, []api.Elem{value}, nil))
		list(t, "Mask", weights(0, high))(ring.Mask(0, high, nil))
	}
}

// R3: what is handed in is not changed, and what is answered is no part of it, nor of another answer.
func TestNothingIsShared(t *testing.T) {
	rnd := rand.New(rand.NewPCG(23, 8))
	for level := range 8 {
		bits, low, high := drawnBits(rnd, level+2), drawn(rnd, level, level), drawn(rnd, level, 2)
		parts, q := drawn(rnd, level, 1<<level), drawn(rnd, level, 2)
		keptBits, kept := slices.Clone(bits), [][]api.Elem{slices.Clone(low), slices.Clone(high), slices.Clone(parts), slices.Clone(q)}
		for range 2 {
			packed, _ := ring.Pack(level, bits)
			made, _ := ring.Parts(level, bits, high)
			mask, _ := ring.Mask(level, high, low)
			list(t, "Pack", modelPack(level, bits))(packed, api.OK)
			list(t, "Parts", modelParts(level, bits, high))(made, api.OK)
			list(t, "Mask", modelMask(level, high, low))(mask, api.OK)
			ring.Value(level, parts, low)
			ring.Batch(level, parts, low)
			ring.At(level, high, low, q)
			for _, l := range [][]api.Elem{packed, made, mask} {
				for i := range l {
					l[i] = api.Elem{Hi: 7, Lo: 7}
				}
			}
			if !slices.Equal(bits, keptBits) || !slices.EqualFunc([][]api.Elem{low, high, parts, q}, kept, slices.Equal[[]api.Elem]) {
				t.Fatalf("level %d: arguments have changed", level)
			}
		}
	}
}
