package line_test

import (
	"math"
	"math/big"
	"math/rand/v2"
	"slices"
	"strings"
	"testing"

	"steeple/api"
	"steeple/line"
	"steeple/tower"
)

// noLevels are numbers that are no levels.
var noLevels = []int{math.MinInt, math.MinInt32, -64, -1, 8, 9, 63, 64, math.MaxInt32, math.MaxInt}

// lastFit is for each level the greatest d that fits.
var lastFit = [8]int{1, 3, 8, 8, 8, 8, 8, 8}

// lo is elements of one word each.
func lo(l ...uint64) []api.Elem {
	out := make([]api.Elem, len(l))
	for i, n := range l {
		out[i] = api.Elem{Lo: n}
	}
	return out
}

// elems are elements by their digits to the base 16, with spaces between.
func elems(t *testing.T, s string) []api.Elem {
	t.Helper()
	var l []api.Elem
	for _, x := range strings.Fields(s) {
		n, ok := new(big.Int).SetString(x, 16)
		if !ok {
			t.Fatalf("no number: %s", x)
		}
		low := new(big.Int).And(n, new(big.Int).SetUint64(math.MaxUint64))
		l = append(l, api.Elem{Hi: new(big.Int).Rsh(n, 64).Uint64(), Lo: low.Uint64()})
	}
	return l
}

// drawn is n elements of a level.
func drawn(rnd *rand.Rand, level, n int) []api.Elem {
	l := make([]api.Elem, n)
	for i := range l {
		l[i].Lo = rnd.Uint64()
		if level == 7 {
			l[i].Hi = rnd.Uint64()
		} else {
			l[i].Lo &= 1<<(1<<level) - 1
		}
	}
	return l
}

// tooHigh are elements that are not of a level.
func tooHigh(level int) []api.Elem {
	if level == 7 {
		return nil
	}
	return []api.Elem{tower.Bit(1 << level), tower.Bit(127), tower.Add(tower.One(), tower.Bit(1<<level))}
}

// put is a list with another element at a place.
func put(l []api.Elem, i int, e api.Elem) []api.Elem {
	out := slices.Clone(l)
	out[i] = e
	return out
}

// model is the value of coefficients at x, power by power.
func model(level int, c []api.Elem, x api.Elem) api.Elem {
	var sum api.Elem
	for j, factor := range c {
		sum = tower.Add(sum, tower.Mul(level, factor, tower.Pow(level, x, uint64(j))))
	}
	return sum
}

// each hands on all levels with all d that fit, some times.
func each(times int, look func(rnd *rand.Rand, level, d int)) {
	rnd := rand.New(rand.NewPCG(17, 1))
	for level := range 8 {
		for d := range lastFit[level] + 1 {
			for range times {
				look(rnd, level, d)
			}
		}
	}
}

// at is a value that there is.
func at(t *testing.T, level int, v []api.Elem, x api.Elem) api.Elem {
	t.Helper()
	y, e := line.At(level, v, x)
	if e != api.OK {
		t.Fatalf("At(%d) of %d values: %v", level, len(v), e)
	}
	return y
}

// powers are coefficients that there are.
func powers(t *testing.T, level int, v []api.Elem) []api.Elem {
	t.Helper()
	c, e := line.Powers(level, v)
	if e != api.OK || len(c) != len(v) {
		t.Fatalf("Powers(%d) of %d values: %d, %v", level, len(v), len(c), e)
	}
	return c
}

// values are values that there are.
func values(t *testing.T, level int, c []api.Elem, d int) []api.Elem {
	t.Helper()
	v, e := line.Values(level, c, d)
	if e != api.OK || len(v) != d+1 {
		t.Fatalf("Values(%d) of %d coefficients: %d, %v", level, len(c), len(v), e)
	}
	return v
}

// noValue asks for an error of At and of Powers, and for nothing beside it.
func noValue(t *testing.T, level int, v []api.Elem, x api.Elem, want api.Errno) {
	t.Helper()
	if y, e := line.At(level, v, x); e != want || y != (api.Elem{}) {
		t.Errorf("At(%d) of %d values: %v, %v, not %v", level, len(v), y, e, want)
	}
	noPowers(t, level, v, want)
}

// noPowers asks for an error of Powers, and for nothing beside it.
func noPowers(t *testing.T, level int, v []api.Elem, want api.Errno) {
	t.Helper()
	if c, e := line.Powers(level, v); e != want || len(c) != 0 {
		t.Errorf("Powers(%d) of %d values: %v, %v, not %v", level, len(v), c, e, want)
	}
}

// noValues asks for an error of Values, and for nothing beside it.
func noValues(t *testing.T, level int, c []api.Elem, d int, want api.Errno) {
	t.Helper()
	if v, e := line.Values(level, c, d); e != want || len(v) != 0 {
		t.Errorf("Values(%d, %d) of %d coefficients: %v, %v, not %v", level, d, len(c), v, e, want)
	}
}

// 17.1
func TestFits(t *testing.T) {
	for level := range 8 {
		for d := -10; d <= 300; d++ {
			if got := line.Fits(level, d); got != (d >= 0 && d <= lastFit[level]) {
				t.Errorf("Fits(%d, %d): %v", level, d, got)
			}
		}
		for _, d := range []int{math.MinInt, math.MinInt32, 1 << 16, 1 << 32, 1<<32 + 1, 1 << 62, math.MaxInt} {
			if line.Fits(level, d) {
				t.Errorf("Fits(%d, %d)", level, d)
			}
		}
	}
	for _, level := range noLevels {
		for d := -1; d <= 9; d++ {
			if line.Fits(level, d) {
				t.Errorf("Fits(%d, %d)", level, d)
			}
		}
	}
	if line.MaxDegree != 8 {
		t.Errorf("MaxDegree: %d", line.MaxDegree)
	}
}

// 17.1, 17.2: values and coefficients that were worked out apart from the program, by solving for the coefficients.
func TestFixed(t *testing.T) {
	for _, a := range []struct {
		level         int
		v, x, c, want string
	}{
		{0, "1 0", "1", "1 1", "0"},
		{1, "1 3 1", "1", "1 1 3", "3"},
		{1, "0 3 2 2", "2", "0 1 1 3", "2"},
		{2, "1 3", "2", "1 2", "2"},
		{2, "a 4 1 e 0", "3", "a 1 f 1 1", "e"},
		{2, "6 d b 6 4 d 8 c 5", "a", "6 c 6 8 a 3 e 6 8", "b"},
		{3, "d8 af f1 b9 66", "23", "d8 b8 9a 3f 6a", "8b"},
		{3, "ff 8d f 23 d0 ca e0 32 26", "e1", "ff 0 ac b4 cb 50 ea 7d 66", "73"},
		{4, "b4a0 8869 8f13 cd42 f487", "af92", "b4a0 e74 c689 7e98 8aac", "1bba"},
		{4, "35c3 54be 8a3b 1f9d e1e8 b730 a386 11b5 4f27", "68e0", "35c3 420 eefd efb2 7e c7d3 1b69 3020 88f6", "103"},
		{5, "14f50791 81dda9da f09529af dbd5f6d2 795e846b", "a3e2889c", "14f50791 b3abcacf 67883a9e be687136 ff632f2c", "5099680a"},
		{5, "ff0f3b81 9995d8aa 24405d96 aebf9993 cfec9e2c 689edcd6 d0398c72 818dced3 eb837ba8", "561d2417", "ff0f3b81 d5292b1a c760fd3a edea5313 92fbf8c3 c85639f4 18f743d 35521eef f749cdfd", "3091a90f"},
		{6, "6ecace3c0490ca26 925b1ec95f4807bc e599e3580d3a2dc6 bd27b4f2c0855ac9 ce02d285ac9cd0e", "7a2c3b72f5a2224a", "6ecace3c0490ca26 485b1d199087cc15 83ab03c4d918c470 a42f875f9667ba95 934e497784207f6a", "6a8c359c037688b9"},
		{6, "947feaa35ff4cb50 1520627c63d6f69 67cc1752de27660b 1df995313d2b9a36 36be6e688e8b88c2 3fa244adf517a775 f515f75186e41524 ee06e0b5c15cfd1 1071e6da44673e23", "468629e8c95613ef", "947feaa35ff4cb50 6881c58f3a105cb1 76c016c06c6da21d 11ea0ae86e366e1e aaa6acafe55a5a08 c0ba04afd8a252b3 fef2640f14f3361a 3ba3bbe4b6545bcd 35cb42c83edd51e7", "29551cda63e1e5d3"},
		{7, "d422051f9a98f4d0bf5da6cc3157e672 e6d747b48db0eb42887b5f5f8e384a7b 4ebf6be1a897b98f400b49322125fd8a 2bb4c81151a20dc3590ad570eaa1a8c3 932d838de8b6e53d1817d0235502bfbd", "55c9dfdb45c7a738c84b75db940e6e2b", "d422051f9a98f4d0bf5da6cc3157e672 21d311e4d3f20b44ab5fc5042a3f313f 776e7ef582083e05ff736eac29514836 57fee15bee1dabde2e2765d174ebf940 33b6cce1a8cf810d4d2d37eac8ea2c40", "86698d6b9fd05c67c78a516ed241d2b9"},
		{7, "fd9399c0c0d644210cf5ce20027fd9eb bea12ba57797b9dc04eb48705916ca58 dd00e8fa212f8fc794baead45c2c169 42114abf4f4e45b432c3233dba9eba35 b71e77b2fc9e4dc6bf89b6551335276b 9efd9ce2054a108a7c22ca48e8f8746d 236dac08af9d96348676b326906e6a67 f391361abb4cca3e7c21ab0d672bd7e9 d10322399713d85bfa843e7cf5b67503", "fed259c33215ff4f2eebdd04643e2ec8", "fd9399c0c0d644210cf5ce20027fd9eb 3c6aaabb2f053b164e6600d07d227b8a afeb3547942ebad5162c7236e56f7bd8 85b052924c21b03c5a31acfc7a43b633 a5c149bfe2106f185bdffa406039a0c1 8bdf56fb7b7e6867126c2a35db729f5e 8943a4c7163cf08919a7a73cde76dedc af984e3e6e34c3a2e5d5daad546b4dde 5dc68ab6a12df856bfa4f5ae8831094f", "751f7b0a05c8f6199ca1a1bbec1746e4"},
	} {
		v, c, x, want := elems(t, a.v), elems(t, a.c), elems(t, a.x)[0], elems(t, a.want)[0]
		// What is reckoned in a level is the same in each above.
		for level := a.level; level < 8; level++ {
			if got := at(t, level, v, x); got != want {
				t.Errorf("At of level %d in %d: %x", a.level, level, got)
			}
			if got := powers(t, level, v); !slices.Equal(got, c) {
				t.Errorf("Powers of level %d in %d: %x", a.level, level, got)
			}
			if got := values(t, level, c, len(v)-1); !slices.Equal(got, v) {
				t.Errorf("Values of level %d in %d: %x", a.level, level, got)
			}
		}
	}
}

// 17.1
func TestAt(t *testing.T) {
	each(10, func(rnd *rand.Rand, level, d int) {
		c := drawn(rnd, level, d+1)
		v := make([]api.Elem, d+1)
		for i := range v {
			v[i] = model(level, c, api.Elem{Lo: uint64(i)})
		}
		before := slices.Clone(v)
		for i := range v {
			if got := at(t, level, v, api.Elem{Lo: uint64(i)}); got != v[i] {
				t.Errorf("At(%d, %v) at the place %d: %v", level, v, i, got)
			}
		}
		for _, x := range drawn(rnd, level, 10) {
			if got := at(t, level, v, x); got != model(level, c, x) {
				t.Errorf("At(%d, %v, %v): %v", level, v, x, got)
			}
		}
		if !slices.Equal(v, before) {
			t.Errorf("At changed the values")
		}
	})
}

// 17.1: one value is a polynomial that has it everywhere.
func TestAtOne(t *testing.T) {
	rnd := rand.New(rand.NewPCG(17, 2))
	for level := range 8 {
		for _, y := range drawn(rnd, level, 10) {
			for _, x := range drawn(rnd, level, 10) {
				if got := at(t, level, []api.Elem{y}, x); got != y {
					t.Errorf("At(%d) of the one value %v: %v", level, y, got)
				}
			}
			if got := powers(t, level, []api.Elem{y}); got[0] != y {
				t.Errorf("Powers(%d) of the one value %v: %v", level, y, got)
			}
		}
	}
}

// 17.1
func TestPowers(t *testing.T) {
	each(10, func(rnd *rand.Rand, level, d int) {
		v := drawn(rnd, level, d+1)
		before := slices.Clone(v)
		c := powers(t, level, v)
		for i := range v {
			if got := model(level, c, api.Elem{Lo: uint64(i)}); got != before[i] {
				t.Errorf("Powers(%d, %v): %v, with %v at the place %d", level, before, c, got, i)
			}
		}
		if !slices.Equal(v, before) {
			t.Errorf("Powers changed the values")
		}
		clear(c)
		if !slices.Equal(v, before) {
			t.Errorf("what Powers answers is what it was given")
		}
	})
}

// 17.1: sizes.
func TestSizes(t *testing.T) {
	for level := range 8 {
		most := lastFit[level] + 1
		noValue(t, level, nil, api.Elem{}, api.ErrSize)
		noValue(t, level, []api.Elem{}, api.Elem{}, api.ErrSize)
		for n := 1; n <= most; n++ {
			at(t, level, make([]api.Elem, n), api.Elem{})
			powers(t, level, make([]api.Elem, n))
		}
		for _, n := range []int{most + 1, most + 2, 10, 17, 257, 1000} {
			noValue(t, level, make([]api.Elem, n), api.Elem{}, api.ErrSize)
		}
	}
}

// 17.1: elements that are not of the level, among the values or beside them.
func TestAtField(t *testing.T) {
	for level := range 8 {
		for _, x := range tooHigh(level) {
			for n := 1; n <= lastFit[level]+1; n++ {
				zeros := make([]api.Elem, n)
				for i := range zeros {
					noValue(t, level, put(zeros, i, x), api.Elem{}, api.ErrField)
				}
				if y, e := line.At(level, zeros, x); e != api.ErrField || y != (api.Elem{}) {
					t.Errorf("At(%d) of %d values at %v: %v, %v", level, n, x, y, e)
				}
			}
		}
	}
}

// 17.1, 17.2: which error comes first.
func TestFirstError(t *testing.T) {
	high := tower.Bit(127)
	for _, level := range noLevels {
		for _, l := range [][]api.Elem{nil, {}, lo(0), lo(1, 0), {high}, make([]api.Elem, 10)} {
			noValue(t, level, l, api.Elem{}, api.ErrArg)
			noValue(t, level, l, high, api.ErrArg)
			for _, d := range []int{math.MinInt, -1, 0, 1, 8, 9, math.MaxInt} {
				noValues(t, level, l, d, api.ErrArg)
			}
		}
	}
	for level := range 7 {
		noValue(t, level, nil, high, api.ErrSize)
		noValue(t, level, slices.Repeat([]api.Elem{high}, 10), high, api.ErrSize)
		noValue(t, level, slices.Repeat([]api.Elem{high}, lastFit[level]+2), api.Elem{}, api.ErrSize)
		noValues(t, level, []api.Elem{high}, -1, api.ErrSize)
		noValues(t, level, []api.Elem{high}, lastFit[level]+1, api.ErrSize)
		noValues(t, level, []api.Elem{high, high}, 0, api.ErrSize)
	}
}

// 17.2
func TestValues(t *testing.T) {
	each(5, func(rnd *rand.Rand, level, d int) {
		for n := 1; n <= d+1; n++ {
			c := drawn(rnd, level, n)
			before := slices.Clone(c)
			v := values(t, level, c, d)
			for i, y := range v {
				if y != model(level, c, api.Elem{Lo: uint64(i)}) {
					t.Errorf("Values(%d, %v, %d): %v", level, c, d, v)
				}
			}
			clear(v)
			if !slices.Equal(c, before) {
				t.Errorf("Values changed the coefficients")
			}
		}
	})
}

// 17.2
func TestValuesErrors(t *testing.T) {
	for level := range 8 {
		for _, d := range []int{math.MinInt, math.MinInt32, -2, -1, lastFit[level] + 1, lastFit[level] + 2, 9, 10, 1 << 32, math.MaxInt} {
			for _, c := range [][]api.Elem{nil, lo(0), lo(1, 1), make([]api.Elem, 9), make([]api.Elem, 10)} {
				noValues(t, level, c, d, api.ErrSize)
			}
		}
		for d := range lastFit[level] + 1 {
			noValues(t, level, nil, d, api.ErrSize)
			noValues(t, level, []api.Elem{}, d, api.ErrSize)
			values(t, level, make([]api.Elem, d+1), d)
			for _, n := range []int{d + 2, d + 3, 1000} {
				noValues(t, level, make([]api.Elem, n), d, api.ErrSize)
			}
			for _, x := range tooHigh(level) {
				for i := range d + 1 {
					noValues(t, level, put(make([]api.Elem, d+1), i, x), d, api.ErrField)
				}
			}
		}
	}
}

// 17.2
func TestEnds(t *testing.T) {
	rnd := rand.New(rand.NewPCG(17, 3))
	if line.Ends(nil) != (api.Elem{}) || line.Ends([]api.Elem{}) != (api.Elem{}) {
		t.Errorf("Ends of no values")
	}
	for n := 1; n <= 20; n++ {
		v := drawn(rnd, 7, n)
		before := slices.Clone(v)
		want := v[0]
		if n > 1 {
			want = api.Elem{Hi: v[0].Hi ^ v[1].Hi, Lo: v[0].Lo ^ v[1].Lo}
		}
		if got := line.Ends(v); got != want {
			t.Errorf("Ends of %d values: %v", n, got)
		}
		if !slices.Equal(v, before) {
			t.Errorf("Ends changed the values")
		}
	}
	if got := line.Ends(lo(5, 3, 100)); got != lo(6)[0] {
		t.Errorf("Ends(5, 3, 100): %v", got)
	}
	// What lies behind a list is not of it.
	if got := line.Ends(lo(5, 3)[:1]); got != lo(5)[0] {
		t.Errorf("Ends(5): %v", got)
	}
}

// 17.3
func TestThereAndBack(t *testing.T) {
	each(20, func(rnd *rand.Rand, level, d int) {
		l := drawn(rnd, level, d+1)
		if got := values(t, level, powers(t, level, l), d); !slices.Equal(got, l) {
			t.Errorf("the values of the powers of %v of level %d: %v", l, level, got)
		}
		if got := powers(t, level, values(t, level, l, d)); !slices.Equal(got, l) {
			t.Errorf("the powers of the values of %v of level %d: %v", l, level, got)
		}
		// Fewer coefficients than there might be are zeros behind.
		n := 1 + rnd.IntN(d+1)
		if got := powers(t, level, values(t, level, l[:n], d)); !slices.Equal(got, append(slices.Clone(l[:n]), make([]api.Elem, d+1-n)...)) {
			t.Errorf("the powers of the values of %v of level %d: %v", l[:n], level, got)
		}
	})
}

// lists hands on all lists of n elements of a level.
func lists(level, n int, look func(l []api.Elem)) {
	size := 1 << (1 << level)
	total := 1
	for range n {
		total *= size
	}
	for k := range total {
		l := make([]api.Elem, n)
		for i := range l {
			l[i].Lo = uint64(k % size)
			k /= size
		}
		look(l)
	}
}

// agree is at how many elements of a small level two polynomials have one value.
func agree(t *testing.T, level int, v, w []api.Elem) int {
	t.Helper()
	n := 0
	for x := range uint64(1 << (1 << level)) {
		if at(t, level, v, api.Elem{Lo: x}) == at(t, level, w, api.Elem{Lo: x}) {
			n++
		}
	}
	return n
}

// 17.3: all polynomials of small levels, held against one; and it happens that they agree at d elements.
func TestAgree(t *testing.T) {
	rnd := rand.New(rand.NewPCG(17, 4))
	for level, most := range []int{1, 3, 2} {
		for d := range most + 1 {
			v := drawn(rnd, level, d+1)
			greatest := 0
			lists(level, d+1, func(w []api.Elem) {
				n := agree(t, level, v, w)
				if slices.Equal(v, w) {
					return
				}
				greatest = max(greatest, n)
			})
			if greatest != d {
				t.Errorf("level %d: unlike polynomials of degree %d agree at %d elements", level, d, greatest)
			}
		}
	}
}

// 17.3: polynomials that differ at one place, in a greater level.
func TestAgreeGreater(t *testing.T) {
	rnd := rand.New(rand.NewPCG(17, 5))
	for d := range 9 {
		for i := range d + 1 {
			v := drawn(rnd, 3, d+1)
			w := put(v, i, tower.Add(v[i], tower.Bit(rnd.IntN(8))))
			if n := agree(t, 3, v, w); n != d {
				t.Errorf("polynomials of degree %d that differ at the place %d agree at %d elements", d, i, n)
			}
		}
	}
}
