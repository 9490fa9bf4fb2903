package count_test

import (
	"math"
	"math/rand/v2"
	"reflect"
	"testing"

	"steeple/api"
	"steeple/circuit"
	"steeple/count"
	"steeple/gadget"
	"steeple/witness"
	"steeple/zero"
)

// triesOf is how many tries there are, factor by factor.
func triesOf(level int, s api.System) int {
	if level < 0 || level > 2 || circuit.Check(s) != api.OK {
		return 0
	}
	n := 1
	for range 1 + s.Wide + s.Rows {
		n *= []int{2, 4, 16}[level]
		if n > 65536 {
			return 0
		}
	}
	return n
}

// levels are those that are tried, those next to them, and numbers that are none.
var levels = []int{math.MinInt, -2, -1, 0, 1, 2, 3, 4, 7, 8, 63, 64, math.MaxInt}

// 32.2: how many tries there are, of all sizes and levels.
func TestTries(t *testing.T) {
	for _, level := range levels {
		for wide := range 6 {
			for rows := range 5 {
				for _, s := range []api.System{{Wide: wide, Rows: rows}, never(wide, rows)} {
					if n := count.Tries(level, s); n != triesOf(level, s) {
						t.Errorf("Tries(%d, %v): %d", level, s, n)
					}
				}
			}
		}
		for e, s := range wrong() {
			if n := count.Tries(level, s); n != 0 {
				t.Errorf("Tries(%d) of what may not be, %v: %d", level, e, n)
			}
		}
	}
	// just as many as there may be, and the next ones
	for _, x := range []struct{ level, vars, want int }{{1, 7, 65536}, {1, 8, 0}, {2, 3, 65536}, {2, 4, 0}, {0, 9, 1024}, {0, 0, 2}, {1, 0, 4}, {2, 0, 16}} {
		if n := count.Tries(x.level, api.System{Wide: min(5, x.vars), Rows: x.vars - min(5, x.vars)}); n != x.want {
			t.Errorf("Tries of %v: %d", x, n)
		}
	}
}

// zerosOf tries all, one by one.
func zerosOf(t *testing.T, level int, s api.System, all [][]uint64) int {
	t.Helper()
	conds, _ := circuit.Conds(s)
	tables, e := witness.Tables(s, all)
	if e != api.OK {
		t.Fatalf("Tables: %v", e)
	}
	size := uint64(1) << (1 << level)
	many := 0
	for n := range uint64(triesOf(level, s)) {
		a := api.Elem{Lo: n % size}
		var p []api.Elem
		for range s.Wide + s.Rows {
			n /= size
			p = append(p, api.Elem{Lo: n % size})
		}
		sum, e := zero.Sum(level, conds, tables, a, p)
		if e != api.OK {
			t.Fatalf("Sum: %v", e)
		}
		if sum == (api.Elem{}) {
			many++
		}
	}
	return many
}

// checkZeros holds Zeros against what is tried one by one; if the columns hold, all tries are zero, else at most Bound.
func checkZeros(t *testing.T, level int, s api.System, all [][]uint64) {
	t.Helper()
	before := copied(all)
	n, e := count.Zeros(level, s, all)
	if want := zerosOf(t, level, s, all); e != api.OK || n != want || !reflect.DeepEqual(all, before) {
		t.Errorf("Zeros(%d, %v, %v): %d, %v, not %d", level, s, all, n, e, want)
	}
	holds, _ := witness.Holds(s, all)
	if holds && n != count.Tries(level, s) || !holds && n > count.Bound(level, s) {
		t.Errorf("Zeros(%d, %v, %v): %d of %d, at most %d, but holds: %v", level, s, all, n, count.Tries(level, s), count.Bound(level, s), holds)
	}
}

// 32.2, 32.3: all columns of small systems, at levels 1 and 2.
func TestZeros(t *testing.T) {
	for _, level := range []int{1, 2} {
		for b := range uint64(4) {
			for c := range uint64(4) {
				checkZeros(t, level, never(1, 0), [][]uint64{{b}, {c}})
				if level == 1 {
					checkZeros(t, level, never(0, 1), [][]uint64{{b & 1, b >> 1}, {c & 1, c >> 1}})
				}
			}
		}
		bit, _, _ := gadget.Adder(0, 0)
		for n := range uint64(32) {
			all := make([][]uint64, 8)
			for k := range all {
				all[k] = []uint64{n >> k & 1}
			}
			checkZeros(t, level, bit, all)
		}
	}
}

// 32.2, 32.3: one gate alone, with one condition or two.
func TestZerosOfOneGate(t *testing.T) {
	for _, g := range []api.Gate{{Kind: api.GateSame, B: 1}, {Kind: api.GateAnd, Dst: 2, B: 1}, {Kind: api.GateRound, Dst: 2, S: 1}, {Kind: api.GateAdd, Dst: 2, B: 1, S: 3}} {
		s := api.System{Wide: 1, Cols: 2, Private: 2, Gates: []api.Gate{g}}
		for n := range uint64(256) {
			if n%5 == 0 {
				checkZeros(t, 1, s, [][]uint64{{n & 3}, {n >> 2 & 3}, {n >> 4 & 3}, {n >> 6}})
			}
		}
	}
}

// 32.2, 32.3: drawn columns, some of which hold, of systems with each kind of gate.
func TestZerosOfDrawnColumns(t *testing.T) {
	rnd := rand.New(rand.NewPCG(32, 2))
	adder, _, _ := gadget.Adder(1, 1)
	turned := api.System{Wide: 1, Rows: 1, Cols: 3, Public: 1, Private: 1, Gates: []api.Gate{
		{Kind: api.GateLeft, Dst: 2, A: 1, S: 1}, {Kind: api.GateRight, Dst: 3, A: 1, S: 1}, {Kind: api.GateRound, Dst: 4, A: 1, S: 1}, {Kind: api.GateXor, Dst: 5, A: 2, B: 3}, {Kind: api.GateSame, A: 4, B: 5}, {Kind: api.GateNot, Dst: 6, A: 0}, {Kind: api.GateAnd, Dst: 7, A: 6, B: 0},
	}}
	for _, level := range []int{1, 2} {
		for _, s := range []api.System{adder, turned} {
			for n := range 12 {
				given := make([][]uint64, s.Public+s.Private)
				for k := range given {
					given[k] = []uint64{rnd.Uint64N(4), rnd.Uint64N(4)}
				}
				if n < 4 && s.Public == 2 {
					given[1] = []uint64{(given[0][0] + given[2][0]) % 4, (given[0][1] + given[2][1]) % 4}
				}
				all, e := witness.Run(s, given)
				if e != api.OK {
					all = make([][]uint64, 8)
					for k := range all {
						all[k] = []uint64{rnd.Uint64N(4), rnd.Uint64N(4)}
					}
				} else if n%2 == 1 {
					all[rnd.IntN(7)][rnd.IntN(2)] ^= 1
				}
				if level == 2 && n > 3 {
					continue
				}
				checkZeros(t, level, s, all)
			}
		}
	}
}

// 32.3: of a system that holds for no choice, whatever columns are told behind the public ones.
func TestFewTriesDoNotSeeIt(t *testing.T) {
	s := api.System{Cols: 2, Public: 1, Private: 1, Gates: []api.Gate{{Kind: api.GateAnd, Dst: 2, A: 0, B: 1}, {Kind: api.GateNot, Dst: 3, A: 1}, {Kind: api.GateSame, A: 2, B: 3}}}
	public := [][]uint64{{0}}
	l, n, e := count.Solve(s, public)
	if e != api.OK || n != 1 || l[0][0] != 1 {
		t.Fatalf("Solve: %v, %d, %v", l, n, e)
	}
	s.Gates = append(s.Gates, api.Gate{Kind: api.GateSame, A: 0, B: 1})
	if _, n, e := count.Solve(s, public); e != api.OK || n != 0 {
		t.Fatalf("Solve: %d, %v", n, e)
	}
	for told := range uint64(8) {
		all := [][]uint64{{0}, {told & 1}, {told >> 1 & 1}, {told >> 2}}
		for _, level := range []int{1, 2} {
			n, e := count.Zeros(level, s, all)
			if e != api.OK || n > count.Bound(level, s) || n == count.Tries(level, s) {
				t.Errorf("level %d, %v: %d of %d, %v", level, all, n, count.Bound(level, s), e)
			}
		}
	}
}

// 32.2: as many tries as there may be, at both levels, and that it ends soon.
func TestMostTries(t *testing.T) {
	for level, s := range map[int]api.System{1: chain(api.GateAnd, 4, 3, 5, 25), 2: chain(api.GateAnd, 2, 1, 5, 25)} {
		all := make([][]uint64, 32)
		for k := range all {
			all[k] = make([]uint64, 1<<s.Rows)
		}
		if n, e := count.Zeros(level, s, all); e != api.OK || n != 65536 {
			t.Errorf("level %d, what holds: %d, %v", level, n, e)
		}
		all[26][0] = 1
		n, e := count.Zeros(level, s, all)
		// the last condition alone is 1, at one corner alone: a is not 0, and each element of the point not 1
		size := 1 << (1 << level)
		want := 1
		for range s.Wide + s.Rows {
			want *= size - 1
		}
		if want = 65536 - (size-1)*want; e != api.OK || n != want {
			t.Errorf("level %d, what does not: %d, %v, not %d", level, n, e, want)
		}
	}
}

// 32.2: each error, and which comes first.
func TestZerosErrors(t *testing.T) {
	adder, _, _ := gadget.Adder(1, 1)
	all, _ := witness.Run(adder, [][]uint64{{3, 1}, {0, 0}, {1, 3}})
	great := copied(all)
	great[7][1] = 4
	short := copied(all)
	short[7] = short[7][:1]
	noGate := adder
	noGate.Gates = nil
	many, long := sums(0, 0, 21), chain(api.GateAnd, 0, 0, 5, 30)
	noughts := func(n int) [][]uint64 {
		l := make([][]uint64, n)
		for k := range l {
			l[k] = []uint64{0}
		}
		return l
	}
	for i, x := range []struct {
		level int
		s     api.System
		all   [][]uint64
		want  api.Errno
	}{
		{1, adder, all, api.OK},
		{3, many, nil, api.ErrLong},
		{3, many, noughts(64), api.ErrLong},
		{3, adder, nil, api.ErrSize},
		{3, adder, all[:7], api.ErrSize},
		{3, noGate, short, api.ErrSize},
		{-1, adder, great, api.ErrField},
		{3, noGate, great, api.ErrField},
		{3, adder, all, api.ErrArg},
		{-1, adder, all, api.ErrArg},
		{math.MaxInt, adder, all, api.ErrArg},
		{math.MinInt, adder, all, api.ErrArg},
		{1, noGate, all, api.ErrArg},
		{0, noGate, all, api.ErrArg},
		{2, never(3, 1), [][]uint64{{0, 0}, {0, 0}}, api.ErrArg},
		{3, long, noughts(32), api.ErrArg},
		{1, long, noughts(32), api.ErrLong},
		{2, long, noughts(32), api.ErrLong},
		{0, adder, all, api.ErrSize},
		{0, never(1, 0), [][]uint64{{0}, {3}}, api.ErrSize},
	} {
		n, e := count.Zeros(x.level, x.s, x.all)
		if e != x.want || e != api.OK && n != 0 {
			t.Errorf("Zeros %d: %d, %v, not %v", i, n, e, x.want)
		}
	}
	for want, s := range wrong() {
		for _, level := range levels {
			if n, e := count.Zeros(level, s, nil); e != want || n != 0 {
				t.Errorf("Zeros(%d) of what may not be: %d, %v, not %v", level, n, e, want)
			}
			if n := count.Bound(level, s); n != 0 {
				t.Errorf("Bound(%d) of what may not be: %d", level, n)
			}
		}
	}
}

// 32.2
func TestBound(t *testing.T) {
	adder, _, _ := gadget.Adder(1, 1)
	for _, level := range levels {
		for _, s := range []api.System{adder, never(1, 0), never(0, 0), never(3, 4), never(5, 2), chain(api.GateAnd, 2, 1, 5, 25), chain(api.GateXor, 0, 0, 5, 30), sums(0, 0, 20), {Wide: 1}, {Wide: 1, Rows: 1}, {}} {
			conds, e := circuit.Conds(s)
			if e != api.OK {
				t.Fatalf("Conds: %v", e)
			}
			want := 0
			if tries := triesOf(level, s); tries > 0 {
				want = (len(conds) - 1 + s.Wide + s.Rows) * tries / []int{2, 4, 16}[level]
			}
			if n := count.Bound(level, s); n != want {
				t.Errorf("Bound(%d, %v): %d, not %d", level, s, n, want)
			}
		}
		if n := count.Bound(level, sums(0, 0, 21)); n != 0 {
			t.Errorf("Bound(%d) of too many conditions: %d", level, n)
		}
	}
	if n := count.Bound(1, adder); n != 4*16 {
		t.Errorf("Bound of the adder: %d", n)
	}
}
