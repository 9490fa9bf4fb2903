package zero_test

import (
	"math"
	"math/rand/v2"
	"slices"
	"testing"

	"steeple/api"
	"steeple/tower"
	"steeple/zero"
)

// noMix asks for an error of Mix, and for nothing beside it.
func noMix(t *testing.T, level, vars int, conds [][]api.Op, a api.Elem, want api.Errno) {
	t.Helper()
	if l, e := zero.Mix(level, vars, conds, a); e != want || len(l) != 0 {
		t.Errorf("Mix(%d, %d) of %d: %v, %v, not %v", level, vars, len(conds), l, e, want)
	}
}

// noHolds asks for an error of Holds, and of Sum ahead of all that is wrong with a and p.
func noHolds(t *testing.T, level int, conds [][]api.Op, tables [][]api.Elem, want api.Errno) {
	t.Helper()
	if h, e := zero.Holds(level, conds, tables); e != want || h {
		t.Errorf("Holds(%d) of %d: %v, %v, not %v", level, len(conds), h, e, want)
	}
	for _, a := range []api.Elem{{}, tower.Bit(127)} {
		for _, p := range [][]api.Elem{nil, lo(0), {tower.Bit(127)}, lo(0, 0), make([]api.Elem, 20)} {
			noSum(t, level, conds, tables, a, p, want)
		}
	}
}

// noSum asks for an error of Sum, and for nothing beside it.
func noSum(t *testing.T, level int, conds [][]api.Op, tables [][]api.Elem, a api.Elem, p []api.Elem, want api.Errno) {
	t.Helper()
	if s, e := zero.Sum(level, conds, tables, a, p); e != want || s != (api.Elem{}) {
		t.Errorf("Sum(%d) of %d, %d elements: %v, %v, not %v", level, len(conds), len(p), s, e, want)
	}
}

// noValue asks for an error of Value, and for nothing beside it.
func noValue(t *testing.T, level int, conds [][]api.Op, v []api.Elem, a, weight api.Elem, want api.Errno) {
	t.Helper()
	if x, e := zero.Value(level, conds, v, a, weight); e != want || x != (api.Elem{}) {
		t.Errorf("Value(%d) of %d, %d elements: %v, %v, not %v", level, len(conds), len(v), x, e, want)
	}
}

// wrongSteps are expressions of three variables that may not be, in any level.
func wrongSteps(t *testing.T) map[api.Errno][][]api.Op {
	return map[api.Errno][][]api.Op{
		api.ErrForm: {nil, {}, {{Kind: 9}}, {{}}, {{Kind: api.OpAdd}}, {{Kind: api.OpVar}, {Kind: api.OpMul, A: 1}}, {{Kind: api.OpConst, B: 1}}},
		api.ErrLong: {long(201), long(1000)},
		api.ErrNone: {steps(t, "x3"), {{Kind: api.OpVar, A: -1}}, steps(t, "x0 x7")},
		api.ErrRule: {power(9), append(power(9), api.Op{Kind: api.OpConst})},
	}
}

// 21.1, 21.3: the error of the first condition that has one, ahead of that of a.
func TestWrongConditions(t *testing.T) {
	right := power(1)
	for level := range 8 {
		high := append(tooHigh(level), api.Elem{})
		for want, all := range wrongSteps(t) {
			for _, wrong := range all {
				for _, a := range high {
					for _, conds := range [][][]api.Op{{wrong}, {right, wrong}, {right, right, wrong, right}, append(slices.Repeat([][]api.Op{right}, 39), wrong), {wrong, nil}, {wrong, power(9)}, {wrong, long(201)}, {long(190), power(8), wrong}} {
						noMix(t, level, 3, conds, a, want)
						noValue(t, level, conds, []api.Elem{a, {}, {}}, a, a, want)
					}
				}
			}
		}
		for _, e := range tooHigh(level) {
			wrong := []api.Op{{Kind: api.OpConst, Val: e}}
			noMix(t, level, 3, [][]api.Op{right, wrong, nil}, api.Elem{}, api.ErrField)
			noMix(t, level, 3, [][]api.Op{right, nil, wrong}, e, api.ErrForm)
		}
		for _, vars := range []int{math.MinInt, -2, -1} {
			for _, a := range high {
				noMix(t, level, vars, [][]api.Op{right}, a, api.ErrArg)
				noMix(t, level, vars, [][]api.Op{nil}, a, api.ErrArg)
			}
		}
	}
	for _, level := range noLevels {
		for _, a := range []api.Elem{{}, tower.Bit(127)} {
			for _, conds := range [][][]api.Op{{right}, {nil}, {power(9)}, {long(201)}} {
				noMix(t, level, 3, conds, a, api.ErrArg)
				noMix(t, level, -1, conds, a, api.ErrArg)
				noValue(t, level, conds, nil, a, a, api.ErrArg)
				noValue(t, level, conds, []api.Elem{a}, a, a, api.ErrArg)
			}
		}
	}
}

// 21.1: an a that is not of the level, ahead of what is wrong with the mixed expression; of one condition as well.
func TestWrongPower(t *testing.T) {
	for level := range 8 {
		for _, a := range tooHigh(level) {
			for _, conds := range [][][]api.Op{{power(1)}, {power(1), power(2)}, {long(200)}, {power(8)}, {long(150), long(150)}, conditions(t, "c1")} {
				noMix(t, level, 1, conds, a, api.ErrField)
				noValue(t, level, conds, lo(0), a, api.Elem{}, api.ErrField)
				noValue(t, level, conds, []api.Elem{a}, a, a, api.ErrField)
			}
		}
	}
}

// 21.1: a mixed expression of 200 steps, and of 201; of degree 8, and of 9; the length comes first.
func TestMixedTooMuch(t *testing.T) {
	for level := range 8 {
		for _, fits := range [][][]api.Op{{long(198)}, {long(98), long(97)}, {long(1), long(194)}, {long(194), long(1)}, {long(64), long(64), long(64)}} {
			if l := mixed(t, level, 1, fits, tower.One()); len(l) < 199 || len(l) > 200 {
				t.Errorf("level %d: %d steps", level, len(l))
			}
		}
		for _, conds := range [][][]api.Op{{long(199)}, {long(200)}, {long(98), long(98)}, {long(1), long(195)}, {long(64), long(64), long(65)}, slices.Repeat([][]api.Op{long(200)}, 40), slices.Repeat([][]api.Op{long(3)}, 40)} {
			noMix(t, level, 1, conds, tower.One(), api.ErrLong)
			noValue(t, level, conds, lo(1), tower.One(), tower.One(), api.ErrLong)
			for _, e := range tooHigh(level) {
				noValue(t, level, conds, []api.Elem{e}, tower.One(), e, api.ErrLong)
			}
		}
		mixed(t, level, 1, [][]api.Op{power(7), power(1)}, tower.One())
		// The degree is the last step's of a condition, and counts though a^j is 0.
		mixed(t, level, 1, [][]api.Op{append(power(8), api.Op{Kind: api.OpVar})}, tower.One())
		for _, conds := range [][][]api.Op{{power(8)}, {power(1), power(8)}, {power(8), power(1)}} {
			for _, a := range lo(0, 1) {
				noMix(t, level, 1, conds, a, api.ErrRule)
				noMix(t, level, math.MaxInt, conds, a, api.ErrRule)
				noValue(t, level, conds, lo(1), a, tower.One(), api.ErrRule)
				for _, e := range tooHigh(level) {
					noValue(t, level, conds, []api.Elem{e}, a, e, api.ErrRule)
				}
			}
		}
		noMix(t, level, 1, [][]api.Op{power(8), long(190)}, tower.One(), api.ErrLong)
		noMix(t, level, math.MaxInt, [][]api.Op{long(199)}, tower.One(), api.ErrLong)
	}
}

// 21.2: no conditions, and too many, come ahead of levels that are none and of all else.
func TestHoldsNumbers(t *testing.T) {
	wrong := [][][]api.Elem{nil, {lo(0, 1)}, {nil}, {lo(0, 0, 0)}, {{tower.Bit(127)}}}
	for _, level := range append([]int{0, 3, 7}, noLevels...) {
		for _, tables := range wrong {
			noHolds(t, level, nil, tables, api.ErrArg)
			noHolds(t, level, [][]api.Op{}, tables, api.ErrArg)
			for _, n := range []int{41, 100} {
				noHolds(t, level, make([][]api.Op, n), tables, api.ErrLong)
				noHolds(t, level, slices.Repeat([][]api.Op{power(1)}, n), tables, api.ErrLong)
			}
		}
	}
	for _, level := range noLevels {
		for _, tables := range wrong {
			noHolds(t, level, [][]api.Op{power(1)}, tables, api.ErrArg)
			noHolds(t, level, [][]api.Op{nil}, tables, api.ErrArg)
		}
	}
}

// 21.2: the error of sumcheck.Check of the first condition that has one: what is wrong with the tables is told of the first one of all.
func TestHoldsErrors(t *testing.T) {
	right := power(1)
	for level := range 8 {
		three := [][]api.Elem{lo(0, 1), lo(1, 1), lo(1, 0)}
		sizes := [][][]api.Elem{{lo(0, 1), lo(1, 1), lo(1)}, {lo(0, 1, 0), lo(0, 1, 0), lo(0, 1, 0)}, {nil, nil, nil}, {lo(0), lo(1), lo(0, 1)}}
		for want, all := range wrongSteps(t) {
			for _, wrong := range all {
				noHolds(t, level, [][]api.Op{wrong}, three, want)
				noHolds(t, level, [][]api.Op{right, wrong}, three, want)
				noHolds(t, level, [][]api.Op{right, right, wrong, nil}, three, want)
				noHolds(t, level, append(slices.Repeat([][]api.Op{right}, 39), wrong), three, want)
				for _, tables := range sizes {
					noHolds(t, level, [][]api.Op{wrong}, tables, want)
					noHolds(t, level, [][]api.Op{right, wrong}, tables, api.ErrSize)
				}
				for _, e := range tooHigh(level) {
					tables := [][]api.Elem{lo(0, 1), lo(0, 1), {{}, e}}
					noHolds(t, level, [][]api.Op{wrong, right}, tables, want)
					noHolds(t, level, [][]api.Op{right, wrong}, tables, api.ErrField)
				}
			}
		}
		noHolds(t, level, conditions(t, "c0"), nil, api.ErrSize)
		noHolds(t, level, [][]api.Op{right}, nil, api.ErrNone)
		noHolds(t, level, [][]api.Op{right}, [][]api.Elem{make([]api.Elem, 1<<13)}, api.ErrSize)
		for _, e := range tooHigh(level) {
			for i := range 4 {
				noHolds(t, level, conditions(t, "c1; x0"), [][]api.Elem{put(make([]api.Elem, 4), i, e)}, api.ErrField)
			}
			noHolds(t, level, [][]api.Op{right, {{Kind: api.OpConst, Val: e}}}, three, api.ErrField)
		}
	}
	// The degree of a later condition does not fit the level.
	noHolds(t, 0, [][]api.Op{right, power(2)}, [][]api.Elem{lo(0, 1)}, api.ErrSize)
	noHolds(t, 0, [][]api.Op{right, power(2), nil}, [][]api.Elem{lo(0, 1)}, api.ErrSize)
	noHolds(t, 0, [][]api.Op{right, nil, power(2)}, [][]api.Elem{lo(0, 1)}, api.ErrForm)
	noHolds(t, 1, [][]api.Op{power(3), power(4)}, [][]api.Elem{lo(0, 1)}, api.ErrSize)
}

// 21.2: Mix's error, then p's, then that of the mixed expression over the tables.
func TestSumErrors(t *testing.T) {
	for level := range 8 {
		for n := range 4 {
			tables := [][]api.Elem{make([]api.Elem, 1<<n)}
			conds := conditions(t, "c1; c1")
			for _, e := range append(tooHigh(level), api.Elem{}) {
				many := slices.Repeat([]api.Elem{e}, 40)
				for _, m := range []int{0, 1, n - 1, n + 1, 1 << n, 12, 13, 16, 17, 40} {
					if m < 0 || m == n {
						continue
					}
					noSum(t, level, conds, tables, tower.One(), many[:m], api.ErrSize)
					noSum(t, level, [][]api.Op{long(199)}, tables, tower.One(), many[:m], api.ErrLong)
					for _, a := range tooHigh(level) {
						noSum(t, level, conds, tables, a, many[:m], api.ErrField)
					}
				}
			}
			for _, e := range tooHigh(level) {
				noSum(t, level, conds, tables, e, make([]api.Elem, n), api.ErrField)
				for i := range n {
					noSum(t, level, conds, tables, tower.One(), put(make([]api.Elem, n), i, e), api.ErrField)
				}
			}
			if level > 1 {
				noSum(t, level, [][]api.Op{power(8)}, tables, tower.One(), make([]api.Elem, n), api.ErrRule)
				noSum(t, level, [][]api.Op{power(8)}, tables, tower.One(), make([]api.Elem, n+1), api.ErrRule)
			}
		}
	}
}

// 21.2: a condition may fit where the mixed one, of one degree more, does not.
func TestSumDegrees(t *testing.T) {
	for _, a := range []struct{ level, d int }{{0, 1}, {1, 3}} {
		tables, conds := [][]api.Elem{lo(0, 0)}, [][]api.Op{power(a.d)}
		if !holds(t, a.level, conds, tables) {
			t.Errorf("level %d: noughts do not hold", a.level)
		}
		noSum(t, a.level, conds, tables, api.Elem{}, lo(1), api.ErrSize)
		for _, e := range tooHigh(a.level) {
			noSum(t, a.level, conds, tables, api.Elem{}, []api.Elem{e}, api.ErrField)
		}
		if got := zeroSum(t, a.level+1, conds, tables, api.Elem{}, lo(1)); got != (api.Elem{}) {
			t.Errorf("level %d: %v", a.level+1, got)
		}
	}
}

// 21.3: a weight or an element that is not of the level, wherever it stands, used or not.
func TestValueErrors(t *testing.T) {
	for level := range 8 {
		for _, e := range tooHigh(level) {
			for _, conds := range [][][]api.Op{{power(1)}, conditions(t, "c0"), conditions(t, "c0; x2")} {
				noValue(t, level, conds, lo(0, 0, 0), tower.One(), e, api.ErrField)
				for i := range 3 {
					noValue(t, level, conds, put(lo(0, 0, 0), i, e), tower.One(), api.Elem{}, api.ErrField)
				}
			}
			noValue(t, level, conditions(t, "c0"), nil, tower.One(), e, api.ErrField)
			// No conditions, too many, and variables that there are not come first.
			noValue(t, level, nil, []api.Elem{e}, e, e, api.ErrArg)
			noValue(t, level, make([][]api.Op, 41), []api.Elem{e}, e, e, api.ErrLong)
			noValue(t, level, conditions(t, "x1"), []api.Elem{e}, e, e, api.ErrNone)
		}
		// The weight's variable is none of the conditions'.
		noValue(t, level, conditions(t, "x1"), lo(0), api.Elem{}, api.Elem{}, api.ErrNone)
		noValue(t, level, conditions(t, "x0"), nil, api.Elem{}, api.Elem{}, api.ErrNone)
	}
}

// R3: what is handed in is as it was, also behind its end, and shares nothing with what is answered.
func TestNothingIsChanged(t *testing.T) {
	rnd := rand.New(rand.NewPCG(21, 9))
	for level := 1; level < 8; level++ {
		room := drawn(rnd, level, 60)
		before := slices.Clone(room)
		all := make([][]api.Elem, 5)
		for k := range all {
			all[k] = room[8*k : 8*k+8]
		}
		tables, p, v := all[:3], room[40:43], room[50:53]
		ops := slices.Grow(append(steps(t, "x0 x1 *0,1"), steps(t, "x2 x1 +0,1")...), 40)
		conds := [][]api.Op{ops[:3], ops[3:6], ops[:1]}
		kept := slices.Clone(ops)
		for n := 1; n <= 3; n++ {
			first := mixed(t, level, 3, conds[:n], room[0])
			second := mixed(t, level, 3, conds[:n], room[0])
			for i := range first[:cap(first)] {
				first[:cap(first)][i] = api.Op{Kind: 9, A: 9, B: 9}
			}
			if !slices.Equal(second, modelMix(level, 3, conds[:n], room[0])) || !slices.Equal(ops, kept) {
				t.Errorf("level %d: an answer of Mix shares memory", level)
			}
			holds(t, level, conds[:n], tables)
			zeroSum(t, level, conds[:n], tables, room[0], p)
			valued(t, level, conds[:n], v, room[0], room[1])
		}
		if !slices.Equal(room, before) || !slices.Equal(ops, kept) {
			t.Errorf("level %d: what was handed in has changed", level)
		}
		// Sum and Value have one list more, which they must not lay behind those handed in.
		for k := range all {
			if &all[k][0] != &room[8*k] || len(all[k]) != 8 {
				t.Errorf("level %d: the table %d is another one", level, k)
			}
		}
	}
}
