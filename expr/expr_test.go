package expr_test

import (
	"math"
	"math/big"
	"math/rand/v2"
	"slices"
	"strings"
	"testing"

	"steeple/api"
	"steeple/expr"
	"steeple/tower"
)

// noLevels are numbers that are no levels.
var noLevels = []int{math.MinInt, math.MinInt32, -64, -1, 8, 9, 63, 64, math.MaxInt32, math.MaxInt}

// elems are elements by their digits to the base 16, with spaces between.
func elems(t *testing.T, s string) []api.Elem {
	t.Helper()
	var l []api.Elem
	for _, x := range strings.Fields(s) {
		n, ok := new(big.Int).SetString(x, 16)
		if !ok {
			t.Fatalf("no number: %s", x)
		}
		low := new(big.Int).And(n, new(big.Int).SetUint64(math.MaxUint64))
		l = append(l, api.Elem{Hi: new(big.Int).Rsh(n, 64).Uint64(), Lo: low.Uint64()})
	}
	return l
}

// drawn is n elements of a level.
func drawn(rnd *rand.Rand, level, n int) []api.Elem {
	l := make([]api.Elem, n)
	for i := range l {
		l[i].Lo = rnd.Uint64()
		if level == 7 {
			l[i].Hi = rnd.Uint64()
		} else {
			l[i].Lo &= 1<<(1<<level) - 1
		}
	}
	return l
}

// tooHigh are elements that are not of a level.
func tooHigh(level int) []api.Elem {
	if level == 7 {
		return nil
	}
	return []api.Elem{tower.Bit(1 << level), tower.Bit(127), tower.Add(tower.One(), tower.Bit(1<<level))}
}

// constant is a step.
func constant(n uint64) api.Op {
	return api.Op{Kind: api.OpConst, Val: api.Elem{Lo: n}}
}

// variable is a step.
func variable(n int) api.Op {
	return api.Op{Kind: api.OpVar, A: n}
}

// add is a step.
func add(a, b int) api.Op {
	return api.Op{Kind: api.OpAdd, A: a, B: b}
}

// mul is a step.
func mul(a, b int) api.Op {
	return api.Op{Kind: api.OpMul, A: a, B: b}
}

// power is the variable 0, times itself: the degree is d, from 1 on.
func power(d int) []api.Op {
	l := []api.Op{variable(0)}
	for range d - 1 {
		l = append(l, mul(len(l)-1, 0))
	}
	return l
}

// example is the chapter's: x0 x1 + 1.
func example() []api.Op {
	return []api.Op{variable(0), variable(1), mul(0, 1), constant(1), add(2, 3)}
}

// filled is an expression of n steps whose last one is the sum of the two ahead.
func filled(n int) []api.Op {
	l := []api.Op{variable(0), variable(1)}
	for len(l) < n {
		l = append(l, add(len(l)-1, len(l)-2))
	}
	return l[:n]
}

// behind is a list with steps behind it.
func behind(l []api.Op, more ...api.Op) []api.Op {
	return append(slices.Clone(l), more...)
}

// 16.1
func TestCheckGood(t *testing.T) {
	for _, l := range [][]api.Op{example(), {variable(0)}, {constant(0)}, {constant(1)}, power(1), power(2), power(7), power(8), filled(199), filled(200), {constant(1), variable(1), add(0, 0), mul(2, 2), mul(1, 0)}} {
		before := slices.Clone(l)
		for level := range 8 {
			for _, vars := range []int{2, 3, 1000, math.MaxInt} {
				if e := expr.Check(level, vars, l); e != api.OK {
					t.Errorf("Check(%d, %d, %v): %v", level, vars, l, e)
				}
			}
		}
		if !slices.Equal(l, before) {
			t.Errorf("Check changed %v", before)
		}
	}
}

// 16.1: arguments ahead of lengths, lengths ahead of steps.
func TestCheckArguments(t *testing.T) {
	broken := []api.Op{{Kind: 9}}
	lists := [][]api.Op{example(), nil, {}, broken, make([]api.Op, 201), filled(201)}
	for _, l := range lists {
		for _, level := range noLevels {
			for _, vars := range []int{math.MinInt, -1, 0, 2, math.MaxInt} {
				if e := expr.Check(level, vars, l); e != api.ErrArg {
					t.Errorf("Check(%d, %d) of %d steps: %v", level, vars, len(l), e)
				}
			}
		}
		for level := range 8 {
			for _, vars := range []int{math.MinInt, math.MinInt32, -2, -1} {
				if e := expr.Check(level, vars, l); e != api.ErrArg {
					t.Errorf("Check(%d, %d) of %d steps: %v", level, vars, len(l), e)
				}
			}
		}
	}
}

// 16.1
func TestCheckLengths(t *testing.T) {
	for level := range 8 {
		for _, vars := range []int{0, 1, 2, math.MaxInt} {
			if expr.Check(level, vars, nil) != api.ErrForm || expr.Check(level, vars, []api.Op{}) != api.ErrForm {
				t.Errorf("Check(%d, %d) of no step", level, vars)
			}
			for _, n := range []int{201, 202, 1000} {
				for _, l := range [][]api.Op{filled(n), make([]api.Op, n), slices.Repeat([]api.Op{variable(-1)}, n), slices.Repeat([]api.Op{{Kind: api.OpConst, Val: tower.Bit(127)}}, n)} {
					if e := expr.Check(level, vars, l); e != api.ErrLong {
						t.Errorf("Check(%d, %d) of %d steps: %v", level, vars, n, e)
					}
				}
			}
		}
		for n := 1; n <= expr.MaxOps; n++ {
			if e := expr.Check(level, 2, filled(n)); e != api.OK {
				t.Errorf("Check(%d, 2) of %d steps: %v", level, n, e)
			}
		}
	}
	if expr.MaxOps != 200 || expr.MaxDegree != 8 {
		t.Errorf("MaxOps, MaxDegree: %d, %d", expr.MaxOps, expr.MaxDegree)
	}
}

// 16.1: no such kind, and fields that a kind does not need.
func TestCheckForm(t *testing.T) {
	one := tower.One()
	var wrong []api.Op
	for _, kind := range []int{math.MinInt, -4, -1, 0, 5, 6, 1 << 32, 1<<32 + 1, 1<<32 + 2, math.MaxInt} {
		wrong = append(wrong, api.Op{Kind: kind}, api.Op{Kind: kind, A: 1, B: 1, Val: one})
	}
	for _, n := range []int{math.MinInt, -1, 1, 2, math.MaxInt} {
		wrong = append(wrong,
			api.Op{Kind: api.OpConst, A: n}, api.Op{Kind: api.OpConst, B: n}, api.Op{Kind: api.OpConst, A: n, Val: one}, api.Op{Kind: api.OpConst, B: n, Val: one},
			api.Op{Kind: api.OpVar, B: n}, api.Op{Kind: api.OpVar, A: 1, B: n})
	}
	for _, x := range []api.Elem{one, tower.Bit(63), tower.Bit(64), tower.Bit(127)} {
		wrong = append(wrong, api.Op{Kind: api.OpVar, Val: x}, api.Op{Kind: api.OpVar, A: 1, Val: x}, api.Op{Kind: api.OpAdd, Val: x}, api.Op{Kind: api.OpMul, B: 1, Val: x})
	}
	for _, kind := range []int{api.OpAdd, api.OpMul} {
		for _, n := range []int{math.MinInt, -2, -1, 2, 3, 4, 5, math.MaxInt} {
			wrong = append(wrong, api.Op{Kind: kind, A: n}, api.Op{Kind: kind, B: n}, api.Op{Kind: kind, A: n, B: n}, api.Op{Kind: kind, A: 1, B: n}, api.Op{Kind: kind, A: n, B: 1})
		}
	}
	for level := range 8 {
		for _, op := range wrong {
			// Two steps are ahead of it, and more behind it, that it may not name either.
			if e := expr.Check(level, 2, []api.Op{variable(0), variable(1), op, add(0, 1), mul(0, 1), variable(0)}); e != api.ErrForm {
				t.Errorf("Check(%d) with %v: %v", level, op, e)
			}
		}
		for _, op := range []api.Op{add(0, 0), mul(0, 0), {Kind: 7}} {
			if e := expr.Check(level, 2, []api.Op{op}); e != api.ErrForm {
				t.Errorf("Check(%d) of %v alone: %v", level, op, e)
			}
		}
	}
}

// 16.1: the steps that a sum or product may name are just those ahead.
func TestCheckAhead(t *testing.T) {
	l := filled(40)
	for i := range l {
		for a := -1; a <= len(l); a++ {
			for _, kind := range []int{api.OpAdd, api.OpMul} {
				for _, op := range []api.Op{{Kind: kind, A: a}, {Kind: kind, B: a}, {Kind: kind, A: a, B: a}} {
					want := api.ErrForm
					if i > 0 && a >= 0 && a < i {
						want = api.OK
					}
					m := behind(l[:i], op, constant(0))
					if e := expr.Check(3, 2, m); e != want {
						t.Errorf("step %d is %v: %v", i, op, e)
					}
				}
			}
		}
	}
}

// 16.1
func TestCheckField(t *testing.T) {
	rnd := rand.New(rand.NewPCG(16, 1))
	for level := range 8 {
		for _, x := range drawn(rnd, level, 50) {
			if e := expr.Check(level, 0, []api.Op{{Kind: api.OpConst, Val: x}}); e != api.OK {
				t.Errorf("Check(%d) of %v: %v", level, x, e)
			}
		}
		for _, x := range tooHigh(level) {
			op := api.Op{Kind: api.OpConst, Val: x}
			for _, l := range [][]api.Op{{op}, {op, constant(1)}, {constant(1), op}, {variable(0), op, add(0, 1)}} {
				if e := expr.Check(level, 1, l); e != api.ErrField {
					t.Errorf("Check(%d) of %v: %v", level, l, e)
				}
			}
			if e := expr.Check(level+1, 1, []api.Op{{Kind: api.OpConst, Val: tower.Bit(1 << level)}}); e != api.OK {
				t.Errorf("Check(%d) of the bit %d: %v", level+1, 1<<level, e)
			}
		}
	}
}

// 16.1
func TestCheckVariables(t *testing.T) {
	for level := range 8 {
		for _, vars := range []int{0, 1, 2, 17, 1 << 32, math.MaxInt - 1, math.MaxInt} {
			for _, n := range []int{0, 1, vars - 2, vars - 1} {
				want := api.OK
				if n < 0 || n >= vars {
					want = api.ErrNone
				}
				if e := expr.Check(level, vars, []api.Op{variable(n)}); e != want {
					t.Errorf("Check(%d, %d) of the variable %d: %v", level, vars, n, e)
				}
			}
			for _, n := range []int{math.MinInt, -1 << 32, -2, -1, vars, math.MaxInt} {
				for _, l := range [][]api.Op{{variable(n)}, {variable(n), constant(1)}, {constant(0), variable(n)}} {
					if e := expr.Check(level, vars, l); e != api.ErrNone {
						t.Errorf("Check(%d, %d) of the variable %d: %v", level, vars, n, e)
					}
				}
			}
		}
	}
}

// 16.1: a degree that is too high at one step hinders all, also if no step uses that one.
func TestCheckDegree(t *testing.T) {
	for level := range 8 {
		for d := 1; d <= 30; d++ {
			want := api.OK
			if d > 8 {
				want = api.ErrRule
			}
			for _, l := range [][]api.Op{power(d), behind(power(d), constant(1)), behind(power(d), variable(0))} {
				if e := expr.Check(level, 1, l); e != want {
					t.Errorf("Check(%d) of the degree %d: %v", level, d, e)
				}
			}
		}
		for a := 1; a <= 8; a++ {
			for b := 1; b <= 8; b++ {
				want := api.OK
				if a+b > 8 {
					want = api.ErrRule
				}
				l := power(8)
				if e := expr.Check(level, 1, behind(l, mul(a-1, b-1))); e != want {
					t.Errorf("Check(%d) of the degrees %d and %d: %v", level, a, b, e)
				}
				if e := expr.Check(level, 1, behind(l, add(a-1, b-1))); e != api.OK {
					t.Errorf("Check(%d) of a sum of the degrees %d and %d: %v", level, a, b, e)
				}
			}
		}
	}
	// Squares of squares: degrees that would grow beyond each bound.
	l := []api.Op{variable(0)}
	for len(l) < expr.MaxOps {
		l = append(l, mul(len(l)-1, len(l)-1))
	}
	if e := expr.Check(3, 1, l); e != api.ErrRule || expr.Check(3, 1, l[:4]) != api.OK || expr.Check(3, 1, l[:5]) != api.ErrRule || expr.Degree(l) != -1 {
		t.Errorf("Check of squares of squares: %v", e)
	}
	// Constants may be multiplied again and again, and 0 times a variable is of its degree.
	l = []api.Op{constant(0)}
	for len(l) < expr.MaxOps {
		l = append(l, mul(len(l)-1, 0))
	}
	if e := expr.Check(3, 0, l); e != api.OK || expr.Degree(l) != 0 {
		t.Errorf("Check of products of 0: %v, %d", e, expr.Degree(l))
	}
	l = []api.Op{constant(0), variable(0), mul(0, 1), add(1, 1)}
	if expr.Degree(l[:3]) != 1 || expr.Degree(l) != 1 {
		t.Errorf("Degree of 0 x0: %d, of x0 + x0: %d", expr.Degree(l[:3]), expr.Degree(l))
	}
}

// 16.1: where two hinder at one step, in the order of the chapter; where at two steps, the first step's.
func TestCheckFirst(t *testing.T) {
	ahead := power(8)
	high := tower.Bit(2)
	for _, x := range []struct {
		op   api.Op
		want api.Errno
	}{
		{api.Op{Kind: api.OpConst, A: 1, Val: high}, api.ErrForm},
		{api.Op{Kind: api.OpConst, B: -1, Val: high}, api.ErrForm},
		{api.Op{Kind: api.OpVar, A: -1, B: 1}, api.ErrForm},
		{api.Op{Kind: api.OpVar, A: 1, Val: high}, api.ErrForm},
		{api.Op{Kind: api.OpVar, A: -1, Val: tower.One()}, api.ErrForm},
		{api.Op{Kind: api.OpMul, A: 7, B: 0, Val: high}, api.ErrForm},
		{api.Op{Kind: api.OpMul, A: 7, B: 8}, api.ErrForm},
		{api.Op{Kind: 5, A: 7, B: 7, Val: high}, api.ErrForm},
		{api.Op{Kind: api.OpConst, Val: high}, api.ErrField},
		{api.Op{Kind: api.OpVar, A: 1}, api.ErrNone},
		{api.Op{Kind: api.OpMul, A: 7, B: 0}, api.ErrRule},
	} {
		if e := expr.Check(1, 1, behind(ahead, x.op)); e != x.want {
			t.Errorf("Check with %v: %v", x.op, e)
		}
	}
	broken := map[api.Errno]api.Op{
		api.ErrForm:  {Kind: 9},
		api.ErrField: {Kind: api.OpConst, Val: high},
		api.ErrNone:  {Kind: api.OpVar, A: 1},
		api.ErrRule:  {Kind: api.OpMul, A: 7, B: 7},
	}
	for want, first := range broken {
		for _, second := range broken {
			if e := expr.Check(1, 1, behind(ahead, first, second)); e != want {
				t.Errorf("Check with %v and then %v: %v", first, second, e)
			}
			if e := expr.Check(1, 1, behind(ahead, first, constant(0), second)); e != want {
				t.Errorf("Check with %v and later %v: %v", first, second, e)
			}
		}
	}
}

// modelCheck is Check and the degree, as the chapter says it, one step after the other.
func modelCheck(level, vars int, l []api.Op) (int, api.Errno) {
	if level < 0 || level > 7 || vars < 0 {
		return -1, api.ErrArg
	}
	if len(l) == 0 {
		return -1, api.ErrForm
	}
	if len(l) > 200 {
		return -1, api.ErrLong
	}
	var degrees []int
	for i, op := range l {
		d := 0
		pair := op.Kind == api.OpAdd || op.Kind == api.OpMul
		switch {
		case op.Kind < 1 || op.Kind > 4:
			return -1, api.ErrForm
		case op.Kind != api.OpConst && op.Val != api.Elem{}:
			return -1, api.ErrForm
		case !pair && op.B != 0 || op.Kind == api.OpConst && op.A != 0:
			return -1, api.ErrForm
		case pair && (op.A < 0 || op.B < 0 || op.A >= i || op.B >= i):
			return -1, api.ErrForm
		case tower.Level(op.Val) > level:
			return -1, api.ErrField
		case op.Kind == api.OpVar && (op.A < 0 || op.A >= vars):
			return -1, api.ErrNone
		}
		switch op.Kind {
		case api.OpVar:
			d = 1
		case api.OpAdd:
			d = max(degrees[op.A], degrees[op.B])
		case api.OpMul:
			d = degrees[op.A] + degrees[op.B]
		}
		if d > 8 {
			return -1, api.ErrRule
		}
		degrees = append(degrees, d)
	}
	return degrees[len(l)-1], api.OK
}

// drawnOp is a step that may name those ahead of i, and is at times broken.
func drawnOp(rnd *rand.Rand, level, vars, i int) api.Op {
	op := api.Op{Kind: 1 + rnd.IntN(4)}
	if i == 0 {
		op.Kind = 1 + rnd.IntN(2)
	}
	switch op.Kind {
	case api.OpConst:
		op.Val = drawn(rnd, level, 1)[0]
	case api.OpVar:
		op.A = rnd.IntN(max(1, vars))
	default:
		op.A, op.B = rnd.IntN(i), rnd.IntN(i)
	}
	switch rnd.IntN(150) {
	case 0:
		op.Kind = rnd.IntN(7) - 1
	case 1:
		op.A += rnd.IntN(5) - 2
	case 2:
		op.B += rnd.IntN(5) - 2
	case 3:
		op.Val = tower.Add(op.Val, tower.Bit(rnd.IntN(128)))
	}
	return op
}

// 16.1, 16.2: drawn expressions, most of them right ones, against the models.
func TestDrawn(t *testing.T) {
	rnd := rand.New(rand.NewPCG(16, 2))
	told := map[api.Errno]int{}
	for range 40000 {
		level, vars := rnd.IntN(8), rnd.IntN(4)
		l := make([]api.Op, 1+rnd.IntN(30))
		for i := range l {
			l[i] = drawnOp(rnd, level, vars, i)
		}
		before := slices.Clone(l)
		_, want := modelCheck(level, vars, l)
		if e := expr.Check(level, vars, l); e != want {
			t.Fatalf("Check(%d, %d, %v): %v, not %v", level, vars, l, e, want)
		}
		told[want]++
		d, _ := modelCheck(7, math.MaxInt, l)
		if got := expr.Degree(l); got != d {
			t.Fatalf("Degree(%v): %d, not %d", l, got, d)
		}
		v := drawn(rnd, level, vars)
		values := slices.Clone(v)
		got, e := expr.Eval(level, l, v)
		var value api.Elem
		if want == api.OK {
			value = modelValue(level, l, v, len(l)-1)
		}
		if e != want || got != value {
			t.Fatalf("Eval(%d, %v, %v): %v, %v, not %v, %v", level, l, v, got, e, value, want)
		}
		if !slices.Equal(l, before) || !slices.Equal(v, values) {
			t.Fatalf("a call changed what it was given: %v", before)
		}
	}
	for _, e := range []api.Errno{api.OK, api.ErrForm, api.ErrField, api.ErrNone, api.ErrRule} {
		if told[e] < 100 {
			t.Errorf("%v was told %d times", e, told[e])
		}
	}
}

// modelValue is the value of the step i, from its parts' on down.
func modelValue(level int, l []api.Op, v []api.Elem, i int) api.Elem {
	op := l[i]
	switch op.Kind {
	case api.OpConst:
		return op.Val
	case api.OpVar:
		return v[op.A]
	case api.OpAdd:
		return tower.Add(modelValue(level, l, v, op.A), modelValue(level, l, v, op.B))
	default:
		return tower.Mul(level, modelValue(level, l, v, op.A), modelValue(level, l, v, op.B))
	}
}

// 16.1: each kind's degree, and that the last step's counts.
func TestDegree(t *testing.T) {
	all := []api.Op{constant(7), variable(0), add(0, 1), mul(1, 2), mul(0, 0), add(3, 4), mul(5, 3), add(1, 0), mul(6, 6), mul(0, 8), add(8, 9)}
	for i, want := range []int{0, 1, 1, 2, 0, 2, 4, 1, 8, 8, 8} {
		if got := expr.Degree(all[:i+1]); got != want {
			t.Errorf("Degree up to the step %d: %d", i, got)
		}
	}
	for d := 1; d <= 8; d++ {
		if got := expr.Degree(power(d)); got != d {
			t.Errorf("Degree of the power %d: %d", d, got)
		}
		if got := expr.Degree(behind(power(d), constant(3))); got != 0 {
			t.Errorf("Degree of a constant behind the power %d: %d", d, got)
		}
	}
	if got := expr.Degree(example()); got != 2 {
		t.Errorf("Degree of the example: %d", got)
	}
}

// 16.1
func TestDegreeNone(t *testing.T) {
	for _, l := range [][]api.Op{nil, {}, filled(201), make([]api.Op, 201), power(9), behind(power(9), constant(0)), {{Kind: 0}}, {add(0, 0)}, {mul(0, 0)}, {variable(-1)}, {variable(math.MinInt)}, {variable(math.MaxInt)}, {variable(0), {Kind: api.OpVar, B: 1}}, {{Kind: api.OpConst, A: 1}}, {constant(0), {Kind: api.OpAdd, Val: tower.One()}}} {
		if got := expr.Degree(l); got != -1 {
			t.Errorf("Degree(%v): %d", l, got)
		}
	}
	for _, n := range []int{0, 1, 1 << 32, math.MaxInt - 1} {
		if got := expr.Degree([]api.Op{variable(n)}); got != 1 {
			t.Errorf("Degree of the variable %d: %d", n, got)
		}
	}
	// Of level 7 are all elements.
	if got := expr.Degree([]api.Op{{Kind: api.OpConst, Val: api.Elem{Hi: math.MaxUint64, Lo: math.MaxUint64}}}); got != 0 {
		t.Errorf("Degree of a constant of level 7: %d", got)
	}
}

// 16.1
func TestUses(t *testing.T) {
	// Numbers of steps, constants' bits and other kinds' zeros are no variables.
	l := []api.Op{variable(3), constant(2), variable(math.MaxInt - 1), add(1, 0), mul(1, 1), variable(7), constant(0)}
	before := slices.Clone(l)
	for n := -5; n < 20; n++ {
		if got := expr.Uses(l, n); got != (n == 3 || n == 7) {
			t.Errorf("Uses(%d): %v", n, got)
		}
	}
	if !expr.Uses(l, math.MaxInt-1) || expr.Uses(l, math.MaxInt) || expr.Uses(l, math.MinInt) || expr.Uses(l, -3) {
		t.Errorf("Uses of the greatest and the least numbers")
	}
	if !expr.Uses([]api.Op{variable(0)}, 0) || expr.Uses([]api.Op{constant(0)}, 0) || expr.Uses([]api.Op{constant(5), add(0, 0), mul(1, 0)}, 0) {
		t.Errorf("Uses of 0")
	}
	if expr.Uses(nil, 0) || expr.Uses([]api.Op{}, 0) || expr.Uses(make([]api.Op, 300), 0) {
		t.Errorf("Uses of no variables")
	}
	// The steps that the last one does not use are steps, too.
	if !expr.Uses([]api.Op{variable(4), constant(1)}, 4) {
		t.Errorf("Uses of a step that the last one does not use")
	}
	if !slices.Equal(l, before) {
		t.Errorf("Uses changed the steps")
	}
}

// 16.2: values of (x0 x1 + c) (x2 + x0) x1 + d that were worked out apart from the program.
func TestEvalFixed(t *testing.T) {
	for _, x := range []struct {
		level          int
		parts, v, want string
	}{
		{0, "1 0", "0 1 0", "0"},
		{1, "3 3", "3 0 0", "3"},
		{2, "e e", "8 4 c", "e"},
		{3, "c 29", "50 cf 50", "29"},
		{4, "b0fb c55e", "ed0b 6b43 17c1", "a853"},
		{5, "a84ebb83 ff41dda5", "4fd46da3 d6c500f4 402373ee", "4d42a70d"},
		{6, "fab3520fa2f1d748 399568613de05552", "7af1f5a66757bf9b 8ac9b7621334518f 8b04422515cc9e1d", "4ae2694540c3cda5"},
		{7, "38f40afe7c8a1d56d30f0290648c8fa9 a0768bb88402cc0d686b4c8f8dd1e2d3", "9373452a43e5eca6f539e15e8843a942 c996e734b94bd74cd26be6629d52d7a 961ec5f97c9fd32ce3405e87b990dea6", "d3416c86cf28009dc1c3f7d232cbf9e"},
	} {
		c := elems(t, x.parts)
		l := []api.Op{variable(0), variable(1), variable(2), mul(0, 1), {Kind: api.OpConst, Val: c[0]}, add(3, 4), add(2, 0), mul(5, 6), mul(7, 1), {Kind: api.OpConst, Val: c[1]}, add(8, 9)}
		// An element of a level is one of each level above, with the same bits.
		for level := x.level; level < 8; level++ {
			if got, e := expr.Eval(level, l, elems(t, x.v)); e != api.OK || got != elems(t, x.want)[0] {
				t.Errorf("Eval of level %d in %d: %x, %v", x.level, level, got, e)
			}
		}
	}
	for _, x := range [][3]uint64{{0, 0, 1}, {1, 0, 1}, {0, 1, 1}, {1, 1, 0}} {
		if got, e := expr.Eval(0, example(), []api.Elem{{Lo: x[0]}, {Lo: x[1]}}); e != api.OK || got != (api.Elem{Lo: x[2]}) {
			t.Errorf("the example at %d, %d: %v, %v", x[0], x[1], got, e)
		}
	}
}

// 16.2: powers, and expressions of as many steps as there may be.
func TestEvalEdges(t *testing.T) {
	rnd := rand.New(rand.NewPCG(16, 3))
	for level := range 8 {
		for _, x := range drawn(rnd, level, 20) {
			for d := 1; d <= 8; d++ {
				if got, e := expr.Eval(level, power(d), []api.Elem{x}); e != api.OK || got != tower.Pow(level, x, uint64(d)) {
					t.Errorf("the power %d of %v: %v, %v", d, x, got, e)
				}
			}
		}
		v := drawn(rnd, level, 2)
		// Of x, y, x + y each is the sum of the others, so that they come round by threes.
		want := []api.Elem{v[0], v[1], tower.Add(v[0], v[1])}[199%3]
		if got, e := expr.Eval(level, filled(200), v); e != api.OK || got != want {
			t.Errorf("Eval of 200 steps: %v, %v", got, e)
		}
		if got, e := expr.Eval(level, []api.Op{constant(1)}, nil); e != api.OK || got != tower.One() {
			t.Errorf("Eval without variables: %v, %v", got, e)
		}
	}
}

// 16.2
func TestEvalErrors(t *testing.T) {
	var zero api.Elem
	none := func(level int, l []api.Op, v []api.Elem, want api.Errno) {
		t.Helper()
		if got, e := expr.Eval(level, l, v); e != want || got != zero {
			t.Errorf("Eval(%d) of %d steps, %d elements: %v, %v, not %v", level, len(l), len(v), got, e, want)
		}
	}
	ones := slices.Repeat([]api.Elem{tower.One()}, 5)
	for _, level := range noLevels {
		none(level, example(), ones, api.ErrArg)
		none(level, nil, nil, api.ErrArg)
		none(level, []api.Op{constant(1)}, nil, api.ErrArg)
	}
	for level := range 8 {
		none(level, nil, ones, api.ErrForm)
		none(level, []api.Op{}, ones, api.ErrForm)
		none(level, filled(201), ones, api.ErrLong)
		none(level, []api.Op{{Kind: 5}}, ones, api.ErrForm)
		none(level, power(9), ones, api.ErrRule)
		none(level, example(), ones[:1], api.ErrNone)
		none(level, example(), nil, api.ErrNone)
		none(level, []api.Op{variable(5)}, ones, api.ErrNone)
		none(level, []api.Op{variable(-1)}, ones, api.ErrNone)
		for _, x := range tooHigh(level) {
			none(level, []api.Op{{Kind: api.OpConst, Val: x}}, ones, api.ErrField)
			// Each one of v counts, whether a step uses it or not.
			for i := range ones {
				v := slices.Clone(ones)
				v[i] = x
				none(level, example(), v, api.ErrField)
				none(level, []api.Op{constant(1)}, v, api.ErrField)
				// What Check tells comes first.
				none(level, nil, v, api.ErrForm)
				none(level, filled(201), v, api.ErrLong)
				none(level, power(9), v, api.ErrRule)
				none(level, []api.Op{variable(5)}, v, api.ErrNone)
			}
		}
	}
}
