package circuit_test

import (
	"math/rand/v2"
	"slices"
	"testing"

	"steeple/api"
	"steeple/circuit"
	"steeple/claim"
	"steeple/expr"
	"steeple/turn"
	"steeple/zero"
)

// v is a step that is a variable.
func v(n int) api.Op {
	return api.Op{Kind: api.OpVar, A: n}
}

// add is a step that is a sum.
func add(a, b int) api.Op {
	return api.Op{Kind: api.OpAdd, A: a, B: b}
}

// mul is a step that is a product.
func mul(a, b int) api.Op {
	return api.Op{Kind: api.OpMul, A: a, B: b}
}

// one is a step that is 1.
var one = api.Op{Kind: api.OpConst, Val: api.Elem{Lo: 1}}

// are asks for the wires and conditions of a system.
func are(t *testing.T, s api.System, wires []api.Claim, conds [][]api.Op) {
	t.Helper()
	before := copied(s)
	w, e := circuit.Wires(s)
	if e != api.OK || !slices.Equal(w, wires) {
		t.Errorf("Wires(%v): %v, %v, not %v", s, w, e, wires)
	}
	c, e := circuit.Conds(s)
	if e != api.OK || !slices.EqualFunc(c, conds, slices.Equal[[]api.Op]) {
		t.Errorf("Conds(%v): %v, %v, not %v", s, c, e, conds)
	}
	if !same(s, before) {
		t.Errorf("%v was changed to %v", before, s)
	}
}

// two is a system of two given columns and a gate.
func two(wide int, g api.Gate) api.System {
	return api.System{Wide: wide, Cols: 2, Public: 1, Private: 1, Gates: []api.Gate{g}}
}

// 25.2: each kind of gate, as the document writes its condition.
func TestEachKind(t *testing.T) {
	plain := []api.Claim{{Col: 2}, {Col: 0}, {Col: 1}}
	are(t, two(3, api.Gate{Kind: api.GateXor, Dst: 2, A: 0, B: 1}), plain, [][]api.Op{{v(0), v(1), add(0, 1), v(2), add(2, 3)}})
	are(t, two(3, api.Gate{Kind: api.GateAnd, Dst: 2, A: 0, B: 1}), plain, [][]api.Op{{v(0), v(1), v(2), mul(1, 2), add(0, 3)}})
	are(t, two(3, api.Gate{Kind: api.GateNot, Dst: 2, A: 1}), []api.Claim{{Col: 2}, {Col: 1}}, [][]api.Op{{v(0), v(1), add(0, 1), one, add(2, 3)}})
	are(t, two(3, api.Gate{Kind: api.GateSame, A: 1, B: 0}), []api.Claim{{Col: 1}, {Col: 0}}, [][]api.Op{{v(0), v(1), add(0, 1)}})
	for i, kind := range turns {
		for _, by := range []int{1, 5, 7} {
			wires := []api.Claim{{Col: 2}, {Col: 1, Kind: []int{turn.Left, turn.Right, turn.Round}[i], S: by}}
			are(t, two(3, api.Gate{Kind: kind, Dst: 2, A: 1, S: by}), wires, [][]api.Op{{v(0), v(1), add(0, 1)}})
		}
	}
}

// 25.2: GateAdd, with a carry from the bit below, and of words of one bit without one.
func TestAdd(t *testing.T) {
	g := api.Gate{Kind: api.GateAdd, Dst: 2, A: 0, B: 1, S: 3}
	sum := []api.Op{v(0), v(1), add(0, 1), v(2), add(2, 3), v(4), add(4, 5)}
	carry := []api.Op{v(3), v(1), v(2), mul(1, 2), add(0, 3), v(4), v(1), v(2), add(6, 7), mul(5, 8), add(4, 9)}
	for wide := 1; wide <= 5; wide++ {
		are(t, two(wide, g), []api.Claim{{Col: 2}, {Col: 0}, {Col: 1}, {Col: 3}, {Col: 3, Kind: turn.Left, S: 1}}, [][]api.Op{sum, carry})
	}
	are(t, two(0, g), []api.Claim{{Col: 2}, {Col: 0}, {Col: 1}, {Col: 3}}, [][]api.Op{sum[:5], carry[:5]})
}

// 25.2: a wire has one number, wherever it comes up again; turned otherwise it is another one.
func TestWiresThatComeUpAgain(t *testing.T) {
	// One column, again and again.
	are(t, two(1, api.Gate{Kind: api.GateSame}), []api.Claim{{}}, [][]api.Op{{v(0), v(0), add(0, 1)}})
	are(t, two(1, api.Gate{Kind: api.GateXor, Dst: 2, A: 1, B: 1}), []api.Claim{{Col: 2}, {Col: 1}}, [][]api.Op{{v(0), v(1), add(0, 1), v(1), add(2, 3)}})
	are(t, two(1, api.Gate{Kind: api.GateAnd, Dst: 2, A: 1, B: 1}), []api.Claim{{Col: 2}, {Col: 1}}, [][]api.Op{{v(0), v(1), v(1), mul(1, 2), add(0, 3)}})
	are(t, two(1, api.Gate{Kind: api.GateAdd, Dst: 2, A: 1, B: 1, S: 3}), []api.Claim{{Col: 2}, {Col: 1}, {Col: 3}, {Col: 3, Kind: turn.Left, S: 1}}, [][]api.Op{
		{v(0), v(1), add(0, 1), v(1), add(2, 3), v(3), add(4, 5)},
		{v(2), v(1), v(1), mul(1, 2), add(0, 3), v(3), v(1), v(1), add(6, 7), mul(5, 8), add(4, 9)},
	})
	// Turned alike, turned by another amount, turned otherwise, by 0, and not turned: the carries' own turn comes up again as a gate's.
	s := api.System{Wide: 2, Cols: 4, Private: 1, Gates: []api.Gate{
		{Kind: api.GateLeft, Dst: 1, S: 1},
		{Kind: api.GateLeft, Dst: 2, S: 1},
		{Kind: api.GateLeft, Dst: 3, S: 2},
		{Kind: api.GateRight, Dst: 4, S: 1},
		{Kind: api.GateRound, Dst: 5},
		{Kind: api.GateLeft, Dst: 6},
		{Kind: api.GateNot, Dst: 7},
		{Kind: api.GateAdd, Dst: 8, A: 7, B: 1, S: 9},
		{Kind: api.GateLeft, Dst: 10, A: 9, S: 1},
		{Kind: api.GateSame, A: 9, B: 10},
	}}
	are(t, s, []api.Claim{
		{Col: 1}, {Col: 0, Kind: turn.Left, S: 1}, {Col: 2}, {Col: 3}, {Col: 0, Kind: turn.Left, S: 2}, {Col: 4}, {Col: 0, Kind: turn.Right, S: 1},
		{Col: 5}, {Col: 0, Kind: turn.Round}, {Col: 6}, {Col: 0, Kind: turn.Left}, {Col: 7}, {Col: 0}, {Col: 8}, {Col: 9}, {Col: 9, Kind: turn.Left, S: 1}, {Col: 10},
	}, [][]api.Op{
		{v(0), v(1), add(0, 1)}, {v(2), v(1), add(0, 1)}, {v(3), v(4), add(0, 1)}, {v(5), v(6), add(0, 1)}, {v(7), v(8), add(0, 1)}, {v(9), v(10), add(0, 1)},
		{v(11), v(12), add(0, 1), one, add(2, 3)},
		{v(13), v(11), add(0, 1), v(0), add(2, 3), v(15), add(4, 5)},
		{v(14), v(11), v(0), mul(1, 2), add(0, 3), v(15), v(11), v(0), add(6, 7), mul(5, 8), add(4, 9)},
		{v(16), v(15), add(0, 1)},
		{v(14), v(16), add(0, 1)},
	})
}

// 25.2: no gates have no wires and no conditions.
func TestNoGates(t *testing.T) {
	are(t, api.System{}, nil, nil)
	are(t, api.System{Wide: 5, Rows: 4, Cols: 6, Public: 30, Private: 34}, nil, nil)
	are(t, api.System{Cols: 1, Public: 1, Gates: []api.Gate{}}, nil, nil)
}

// 25.2: as many conditions as there may be, and one more.
func TestManyConditions(t *testing.T) {
	s := api.System{Wide: 1, Cols: 6, Public: 1}
	for n := range 20 {
		s.Gates = append(s.Gates, gate(api.GateAdd, 2*n+1, 2*n, 0, 0))
	}
	conds, e := circuit.Conds(s)
	if e != api.OK || len(conds) != 40 || zero.MaxConds != 40 {
		t.Fatalf("Conds: %d, %v", len(conds), e)
	}
	if wires, e := circuit.Wires(s); e != api.OK || len(wires) != 61 {
		t.Errorf("Wires: %d, %v", len(wires), e)
	}
	// The same with gates that have one condition each.
	few := copied(s)
	few.Gates = few.Gates[:10]
	for range 20 {
		few.Gates = append(few.Gates, gate(api.GateSame, 0, 0, 20, 0))
	}
	if conds, e := circuit.Conds(few); e != api.OK || len(conds) != 40 {
		t.Errorf("Conds: %d, %v", len(conds), e)
	}
	for n, more := range []api.System{
		{Gates: append(slices.Clone(s.Gates), gate(api.GateSame, 0, 0, 0, 0))},
		{Gates: append(slices.Clone(s.Gates), gate(api.GateAdd, 41, 0, 0, 0))},
		{Gates: append(slices.Clone(few.Gates[:29]), gate(api.GateAdd, 21, 0, 0, 0))},
	} {
		more.Wide, more.Cols, more.Public = 1, 6, 1
		wires, e := circuit.Wires(more)
		conds, f := circuit.Conds(more)
		if e != api.ErrLong || f != api.ErrLong || len(wires) != 0 || len(conds) != 0 {
			t.Errorf("one more, %d: %v, %v, %v, %v", n, wires, e, conds, f)
		}
		// It may be all the same.
		if e := circuit.Check(more); e != api.OK || circuit.Used(more) == 0 || circuit.Vars(more) != 7 {
			t.Errorf("one more, %d: %v", n, e)
		}
	}
	// What is wrong with a gate is told ahead of it.
	s.Gates = append(s.Gates, gate(api.GateSame, 0, 0, 0, 0), gate(api.GateSame, 0, 0, 60, 0))
	asks(t, s, api.ErrNone)
}

// model is the wires and conditions of a system: the conditions as trees, made flat.
type model struct {
	wires []api.Claim
	conds [][]api.Op
}

// tree is the variable of a wire.
func (m *model) tree(w api.Claim) expr.Node {
	for i, x := range m.wires {
		if x == w {
			return expr.Var{N: i}
		}
	}
	m.wires = append(m.wires, w)
	return expr.Var{N: len(m.wires) - 1}
}

// cond adds a condition.
func (m *model) cond(t *testing.T, n expr.Node) {
	t.Helper()
	l, e := expr.Flat(n)
	if e != api.OK {
		t.Fatal(e)
	}
	m.conds = append(m.conds, l)
}

// gate adds the wires and conditions of a gate.
func (m *model) gate(t *testing.T, wide int, g api.Gate) {
	t.Helper()
	plus := func(a, b expr.Node) expr.Node { return expr.Sum{A: a, B: b} }
	times := func(a, b expr.Node) expr.Node { return expr.Prod{A: a, B: b} }
	if g.Kind == api.GateSame {
		a := m.tree(api.Claim{Col: g.A})
		m.cond(t, plus(a, m.tree(api.Claim{Col: g.B})))
		return
	}
	d := m.tree(api.Claim{Col: g.Dst})
	if i := slices.Index(turns, g.Kind); i >= 0 {
		m.cond(t, plus(d, m.tree(api.Claim{Col: g.A, Kind: i + 1, S: g.S})))
		return
	}
	a := m.tree(api.Claim{Col: g.A})
	if g.Kind == api.GateNot {
		m.cond(t, plus(plus(d, a), expr.Const{Val: api.Elem{Lo: 1}}))
		return
	}
	b := m.tree(api.Claim{Col: g.B})
	switch g.Kind {
	case api.GateXor:
		m.cond(t, plus(plus(d, a), b))
	case api.GateAnd:
		m.cond(t, plus(d, times(a, b)))
	case api.GateAdd:
		k := m.tree(api.Claim{Col: g.S})
		sum, carry := plus(plus(d, a), b), plus(k, times(a, b))
		if wide > 0 {
			c := m.tree(api.Claim{Col: g.S, Kind: turn.Left, S: 1})
			sum, carry = plus(sum, c), plus(carry, times(c, plus(a, b)))
		}
		m.cond(t, sum)
		m.cond(t, carry)
	}
}

// 25.2, 25.3: drawn systems against conditions written as trees, and what is said of them.
func TestDrawnSystems(t *testing.T) {
	rnd := rand.New(rand.NewPCG(25, 2))
	long := 0
	for n := range 3000 {
		s := drawn(rnd, 30)
		if n%5 == 0 {
			s = grown(rnd, api.System{Wide: rnd.IntN(6), Cols: 6, Public: 1, Private: 2}, 18+rnd.IntN(6), []int{api.GateAdd, api.GateAdd, api.GateAdd, api.GateAdd, api.GateRound})
		}
		var m model
		for _, g := range s.Gates {
			m.gate(t, s.Wide, g)
		}
		if len(m.conds) > 40 {
			long++
			wires, e := circuit.Wires(s)
			conds, f := circuit.Conds(s)
			if e != api.ErrLong || f != api.ErrLong || len(wires) != 0 || len(conds) != 0 {
				t.Fatalf("%v: %v, %v", s, e, f)
			}
			continue
		}
		are(t, s, m.wires, m.conds)
		may(t, s)
	}
	if long < 5 {
		t.Errorf("%d systems had too many conditions", long)
	}
}

// may asks 25.3 of a system: whether each condition may be, of degree 2 at most, and each wire is of a column that is there.
func may(t *testing.T, s api.System) {
	t.Helper()
	wires, _ := circuit.Wires(s)
	conds, _ := circuit.Conds(s)
	for level := range api.MaxLevel + 1 {
		for _, c := range conds {
			if e := expr.Check(level, len(wires), c); e != api.OK || expr.Degree(c) < 1 || expr.Degree(c) > 2 {
				t.Fatalf("%v: %v, %d", c, e, expr.Degree(c))
			}
		}
	}
	for i, w := range wires {
		if w.Col < 0 || w.Col >= circuit.Used(s) || w.Val != (api.Elem{}) || slices.Index(wires, w) != i {
			t.Fatalf("the wire %v of %v", w, s)
		}
	}
	if e := claim.Check(s.Cols, s.Wide, wires); e != api.OK {
		t.Fatalf("the wires %v of %v: %v", wires, s, e)
	}
}

// 25.3: the degrees of each kind's conditions.
func TestDegrees(t *testing.T) {
	for _, kind := range kinds {
		s := then(gate(kind, 3, 0, 1, 1))
		conds, _ := circuit.Conds(s)
		want := map[int][]int{api.GateAnd: {1, 2}, api.GateAdd: {1, 1, 2}}[kind]
		if want == nil {
			want = []int{1, 1}
		}
		var got []int
		for _, c := range conds {
			got = append(got, expr.Degree(c))
		}
		if !slices.Equal(got, want) {
			t.Errorf("kind %d: %v", kind, got)
		}
		may(t, s)
	}
}

// R3: what is answered is each call's own.
func TestAnswersAreTheirOwn(t *testing.T) {
	s := then(gate(api.GateAdd, 3, 0, 1, 0))
	w, _ := circuit.Wires(s)
	c, _ := circuit.Conds(s)
	clear(w)
	for _, l := range c {
		clear(l)
		_ = append(l[:0:cap(l)], make([]api.Op, cap(l))...)
	}
	w, _ = circuit.Wires(s)
	c, _ = circuit.Conds(s)
	if w[0].Col != 2 || len(c) != 3 || c[0][0] != v(0) || c[1][0] != v(3) || c[2][1] != v(1) {
		t.Errorf("%v, %v", w, c)
	}
	// No two conditions stand in one piece of memory.
	for i := range c {
		for k := range c {
			if i != k {
				before := slices.Clone(c[k])
				_ = append(c[i], one, one, one)
				if !slices.Equal(c[k], before) {
					t.Errorf("the conditions %d and %d share memory", i, k)
				}
			}
		}
	}
}
