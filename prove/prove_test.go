package prove_test

import (
	"math"
	"math/rand/v2"
	"reflect"
	"slices"
	"strings"
	"testing"

	"steeple/api"
	"steeple/circuit"
	"steeple/gadget"
	"steeple/perm"
	"steeple/proof"
	"steeple/prove"
	"steeple/talk"
	"steeple/turn"
)

// tables are made once for all tests.
var tables = perm.Make()

// kinds are the kinds of gates that make columns.
var kinds = []int{api.GateXor, api.GateAnd, api.GateNot, api.GateLeft, api.GateRight, api.GateRound, api.GateAdd}

// gate is a gate of a kind that makes the column next, of the columns a and b.
func gate(kind, next, a, b, by int) api.Gate {
	g := api.Gate{Kind: kind, Dst: next, A: a}
	switch kind {
	case api.GateXor, api.GateAnd:
		g.B = b
	case api.GateAdd:
		g.B, g.S = b, next+1
	case api.GateLeft, api.GateRight, api.GateRound:
		g.S = by
	}
	return g
}

// drawn is a system with drawn gates, as many as there are columns for, but at most so many; public and private are its given columns.
func drawn(rnd *rand.Rand, wide, rows, cols, public, private, gates int) api.System {
	s := api.System{Wide: wide, Rows: rows, Cols: cols, Public: public, Private: private}
	there := public + private
	for range gates {
		kind := kinds[rnd.IntN(len(kinds))]
		n := 1
		if kind == api.GateAdd {
			n = 2
		}
		if there == 0 || there+n > 1<<cols {
			break
		}
		s.Gates = append(s.Gates, gate(kind, there, rnd.IntN(there), rnd.IntN(there), rnd.IntN(1<<wide)))
		there += n
	}
	if len(s.Gates) == 0 && there > 0 {
		s.Gates = []api.Gate{{Kind: api.GateSame}}
	}
	return s
}

// given are drawn words of the given columns of a system.
func given(rnd *rand.Rand, s api.System) [][]uint64 {
	l := make([][]uint64, s.Public+s.Private)
	for k := range l {
		l[k] = make([]uint64, 1<<s.Rows)
		for x := range l[k] {
			l[k][x] = rnd.Uint64() & (1<<(1<<s.Wide) - 1)
		}
	}
	return l
}

// copied is columns in memory of their own.
func copied(l [][]uint64) [][]uint64 {
	out := make([][]uint64, len(l))
	for k := range l {
		out[k] = slices.Clone(l[k])
	}
	return out
}

// chain is a system of so many gates, each of which ands, or adds exclusively, the two columns ahead of what it makes.
func chain(kind, wide, rows, cols, gates int) api.System {
	s := api.System{Wide: wide, Rows: rows, Cols: cols, Private: 2}
	for i := range gates {
		s.Gates = append(s.Gates, api.Gate{Kind: kind, Dst: 2 + i, A: i, B: 1 + i})
	}
	return s
}

// sums is a system of so many gates that add: two conditions each.
func sums(wide, rows, gates int) api.System {
	s := api.System{Wide: wide, Rows: rows, Cols: 6, Private: 2}
	for i := range gates {
		s.Gates = append(s.Gates, api.Gate{Kind: api.GateAdd, Dst: 2 + 2*i, A: 2 * i, B: 1, S: 3 + 2*i})
	}
	return s
}

// noShape asks for an error of Shape, and for no plan beside it; Begin and Prove have the same one.
func noShape(t *testing.T, what string, p api.Params, s api.System, want api.Errno) {
	t.Helper()
	if plan, e := prove.Shape(p, s); e != want || plan != (prove.Plan{}) {
		t.Errorf("%s: Shape: %v, %v, not %v", what, plan, e, want)
	}
	if k, e := prove.Begin(tables, p, s, nil, ""); e != want || k != nil {
		t.Errorf("%s: Begin: %v, not %v", what, e, want)
	}
	if k, e := prove.Begin(nil, p, s, nil, ""); e != api.ErrArg || k != nil {
		t.Errorf("%s: Begin without tables: %v", what, e)
	}
	if x, e := prove.Prove(tables, p, s, nil); e != want || !reflect.DeepEqual(x, api.Proof{}) {
		t.Errorf("%s: Prove: %v, not %v", what, e, want)
	}
	if x, e := prove.Prove(nil, p, s, nil); e != api.ErrArg || !reflect.DeepEqual(x, api.Proof{}) {
		t.Errorf("%s: Prove without tables: %v", what, e)
	}
}

// 30.1: parameters that may not be come first, whatever else hinders.
func TestParametersComeFirst(t *testing.T) {
	good := api.Params{Level: 3, Rows: 1, Rate: 2, Queries: 3}
	adder, _, _ := gadget.Adder(2, 1)
	for _, p := range []api.Params{
		{}, {Level: 1, Rate: 1, Queries: 1}, {Level: 8, Rate: 1, Queries: 1}, {Level: 3, Rows: -1, Rate: 1, Queries: 1}, {Level: 3, Rows: 7, Rate: 1, Queries: 1},
		{Level: 3, Queries: 1}, {Level: 3, Rate: 4, Queries: 1}, {Level: 3, Rate: 1}, {Level: 3, Rate: 1, Queries: 65}, {Level: math.MinInt, Rate: 1, Queries: 1}, {Level: math.MaxInt, Rows: math.MaxInt, Rate: math.MaxInt, Queries: math.MaxInt},
	} {
		for _, s := range []api.System{adder, {}, {Wide: 6}, chain(api.GateXor, 0, 0, 6, 31), sums(2, 0, 21)} {
			noShape(t, "parameters", p, s, api.ErrArg)
		}
	}
	if _, e := prove.Shape(good, adder); e != api.OK {
		t.Errorf("what may be: %v", e)
	}
}

// 30.1: then the errors of circuit.Check, then sizes, then those of the conditions, of mixing, and of the grid.
func TestShapeErrors(t *testing.T) {
	p := func(level, rows, rate int) api.Params {
		return api.Params{Level: level, Rows: rows, Rate: rate, Queries: 1}
	}
	adder, _, _ := gadget.Adder(2, 1)
	none := adder
	none.Gates = nil
	for _, x := range []struct {
		what string
		p    api.Params
		s    api.System
		want api.Errno
	}{
		{"no system", p(3, 0, 1), api.System{Wide: 6}, api.ErrArg},
		{"no system, of no gate and too few variables", p(7, 6, 1), api.System{Rows: -1}, api.ErrArg},
		{"too many gates", p(3, 0, 1), chain(api.GateXor, 0, 0, 6, 31), api.ErrLong},
		{"a gate that may not be", p(7, 6, 1), api.System{Cols: 1, Private: 1, Gates: []api.Gate{{Kind: 9}}}, api.ErrForm},
		{"a column that is not there", p(7, 6, 1), api.System{Gates: []api.Gate{{Kind: api.GateSame}}}, api.ErrNone},
		{"no gate", p(3, 1, 2), none, api.ErrSize},
		{"no gate, and a grid that may not be", p(2, 0, 3), none, api.ErrSize},
		{"no gate, and no variables", p(2, 0, 1), api.System{}, api.ErrSize},
		{"variables below the level", p(7, 0, 1), adder, api.ErrSize},
		{"13 variables", p(3, 6, 1), chain(api.GateXor, 5, 2, 6, 1), api.ErrSize},
		{"15 variables", p(7, 6, 1), chain(api.GateXor, 5, 4, 6, 1), api.ErrSize},
		{"13 variables, and too many conditions", p(3, 6, 1), sums(5, 2, 21), api.ErrSize},
		{"13 variables, and too long when mixed", p(3, 6, 1), chain(api.GateAnd, 5, 2, 6, 30), api.ErrSize},
		{"more rows than there are", p(3, 4, 1), adder, api.ErrSize},
		{"more rows than there are, and too many conditions", p(7, 2, 1), sums(2, 0, 21), api.ErrSize},
		{"too many conditions", p(7, 1, 1), sums(2, 0, 21), api.ErrLong},
		{"too many conditions, and a grid that may not be", p(2, 0, 1), sums(2, 0, 21), api.ErrLong},
		{"too long when mixed", p(7, 1, 1), chain(api.GateAnd, 3, 0, 5, 30), api.ErrLong},
		{"a grid that may not be", p(2, 0, 1), adder, api.ErrLong},
		{"a grid that may not be, by its rate", p(3, 0, 3), chain(api.GateXor, 3, 0, 6, 1), api.ErrLong},
		{"a grid that may not be, at any level", p(4, 0, 3), chain(api.GateXor, 2, 4, 6, 1), api.ErrLong},
	} {
		noShape(t, x.what, x.p, x.s, x.want)
	}
}

// hasProduct tells whether a system has a condition of degree 2.
func hasProduct(s api.System) bool {
	return slices.ContainsFunc(s.Gates, func(g api.Gate) bool { return g.Kind == api.GateAnd || g.Kind == api.GateAdd })
}

// 30.1: of all sizes and parameters, the plan or that there is none.
func TestPlans(t *testing.T) {
	rnd := rand.New(rand.NewPCG(30, 1))
	degrees := map[int]int{}
	for wide := range 6 {
		for rows := range 5 {
			for cols := range 7 {
				s := drawn(rnd, wide, rows, cols, rnd.IntN(2), rnd.IntN(min(2, 1<<cols)), 6)
				if len(s.Gates) == 0 {
					continue
				}
				n := wide + rows + cols
				for level := 2; level <= 7; level++ {
					for high := range 7 {
						for rate := 1; rate <= 3; rate++ {
							p := api.Params{Level: level, Rows: high, Rate: rate, Queries: 1 + rnd.IntN(64)}
							if n < level || n > 12 || high > n-level {
								noShape(t, "sizes", p, s, api.ErrSize)
								continue
							}
							if n-level-high+rate > min(10, 1<<level) {
								noShape(t, "no code", p, s, api.ErrLong)
								continue
							}
							want := prove.Plan{Level: level, Vars: n, Corners: wide + rows, Degree: 2, Grid: api.Grid{Level: level, Rows: high, Cols: n - level - high, Rate: rate}}
							if hasProduct(s) {
								want.Degree = 3
							}
							degrees[want.Degree]++
							if plan, e := prove.Shape(p, s); e != api.OK || plan != want {
								t.Errorf("Shape(%v, %v): %v, %v, not %v", p, s, plan, e, want)
							}
						}
					}
				}
			}
		}
	}
	if degrees[2] == 0 || degrees[3] == 0 {
		t.Errorf("degrees: %v", degrees)
	}
}

// 30.1: the edges by name.
func TestPlanEdges(t *testing.T) {
	for _, x := range []struct {
		p    api.Params
		s    api.System
		want prove.Plan
	}{
		// Vars at the Level
		{api.Params{Level: 7, Rate: 1, Queries: 1}, chain(api.GateXor, 3, 2, 2, 1), prove.Plan{Level: 7, Vars: 7, Corners: 5, Degree: 2, Grid: api.Grid{Level: 7, Rate: 1}}},
		// Vars at 12, Rows at Vars - Level
		{api.Params{Level: 7, Rows: 5, Rate: 3, Queries: 64}, chain(api.GateAnd, 5, 4, 3, 1), prove.Plan{Level: 7, Vars: 12, Corners: 9, Degree: 3, Grid: api.Grid{Level: 7, Rows: 5, Rate: 3}}},
		// no corners but one
		{api.Params{Level: 2, Rate: 2, Queries: 1}, chain(api.GateAnd, 0, 0, 4, 1), prove.Plan{Level: 2, Vars: 4, Degree: 3, Grid: api.Grid{Level: 2, Cols: 2, Rate: 2}}},
		// one column
		{api.Params{Level: 2, Rate: 1, Queries: 1}, api.System{Rows: 2, Private: 1, Gates: []api.Gate{{Kind: api.GateSame}}}, prove.Plan{Level: 2, Vars: 2, Corners: 2, Degree: 2, Grid: api.Grid{Level: 2, Rate: 1}}},
		// 199 steps when mixed
		{api.Params{Level: 6, Rows: 1, Rate: 1, Queries: 1}, chain(api.GateAnd, 3, 0, 5, 25), prove.Plan{Level: 6, Vars: 8, Corners: 3, Degree: 3, Grid: api.Grid{Level: 6, Rows: 1, Cols: 1, Rate: 1}}},
	} {
		if plan, e := prove.Shape(x.p, x.s); e != api.OK || plan != x.want {
			t.Errorf("Shape(%v, %v): %v, %v", x.p, x.s, plan, e)
		}
	}
	// 201 steps
	s := chain(api.GateAnd, 3, 0, 5, 23)
	for range 3 {
		s.Gates = append(s.Gates, api.Gate{Kind: api.GateSame})
	}
	noShape(t, "201 steps", api.Params{Level: 6, Rows: 1, Rate: 1, Queries: 1}, s, api.ErrLong)
}

// 30.1
func TestHidden(t *testing.T) {
	rnd := rand.New(rand.NewPCG(30, 2))
	for range 300 {
		s := drawn(rnd, rnd.IntN(6), rnd.IntN(3), 2+rnd.IntN(4), rnd.IntN(4), rnd.IntN(2), 8)
		wires, e := circuit.Wires(s)
		hidden, f := prove.Hidden(s)
		if e != api.OK || f != api.OK {
			t.Fatalf("%v: %v, %v", s, e, f)
		}
		var want []api.Claim
		for _, w := range wires {
			if w.Col >= s.Public {
				want = append(want, w)
			}
		}
		if !slices.Equal(hidden, want) {
			t.Errorf("Hidden(%v): %v, not %v", s, hidden, want)
		}
	}
	// columns 0 and 1 are public: turned, not turned, both; and the carries of a sum
	s := api.System{Wide: 2, Cols: 3, Public: 2, Private: 1, Gates: []api.Gate{
		{Kind: api.GateLeft, Dst: 3, A: 1, S: 2}, {Kind: api.GateXor, Dst: 4, A: 1, B: 2}, {Kind: api.GateAdd, Dst: 5, A: 0, B: 4, S: 6}, {Kind: api.GateRound, Dst: 7, A: 2, S: 1},
	}}
	want := []api.Claim{{Col: 3}, {Col: 4}, {Col: 2}, {Col: 5}, {Col: 6}, {Col: 6, Kind: turn.Left, S: 1}, {Col: 7}, {Col: 2, Kind: turn.Round, S: 1}}
	if got, e := prove.Hidden(s); e != api.OK || !slices.Equal(got, want) {
		t.Errorf("Hidden: %v, %v", got, e)
	}
	// none at all, and all
	open := api.System{Cols: 1, Public: 2, Gates: []api.Gate{{Kind: api.GateSame, B: 1}}}
	if got, e := prove.Hidden(open); e != api.OK || len(got) != 0 {
		t.Errorf("Hidden of public wires: %v, %v", got, e)
	}
	if got, e := prove.Hidden(api.System{}); e != api.OK || len(got) != 0 {
		t.Errorf("Hidden of no wires: %v, %v", got, e)
	}
	open.Public, open.Private = 0, 2
	if got, e := prove.Hidden(open); e != api.OK || len(got) != 2 {
		t.Errorf("Hidden of private wires: %v, %v", got, e)
	}
	for i, x := range []struct {
		s    api.System
		want api.Errno
	}{{api.System{Wide: 6}, api.ErrArg}, {chain(api.GateXor, 0, 0, 6, 31), api.ErrLong}, {sums(2, 0, 21), api.ErrLong}, {api.System{Gates: []api.Gate{{Kind: api.GateSame}}}, api.ErrNone}} {
		if got, e := prove.Hidden(x.s); e != x.want || got != nil {
			t.Errorf("Hidden %d: %v, %v", i, got, e)
		}
	}
}

// begun is the transcript ahead of 1, word by word.
func begun(p api.Params, s api.System, public [][]uint64, root string) *talk.Talk {
	a, _ := proof.Params(p)
	b, _ := proof.System(s)
	c, _ := proof.Words(public)
	k := talk.New(tables, "steeple")
	k.Say("params", a)
	k.Say("system", b)
	k.Say("public", c)
	k.Say("root", root)
	return k
}

// 30.2
func TestBegin(t *testing.T) {
	adder, _, _ := gadget.Adder(2, 1)
	p := api.Params{Level: 3, Rows: 1, Rate: 2, Queries: 3}
	for _, public := range [][][]uint64{{{9, 3}, {1, 5}}, {{0, 0}, {0, 0}}, {{math.MaxUint64, 16}, {1, 5}}} {
		for _, root := range []string{"", "r", strings.Repeat("r", 32), strings.Repeat("r", 33)} {
			before := copied(public)
			k, e := prove.Begin(tables, p, adder, public, root)
			if e != api.OK || k.State() != begun(p, adder, public, root).State() || !reflect.DeepEqual(public, before) {
				t.Errorf("Begin(%v, %q): %v", public, root, e)
			}
		}
	}
	for i, public := range [][][]uint64{nil, {}, {{1, 2}}, {{1, 2}, {3, 4}, {5, 6}}, {{1, 2}, {3}}, {{1}, {2, 3}}, {{1, 2, 3}, {4, 5}}, {{1, 2}, {3, 4, 5}}, {{}, {}}, {nil, nil}} {
		if k, e := prove.Begin(tables, p, adder, public, "r"); e != api.ErrSize || k != nil {
			t.Errorf("Begin %d: %v", i, e)
		}
		if k, e := prove.Begin(nil, p, adder, public, "r"); e != api.ErrArg || k != nil {
			t.Errorf("Begin %d without tables: %v", i, e)
		}
	}
	if k, e := prove.Begin(nil, p, adder, [][]uint64{{9, 3}, {1, 5}}, "r"); e != api.ErrArg || k != nil {
		t.Errorf("Begin without tables: %v", e)
	}
	// no public column
	s := chain(api.GateAnd, 2, 0, 2, 1)
	k, e := prove.Begin(tables, api.Params{Level: 2, Rows: 1, Rate: 1, Queries: 1}, s, nil, "r")
	if e != api.OK || k.State() != begun(api.Params{Level: 2, Rows: 1, Rate: 1, Queries: 1}, s, [][]uint64{}, "r").State() {
		t.Errorf("Begin without public columns: %v", e)
	}
	// unlike words lead apart
	seen := map[string]int{}
	for _, q := range []api.Params{p, {Level: 3, Rows: 1, Rate: 2, Queries: 4}, {Level: 3, Rows: 0, Rate: 2, Queries: 3}} {
		for _, a := range []uint64{1, 2} {
			for _, root := range []string{"", "r"} {
				k, _ := prove.Begin(tables, q, adder, [][]uint64{{a, 3}, {1, 5}}, root)
				seen[k.State()]++
			}
		}
	}
	if len(seen) != 12 {
		t.Errorf("%d states", len(seen))
	}
}
