package circuit_test

import (
	"math"
	"math/rand/v2"
	"slices"
	"strings"
	"testing"

	"steeple/api"
	"steeple/circuit"
	"steeple/claim"
)

// fields are the fields that each kind of gate needs: D is Dst.
var fields = map[int]string{
	api.GateXor: "DAB", api.GateAnd: "DAB", api.GateNot: "DA", api.GateLeft: "DAS", api.GateRight: "DAS",
	api.GateRound: "DAS", api.GateAdd: "DABS", api.GateSame: "AB",
}

// kinds are all kinds of gates.
var kinds = []int{api.GateXor, api.GateAnd, api.GateNot, api.GateLeft, api.GateRight, api.GateRound, api.GateAdd, api.GateSame}

// turns are the kinds of gates that turn words.
var turns = []int{api.GateLeft, api.GateRight, api.GateRound}

// needs tells whether a kind of gate needs a field.
func needs(kind int, field string) bool {
	return strings.Contains(fields[kind], field)
}

// to is the field of a gate.
func to(g *api.Gate, field string) *int {
	return map[string]*int{"D": &g.Dst, "A": &g.A, "B": &g.B, "S": &g.S}[field]
}

// gate is a gate of a kind that may be the next one, where so many columns are there.
func gate(kind, there, a, b, s int) api.Gate {
	g := api.Gate{Kind: kind}
	for field, n := range map[string]int{"D": there, "A": a, "B": b, "S": s} {
		if needs(kind, field) {
			*to(&g, field) = n
		}
	}
	if kind == api.GateAdd {
		g.S = there + 1
	}
	return g
}

// makes is how many columns a kind of gate makes.
func makes(kind int) int {
	switch kind {
	case api.GateAdd:
		return 2
	case api.GateSame:
		return 0
	}
	return 1
}

// drawn is a system that may be, of some gates.
func drawn(rnd *rand.Rand, most int) api.System {
	s := api.System{Wide: rnd.IntN(6), Rows: rnd.IntN(5), Cols: rnd.IntN(7)}
	s.Public = rnd.IntN(min(4, 1<<s.Cols+1))
	s.Private = rnd.IntN(min(4, 1<<s.Cols-s.Public+1))
	if s.Public+s.Private == 0 {
		return s
	}
	return grown(rnd, s, rnd.IntN(most+1), kinds)
}

// grown is a system with as many gates more, of some kinds, or of GateSame, where no other finds room.
func grown(rnd *rand.Rand, s api.System, many int, kinds []int) api.System {
	there := circuit.Used(s)
	for range many {
		kind := kinds[rnd.IntN(len(kinds))]
		if there+makes(kind) > 1<<s.Cols {
			kind = api.GateSame
		}
		s.Gates = append(s.Gates, gate(kind, there, rnd.IntN(there), rnd.IntN(there), rnd.IntN(1<<s.Wide)))
		there += makes(kind)
	}
	return s
}

// copied is a system of its own.
func copied(s api.System) api.System {
	s.Gates = slices.Clone(s.Gates)
	return s
}

// same tells whether two systems are the same.
func same(a, b api.System) bool {
	return a.Wide == b.Wide && a.Rows == b.Rows && a.Cols == b.Cols && a.Public == b.Public && a.Private == b.Private && slices.Equal(a.Gates, b.Gates)
}

// asks asks what is wrong with a system, and whether the other calls say so, too.
func asks(t *testing.T, s api.System, want api.Errno) {
	t.Helper()
	before := copied(s)
	if e := circuit.Check(s); e != want {
		t.Errorf("Check(%v): %v, not %v", s, e, want)
		return
	}
	wires, e := circuit.Wires(s)
	conds, f := circuit.Conds(s)
	if want != api.OK && (e != want || f != want || len(wires) != 0 || len(conds) != 0 || circuit.Used(s) != 0 || circuit.Vars(s) != 0) {
		t.Errorf("%v, which may not be: %v, %v, %v, %v, %d, %d", s, wires, e, conds, f, circuit.Used(s), circuit.Vars(s))
	}
	if !same(s, before) {
		t.Errorf("%v was changed to %v", before, s)
	}
}

// 25.1: each number of a system below, at and above its bounds.
func TestBounds(t *testing.T) {
	for _, x := range []struct {
		put   func(s *api.System, n int)
		least int
		most  int
	}{
		{func(s *api.System, n int) { s.Wide = n }, 0, 5},
		{func(s *api.System, n int) { s.Rows = n }, 0, 4},
		{func(s *api.System, n int) { s.Cols = n }, 0, 6},
		{func(s *api.System, n int) { s.Cols, s.Public = 3, n }, 0, 8},
		{func(s *api.System, n int) { s.Cols, s.Private = 3, n }, 0, 8},
	} {
		for _, n := range []int{math.MinInt, math.MinInt32, -64, -1, x.most + 1, x.most + 2, 64, math.MaxInt32, math.MaxInt32 + 1, math.MaxInt - 1, math.MaxInt} {
			var s api.System
			x.put(&s, n)
			asks(t, s, api.ErrArg)
		}
		for n := x.least; n <= x.most; n++ {
			var s api.System
			x.put(&s, n)
			asks(t, s, api.OK)
		}
	}
	if circuit.MaxRows != 4 || circuit.MaxGates != 30 || claim.MaxCols != 6 {
		t.Error("the bounds")
	}
}

// 25.1: as many given columns as there are, and one more, also where their number is greater than a number can be.
func TestGivenColumns(t *testing.T) {
	for cols := range 7 {
		n := 1 << cols
		for public := range n + 1 {
			asks(t, api.System{Cols: cols, Public: public, Private: n - public}, api.OK)
			asks(t, api.System{Cols: cols, Public: public, Private: n - public + 1}, api.ErrArg)
			asks(t, api.System{Cols: cols, Public: public, Private: math.MaxInt}, api.ErrArg)
			asks(t, api.System{Cols: cols, Public: public, Private: math.MinInt}, api.ErrArg)
			asks(t, api.System{Cols: cols, Public: math.MaxInt, Private: public}, api.ErrArg)
			asks(t, api.System{Cols: cols, Public: n + 1 + public, Private: -1 - public}, api.ErrArg)
			asks(t, api.System{Cols: cols, Public: -1 - public, Private: n}, api.ErrArg)
		}
		asks(t, api.System{Cols: cols, Public: math.MaxInt, Private: math.MaxInt}, api.ErrArg)
		asks(t, api.System{Cols: cols, Public: math.MaxInt, Private: math.MinInt + 1}, api.ErrArg)
	}
}

// 25.1: MaxGates gates, and one more: ahead of what is wrong with one, behind what is wrong with the numbers.
func TestManyGates(t *testing.T) {
	s := api.System{Cols: 6, Private: 1}
	for n := range circuit.MaxGates {
		asks(t, s, api.OK)
		s.Gates = append(s.Gates, gate(kinds[n%3], n+1, n, 0, 0))
	}
	asks(t, s, api.OK)
	if n := circuit.Used(s); n != 31 {
		t.Errorf("Used: %d", n)
	}
	s.Gates = append(s.Gates, gate(api.GateSame, 0, 0, 0, 0))
	asks(t, s, api.ErrLong)
	s.Gates[0].Kind = 9
	asks(t, s, api.ErrLong)
	s.Gates = make([]api.Gate, 100000)
	asks(t, s, api.ErrLong)
	s.Rows = 5
	asks(t, s, api.ErrArg)
	s.Rows, s.Private = 0, 65
	asks(t, s, api.ErrArg)
}

// ahead is a system with three columns there, of which a gate has made the last one, and room for three more and a gate.
func ahead() api.System {
	return api.System{Wide: 3, Rows: 1, Cols: 3, Public: 1, Private: 1, Gates: []api.Gate{{Kind: api.GateXor, Dst: 2, A: 0, B: 1}}}
}

// then is that system with one more gate.
func then(g api.Gate) api.System {
	s := ahead()
	s.Gates = append(s.Gates, g)
	return s
}

// 25.1: each kind there is, each column that is there, and kinds that are none.
func TestKinds(t *testing.T) {
	for _, kind := range kinds {
		for a := range 3 {
			for b := range 3 {
				asks(t, then(gate(kind, 3, a, b, 7)), api.OK)
			}
		}
	}
	for _, kind := range []int{math.MinInt, -8, -1, 0, 9, 10, 16, 257, math.MaxInt32, math.MaxInt} {
		asks(t, then(api.Gate{Kind: kind}), api.ErrForm)
		asks(t, then(api.Gate{Kind: kind, Dst: 3, B: 1}), api.ErrForm)
		asks(t, then(api.Gate{Kind: kind, Dst: 3, A: 1, B: 1, S: 4}), api.ErrForm)
		// It is told ahead of columns that are not there.
		asks(t, then(api.Gate{Kind: kind, Dst: 9, A: 99, B: -1, S: 77}), api.ErrForm)
	}
}

// 25.1: each field that a kind does not need.
func TestFieldsNotNeeded(t *testing.T) {
	spare := 0
	for _, kind := range kinds {
		for _, field := range []string{"D", "A", "B", "S"} {
			if needs(kind, field) {
				continue
			}
			spare++
			for _, n := range []int{1, 2, 3, 4, -1, math.MinInt, math.MaxInt} {
				g := gate(kind, 3, 1, 0, 5)
				*to(&g, field) = n
				asks(t, then(g), api.ErrForm)
				// It is told ahead of a column that is not there.
				g.A = 3
				asks(t, then(g), api.ErrForm)
			}
		}
	}
	if spare != 1+1+2+3+2 {
		t.Errorf("%d fields are not needed", spare)
	}
}

// 25.1: A and B that are no column, or one that is made later, or by the gate itself.
func TestNoSuchColumn(t *testing.T) {
	for _, kind := range kinds {
		for _, field := range []string{"A", "B"} {
			if !needs(kind, field) {
				continue
			}
			for _, n := range []int{3, 4, 5, 7, 8, 9, 64, -1, -3, math.MinInt, math.MaxInt} {
				g := gate(kind, 3, 1, 1, 0)
				*to(&g, field) = n
				asks(t, then(g), api.ErrNone)
				s := then(g)
				s.Gates = append(s.Gates, gate(api.GateNot, 3+makes(kind), 0, 0, 0))
				asks(t, s, api.ErrNone)
			}
		}
		// Where no column is there, none can be named.
		asks(t, api.System{Wide: 1, Cols: 2, Gates: []api.Gate{gate(kind, 0, 0, 0, 0)}}, api.ErrNone)
	}
}

// 25.1: columns are there from the gate on that makes them; both of GateAdd.
func TestColumnsComeToBeThere(t *testing.T) {
	for _, kind := range kinds {
		s := then(gate(kind, 3, 0, 1, 1))
		for a := range 8 {
			x := copied(s)
			x.Gates = append(x.Gates, gate(api.GateNot, 3+makes(kind), a, 0, 0))
			want := api.OK
			if a >= 3+makes(kind) {
				want = api.ErrNone
			}
			asks(t, x, want)
		}
		if n := circuit.Used(s); n != 3+makes(kind) {
			t.Errorf("Used behind kind %d: %d", kind, n)
		}
	}
}

// 25.1: S that is a turn's, and that is none.
func TestTurns(t *testing.T) {
	for _, kind := range turns {
		for wide := range 6 {
			with := func(by int) api.System {
				return api.System{Wide: wide, Cols: 1, Private: 1, Gates: []api.Gate{{Kind: kind, Dst: 1, S: by}}}
			}
			for by := range 1 << wide {
				asks(t, with(by), api.OK)
			}
			for _, by := range []int{1 << wide, 1<<wide + 1, 64, -1, -1 << wide, math.MinInt, math.MaxInt} {
				asks(t, with(by), api.ErrArg)
			}
		}
	}
}

// 25.1: Dst, and S of GateAdd, that is not the next one.
func TestNextColumn(t *testing.T) {
	for _, kind := range kinds {
		if kind == api.GateSame {
			continue
		}
		for _, n := range []int{0, 1, 2, 4, 5, 7, 8, -1, -3, math.MinInt, math.MaxInt} {
			g := gate(kind, 3, 1, 0, 0)
			g.Dst = n
			asks(t, then(g), api.ErrForm)
		}
	}
	for _, n := range []int{0, 1, 2, 3, 5, 6, 8, -1, -4, math.MinInt, math.MaxInt} {
		asks(t, then(api.Gate{Kind: api.GateAdd, Dst: 3, A: 1, S: n}), api.ErrForm)
	}
	// Both raised alike.
	asks(t, then(api.Gate{Kind: api.GateAdd, Dst: 4, A: 1, S: 5}), api.ErrForm)
	asks(t, then(api.Gate{Kind: api.GateAdd, Dst: 2, A: 1, S: 3}), api.ErrForm)
	// Each other's.
	asks(t, then(api.Gate{Kind: api.GateAdd, Dst: 4, A: 1, S: 3}), api.ErrForm)
}

// 25.1: no column left for what a gate makes.
func TestNoColumnLeft(t *testing.T) {
	for cols := range 7 {
		n := 1 << cols
		for _, kind := range kinds {
			for left := range min(n, 4) {
				s := api.System{Cols: cols, Private: n - left, Gates: []api.Gate{gate(kind, n-left, 0, 0, 0)}}
				want := api.OK
				if makes(kind) > left {
					want = api.ErrLong
				}
				asks(t, s, want)
				if want == api.OK && circuit.Used(s) != n-left+makes(kind) {
					t.Errorf("Used(%v): %d", s, circuit.Used(s))
				}
			}
		}
	}
}

// 25.1: of two hindrances of one gate the first one is told.
func TestWhichComesFirst(t *testing.T) {
	full := api.System{Wide: 2, Cols: 1, Private: 2}
	with := func(g api.Gate) api.System {
		s := full
		s.Gates = []api.Gate{g}
		return s
	}
	for _, x := range []struct {
		g    api.Gate
		want api.Errno
	}{
		{api.Gate{Kind: api.GateNot, Dst: 2, A: 2, S: 1}, api.ErrForm},        // not needed, not there, no column left
		{api.Gate{Kind: api.GateLeft, Dst: 2, A: 2, B: 1, S: 4}, api.ErrForm}, // not needed, not there, no turn
		{api.Gate{Kind: api.GateLeft, Dst: 2, A: 2, S: 4}, api.ErrNone},       // not there, no turn
		{api.Gate{Kind: api.GateLeft, Dst: 1, A: 2}, api.ErrNone},             // not there, not the next
		{api.Gate{Kind: api.GateXor, Dst: 2, B: 2}, api.ErrNone},              // not there, no column left
		{api.Gate{Kind: api.GateAdd, Dst: 1, A: -1, S: 9}, api.ErrNone},       // not there, not the next
		{api.Gate{Kind: api.GateRight, Dst: 1, S: 4}, api.ErrArg},             // no turn, not the next
		{api.Gate{Kind: api.GateRound, Dst: 2, S: -1}, api.ErrArg},            // no turn, no column left
		{api.Gate{Kind: api.GateRound, Dst: 3, S: 3}, api.ErrForm},            // not the next, no column left
		{api.Gate{Kind: api.GateAdd, Dst: 2, S: 2}, api.ErrForm},              // not the next, no column left
		{api.Gate{Kind: api.GateAdd, Dst: 2, S: 3}, api.ErrLong},              // no column left
		{api.Gate{Kind: api.GateSame, Dst: 2, B: 2}, api.ErrForm},             // not needed, not there
		{api.Gate{Kind: api.GateSame, A: 2, B: 1}, api.ErrNone},
		{api.Gate{Kind: api.GateSame, A: 1, B: 1}, api.OK},
	} {
		asks(t, with(x.g), x.want)
		// What is wrong with a number is told ahead of it.
		for _, put := range []func(s *api.System){func(s *api.System) { s.Wide = -1 }, func(s *api.System) { s.Public = 1 }} {
			s := with(x.g)
			put(&s)
			asks(t, s, api.ErrArg)
		}
	}
}

// 25.1: of two gates the first one that is hindered is told, whatever hinders the second one.
func TestGateByGate(t *testing.T) {
	wrong := map[api.Errno]api.Gate{
		api.ErrNone: {Kind: api.GateNot, Dst: 7, A: 7},
		api.ErrArg:  {Kind: api.GateLeft, Dst: 7, S: 8},
		api.ErrForm: {Kind: api.GateNot, Dst: 8},
		api.ErrLong: {Kind: api.GateAdd, Dst: 7, S: 8},
	}
	for first, g := range wrong {
		for _, h := range wrong {
			asks(t, api.System{Wide: 3, Cols: 3, Public: 3, Private: 4, Gates: []api.Gate{g, h}}, first)
			asks(t, api.System{Wide: 3, Cols: 3, Public: 3, Private: 4, Gates: []api.Gate{{Kind: api.GateSame}, g, h}}, first)
		}
	}
}

// wrong is what is wrong with a system, told field by field.
func wrong(s api.System) api.Errno {
	for _, x := range [][2]int{{s.Wide, 5}, {s.Rows, 4}, {s.Cols, 6}, {s.Public, 64}, {s.Private, 64}} {
		if x[0] < 0 || x[0] > x[1] {
			return api.ErrArg
		}
	}
	if s.Public+s.Private > 1<<s.Cols {
		return api.ErrArg
	}
	if len(s.Gates) > 30 {
		return api.ErrLong
	}
	there := s.Public + s.Private
	for _, g := range s.Gates {
		if _, ok := fields[g.Kind]; !ok {
			return api.ErrForm
		}
		for _, field := range []string{"D", "A", "B", "S"} {
			if !needs(g.Kind, field) && *to(&g, field) != 0 {
				return api.ErrForm
			}
		}
		for _, field := range []string{"A", "B"} {
			if n := *to(&g, field); needs(g.Kind, field) && (n < 0 || n >= there) {
				return api.ErrNone
			}
		}
		if slices.Contains(turns, g.Kind) && (g.S < 0 || g.S >= 1<<s.Wide) {
			return api.ErrArg
		}
		if needs(g.Kind, "D") && g.Dst != there || g.Kind == api.GateAdd && g.S != there+1 {
			return api.ErrForm
		}
		there += makes(g.Kind)
		if there > 1<<s.Cols {
			return api.ErrLong
		}
	}
	return api.OK
}

// 25.1: systems that may be, with some of their numbers turned into others, against what is told field by field.
func TestAgainstTheWords(t *testing.T) {
	rnd := rand.New(rand.NewPCG(25, 1))
	seen := map[api.Errno]int{}
	for range 30000 {
		s := drawn(rnd, 8)
		for range rnd.IntN(3) {
			spoil(rnd, &s)
		}
		want := wrong(s)
		seen[want]++
		asks(t, s, want)
		used, vars := 0, 0
		if want == api.OK {
			used, vars = s.Public+s.Private, s.Wide+s.Rows+s.Cols
			for _, g := range s.Gates {
				used += makes(g.Kind)
			}
		}
		if circuit.Used(s) != used || circuit.Vars(s) != vars {
			t.Fatalf("%v: %d columns, %d variables", s, circuit.Used(s), circuit.Vars(s))
		}
	}
	for _, e := range []api.Errno{api.OK, api.ErrArg, api.ErrLong, api.ErrForm, api.ErrNone} {
		if seen[e] < 50 {
			t.Errorf("%v was told %d times only", e, seen[e])
		}
	}
}

// spoil turns a number of a system, or of a gate, into another one.
func spoil(rnd *rand.Rand, s *api.System) {
	n := rnd.IntN(12) - 2
	places := []*int{&s.Wide, &s.Rows, &s.Cols, &s.Public, &s.Private}
	for range 3 {
		if len(s.Gates) > 0 {
			g := &s.Gates[rnd.IntN(len(s.Gates))]
			places = append(places, &g.Kind, &g.Dst, &g.A, &g.B, &g.S)
		}
	}
	*places[rnd.IntN(len(places))] = n
}

// 25.1: Used and Vars of what the document names.
func TestUsedAndVars(t *testing.T) {
	for _, x := range []struct {
		s          api.System
		used, vars int
	}{
		{api.System{}, 0, 0},
		{api.System{Wide: 5, Rows: 4, Cols: 6}, 0, 15},
		{api.System{Wide: 1, Rows: 2, Cols: 3, Public: 5, Private: 3}, 8, 6},
		{api.System{Wide: 6, Public: 1}, 0, 0},
		{ahead(), 3, 7},
		{then(gate(api.GateAdd, 3, 0, 1, 0)), 5, 7},
		{then(gate(api.GateSame, 3, 0, 1, 0)), 3, 7},
		{then(gate(api.GateSame, 3, 0, 3, 0)), 0, 0},
	} {
		if n, v := circuit.Used(x.s), circuit.Vars(x.s); n != x.used || v != x.vars {
			t.Errorf("%v: %d columns, %d variables", x.s, n, v)
		}
	}
}
