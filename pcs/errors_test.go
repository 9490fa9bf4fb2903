package pcs_test

import (
	"math"
	"math/rand/v2"
	"slices"
	"testing"

	"steeple/api"
	"steeple/cube"
	"steeple/pcs"
	"steeple/perm"
	"steeple/tower"
)

// noCommit asks for an error of Commit, and for no store beside it.
func noCommit(t *testing.T, k *perm.Tables, g api.Grid, table []api.Elem, want api.Errno) {
	t.Helper()
	if s, e := pcs.Commit(k, g, table); e != want || s != nil {
		t.Errorf("Commit(%v) of %d: %v, %v, not %v", g, len(table), s, e, want)
	}
}

// noOpen asks for an error of Open, and for nothing beside it.
func noOpen(t *testing.T, s *pcs.Store, high []api.Elem, places []int, want api.Errno) {
	t.Helper()
	if o, e := s.Open(high, places); e != want || !same(o, api.Opening{}) {
		t.Errorf("Open(%v, %v): %v, %v, not %v", high, places, o, e, want)
	}
}

// noValue asks for an error of Value, and for nothing beside it.
func noValue(t *testing.T, s *pcs.Store, p []api.Elem, want api.Errno) {
	t.Helper()
	if v, e := s.Value(p); e != want || v != (api.Elem{}) {
		t.Errorf("Value of %d: %v, %v, not %v", len(p), v, e, want)
	}
}

// fill is n times an element.
func fill(n int, e api.Elem) []api.Elem {
	return slices.Repeat([]api.Elem{e}, n)
}

// aside are 0 and elements that are not of a level.
func aside(level int) []api.Elem {
	return append(tooHigh(level), api.Elem{})
}

// other are numbers of elements that are not n, from 0 on.
func other(n int) []int {
	return slices.DeleteFunc([]int{0, n - 1, n + 1, n / 2, 2 * n, 16, 17, 128}, func(m int) bool { return m < 0 || m == n })
}

// wrongGrids are grids that may not be, each with its error.
func wrongGrids() map[api.Grid]api.Errno {
	l := map[api.Grid]api.Errno{
		{Level: 3, Cols: 9}:                   api.ErrLong,
		{Level: 3, Cols: 4, Rate: 5}:          api.ErrLong,
		{Level: 7, Rows: 6, Cols: 11}:         api.ErrLong,
		{Level: 7, Rate: math.MaxInt}:         api.ErrLong,
		{Level: 1, Cols: 1, Rate: 2}:          api.ErrLong,
		{Level: 3, Cols: -1}:                  api.ErrArg,
		{Level: 3, Rate: -1}:                  api.ErrArg,
		{Level: 3, Cols: 20, Rate: -1}:        api.ErrArg,
		{Level: 3, Rows: 7}:                   api.ErrArg,
		{Level: 3, Rows: -1}:                  api.ErrArg,
		{Level: 3, Rows: math.MaxInt}:         api.ErrArg,
		{Level: 3, Rows: math.MinInt}:         api.ErrArg,
		{Level: 3, Rows: 7, Cols: 9}:          api.ErrArg,
		{Level: 3, Rows: -1, Rate: 9}:         api.ErrArg,
		{Cols: math.MaxInt, Rate: 1}:          api.ErrLong,
		{Cols: math.MaxInt, Rows: 7}:          api.ErrArg,
		{Cols: math.MinInt, Rate: 1, Rows: 1}: api.ErrArg,
	}
	for _, level := range noLevels {
		l[api.Grid{Level: level}] = api.ErrArg
		l[api.Grid{Level: level, Rows: 1, Cols: 2, Rate: 1}] = api.ErrArg
		l[api.Grid{Level: level, Cols: 20}] = api.ErrArg
	}
	return l
}

// 24.1: no tables, then grids that may not be, whatever the table is.
func TestCommitArguments(t *testing.T) {
	lists := [][]api.Elem{nil, {}, lo(1), lo(1, 2), fill(8, api.Elem{}), fill(8, tower.Bit(127)), fill(7, tower.Bit(127))}
	for g, want := range wrongGrids() {
		for _, l := range lists {
			noCommit(t, tables, g, l, want)
			noCommit(t, nil, g, l, api.ErrArg)
		}
	}
	for _, l := range lists {
		noCommit(t, nil, api.Grid{Level: 3, Rows: 1, Cols: 2, Rate: 1}, l, api.ErrArg)
		noCommit(t, nil, api.Grid{Level: 3}, l, api.ErrArg)
	}
}

// 24.1: tables of too few and too many elements, ahead of elements that are not of the level.
func TestCommitTables(t *testing.T) {
	for _, g := range small() {
		n := 1 << (g.Cols + g.Rows)
		for _, e := range aside(g.Level) {
			for _, m := range other(n) {
				noCommit(t, tables, g, fill(m, e), api.ErrSize)
			}
		}
		noCommit(t, tables, g, nil, api.ErrSize)
		for _, e := range tooHigh(g.Level) {
			for _, i := range []int{0, n / 3, n / 2, n - 1} {
				noCommit(t, tables, g, put(make([]api.Elem, n), i, e), api.ErrField)
			}
		}
	}
	// As many elements as some rows have, but not all of them.
	g := api.Grid{Level: 3, Rows: 2, Cols: 2, Rate: 1}
	for _, n := range []int{4, 8, 12, 20, 32} {
		noCommit(t, tables, g, make([]api.Elem, n), api.ErrSize)
	}
}

// 24.1, 24.2: a nil store.
func TestNilStore(t *testing.T) {
	var none *pcs.Store
	if root := none.Root(); root != "" {
		t.Errorf("Root: %x", root)
	}
	for _, l := range [][]api.Elem{nil, {}, lo(1), fill(20, tower.Bit(127))} {
		noValue(t, none, l, api.ErrArg)
		for _, places := range [][]int{nil, {}, {0}, {1, 0}, {-1}, {math.MaxInt}} {
			noOpen(t, none, l, places, api.ErrArg)
		}
	}
}

// A store that no call made has nothing to tell.
func TestEmptyStore(t *testing.T) {
	s := new(pcs.Store)
	if root := s.Root(); root != "" {
		t.Errorf("Root: %x", root)
	}
	s.Value(nil)
	s.Open(nil, []int{0})
}

// 24.2: points of too few and too many elements, and of such as are not of the level: what cube.At says.
func TestValueErrors(t *testing.T) {
	rnd := rand.New(rand.NewPCG(24, 7))
	for _, g := range small() {
		n := g.Cols + g.Rows
		table := drawn(rnd, g.Level, 1<<n)
		s := commit(t, tables, g, table)
		for _, e := range aside(g.Level) {
			for _, m := range other(n) {
				noValue(t, s, fill(m, e), api.ErrSize)
			}
		}
		for _, e := range tooHigh(g.Level) {
			for i := range n {
				p := put(drawn(rnd, g.Level, n), i, e)
				noValue(t, s, p, api.ErrField)
				if _, want := cube.At(g.Level, table, p); want != api.ErrField {
					t.Errorf("cube.At: %v", want)
				}
			}
		}
	}
}

// noPlaces are numbers that are no places below n.
func noPlaces(n int) [][]int {
	l := [][]int{nil, {}, {-1}, {n}, {n + 1}, {math.MinInt}, {math.MaxInt}, {0, 0}, {n - 1, n - 1}, {0, n}, {-1, 0}, {n - 1, n}, append(all(n), n), append(all(n), n-1)}
	if n > 1 {
		l = append(l, []int{1, 0}, []int{n - 1, 0}, []int{0, 1, 1}, []int{0, 1, 0})
	}
	return l
}

// 24.2: what are no places comes first, then a high part of too few and too many elements, then of such as are not of the level.
func TestOpenErrors(t *testing.T) {
	rnd := rand.New(rand.NewPCG(24, 8))
	for _, g := range small() {
		long := 1 << (g.Cols + g.Rate)
		s := commit(t, tables, g, drawn(rnd, g.Level, 1<<(g.Cols+g.Rows)))
		for _, places := range noPlaces(long) {
			for _, e := range aside(g.Level) {
				for _, m := range append(other(g.Rows), g.Rows) {
					noOpen(t, s, fill(m, e), places, api.ErrArg)
				}
			}
		}
		for _, places := range [][]int{{0}, {long - 1}, all(long)} {
			for _, e := range aside(g.Level) {
				for _, m := range other(g.Rows) {
					noOpen(t, s, fill(m, e), places, api.ErrSize)
				}
			}
			for _, e := range tooHigh(g.Level) {
				for i := range g.Rows {
					noOpen(t, s, put(make([]api.Elem, g.Rows), i, e), places, api.ErrField)
				}
			}
			open(t, s, make([]api.Elem, g.Rows), places)
		}
	}
}

// asked is what Check is asked.
type asked struct {
	k      *perm.Tables
	g      api.Grid
	root   string
	p      []api.Elem
	v      api.Elem
	places []int
	o      api.Opening
}

// check is what Check says.
func (a asked) check() api.Errno {
	return pcs.Check(a.k, a.g, a.root, a.p, a.v, a.places, a.o)
}

// right is what Check is asked, and has nothing against.
func right(t *testing.T, rnd *rand.Rand, g api.Grid, places []int) asked {
	t.Helper()
	n := g.Cols + g.Rows
	s := commit(t, tables, g, drawn(rnd, g.Level, 1<<n))
	p := drawn(rnd, g.Level, n)
	a := asked{tables, g, s.Root(), p, value(t, s, p), places, open(t, s, p[g.Cols:], places)}
	if e := a.check(); e != api.OK {
		t.Fatalf("Check of %v: %v", g, e)
	}
	return a
}

// fault is one thing that is wrong, and its error.
type fault struct {
	what string
	want api.Errno
	do   func(a *asked)
}

// faults are things that are wrong of what Check is asked of grids of level 3, in the order of their errors; one does not undo another.
func faults() []fault {
	high := tower.Bit(8)
	return []fault{
		{"no tables", api.ErrArg, func(a *asked) { a.k = nil }},
		{"too many rows", api.ErrArg, func(a *asked) { a.g.Rows = 7 }},
		{"too long words", api.ErrLong, func(a *asked) { a.g.Rate = 9 }},
		{"no places", api.ErrArg, func(a *asked) { a.places = nil }},
		{"falling places", api.ErrArg, func(a *asked) { a.places = []int{1, 0} }},
		{"a great place", api.ErrArg, func(a *asked) { a.places = append(slices.Clone(a.places), 1<<20) }},
		{"too long a point", api.ErrSize, func(a *asked) { a.p = append(slices.Clone(a.p), api.Elem{}) }},
		{"too long a row", api.ErrSize, func(a *asked) { a.o.Row = append(slices.Clone(a.o.Row), api.Elem{}) }},
		{"too many columns", api.ErrSize, func(a *asked) {
			a.o.Cols = append(slices.Clone(a.o.Cols), make([]api.Elem, 1<<max(0, min(a.g.Rows, 6))))
		}},
		{"too long a column", api.ErrSize, func(a *asked) {
			a.o.Cols = put(a.o.Cols, 0, append(slices.Clone(a.o.Cols[0]), api.Elem{}))
		}},
		{"no element in the point", api.ErrField, func(a *asked) { a.p = put(a.p, 0, high) }},
		{"no element for a value", api.ErrField, func(a *asked) { a.v = high }},
		{"no element in the row", api.ErrField, func(a *asked) { a.o.Row = put(a.o.Row, 0, high) }},
		{"no element in a column", api.ErrField, func(a *asked) { a.o.Cols = put(a.o.Cols, 0, put(a.o.Cols[0], 0, high)) }},
		{"another root", api.ErrProof, func(a *asked) { a.root += "x" }},
		{"a digest too many", api.ErrProof, func(a *asked) { a.o.Proof = append(slices.Clone(a.o.Proof), a.root) }},
		{"another value", api.ErrProof, func(a *asked) { a.v = tower.Add(a.v, tower.One()) }},
	}
}

// rank is the order of the errors of Check, by the numbers of faults that begin a new one.
func rank(i int) int {
	n := 0
	for _, from := range []int{1, 3, 6, 10, 14} {
		if i >= from {
			n++
		}
	}
	return n
}

// 24.3: each error, and which one comes first where two hinder.
func TestCheckOrder(t *testing.T) {
	rnd := rand.New(rand.NewPCG(24, 9))
	for _, g := range []api.Grid{{Level: 3, Rows: 1, Cols: 2, Rate: 1}, {Level: 3, Rows: 0, Cols: 3, Rate: 0}, {Level: 3, Rows: 2, Cols: 1, Rate: 2}} {
		start := right(t, rnd, g, []int{1})
		l := faults()
		for i, first := range l {
			a := start
			first.do(&a)
			if e := a.check(); e != first.want {
				t.Errorf("%s: %v, not %v", first.what, e, first.want)
			}
			for j, second := range l {
				// Two that are asked for at once may undo each other.
				if rank(j) <= rank(i) {
					continue
				}
				a := start
				second.do(&a)
				first.do(&a)
				if e := a.check(); e != first.want {
					t.Errorf("%s and %s: %v, not %v", first.what, second.what, e, first.want)
				}
			}
		}
	}
}

// 24.3: no tables, then grids that may not be, whatever else is asked.
func TestCheckGrids(t *testing.T) {
	rnd := rand.New(rand.NewPCG(24, 10))
	start := right(t, rnd, api.Grid{Level: 3, Rows: 1, Cols: 2, Rate: 1}, []int{0, 5})
	for g, want := range wrongGrids() {
		for _, a := range []asked{start, {k: tables}, {k: tables, places: []int{0}}, {k: tables, places: []int{1, 0}, v: tower.Bit(127)}} {
			a.g = g
			if e := a.check(); e != want {
				t.Errorf("Check of %v: %v, not %v", g, e, want)
			}
			a.k = nil
			if e := a.check(); e != api.ErrArg {
				t.Errorf("Check of %v without tables: %v", g, e)
			}
		}
	}
	for _, a := range []asked{{}, start} {
		a.k = nil
		if e := a.check(); e != api.ErrArg {
			t.Errorf("Check without tables: %v", e)
		}
	}
}

// 24.3: places that are none, ahead of all sizes and elements.
func TestCheckPlaces(t *testing.T) {
	rnd := rand.New(rand.NewPCG(24, 11))
	for _, g := range small() {
		long := 1 << (g.Cols + g.Rate)
		start := right(t, rnd, g, drawnPlaces(rnd, long))
		for _, places := range noPlaces(long) {
			for _, a := range []asked{start, {k: tables, g: g}, {k: tables, g: g, v: tower.Bit(127)}} {
				a.places = places
				if e := a.check(); e != api.ErrArg {
					t.Errorf("Check of %v at %v: %v", g, places, e)
				}
			}
		}
	}
}

// 24.3: each list that is too short or too long, ahead of elements that are not of the level.
func TestCheckSizes(t *testing.T) {
	rnd := rand.New(rand.NewPCG(24, 12))
	for _, g := range small() {
		start := right(t, rnd, g, drawnPlaces(rnd, 1<<(g.Cols+g.Rate)))
		refuse := func(what string, do func(a *asked)) {
			t.Helper()
			a := start
			do(&a)
			for _, v := range aside(g.Level) {
				a.v = v
				if e := a.check(); e != api.ErrSize {
					t.Errorf("%s, %v: %v", what, g, e)
				}
			}
		}
		for _, e := range aside(g.Level) {
			for _, n := range other(g.Cols + g.Rows) {
				refuse("a point", func(a *asked) { a.p = fill(n, e) })
			}
			for _, n := range other(1 << g.Cols) {
				refuse("a row", func(a *asked) { a.o.Row = fill(n, e) })
			}
			for _, n := range other(len(start.places)) {
				refuse("columns", func(a *asked) { a.o.Cols = slices.Repeat([][]api.Elem{fill(1<<g.Rows, e)}, n) })
			}
			for i := range start.places {
				for _, n := range other(1 << g.Rows) {
					refuse("a column", func(a *asked) { a.o.Cols = put(a.o.Cols, i, fill(n, e)) })
				}
			}
		}
		refuse("no columns", func(a *asked) { a.o.Cols = nil })
		refuse("nothing", func(a *asked) { a.o = api.Opening{} })
	}
}

// 24.3: each element that is not of the level, ahead of what is proved.
func TestCheckElements(t *testing.T) {
	rnd := rand.New(rand.NewPCG(24, 13))
	for _, g := range small() {
		start := right(t, rnd, g, drawnPlaces(rnd, 1<<(g.Cols+g.Rate)))
		refuse := func(what string, do func(a *asked)) {
			t.Helper()
			a := start
			do(&a)
			for _, root := range []string{a.root, ""} {
				a.root = root
				if e := a.check(); e != api.ErrField {
					t.Errorf("%s, %v: %v", what, g, e)
				}
			}
		}
		for _, e := range tooHigh(g.Level) {
			refuse("the value", func(a *asked) { a.v = e })
			for i := range start.p {
				refuse("the point", func(a *asked) { a.p = put(a.p, i, e) })
			}
			for i := range start.o.Row {
				refuse("the row", func(a *asked) { a.o.Row = put(a.o.Row, i, e) })
			}
			for i, col := range start.o.Cols {
				for j := range col {
					refuse("a column", func(a *asked) { a.o.Cols = put(a.o.Cols, i, put(col, j, e)) })
				}
			}
		}
	}
}
