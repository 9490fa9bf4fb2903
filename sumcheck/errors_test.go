package sumcheck_test

import (
	"math/rand/v2"
	"slices"
	"testing"

	"steeple/api"
	"steeple/sumcheck"
	"steeple/tower"
)

// refused asks for one error of all calls that Check speaks for, and for nothing beside it.
func refused(t *testing.T, level int, l []api.Op, tables [][]api.Elem, want api.Errno) {
	t.Helper()
	if e := sumcheck.Check(level, l, tables); e != want {
		t.Errorf("Check in level %d of %d steps, %d tables: %v, not %v", level, len(l), len(tables), e, want)
	}
	if s, e := sumcheck.Sum(level, l, tables); e != want || s != (api.Elem{}) {
		t.Errorf("Sum in level %d of %d steps, %d tables: %v, %v, not %v", level, len(l), len(tables), s, e, want)
	}
	noRound(t, level, l, tables, want)
	// What Check tells comes ahead of all that is wrong with the elements.
	for _, r := range [][]api.Elem{nil, lo(0), {tower.Bit(127)}, lo(0, 0), make([]api.Elem, 20)} {
		noProof(t, level, l, tables, r, want)
	}
}

// noRound asks for an error of Round, and for nothing beside it.
func noRound(t *testing.T, level int, l []api.Op, tables [][]api.Elem, want api.Errno) {
	t.Helper()
	if v, e := sumcheck.Round(level, l, tables); e != want || len(v) != 0 {
		t.Errorf("Round in level %d of %d steps, %d tables: %v, %v, not %v", level, len(l), len(tables), v, e, want)
	}
}

// noProof asks for an error of Prove, and for nothing beside it.
func noProof(t *testing.T, level int, l []api.Op, tables [][]api.Elem, r []api.Elem, want api.Errno) {
	t.Helper()
	if p, e := sumcheck.Prove(level, l, tables, r); e != want || len(p.Rounds) != 0 || len(p.Ends) != 0 {
		t.Errorf("Prove in level %d of %d steps, %d tables, %d elements: %v, %v, not %v", level, len(l), len(tables), len(r), p, e, want)
	}
}

// noBind asks for an error of Bind, and for nothing beside it.
func noBind(t *testing.T, level int, tables [][]api.Elem, r api.Elem, want api.Errno) {
	t.Helper()
	if out, e := sumcheck.Bind(level, tables, r); e != want || len(out) != 0 {
		t.Errorf("Bind in level %d of %d tables: %v, %v, not %v", level, len(tables), out, e, want)
	}
}

// long is an expression of n steps.
func long(n int) []api.Op {
	l := []api.Op{{Kind: api.OpVar}}
	for i := range n - 1 {
		l = append(l, api.Op{Kind: api.OpAdd, B: i})
	}
	return l
}

// wrongTables are lists that are no tables of a composition, whatever the level.
func wrongTables() [][][]api.Elem {
	return [][][]api.Elem{
		nil, {}, {nil}, {{}}, {lo(0), nil}, {lo(0), lo(0, 0)}, {lo(0, 0), lo(0)}, {lo(0, 0), lo(0, 0), lo(0)},
		{lo(0, 0, 0)}, {lo(0, 0, 0), lo(0, 0, 0)}, {make([]api.Elem, 5)}, {make([]api.Elem, 6)}, {make([]api.Elem, 12)},
		{make([]api.Elem, 4095)}, {make([]api.Elem, 4097)}, {make([]api.Elem, 1<<13)}, {make([]api.Elem, 1<<14)}, {make([]api.Elem, 1<<16)}, {make([]api.Elem, 1<<17)},
		{make([]api.Elem, 4096), make([]api.Elem, 2048)}, {make([]api.Elem, 4), make([]api.Elem, 4), make([]api.Elem, 8)},
	}
}

// 20.1: levels that are none come first of all.
func TestNoLevels(t *testing.T) {
	for _, level := range noLevels {
		for _, l := range [][]api.Op{nil, power(1), power(9), long(201), steps(t, "x5"), {{Kind: 9}}} {
			for _, tables := range append(wrongTables()[:10], [][]api.Elem{lo(0, 1)}, [][]api.Elem{lo(0)}, [][]api.Elem{{tower.Bit(127), tower.Bit(127)}}) {
				refused(t, level, l, tables, api.ErrArg)
			}
		}
		noBind(t, level, [][]api.Elem{lo(0, 0)}, api.Elem{}, api.ErrArg)
		noBind(t, level, [][]api.Elem{lo(0)}, tower.Bit(127), api.ErrArg)
		noBind(t, level, [][]api.Elem{nil, lo(0, 0)}, api.Elem{}, api.ErrArg)
	}
}

// 20.1: what is wrong with the expression comes ahead of what is wrong with the tables.
func TestWrongSteps(t *testing.T) {
	high := [][]api.Elem{{tower.Bit(127), tower.Bit(126)}, lo(0)}
	for level := range 8 {
		for _, tables := range append(wrongTables()[1:11], [][]api.Elem{lo(0, 1)}, [][]api.Elem{lo(0)}, high[:1], high) {
			refused(t, level, nil, tables, api.ErrForm)
			refused(t, level, []api.Op{}, tables, api.ErrForm)
			refused(t, level, long(201), tables, api.ErrLong)
			refused(t, level, []api.Op{{Kind: 9}}, tables, api.ErrForm)
			refused(t, level, []api.Op{{Kind: api.OpAdd}}, tables, api.ErrForm)
			refused(t, level, []api.Op{{Kind: api.OpConst, A: 1}}, tables, api.ErrForm)
			refused(t, level, steps(t, "x7"), tables, api.ErrNone)
			refused(t, level, []api.Op{{Kind: api.OpVar, A: len(tables)}}, tables, api.ErrNone)
			refused(t, level, []api.Op{{Kind: api.OpVar, A: -1}}, tables, api.ErrNone)
			if len(tables) > 0 {
				refused(t, level, power(9), tables, api.ErrRule)
				// A step that the last one does not use counts as well.
				refused(t, level, append(power(9), api.Op{Kind: api.OpConst}), tables, api.ErrRule)
			} else {
				refused(t, level, power(1), tables, api.ErrNone)
			}
			for _, e := range tooHigh(level) {
				refused(t, level, []api.Op{{Kind: api.OpConst, Val: e}}, tables, api.ErrField)
			}
		}
	}
}

// 20.1: no table, tables of unlike lengths, of lengths that are no power of 2, or above 2^12, ahead of elements that are not of the level.
func TestWrongTables(t *testing.T) {
	for level := range 8 {
		for _, tables := range wrongTables() {
			refused(t, level, steps(t, "c1"), tables, api.ErrSize)
			if len(tables) > 0 {
				refused(t, level, power(1), tables, api.ErrSize)
			}
		}
		for _, e := range tooHigh(level) {
			for _, tables := range wrongTables() {
				for _, table := range tables {
					for i := range min(len(table), 8) {
						table[i] = e
					}
				}
				refused(t, level, steps(t, "c1"), tables, api.ErrSize)
			}
		}
	}
}

// 20.1: each power of 2 up to 2^12 may be, the one element of no variable too.
func TestLengths(t *testing.T) {
	for level := range 8 {
		for n := range 13 {
			if e := sumcheck.Check(level, power(1), [][]api.Elem{make([]api.Elem, 1<<n), make([]api.Elem, 1<<n)}); e != api.OK {
				t.Errorf("level %d, %d variables: %v", level, n, e)
			}
		}
	}
}

// 20.1: a degree that does not fit the level: 1 in level 0, 3 in level 1, 8 from there on.
func TestDegrees(t *testing.T) {
	for level := range 8 {
		most := mostDegree(level)
		for d := 1; d <= 8; d++ {
			tables := [][]api.Elem{lo(1, 0)}
			if d <= most {
				if e := sumcheck.Check(level, power(d), tables); e != api.OK {
					t.Errorf("level %d, degree %d: %v", level, d, e)
				}
				continue
			}
			refused(t, level, power(d), tables, api.ErrSize)
			refused(t, level, power(d), [][]api.Elem{lo(1)}, api.ErrSize)
			refused(t, level, power(d), [][]api.Elem{{tower.Bit(127), tower.Bit(127)}}, api.ErrSize)
			// The degree is the last step's alone.
			if e := sumcheck.Check(level, append(power(d), api.Op{Kind: api.OpConst}), tables); e != api.OK {
				t.Errorf("level %d, a step of degree %d that is not used: %v", level, d, e)
			}
		}
	}
}

// 20.1: an element that is not of the level, wherever it stands, used or not.
func TestElements(t *testing.T) {
	for level := range 8 {
		for _, e := range tooHigh(level) {
			for k := range 3 {
				for i := range 4 {
					tables := [][]api.Elem{lo(0, 0, 0, 0), lo(1, 1, 1, 1), lo(0, 1, 0, 1)}
					tables[k][i] = e
					refused(t, level, power(1), tables, api.ErrField)
					refused(t, level, steps(t, "c1"), tables, api.ErrField)
				}
			}
			refused(t, level, power(1), [][]api.Elem{{e}}, api.ErrField)
		}
	}
}

// 20.2: tables with no variable have no round, but what Check tells comes first.
func TestRoundOfNoVariable(t *testing.T) {
	for level := range 8 {
		noRound(t, level, power(1), [][]api.Elem{lo(1)}, api.ErrArg)
		noRound(t, level, steps(t, "c1"), [][]api.Elem{lo(1), lo(0), lo(1)}, api.ErrArg)
		for _, e := range tooHigh(level) {
			noRound(t, level, power(1), [][]api.Elem{{e}}, api.ErrField)
		}
	}
}

// 20.2: too few and too many elements come ahead of those that are not of the level.
func TestProveElements(t *testing.T) {
	for level := range 8 {
		for n := range 5 {
			tables := [][]api.Elem{make([]api.Elem, 1<<n), make([]api.Elem, 1<<n)}
			for _, e := range append(tooHigh(level), api.Elem{}) {
				many := slices.Repeat([]api.Elem{e}, 40)
				for _, m := range []int{0, n - 1, n + 1, 1 << n, 12, 16, 40} {
					if m >= 0 && m != n {
						noProof(t, level, power(1), tables, many[:m], api.ErrArg)
					}
				}
			}
			for _, e := range tooHigh(level) {
				for i := range n {
					noProof(t, level, power(1), tables, put(make([]api.Elem, n), i, e), api.ErrField)
				}
			}
		}
	}
}

// 20.2: the error is that of the first table that has one.
func TestBindErrors(t *testing.T) {
	for level := range 8 {
		right := lo(0, 1, 0, 1)
		sizes := [][]api.Elem{nil, {}, lo(0), lo(0, 0, 0), make([]api.Elem, 1<<17)}
		for _, wrong := range sizes {
			noBind(t, level, [][]api.Elem{wrong}, api.Elem{}, api.ErrSize)
			noBind(t, level, [][]api.Elem{right, wrong}, api.Elem{}, api.ErrSize)
			noBind(t, level, [][]api.Elem{right, right, wrong, right}, tower.One(), api.ErrSize)
		}
		for _, e := range tooHigh(level) {
			noBind(t, level, [][]api.Elem{right}, e, api.ErrField)
			for i := range right {
				high := put(right, i, e)
				noBind(t, level, [][]api.Elem{high}, api.Elem{}, api.ErrField)
				noBind(t, level, [][]api.Elem{right, high}, api.Elem{}, api.ErrField)
				for _, wrong := range sizes {
					noBind(t, level, [][]api.Elem{right, high, wrong}, api.Elem{}, api.ErrField)
					noBind(t, level, [][]api.Elem{right, wrong, high}, api.Elem{}, api.ErrSize)
					noBind(t, level, [][]api.Elem{wrong, right}, e, api.ErrSize)
					// What r is, is told of the first table of all.
					noBind(t, level, [][]api.Elem{right, wrong}, e, api.ErrField)
				}
			}
			noBind(t, level, [][]api.Elem{{e}}, e, api.ErrSize)
		}
	}
}

// R3: what is handed in is as it was, also behind its end, and shares nothing with what is answered.
func TestNothingIsChanged(t *testing.T) {
	rnd := rand.New(rand.NewPCG(20, 7))
	for level := range 8 {
		for n := range 4 {
			size := 1 << n
			room := drawn(rnd, level, 4*size+8)
			before := slices.Clone(room)
			tables, r := [][]api.Elem{room[:size], room[size : 2*size], room[2*size : 3*size]}, room[3*size:3*size+n]
			l := drawnSteps(rnd, level, 3, mostDegree(level))
			kept := slices.Clone(l)
			sum := total(t, level, l, tables)
			p := proved(t, level, l, tables, r)
			answers := append(copied(nil), p.Rounds...)
			answers = append(answers, p.Ends)
			verified(t, level, mostDegree(level), sum, p.Rounds, r)
			if n > 0 {
				answers = append(answers, round(t, level, l, tables))
				answers = append(answers, bound(t, level, tables, api.Elem{})...)
				answers = append(answers, bound(t, level, tables, r[0])...)
			}
			if !slices.Equal(room, before) || !slices.Equal(l, kept) || len(tables) != 3 {
				t.Errorf("level %d, %d variables: what was handed in has changed", level, n)
			}
			apart(t, answers)
			if !slices.Equal(room, before) {
				t.Errorf("level %d, %d variables: an answer shares memory with what was handed in", level, n)
			}
		}
	}
}

// apart asks for answers that share no memory, and overwrites them, what is behind their ends too.
func apart(t *testing.T, answers [][]api.Elem) {
	t.Helper()
	kept := copied(answers)
	for i := range answers {
		if !slices.Equal(answers[i], kept[i]) {
			t.Errorf("the answer %d shares memory with another one", i)
		}
		all := answers[i][:cap(answers[i])]
		for j := range all {
			all[j] = tower.Add(all[j], tower.Bit(127))
		}
	}
}

// R3: rounds and elements of a proof that is verified are as they were.
func TestVerifyChangesNothing(t *testing.T) {
	rnd := rand.New(rand.NewPCG(20, 8))
	l, tables, r := steps(t, "x0 x1 *0,1"), drawnTables(rnd, 7, 2, 5), drawn(rnd, 7, 5)
	sum := total(t, 7, l, tables)
	p := proved(t, 7, l, tables, r)
	rounds, elements := copied(p.Rounds), slices.Clone(r)
	first := verified(t, 7, 2, sum, p.Rounds, r)
	if second := verified(t, 7, 2, sum, p.Rounds, r); second != first {
		t.Errorf("another claim: %v, %v", first, second)
	}
	if !same(p.Rounds, rounds) || !slices.Equal(r, elements) {
		t.Error("what was handed in has changed")
	}
}
