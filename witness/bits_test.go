package witness_test

import (
	"math"
	"math/rand/v2"
	"slices"
	"testing"

	"steeple/api"
	"steeple/circuit"
	"steeple/turn"
	"steeple/witness"
)

// 27.2: the bits of columns stand where the document says, and lead back.
func TestBitsAndWords(t *testing.T) {
	rnd := rand.New(rand.NewPCG(27, 6))
	for wide := range 6 {
		for rows := range 5 {
			for cols := range 7 {
				s := api.System{Wide: wide, Rows: rows, Cols: cols}
				all := words(rnd, s, 1<<cols)
				before := copied(all)
				b, e := witness.Bits(s, all)
				if e != api.OK || len(b) != 1<<(wide+rows+cols) || !same(all, before) {
					t.Fatalf("Bits of %v: %d, %v", s, len(b), e)
				}
				for k := range all {
					for x := range all[k] {
						for y := range 1 << wide {
							if b[y+1<<wide*(x+1<<rows*k)] != (all[k][x]>>y&1 == 1) {
								t.Fatalf("%v: the bit %d of the word %d of the column %d", s, y, x, k)
							}
						}
					}
				}
				was := slices.Clone(b)
				back, e := witness.Words(s, b)
				if e != api.OK || !same(back, all) || !slices.Equal(b, was) {
					t.Fatalf("Words of %v: %v", s, e)
				}
				for _, other := range [][]bool{nil, b[1:], b[:len(b)/2], append(slices.Clone(b), false), append(slices.Clone(b), b...)} {
					if l, e := witness.Words(s, other); e != api.ErrSize || len(l) != 0 {
						t.Fatalf("Words of %v and %d bits: %v", s, len(other), e)
					}
				}
			}
		}
	}
}

// 27.2: bits drawn, to columns and back; each bit alone.
func TestThereAndBack(t *testing.T) {
	rnd := rand.New(rand.NewPCG(27, 7))
	s := api.System{Wide: 2, Rows: 1, Cols: 2, Public: 1}
	for range 200 {
		b := make([]bool, 32)
		for i := range b {
			b[i] = rnd.IntN(2) == 1
		}
		w, e := witness.Words(s, b)
		if e != api.OK {
			t.Fatal(e)
		}
		if got, e := witness.Bits(s, w); e != api.OK || !slices.Equal(got, b) {
			t.Fatalf("%v: %v, %v", b, got, e)
		}
	}
	for i := range 32 {
		b := make([]bool, 32)
		b[i] = true
		want := noughts(s)
		want[i/8][i/4%2] = 1 << (i % 4)
		if w, e := witness.Words(s, b); e != api.OK || !same(w, want) {
			t.Errorf("the bit %d: %v, %v", i, w, e)
		}
	}
}

// 27.2: Words of systems that may not be; of no bits, where there is always one.
func TestWordsErrors(t *testing.T) {
	for want, s := range spoilt() {
		for _, n := range []int{0, 1, 2, 4} {
			if w, e := witness.Words(s, make([]bool, n)); e != want || len(w) != 0 {
				t.Errorf("Words(%v): %v, %v", s, w, e)
			}
		}
	}
	if w, e := witness.Words(api.System{}, nil); e != api.ErrSize || len(w) != 0 {
		t.Errorf("Words of no bits: %v, %v", w, e)
	}
	if w, e := witness.Words(api.System{}, []bool{true}); e != api.OK || !same(w, [][]uint64{{1}}) {
		t.Errorf("Words of one bit: %v, %v", w, e)
	}
}

// 27.3: wires not turned and turned, each column, each turn.
func TestWire(t *testing.T) {
	rnd := rand.New(rand.NewPCG(27, 8))
	for wide := range 6 {
		s := api.System{Wide: wide, Rows: 2, Cols: 2, Public: 1, Private: 1}
		all := words(rnd, s, 4)
		n := 1 << wide
		for col := range 4 {
			for kind := turn.Same; kind <= turn.Round; kind++ {
				for by := range n {
					if kind == turn.Same && by > 0 {
						break
					}
					want := make([]bool, 4*n)
					for x := range 4 {
						for y := range n {
							from := map[int]int{turn.Same: y, turn.Left: y - by, turn.Right: y + by, turn.Round: (y - by + n) % n}[kind]
							want[y+n*x] = bit(all[col][x], from, n) == 1
						}
					}
					before := copied(all)
					got, e := witness.Wire(s, all, api.Claim{Col: col, Kind: kind, S: by})
					if e != api.OK || !slices.Equal(got, want) || !same(all, before) {
						t.Fatalf("Wire(%v, %d, %d, %d): %v, %v", s, col, kind, by, got, e)
					}
				}
			}
		}
	}
}

// 27.3: columns that are none, ahead of turns that are none; of a Val nothing is asked.
func TestWireErrors(t *testing.T) {
	for wide := range 6 {
		for cols := range 7 {
			s := api.System{Wide: wide, Cols: cols, Public: 1}
			all := noughts(s)
			asks := func(w api.Claim, want api.Errno) {
				t.Helper()
				l, e := witness.Wire(s, all, w)
				if e != want || want != api.OK && len(l) != 0 || want == api.OK && len(l) != 1<<wide {
					t.Errorf("Wire(%v, %v): %v, %v, not %v", s, w, l, e, want)
				}
			}
			for _, col := range []int{1 << cols, 1<<cols + 1, 64, -1, math.MinInt, math.MaxInt} {
				asks(api.Claim{Col: col}, api.ErrNone)
				asks(api.Claim{Col: col, Kind: 4}, api.ErrNone)
				asks(api.Claim{Col: col, Kind: turn.Left, S: 1 << wide}, api.ErrNone)
			}
			for _, col := range []int{0, 1<<cols - 1} {
				asks(api.Claim{Col: col}, api.OK)
				asks(api.Claim{Col: col, Val: api.Elem{Hi: 1, Lo: 2}}, api.OK)
				asks(api.Claim{Col: col, Kind: turn.Same, S: 1}, api.ErrArg)
				for _, kind := range []int{-1, 4, 5, 8, math.MinInt, math.MaxInt} {
					asks(api.Claim{Col: col, Kind: kind}, api.ErrArg)
				}
				for kind := turn.Left; kind <= turn.Round; kind++ {
					asks(api.Claim{Col: col, Kind: kind, S: 1<<wide - 1}, api.OK)
					for _, by := range []int{1 << wide, 64, -1, math.MinInt, math.MaxInt} {
						asks(api.Claim{Col: col, Kind: kind, S: by}, api.ErrArg)
					}
				}
			}
		}
	}
}

// 27.3: tables are the bits of the wires, in their order, as 0 and 1.
func TestTables(t *testing.T) {
	rnd := rand.New(rand.NewPCG(27, 9))
	for range 200 {
		s := drawn(rnd, rnd.IntN(6), rnd.IntN(5), 1+rnd.IntN(6), rnd.IntN(15))
		all := words(rnd, s, 1<<s.Cols)
		before := copied(all)
		tables, e := witness.Tables(s, all)
		wires, _ := circuit.Wires(s)
		if e != api.OK || len(tables) != len(wires) || !same(all, before) {
			t.Fatalf("Tables(%v): %d, %v", s, len(tables), e)
		}
		for i, w := range wires {
			bits, _ := witness.Wire(s, all, w)
			want := make([]api.Elem, 1<<(s.Wide+s.Rows))
			for k, b := range bits {
				if b {
					want[k] = api.Elem{Lo: 1}
				}
			}
			if !slices.Equal(tables[i], want) {
				t.Fatalf("the table %d of %v", i, s)
			}
		}
	}
	if l, e := witness.Tables(api.System{}, [][]uint64{{1}}); e != api.OK || len(l) != 0 {
		t.Errorf("Tables without gates: %v, %v", l, e)
	}
}

// 27.3: one condition more than there may be: Tables says so, behind the errors of Holds; the others do not mind.
func TestTablesOfTooManyConditions(t *testing.T) {
	s := api.System{Cols: 6, Private: 1}
	for n := range 21 {
		s.Gates = append(s.Gates, gate(api.GateAdd, 2*n+1, 2*n, 0, 0))
	}
	all, e := witness.Run(s, [][]uint64{{1}})
	if e != api.OK || !holds(t, s, all) {
		t.Fatalf("Run: %v", e)
	}
	if l, e := witness.Tables(s, all); e != api.ErrLong || len(l) != 0 {
		t.Errorf("Tables: %v, %v", l, e)
	}
	if b, e := witness.Bits(s, all); e != api.OK || len(b) != 64 {
		t.Errorf("Bits: %v, %v", b, e)
	}
	refuses(t, s, all[1:], api.ErrSize)
	refuses(t, s, put(all, 63, 0, 2), api.ErrField)
	s.Gates = s.Gates[:20]
	all, _ = witness.Run(s, [][]uint64{{1}})
	if l, e := witness.Tables(s, all); e != api.OK || len(l) != 41 {
		t.Errorf("Tables: %d, %v", len(l), e)
	}
}

// R3: no two tables stand in one piece of memory, nor do two calls' answers.
func TestTablesAreTheirOwn(t *testing.T) {
	s := api.System{Wide: 1, Cols: 2, Private: 2, Gates: []api.Gate{gate(api.GateAnd, 2, 0, 1, 0)}}
	all := [][]uint64{{3}, {3}, {3}, {0}}
	tables, _ := witness.Tables(s, all)
	again, _ := witness.Tables(s, all)
	full := []api.Elem{{Lo: 1}, {Lo: 1}}
	for i := range tables {
		_ = append(tables[i], api.Elem{Lo: 9}, api.Elem{Lo: 9})
		clear(tables[i])
		for _, l := range append(tables[i+1:], again...) {
			if !slices.Equal(l, full) {
				t.Errorf("the table %d shares memory", i)
			}
		}
	}
	a, _ := witness.Wire(s, all, api.Claim{Col: 1})
	b, _ := witness.Wire(s, all, api.Claim{Col: 1})
	c, _ := witness.Bits(s, all)
	d, _ := witness.Bits(s, all)
	clear(a)
	clear(c)
	if !b[0] || !d[0] || !same(all, [][]uint64{{3}, {3}, {3}, {0}}) {
		t.Error("bits share memory")
	}
}
