package witness_test

import (
	"math"
	"math/rand/v2"
	"testing"

	"steeple/api"
	"steeple/circuit"
	"steeple/witness"
	"steeple/zero"
)

// holds asks whether columns hold.
func holds(t *testing.T, s api.System, all [][]uint64) bool {
	t.Helper()
	before := copied(all)
	ok, e := witness.Holds(s, all)
	if e != api.OK || !same(all, before) {
		t.Fatalf("Holds(%v, %v): %v", s, before, e)
	}
	return ok
}

// 27.2: each kind of gate, with one bit of one word of one row turned: of what it makes, of what it is made of.
func TestEachBit(t *testing.T) {
	rnd := rand.New(rand.NewPCG(27, 2))
	for wide := range 6 {
		for _, kind := range kinds {
			s := api.System{Wide: wide, Rows: 2, Cols: 3, Public: 1, Private: 2, Gates: []api.Gate{gate(kind, 3, 0, 1, rnd.IntN(1<<wide))}}
			given := words(rnd, s, 3)
			if kind == api.GateSame {
				copy(given[1], given[0])
			}
			all, e := witness.Run(s, given)
			if e != api.OK || !holds(t, s, all) {
				t.Fatalf("%v: %v", s, e)
			}
			for k := range all {
				for x := range all[k] {
					for i := range 1 << wide {
						other := put(all, k, x, all[k][x]^1<<i)
						want := true
						for n, to := range makes(s.Gates[0]) {
							want = want && other[to][x] == wanted(s.Gates[0], 1<<wide, other[0][x], other[1][x])[n]
						}
						if kind == api.GateSame {
							want = other[0][x] == other[1][x]
						}
						if holds(t, s, other) != want {
							t.Errorf("%v, the bit %d of the word %d of the column %d: not %v", s, i, x, k, want)
						}
					}
				}
			}
		}
	}
}

// 27.2, 27.4: in drawn systems, with one bit of a column that a gate makes turned, columns do not hold; of a column that no gate makes and none needs they do.
func TestOneBitOfASystem(t *testing.T) {
	rnd := rand.New(rand.NewPCG(27, 3))
	for range 60 {
		s := drawn(rnd, rnd.IntN(6), rnd.IntN(3), 2+rnd.IntN(3), 1+rnd.IntN(12))
		all, e := witness.Run(s, words(rnd, s, s.Public+s.Private))
		if e != api.OK {
			t.Fatal(e)
		}
		for k := s.Public + s.Private; k < len(all); k++ {
			for x := range all[k] {
				for i := range 1 << s.Wide {
					if holds(t, s, put(all, k, x, all[k][x]^1<<i)) != (k >= circuit.Used(s)) {
						t.Fatalf("%v, the bit %d of the word %d of the column %d", s, i, x, k)
					}
				}
			}
		}
	}
}

// 27.2: no gates hold whatever the columns are; each of several gates is asked.
func TestNoGatesAndSeveral(t *testing.T) {
	if !holds(t, api.System{Wide: 1, Cols: 1}, [][]uint64{{3}, {1}}) {
		t.Error("no gates")
	}
	s := api.System{Wide: 2, Cols: 3, Private: 2, Gates: []api.Gate{
		gate(api.GateXor, 2, 0, 1, 0), gate(api.GateSame, 0, 0, 1, 0), gate(api.GateNot, 3, 2, 0, 0), gate(api.GateAdd, 4, 3, 0, 0), gate(api.GateSame, 0, 4, 5, 0),
	}}
	right := [][]uint64{{0}, {0}, {0}, {15}, {15}, {0}, {9}, {1}}
	for i, l := range []struct {
		all  [][]uint64
		want bool
	}{
		{[][]uint64{{1}, {1}, {0}, {15}, {0}, {15}, {9}, {1}}, false},
		{[][]uint64{{5}, {4}, {1}, {14}, {3}, {12}, {0}, {0}}, false},
		{right, false},
		{[][]uint64{{0}, {0}, {0}, {15}, {15}, {15}, {0}, {0}}, false},
	} {
		if holds(t, s, l.all) != l.want {
			t.Errorf("the columns %d", i)
		}
	}
	s.Gates = s.Gates[:4]
	if !holds(t, s, right) || holds(t, s, put(right, 2, 0, 1)) || holds(t, s, put(right, 1, 0, 1)) || holds(t, s, put(right, 3, 0, 14)) || holds(t, s, put(right, 5, 0, 1)) || holds(t, s, put(right, 4, 0, 7)) {
		t.Error("one of several gates")
	}
}

// refuses asks whether all calls that are handed all columns answer an error alone.
func refuses(t *testing.T, s api.System, all [][]uint64, want api.Errno) {
	t.Helper()
	h, a := witness.Holds(s, all)
	b, c := witness.Bits(s, all)
	w, d := witness.Wire(s, all, api.Claim{})
	_, e := witness.Wire(s, all, api.Claim{Col: -1, Kind: 9})
	u, f := witness.Tables(s, all)
	if h || len(b) != 0 || len(w) != 0 || len(u) != 0 {
		t.Errorf("%v, %v: answers beside an error", s, all)
	}
	for i, got := range []api.Errno{a, c, d, e, f} {
		if got != want {
			t.Errorf("%v, %v, call %d: %v, not %v", s, all, i, got, want)
		}
	}
}

// 27.2, 27.3: the errors of Holds, which those of Bits, Wire and Tables begin with.
func TestErrors(t *testing.T) {
	for want, s := range spoilt() {
		for _, all := range [][][]uint64{nil, {{0}, {0}}, {{2}, {3}}, {{}, nil}, {{1}}} {
			refuses(t, s, all, want)
		}
	}
	for _, s := range []api.System{{Public: -1}, {Private: math.MaxInt}, {Rows: 64}, {Cols: 64}} {
		refuses(t, s, nil, api.ErrArg)
	}
	for wide := range 6 {
		great := uint64(1) << (1 << wide)
		s := api.System{Wide: wide, Rows: 1, Cols: 2, Public: 1, Private: 1, Gates: []api.Gate{gate(api.GateSame, 0, 0, 1, 0)}}
		right := [][]uint64{{0, great - 1}, {0, great - 1}, {0, 0}, {great - 1, 0}}
		if !holds(t, s, right) {
			t.Error("the greatest words")
		}
		for k := range 4 {
			few, none, many := copied(right), copied(right), copied(right)
			few[k], none[k] = few[k][:1], nil
			refuses(t, s, few, api.ErrSize)
			refuses(t, s, none, api.ErrSize)
			many[k] = append(many[k], 0)
			refuses(t, s, many, api.ErrSize)
			refuses(t, s, right[:k], api.ErrSize)
			for x := range 2 {
				for _, word := range []uint64{great, great + 1, 1 << 32, 1 << 63, math.MaxUint64} {
					refuses(t, s, put(right, k, x, word), api.ErrField)
					// Sizes are told first, wherever they are wrong.
					refuses(t, s, put(right, k, x, word)[:3], api.ErrSize)
					refuses(t, s, put(few, (k+1)%4, x, word), api.ErrSize)
					refuses(t, s, put(few, k, 0, word), api.ErrSize)
					refuses(t, s, put(many, k, x, word), api.ErrSize)
				}
			}
		}
		refuses(t, s, append(copied(right), []uint64{0, 0}), api.ErrSize)
	}
}

// each yields each list of words of a system in some of its columns, the others being as they are.
func each(s api.System, all [][]uint64, cols []int, yield func(all [][]uint64)) {
	n := 1 << (s.Wide + s.Rows)
	for number := range uint64(1) << (n * len(cols)) {
		other := copied(all)
		for i, k := range cols {
			for x := range other[k] {
				other[k][x] = number >> (n*i + x<<s.Wide) & (1<<(1<<s.Wide) - 1)
			}
		}
		yield(other)
	}
}

// upTo are the numbers below n, from least on.
func upTo(least, n int) []int {
	var l []int
	for k := least; k < n; k++ {
		l = append(l, k)
	}
	return l
}

// zeros tells whether the conditions of a system are zero at all corners of the wires' tables.
func zeros(t *testing.T, s api.System, all [][]uint64) bool {
	t.Helper()
	conds, e := circuit.Conds(s)
	if e != api.OK {
		t.Fatal(e)
	}
	tables, e := witness.Tables(s, all)
	if e != api.OK {
		t.Fatal(e)
	}
	// The conditions are of degree 2, which fits from the level 1 on.
	ok, e := zero.Holds(1, conds, tables)
	if e != api.OK {
		t.Fatal(e)
	}
	return ok
}

// 27.4: of all columns of small systems those hold whose conditions are zero at all corners, and those alone.
func TestConditionsAreGates(t *testing.T) {
	for _, x := range []struct{ wide, rows int }{{0, 0}, {1, 0}, {0, 1}, {1, 1}} {
		for _, kind := range kinds {
			for a := range 2 {
				for by := range 1 << x.wide {
					s := api.System{Wide: x.wide, Rows: x.rows, Cols: 2, Public: 1, Private: 1, Gates: []api.Gate{gate(kind, 2, a, 1, by)}}
					if g := s.Gates[0]; by > 0 && g == gate(kind, 2, a, 1, 0) {
						break
					}
					yes := 0
					each(s, noughts(s), upTo(0, circuit.Used(s)), func(all [][]uint64) {
						ok := holds(t, s, all)
						if ok {
							yes++
						}
						if ok != zeros(t, s, all) {
							t.Fatalf("%v, %v: %v", s, all, ok)
						}
					})
					// As many as there are given columns.
					n := 1 << (x.wide + x.rows)
					want := 1 << (n * 2)
					if kind == api.GateSame && a == 0 {
						want = 1 << n
					}
					if yes != want {
						t.Errorf("%v: %d hold, not %d", s, yes, want)
					}
				}
			}
		}
	}
}

// noughts are the columns of a system, 0 in all words.
func noughts(s api.System) [][]uint64 {
	all := make([][]uint64, 1<<s.Cols)
	for k := range all {
		all[k] = make([]uint64, 1<<s.Rows)
	}
	return all
}

// 27.4: what is run holds, and of all that has the same given columns nothing else does, but for columns that no gate makes; it has no error just if something holds.
func TestNothingElseHolds(t *testing.T) {
	rnd := rand.New(rand.NewPCG(27, 4))
	rules := 0
	for range 150 {
		wide := rnd.IntN(3)
		s := api.System{Wide: wide, Rows: rnd.IntN(2) & (1 - wide>>1), Cols: 3, Public: 1, Private: 1}
		there := 2
		room := 12 >> (wide + s.Rows)
		for range 6 {
			g := gate(kinds[rnd.IntN(len(kinds))], there, rnd.IntN(there), rnd.IntN(there), rnd.IntN(1<<wide))
			if there-2+len(makes(g)) > min(room, 6) {
				continue
			}
			s.Gates = append(s.Gates, g)
			there += len(makes(g))
		}
		given := words(rnd, s, 2)
		if rnd.IntN(2) == 0 {
			given[1] = given[0]
		}
		want, ok := modelled(s, given)
		start := noughts(s)
		copy(start, copied(given))
		run, e := witness.Run(s, given)
		if !ok {
			rules++
			if e != api.ErrRule {
				t.Fatalf("%v, %v: %v", s, given, e)
			}
		} else if e != api.OK || !same(run, want) {
			t.Fatalf("%v, %v: %v, %v", s, given, run, e)
		}
		each(s, start, upTo(2, there), func(all [][]uint64) {
			if holds(t, s, all) != (ok && same(all, want)) {
				t.Fatalf("%v, %v, where %v is run", s, all, want)
			}
		})
		if ok && there < 8 {
			each(s, want, []int{7}, func(all [][]uint64) {
				if !holds(t, s, all) {
					t.Fatalf("%v, %v", s, all)
				}
			})
		}
	}
	if rules < 10 || rules > 100 {
		t.Errorf("of 150 systems %d do not hold", rules)
	}
}

// 27.4: drawn systems of all widths: conditions are zero for what is run, and as long as all gates hold.
func TestConditionsOfDrawnSystems(t *testing.T) {
	rnd := rand.New(rand.NewPCG(27, 5))
	for range 150 {
		s := drawn(rnd, rnd.IntN(6), rnd.IntN(3), 2+rnd.IntN(4), 1+rnd.IntN(10))
		all, e := witness.Run(s, words(rnd, s, s.Public+s.Private))
		if e != api.OK || !zeros(t, s, all) {
			t.Fatalf("%v: %v", s, e)
		}
		for range 10 {
			k, x, i := rnd.IntN(len(all)), rnd.IntN(1<<s.Rows), rnd.IntN(1<<s.Wide)
			other := put(all, k, x, all[k][x]^1<<i)
			if holds(t, s, other) != zeros(t, s, other) {
				t.Fatalf("%v, the bit %d of the word %d of the column %d", s, i, x, k)
			}
		}
	}
}
