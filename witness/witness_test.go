package witness_test

import (
	"math"
	"math/rand/v2"
	"slices"
	"testing"

	"steeple/api"
	"steeple/circuit"
	"steeple/witness"
)

// kinds are all kinds of gates.
var kinds = []int{api.GateXor, api.GateAnd, api.GateNot, api.GateLeft, api.GateRight, api.GateRound, api.GateAdd, api.GateSame}

// copied is columns of their own.
func copied(l [][]uint64) [][]uint64 {
	out := make([][]uint64, len(l))
	for k, col := range l {
		out[k] = slices.Clone(col)
	}
	return out
}

// same tells whether columns are the same.
func same(a, b [][]uint64) bool {
	return slices.EqualFunc(a, b, slices.Equal[[]uint64])
}

// put is columns with another word at a place.
func put(l [][]uint64, k, x int, word uint64) [][]uint64 {
	out := copied(l)
	out[k][x] = word
	return out
}

// gate is a gate of a kind that may be the next one, where so many columns are there.
func gate(kind, there, a, b, s int) api.Gate {
	switch kind {
	case api.GateXor, api.GateAnd:
		return api.Gate{Kind: kind, Dst: there, A: a, B: b}
	case api.GateNot:
		return api.Gate{Kind: kind, Dst: there, A: a}
	case api.GateAdd:
		return api.Gate{Kind: kind, Dst: there, A: a, B: b, S: there + 1}
	case api.GateSame:
		return api.Gate{Kind: kind, A: a, B: b}
	}
	return api.Gate{Kind: kind, Dst: there, A: a, S: s}
}

// makes are the columns that a gate makes.
func makes(g api.Gate) []int {
	switch g.Kind {
	case api.GateAdd:
		return []int{g.Dst, g.S}
	case api.GateSame:
		return nil
	}
	return []int{g.Dst}
}

// drawn is a system that may be, of some gates; each column that GateSame holds against another is that one itself, or one that is made alike.
func drawn(rnd *rand.Rand, wide, rows, cols, many int) api.System {
	s := api.System{Wide: wide, Rows: rows, Cols: cols, Private: 1}
	if cols > 0 {
		s.Public, s.Private = rnd.IntN(2), 1+rnd.IntN(1<<cols/2)
	}
	there := s.Public + s.Private
	for range many {
		g := gate(kinds[rnd.IntN(len(kinds))], there, rnd.IntN(there), rnd.IntN(there), rnd.IntN(1<<wide))
		if there+len(makes(g)) > 1<<cols {
			g = gate(api.GateSame, 0, rnd.IntN(there), 0, 0)
		}
		if g.Kind == api.GateSame {
			g.B = g.A
		}
		s.Gates = append(s.Gates, g)
		there += len(makes(g))
	}
	return s
}

// words are n columns of a system, drawn.
func words(rnd *rand.Rand, s api.System, n int) [][]uint64 {
	l := make([][]uint64, n)
	for k := range l {
		l[k] = make([]uint64, 1<<s.Rows)
		for x := range l[k] {
			l[k][x] = rnd.Uint64() & (1<<(1<<s.Wide) - 1)
		}
	}
	return l
}

// bit is a bit of a word, 0 where there is none.
func bit(word uint64, i, n int) uint64 {
	if i < 0 || i >= n {
		return 0
	}
	return word >> i & 1
}

// wanted are the words that a gate makes of two words of n bits, told bit by bit.
func wanted(g api.Gate, n int, a, b uint64) []uint64 {
	var d, k uint64
	for i := range n {
		x, y := bit(a, i, n), bit(b, i, n)
		switch g.Kind {
		case api.GateXor:
			x ^= y
		case api.GateAnd:
			x &= y
		case api.GateNot:
			x = 1 - x
		case api.GateLeft:
			x = bit(a, i-g.S, n)
		case api.GateRight:
			x = bit(a, i+g.S, n)
		case api.GateRound:
			x = bit(a, ((i-g.S)%n+n)%n, n)
		case api.GateAdd:
			// The bits 0 to i alone.
			below := uint64(1) << (i + 1)
			sum := a%below + b%below
			if sum >= below {
				k |= 1 << i
			}
			x = sum >> i & 1
		}
		d |= x << i
	}
	if g.Kind == api.GateAdd {
		return []uint64{d, k}
	}
	return []uint64{d}
}

// modelled are all columns of a system; false, if a GateSame does not hold.
func modelled(s api.System, given [][]uint64) ([][]uint64, bool) {
	all := make([][]uint64, 1<<s.Cols)
	for k := range all {
		all[k] = make([]uint64, 1<<s.Rows)
		if k < len(given) {
			copy(all[k], given[k])
		}
	}
	for _, g := range s.Gates {
		for x := range 1 << s.Rows {
			if g.Kind == api.GateSame && all[g.A][x] != all[g.B][x] {
				return nil, false
			}
			for i, to := range makes(g) {
				all[to][x] = wanted(g, 1<<s.Wide, all[g.A][x], all[g.B][x])[i]
			}
		}
	}
	return all, true
}

// runs asks what is run.
func runs(t *testing.T, s api.System, given, want [][]uint64) {
	t.Helper()
	gates, before := slices.Clone(s.Gates), copied(given)
	all, e := witness.Run(s, given)
	if e != api.OK || !same(all, want) {
		t.Fatalf("Run(%v, %v): %v, %v, not %v", s, given, all, e, want)
	}
	if !same(given, before) || !slices.Equal(s.Gates, gates) {
		t.Fatalf("Run has changed what was handed in")
	}
	if ok, e := witness.Holds(s, all); e != api.OK || !ok {
		t.Fatalf("what is run of %v: %v, %v", s, ok, e)
	}
}

// stops asks whether Run answers an error alone.
func stops(t *testing.T, s api.System, given [][]uint64, want api.Errno) {
	t.Helper()
	if all, e := witness.Run(s, given); e != want || len(all) != 0 {
		t.Errorf("Run(%v, %v): %v, %v, not %v", s, given, all, e, want)
	}
}

// 27.1: the document's example, and values worked out by hand, of each kind of gate.
func TestEachKind(t *testing.T) {
	with := func(wide int, g api.Gate) api.System {
		return api.System{Wide: wide, Cols: 2, Public: 1, Private: 1, Gates: []api.Gate{g}}
	}
	for _, x := range []struct {
		wide int
		g    api.Gate
		a, b uint64
		want []uint64
	}{
		{2, gate(api.GateAdd, 2, 0, 1, 0), 9, 8, []uint64{1, 8}},
		{2, gate(api.GateAdd, 2, 0, 1, 0), 15, 1, []uint64{0, 15}},
		{2, gate(api.GateAdd, 2, 0, 1, 0), 15, 15, []uint64{14, 15}},
		{2, gate(api.GateAdd, 2, 0, 1, 0), 5, 10, []uint64{15, 0}},
		{2, gate(api.GateAdd, 2, 0, 0, 0), 6, 0, []uint64{12, 6}},
		{0, gate(api.GateAdd, 2, 0, 1, 0), 1, 1, []uint64{0, 1}},
		{0, gate(api.GateAdd, 2, 0, 1, 0), 1, 0, []uint64{1, 0}},
		{5, gate(api.GateAdd, 2, 0, 1, 0), 0xffffffff, 1, []uint64{0, 0xffffffff}},
		{5, gate(api.GateAdd, 2, 0, 1, 0), 0xffffffff, 0xffffffff, []uint64{0xfffffffe, 0xffffffff}},
		{5, gate(api.GateAdd, 2, 0, 1, 0), 0x80000000, 0x80000000, []uint64{0, 0x80000000}},
		{5, gate(api.GateAdd, 2, 0, 1, 0), 4000000000, 1000000000, []uint64{705032704, 4000000000&1000000000 | (4000000000|1000000000)&^705032704}},
		{3, gate(api.GateXor, 2, 0, 1, 0), 0b11001010, 0b10101100, []uint64{0b01100110, 0}},
		{3, gate(api.GateAnd, 2, 0, 1, 0), 0b11001010, 0b10101100, []uint64{0b10001000, 0}},
		{3, gate(api.GateNot, 2, 0, 0, 0), 0b11001010, 0, []uint64{0b00110101, 0}},
		{0, gate(api.GateNot, 2, 0, 0, 0), 0, 0, []uint64{1, 0}},
		{5, gate(api.GateNot, 2, 1, 0, 0), 1, 0, []uint64{0xffffffff, 0}},
		{3, gate(api.GateLeft, 2, 0, 0, 3), 0b11001010, 0, []uint64{0b01010000, 0}},
		{3, gate(api.GateRight, 2, 0, 0, 3), 0b11001010, 0, []uint64{0b00011001, 0}},
		{3, gate(api.GateRound, 2, 0, 0, 3), 0b11001010, 0, []uint64{0b01010110, 0}},
		{5, gate(api.GateLeft, 2, 0, 0, 31), 3, 0, []uint64{0x80000000, 0}},
		{5, gate(api.GateRight, 2, 0, 0, 31), 0xc0000000, 0, []uint64{1, 0}},
		{5, gate(api.GateRound, 2, 0, 0, 31), 3, 0, []uint64{0x80000001, 0}},
		{3, gate(api.GateLeft, 2, 0, 0, 0), 200, 0, []uint64{200, 0}},
		{3, gate(api.GateRight, 2, 0, 0, 0), 200, 0, []uint64{200, 0}},
		{3, gate(api.GateRound, 2, 0, 0, 0), 200, 0, []uint64{200, 0}},
		{3, gate(api.GateSame, 0, 0, 1, 0), 200, 200, []uint64{0, 0}},
	} {
		runs(t, with(x.wide, x.g), [][]uint64{{x.a}, {x.b}}, [][]uint64{{x.a}, {x.b}, {x.want[0]}, {x.want[1]}})
	}
}

// 27.1: sums that carry over at each bit, for how many bits it may be, of words of each width.
func TestCarries(t *testing.T) {
	for wide := range 6 {
		n := 1 << wide
		s := api.System{Wide: wide, Cols: 2, Private: 2, Gates: []api.Gate{gate(api.GateAdd, 2, 0, 1, 0)}}
		for from := range n {
			for to := from; to < n; to++ {
				// The bits from to to of a are 1, the bit from of b: there are carries at all of these.
				a, b := uint64(1)<<(to+1)-1<<from, uint64(1)<<from
				a &= 1<<n - 1
				sum, carry := a+b, a
				if sum >= 1<<n {
					sum -= 1 << n
				}
				for _, x := range [][2]uint64{{a, b}, {b, a}} {
					runs(t, s, [][]uint64{{x[0]}, {x[1]}}, [][]uint64{{x[0]}, {x[1]}, {sum}, {carry}})
				}
			}
		}
	}
	// All sums of small words.
	for wide := range 3 {
		s := api.System{Wide: wide, Cols: 2, Private: 2, Gates: []api.Gate{gate(api.GateAdd, 2, 0, 1, 0)}}
		for a := range uint64(1) << (1 << wide) {
			for b := range uint64(1) << (1 << wide) {
				given := [][]uint64{{a}, {b}}
				want, _ := modelled(s, given)
				runs(t, s, given, want)
			}
		}
	}
}

// 27.1: drawn systems of all widths, rows and columns, against gates told bit by bit.
func TestDrawnSystems(t *testing.T) {
	rnd := rand.New(rand.NewPCG(27, 1))
	for wide := range 6 {
		for rows := range 5 {
			for cols := range 7 {
				for range 4 {
					s := drawn(rnd, wide, rows, cols, rnd.IntN(31))
					given := words(rnd, s, s.Public+s.Private)
					want, ok := modelled(s, given)
					if !ok {
						t.Fatalf("%v does not hold", s)
					}
					runs(t, s, given, want)
				}
			}
		}
	}
}

// 27.1: columns that no gate makes are 0; all given, none given.
func TestColumnsThatNoGateMakes(t *testing.T) {
	runs(t, api.System{}, nil, [][]uint64{{0}})
	runs(t, api.System{}, [][]uint64{}, [][]uint64{{0}})
	runs(t, api.System{Rows: 1, Cols: 1}, nil, [][]uint64{{0, 0}, {0, 0}})
	runs(t, api.System{Wide: 2, Rows: 1, Cols: 1, Public: 1, Private: 1}, [][]uint64{{1, 2}, {3, 15}}, [][]uint64{{1, 2}, {3, 15}})
	runs(t, api.System{Wide: 2, Rows: 1, Cols: 2, Public: 1, Gates: []api.Gate{gate(api.GateNot, 1, 0, 0, 0)}}, [][]uint64{{1, 2}}, [][]uint64{{1, 2}, {14, 13}, {0, 0}, {0, 0}})
}

// 27.1: a GateSame that does not hold, in whichever row and bit; what holds ahead of it or behind.
func TestGateSame(t *testing.T) {
	s := api.System{Wide: 3, Rows: 2, Cols: 2, Public: 1, Private: 2, Gates: []api.Gate{
		gate(api.GateSame, 0, 0, 0, 0), gate(api.GateNot, 3, 0, 0, 0), gate(api.GateSame, 0, 1, 2, 0), gate(api.GateSame, 0, 2, 2, 0),
	}}
	given := [][]uint64{{1, 2, 3, 4}, {5, 6, 7, 255}, {5, 6, 7, 255}}
	runs(t, s, given, append(copied(given), []uint64{254, 253, 252, 251}))
	for x := range 4 {
		for i := range 8 {
			stops(t, s, put(given, 1, x, given[1][x]^1<<i), api.ErrRule)
			stops(t, s, put(given, 2, x, given[2][x]^1<<i), api.ErrRule)
			other := put(given, 0, x, given[0][x]^1<<i)
			want, _ := modelled(s, other)
			runs(t, s, other, want)
		}
	}
	// One that speaks of a column that is made.
	s.Gates = append(s.Gates[:2:2], gate(api.GateSame, 0, 3, 1, 0))
	runs(t, s, [][]uint64{{1, 2, 3, 4}, {254, 253, 252, 251}, {0, 0, 0, 0}}, [][]uint64{{1, 2, 3, 4}, {254, 253, 252, 251}, {0, 0, 0, 0}, {254, 253, 252, 251}})
	stops(t, s, given, api.ErrRule)
}

// spoilt are systems that may not be, and what is wrong with them.
func spoilt() map[api.Errno]api.System {
	return map[api.Errno]api.System{
		api.ErrArg:  {Wide: 6, Cols: 1, Private: 2},
		api.ErrLong: {Cols: 1, Private: 2, Gates: []api.Gate{gate(api.GateNot, 2, 0, 0, 0)}},
		api.ErrForm: {Cols: 1, Private: 2, Gates: []api.Gate{{Kind: 9}}},
		api.ErrNone: {Cols: 1, Private: 2, Gates: []api.Gate{gate(api.GateSame, 0, 0, 2, 0)}},
	}
}

// 27.1: the errors of Run: circuit's, too few and too many columns and words, words that are just too great; which comes first.
func TestRunErrors(t *testing.T) {
	for want, s := range spoilt() {
		if circuit.Check(s) != want {
			t.Fatalf("%v: %v", s, circuit.Check(s))
		}
		for _, given := range [][][]uint64{nil, {{0}, {0}}, {{2}, {3}}, {{1}, {0}}, {{}, nil}, {{1}}} {
			stops(t, s, given, want)
		}
	}
	for _, s := range []api.System{{Public: -1}, {Public: math.MaxInt, Private: math.MaxInt}, {Rows: 64}, {Cols: -1}} {
		stops(t, s, nil, api.ErrArg)
	}
	for wide := range 6 {
		great := uint64(1) << (1 << wide)
		s := api.System{Wide: wide, Rows: 1, Cols: 2, Public: 1, Private: 1, Gates: []api.Gate{gate(api.GateSame, 0, 0, 1, 0)}}
		right := [][]uint64{{great - 1, 0}, {great - 1, 0}}
		runs(t, s, right, append(copied(right), []uint64{0, 0}, []uint64{0, 0}))
		for _, given := range [][][]uint64{nil, {}, right[:1], append(copied(right), []uint64{0, 0}), {{0, 0}, {0}}, {{0}, {0, 0}}, {{0, 0}, {0, 0, 0}}, {{0, 0, 0, 0}, {0, 0}}, {nil, {0, 0}}, {{0, 0}, nil}, {nil, nil}} {
			stops(t, s, given, api.ErrSize)
		}
		for _, word := range []uint64{great, great + 1, 2 * great, 1 << 32, 1 << 63, math.MaxUint64} {
			for k := range 2 {
				for x := range 2 {
					// Told ahead of the GateSame that does not hold.
					stops(t, s, put(right, k, x, word), api.ErrField)
				}
			}
			// Behind sizes, wherever they are wrong.
			stops(t, s, [][]uint64{{word, 0}, {0}}, api.ErrSize)
			stops(t, s, [][]uint64{{word}, {0, 0}}, api.ErrSize)
			stops(t, s, [][]uint64{{word, 0}}, api.ErrSize)
			stops(t, s, [][]uint64{{0, word}, {0, 0}, {0, 0}}, api.ErrSize)
		}
		stops(t, s, put(right, 0, 1, 1), api.ErrRule)
	}
}

// R3: what is run is no memory of what is given, nor of another call's, nor of another column's.
func TestAnswersAreTheirOwn(t *testing.T) {
	s := api.System{Wide: 2, Rows: 1, Cols: 2, Private: 1, Gates: []api.Gate{gate(api.GateRound, 1, 0, 0, 0)}}
	given := [][]uint64{{1, 2}}
	all, _ := witness.Run(s, given)
	again, _ := witness.Run(s, given)
	want := [][]uint64{{1, 2}, {1, 2}, {0, 0}, {0, 0}}
	for k := range all {
		_ = append(all[k], 7, 7)
		clear(all[k])
		if !same(given, [][]uint64{{1, 2}}) || !same(again, want) || !same(all[k+1:], want[k+1:]) {
			t.Errorf("column %d: %v, %v, %v", k, given, again, all)
		}
	}
	b, _ := witness.Bits(s, again)
	w, _ := witness.Words(s, b)
	for k := range w {
		_ = append(w[k], 7, 7)
		clear(w[k])
		if !same(w[k+1:], want[k+1:]) {
			t.Errorf("column %d: %v", k, w)
		}
	}
}
