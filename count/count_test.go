package count_test

import (
	"math"
	"math/rand/v2"
	"reflect"
	"slices"
	"testing"

	"steeple/api"
	"steeple/count"
	"steeple/gadget"
	"steeple/witness"
)

// never is a system that holds for no choice: b is the same as not b.
func never(wide, rows int) api.System {
	return api.System{Wide: wide, Rows: rows, Cols: 1, Private: 1, Gates: []api.Gate{{Kind: api.GateNot, Dst: 1}, {Kind: api.GateSame, B: 1}}}
}

// chain is a system of so many gates of a kind of two columns, with no public column.
func chain(kind, wide, rows, cols, gates int) api.System {
	s := api.System{Wide: wide, Rows: rows, Cols: cols, Private: 2}
	for i := range gates {
		s.Gates = append(s.Gates, api.Gate{Kind: kind, Dst: 2 + i, A: i, B: 1 + i})
	}
	return s
}

// sums is a system of so many gates that add: two conditions each.
func sums(wide, rows, gates int) api.System {
	s := api.System{Wide: wide, Rows: rows, Cols: 6, Private: 2}
	for i := range gates {
		s.Gates = append(s.Gates, api.Gate{Kind: api.GateAdd, Dst: 2 + 2*i, A: 2 * i, B: 1, S: 3 + 2*i})
	}
	return s
}

// wrong are systems that may not be, each with its error.
func wrong() map[api.Errno]api.System {
	return map[api.Errno]api.System{
		api.ErrArg:  {Wide: 6, Private: 1},
		api.ErrLong: chain(api.GateXor, 0, 0, 6, 31),
		api.ErrForm: {Cols: 1, Private: 1, Gates: []api.Gate{{Kind: 9}}},
		api.ErrNone: {Cols: 1, Private: 1, Gates: []api.Gate{{Kind: api.GateNot, Dst: 1, A: 1}}},
	}
}

// copied is columns in memory of their own.
func copied(l [][]uint64) [][]uint64 {
	out := make([][]uint64, len(l))
	for k := range l {
		out[k] = slices.Clone(l[k])
	}
	return out
}

// choiceOf is the choice number n, bit by bit.
func choiceOf(s api.System, n int) [][]uint64 {
	out := make([][]uint64, s.Private)
	at := 0
	for k := range out {
		out[k] = make([]uint64, 1<<s.Rows)
		for x := range out[k] {
			for y := range 1 << s.Wide {
				out[k][x] |= uint64(n>>at&1) << y
				at++
			}
		}
	}
	return out
}

// same tells whether two lists of columns are the same.
func same(a, b [][]uint64) bool {
	return slices.EqualFunc(a, b, slices.Equal[[]uint64])
}

// 32.1
func TestFree(t *testing.T) {
	for wide := range 6 {
		for rows := range 5 {
			for private := range 5 {
				s := api.System{Wide: wide, Rows: rows, Cols: 3, Public: 2, Private: private}
				if n := count.Free(s); n != private<<(wide+rows) {
					t.Errorf("Free(%v): %d", s, n)
				}
			}
		}
	}
	if n := count.Free(api.System{Wide: 5, Rows: 4, Cols: 6, Private: 64}); n != 64*512 {
		t.Errorf("Free of the greatest: %d", n)
	}
	for e, s := range wrong() {
		if n := count.Free(s); n != 0 {
			t.Errorf("Free of what may not be, %v: %d", e, n)
		}
	}
}

// 32.1: all choices of small systems, first and last and none; their bits in the order of layer 27.
func TestChoice(t *testing.T) {
	for _, s := range []api.System{
		{},
		{Private: 1},
		{Cols: 4, Private: 12},
		{Wide: 2, Cols: 2, Public: 1, Private: 3},
		{Rows: 2, Cols: 2, Public: 1, Private: 3},
		{Wide: 1, Rows: 1, Cols: 2, Private: 3},
		{Wide: 3, Cols: 1, Public: 1, Private: 1},
		{Wide: 1, Rows: 2, Private: 1},
		{Wide: 5, Rows: 4, Cols: 3, Public: 8},
		never(2, 1),
	} {
		free := count.Free(s)
		for n := range 1 << free {
			c, e := count.Choice(s, n)
			if e != api.OK || !same(c, choiceOf(s, n)) {
				t.Fatalf("Choice(%v, %d): %v, %v", s, n, c, e)
			}
			if n%37 != 0 {
				continue
			}
			all := make([][]uint64, 1<<s.Cols)
			for k := range all {
				all[k] = make([]uint64, 1<<s.Rows)
				if k >= s.Public && k < s.Public+s.Private {
					all[k] = c[k-s.Public]
				}
			}
			bits, e := witness.Bits(s, all)
			if e != api.OK {
				t.Fatalf("Bits: %v", e)
			}
			for i, is := range bits {
				i -= s.Public << (s.Wide + s.Rows)
				if want := i >= 0 && i < free && n>>i&1 == 1; is != want {
					t.Errorf("Choice(%v, %d): the bit %d is %v", s, n, i, is)
				}
			}
		}
		for _, n := range []int{-1, 1 << free, 1<<free + 1, math.MinInt, math.MaxInt} {
			if c, e := count.Choice(s, n); e != api.ErrNone || c != nil {
				t.Errorf("Choice(%v, %d): %v, %v", s, n, c, e)
			}
		}
	}
}

// 32.1: the errors, and which comes first.
func TestChoiceErrors(t *testing.T) {
	if count.MaxFree != 12 || count.MaxTries != 65536 {
		t.Errorf("MaxFree %d, MaxTries %d", count.MaxFree, count.MaxTries)
	}
	for want, s := range wrong() {
		for _, n := range []int{-1, 0, 1, math.MaxInt} {
			if c, e := count.Choice(s, n); e != want || c != nil {
				t.Errorf("Choice of what may not be, %d: %v, %v", n, c, e)
			}
		}
		if l, n, e := count.Solve(s, nil); e != want || n != 0 || l != nil {
			t.Errorf("Solve of what may not be: %v, %d, %v", l, n, e)
		}
	}
	// one free bit too many, twelve and far more
	for _, s := range []api.System{{Cols: 4, Private: 13}, {Wide: 1, Cols: 3, Private: 7}, {Wide: 4, Private: 1}, {Wide: 5, Rows: 4, Cols: 6, Private: 64}} {
		for _, n := range []int{-1, 0, 1 << 12, math.MaxInt} {
			if c, e := count.Choice(s, n); e != api.ErrLong || c != nil {
				t.Errorf("Choice(%v, %d): %v, %v", s, n, c, e)
			}
		}
		for _, public := range [][][]uint64{nil, {{1 << 63}}, {{}, {}}} {
			if l, n, e := count.Solve(s, public); e != api.ErrLong || n != 0 || l != nil {
				t.Errorf("Solve(%v): %v, %d, %v", s, l, n, e)
			}
		}
	}
}

// solved is what Solve is to answer: each choice run behind the public columns.
func solved(s api.System, public [][]uint64) ([][]uint64, int) {
	var first [][]uint64
	many := 0
	for n := range 1 << count.Free(s) {
		c := choiceOf(s, n)
		if _, e := witness.Run(s, slices.Concat(public, c)); e == api.OK {
			if many == 0 {
				first = c
			}
			many++
		}
	}
	return first, many
}

// checkSolve holds Solve against what is tried one by one; it answers how many choices hold.
func checkSolve(t *testing.T, s api.System, public [][]uint64) int {
	t.Helper()
	before := copied(public)
	first, many := solved(s, public)
	l, n, e := count.Solve(s, public)
	if e != api.OK || n != many || !same(l, first) || !reflect.DeepEqual(copied(public), before) {
		t.Errorf("Solve(%v, %v): %v, %d, %v, not %v, %d", s, public, l, n, e, first, many)
	}
	return n
}

// 32.1: systems that hold for no choice, for one, for some and for all.
func TestSolve(t *testing.T) {
	adder, _, _ := gadget.Adder(1, 1)
	for a := range uint64(4) {
		for b := range uint64(4) {
			if n := checkSolve(t, adder, [][]uint64{{a, b}, {b, a}}); n != 1 {
				t.Errorf("the adder: %d", n)
			}
		}
	}
	// the example
	bit, _, _ := gadget.Adder(0, 0)
	if l, n, e := count.Solve(bit, [][]uint64{{1}, {0}}); e != api.OK || n != 1 || count.Free(bit) != 1 || !same(l, [][]uint64{{1}}) {
		t.Errorf("the example: %v, %d, %v", l, n, e)
	}
	if l, n, e := count.Solve(never(1, 1), nil); e != api.OK || n != 0 || l != nil {
		t.Errorf("what never holds: %v, %d, %v", l, n, e)
	}
	checkSolve(t, never(2, 1), nil)
	// twelve free bits: all hold; those whose and is the public column do
	if n := checkSolve(t, chain(api.GateAnd, 1, 1, 2, 1), nil); n != 256 {
		t.Errorf("what always holds: %d", n)
	}
	all := api.System{Cols: 4, Private: 12, Gates: []api.Gate{{Kind: api.GateSame, A: 3, B: 3}}}
	if n := checkSolve(t, all, nil); n != 4096 {
		t.Errorf("what always holds, of twelve bits: %d", n)
	}
	all.Gates = []api.Gate{{Kind: api.GateSame, A: 3, B: 11}}
	if n := checkSolve(t, all, nil); n != 2048 {
		t.Errorf("what holds for half, of twelve bits: %d", n)
	}
	and := api.System{Wide: 2, Cols: 2, Public: 1, Private: 2, Gates: []api.Gate{{Kind: api.GateAnd, Dst: 3, A: 1, B: 2}, {Kind: api.GateSame, A: 0, B: 3}}}
	for w := range uint64(16) {
		checkSolve(t, and, [][]uint64{{w}})
	}
	// just the last choice holds
	last := api.System{Wide: 3, Cols: 1, Public: 1, Private: 1, Gates: []api.Gate{{Kind: api.GateSame, B: 1}}}
	if l, n, e := count.Solve(last, [][]uint64{{255}}); e != api.OK || n != 1 || !same(l, [][]uint64{{255}}) {
		t.Errorf("the last choice: %v, %d, %v", l, n, e)
	}
}

// 32.1: without a private column there is one choice, of nothing.
func TestSolveOfNothing(t *testing.T) {
	s := api.System{Wide: 5, Rows: 4, Cols: 1, Public: 2, Gates: []api.Gate{{Kind: api.GateSame, B: 1}}}
	a, b := make([]uint64, 16), make([]uint64, 16)
	if l, n, e := count.Solve(s, [][]uint64{a, b}); e != api.OK || n != 1 || len(l) != 0 {
		t.Errorf("what holds: %v, %d, %v", l, n, e)
	}
	b[3] = 1
	if l, n, e := count.Solve(s, [][]uint64{a, b}); e != api.OK || n != 0 || len(l) != 0 {
		t.Errorf("what does not: %v, %d, %v", l, n, e)
	}
	if l, n, e := count.Solve(api.System{}, nil); e != api.OK || n != 1 || len(l) != 0 {
		t.Errorf("no system to speak of: %v, %d, %v", l, n, e)
	}
}

// 32.1: public columns that are none.
func TestSolveErrors(t *testing.T) {
	adder, _, _ := gadget.Adder(1, 1)
	for i, x := range []struct {
		public [][]uint64
		want   api.Errno
	}{
		{nil, api.ErrSize},
		{[][]uint64{{1, 2}}, api.ErrSize},
		{[][]uint64{{1, 2}, {1, 2}, {1, 2}}, api.ErrSize},
		{[][]uint64{{1, 2}, {1}}, api.ErrSize},
		{[][]uint64{{1, 2, 3}, {1, 2}}, api.ErrSize},
		{[][]uint64{{4, 2}, {1}}, api.ErrSize},
		{[][]uint64{{4, 2}, {1, 2}}, api.ErrField},
		{[][]uint64{{1, 2}, {1, 1 << 63}}, api.ErrField},
	} {
		if l, n, e := count.Solve(adder, x.public); e != x.want || n != 0 || l != nil {
			t.Errorf("Solve %d: %v, %d, %v, not %v", i, l, n, e, x.want)
		}
	}
	// what hinders is told though no choice holds
	no := never(1, 0)
	if l, n, e := count.Solve(no, [][]uint64{{1}}); e != api.ErrSize || n != 0 || l != nil {
		t.Errorf("Solve of what never holds: %v, %d, %v", l, n, e)
	}
}

// R3: what is answered is new.
func TestChoicesAreNew(t *testing.T) {
	adder, _, _ := gadget.Adder(1, 1)
	public := [][]uint64{{3, 1}, {0, 0}}
	l, _, _ := count.Solve(adder, public)
	l[0][0] = 77
	if m, _, _ := count.Solve(adder, public); m[0][0] != 1 {
		t.Errorf("a choice is kept")
	}
	rnd := rand.New(rand.NewPCG(32, 1))
	s := api.System{Wide: 1, Rows: 1, Cols: 2, Private: 3}
	n := rnd.IntN(1 << 12)
	c, _ := count.Choice(s, n)
	_ = append(c[0], 9)
	c[1][0] ^= 3
	if d, _ := count.Choice(s, n); !same(d, choiceOf(s, n)) {
		t.Errorf("a choice is kept")
	}
}
