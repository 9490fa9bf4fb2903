package gadget_test

import (
	"math"
	"slices"
	"strings"
	"testing"

	"steeple/api"
	"steeple/circuit"
	"steeple/gadget"
	"steeple/lang"
)

// below are numbers below 0.
var below = []int{math.MinInt, math.MinInt32, -64, -1}

// above are numbers above n.
func above(n int) []int {
	return []int{n + 1, n + 2, 64, math.MaxInt32, math.MaxInt - 1, math.MaxInt}
}

// same tells whether two systems are the same.
func same(a, b api.System) bool {
	return a.Wide == b.Wide && a.Rows == b.Rows && a.Cols == b.Cols && a.Public == b.Public && a.Private == b.Private && slices.Equal(a.Gates, b.Gates)
}

// maker makes a gadget.
type maker func(wide, rows int) (api.System, []string, api.Errno)

// chain makes a chain of n steps.
func chain(n int) maker {
	return func(wide, rows int) (api.System, []string, api.Errno) { return gadget.Chain(wide, rows, n) }
}

// is asks for a gadget at all widths and rows: for its names, and for its gates, where words have n bits.
func is(t *testing.T, what string, made maker, cols, public, private int, names string, gates func(n int) []api.Gate) {
	t.Helper()
	for wide := range 6 {
		for rows := range 5 {
			want := api.System{Wide: wide, Rows: rows, Cols: cols, Public: public, Private: private, Gates: gates(1 << wide)}
			s, called, e := made(wide, rows)
			if e != api.OK || !same(s, want) || !slices.Equal(called, strings.Fields(names)) {
				t.Errorf("%s of %d, %d: %v, %q, %v, not %v", what, wide, rows, s, called, e, want)
			}
			used := circuit.Used(s)
			if circuit.Check(s) != api.OK || used != len(called) || used > 1<<s.Cols || used <= 1<<s.Cols/2 {
				t.Errorf("%s of %d, %d may not be: %v", what, wide, rows, circuit.Check(s))
			}
			text, e := lang.Print(s, called)
			if again, l, f := lang.Read(text); e != api.OK || f != api.OK || !same(again, s) || !slices.Equal(l, called) {
				t.Errorf("%s of %d, %d, written: %v, %v", what, wide, rows, e, f)
			}
		}
	}
}

// 28.1: the adder's names and gates.
func TestAdder(t *testing.T) {
	is(t, "Adder", gadget.Adder, 3, 2, 1, "a s b r k", func(int) []api.Gate {
		return []api.Gate{{Kind: api.GateAdd, Dst: 3, A: 0, B: 2, S: 4}, {Kind: api.GateSame, A: 3, B: 1}}
	})
}

// 28.1: the names and gates of a round of mixing: x is the column 1, y 2, z 3.
func TestChoose(t *testing.T) {
	is(t, "Choose", gadget.Choose, 5, 1, 3, "o x y z p q e c f g m h i j u t v w l", func(n int) []api.Gate {
		return []api.Gate{
			{Kind: api.GateAnd, Dst: 4, A: 1, B: 2},
			{Kind: api.GateNot, Dst: 5, A: 1},
			{Kind: api.GateAnd, Dst: 6, A: 5, B: 3},
			{Kind: api.GateXor, Dst: 7, A: 4, B: 6},
			{Kind: api.GateAnd, Dst: 8, A: 1, B: 3},
			{Kind: api.GateAnd, Dst: 9, A: 2, B: 3},
			{Kind: api.GateXor, Dst: 10, A: 4, B: 8},
			{Kind: api.GateXor, Dst: 11, A: 10, B: 9},
			{Kind: api.GateRound, Dst: 12, A: 1, S: 2 % n},
			{Kind: api.GateRound, Dst: 13, A: 1, S: 5 % n},
			{Kind: api.GateXor, Dst: 14, A: 12, B: 13},
			{Kind: api.GateAdd, Dst: 15, A: 7, B: 11, S: 16},
			{Kind: api.GateAdd, Dst: 17, A: 15, B: 14, S: 18},
			{Kind: api.GateSame, A: 17, B: 0},
		}
	})
	// By words of few bits, 2 and 5 are turned to what they are modulo n.
	for wide, want := range [][2]int{{0, 0}, {0, 1}, {2, 1}, {2, 5}, {2, 5}, {2, 5}} {
		s, _, _ := gadget.Choose(wide, 0)
		if s.Gates[8].S != want[0] || s.Gates[9].S != want[1] {
			t.Errorf("Choose of %d turns by %d and %d", wide, s.Gates[8].S, s.Gates[9].S)
		}
	}
}

// 28.1: the names and gates of chains of 1 to MaxChain steps.
func TestChain(t *testing.T) {
	steps := strings.Fields("rb kb rc kc rd kd re ke rf kf rg kg rh kh ri ki rj kj rba kba rbb kbb rbc kbc")
	gates := []api.Gate{
		{Kind: api.GateAdd, Dst: 3, A: 1, B: 2, S: 4},
		{Kind: api.GateAdd, Dst: 5, A: 2, B: 3, S: 6},
		{Kind: api.GateAdd, Dst: 7, A: 3, B: 5, S: 8},
		{Kind: api.GateAdd, Dst: 9, A: 5, B: 7, S: 10},
		{Kind: api.GateAdd, Dst: 11, A: 7, B: 9, S: 12},
		{Kind: api.GateAdd, Dst: 13, A: 9, B: 11, S: 14},
		{Kind: api.GateAdd, Dst: 15, A: 11, B: 13, S: 16},
		{Kind: api.GateAdd, Dst: 17, A: 13, B: 15, S: 18},
		{Kind: api.GateAdd, Dst: 19, A: 15, B: 17, S: 20},
		{Kind: api.GateAdd, Dst: 21, A: 17, B: 19, S: 22},
		{Kind: api.GateAdd, Dst: 23, A: 19, B: 21, S: 24},
		{Kind: api.GateAdd, Dst: 25, A: 21, B: 23, S: 26},
	}
	cols := []int{0, 3, 3, 4, 4, 4, 4, 5, 5, 5, 5, 5, 5}
	for n := 1; n <= gadget.MaxChain; n++ {
		is(t, "Chain", chain(n), cols[n], 1, 2, "o a b "+strings.Join(steps[:2*n], " "), func(int) []api.Gate {
			return append(slices.Clone(gates[:n]), api.Gate{Kind: api.GateSame, A: 2*n + 1, B: 0})
		})
	}
	if gadget.MaxChain != 12 {
		t.Errorf("MaxChain: %d", gadget.MaxChain)
	}
}

// refuses asks whether a gadget is an error alone.
func refuses(t *testing.T, what string, made maker, wide, rows int) {
	t.Helper()
	s, names, e := made(wide, rows)
	if e != api.ErrArg || !same(s, api.System{}) || len(names) != 0 {
		t.Errorf("%s of %d, %d: %v, %q, %v", what, wide, rows, s, names, e)
	}
}

// 28.1: words, rows and steps below and above their bounds.
func TestBounds(t *testing.T) {
	makers := map[string]maker{"Adder": gadget.Adder, "Choose": gadget.Choose, "Chain of 1": chain(1), "Chain of 12": chain(12)}
	for what, made := range makers {
		for _, wide := range append(above(5), below...) {
			for _, rows := range []int{0, 4, -1, 5, math.MaxInt} {
				refuses(t, what, made, wide, rows)
			}
		}
		for _, rows := range append(above(4), below...) {
			for _, wide := range []int{0, 5} {
				refuses(t, what, made, wide, rows)
			}
		}
		for wide := range 6 {
			for rows := range 5 {
				if s, names, e := made(wide, rows); e != api.OK || s.Wide != wide || s.Rows != rows || len(names) == 0 {
					t.Errorf("%s of %d, %d: %v", what, wide, rows, e)
				}
			}
		}
	}
	for _, n := range append(above(gadget.MaxChain), append(below, 0)...) {
		for wide := range 6 {
			refuses(t, "Chain", chain(n), wide, wide%5)
		}
		refuses(t, "Chain", chain(n), -1, 5)
	}
}

// 28.2: the lines of each gadget.
func TestText(t *testing.T) {
	for _, x := range []struct {
		name       string
		wide, rows int
		want       string
	}{
		{"adder", 2, 0, "words 2\nrows 0\ncolumns 3\npublic a s\nprivate b\nr = a + b carry k\nr == s\n"},
		{"adder", 5, 4, "words 5\nrows 4\ncolumns 3\npublic a s\nprivate b\nr = a + b carry k\nr == s\n"},
		{"chain", 3, 1, "words 3\nrows 1\ncolumns 4\npublic o\nprivate a b\nrb = a + b carry kb\nrc = b + rb carry kc\nrd = rb + rc carry kd\nre = rc + rd carry ke\nre == o\n"},
		{"choose", 3, 2, "words 3\nrows 2\ncolumns 5\npublic o\nprivate x y z\np = x & y\nq = ~ x\ne = q & z\nc = p ^ e\nf = x & z\ng = y & z\nm = p ^ f\nh = m ^ g\ni = x <<< 2\nj = x <<< 5\nu = i ^ j\nt = c + h carry v\nw = t + u carry l\nw == o\n"},
		{"choose", 1, 0, "words 1\nrows 0\ncolumns 5\npublic o\nprivate x y z\np = x & y\nq = ~ x\ne = q & z\nc = p ^ e\nf = x & z\ng = y & z\nm = p ^ f\nh = m ^ g\ni = x <<< 0\nj = x <<< 1\nu = i ^ j\nt = c + h carry v\nw = t + u carry l\nw == o\n"},
	} {
		if text, e := gadget.Text(x.name, x.wide, x.rows); e != api.OK || text != x.want {
			t.Errorf("Text(%s, %d, %d): %q, %v", x.name, x.wide, x.rows, text, e)
		}
	}
	makers := map[string]maker{"adder": gadget.Adder, "choose": gadget.Choose, "chain": chain(4)}
	for name, made := range makers {
		for wide := range 6 {
			for rows := range 5 {
				s, names, _ := made(wide, rows)
				want, e := lang.Print(s, names)
				if text, f := gadget.Text(name, wide, rows); e != api.OK || f != api.OK || text != want {
					t.Errorf("Text(%s, %d, %d): %q, %v", name, wide, rows, text, f)
				}
			}
		}
	}
}

// 28.2: names that are none, ahead of words and rows that may not be.
func TestTextErrors(t *testing.T) {
	asks := func(name string, wide, rows int, want api.Errno) {
		t.Helper()
		if text, e := gadget.Text(name, wide, rows); e != want || text != "" {
			t.Errorf("Text(%q, %d, %d): %q, %v, not %v", name, wide, rows, text, e, want)
		}
	}
	for _, name := range []string{"", "other", "Adder", "ADDER", "adder ", " adder", "adder\n", "add", "adders", "Choose", "chose", "Chain", "chain4", "chain\x00", "\xff", strings.Repeat("adder", 1000)} {
		for _, wide := range []int{0, 5, -1, 6} {
			for _, rows := range []int{0, 4, -1, 5} {
				asks(name, wide, rows, api.ErrNone)
			}
		}
	}
	for _, name := range []string{"adder", "choose", "chain"} {
		for _, wide := range append(above(5), below...) {
			asks(name, wide, 0, api.ErrArg)
			asks(name, wide, 9, api.ErrArg)
		}
		for _, rows := range append(above(4), below...) {
			asks(name, 5, rows, api.ErrArg)
			asks(name, 0, rows, api.ErrArg)
		}
	}
}

// R3: what is answered is each call's own.
func TestAnswersAreTheirOwn(t *testing.T) {
	for what, made := range map[string]maker{"Adder": gadget.Adder, "Choose": gadget.Choose, "Chain": chain(12)} {
		s, names, _ := made(2, 1)
		again, called, _ := made(2, 1)
		text, _ := lang.Print(again, called)
		clear(s.Gates)
		clear(names)
		if now, e := lang.Print(again, called); e != api.OK || now != text {
			t.Errorf("%s: %q, %v, not %q", what, now, e, text)
		}
	}
}
