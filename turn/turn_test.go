package turn_test

import (
	"math"
	"math/rand/v2"
	"slices"
	"testing"

	"steeple/api"
	"steeple/turn"
)

// kinds are the kinds of turns.
var kinds = []int{turn.Same, turn.Left, turn.Right, turn.Round}

// noKinds are numbers that are no kinds.
var noKinds = []int{math.MinInt, math.MinInt32, -4, -1, 4, 5, 6, 7, 64, 256, math.MaxInt32, math.MaxInt}

// noLogs are numbers that are no w.
var noLogs = []int{math.MinInt, math.MinInt32, -64, -7, -6, -1, 7, 8, 16, 31, 32, 62, 63, 64, 65, 128, math.MaxInt32, math.MaxInt}

// isTurn tells by the words whether there is such a turn.
func isTurn(kind, w, s int) bool {
	if kind < 0 || kind > 3 || w < 0 || w > 6 {
		return false
	}
	bits := []int{1, 2, 4, 8, 16, 32, 64}[w]
	return s >= 0 && s < bits && (kind != 0 || s == 0)
}

// was tells by the words whether the bit i is what the bit k was, in a word of n bits.
func was(kind, n, s, i, k int) bool {
	switch kind {
	case turn.Same:
		return k == i
	case turn.Left:
		return k+s == i
	case turn.Right:
		return i+s == k
	default:
		return (k+s)%n == i
	}
}

// each hands on all turns.
func each(look func(kind, w, s int)) {
	for _, kind := range kinds {
		for w := range 7 {
			for s := range 1 << w {
				if isTurn(kind, w, s) {
					look(kind, w, s)
				}
			}
		}
	}
}

// noTurns hands on what is no turn.
func noTurns(look func(kind, w, s int)) {
	for _, kind := range noKinds {
		for w := -1; w <= 7; w++ {
			for _, s := range []int{-1, 0, 1, 63, 64} {
				look(kind, w, s)
			}
		}
	}
	for _, kind := range kinds {
		for _, w := range noLogs {
			for _, s := range []int{math.MinInt, -1, 0, 1, 2, 63, 64, math.MaxInt} {
				look(kind, w, s)
			}
		}
		for w := range 7 {
			for _, s := range []int{math.MinInt, math.MinInt32, -64, -1, 1 << w, 1<<w + 1, 2 << w, 128, 1 << 32, math.MaxInt32, math.MaxInt} {
				look(kind, w, s)
			}
		}
	}
	for w := range 7 {
		for s := 1; s < 1<<w; s++ {
			look(turn.Same, w, s)
		}
	}
}

// drawnBits are n bits.
func drawnBits(rnd *rand.Rand, n int) []bool {
	b := make([]bool, n)
	for i := range b {
		b[i] = rnd.IntN(2) == 1
	}
	return b
}

// bits are bits by noughts and ones, the bit 0 first.
func bits(s string) []bool {
	b := make([]bool, len(s))
	for i := range b {
		b[i] = s[i] == '1'
	}
	return b
}

// turned is words that there are, turned.
func turned(t *testing.T, kind, w, s int, b []bool) []bool {
	t.Helper()
	out, e := turn.Bits(kind, w, s, b)
	if e != api.OK || len(out) != len(b) {
		t.Fatalf("Bits(%d, %d, %d) of %d: %d, %v", kind, w, s, len(b), len(out), e)
	}
	return out
}

// noBits asks for an error of Bits, and for nothing beside it.
func noBits(t *testing.T, kind, w, s int, b []bool, want api.Errno) {
	t.Helper()
	if out, e := turn.Bits(kind, w, s, b); e != want || len(out) != 0 {
		t.Errorf("Bits(%d, %d, %d) of %d: %v, %v, not %v", kind, w, s, len(b), out, e, want)
	}
}

func TestConstants(t *testing.T) {
	if turn.MaxLog != 6 || turn.Same != 0 || turn.Left != 1 || turn.Right != 2 || turn.Round != 3 {
		t.Errorf("%d; %d, %d, %d, %d", turn.MaxLog, turn.Same, turn.Left, turn.Right, turn.Round)
	}
}

// 18.1
func TestFits(t *testing.T) {
	for kind := -2; kind <= 6; kind++ {
		for w := -2; w <= 9; w++ {
			for s := -3; s <= 520; s++ {
				if got := turn.Fits(kind, w, s); got != isTurn(kind, w, s) {
					t.Errorf("Fits(%d, %d, %d): %v", kind, w, s, got)
				}
			}
		}
	}
	each(func(kind, w, s int) {
		if !turn.Fits(kind, w, s) {
			t.Errorf("Fits(%d, %d, %d): no turn", kind, w, s)
		}
	})
	noTurns(func(kind, w, s int) {
		if turn.Fits(kind, w, s) {
			t.Errorf("Fits(%d, %d, %d): a turn", kind, w, s)
		}
	})
}

// 18.1
func TestFrom(t *testing.T) {
	each(func(kind, w, s int) {
		n := 1 << w
		for i := range n {
			want := -1
			for k := range n {
				if was(kind, n, s, i, k) {
					want = k
				}
			}
			if got := turn.From(kind, w, s, i); got != want {
				t.Errorf("From(%d, %d, %d, %d): %d, not %d", kind, w, s, i, got, want)
			}
		}
		for _, i := range []int{math.MinInt, math.MinInt32, -n, -2, -1, n, n + 1, 2 * n, 64, math.MaxInt32, math.MaxInt - 1, math.MaxInt} {
			if got := turn.From(kind, w, s, i); got != -1 && (i < 0 || i >= n) {
				t.Errorf("From(%d, %d, %d, %d): %d", kind, w, s, i, got)
			}
		}
	})
	noTurns(func(kind, w, s int) {
		for _, i := range []int{math.MinInt, -1, 0, 1, 2, 63, 64, math.MaxInt} {
			if got := turn.From(kind, w, s, i); got != -1 {
				t.Errorf("From(%d, %d, %d, %d): %d", kind, w, s, i, got)
			}
		}
	})
}

// 18.1: by hand.
func TestFromFixed(t *testing.T) {
	for _, a := range []struct{ kind, w, s, i, want int }{
		{turn.Same, 0, 0, 0, 0},
		{turn.Left, 0, 0, 0, 0},
		{turn.Right, 0, 0, 0, 0},
		{turn.Round, 0, 0, 0, 0},
		{turn.Same, 6, 0, 63, 63},
		{turn.Left, 3, 2, 0, -1},
		{turn.Left, 3, 2, 1, -1},
		{turn.Left, 3, 2, 2, 0},
		{turn.Left, 3, 2, 7, 5},
		{turn.Right, 3, 2, 0, 2},
		{turn.Right, 3, 2, 5, 7},
		{turn.Right, 3, 2, 6, -1},
		{turn.Right, 3, 2, 7, -1},
		{turn.Round, 3, 2, 0, 6},
		{turn.Round, 3, 2, 1, 7},
		{turn.Round, 3, 2, 2, 0},
		{turn.Round, 3, 2, 7, 5},
		{turn.Left, 6, 63, 63, 0},
		{turn.Left, 6, 63, 62, -1},
		{turn.Right, 6, 63, 0, 63},
		{turn.Right, 6, 63, 1, -1},
		{turn.Round, 6, 63, 63, 0},
		{turn.Round, 6, 63, 0, 1},
	} {
		if got := turn.From(a.kind, a.w, a.s, a.i); got != a.want {
			t.Errorf("From(%d, %d, %d, %d): %d, not %d", a.kind, a.w, a.s, a.i, got, a.want)
		}
	}
}

// 18.1: the chapter's examples, and more by hand.
func TestBitsFixed(t *testing.T) {
	for _, a := range []struct {
		kind, w, s int
		b, want    string
	}{
		{turn.Left, 2, 1, "1100", "0110"},
		{turn.Round, 2, 1, "0001", "1000"},
		{turn.Right, 2, 1, "1100", "1000"},
		{turn.Same, 2, 0, "1101", "1101"},
		{turn.Left, 2, 3, "1111", "0001"},
		{turn.Right, 2, 3, "1111", "1000"},
		{turn.Round, 2, 3, "1000", "0001"},
		{turn.Left, 1, 1, "11100100", "01010000"},
		{turn.Right, 1, 1, "11100100", "10001000"},
		{turn.Round, 1, 1, "11100100", "11011000"},
		{turn.Left, 0, 0, "10110", "10110"},
		{turn.Right, 0, 0, "10110", "10110"},
		{turn.Round, 0, 0, "10110", "10110"},
		{turn.Same, 0, 0, "10110", "10110"},
	} {
		if got := turned(t, a.kind, a.w, a.s, bits(a.b)); !slices.Equal(got, bits(a.want)) {
			t.Errorf("Bits(%d, %d, %d) of %s: %v, not %s", a.kind, a.w, a.s, a.b, got, a.want)
		}
	}
}

// 18.1: word by word, bit by bit; what is handed in is as it was, and shares nothing with the answer.
func TestBits(t *testing.T) {
	rnd := rand.New(rand.NewPCG(18, 1))
	each(func(kind, w, s int) {
		n := 1 << w
		for _, words := range []int{0, 1, 2, 3, 5} {
			b := drawnBits(rnd, words*n)
			before := slices.Clone(b)
			out := turned(t, kind, w, s, b)
			for i := range out {
				want := false
				for k := range b {
					want = want || k/n == i/n && was(kind, n, s, i%n, k%n) && b[k]
				}
				if out[i] != want {
					t.Errorf("Bits(%d, %d, %d) of %d words: bit %d is %v", kind, w, s, words, i, out[i])
				}
			}
			for i := range out {
				out[i] = !out[i]
			}
			if !slices.Equal(b, before) {
				t.Errorf("Bits(%d, %d, %d): what was handed in has changed", kind, w, s)
			}
		}
	})
}

// 18.1: many words.
func TestBitsMany(t *testing.T) {
	rnd := rand.New(rand.NewPCG(18, 2))
	b := drawnBits(rnd, 1<<16)
	for _, kind := range kinds[1:] {
		out := turned(t, kind, 6, 7, b)
		for place := 0; place < len(b); place += 64 {
			if !slices.Equal(out[place:place+64], turned(t, kind, 6, 7, b[place:place+64])) {
				t.Fatalf("Bits(%d): the word at %d is turned otherwise", kind, place)
			}
		}
	}
}

// 18.1: bits that are not whole words, and what is no turn; that comes first.
func TestBitsErrors(t *testing.T) {
	all := make([]bool, 300)
	each(func(kind, w, s int) {
		n := 1 << w
		turned(t, kind, w, s, nil)
		turned(t, kind, w, s, []bool{})
		for _, m := range []int{1, n/2 + 1, n - 1, n + 1, 2*n - 1, 2*n + 1, 3*n - 1} {
			if m%n != 0 {
				noBits(t, kind, w, s, all[:m], api.ErrSize)
			}
		}
	})
	noTurns(func(kind, w, s int) {
		for _, m := range []int{0, 1, 2, 3, 63, 64, 65, 128} {
			noBits(t, kind, w, s, all[:m], api.ErrArg)
		}
		noBits(t, kind, w, s, nil, api.ErrArg)
	})
}
