package weave_test

import (
	"math"
	"math/rand/v2"
	"slices"
	"testing"

	"steeple/api"
	"steeple/code"
	"steeple/tower"
	"steeple/weave"
)

// noLevels are numbers that are no levels.
var noLevels = []int{-1, 8, 9, 64, math.MinInt, math.MaxInt}

// lo is elements of one word each.
func lo(l ...uint64) []api.Elem {
	out := make([]api.Elem, len(l))
	for i, n := range l {
		out[i] = api.Elem{Lo: n}
	}
	return out
}

// draw is n elements of a level.
func draw(rnd *rand.Rand, level, n int) []api.Elem {
	l := make([]api.Elem, n)
	for i := range l {
		l[i].Lo = rnd.Uint64()
		if level == 7 {
			l[i].Hi = rnd.Uint64()
		} else {
			l[i].Lo &= 1<<(1<<level) - 1
		}
	}
	return l
}

// drawRows is rows of one length.
func drawRows(rnd *rand.Rand, level, n, wide int) [][]api.Elem {
	rows := make([][]api.Elem, n)
	for i := range rows {
		rows[i] = draw(rnd, level, wide)
	}
	return rows
}

// tooHigh are elements that are not of a level.
func tooHigh(level int) []api.Elem {
	if level == 7 {
		return nil
	}
	return []api.Elem{tower.Bit(1 << level), tower.Bit(127), tower.Add(tower.One(), tower.Bit(1<<level))}
}

// clone is rows of their own.
func clone(rows [][]api.Elem) [][]api.Elem {
	out := make([][]api.Elem, len(rows))
	for i, row := range rows {
		out[i] = slices.Clone(row)
	}
	return out
}

// same tells whether rows are the same.
func same(a, b [][]api.Elem) bool {
	return slices.EqualFunc(a, b, slices.Equal[[]api.Elem])
}

// refused looks for an error, and for nothing beside it.
func refused(t *testing.T, what string, want api.Errno) func([]api.Elem, api.Errno) {
	return func(l []api.Elem, e api.Errno) {
		t.Helper()
		if e != want || len(l) != 0 {
			t.Errorf("%s: %v, %v; wanted %v", what, l, e, want)
		}
	}
}

// refusedRows looks for an error, and for no rows beside it.
func refusedRows(t *testing.T, what string, want api.Errno) func([][]api.Elem, api.Errno) {
	return func(rows [][]api.Elem, e api.Errno) {
		t.Helper()
		if e != want || len(rows) != 0 {
			t.Errorf("%s: %v, %v; wanted %v", what, rows, e, want)
		}
	}
}

// unlike are rows that have not one length.
func unlike() [][][]api.Elem {
	return [][][]api.Elem{
		{lo(1), nil},
		{nil, lo(1)},
		{lo(1, 2), lo(1)},
		{lo(1), lo(1), lo(1, 2)},
		{lo(1, 2), lo(1), lo(1, 2)},
		{{}, {}, lo(1)},
	}
}

// 9.1
func TestCutAndJoin(t *testing.T) {
	rnd := rand.New(rand.NewPCG(9, 1))
	for wide := 1; wide < 8; wide++ {
		for n := range 6 {
			l := draw(rnd, 7, wide*n)
			kept := slices.Clone(l)
			rows, e := weave.Cut(l, wide)
			if e != api.OK || len(rows) != n {
				t.Fatalf("Cut of %d by %d: %v, %v", len(l), wide, rows, e)
			}
			for i, row := range rows {
				if len(row) != wide || !slices.Equal(row, l[i*wide:i*wide+wide]) {
					t.Errorf("Cut of %v by %d: %v", l, wide, rows)
				}
			}
			if got := weave.Join(rows); !slices.Equal(got, l) || !slices.Equal(l, kept) {
				t.Errorf("Join(%v): %v", rows, got)
			}
		}
	}
}

// 9.1
func TestCutErrors(t *testing.T) {
	for _, wide := range []int{0, -1, -2, math.MinInt} {
		for _, l := range [][]api.Elem{nil, lo(1), lo(1, 2)} {
			refusedRows(t, "a width below 1", api.ErrArg)(weave.Cut(l, wide))
		}
	}
	for _, wide := range []int{1, 2, 64, math.MaxInt} {
		refusedRows(t, "no elements", api.OK)(weave.Cut(nil, wide))
		refusedRows(t, "no elements", api.OK)(weave.Cut([]api.Elem{}, wide))
	}
	for n := 1; n < 20; n++ {
		for wide := 1; wide < 40; wide++ {
			if n%wide != 0 {
				refusedRows(t, "no multiple", api.ErrSize)(weave.Cut(make([]api.Elem, n), wide))
			}
		}
		refusedRows(t, "no multiple", api.ErrSize)(weave.Cut(make([]api.Elem, n), math.MaxInt))
	}
}

// 9.1: what is joined need not be of one length.
func TestJoin(t *testing.T) {
	for _, rows := range [][][]api.Elem{nil, {}, {nil}, {nil, {}, nil}} {
		if got := weave.Join(rows); len(got) != 0 {
			t.Errorf("Join(%v): %v", rows, got)
		}
	}
	rows := [][]api.Elem{lo(1, 2), nil, lo(3), lo(4, 5, 6), {{Hi: 1 << 63}}}
	want := append(lo(1, 2, 3, 4, 5, 6), api.Elem{Hi: 1 << 63})
	if got := weave.Join(rows); !slices.Equal(got, want) {
		t.Errorf("Join(%v): %v", rows, got)
	}
}

// 9.1
func TestColumn(t *testing.T) {
	rnd := rand.New(rand.NewPCG(9, 2))
	for n := 1; n < 5; n++ {
		for wide := range 5 {
			rows := drawRows(rnd, 7, n, wide)
			kept := clone(rows)
			for j := range wide {
				column, e := weave.Column(rows, j)
				if e != api.OK || len(column) != n {
					t.Fatalf("Column(%v, %d): %v, %v", rows, j, column, e)
				}
				for i, x := range column {
					if x != rows[i][j] {
						t.Errorf("Column(%v, %d): %v", rows, j, column)
					}
				}
			}
			for _, j := range []int{-1, wide, wide + 1, math.MinInt, math.MaxInt} {
				refused(t, "no place", api.ErrNone)(weave.Column(rows, j))
			}
			if !same(rows, kept) {
				t.Errorf("Column changed %v", kept)
			}
		}
	}
}

// 9.1
func TestColumnErrors(t *testing.T) {
	for _, j := range []int{-1, 0, 1, 2, math.MinInt, math.MaxInt} {
		for _, rows := range unlike() {
			refused(t, "rows of other lengths", api.ErrSize)(weave.Column(rows, j))
		}
		for _, rows := range [][][]api.Elem{nil, {}, {nil}, {nil, {}}, {{}, nil, {}}} {
			refused(t, "nothing", api.ErrNone)(weave.Column(rows, j))
		}
	}
}

// 9.2
func TestEncode(t *testing.T) {
	rnd := rand.New(rand.NewPCG(9, 3))
	for level := range 8 {
		for sum := range min(1<<level, 5) + 1 {
			for k := range sum + 1 {
				c, e := code.New(level, k, sum-k)
				if e != api.OK {
					t.Fatalf("New(%d, %d, %d): %v", level, k, sum-k, e)
				}
				rows := drawRows(rnd, level, 3, c.Size())
				kept := clone(rows)
				words, e := weave.Encode(c, rows)
				if e != api.OK || len(words) != 3 || !same(rows, kept) {
					t.Fatalf("Encode, level %d: %v, %v", level, words, e)
				}
				for i, row := range rows {
					if w, _ := c.Encode(row); !slices.Equal(words[i], w) {
						t.Errorf("Encode, level %d, %v: %v", level, row, words[i])
					}
				}
			}
		}
	}
}

// 9.2: the error of the first row that has one.
func TestEncodeErrors(t *testing.T) {
	c, _ := code.New(3, 1, 1)
	good, short, wrong := lo(1, 2), lo(1), lo(256, 0)
	for _, rows := range [][][]api.Elem{nil, {}} {
		refusedRows(t, "no rows", api.OK)(weave.Encode(c, rows))
		refusedRows(t, "a nil code, no rows", api.OK)(weave.Encode(nil, rows))
	}
	for _, rows := range [][][]api.Elem{{good}, {nil}, {short}, {wrong}, {good, short}} {
		refusedRows(t, "a nil code", api.ErrArg)(weave.Encode(nil, rows))
	}
	for _, rows := range [][][]api.Elem{{nil}, {short}, {good, short}, {short, good}, {short, wrong}, {good, good, {}, wrong}, {lo(1, 2, 3)}} {
		refusedRows(t, "a row of another length", api.ErrSize)(weave.Encode(c, rows))
	}
	for _, rows := range [][][]api.Elem{{wrong}, {good, wrong}, {wrong, good}, {wrong, short}, {good, good, lo(0, 256), nil}} {
		refusedRows(t, "no element", api.ErrField)(weave.Encode(c, rows))
	}
}

// 9.2
func TestMix(t *testing.T) {
	rnd := rand.New(rand.NewPCG(9, 4))
	for level := range 8 {
		for n := range 6 {
			for wide := range 4 {
				rows, by := drawRows(rnd, level, n, wide), draw(rnd, level, n)
				kept, keptBy := clone(rows), slices.Clone(by)
				mixed, e := weave.Mix(level, rows, by)
				if n == 0 {
					refused(t, "no rows", api.OK)(mixed, e)
					continue
				}
				if e != api.OK || len(mixed) != wide || !same(rows, kept) || !slices.Equal(by, keptBy) {
					t.Fatalf("Mix, level %d: %v, %v", level, mixed, e)
				}
				for j, x := range mixed {
					column, _ := weave.Column(rows, j)
					if x != tower.Dot(level, column, by) {
						t.Errorf("Mix, level %d, %v, %v: %v", level, rows, by, mixed)
					}
				}
			}
		}
	}
	if mixed, e := weave.Mix(2, [][]api.Elem{lo(4, 1), lo(2, 3)}, lo(4, 1)); e != api.OK || !slices.Equal(mixed, lo(9^2, 4^3)) {
		t.Errorf("Mix: %v, %v", mixed, e)
	}
}

// 9.2: each error, and which one is told first.
func TestMixErrors(t *testing.T) {
	rnd := rand.New(rand.NewPCG(9, 5))
	for level := range 8 {
		for n := range 5 {
			rows := drawRows(rnd, level, n, 2)
			for m := range 7 {
				if m != n {
					refused(t, "as many rows", api.ErrSize)(weave.Mix(level, rows, make([]api.Elem, m)))
				}
			}
			for _, wrong := range tooHigh(level) {
				more := append(make([]api.Elem, n), wrong)
				refused(t, "other numbers, no element", api.ErrSize)(weave.Mix(level, rows, more))
				for i := range n {
					by := draw(rnd, level, n)
					by[i] = wrong
					refused(t, "no element", api.ErrField)(weave.Mix(level, rows, by))
					refused(t, "no element, empty rows", api.ErrField)(weave.Mix(level, make([][]api.Elem, n), by))
					for j := range 2 {
						bad := clone(rows)
						bad[i][j] = wrong
						refused(t, "no element in a row", api.ErrField)(weave.Mix(level, bad, make([]api.Elem, n)))
						refused(t, "too few, no element in a row", api.ErrSize)(weave.Mix(level, bad, make([]api.Elem, n-1)))
					}
				}
			}
		}
	}
	for _, level := range append([]int{0, 1, 2, 7}, noLevels...) {
		for _, rows := range unlike() {
			refused(t, "rows of other lengths", api.ErrSize)(weave.Mix(level, rows, make([]api.Elem, len(rows))))
			refused(t, "rows of other lengths, no element", api.ErrSize)(weave.Mix(level, rows, append(make([]api.Elem, len(rows)-1), api.Elem{Hi: 1})))
		}
	}
}

// 9.2: nothing is of a level that is none.
func TestMixOfNoLevel(t *testing.T) {
	for _, level := range noLevels {
		refused(t, "no rows", api.OK)(weave.Mix(level, nil, nil))
		refused(t, "no rows, one element", api.ErrSize)(weave.Mix(level, nil, lo(0)))
		refused(t, "rows", api.ErrField)(weave.Mix(level, [][]api.Elem{lo(0)}, lo(0)))
		refused(t, "an empty row", api.ErrField)(weave.Mix(level, [][]api.Elem{nil}, lo(0)))
	}
}

// R3: answers are new, and their rows are apart.
func TestAnswersAreNew(t *testing.T) {
	l := lo(5, 6, 7, 8)
	rows, _ := weave.Cut(l, 2)
	_ = append(rows[0], api.Elem{Lo: 9})
	if rows[1][0] != l[2] {
		t.Errorf("what is appended to a row is written into the next: %v", rows)
	}
	rows[0][0], rows[1][1] = api.Elem{}, api.Elem{}
	one := [][]api.Elem{l}
	weave.Join(one)[0] = api.Elem{}
	column, _ := weave.Column(one, 0)
	column[0] = api.Elem{}
	mixed, _ := weave.Mix(3, one, lo(1))
	mixed[0] = api.Elem{}
	c, _ := code.New(3, 0, 0)
	words, _ := weave.Encode(c, [][]api.Elem{l[:1]})
	words[0][0] = api.Elem{}
	gathered, _ := weave.Gather(3, 3, l)
	gathered[0] = api.Elem{}
	scattered, _ := weave.Scatter(3, 3, l)
	scattered[0] = api.Elem{}
	if !slices.Equal(l, lo(5, 6, 7, 8)) {
		t.Errorf("an answer shares memory: %v", l)
	}
}

// 9.4
func TestMixedAndEncoded(t *testing.T) {
	rnd := rand.New(rand.NewPCG(9, 6))
	for level := range 8 {
		for sum := range min(1<<level, 5) + 1 {
			for k := range sum + 1 {
				c, _ := code.New(level, k, sum-k)
				for n := 1; n < 5; n++ {
					rows, by := drawRows(rnd, level, n, c.Size()), draw(rnd, level, n)
					mixed, e := weave.Mix(level, rows, by)
					encoded, f := c.Encode(mixed)
					words, g := weave.Encode(c, rows)
					after, h := weave.Mix(level, words, by)
					if e != api.OK || f != api.OK || g != api.OK || h != api.OK || !slices.Equal(encoded, after) {
						t.Errorf("level %d, %d, %d: %v, %v", level, k, sum-k, encoded, after)
					}
				}
			}
		}
	}
}
