package code_test

import (
	"math"
	"math/rand/v2"
	"slices"
	"testing"

	"steeple/api"
	"steeple/code"
	"steeple/linpoly"
	"steeple/novel"
	"steeple/tower"
)

// noLevels are numbers that are no levels.
var noLevels = []int{-1, 8, 9, 64, math.MinInt, math.MaxInt}

// noPlaces are numbers that are no places of words of so many elements.
func noPlaces(long int) []int {
	return []int{-1, math.MinInt, long, long + 1, math.MaxInt}
}

// lo is elements of one word each.
func lo(l ...uint64) []api.Elem {
	out := make([]api.Elem, len(l))
	for i, n := range l {
		out[i] = api.Elem{Lo: n}
	}
	return out
}

// draw is n elements of a level.
func draw(rnd *rand.Rand, level, n int) []api.Elem {
	l := make([]api.Elem, n)
	for i := range l {
		l[i].Lo = rnd.Uint64()
		if level == 7 {
			l[i].Hi = rnd.Uint64()
		} else {
			l[i].Lo &= 1<<(1<<level) - 1
		}
	}
	return l
}

// tooHigh are elements that are not of a level.
func tooHigh(level int) []api.Elem {
	if level == 7 {
		return nil
	}
	return []api.Elem{tower.Bit(1 << level), tower.Bit(127), tower.Add(tower.One(), tower.Bit(1<<level))}
}

// of is a code that there must be.
func of(t *testing.T, level, k, r int) *code.Code {
	t.Helper()
	c, e := code.New(level, k, r)
	if e != api.OK || c == nil {
		t.Fatalf("New(%d, %d, %d): %v", level, k, r, e)
	}
	return c
}

// codes hands on the codes of all levels, with k + r up to a number.
func codes(t *testing.T, most int, look func(rnd *rand.Rand, c *code.Code, level, k, r int)) {
	t.Helper()
	rnd := rand.New(rand.NewPCG(8, 1))
	for level := range 8 {
		for sum := range min(1<<level, most) + 1 {
			for k := range sum + 1 {
				look(rnd, of(t, level, k, sum-k), level, k, sum-k)
			}
		}
	}
}

// word is the word of a message that has one.
func word(t *testing.T, c *code.Code, m []api.Elem) []api.Elem {
	t.Helper()
	w, e := c.Encode(m)
	if e != api.OK || len(w) != c.Long() {
		t.Fatalf("Encode(%v): %v, %v", m, w, e)
	}
	return w
}

// refused looks for an error, and for nothing beside it.
func refused(t *testing.T, what string, want api.Errno) func([]api.Elem, api.Errno) {
	return func(l []api.Elem, e api.Errno) {
		t.Helper()
		if e != want || len(l) != 0 {
			t.Errorf("%s: %v, %v; wanted %v", what, l, e, want)
		}
	}
}

// refusedOne looks for an error, and for zero beside it.
func refusedOne(t *testing.T, what string, want api.Errno) func(api.Elem, api.Errno) {
	return func(x api.Elem, e api.Errno) {
		t.Helper()
		if e != want || x != (api.Elem{}) {
			t.Errorf("%s: %v, %v; wanted %v", what, x, e, want)
		}
	}
}

// modelWord sums up, at each point, each coefficient times the product of the normal polynomials that its number names.
func modelWord(t *testing.T, level, dim int, m []api.Elem) []api.Elem {
	t.Helper()
	s, e := linpoly.Plain(level, dim)
	if e != api.OK {
		t.Fatalf("Plain(%d, %d): %v", level, dim, e)
	}
	w := make([]api.Elem, 1<<dim)
	for j := range w {
		for i, factor := range m {
			for b := range dim {
				if i>>b&1 == 1 {
					factor = tower.Mul(level, factor, s.Norm(b, api.Elem{Lo: uint64(j)}))
				}
			}
			w[j] = tower.Add(w[j], factor)
		}
	}
	return w
}

// 8.1
func TestNew(t *testing.T) {
	codes(t, 10, func(_ *rand.Rand, c *code.Code, level, k, r int) {
		if c.Level() != level || c.Size() != 1<<k || c.Long() != 1<<(k+r) {
			t.Errorf("New(%d, %d, %d): %d, %d, %d", level, k, r, c.Level(), c.Size(), c.Long())
		}
	})
}

// 8.1: each error, and which one is told first.
func TestNewErrors(t *testing.T) {
	refuse := func(level, k, r int, want api.Errno) {
		t.Helper()
		if c, e := code.New(level, k, r); e != want || c != nil {
			t.Errorf("New(%d, %d, %d): %v, %v; wanted %v", level, k, r, c, e, want)
		}
	}
	most := math.MaxInt
	for _, level := range noLevels {
		for _, k := range []int{0, 1, -1, 11, most} {
			for _, r := range []int{0, 1, -1, 11, most} {
				refuse(level, k, r, api.ErrArg)
			}
		}
	}
	for level := range 8 {
		for _, below := range []int{-1, -2, -64, math.MinInt} {
			for _, other := range []int{0, 1, -1, 5, 11, most, math.MinInt} {
				refuse(level, below, other, api.ErrArg)
				refuse(level, other, below, api.ErrArg)
			}
		}
		over := min(1<<level, 10) + 1
		for k := range over + 1 {
			refuse(level, k, over-k, api.ErrLong)
		}
		for _, great := range []int{64, 1 << 32, most - 1, most} {
			for _, other := range []int{0, 1, 2, 10, most - 1, most} {
				refuse(level, great, other, api.ErrLong)
				refuse(level, other, great, api.ErrLong)
			}
		}
	}
}

// 8.1, 8.2, 8.3: a nil code.
func TestNilCode(t *testing.T) {
	var c *code.Code
	if c.Level() != 0 || c.Size() != 0 || c.Long() != 0 {
		t.Errorf("a nil code: %d, %d, %d", c.Level(), c.Size(), c.Long())
	}
	for _, l := range [][]api.Elem{nil, {}, lo(1), lo(1, 2, 3), {{Hi: 1 << 63}}} {
		refused(t, "Encode", api.ErrArg)(c.Encode(l))
		refused(t, "Decode", api.ErrArg)(c.Decode(l))
		for _, j := range []int{-1, 0, 1} {
			refusedOne(t, "At", api.ErrArg)(c.At(l, j))
		}
		for _, places := range [][]int{nil, {}, {0}, {-1}, {0, 0, 0}} {
			refused(t, "Fill", api.ErrArg)(c.Fill(places, l))
		}
	}
}

// 8.2
func TestEncodeAndDecode(t *testing.T) {
	codes(t, 6, func(rnd *rand.Rand, c *code.Code, level, k, r int) {
		for range 2 {
			m := draw(rnd, level, c.Size())
			kept := slices.Clone(m)
			w := word(t, c, m)
			if !slices.Equal(w, modelWord(t, level, k+r, m)) || !slices.Equal(m, kept) {
				t.Errorf("Encode, level %d, %d, %d: %v: %v", level, k, r, m, w)
			}
			kept = slices.Clone(w)
			again, e := c.Decode(w)
			if e != api.OK || !slices.Equal(again, m) || !slices.Equal(w, kept) {
				t.Errorf("Decode, level %d, %d, %d: %v, %v", level, k, r, again, e)
			}
		}
	})
}

// 8.2: the greatest codes.
func TestGreatCodes(t *testing.T) {
	rnd := rand.New(rand.NewPCG(8, 2))
	for _, level := range []int{4, 5, 6, 7} {
		s, _ := linpoly.Plain(level, 10)
		for _, k := range []int{0, 1, 5, 9, 10} {
			c := of(t, level, k, 10-k)
			m := draw(rnd, level, c.Size())
			w := word(t, c, m)
			if again, e := c.Decode(w); e != api.OK || !slices.Equal(again, m) {
				t.Errorf("Decode, level %d, %d: %v", level, k, e)
			}
			for _, j := range []int{0, 1, 511, 512, 777, 1023} {
				if x := novel.Eval(s, m, api.Elem{Lo: uint64(j)}); w[j] != x {
					t.Errorf("level %d, %d: %v at %d", level, k, w[j], j)
				}
			}
		}
	}
}

// 8.2
func TestAt(t *testing.T) {
	codes(t, 6, func(rnd *rand.Rand, c *code.Code, level, k, r int) {
		m := draw(rnd, level, c.Size())
		kept := slices.Clone(m)
		w := word(t, c, m)
		for j := range w {
			if x, e := c.At(m, j); e != api.OK || x != w[j] || !slices.Equal(m, kept) {
				t.Errorf("At %d, level %d, %d, %d: %v, %v", j, level, k, r, x, e)
			}
		}
		for _, j := range noPlaces(c.Long()) {
			refusedOne(t, "no place", api.ErrNone)(c.At(m, j))
		}
	})
}

// 8.2: each error, and which one is told first.
func TestMessageAndWordErrors(t *testing.T) {
	codes(t, 5, func(rnd *rand.Rand, c *code.Code, level, k, r int) {
		size, long := c.Size(), c.Long()
		for _, n := range []int{0, 1, 2, 3, 4, 16, 31, 64, size - 1, size + 1, long - 1, long, long + 1} {
			l := make([]api.Elem, n)
			if n != size {
				refused(t, "a message of another length", api.ErrSize)(c.Encode(l))
				refusedOne(t, "a message of another length", api.ErrSize)(c.At(l, 0))
				refusedOne(t, "a message of another length, no place", api.ErrSize)(c.At(l, -1))
			}
			if n != long {
				refused(t, "a word of another length", api.ErrSize)(c.Decode(l))
			}
		}
		for _, wrong := range tooHigh(level) {
			more := append(make([]api.Elem, long), wrong)
			refused(t, "too many, no element", api.ErrSize)(c.Encode(more))
			refused(t, "too many, no element", api.ErrSize)(c.Decode(more))
			refusedOne(t, "too many, no element", api.ErrSize)(c.At(more, 0))
			for _, i := range []int{0, size / 2, size - 1} {
				m := draw(rnd, level, size)
				m[i] = wrong
				refused(t, "no element", api.ErrField)(c.Encode(m))
				refusedOne(t, "no element", api.ErrField)(c.At(m, 0))
				refusedOne(t, "no element", api.ErrField)(c.At(m, long-1))
				for _, j := range noPlaces(long) {
					refusedOne(t, "no element, no place", api.ErrField)(c.At(m, j))
				}
			}
			for _, i := range []int{0, long / 2, long - 1} {
				w := draw(rnd, level, long)
				w[i] = wrong
				refused(t, "no element", api.ErrField)(c.Decode(w))
			}
		}
	})
}

// 8.2: with one element changed a word is none any more, unless each list is one.
func TestDecodeOfNoWord(t *testing.T) {
	codes(t, 6, func(rnd *rand.Rand, c *code.Code, level, k, r int) {
		w := word(t, c, draw(rnd, level, c.Size()))
		for i := range w {
			bad := slices.Clone(w)
			bad[i].Lo ^= 1
			if r > 0 {
				refused(t, "no word", api.ErrRule)(c.Decode(bad))
			} else if m, e := c.Decode(bad); e != api.OK || !slices.Equal(word(t, c, m), bad) {
				t.Errorf("Decode, level %d, %d: %v, %v", level, k, m, e)
			}
		}
	})
}

// 8.2: of all lists of a small code just the words are decoded.
func TestDecodeOfAllLists(t *testing.T) {
	c := of(t, 1, 1, 1)
	decoded := 0
	for n := range uint64(256) {
		w := lo(n&3, n>>2&3, n>>4&3, n>>6)
		m, e := c.Decode(w)
		if e == api.ErrRule {
			continue
		}
		decoded++
		if e != api.OK || !slices.Equal(word(t, c, m), w) {
			t.Errorf("Decode(%v): %v, %v", w, m, e)
		}
	}
	if decoded != 16 {
		t.Errorf("%d words of 16 messages", decoded)
	}
}

// R3: answers are new.
func TestAnswersAreNew(t *testing.T) {
	c := of(t, 3, 0, 0)
	l := lo(5)
	w, _ := c.Encode(l)
	m, _ := c.Decode(l)
	f, _ := c.Fill([]int{0}, l)
	for _, answer := range [][]api.Elem{w, m, f} {
		if !slices.Equal(answer, lo(5)) {
			t.Errorf("an answer: %v", answer)
		}
		answer[0] = api.Elem{}
	}
	if l[0] != lo(5)[0] {
		t.Errorf("an answer shares memory: %v", l)
	}
}

// 8.3
func TestApart(t *testing.T) {
	for _, x := range []struct {
		a, b []api.Elem
		want int
	}{
		{nil, nil, 0},
		{nil, []api.Elem{}, 0},
		{nil, lo(0), 1},
		{lo(0, 0, 0), nil, 3},
		{lo(1, 2, 3), lo(1, 2, 3), 0},
		{lo(1, 2, 3), lo(0, 2, 4), 2},
		{lo(1, 2, 3), lo(3, 1, 2), 3},
		{lo(1, 2, 3), lo(1, 2), 1},
		{lo(1, 2, 3), lo(4), 3},
		{lo(7), lo(7, 0, 0, 0), 3},
		{[]api.Elem{{Hi: 1}}, []api.Elem{{Hi: 2}}, 1},
		{[]api.Elem{{Hi: 1}}, []api.Elem{{Lo: 1}}, 1},
		{[]api.Elem{{Hi: 1 << 63, Lo: 4}}, []api.Elem{{Hi: 1 << 63, Lo: 5}}, 1},
		{[]api.Elem{{Hi: 1 << 63, Lo: 5}}, []api.Elem{{Hi: 1 << 63, Lo: 5}}, 0},
	} {
		if got := code.Apart(x.a, x.b); got != x.want {
			t.Errorf("Apart(%v, %v): %d", x.a, x.b, got)
		}
		if got := code.Apart(x.b, x.a); got != x.want {
			t.Errorf("Apart(%v, %v): %d", x.b, x.a, got)
		}
	}
}

// 8.4: words that differ, differ at more than Long - Size places; with drawn messages, and with such as have a word that is zero at as many places as can be.
func TestWordsAreFarApart(t *testing.T) {
	codes(t, 6, func(rnd *rand.Rand, c *code.Code, level, k, r int) {
		m := draw(rnd, level, c.Size())
		places := rnd.Perm(c.Long())[:c.Size()]
		values := make([]api.Elem, c.Size())
		values[0] = tower.One()
		step, e := c.Fill(places, values)
		if e != api.OK {
			t.Fatalf("Fill, level %d, %d, %d: %v", level, k, r, e)
		}
		near := slices.Clone(m)
		for i := range near {
			near[i] = tower.Add(near[i], step[i])
		}
		if d := code.Apart(word(t, c, m), word(t, c, near)); d != c.Long()-c.Size()+1 {
			t.Errorf("the nearest words, level %d, %d, %d: %d", level, k, r, d)
		}
		other := draw(rnd, level, c.Size())
		if d := code.Apart(word(t, c, m), word(t, c, other)); d <= c.Long()-c.Size() && !slices.Equal(m, other) {
			t.Errorf("drawn words, level %d, %d, %d: %d", level, k, r, d)
		}
	})
}

// 8.4: all messages of a small code.
func TestAllMessagesOfASmallCode(t *testing.T) {
	c := of(t, 1, 1, 1)
	var words [][]api.Elem
	for n := range uint64(16) {
		words = append(words, word(t, c, lo(n&3, n>>2)))
	}
	for i, a := range words {
		for _, b := range words[:i] {
			if d := code.Apart(a, b); d <= 2 {
				t.Errorf("Apart(%v, %v): %d", a, b, d)
			}
		}
	}
}

// 8.4
func TestSumsAndFactors(t *testing.T) {
	codes(t, 6, func(rnd *rand.Rand, c *code.Code, level, k, r int) {
		a, b := draw(rnd, level, c.Size()), draw(rnd, level, c.Size())
		factor := draw(rnd, level, 1)[0]
		sum := make([]api.Elem, c.Size())
		for i := range sum {
			sum[i] = tower.Add(tower.Mul(level, factor, a[i]), b[i])
		}
		wa, wb, ws := word(t, c, a), word(t, c, b), word(t, c, sum)
		for i := range ws {
			if ws[i] != tower.Add(tower.Mul(level, factor, wa[i]), wb[i]) {
				t.Errorf("level %d, %d, %d: no sum at %d", level, k, r, i)
			}
		}
	})
}

// The chapter's examples.
func TestExamples(t *testing.T) {
	if w := word(t, of(t, 2, 0, 1), lo(5)); !slices.Equal(w, lo(5, 5)) {
		t.Errorf("the word of 5: %v", w)
	}
	for level := range 8 {
		for _, ab := range [][]api.Elem{lo(0, 0), lo(0, 1), lo(1, 0), lo(1, 1), {tower.X(level), tower.One()}} {
			want := []api.Elem{ab[0], tower.Add(ab[0], ab[1])}
			if w := word(t, of(t, level, 1, 0), ab); !slices.Equal(w, want) {
				t.Errorf("the word of %v: %v", ab, w)
			}
		}
	}
}
