package code_test

import (
	"math/rand/v2"
	"slices"
	"testing"

	"steeple/api"
	"steeple/code"
)

// at is the elements of a list at places.
func at(l []api.Elem, places []int) []api.Elem {
	out := make([]api.Elem, len(places))
	for i, j := range places {
		out[i] = l[j]
	}
	return out
}

// 8.3: places in any order.
func TestFill(t *testing.T) {
	codes(t, 6, func(rnd *rand.Rand, c *code.Code, level, k, r int) {
		m := draw(rnd, level, c.Size())
		w := word(t, c, m)
		for range 3 {
			places := rnd.Perm(c.Long())[:c.Size()]
			values := at(w, places)
			keptPlaces, keptValues := slices.Clone(places), slices.Clone(values)
			got, e := c.Fill(places, values)
			if e != api.OK || !slices.Equal(got, m) {
				t.Errorf("Fill, level %d, %d, %d, %v: %v, %v", level, k, r, places, got, e)
			}
			if !slices.Equal(places, keptPlaces) || !slices.Equal(values, keptValues) {
				t.Errorf("Fill, level %d, %d, %d, changed what it was given", level, k, r)
			}
		}
	})
}

// 8.3: any values have a message.
func TestFillOfDrawnValues(t *testing.T) {
	codes(t, 6, func(rnd *rand.Rand, c *code.Code, level, k, r int) {
		places, values := rnd.Perm(c.Long())[:c.Size()], draw(rnd, level, c.Size())
		m, e := c.Fill(places, values)
		if e != api.OK || len(m) != c.Size() {
			t.Fatalf("Fill, level %d, %d, %d: %v", level, k, r, e)
		}
		if !slices.Equal(at(word(t, c, m), places), values) {
			t.Errorf("Fill, level %d, %d, %d, %v: other values", level, k, r, places)
		}
	})
}

// 8.3: each choice of places and values of a small code has one message.
func TestFillOfAllChoices(t *testing.T) {
	c := of(t, 1, 1, 1)
	for i := range 4 {
		for j := range 4 {
			if i == j {
				continue
			}
			seen := map[[2]api.Elem]int{}
			for n := range uint64(16) {
				values := lo(n&3, n>>2)
				m, e := c.Fill([]int{i, j}, values)
				if e != api.OK || len(m) != 2 {
					t.Fatalf("Fill(%d, %d): %v", i, j, e)
				}
				seen[[2]api.Elem(m)]++
				if w := word(t, c, m); w[i] != values[0] || w[j] != values[1] {
					t.Errorf("Fill(%d, %d), %v: %v", i, j, values, m)
				}
			}
			if len(seen) != 16 {
				t.Errorf("Fill(%d, %d): %d messages", i, j, len(seen))
			}
		}
	}
}

// 8.3: the greatest codes.
func TestFillOfGreatCodes(t *testing.T) {
	rnd := rand.New(rand.NewPCG(8, 3))
	for _, level := range []int{4, 7} {
		for _, k := range []int{0, 8, 10} {
			c := of(t, level, k, 10-k)
			m := draw(rnd, level, c.Size())
			places := rnd.Perm(c.Long())[:c.Size()]
			if got, e := c.Fill(places, at(word(t, c, m), places)); e != api.OK || !slices.Equal(got, m) {
				t.Errorf("Fill, level %d, %d: %v", level, k, e)
			}
		}
	}
}

// 8.3: each error, and which one is told first.
func TestFillErrors(t *testing.T) {
	codes(t, 5, func(rnd *rand.Rand, c *code.Code, level, k, r int) {
		size, long := c.Size(), c.Long()
		places, values := rnd.Perm(long)[:size], draw(rnd, level, size)
		fill := func(what string, p []int, v []api.Elem, want api.Errno) {
			t.Helper()
			refused(t, what, want)(c.Fill(p, v))
		}
		fewer, more := places[:size-1], append(slices.Clone(places), -1)
		fill("no places", nil, values, api.ErrSize)
		fill("no values", places, nil, api.ErrSize)
		fill("nothing", nil, nil, api.ErrSize)
		fill("too few places", fewer, values, api.ErrSize)
		fill("too many places, one of which is none", more, values, api.ErrSize)
		fill("too few values", places, values[1:], api.ErrSize)
		fill("too many values", places, append(slices.Clone(values), api.Elem{}), api.ErrSize)
		fill("too few of both", fewer, values[1:], api.ErrSize)
		fill("too many of both", more, append(slices.Clone(values), api.Elem{}), api.ErrSize)
		for _, i := range []int{0, size - 1} {
			for _, j := range noPlaces(long) {
				bad := slices.Clone(places)
				bad[i] = j
				fill("no place", bad, values, api.ErrNone)
				fill("no place, too few values", bad, values[1:], api.ErrSize)
			}
		}
		for _, wrong := range tooHigh(level) {
			for i := range size {
				bad := slices.Clone(values)
				bad[i] = wrong
				fill("no element", places, bad, api.ErrField)
				fill("no element, too few places", fewer, bad, api.ErrSize)
				none := slices.Clone(places)
				none[size-1] = long
				fill("no element, no place", none, bad, api.ErrNone)
			}
		}
	})
}

// 8.3: places that are there twice.
func TestFillTwice(t *testing.T) {
	codes(t, 5, func(rnd *rand.Rand, c *code.Code, level, k, r int) {
		size, long := c.Size(), c.Long()
		if size < 2 {
			return
		}
		values := draw(rnd, level, size)
		values[1] = values[0]
		places := rnd.Perm(long)[:size]
		for i := 1; i < size; i++ {
			twice := slices.Clone(places)
			twice[i] = twice[0]
			refused(t, "a place twice", api.ErrTwice)(c.Fill(twice, values))
			for _, wrong := range tooHigh(level) {
				bad := slices.Clone(values)
				bad[0] = wrong
				refused(t, "a place twice, no element", api.ErrTwice)(c.Fill(twice, bad))
			}
			refused(t, "a place twice, too few values", api.ErrSize)(c.Fill(twice, values[1:]))
			if i+1 < size {
				twice[size-1] = long
				refused(t, "a place twice, and behind it none", api.ErrNone)(c.Fill(twice, values))
			}
		}
		for _, none := range noPlaces(long) {
			both := slices.Clone(places)
			both[0], both[1] = none, none
			refused(t, "none, and twice", api.ErrNone)(c.Fill(both, values))
		}
	})
}
