package weave_test

import (
	"math/rand/v2"
	"slices"
	"testing"

	"steeple/api"
	"steeple/tower"
	"steeple/weave"
)

// modelGather goes bit by bit.
func modelGather(from, to int, l []api.Elem) []api.Elem {
	out := make([]api.Elem, len(l)>>(to-from))
	for i, x := range l {
		for b, bit := range tower.Bits(from, x) {
			if bit {
				at := i<<from + b
				out[at>>to] = tower.Add(out[at>>to], tower.Bit(at&(1<<to-1)))
			}
		}
	}
	return out
}

// upward hands on all pairs of levels, the second not below the first.
func upward(look func(from, to int)) {
	for from := range 8 {
		for to := from; to < 8; to++ {
			look(from, to)
		}
	}
}

// 9.3, 9.4
func TestGatherAndScatter(t *testing.T) {
	rnd := rand.New(rand.NewPCG(9, 7))
	upward(func(from, to int) {
		for n := range 5 {
			small := draw(rnd, from, n<<(to-from))
			kept := slices.Clone(small)
			great, e := weave.Gather(from, to, small)
			if e != api.OK || len(great) != n || !slices.Equal(great, modelGather(from, to, small)) || !slices.Equal(small, kept) {
				t.Errorf("Gather(%d, %d, %v): %v, %v", from, to, small, great, e)
			}
			kept = slices.Clone(great)
			again, e := weave.Scatter(from, to, great)
			if e != api.OK || !slices.Equal(again, small) || !slices.Equal(great, kept) {
				t.Errorf("Scatter(%d, %d, %v): %v, %v", from, to, great, again, e)
			}
			drawn := draw(rnd, to, n)
			apart, e := weave.Scatter(from, to, drawn)
			whole, f := weave.Gather(from, to, apart)
			if e != api.OK || f != api.OK || len(apart) != n<<(to-from) || !slices.Equal(whole, drawn) {
				t.Errorf("Scatter(%d, %d, %v): %v, %v", from, to, drawn, apart, e)
			}
		}
	})
}

// 9.3
func TestLevelErrors(t *testing.T) {
	lists := [][]api.Elem{nil, {}, lo(1), lo(1, 0, 1), lo(2, 3), {{Hi: 1 << 63}}}
	refuse := func(from, to int) {
		t.Helper()
		for _, l := range lists {
			refused(t, "Gather", api.ErrArg)(weave.Gather(from, to, l))
			refused(t, "Scatter", api.ErrArg)(weave.Scatter(from, to, l))
		}
	}
	for _, none := range noLevels {
		for level := range 8 {
			refuse(none, level)
			refuse(level, none)
		}
		for _, other := range noLevels {
			refuse(none, other)
		}
	}
	for from := range 8 {
		for to := range from {
			refuse(from, to)
		}
	}
}

// 9.3: each error, and which one is told first.
func TestGatherErrors(t *testing.T) {
	upward(func(from, to int) {
		refused(t, "nothing", api.OK)(weave.Gather(from, to, nil))
		refused(t, "nothing", api.OK)(weave.Gather(from, to, []api.Elem{}))
		each := 1 << (to - from)
		for _, n := range []int{1, 2, 3, each - 1, each + 1, each / 2, each + each/2, 3*each - 1} {
			if n%each != 0 {
				refused(t, "some are left", api.ErrSize)(weave.Gather(from, to, make([]api.Elem, n)))
			}
		}
		for _, wrong := range tooHigh(from) {
			for i := range 2 * each {
				l := make([]api.Elem, 2*each)
				l[i] = wrong
				refused(t, "no element", api.ErrField)(weave.Gather(from, to, l))
				if each > 1 {
					refused(t, "no element, and some are left", api.ErrSize)(weave.Gather(from, to, append(l, wrong)))
				}
			}
		}
	})
}

// 9.3
func TestScatterErrors(t *testing.T) {
	upward(func(from, to int) {
		refused(t, "nothing", api.OK)(weave.Scatter(from, to, nil))
		refused(t, "nothing", api.OK)(weave.Scatter(from, to, []api.Elem{}))
		for _, wrong := range tooHigh(to) {
			for i := range 3 {
				l := make([]api.Elem, 3)
				l[i] = wrong
				refused(t, "no element", api.ErrField)(weave.Scatter(from, to, l))
			}
		}
	})
}

// 9.3
func TestBits(t *testing.T) {
	rnd := rand.New(rand.NewPCG(9, 8))
	for level := range 8 {
		refused(t, "no bits", api.OK)(weave.Bits(level, nil))
		refused(t, "no bits", api.OK)(weave.Bits(level, []bool{}))
		for n := range 4 {
			want := draw(rnd, level, n)
			var bits []bool
			for _, x := range want {
				bits = append(bits, tower.Bits(level, x)...)
			}
			kept := slices.Clone(bits)
			if got, e := weave.Bits(level, bits); e != api.OK || !slices.Equal(got, want) || !slices.Equal(bits, kept) {
				t.Errorf("Bits(%d, %v): %v, %v", level, bits, got, e)
			}
			if level > 0 {
				refused(t, "a bit is left", api.ErrSize)(weave.Bits(level, append(bits, true)))
			}
		}
	}
	for _, level := range noLevels {
		for _, bits := range [][]bool{nil, {}, {true}, {false, true}} {
			refused(t, "no level", api.ErrArg)(weave.Bits(level, bits))
		}
	}
}

// The chapter's example, and edges of the greatest level.
func TestGatherExamples(t *testing.T) {
	for _, x := range []struct {
		from, to     int
		small, great []api.Elem
	}{
		{1, 3, lo(1, 2, 3, 0), lo(0x39)},
		{2, 2, lo(15, 0, 7), lo(15, 0, 7)},
		{6, 7, lo(1<<63, 1), []api.Elem{{Hi: 1, Lo: 1 << 63}}},
		{7, 7, []api.Elem{{Hi: 1 << 63, Lo: 5}}, []api.Elem{{Hi: 1 << 63, Lo: 5}}},
		{5, 7, lo(1, 2, 3, 4), []api.Elem{{Hi: 4<<32 | 3, Lo: 2<<32 | 1}}},
	} {
		if got, e := weave.Gather(x.from, x.to, x.small); e != api.OK || !slices.Equal(got, x.great) {
			t.Errorf("Gather(%d, %d, %v): %v, %v", x.from, x.to, x.small, got, e)
		}
		if got, e := weave.Scatter(x.from, x.to, x.great); e != api.OK || !slices.Equal(got, x.small) {
			t.Errorf("Scatter(%d, %d, %v): %v, %v", x.from, x.to, x.great, got, e)
		}
	}
}
