package packv_test

import (
	"math/rand/v2"
	"slices"
	"testing"

	"steeple/api"
	"steeple/packv"
	"steeple/tower"
)

// refused asks for an error, and for nothing beside it.
func refused(t *testing.T, what string, level int, want api.Errno) func(packv.Tensor, api.Errno) {
	return func(got packv.Tensor, e api.Errno) {
		t.Helper()
		if e != want || len(got) != 0 {
			t.Errorf("%s of level %d: %v, %v, not %v", what, level, got, e, want)
		}
	}
}

// allRefuse asks for one error of all calls with one tensor, that may stand on either side, and an element beside it.
func allRefuse(t *testing.T, level int, l packv.Tensor, a api.Elem, other packv.Tensor, want api.Errno) {
	t.Helper()
	refused(t, "Add", level, want)(packv.Add(level, l, other))
	refused(t, "Add", level, want)(packv.Add(level, other, l))
	refused(t, "Times", level, want)(packv.Times(level, l, other))
	refused(t, "Times", level, want)(packv.Times(level, other, l))
	refused(t, "ByLeft", level, want)(packv.ByLeft(level, l, a))
	refused(t, "ByRight", level, want)(packv.ByRight(level, l, a))
	refused(t, "Turned", level, want)(packv.Turned(level, l))
}

// 19.1: levels that are none come first.
func TestErrArg(t *testing.T) {
	for _, level := range noLevels {
		for _, l := range []packv.Tensor{nil, {}, lo(1), lo(1, 0), {tower.Bit(127)}, make(packv.Tensor, 128), make(packv.Tensor, 256)} {
			for _, a := range []api.Elem{{}, tower.One(), tower.Bit(127)} {
				allRefuse(t, level, l, a, l, api.ErrArg)
				allRefuse(t, level, l, a, nil, api.ErrArg)
			}
		}
	}
}

// 19.1: tensors of no parts, of one less and of one more, ahead of parts and elements that are not of the level.
func TestErrSize(t *testing.T) {
	for level := range 8 {
		n := 1 << level
		for _, e := range append(tooHigh(level), api.Elem{}) {
			l := slices.Repeat(packv.Tensor{e}, 300)
			for _, m := range []int{0, n - 1, n + 1, 2 * n, 300} {
				allRefuse(t, level, l[:m], api.Elem{}, make(packv.Tensor, n), api.ErrSize)
				allRefuse(t, level, l[:m], e, l[:n], api.ErrSize)
				allRefuse(t, level, l[:m], e, l[:m], api.ErrSize)
			}
			allRefuse(t, level, nil, e, l[:n], api.ErrSize)
		}
		if level > 0 {
			// A tensor of a level is none of the next one.
			allRefuse(t, level, packv.One(level-1), api.Elem{}, packv.One(level), api.ErrSize)
		}
	}
}

// 19.1: a part that is not of the level, wherever it stands, and an element beside the tensor, also where the product would be 0.
func TestErrField(t *testing.T) {
	for level := range 8 {
		zeros := make(packv.Tensor, 1<<level)
		for _, e := range tooHigh(level) {
			for u := range zeros {
				allRefuse(t, level, put(zeros, u, e), api.Elem{}, zeros, api.ErrField)
				allRefuse(t, level, put(zeros, u, e), e, put(zeros, 0, e), api.ErrField)
			}
			for _, l := range []packv.Tensor{zeros, packv.One(level)} {
				refused(t, "ByLeft", level, api.ErrField)(packv.ByLeft(level, l, e))
				refused(t, "ByRight", level, api.ErrField)(packv.ByRight(level, l, e))
			}
		}
	}
}

// R3: what is handed in is as it was, also behind its end, and shares nothing with what is answered.
func TestNothingIsChanged(t *testing.T) {
	rnd := rand.New(rand.NewPCG(19, 11))
	for level := range 8 {
		n := 1 << level
		room := drawn(rnd, level, 4*n+40)
		before := slices.Clone(room)
		s, u, w, p, q := packv.Tensor(room[:n]), packv.Tensor(room[n:2*n]), room[2*n:3*n], room[3*n:3*n+5], room[3*n+5:3*n+10]
		var answers []packv.Tensor
		keep := func(got packv.Tensor, e api.Errno) { answers = append(answers, there(t, got, e)) }
		keep(packv.Add(level, s, u))
		keep(packv.Add(level, s, s))
		keep(packv.Times(level, s, u))
		keep(packv.Times(level, s, s))
		keep(packv.Times(level, s, packv.One(level)))
		keep(packv.ByLeft(level, s, tower.One()))
		keep(packv.ByRight(level, s, tower.One()))
		keep(packv.Turned(level, s))
		keep(packv.Alike(level, p, q))
		keep(packv.Alike(level, nil, nil))
		keep(packv.Sum(level, p, q), api.OK)
		keep(packv.Left(level, p[0]), api.OK)
		keep(packv.Right(level, p[0]), api.OK)
		keep(packv.One(level), api.OK)
		if _, e := packv.Fold(level, s, w); e != api.OK {
			t.Errorf("Fold(%d): %v", level, e)
		}
		if !slices.Equal(room, before) {
			t.Errorf("level %d: what was handed in has changed", level)
		}
		kept := make([]packv.Tensor, len(answers))
		for i := range answers {
			kept[i] = slices.Clone(answers[i])
		}
		for i := range answers {
			if !slices.Equal(answers[i], kept[i]) {
				t.Errorf("level %d: the answer %d shares memory with another one", level, i)
			}
			clear(append(answers[i], tower.One()))
			clear(answers[i])
		}
		if !slices.Equal(room, before) {
			t.Errorf("level %d: an answer shares memory with what was handed in", level)
		}
	}
}

// R4: the pairs of a level are pairs of each above: their tensors have more parts, the same ones first.
func TestLevelsAbove(t *testing.T) {
	rnd := rand.New(rand.NewPCG(19, 12))
	for level := range 8 {
		a, b, p, q := tensor(rnd, level), tensor(rnd, level), drawn(rnd, level, 4), drawn(rnd, level, 4)
		alike, e := packv.Alike(level, p, q)
		for above := level; above < 8; above++ {
			wide := func(l packv.Tensor) packv.Tensor {
				return append(slices.Clone(l), make(packv.Tensor, 1<<above-1<<level)...)
			}
			is(t, "Times", times(t, above, wide(a), wide(b)), api.OK, wide(times(t, level, a, b)))
			got, f := packv.Alike(above, p, q)
			is(t, "Alike", got, f, wide(there(t, alike, e)))
			is(t, "Sum", packv.Sum(above, p, q), api.OK, wide(alike))
		}
	}
}
