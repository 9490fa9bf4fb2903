package judge_test

import (
	"math/rand/v2"
	"reflect"
	"slices"
	"strings"
	"testing"

	"steeple/api"
	"steeple/gadget"
	"steeple/judge"
	"steeple/perm"
	"steeple/prove"
	"steeple/tower"
	"steeple/verify"
)

// tables are made once for all tests.
var tables = perm.Make()

// sample is something that is proved.
type sample struct {
	p      api.Params
	s      api.System
	public [][]uint64
	x      api.Proof
}

// proved is a sample of a system and what is given.
func proved(t *testing.T, p api.Params, s api.System, given [][]uint64) sample {
	t.Helper()
	x, e := prove.Prove(tables, p, s, given)
	if e != api.OK {
		t.Fatalf("Prove(%v, %v): %v", p, s, e)
	}
	return sample{p, s, given[:s.Public], x}
}

// samples are some at each level, of all sizes: of one corner, one column, no hidden wire, one element.
func samples(t *testing.T) []sample {
	t.Helper()
	var l []sample
	add := func(p api.Params, s api.System, given ...[]uint64) { l = append(l, proved(t, p, s, given)) }
	adder, _, _ := gadget.Adder(2, 1)
	small, _, _ := gadget.Adder(1, 0)
	wide, _, _ := gadget.Adder(3, 1)
	add(api.Params{Level: 2, Rate: 1, Queries: 3}, small, []uint64{3}, []uint64{1}, []uint64{2})
	add(api.Params{Level: 2, Rows: 1, Rate: 2, Queries: 1}, small, []uint64{0}, []uint64{3}, []uint64{3})
	for _, level := range []int{2, 3, 4, 5, 6} {
		add(api.Params{Level: level, Rows: max(0, 4-level), Rate: 1, Queries: 2}, adder, []uint64{9, 3}, []uint64{1, 5}, []uint64{8, 2})
	}
	for _, level := range []int{3, 5, 7} {
		add(api.Params{Level: level, Rows: min(1, 7-level), Rate: 1, Queries: 4}, wide, []uint64{200, 3}, []uint64{44, 2}, []uint64{100, 255})
	}
	and := func(n int) api.Gate { return api.Gate{Kind: api.GateAnd, Dst: n, A: n - 2, B: n - 1} }
	add(api.Params{Level: 2, Rate: 1, Queries: 2}, api.System{Cols: 3, Public: 1, Private: 1, Gates: []api.Gate{and(2), and(3)}}, []uint64{1}, []uint64{1})
	add(api.Params{Level: 2, Rate: 1, Queries: 2}, api.System{Rows: 2, Private: 1, Gates: []api.Gate{{Kind: api.GateSame}}}, []uint64{1, 0, 1, 1})
	add(api.Params{Level: 2, Rate: 1, Queries: 2}, api.System{Wide: 2, Rows: 1, Public: 1, Gates: []api.Gate{{Kind: api.GateSame}}}, []uint64{7, 9})
	turned := api.System{Wide: 2, Cols: 2, Public: 1, Private: 1, Gates: []api.Gate{{Kind: api.GateRound, Dst: 2, A: 0, S: 3}, {Kind: api.GateRight, Dst: 3, A: 0, S: 1}, {Kind: api.GateSame, A: 1, B: 2}}}
	add(api.Params{Level: 3, Rows: 1, Rate: 1, Queries: 2}, turned, []uint64{6}, []uint64{3})
	return l
}

// deep is a proof in memory of its own.
func deep(x api.Proof) api.Proof {
	for _, l := range []*[]api.Elem{&x.Wires, &x.Parts, &x.Open.Row} {
		*l = slices.Clone(*l)
	}
	for _, l := range []*[][]api.Elem{&x.Zero, &x.Claim, &x.Ring, &x.Open.Cols} {
		*l = slices.Clone(*l)
		for i := range *l {
			(*l)[i] = slices.Clone((*l)[i])
		}
	}
	x.Open.Proof = slices.Clone(x.Open.Proof)
	return x
}

// copied is columns in memory of their own.
func copied(l [][]uint64) [][]uint64 {
	out := make([][]uint64, len(l))
	for k := range l {
		out[k] = slices.Clone(l[k])
	}
	return out
}

// with is a sample whose proof is spoilt.
func (c sample) with(spoil func(x *api.Proof)) sample {
	c.x = deep(c.x)
	spoil(&c.x)
	return c
}

// elems are all elements of a proof.
func elems(x *api.Proof) []*api.Elem {
	out := []*api.Elem{&x.Value, &x.Packed}
	for _, l := range slices.Concat([][]api.Elem{x.Wires, x.Parts, x.Open.Row}, x.Zero, x.Claim, x.Ring, x.Open.Cols) {
		for i := range l {
			out = append(out, &l[i])
		}
	}
	return out
}

// judged holds Ask, Step and Check of a sample against the model; it answers the step.
func judged(t *testing.T, what string, c sample) int {
	t.Helper()
	public, x, gates := copied(c.public), deep(c.x), slices.Clone(c.s.Gates)
	m := newModel(tables, c.p, c.s, c.public, c.x)
	asked, e := judge.Ask(tables, c.p, c.s, c.public, c.x)
	step, f := judge.Step(tables, c.p, c.s, c.public, c.x)
	g := verify.Check(tables, c.p, c.s, c.public, c.x)
	if e != api.OK || !reflect.DeepEqual(smooth(asked), smooth(m.asked)) {
		t.Errorf("%s: Ask: %v, %v, not %v", what, asked, e, m.asked)
	}
	if want := m.step(); f != api.OK || step != want {
		t.Errorf("%s: Step: %d, %v, not %d", what, step, f, want)
	}
	if (g == api.OK) != (step == 0) || g != api.OK && g != api.ErrProof {
		t.Errorf("%s: Step: %d, Check: %v", what, step, g)
	}
	if !reflect.DeepEqual(copied(c.public), public) || !reflect.DeepEqual(deep(c.x), x) || !slices.Equal(c.s.Gates, gates) {
		t.Errorf("%s: what was handed in has changed", what)
	}
	return step
}

// smooth is what was asked, nothing of it nil.
func smooth(a judge.Asked) judge.Asked {
	for _, l := range []*[]api.Elem{&a.Rho, &a.Z, &a.Q, &a.R, &a.U, &a.Point} {
		*l = append([]api.Elem{}, *l...)
	}
	a.Places = append([]int{}, a.Places...)
	return a
}

// 34.1, 34.3: what is proved fails in no step.
func TestNoStepFails(t *testing.T) {
	for i, c := range samples(t) {
		if step := judged(t, "what is proved", c); step != 0 {
			t.Errorf("sample %d: step %d fails", i, step)
		}
	}
}

// 34.1, 34.3, and 31.1: at each level, with one bit turned in each element and digest, the steps are those of the model, and each of them fails first somewhere.
func TestEachStep(t *testing.T) {
	rnd := rand.New(rand.NewPCG(34, 1))
	counts := map[int]int{}
	for _, c := range samples(t) {
		for i := range elems(&c.x) {
			bit := rnd.IntN(1 << c.p.Level)
			bad := c.with(func(x *api.Proof) { e := elems(x)[i]; *e = tower.Add(*e, tower.Bit(bit)) })
			counts[judged(t, "an element", bad)]++
		}
		for i := range c.x.Open.Proof {
			bad := c.with(func(x *api.Proof) { x.Open.Proof[i] = strings.Repeat("d", 32) })
			counts[judged(t, "a digest", bad)]++
		}
		counts[judged(t, "Root", c.with(func(x *api.Proof) { x.Root = "r" + x.Root[1:] }))]++
	}
	for step := 1; step <= 5; step++ {
		if counts[step] == 0 {
			t.Errorf("step %d never fails first: %v", step, counts)
		}
	}
}

// 34.1, and 31.1: in small levels some of what is spoilt is not seen by a step: what is drawn whole, in one part or in all of them, is judged as the model does.
func TestDrawnParts(t *testing.T) {
	rnd := rand.New(rand.NewPCG(34, 2))
	elem := func(level int) api.Elem { return api.Elem{Lo: rnd.Uint64() & (1<<(1<<level) - 1)} }
	counts := map[int]int{}
	for _, c := range samples(t) {
		if c.p.Level > 3 {
			continue
		}
		for range 400 {
			part := rnd.IntN(10)
			bad := c.with(func(x *api.Proof) {
				lists := [][][]api.Elem{x.Zero, {x.Wires}, x.Claim, {x.Parts}, x.Ring, {x.Open.Row}, x.Open.Cols}
				for n, l := range lists {
					if part != n && part != 9 {
						continue
					}
					for _, v := range l {
						for i := range v {
							v[i] = elem(c.p.Level)
						}
						// rounds that the first question lets through now and then
						if rnd.IntN(2) == 0 && len(v) > 2 {
							v[1] = v[0]
						}
					}
				}
				if part == 7 || part == 9 {
					x.Value = elem(c.p.Level)
				}
				if part == 8 || part == 9 {
					x.Packed = elem(c.p.Level)
				}
			})
			counts[judged(t, "a drawn part", bad)]++
		}
	}
	for step := 1; step <= 5; step++ {
		if counts[step] == 0 {
			t.Errorf("step %d never fails first: %v", step, counts)
		}
	}
}

// 34.1: each step that fails first, by the part that is spoilt.
func TestWhichStepFails(t *testing.T) {
	one := func(e *api.Elem) { *e = tower.Add(*e, tower.One()) }
	for _, c := range samples(t) {
		if c.p.Level < 5 {
			continue
		}
		for _, x := range []struct {
			what  string
			spoil func(x *api.Proof)
			steps []int
		}{
			{"Zero", func(x *api.Proof) { one(&x.Zero[0][0]) }, []int{1}},
			{"Zero's last", func(x *api.Proof) { l := x.Zero[len(x.Zero)-1]; one(&l[len(l)-1]) }, []int{1}},
			{"Wires", func(x *api.Proof) { one(&x.Wires[0]) }, []int{1}},
			{"Claim", func(x *api.Proof) { one(&x.Claim[0][0]) }, []int{2}},
			{"Claim's last", func(x *api.Proof) { l := x.Claim[len(x.Claim)-1]; one(&l[2]) }, []int{2}},
			{"Value", func(x *api.Proof) { one(&x.Value) }, []int{2, 3}},
			{"Parts", func(x *api.Proof) { one(&x.Parts[0]) }, []int{3}},
			{"Packed", func(x *api.Proof) { one(&x.Packed) }, []int{4}},
			{"Row", func(x *api.Proof) { one(&x.Open.Row[0]) }, []int{5}},
			{"no Row", func(x *api.Proof) { x.Open.Row = nil }, []int{5}},
			{"Cols", func(x *api.Proof) { one(&x.Open.Cols[0][0]) }, []int{5}},
			{"no Cols", func(x *api.Proof) { x.Open.Cols = nil }, []int{5}},
			{"a column too short", func(x *api.Proof) { x.Open.Cols[0] = x.Open.Cols[0][1:] }, []int{5}},
			{"digests", func(x *api.Proof) { x.Open.Proof = append(x.Open.Proof, x.Root) }, []int{5}},
			{"a long Row", func(x *api.Proof) { x.Open.Row = make([]api.Elem, 200000) }, []int{5}},
			{"Root", func(x *api.Proof) { x.Root = strings.Repeat("r", 32) }, []int{1}},
			{"no Root", func(x *api.Proof) { x.Root = "" }, []int{1}},
			{"a long Root", func(x *api.Proof) { x.Root = strings.Repeat("r", 600000) }, []int{1}},
		} {
			if step := judged(t, x.what, c.with(x.spoil)); !slices.Contains(x.steps, step) {
				t.Errorf("level %d, %s: step %d, none of %v", c.p.Level, x.what, step, x.steps)
			}
		}
		if len(c.x.Ring) > 0 {
			if step := judged(t, "Ring", c.with(func(x *api.Proof) { one(&x.Ring[0][0]) })); step != 4 {
				t.Errorf("level %d, Ring: step %d", c.p.Level, step)
			}
		}
		other := c
		other.public = copied(c.public)
		other.public[0][0] ^= 1
		if step := judged(t, "other public columns", other); step != 1 {
			t.Errorf("level %d, other public columns: step %d", c.p.Level, step)
		}
	}
}

// 34.1: the errors of Check, and nothing beside them.
func TestErrors(t *testing.T) {
	s, _, _ := gadget.Adder(3, 1)
	good := proved(t, api.Params{Level: 5, Rows: 1, Rate: 1, Queries: 4}, s, [][]uint64{{200, 3}, {44, 2}, {100, 255}})
	noGate := good.s
	noGate.Gates = nil
	unfit := good.with(func(x *api.Proof) { x.Parts = x.Parts[1:] }).x
	field := good.with(func(x *api.Proof) { x.Packed.Hi = 1 }).x
	for _, c := range []struct {
		what   string
		t      *perm.Tables
		p      api.Params
		s      api.System
		public [][]uint64
		x      api.Proof
		want   api.Errno
	}{
		{"no tables", nil, good.p, good.s, good.public, good.x, api.ErrArg},
		{"nothing", nil, api.Params{}, api.System{}, nil, api.Proof{}, api.ErrArg},
		{"no parameters", tables, api.Params{}, noGate, nil, unfit, api.ErrArg},
		{"no system", tables, good.p, api.System{Wide: 2, Cols: 1, Private: 1, Gates: []api.Gate{{Kind: 9}}}, nil, unfit, api.ErrForm},
		{"no gate", tables, good.p, noGate, good.public, good.x, api.ErrSize},
		{"no code", tables, api.Params{Level: 2, Rate: 1, Queries: 4}, good.s, good.public, good.x, api.ErrLong},
		{"no public columns", tables, good.p, good.s, nil, good.x, api.ErrSize},
		{"too few words", tables, good.p, good.s, [][]uint64{{256, 3}, {44}}, good.x, api.ErrSize},
		{"a word that is too great", tables, good.p, good.s, [][]uint64{{200, 3}, {44, 256}}, unfit, api.ErrField},
		{"a proof that does not fit", tables, good.p, good.s, good.public, unfit, api.ErrSize},
		{"an element of another level", tables, good.p, good.s, good.public, field, api.ErrSize},
		{"no proof", tables, good.p, good.s, good.public, api.Proof{}, api.ErrSize},
	} {
		if a, e := judge.Ask(c.t, c.p, c.s, c.public, c.x); e != c.want || !reflect.DeepEqual(a, judge.Asked{}) {
			t.Errorf("%s: Ask: %v, %v, not %v", c.what, a, e, c.want)
		}
		if n, e := judge.Step(c.t, c.p, c.s, c.public, c.x); e != c.want || n != 0 {
			t.Errorf("%s: Step: %d, %v, not %v", c.what, n, e, c.want)
		}
		if e := verify.Check(c.t, c.p, c.s, c.public, c.x); e != c.want {
			t.Errorf("%s: Check: %v, not %v", c.what, e, c.want)
		}
		for _, pair := range [][2]api.Proof{{c.x, c.x}, {c.x, good.x}, {good.x, c.x}} {
			if a, b, is := judge.Twin(c.t, c.p, c.s, c.public, pair[0], pair[1]); is || a != "" || b != "" {
				t.Errorf("%s: Twin: %x, %x", c.what, a, b)
			}
		}
	}
}

// R3: what is answered is new.
func TestAnswersAreNew(t *testing.T) {
	s, _, _ := gadget.Adder(3, 1)
	c := proved(t, api.Params{Level: 5, Rows: 1, Rate: 1, Queries: 4}, s, [][]uint64{{200, 3}, {44, 2}, {100, 255}})
	a, _ := judge.Ask(tables, c.p, c.s, c.public, c.x)
	b, _ := judge.Ask(tables, c.p, c.s, c.public, c.x)
	kept := smooth(b)
	lists := [][]api.Elem{a.Rho, a.Z, a.Q, a.R, a.U, a.Point}
	for i, l := range lists {
		_ = append(l, api.Elem{Hi: 1})
		for j := range l {
			l[j] = api.Elem{Hi: uint64(i), Lo: uint64(j)}
		}
	}
	for i, l := range lists {
		for j := range l {
			if l[j] != (api.Elem{Hi: uint64(i), Lo: uint64(j)}) {
				t.Errorf("list %d shares memory", i)
			}
		}
	}
	a.Places[0] = -1
	if !reflect.DeepEqual(smooth(b), kept) {
		t.Errorf("two answers share memory")
	}
}
