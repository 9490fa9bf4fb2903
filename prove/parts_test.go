package prove_test

import (
	"math/rand/v2"
	"reflect"
	"slices"
	"testing"

	"steeple/api"
	"steeple/circuit"
	"steeple/claim"
	"steeple/cube"
	"steeple/gadget"
	"steeple/octet"
	"steeple/pcs"
	"steeple/proof"
	"steeple/prove"
	"steeple/ring"
	"steeple/sumcheck"
	"steeple/talk"
	"steeple/tower"
	"steeple/witness"
	"steeple/zero"
)

// asker says the parts of a proof, and asks behind each.
type asker struct {
	*talk.Talk
	level int
}

func (k asker) say(label string, l ...api.Elem) {
	k.Say(label, octet.Elems(k.level, l))
}

func (k asker) rounds(label string, rounds [][]api.Elem) []api.Elem {
	var l []api.Elem
	for _, v := range rounds {
		k.say(label, v...)
		l = append(l, k.Elem(k.level))
	}
	return l
}

// factors is x0 x1.
var factors = []api.Op{{Kind: api.OpVar}, {Kind: api.OpVar, A: 1}, {Kind: api.OpMul, B: 1}}

// proved is the proof of what a composition sums up to for elements, and the sum.
func proved(t *testing.T, level int, l []api.Op, tables [][]api.Elem, r []api.Elem) (sumcheck.Proof, api.Elem) {
	t.Helper()
	x, e := sumcheck.Prove(level, l, tables, r)
	s, f := sumcheck.Sum(level, l, tables)
	if e != api.OK || f != api.OK {
		t.Fatalf("sumcheck: %v, %v", e, f)
	}
	return x, s
}

// sameRounds tells whether two lists of rounds are the same.
func sameRounds(a, b [][]api.Elem) bool {
	return slices.EqualFunc(a, b, slices.Equal[[]api.Elem])
}

// hiddenBits are the bits of columns, 0 in the public ones, told one by one.
func hiddenBits(s api.System, all [][]uint64) []bool {
	bits := make([]bool, 1<<(s.Wide+s.Rows+s.Cols))
	for k := s.Public; k < len(all); k++ {
		for x, word := range all[k] {
			for y := range 1 << s.Wide {
				bits[y+x<<s.Wide+k<<(s.Wide+s.Rows)] = word>>y&1 == 1
			}
		}
	}
	return bits
}

// asElems are bits as elements.
func asElems(bits []bool) []api.Elem {
	l := make([]api.Elem, len(bits))
	for i, is := range bits {
		if is {
			l[i] = tower.One()
		}
	}
	return l
}

// mixedRows is a table of bits whose rows are mixed by the weights at r: the bit y of the column k.
func mixedRows(level int, s api.System, bits []bool, r []api.Elem) []api.Elem {
	weights := cube.Weights(level, r)
	out := make([]api.Elem, 1<<(s.Wide+s.Cols))
	for k := range 1 << s.Cols {
		for y := range 1 << s.Wide {
			for x, w := range weights {
				if bits[y+x<<s.Wide+k<<(s.Wide+s.Rows)] {
					out[k<<s.Wide+y] = tower.Add(out[k<<s.Wide+y], w)
				}
			}
		}
	}
	return out
}

// checkZero holds Zero and Wires against the words; it answers z.
func checkZero(t *testing.T, k asker, s api.System, all [][]uint64, x api.Proof) []api.Elem {
	t.Helper()
	a, rho := k.Elem(k.level), k.Elems(k.level, s.Wide+s.Rows)
	z := k.rounds("zero", x.Zero)
	conds, _ := circuit.Conds(s)
	wires, _ := circuit.Wires(s)
	tables, _ := witness.Tables(s, all)
	l, e := zero.Mix(k.level, len(wires), conds, a)
	if e != api.OK || len(z) != s.Wide+s.Rows {
		t.Fatalf("%v: %v, %d rounds", s, e, len(z))
	}
	want, sum := proved(t, k.level, l, append(tables, cube.Weights(k.level, rho)), z)
	if !sameRounds(want.Rounds, x.Zero) || sum != (api.Elem{}) {
		t.Errorf("%v: Zero is %v", s, x.Zero)
	}
	var values []api.Elem
	for _, w := range wires {
		if w.Col >= s.Public {
			bits, _ := witness.Wire(s, all, w)
			v, _ := cube.At(k.level, asElems(bits), z)
			values = append(values, v)
		}
	}
	if !slices.Equal(values, x.Wires) {
		t.Errorf("%v: Wires are %v, not %v", s, x.Wires, values)
	}
	return z
}

// checkClaim holds Claim and Value against the words; it answers the point of all variables.
func checkClaim(t *testing.T, k asker, s api.System, bits []bool, x api.Proof, z []api.Elem) []api.Elem {
	t.Helper()
	k.say("wires", x.Wires...)
	b := k.Elem(k.level)
	q := k.rounds("claim", x.Claim)
	hidden, _ := prove.Hidden(s)
	mask, e := claim.Mask(k.level, s.Cols, s.Wide, hidden, z[:s.Wide], b)
	if e != api.OK || len(q) != s.Wide+s.Cols {
		t.Fatalf("%v: %v, %d rounds", s, e, len(q))
	}
	want, sum := proved(t, k.level, factors, [][]api.Elem{mixedRows(k.level, s, bits, z[s.Wide:]), mask}, q)
	if !sameRounds(want.Rounds, x.Claim) || want.Ends[0] != x.Value {
		t.Errorf("%v: Claim is %v, Value %v", s, x.Claim, x.Value)
	}
	for i := range hidden {
		hidden[i].Val = x.Wires[i]
	}
	if total, _ := claim.Total(k.level, hidden, b); total != sum {
		t.Errorf("%v: the total is %v, the sum %v", s, total, sum)
	}
	point := slices.Concat(q[:s.Wide], z[s.Wide:], q[s.Wide:])
	if v, _ := cube.At(k.level, asElems(bits), point); v != x.Value {
		t.Errorf("%v: Value is %v, not %v", s, x.Value, v)
	}
	return point
}

// checkRing holds Parts, Ring and Packed against the words; it answers u.
func checkRing(t *testing.T, k asker, plan prove.Plan, bits []bool, x api.Proof, point []api.Elem) []api.Elem {
	t.Helper()
	k.say("value", x.Value)
	k.say("parts", x.Parts...)
	r := k.Elems(k.level, k.level)
	u := k.rounds("ring", x.Ring)
	low, high := point[:k.level], point[k.level:]
	packed, e := ring.Pack(k.level, bits)
	parts, f := ring.Parts(k.level, bits, high)
	mask, g := ring.Mask(k.level, high, r)
	if e != api.OK || f != api.OK || g != api.OK || len(u) != plan.Vars-plan.Level {
		t.Fatalf("%v: %v, %v, %v, %d rounds", plan, e, f, g, len(u))
	}
	want, sum := proved(t, k.level, factors, [][]api.Elem{packed, mask}, u)
	if !slices.Equal(parts, x.Parts) || !sameRounds(want.Rounds, x.Ring) || want.Ends[0] != x.Packed {
		t.Errorf("%v: Parts %v, Ring %v, Packed %v", plan, x.Parts, x.Ring, x.Packed)
	}
	value, _ := ring.Value(k.level, parts, low)
	batched, _ := ring.Batch(k.level, parts, r)
	if value != x.Value || batched != sum {
		t.Errorf("%v: the parts say %v and %v", plan, value, batched)
	}
	return u
}

// checkOpen holds Root and Open against the words.
func checkOpen(t *testing.T, k asker, plan prove.Plan, queries int, bits []bool, x api.Proof, u []api.Elem) {
	t.Helper()
	k.say("packed", x.Packed)
	k.say("row", x.Open.Row...)
	places := k.Places(plan.Grid.Cols+plan.Grid.Rate, queries)
	packed, _ := ring.Pack(k.level, bits)
	store, e := pcs.Commit(tables, plan.Grid, packed)
	if e != api.OK || store.Root() != x.Root {
		t.Errorf("%v: Root is %x, %v", plan, x.Root, e)
	}
	o, e := store.Open(u[len(u)-plan.Grid.Rows:], places)
	if e != api.OK || !slices.Equal(o.Row, x.Open.Row) || !sameRounds(o.Cols, x.Open.Cols) || !slices.Equal(o.Proof, x.Open.Proof) {
		t.Errorf("%v: Open is %v, %v", plan, x.Open, e)
	}
	if v, e := store.Value(u); e != api.OK || v != x.Packed {
		t.Errorf("%v: Packed is %v, not %v", plan, x.Packed, v)
	}
}

// checkProof proves a system for what is given, and holds each part of the proof against the words.
func checkProof(t *testing.T, p api.Params, s api.System, given [][]uint64) {
	t.Helper()
	plan, e := prove.Shape(p, s)
	all, f := witness.Run(s, given)
	if e != api.OK || f != api.OK {
		t.Fatalf("%v, %v: %v, %v", p, s, e, f)
	}
	before := copied(given)
	x, e := prove.Prove(tables, p, s, given)
	if e != api.OK || !reflect.DeepEqual(given, before) {
		t.Fatalf("Prove(%v, %v): %v", p, s, e)
	}
	bits := hiddenBits(s, all)
	k := asker{begun(p, s, given[:s.Public], x.Root), p.Level}
	z := checkZero(t, k, s, all, x)
	point := checkClaim(t, k, s, bits, x, z)
	u := checkRing(t, k, plan, bits, x, point)
	checkOpen(t, k, plan, p.Queries, bits, x, u)
	if _, e := proof.Proof(p.Level, x); e != api.OK {
		t.Errorf("%v, %v: the proof has no bytes: %v", p, s, e)
	}
	if again, e := prove.Prove(tables, p, s, given); e != api.OK || !reflect.DeepEqual(x, again) {
		t.Errorf("%v, %v: another proof each time", p, s)
	}
}

// 30.2, 30.3: drawn systems of all sizes at all levels.
func TestProofsPartByPart(t *testing.T) {
	rnd := rand.New(rand.NewPCG(30, 3))
	n := 0
	for tried := 0; n < 150 && tried < 20000; tried++ {
		wide, rows, cols := rnd.IntN(6), rnd.IntN(5), rnd.IntN(7)
		public := rnd.IntN(min(3, 1<<cols))
		s := drawn(rnd, wide, rows, cols, public, rnd.IntN(min(3, 1<<cols-public+1)), 1+rnd.IntN(6))
		level := 2 + rnd.IntN(6)
		p := api.Params{Level: level, Rows: rnd.IntN(7), Rate: 1 + rnd.IntN(3), Queries: 1 + rnd.IntN(64)}
		if _, e := prove.Shape(p, s); e != api.OK {
			continue
		}
		n++
		checkProof(t, p, s, given(rnd, s))
	}
	if n < 150 {
		t.Errorf("%d systems have a plan", n)
	}
}

// 30.2: the edges: one corner, one column, one element, one row, all rows; no wire that is hidden; no column that is public; columns that no gate makes.
func TestProofsAtTheEdges(t *testing.T) {
	rnd := rand.New(rand.NewPCG(30, 4))
	same := []api.Gate{{Kind: api.GateSame}}
	for _, x := range []struct {
		p api.Params
		s api.System
	}{
		{api.Params{Level: 2, Rate: 2, Queries: 3}, chain(api.GateAnd, 0, 0, 4, 5)},
		{api.Params{Level: 2, Rate: 1, Queries: 3}, api.System{Rows: 2, Private: 1, Gates: same}},
		{api.Params{Level: 2, Rate: 1, Queries: 3}, api.System{Rows: 2, Public: 1, Gates: same}},
		{api.Params{Level: 2, Rate: 1, Queries: 3}, api.System{Wide: 2, Public: 1, Gates: same}},
		{api.Params{Level: 7, Rate: 3, Queries: 64}, chain(api.GateAnd, 3, 2, 2, 1)},
		{api.Params{Level: 4, Rows: 0, Rate: 1, Queries: 64}, chain(api.GateAnd, 3, 2, 3, 3)},
		{api.Params{Level: 4, Rows: 4, Rate: 1, Queries: 64}, chain(api.GateAnd, 3, 2, 3, 3)},
		{api.Params{Level: 6, Rows: 6, Rate: 1, Queries: 1}, chain(api.GateAnd, 5, 4, 3, 1)},
		{api.Params{Level: 3, Rows: 2, Rate: 1, Queries: 5}, api.System{Wide: 2, Rows: 1, Cols: 2, Public: 2, Gates: []api.Gate{{Kind: api.GateSame}, {Kind: api.GateSame, A: 1, B: 1}}}},
		{api.Params{Level: 3, Rows: 2, Rate: 1, Queries: 5}, api.System{Wide: 2, Rows: 1, Cols: 2, Public: 4, Gates: same}},
		{api.Params{Level: 5, Rows: 1, Rate: 1, Queries: 5}, api.System{Wide: 3, Rows: 1, Cols: 3, Public: 1, Private: 6, Gates: []api.Gate{{Kind: api.GateRight, Dst: 7, S: 3}}}},
		{api.Params{Level: 3, Rows: 1, Rate: 1, Queries: 5}, api.System{Cols: 6, Public: 2, Gates: []api.Gate{{Kind: api.GateAdd, Dst: 2, B: 1, S: 3}}}},
	} {
		checkProof(t, x.p, x.s, given(rnd, x.s))
	}
	// the example: two rounds
	s := api.System{Wide: 2, Cols: 2, Public: 1, Private: 1, Gates: []api.Gate{{Kind: api.GateNot, Dst: 2}}}
	if x, e := prove.Prove(tables, api.Params{Level: 2, Rate: 1, Queries: 1}, s, [][]uint64{{5}, {3}}); e != api.OK || len(x.Zero) != 2 {
		t.Errorf("the example: %d rounds, %v", len(x.Zero), e)
	}
}

// noProof asks for an error of Prove, and for nothing beside it.
func noProof(t *testing.T, p api.Params, s api.System, given [][]uint64, want api.Errno) {
	t.Helper()
	before := copied(given)
	if x, e := prove.Prove(tables, p, s, given); e != want || !reflect.DeepEqual(x, api.Proof{}) || !reflect.DeepEqual(copied(given), before) {
		t.Errorf("Prove(%v, %v): %v, not %v", p, given, e, want)
	}
	if x, e := prove.Prove(nil, p, s, given); e != api.ErrArg || !reflect.DeepEqual(x, api.Proof{}) {
		t.Errorf("Prove(%v, %v) without tables: %v", p, given, e)
	}
}

// 30.2, 30.3: what does not hold has no proof, nor has what is not given as it must be.
func TestNoProofs(t *testing.T) {
	adder, _, _ := gadget.Adder(2, 1)
	p := api.Params{Level: 3, Rows: 1, Rate: 2, Queries: 3}
	for _, x := range []struct {
		given [][]uint64
		want  api.Errno
	}{
		{nil, api.ErrSize},
		{[][]uint64{{9, 3}, {1, 5}}, api.ErrSize},
		{[][]uint64{{9, 3}, {1, 5}, {8, 2}, {0, 0}}, api.ErrSize},
		{[][]uint64{{9, 3}, {1, 5}, {8}}, api.ErrSize},
		{[][]uint64{{9, 3, 0}, {1, 5}, {8, 2}}, api.ErrSize},
		{[][]uint64{{16, 3}, {1, 5}, {8}}, api.ErrSize},
		{[][]uint64{{16, 3}, {1, 5}, {8, 2}}, api.ErrField},
		{[][]uint64{{9, 3}, {1, 6}, {8, 1 << 63}}, api.ErrField},
		{[][]uint64{{9, 3}, {1, 6}, {8, 2}}, api.ErrRule},
		{[][]uint64{{9, 3}, {0, 5}, {8, 2}}, api.ErrRule},
	} {
		noProof(t, p, adder, x.given, x.want)
	}
	good := [][]uint64{{9, 3}, {1, 5}, {8, 2}}
	noProof(t, api.Params{}, adder, good, api.ErrArg)
	noProof(t, api.Params{Level: 3, Rows: 4, Rate: 2, Queries: 3}, adder, good, api.ErrSize)
	noProof(t, api.Params{Level: 2, Rate: 1, Queries: 3}, adder, good, api.ErrLong)
	noProof(t, p, api.System{Wide: 6}, nil, api.ErrArg)
}

// 30.3: of all words of a small system, just those that hold have a proof.
func TestWhatHoldsIsProved(t *testing.T) {
	adder, _, _ := gadget.Adder(1, 0)
	p := api.Params{Level: 2, Rate: 1, Queries: 2}
	for a := range uint64(4) {
		for s := range uint64(4) {
			for b := range uint64(4) {
				want := api.ErrRule
				if (a+b)%4 == s {
					want = api.OK
				}
				if _, e := prove.Prove(tables, p, adder, [][]uint64{{a}, {s}, {b}}); e != want {
					t.Errorf("%d, %d, %d: %v", a, s, b, e)
				}
			}
		}
	}
}

// R3: what is answered shares no memory with another answer, and no two of its lists share any.
func TestProofsAreNew(t *testing.T) {
	adder, _, _ := gadget.Adder(2, 1)
	p := api.Params{Level: 3, Rows: 1, Rate: 2, Queries: 3}
	good := [][]uint64{{9, 3}, {1, 5}, {8, 2}}
	x, _ := prove.Prove(tables, p, adder, good)
	y, _ := prove.Prove(tables, p, adder, good)
	lists := slices.Concat(x.Zero, x.Claim, x.Ring, x.Open.Cols, [][]api.Elem{x.Wires, x.Parts, x.Open.Row})
	for i, l := range lists {
		// what is appended to one must not be in another
		_ = append(l, api.Elem{Hi: 1})
		for j := range l {
			l[j] = api.Elem{Hi: uint64(i), Lo: uint64(j)}
		}
	}
	for i, l := range lists {
		for j := range l {
			if l[j] != (api.Elem{Hi: uint64(i), Lo: uint64(j)}) {
				t.Errorf("list %d shares memory", i)
			}
		}
	}
	if z, _ := prove.Prove(tables, p, adder, good); !reflect.DeepEqual(y, z) {
		t.Errorf("two answers share memory")
	}
	h, _ := prove.Hidden(adder)
	h[0].Col = 77
	if g, _ := prove.Hidden(adder); g[0].Col == 77 {
		t.Errorf("Hidden is kept")
	}
}
