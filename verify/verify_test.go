package verify_test

import (
	"math/rand/v2"
	"reflect"
	"slices"
	"strings"
	"testing"

	"steeple/api"
	"steeple/gadget"
	"steeple/perm"
	"steeple/proof"
	"steeple/prove"
	"steeple/tower"
	"steeple/verify"
	"steeple/witness"
)

// tables are made once for all tests.
var tables = perm.Make()

// sample is something that is proved.
type sample struct {
	p      api.Params
	s      api.System
	public [][]uint64
	x      api.Proof
}

// proved is a sample of a system and what is given.
func proved(t *testing.T, p api.Params, s api.System, given [][]uint64) sample {
	t.Helper()
	x, e := prove.Prove(tables, p, s, given)
	if e != api.OK {
		t.Fatalf("Prove(%v, %v): %v", p, s, e)
	}
	return sample{p, s, given[:s.Public], x}
}

// adder is a sample of an adder of words of 8 bits, two rows.
func adder(t *testing.T, level int) sample {
	t.Helper()
	s, _, _ := gadget.Adder(3, 1)
	p := api.Params{Level: level, Rows: min(1, 7-level), Rate: 1, Queries: 5}
	return proved(t, p, s, [][]uint64{{200, 3}, {44, 2}, {100, 255}})
}

// check is what Check says of a sample; nothing of it may be changed by that.
func (c sample) check(t *testing.T) api.Errno {
	t.Helper()
	public, x, gates := copied(c.public), deep(c.x), slices.Clone(c.s.Gates)
	e := verify.Check(tables, c.p, c.s, c.public, c.x)
	if !reflect.DeepEqual(copied(c.public), public) || !reflect.DeepEqual(deep(c.x), x) || !slices.Equal(c.s.Gates, gates) {
		t.Errorf("Check has changed what it was handed")
	}
	return e
}

// bytes are the four texts of a sample.
func (c sample) bytes(t *testing.T) (params, system, public, text string) {
	t.Helper()
	params, e := proof.Params(c.p)
	system, f := proof.System(c.s)
	public, g := proof.Words(c.public)
	text, h := proof.Proof(c.p.Level, c.x)
	if e != api.OK || f != api.OK || g != api.OK || h != api.OK {
		t.Fatalf("bytes: %v, %v, %v, %v", e, f, g, h)
	}
	return params, system, public, text
}

// with is a sample whose proof is spoilt.
func (c sample) with(spoil func(x *api.Proof)) sample {
	c.x = deep(c.x)
	spoil(&c.x)
	return c
}

// copied is columns in memory of their own.
func copied(l [][]uint64) [][]uint64 {
	out := make([][]uint64, len(l))
	for k := range l {
		out[k] = slices.Clone(l[k])
	}
	return out
}

// deep is a proof in memory of its own.
func deep(x api.Proof) api.Proof {
	for _, l := range lists(&x) {
		*l = slices.Clone(*l)
	}
	for _, l := range rounds(&x) {
		*l = slices.Clone(*l)
		for i := range *l {
			(*l)[i] = slices.Clone((*l)[i])
		}
	}
	x.Open.Proof = slices.Clone(x.Open.Proof)
	return x
}

// lists are the lists of elements of a proof, by their names.
func lists(x *api.Proof) map[string]*[]api.Elem {
	return map[string]*[]api.Elem{"Wires": &x.Wires, "Parts": &x.Parts, "Row": &x.Open.Row}
}

// rounds are the lists of lists of a proof, by their names.
func rounds(x *api.Proof) map[string]*[][]api.Elem {
	return map[string]*[][]api.Elem{"Zero": &x.Zero, "Claim": &x.Claim, "Ring": &x.Ring, "Cols": &x.Open.Cols}
}

// elems are all elements of a proof.
func elems(x *api.Proof) []*api.Elem {
	out := []*api.Elem{&x.Value, &x.Packed}
	for _, name := range []string{"Wires", "Parts", "Row"} {
		l := *lists(x)[name]
		for i := range l {
			out = append(out, &l[i])
		}
	}
	for _, name := range []string{"Zero", "Claim", "Ring", "Cols"} {
		for _, l := range *rounds(x)[name] {
			for i := range l {
				out = append(out, &l[i])
			}
		}
	}
	return out
}

// turned is a text with one bit turned.
func turned(s string, bit int) string {
	b := []byte(s)
	b[bit/8] ^= 1 << (bit % 8)
	return string(b)
}

// 31.1: each error, and which comes first.
func TestErrors(t *testing.T) {
	good := adder(t, 5)
	if e := good.check(t); e != api.OK {
		t.Fatalf("what is proved: %v", e)
	}
	noGate := good.s
	noGate.Gates = nil
	short, great := copied(good.public)[:1], copied(good.public)
	great[1][0] = 256
	greatAndShort := [][]uint64{{256, 0}, {1}}
	unfit := good.with(func(x *api.Proof) { x.Wires = x.Wires[1:] }).x
	rejected := good.with(func(x *api.Proof) { x.Value.Lo ^= 1 }).x
	for _, c := range []struct {
		what   string
		t      *perm.Tables
		p      api.Params
		s      api.System
		public [][]uint64
		x      api.Proof
		want   api.Errno
	}{
		{"nothing wrong", tables, good.p, good.s, good.public, good.x, api.OK},
		{"no tables", nil, good.p, good.s, good.public, good.x, api.ErrArg},
		{"no tables, no gate", nil, good.p, noGate, good.public, good.x, api.ErrArg},
		{"nothing at all", nil, api.Params{}, api.System{}, nil, api.Proof{}, api.ErrArg},
		{"no parameters", tables, api.Params{}, noGate, short, unfit, api.ErrArg},
		{"no system", tables, good.p, api.System{Wide: 2, Cols: 1, Private: 1, Gates: []api.Gate{{Kind: 9}}}, short, unfit, api.ErrForm},
		{"no gate", tables, good.p, noGate, greatAndShort, unfit, api.ErrSize},
		{"too many rows", tables, api.Params{Level: 5, Rows: 3, Rate: 1, Queries: 5}, good.s, great, unfit, api.ErrSize},
		{"no code", tables, api.Params{Level: 2, Rate: 1, Queries: 5}, good.s, short, unfit, api.ErrLong},
		{"no public columns", tables, good.p, good.s, nil, good.x, api.ErrSize},
		{"too few public columns", tables, good.p, good.s, short, good.x, api.ErrSize},
		{"too many public columns", tables, good.p, good.s, [][]uint64{{200, 3}, {44, 2}, {100, 255}}, good.x, api.ErrSize},
		{"too few words", tables, good.p, good.s, [][]uint64{{200, 3}, {44}}, good.x, api.ErrSize},
		{"too many words", tables, good.p, good.s, [][]uint64{{200, 3, 0}, {44, 2}}, good.x, api.ErrSize},
		{"no words", tables, good.p, good.s, [][]uint64{nil, {}}, good.x, api.ErrSize},
		{"a word that is too great, and too few words", tables, good.p, good.s, greatAndShort, unfit, api.ErrSize},
		{"a word that is too great", tables, good.p, good.s, great, good.x, api.ErrField},
		{"a word that is too great, and a proof that does not fit", tables, good.p, good.s, great, unfit, api.ErrField},
		{"a word that is far too great", tables, good.p, good.s, [][]uint64{{200, 3}, {44, 1 << 63}}, rejected, api.ErrField},
		{"a proof that does not fit", tables, good.p, good.s, good.public, unfit, api.ErrSize},
		{"no proof", tables, good.p, good.s, good.public, api.Proof{}, api.ErrSize},
		{"a proof that is not accepted", tables, good.p, good.s, good.public, rejected, api.ErrProof},
		{"the greatest word", tables, good.p, good.s, [][]uint64{{255, 255}, {255, 255}}, good.x, api.ErrProof},
	} {
		if e := verify.Check(c.t, c.p, c.s, c.public, c.x); e != c.want {
			t.Errorf("%s: %v, not %v", c.what, e, c.want)
		}
	}
}

// 31.1: each part of a proof too short, too long, and of another level.
func TestUnfitParts(t *testing.T) {
	for _, level := range []int{3, 5, 6, 7} {
		good := adder(t, level)
		want := func(what string, want api.Errno, spoil func(x *api.Proof)) {
			t.Helper()
			if e := good.with(spoil).check(t); e != want {
				t.Errorf("level %d, %s: %v, not %v", level, what, e, want)
			}
		}
		fit := map[string]api.Errno{"Row": api.ErrProof, "Cols": api.ErrProof, "Wires": api.ErrSize, "Parts": api.ErrSize, "Zero": api.ErrSize, "Claim": api.ErrSize, "Ring": api.ErrSize}
		for name := range lists(&good.x) {
			want(name+" too short", fit[name], func(x *api.Proof) { l := lists(x)[name]; *l = (*l)[1:] })
			want(name+" too long", fit[name], func(x *api.Proof) { l := lists(x)[name]; *l = append(*l, api.Elem{}) })
			want("no "+name, fit[name], func(x *api.Proof) { *lists(x)[name] = nil })
		}
		for name, l := range rounds(&good.x) {
			want(name+" too long", fit[name], func(x *api.Proof) { l := rounds(x)[name]; *l = append(*l, make([]api.Elem, 3)) })
			if len(*l) == 0 {
				continue
			}
			want(name+" too short", fit[name], func(x *api.Proof) { l := rounds(x)[name]; *l = (*l)[1:] })
			want("no "+name, fit[name], func(x *api.Proof) { *rounds(x)[name] = nil })
			for _, i := range []int{0, len(*l) - 1} {
				want(name+", one too short", fit[name], func(x *api.Proof) { l := *rounds(x)[name]; l[i] = l[i][1:] })
				want(name+", one too long", fit[name], func(x *api.Proof) { l := *rounds(x)[name]; l[i] = append(l[i], api.Elem{}) })
				want(name+", one of nothing", fit[name], func(x *api.Proof) { (*rounds(x)[name])[i] = nil })
			}
		}
		if level < 7 {
			for i := range elems(&good.x) {
				want("an element of another level", api.ErrSize, func(x *api.Proof) { *elems(x)[i] = api.Elem{Hi: 1} })
				want("an element of the next level", api.ErrSize, func(x *api.Proof) { e := elems(x)[i]; *e = tower.Add(*e, tower.Bit(1<<level)) })
			}
		}
		want("a Root of 31 bytes", api.ErrProof, func(x *api.Proof) { x.Root = x.Root[1:] })
		want("a Root of 33 bytes", api.ErrProof, func(x *api.Proof) { x.Root += "\x00" })
		want("no Root", api.ErrProof, func(x *api.Proof) { x.Root = "" })
		want("digests too few", api.ErrProof, func(x *api.Proof) {
			if len(x.Open.Proof) == 0 {
				x.Root = ""
				return
			}
			x.Open.Proof = x.Open.Proof[1:]
		})
		want("digests too many", api.ErrProof, func(x *api.Proof) { x.Open.Proof = append(x.Open.Proof, x.Root) })
	}
}

// 31.1: what is too long for a transcript is not accepted, and hinders nothing else.
func TestTooLongToBeSaid(t *testing.T) {
	good := adder(t, 5)
	for _, n := range []int{124999, 125000, 200000} {
		if e := good.with(func(x *api.Proof) { x.Open.Row = make([]api.Elem, n) }).check(t); e != api.ErrProof {
			t.Errorf("a Row of %d: %v", n, e)
		}
	}
	for _, n := range []int{500000, 500001, 2000000} {
		if e := good.with(func(x *api.Proof) { x.Root = strings.Repeat("r", n) }).check(t); e != api.ErrProof {
			t.Errorf("a Root of %d: %v", n, e)
		}
	}
}

// 31.1, 31.2: with one bit turned in any element or digest a proof is not accepted: all bits at level 5, one of each element at 6 and 7.
func TestBitsTurned(t *testing.T) {
	rnd := rand.New(rand.NewPCG(31, 1))
	for _, level := range []int{5, 6, 7} {
		good := adder(t, level)
		for i := range elems(&good.x) {
			bits := []int{rnd.IntN(1 << level)}
			if level == 5 {
				bits = []int{0, 1, 2, 3, 7, 12, 15, 16, 23, 31}
			}
			for _, bit := range bits {
				bad := good.with(func(x *api.Proof) { e := elems(x)[i]; *e = tower.Add(*e, tower.Bit(bit)) })
				if e := bad.check(t); e != api.ErrProof {
					t.Errorf("level %d, the bit %d of the element %d: %v", level, bit, i, e)
				}
			}
		}
		for bit := range 256 {
			if e := good.with(func(x *api.Proof) { x.Root = turned(x.Root, bit) }).check(t); e != api.ErrProof {
				t.Errorf("level %d, the bit %d of Root: %v", level, bit, e)
			}
		}
		for i := range good.x.Open.Proof {
			for range 8 {
				bit := rnd.IntN(256)
				if e := good.with(func(x *api.Proof) { x.Open.Proof[i] = turned(x.Open.Proof[i], bit) }).check(t); e != api.ErrProof {
					t.Errorf("level %d, the bit %d of the digest %d: %v", level, bit, i, e)
				}
			}
		}
	}
}

// 31.1: a proof is one of its system, its parameters and its public columns alone.
func TestOtherWords(t *testing.T) {
	good := adder(t, 5)
	for k := range good.public {
		for x := range good.public[k] {
			for bit := range 8 {
				other := good
				other.public = copied(good.public)
				other.public[k][x] ^= 1 << bit
				if e := other.check(t); e != api.ErrProof {
					t.Errorf("the bit %d of the word %d of the column %d: %v", bit, x, k, e)
				}
			}
		}
	}
	other := good
	other.p.Queries = 6
	if e := other.check(t); e != api.ErrProof {
		t.Errorf("another number of places: %v", e)
	}
	other = good
	other.s.Gates = slices.Clone(good.s.Gates)
	last := &other.s.Gates[len(other.s.Gates)-1]
	last.A, last.B = last.B, last.A
	if e := other.check(t); e != api.ErrProof {
		t.Errorf("another order of what is the same: %v", e)
	}
	// what the sum is not has no proof from any that is one of what it is
	other = good
	other.public = [][]uint64{{200, 3}, {45, 2}}
	if n, e := verify.Verify(other.bytes(t)); n != verify.Reject || e != api.ErrProof {
		t.Errorf("another sum: %d, %v", n, e)
	}
}

// 31.2: which of the four texts is malformed, and which of them comes first.
func TestVerify(t *testing.T) {
	good := adder(t, 5)
	a, b, c, d := good.bytes(t)
	if n, e := verify.Verify(a, b, c, d); n != verify.Accept || e != api.OK || verify.Accept != 0 || verify.Reject != 1 || verify.Malformed != 2 {
		t.Errorf("what is proved: %d, %v", n, e)
	}
	many := strings.Repeat("\x00", api.MaxText+1)
	for which := range 256 {
		// of each text two bits: as it is, nothing, a byte more, too many bytes
		texts := []string{a, b, c, d}
		want := api.OK
		for i := range texts {
			switch which >> (2 * i) & 3 {
			case 1:
				texts[i] = ""
			case 2:
				texts[i] += "\x00"
			case 3:
				texts[i] = many
			}
			if kind := which >> (2 * i) & 3; want == api.OK && kind != 0 {
				want = api.ErrForm
				if kind == 3 {
					want = api.ErrLong
				}
			}
		}
		n, e := verify.Verify(texts[0], texts[1], texts[2], texts[3])
		if e != want || (n == verify.Malformed) != (want != api.OK) || want == api.OK && n != verify.Accept {
			t.Errorf("texts %b: %d, %v, not %v", which, n, e, want)
		}
	}
}

// 31.2: a proof of another level; Check's errors; what is rejected.
func TestVerifyOfWhatIsRead(t *testing.T) {
	good := adder(t, 5)
	a, b, c, d := good.bytes(t)
	text := func(level int, x api.Proof) string {
		s, e := proof.Proof(level, x)
		if e != api.OK {
			t.Fatalf("Proof: %v", e)
		}
		return s
	}
	params := func(p api.Params) string {
		s, _ := proof.Params(p)
		return s
	}
	words := func(l ...[]uint64) string {
		s, _ := proof.Words(l)
		return s
	}
	system := func(s api.System) string {
		out, _ := proof.System(s)
		return out
	}
	noGate := good.s
	noGate.Gates = nil
	for _, x := range []struct {
		what                         string
		params, system, public, text string
		n                            int
		e                            api.Errno
	}{
		{"all as it is", a, b, c, d, verify.Accept, api.OK},
		{"a proof of the level above", a, b, c, text(6, good.x), verify.Malformed, api.ErrForm},
		{"a proof of the level above, of too few public columns", a, b, words(), text(7, good.x), verify.Malformed, api.ErrForm},
		{"parameters of the level below", params(api.Params{Level: 4, Rows: 1, Rate: 1, Queries: 5}), b, c, d, verify.Malformed, api.ErrForm},
		{"too many rows", params(api.Params{Level: 5, Rows: 3, Rate: 1, Queries: 5}), b, c, d, verify.Malformed, api.ErrSize},
		{"no gate", a, system(noGate), c, d, verify.Malformed, api.ErrSize},
		{"too few public columns", a, b, words([]uint64{200, 3}), d, verify.Malformed, api.ErrSize},
		{"no public columns", a, b, words(), d, verify.Malformed, api.ErrSize},
		{"too few words", a, b, words([]uint64{200}, []uint64{44}), d, verify.Malformed, api.ErrSize},
		{"a word that is too great", a, b, words([]uint64{200, 3}, []uint64{44, 256}), d, verify.Malformed, api.ErrField},
		{"a proof that does not fit", a, b, c, text(5, good.with(func(x *api.Proof) { x.Parts = x.Parts[1:] }).x), verify.Malformed, api.ErrSize},
		{"another sum", a, b, words([]uint64{200, 3}, []uint64{44, 3}), d, verify.Reject, api.ErrProof},
		{"another Value", a, b, c, text(5, good.with(func(x *api.Proof) { x.Value.Lo ^= 2 }).x), verify.Reject, api.ErrProof},
		{"another Root", a, b, c, text(5, good.with(func(x *api.Proof) { x.Root = turned(x.Root, 7) }).x), verify.Reject, api.ErrProof},
		{"a Row that is too short", a, b, c, text(5, good.with(func(x *api.Proof) { x.Open.Row = nil }).x), verify.Reject, api.ErrProof},
		{"parameters of other places", params(api.Params{Level: 5, Rows: 1, Rate: 1, Queries: 6}), b, c, d, verify.Reject, api.ErrProof},
		{"a grid that may not be", params(api.Params{Level: 2, Rate: 1, Queries: 5}), b, c, text(2, api.Proof{Root: good.x.Root}), verify.Malformed, api.ErrLong},
	} {
		if n, e := verify.Verify(x.params, x.system, x.public, x.text); n != x.n || e != x.e {
			t.Errorf("%s: %d, %v, not %d, %v", x.what, n, e, x.n, x.e)
		}
	}
}

// 31.2, 31.4: no other bytes of an accepted proof are accepted; Verify says of each what Check says.
func TestVerifyBits(t *testing.T) {
	good := adder(t, 5)
	a, b, c, d := good.bytes(t)
	counts := map[int]int{}
	for i := 0; i < 8*len(d); i += 3 {
		s := turned(d, i)
		n, e := verify.Verify(a, b, c, s)
		counts[n]++
		level, x, f := proof.ReadProof(s)
		want := verify.Malformed
		if f == api.OK && level != 5 {
			f = api.ErrForm
		} else if f == api.OK {
			f = verify.Check(tables, good.p, good.s, good.public, x)
		}
		if f == api.ErrProof {
			want = verify.Reject
		}
		if n != want || e != f || f == api.OK {
			t.Errorf("the bit %d: %d, %v, not %d, %v", i, n, e, want, f)
		}
	}
	if counts[verify.Accept] != 0 || counts[verify.Reject] == 0 || counts[verify.Malformed] == 0 {
		t.Errorf("%v", counts)
	}
	for long := range len(d) {
		if n, e := verify.Verify(a, b, c, d[:long]); n != verify.Malformed || e != api.ErrForm {
			t.Errorf("%d bytes: %d, %v", long, n, e)
		}
	}
}

// most is how many bytes an accepted proof has at most, part by part.
func most(p api.Params, s api.System) int {
	plan, e := prove.Shape(p, s)
	if e != api.OK {
		return 0
	}
	hidden, _ := prove.Hidden(s)
	w := max(1, 1<<p.Level/8)
	list := func(n int) int { return 4 + n*w }
	height := plan.Grid.Cols + plan.Grid.Rate
	q := min(p.Queries, 1<<height)
	return 4 + 4 + 32 + 4 + plan.Corners*list(plan.Degree+1) + list(len(hidden)) + 4 + (s.Wide+s.Cols)*list(3) + list(1) + list(1<<p.Level) + 4 + (plan.Vars-p.Level)*list(3) + list(1) + list(1<<plan.Grid.Cols) + 4 + q*list(1<<plan.Grid.Rows) + 4 + q*height*36
}

// drawn is a drawn system of xors, ands, turns and sums, and what is given to it.
func drawn(rnd *rand.Rand) (api.System, [][]uint64) {
	s := api.System{Wide: rnd.IntN(6), Rows: rnd.IntN(5), Cols: 1 + rnd.IntN(5), Public: rnd.IntN(2), Private: 1}
	s.Public = min(s.Public+rnd.IntN(2), 1<<s.Cols-1)
	there := s.Public + s.Private
	for range 1 + rnd.IntN(5) {
		a, b := rnd.IntN(there), rnd.IntN(there)
		g := []api.Gate{
			{Kind: api.GateXor, Dst: there, A: a, B: b},
			{Kind: api.GateAnd, Dst: there, A: a, B: b},
			{Kind: api.GateNot, Dst: there, A: a},
			{Kind: api.GateLeft, Dst: there, A: a, S: rnd.IntN(1 << s.Wide)},
			{Kind: api.GateRight, Dst: there, A: a, S: rnd.IntN(1 << s.Wide)},
			{Kind: api.GateRound, Dst: there, A: a, S: rnd.IntN(1 << s.Wide)},
			{Kind: api.GateAdd, Dst: there, A: a, B: b, S: there + 1},
			{Kind: api.GateSame, A: a, B: a},
		}[rnd.IntN(8)]
		n := map[int]int{api.GateAdd: 2, api.GateSame: 0}
		made, other := n[g.Kind]
		if !other {
			made = 1
		}
		if there+made <= 1<<s.Cols {
			s.Gates = append(s.Gates, g)
			there += made
		}
	}
	given := make([][]uint64, s.Public+s.Private)
	for k := range given {
		given[k] = make([]uint64, 1<<s.Rows)
		for x := range given[k] {
			given[k][x] = rnd.Uint64() & (1<<(1<<s.Wide) - 1)
		}
	}
	return s, given
}

// The whole: the adder of words of 4 bits holds for a 9, b 8, s 1; its proof is accepted at each level that has room for it, and with a bit of Value turned it is rejected, or its bytes are no proof's.
func TestExamples(t *testing.T) {
	s, _, _ := gadget.Adder(2, 0)
	for level := 2; level <= 5; level++ {
		p := api.Params{Level: level, Rows: min(1, 5-level), Rate: 1, Queries: 5}
		c := proved(t, p, s, [][]uint64{{9}, {1}, {8}})
		a, b, w, d := c.bytes(t)
		if n, e := verify.Verify(a, b, w, d); n != verify.Accept || e != api.OK {
			t.Errorf("level %d: %d, %v", level, n, e)
		}
		if _, e := prove.Prove(tables, p, s, [][]uint64{{9}, {2}, {8}}); e != api.ErrRule {
			t.Errorf("level %d, another sum: %v", level, e)
		}
		for bit := range 1 << level {
			bad := c.with(func(x *api.Proof) { x.Value.Lo ^= 1 << bit })
			if e := bad.check(t); e != api.ErrProof {
				t.Errorf("level %d, the bit %d of Value: %v", level, bit, e)
			}
		}
	}
}

// 31.3, 31.4: what is proved is accepted, and has no more than Bytes; with one place alone it has just as many.
func TestAcceptedProofs(t *testing.T) {
	rnd := rand.New(rand.NewPCG(31, 2))
	n, just := 0, 0
	for tried := 0; n < 150 && tried < 20000; tried++ {
		s, given := drawn(rnd)
		p := api.Params{Level: 2 + rnd.IntN(6), Rows: rnd.IntN(7), Rate: 1 + rnd.IntN(3), Queries: 1 + rnd.IntN(64)}
		if rnd.IntN(3) == 0 {
			p.Queries = 1
		}
		if got := verify.Bytes(p, s); got != most(p, s) {
			t.Errorf("Bytes(%v, %v): %d, not %d", p, s, got, most(p, s))
		}
		if _, e := prove.Shape(p, s); e != api.OK {
			continue
		}
		n++
		c := proved(t, p, s, given)
		if e := c.check(t); e != api.OK {
			t.Errorf("%v, %v: %v", p, s, e)
		}
		a, b, w, d := c.bytes(t)
		if n, e := verify.Verify(a, b, w, d); n != verify.Accept || e != api.OK {
			t.Errorf("%v, %v: %d, %v", p, s, n, e)
		}
		if len(d) > verify.Bytes(p, s) || p.Queries == 1 && len(d) != verify.Bytes(p, s) {
			t.Errorf("%v, %v: %d bytes of %d", p, s, len(d), verify.Bytes(p, s))
		}
		if len(d) == verify.Bytes(p, s) {
			just++
		}
	}
	if n < 150 || just == 0 || just == n {
		t.Errorf("%d proofs of %d have as many bytes as there may be", just, n)
	}
}

// 31.3
func TestBytes(t *testing.T) {
	s, _, _ := gadget.Adder(2, 1)
	noGate := s
	noGate.Gates = nil
	for i, x := range []struct {
		p api.Params
		s api.System
	}{
		{api.Params{}, api.System{}},
		{api.Params{}, s},
		{api.Params{Level: 3, Rows: 1, Rate: 2, Queries: 65}, s},
		{api.Params{Level: 3, Rows: 1, Rate: 2, Queries: 3}, api.System{}},
		{api.Params{Level: 3, Rows: 1, Rate: 2, Queries: 3}, api.System{Wide: 6}},
		{api.Params{Level: 3, Rows: 1, Rate: 2, Queries: 3}, noGate},
		{api.Params{Level: 7, Rate: 1, Queries: 3}, s},
		{api.Params{Level: 3, Rows: 4, Rate: 1, Queries: 3}, s},
		{api.Params{Level: 2, Rate: 1, Queries: 3}, s},
	} {
		if n := verify.Bytes(x.p, x.s); n != 0 {
			t.Errorf("Bytes %d of what may not be: %d", i, n)
		}
	}
	// by hand: level 3, 6 variables, 3 corners, degree 3, a grid of 2 rows of 4 elements, words of 16; 4 hidden wires
	want := 4 + 36 + (4 + 3*8) + 8 + (4 + 5*7) + 5 + 12 + (4 + 3*7) + 5 + 8 + (4 + 3*6) + (4 + 3*4*36)
	if n := verify.Bytes(api.Params{Level: 3, Rows: 1, Rate: 2, Queries: 3}, s); n != want {
		t.Errorf("Bytes: %d, not %d", n, want)
	}
	// more places than a word has
	few, _, _ := gadget.Adder(1, 0)
	if n, m := verify.Bytes(api.Params{Level: 2, Rate: 1, Queries: 64}, few), verify.Bytes(api.Params{Level: 2, Rate: 1, Queries: 8}, few); n != m || n == verify.Bytes(api.Params{Level: 2, Rate: 1, Queries: 7}, few) {
		t.Errorf("Bytes of all places: %d, %d", n, m)
	}
}

// 31.4: the gadgets at each level that has room for them, with what holds and with what does not.
func TestGadgets(t *testing.T) {
	rnd := rand.New(rand.NewPCG(31, 3))
	for level := 2; level <= 7; level++ {
		for wide := range 6 {
			for rows := range 3 {
				chain := func(wide, rows int) (api.System, []string, api.Errno) { return gadget.Chain(wide, rows, 3) }
				for name, lay := range map[string]func(int, int) (api.System, []string, api.Errno){"adder": gadget.Adder, "choose": gadget.Choose, "chain": chain} {
					s, _, _ := lay(wide, rows)
					p := api.Params{Level: level, Rows: rnd.IntN(3), Rate: 1 + rnd.IntN(3), Queries: 1 + rnd.IntN(8)}
					if _, e := prove.Shape(p, s); e != api.OK {
						continue
					}
					given := held(rnd, s)
					c := proved(t, p, s, given)
					if e := c.check(t); e != api.OK {
						t.Errorf("%s, %v: %v", name, p, e)
					}
					given[0][0] ^= 1
					if _, e := prove.Prove(tables, p, s, given); e != api.ErrRule {
						t.Errorf("%s, %v, of what does not hold: %v", name, p, e)
					}
				}
			}
		}
	}
}

// held is drawn words for which a gadget holds: its last gate is told which public column is made.
func held(rnd *rand.Rand, s api.System) [][]uint64 {
	given := make([][]uint64, s.Public+s.Private)
	for k := range given {
		given[k] = make([]uint64, 1<<s.Rows)
		for x := range given[k] {
			given[k][x] = rnd.Uint64() & (1<<(1<<s.Wide) - 1)
		}
	}
	free := s
	last := free.Gates[len(free.Gates)-1]
	free.Gates = free.Gates[:len(free.Gates)-1]
	all, _ := witness.Run(free, given)
	made, told := max(last.A, last.B), min(last.A, last.B)
	copy(given[told], all[made])
	return given
}
