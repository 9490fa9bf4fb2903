package proof_test

import (
	"encoding/binary"
	"math"
	"math/rand/v2"
	"reflect"
	"slices"
	"strings"
	"testing"

	"steeple/api"
	"steeple/proof"
)

// noLevels are numbers that are no level.
var noLevels = []int{-1, 8, 9, 64, math.MinInt, math.MaxInt}

// writer puts bytes together by the words of the document, byte by byte.
type writer []byte

func (w *writer) num(l ...int) {
	for _, n := range l {
		*w = binary.BigEndian.AppendUint32(*w, uint32(n))
	}
}

func (w *writer) text(s string) {
	w.num(len(s))
	*w = append(*w, s...)
}

func (w *writer) elems(level int, l ...api.Elem) {
	w.num(len(l))
	for _, e := range l {
		b := binary.LittleEndian.AppendUint64(nil, e.Lo)
		b = binary.LittleEndian.AppendUint64(b, e.Hi)
		*w = append(*w, b[:(1<<level+7)/8]...)
	}
}

func (w *writer) lists(level int, l [][]api.Elem) {
	w.num(len(l))
	for _, x := range l {
		w.elems(level, x...)
	}
}

func (w *writer) proof(level int, p api.Proof) {
	w.num(level)
	w.text(p.Root)
	w.lists(level, p.Zero)
	w.elems(level, p.Wires...)
	w.lists(level, p.Claim)
	w.elems(level, p.Value)
	w.elems(level, p.Parts...)
	w.lists(level, p.Ring)
	w.elems(level, p.Packed)
	w.elems(level, p.Open.Row...)
	w.lists(level, p.Open.Cols)
	w.num(len(p.Open.Proof))
	for _, s := range p.Open.Proof {
		w.text(s)
	}
}

// elem is a drawn element of a level.
func elem(rnd *rand.Rand, level int) api.Elem {
	e := api.Elem{Hi: rnd.Uint64(), Lo: rnd.Uint64()}
	if level < 7 {
		e = api.Elem{Lo: e.Lo & (1<<(1<<level) - 1)}
	}
	return e
}

// elems are n drawn elements of a level.
func elems(rnd *rand.Rand, level, n int) []api.Elem {
	l := make([]api.Elem, n)
	for i := range l {
		l[i] = elem(rnd, level)
	}
	return l
}

// digest is drawn bytes, as many as a digest has.
func digest(rnd *rand.Rand) string {
	b := make([]byte, 32)
	for i := range b {
		b[i] = byte(rnd.Uint32())
	}
	return string(b)
}

// drawn is a drawn proof of a shape for a level, whose lists have at most n members.
func drawn(rnd *rand.Rand, level, n int) api.Proof {
	lists := func() [][]api.Elem {
		l := make([][]api.Elem, rnd.IntN(n+1))
		for i := range l {
			l[i] = elems(rnd, level, rnd.IntN(n+1))
		}
		return l
	}
	list := func() []api.Elem { return elems(rnd, level, rnd.IntN(n+1)) }
	p := api.Proof{Root: digest(rnd), Zero: lists(), Wires: list(), Claim: lists(), Value: elem(rnd, level), Parts: list(), Ring: lists(), Packed: elem(rnd, level)}
	p.Open = api.Opening{Row: list(), Cols: lists()}
	for range rnd.IntN(n + 1) {
		p.Open.Proof = append(p.Open.Proof, digest(rnd))
	}
	return p
}

// smooth is a proof whose empty lists are all nil, so that what is the same is deeply equal.
func smooth(p api.Proof) api.Proof {
	for _, l := range []*[]api.Elem{&p.Wires, &p.Parts, &p.Open.Row} {
		*l = append([]api.Elem(nil), *l...)
	}
	for _, l := range []*[][]api.Elem{&p.Zero, &p.Claim, &p.Ring, &p.Open.Cols} {
		var own [][]api.Elem
		for _, x := range *l {
			own = append(own, append([]api.Elem(nil), x...))
		}
		*l = own
	}
	p.Open.Proof = append([]string(nil), p.Open.Proof...)
	return p
}

// same tells whether two proofs are the same.
func same(a, b api.Proof) bool {
	return reflect.DeepEqual(smooth(a), smooth(b))
}

// sameWords tells whether two lists of columns are the same.
func sameWords(a, b [][]uint64) bool {
	return slices.EqualFunc(a, b, slices.Equal[[]uint64])
}

// paramEdges are the numbers of a field of parameters that are next to its bounds, and the greatest.
func paramEdges(least, most int) []int {
	return []int{math.MinInt, -1, 0, least - 1, least, least + 1, most - 1, most, most + 1, math.MaxInt32, math.MaxInt}
}

// eachParams hands on parameters in all ways in which their fields may lie about their bounds, and whether they may be.
func eachParams(do func(p api.Params, may bool)) {
	in := func(least, n, most int) bool { return least <= n && n <= most }
	for _, level := range paramEdges(2, 7) {
		for _, rows := range paramEdges(0, 6) {
			for _, rate := range paramEdges(1, 3) {
				for _, queries := range paramEdges(1, 64) {
					do(api.Params{Level: level, Rows: rows, Rate: rate, Queries: queries}, in(2, level, 7) && in(0, rows, 6) && in(1, rate, 3) && in(1, queries, 64))
				}
			}
		}
	}
}

// 29.1, 29.2, 29.3: parameters below, at and above each bound.
func TestParams(t *testing.T) {
	eachParams(func(p api.Params, may bool) {
		if proof.Fits(p) != may {
			t.Errorf("Fits(%v): %v", p, !may)
		}
		s, e := proof.Params(p)
		if !may {
			if e != api.ErrArg || s != "" {
				t.Errorf("Params(%v): %x, %v", p, s, e)
			}
			return
		}
		var w writer
		w.num(p.Level, p.Rows, p.Rate, p.Queries)
		if e != api.OK || s != string(w) {
			t.Errorf("Params(%v): %x, %v", p, s, e)
		}
		if q, e := proof.ReadParams(s); e != api.OK || q != p {
			t.Errorf("ReadParams(%x): %v, %v", s, q, e)
		}
	})
	if s, e := proof.Params(api.Params{Level: 3, Rate: 1, Queries: 2}); e != api.OK || s != "\x00\x00\x00\x03\x00\x00\x00\x00\x00\x00\x00\x01\x00\x00\x00\x02" {
		t.Errorf("the example: %x, %v", s, e)
	}
}

// systems are some that may be.
func systems() []api.System {
	many := api.System{Wide: 1, Cols: 5, Private: 2}
	for i := range 30 {
		many.Gates = append(many.Gates, api.Gate{Kind: api.GateXor, Dst: 2 + i, A: i, B: i + 1})
	}
	return []api.System{
		{},
		{Wide: 5, Rows: 4, Cols: 6, Public: 64},
		{Wide: 5, Rows: 4, Cols: 6, Private: 64},
		{Cols: 1, Public: 1, Private: 1, Gates: []api.Gate{}},
		{Wide: 2, Cols: 2, Public: 1, Private: 1, Gates: []api.Gate{{Kind: api.GateAnd, Dst: 2, B: 1}}},
		{Wide: 2, Rows: 1, Cols: 3, Public: 1, Private: 1, Gates: []api.Gate{{Kind: api.GateAdd, Dst: 2, A: 0, B: 1, S: 3}, {Kind: api.GateRound, Dst: 4, A: 3, S: 3}, {Kind: api.GateNot, Dst: 5, A: 4}, {Kind: api.GateSame, A: 5, B: 0}}},
		many,
	}
}

// systemBytes are the bytes of a system, or of what is none, as far as its numbers can be written.
func systemBytes(s api.System) string {
	var w writer
	w.num(s.Wide, s.Rows, s.Cols, s.Public, s.Private, len(s.Gates))
	for _, g := range s.Gates {
		w.num(g.Kind, g.Dst, g.A, g.B, g.S)
	}
	return string(w)
}

// 29.1, 29.2, 29.3
func TestSystem(t *testing.T) {
	for i, s := range systems() {
		gates := slices.Clone(s.Gates)
		b, e := proof.System(s)
		if e != api.OK || b != systemBytes(s) || !slices.Equal(s.Gates, gates) {
			t.Errorf("System %d: %x, %v", i, b, e)
		}
		got, e := proof.ReadSystem(b)
		if e != api.OK || !slices.Equal(got.Gates, s.Gates) {
			t.Errorf("ReadSystem %d: %v, %v", i, got, e)
		}
		got.Gates, s.Gates = nil, nil
		if !reflect.DeepEqual(got, s) {
			t.Errorf("ReadSystem %d: %v", i, got)
		}
	}
}

// 29.1, 29.2: systems that may not be, each with the error of circuit.Check.
func TestSystemsThatMayNotBe(t *testing.T) {
	var many api.System
	many.Cols, many.Private = 6, 2
	for i := range 31 {
		many.Gates = append(many.Gates, api.Gate{Kind: api.GateXor, Dst: 2 + i, A: i, B: i + 1})
	}
	one := func(g api.Gate) api.System {
		return api.System{Wide: 2, Cols: 2, Private: 2, Gates: []api.Gate{g}}
	}
	for i, x := range []struct {
		s    api.System
		want api.Errno
	}{
		{api.System{Wide: 6}, api.ErrArg},
		{api.System{Rows: 5}, api.ErrArg},
		{api.System{Cols: 7}, api.ErrArg},
		{api.System{Cols: 1, Public: 3}, api.ErrArg},
		{api.System{Cols: 1, Public: 1, Private: 2}, api.ErrArg},
		{many, api.ErrLong},
		{one(api.Gate{Kind: 9, Dst: 2}), api.ErrForm},
		{one(api.Gate{Kind: api.GateNot, Dst: 2, B: 1}), api.ErrForm},
		{one(api.Gate{Kind: api.GateAnd, Dst: 2, A: 2}), api.ErrNone},
		{one(api.Gate{Kind: api.GateLeft, Dst: 2, S: 4}), api.ErrArg},
		{one(api.Gate{Kind: api.GateAnd, Dst: 3}), api.ErrForm},
		{api.System{Wide: 2, Cols: 1, Private: 2, Gates: []api.Gate{{Kind: api.GateAnd, Dst: 2}}}, api.ErrLong},
	} {
		if b, e := proof.System(x.s); e != x.want || b != "" {
			t.Errorf("System %d: %x, %v, not %v", i, b, e, x.want)
		}
		if s, e := proof.ReadSystem(systemBytes(x.s)); e != api.ErrForm || !reflect.DeepEqual(s, api.System{}) {
			t.Errorf("ReadSystem %d: %v, %v", i, s, e)
		}
	}
	for i, s := range []api.System{{Wide: -1}, {Private: -1}, {Public: math.MinInt}, one(api.Gate{Kind: api.GateSame, A: -1})} {
		if b, e := proof.System(s); e == api.OK || b != "" {
			t.Errorf("System %d of what is below 0: %x, %v", i, b, e)
		}
	}
}

// wordBytes are the bytes of columns.
func wordBytes(l [][]uint64) string {
	var w writer
	w.num(len(l))
	for _, col := range l {
		w.num(len(col))
		for _, word := range col {
			w = binary.LittleEndian.AppendUint64(w, word)
		}
	}
	return string(w)
}

// 29.1, 29.2, 29.3
func TestWords(t *testing.T) {
	for i, l := range [][][]uint64{
		nil,
		{},
		{{}},
		{nil, {}, nil},
		{{0}},
		{{1, 2, 3}, {}, {math.MaxUint64, 1 << 63}},
		{{258}, {}},
		make([][]uint64, 4096),
		{make([]uint64, 4096)},
		{{}, {7}, make([]uint64, 4096)},
	} {
		before := make([][]uint64, len(l))
		for k := range l {
			before[k] = slices.Clone(l[k])
		}
		b, e := proof.Words(l)
		if e != api.OK || b != wordBytes(l) || !sameWords(l, before) {
			t.Errorf("Words %d: %d bytes, %v", i, len(b), e)
		}
		if got, e := proof.ReadWords(b); e != api.OK || !sameWords(got, l) {
			t.Errorf("ReadWords %d: %d columns, %v", i, len(got), e)
		}
	}
	if b, _ := proof.Words(nil); b != "\x00\x00\x00\x00" {
		t.Errorf("Words of none: %x", b)
	}
	if b, _ := proof.Words([][]uint64{{}, {}}); b != strings.Repeat("\x00", 3)+"\x02"+strings.Repeat("\x00", 8) {
		t.Errorf("Words of empty columns: %x", b)
	}
	// one more than there may be
	for i, l := range [][][]uint64{
		make([][]uint64, 4097),
		{make([]uint64, 4097)},
		{{1}, make([]uint64, 4097)},
		{make([]uint64, 4097), {1}},
	} {
		if b, e := proof.Words(l); e != api.ErrLong || b != "" {
			t.Errorf("Words of too many %d: %d bytes, %v", i, len(b), e)
		}
		if got, e := proof.ReadWords(wordBytes(l)); e != api.ErrForm || got != nil {
			t.Errorf("ReadWords of too many %d: %d columns, %v", i, len(got), e)
		}
	}
}

// 29.1: all that may be written, though it's more than can be read.
func TestManyWords(t *testing.T) {
	l := slices.Repeat([][]uint64{make([]uint64, 4096)}, 40)
	b, e := proof.Words(l)
	if e != api.OK || len(b) != 4+40*(4+8*4096) {
		t.Errorf("Words: %d bytes, %v", len(b), e)
	}
	if got, e := proof.ReadWords(b); e != api.ErrLong || got != nil {
		t.Errorf("ReadWords of %d bytes: %d columns, %v", len(b), len(got), e)
	}
}

// 29.1, 29.3: drawn proofs at each level, and one without anything.
func TestProofs(t *testing.T) {
	rnd := rand.New(rand.NewPCG(29, 1))
	for level := range 8 {
		proofs := []api.Proof{{Root: strings.Repeat("r", 32)}, {Root: digest(rnd), Zero: make([][]api.Elem, 3), Claim: [][]api.Elem{{}}, Ring: [][]api.Elem{nil, {}}, Open: api.Opening{Cols: make([][]api.Elem, 2)}}}
		for range 30 {
			proofs = append(proofs, drawn(rnd, level, 4))
		}
		for i, p := range proofs {
			before := smooth(p)
			s, e := proof.Proof(level, p)
			var w writer
			w.proof(level, p)
			if e != api.OK || s != string(w) || !same(p, before) {
				t.Fatalf("Proof %d of level %d: %x, %v", i, level, s, e)
			}
			k, got, e := proof.ReadProof(s)
			if e != api.OK || k != level || !same(got, p) {
				t.Fatalf("ReadProof %d of level %d: %d, %v, %v", i, level, k, got, e)
			}
		}
	}
}

// noProof asks for ErrArg of Proof, and for no bytes.
func noProof(t *testing.T, what string, level int, p api.Proof) {
	t.Helper()
	if s, e := proof.Proof(level, p); e != api.ErrArg || s != "" {
		t.Errorf("%s: %d bytes, %v", what, len(s), e)
	}
}

// full is a proof with something in each of its parts.
func full(level int) api.Proof {
	rnd := rand.New(rand.NewPCG(29, uint64(level)))
	two := func() [][]api.Elem { return [][]api.Elem{elems(rnd, level, 2), elems(rnd, level, 2)} }
	return api.Proof{
		Root: digest(rnd), Zero: two(), Wires: elems(rnd, level, 2), Claim: two(), Value: elem(rnd, level), Parts: elems(rnd, level, 2), Ring: two(), Packed: elem(rnd, level),
		Open: api.Opening{Row: elems(rnd, level, 2), Cols: two(), Proof: []string{digest(rnd), digest(rnd)}},
	}
}

// places are the elements of a full proof, by the names of its parts.
func places(p *api.Proof) map[string]*api.Elem {
	return map[string]*api.Elem{
		"Zero": &p.Zero[0][0], "Zero's last": &p.Zero[1][1],
		"Wires": &p.Wires[0], "Wires' last": &p.Wires[1],
		"Claim": &p.Claim[0][0], "Claim's last": &p.Claim[1][1],
		"Value": &p.Value,
		"Parts": &p.Parts[0], "Parts' last": &p.Parts[1],
		"Ring": &p.Ring[0][0], "Ring's last": &p.Ring[1][1],
		"Packed": &p.Packed,
		"Row":    &p.Open.Row[0], "Row's last": &p.Open.Row[1],
		"Cols": &p.Open.Cols[0][0], "Cols' last": &p.Open.Cols[1][1],
	}
}

// 29.1: a level that is none, digests that are too short and too long, an element that is not of the level, in each of a proof's parts.
func TestProofsOfNoShape(t *testing.T) {
	for _, level := range noLevels {
		noProof(t, "no level", level, api.Proof{Root: strings.Repeat("r", 32)})
		noProof(t, "no level", level, full(3))
	}
	for level := range 8 {
		for _, n := range []int{0, 31, 33, 64} {
			p := full(level)
			p.Root = strings.Repeat("r", n)
			noProof(t, "Root", level, p)
			for i := range 2 {
				p = full(level)
				p.Open.Proof[i] = strings.Repeat("d", n)
				noProof(t, "a digest", level, p)
			}
		}
		if level == 7 {
			continue
		}
		wrong := []api.Elem{{Hi: 1}, {Hi: 1 << 63}, {Lo: 1 << 63, Hi: 1}}
		if level < 6 {
			wrong = append(wrong, api.Elem{Lo: 1 << (1 << level)}, api.Elem{Lo: 1<<(1<<level) + 1}, api.Elem{Lo: 1 << 63})
		}
		for _, e := range wrong {
			for name := range places(new(full(level))) {
				p := full(level)
				*places(&p)[name] = e
				noProof(t, name, level, p)
			}
		}
	}
}

// longer is a full proof one of whose lists, by its name, has n members.
func longer(name string, n int) api.Proof {
	p := full(2)
	lists := map[string]*[][]api.Elem{"Zero": &p.Zero, "Claim": &p.Claim, "Ring": &p.Ring, "Cols": &p.Open.Cols}
	if l := lists[name]; l != nil {
		*l = make([][]api.Elem, n)
	}
	if l := lists[strings.TrimSuffix(name, "'s member")]; l != nil && strings.HasSuffix(name, "'s member") {
		(*l)[1] = make([]api.Elem, n)
	}
	if l := map[string]*[]api.Elem{"Wires": &p.Wires, "Parts": &p.Parts, "Row": &p.Open.Row}[name]; l != nil {
		*l = make([]api.Elem, n)
	}
	if name == "Proof" {
		p.Open.Proof = slices.Repeat([]string{strings.Repeat("d", 32)}, n)
	}
	return p
}

// 29.1, 29.2: lists of MaxList members, and of one more.
func TestLongLists(t *testing.T) {
	if proof.MaxList != 4096 {
		t.Errorf("MaxList: %d", proof.MaxList)
	}
	for _, name := range []string{"Zero", "Zero's member", "Wires", "Claim", "Claim's member", "Parts", "Ring", "Ring's member", "Row", "Cols", "Cols's member", "Proof"} {
		p := longer(name, 4096)
		s, e := proof.Proof(2, p)
		var w writer
		w.proof(2, p)
		if e != api.OK || s != string(w) {
			t.Errorf("%s: %d bytes, %v", name, len(s), e)
		}
		if level, got, e := proof.ReadProof(s); e != api.OK || level != 2 || !same(got, p) {
			t.Errorf("%s, read: %v", name, e)
		}
		p = longer(name, 4097)
		noProof(t, name, 2, p)
		w = nil
		w.proof(2, p)
		if level, got, e := proof.ReadProof(string(w)); e != api.ErrForm || level != 0 || !same(got, api.Proof{}) {
			t.Errorf("%s of one more, read: %v", name, e)
		}
	}
}
