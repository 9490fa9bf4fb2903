package judge_test

import (
	"reflect"
	"strings"
	"testing"

	"steeple/api"
	"steeple/judge"
	"steeple/octet"
	"steeple/perm"
	"steeple/prove"
	"steeple/sponge"
	"steeple/verify"
)

// noTwin asks for no twin.
func noTwin(t *testing.T, what string, k *perm.Tables, c sample, x, y api.Proof) {
	t.Helper()
	xs, ys, public := deep(x), deep(y), copied(c.public)
	a, b, is := judge.Twin(k, c.p, c.s, c.public, x, y)
	if is || a != "" || b != "" {
		t.Errorf("%s: %x, %x, %v", what, a, b, is)
	}
	if !reflect.DeepEqual(deep(x), xs) || !reflect.DeepEqual(deep(y), ys) || !reflect.DeepEqual(copied(c.public), public) {
		t.Errorf("%s: what was handed in has changed", what)
	}
}

// 34.2: of proofs that are accepted, by tables whose digests are not known to meet, there is no twin: of one proof twice, of one that is not accepted, of two Roots.
func TestNoTwin(t *testing.T) {
	for _, c := range samples(t) {
		noTwin(t, "one proof twice", tables, c, c.x, c.x)
		noTwin(t, "one proof twice", tables, c, c.x, deep(c.x))
		noTwin(t, "without tables", nil, c, c.x, c.x)
		bad := c.with(func(x *api.Proof) { x.Open.Cols[0][0].Lo ^= 1 }).x
		noTwin(t, "a column that is not there", tables, c, c.x, bad)
		noTwin(t, "a column that is not there", tables, c, bad, c.x)
		noTwin(t, "a column that is not there, twice", tables, c, bad, bad)
		other := c.with(func(x *api.Proof) { x.Root = "r" + x.Root[1:] }).x
		noTwin(t, "another Root", tables, c, c.x, other)
	}
	// two of one system and public columns, by unlike words that are hidden: each has a Root of its own
	c, y := two(t, tables)
	if c.x.Root == y.Root {
		t.Fatalf("one Root")
	}
	for _, x := range []api.Proof{c.x, y} {
		if e := verify.Check(tables, c.p, c.s, c.public, x); e != api.OK {
			t.Fatalf("Check: %v", e)
		}
	}
	noTwin(t, "two Roots", tables, c, c.x, y)
	noTwin(t, "two Roots", tables, c, y, c.x)
}

// two are two proofs of one system for one public column, with unlike hidden words: 2^7 elements in each of two rows, words of 2^9.
func two(t *testing.T, k *perm.Tables) (sample, api.Proof) {
	t.Helper()
	s := api.System{Wide: 4, Rows: 4, Cols: 4, Public: 1, Private: 2, Gates: []api.Gate{{Kind: api.GateAnd, Dst: 3, A: 1, B: 2}, {Kind: api.GateXor, Dst: 4, A: 3, B: 2}, {Kind: api.GateRound, Dst: 5, A: 4, S: 5}}}
	p := api.Params{Level: 4, Rows: 1, Rate: 2, Queries: 40}
	given := func(n uint64) [][]uint64 {
		l := [][]uint64{make([]uint64, 16), make([]uint64, 16), make([]uint64, 16)}
		for k := range l {
			for x := range l[k] {
				l[k][x] = uint64(k*1000+77*x) & 0xffff
				if k > 0 {
					l[k][x] = (l[k][x]*n + n) & 0xffff
				}
			}
		}
		return l
	}
	x, e := prove.Prove(k, p, s, given(3))
	y, f := prove.Prove(k, p, s, given(5))
	if e != api.OK || f != api.OK {
		t.Fatalf("Prove: %v, %v", e, f)
	}
	return sample{p, s, given(3)[:1], x}, y
}

// 34.2, 34.3: tables that nothing was put into give all texts one digest, so that unlike words lead to one Root, and proofs of them part.
func TestTwin(t *testing.T) {
	blank := &perm.Tables{}
	if sponge.Sum(blank, "a") != sponge.Sum(blank, "bc") {
		t.Skip("blank tables tell texts apart")
	}
	c, y := two(t, blank)
	asked, e := judge.Ask(blank, c.p, c.s, c.public, c.x)
	if e != api.OK || len(asked.Places) != 2 || c.x.Root != y.Root {
		t.Fatalf("%v, %v", asked.Places, e)
	}
	for _, x := range []api.Proof{c.x, y} {
		if e := verify.Check(blank, c.p, c.s, c.public, x); e != api.OK {
			t.Fatalf("Check: %v", e)
		}
	}
	twin := func(what string, x, y api.Proof, at int) {
		t.Helper()
		a, b, is := judge.Twin(blank, c.p, c.s, c.public, x, y)
		wantA, wantB := "\x00"+octet.Elems(4, x.Open.Cols[at]), "\x00"+octet.Elems(4, y.Open.Cols[at])
		if !is || a != wantA || b != wantB || a == b || sponge.Sum(blank, a) != sponge.Sum(blank, b) {
			t.Errorf("%s: %x, %x, %v, not %x, %x", what, a, b, is, wantA, wantB)
		}
	}
	// at the place 0 the words have the rows' first elements: bits of the public column, and of one that no gate makes, all 0
	twin("unlike words", c.x, y, 1)
	twin("unlike words", y, c.x, 1)
	noTwin(t, "one proof twice", blank, c, c.x, c.x)
	// the row whose weight is 0 may have anything: only the second place is unlike, then only the first, then both
	second := c.with(func(x *api.Proof) { x.Open.Cols[1][1].Lo ^= 1 }).x
	first := c.with(func(x *api.Proof) { x.Open.Cols[0][1].Lo ^= 2 }).x
	for _, x := range []api.Proof{first, second} {
		if e := verify.Check(blank, c.p, c.s, c.public, x); e != api.OK {
			t.Fatalf("Check: %v", e)
		}
	}
	twin("the second place", c.x, second, 1)
	twin("the second place", second, c.x, 1)
	twin("the first place", c.x, first, 0)
	twin("both places", first, second, 0)
	// unlike digests are no unlike columns
	digests := c.with(func(x *api.Proof) { x.Open.Proof[0] = strings.Repeat("d", 32) }).x
	if e := verify.Check(blank, c.p, c.s, c.public, digests); e != api.OK {
		t.Fatalf("Check: %v", e)
	}
	noTwin(t, "unlike digests", blank, c, c.x, digests)
	twin("unlike digests and columns", digests, second, 1)
	// what is not accepted has none, though its column is another one
	bad := c.with(func(x *api.Proof) { x.Open.Cols[0][0].Lo ^= 1 }).x
	if e := verify.Check(blank, c.p, c.s, c.public, bad); e != api.ErrProof {
		t.Fatalf("Check: %v", e)
	}
	noTwin(t, "not accepted", blank, c, c.x, bad)
	noTwin(t, "not accepted", blank, c, bad, c.x)
}
