package pcs_test

import (
	"math/rand/v2"
	"reflect"
	"slices"
	"testing"
	"unsafe"

	"steeple/api"
	"steeple/code"
	"steeple/cube"
	"steeple/multi"
	"steeple/pcs"
	"steeple/perm"
	"steeple/sponge"
	"steeple/tower"
)

// proves asks whether Check says ErrProof.
func (a asked) proves(t *testing.T, what string) {
	t.Helper()
	if e := a.check(); e != api.ErrProof {
		t.Errorf("%s, %v: %v", what, a.g, e)
	}
}

// turned is a text with a bit turned.
func turned(s string, i int) string {
	b := []byte(s)
	b[i] ^= 1
	return string(b)
}

// 24.3: what leads to another root: another root, digest, column, place.
func TestOtherRoots(t *testing.T) {
	rnd := rand.New(rand.NewPCG(24, 14))
	for _, g := range small() {
		start := right(t, rnd, g, drawnPlaces(rnd, 1<<(g.Cols+g.Rate)))
		for _, root := range []string{"", "x", start.root[1:], start.root + "\x00", turned(start.root, 0), turned(start.root, 31)} {
			a := start
			a.root = root
			a.proves(t, "another root")
		}
		for i, digest := range start.o.Proof {
			for _, wrong := range []string{"", digest[1:], digest + "\x00", turned(digest, 0), turned(digest, 31)} {
				a := start
				a.o.Proof = put(a.o.Proof, i, wrong)
				a.proves(t, "another digest")
			}
			a := start
			a.o.Proof = slices.Delete(slices.Clone(a.o.Proof), i, i+1)
			a.proves(t, "a digest too few")
		}
		a := start
		a.o.Proof = append(slices.Clone(a.o.Proof), a.root)
		a.proves(t, "a digest too many")
		for i, col := range start.o.Cols {
			for j, x := range col {
				a := start
				a.o.Cols = put(a.o.Cols, i, put(col, j, tower.Add(x, tower.One())))
				a.proves(t, "another column")
			}
		}
	}
}

// 24.3: columns that are mixed to the same, but lead elsewhere.
func TestColumnsMixedAlike(t *testing.T) {
	rnd := rand.New(rand.NewPCG(24, 15))
	for _, g := range small() {
		if g.Rows == 0 {
			continue
		}
		n := g.Cols + g.Rows
		s := commit(t, tables, g, drawn(rnd, g.Level, 1<<n))
		// At the corner 0 of the high part the first row alone counts.
		p := append(drawn(rnd, g.Level, g.Cols), make([]api.Elem, g.Rows)...)
		places := drawnPlaces(rnd, 1<<(g.Cols+g.Rate))
		a := asked{tables, g, s.Root(), p, value(t, s, p), places, open(t, s, p[g.Cols:], places)}
		if e := a.check(); e != api.OK {
			t.Fatalf("Check of %v: %v", g, e)
		}
		last := 1<<g.Rows - 1
		a.o.Cols = put(a.o.Cols, 0, put(a.o.Cols[0], last, tower.Add(a.o.Cols[0][last], tower.One())))
		a.proves(t, "a column that is mixed alike")
	}
}

// 24.3: places at which unlike columns stand.
func TestOtherPlaces(t *testing.T) {
	rnd := rand.New(rand.NewPCG(24, 16))
	g := api.Grid{Level: 4, Rows: 1, Cols: 3, Rate: 1}
	start := right(t, rnd, g, []int{1, 6, 12})
	for _, places := range [][]int{{0, 6, 12}, {1, 7, 12}, {1, 6, 13}, {1, 6, 15}, {0, 1, 2}, {3, 4, 14}} {
		a := start
		a.places = places
		a.proves(t, "other places")
	}
}

// 24.3: another point, of which the row has another value, or the columns are mixed to another one.
func TestOtherPoints(t *testing.T) {
	rnd := rand.New(rand.NewPCG(24, 17))
	for _, g := range []api.Grid{{Level: 7, Rows: 2, Cols: 2, Rate: 1}, {Level: 6, Rows: 1, Cols: 3, Rate: 2}, {Level: 5, Rows: 3, Cols: 1}} {
		start := right(t, rnd, g, all(1<<(g.Cols+g.Rate)))
		for i := range start.p {
			a := start
			a.p = put(a.p, i, tower.Add(a.p[i], tower.One()))
			a.proves(t, "another point")
			// The value at that point does not help: in the low part the row is another one's, too.
			a.v, _ = cube.At(g.Level, a.o.Row, a.p[:g.Cols])
			if e := a.check(); (e == api.OK) != (i < g.Cols) {
				t.Errorf("%v at another element %d: %v", g, i, e)
			}
		}
	}
}

// 24.3: a Row that has the value, but a word that differs from the columns, at all places or the last of them alone.
func TestRowsOfOneValue(t *testing.T) {
	rnd := rand.New(rand.NewPCG(24, 18))
	for _, g := range small() {
		if g.Cols == 0 {
			continue
		}
		n := g.Cols + g.Rows
		s := commit(t, tables, g, drawn(rnd, g.Level, 1<<n))
		c, _ := code.New(g.Level, g.Cols, g.Rate)
		// At the corner 0 of the low part the row's first element alone counts.
		p := append(make([]api.Elem, g.Cols), drawn(rnd, g.Level, g.Rows)...)
		places := all(c.Long())
		a := asked{tables, g, s.Root(), p, value(t, s, p), places, open(t, s, p[g.Cols:], places)}
		for _, i := range []int{1, c.Size() - 1} {
			b := a
			b.o.Row = put(a.o.Row, i, tower.Add(a.o.Row[i], tower.One()))
			b.proves(t, "another row of the same value")
			// The places at which its word is the same are right, and no others are.
			was, _ := c.Encode(a.o.Row)
			is, _ := c.Encode(b.o.Row)
			for _, at := range places {
				b.places = []int{at}
				o := open(t, s, p[g.Cols:], b.places)
				b.o.Cols, b.o.Proof = o.Cols, o.Proof
				if e := b.check(); (e == api.OK) != (was[at] == is[at]) {
					t.Errorf("%v: another row at %d: %v", g, at, e)
				}
			}
		}
	}
}

// 24.4: what is opened is right at the table's value, and at no other one.
func TestOneValue(t *testing.T) {
	rnd := rand.New(rand.NewPCG(24, 19))
	for _, g := range small() {
		if g.Level > 3 || g.Level == 3 && g.Rows != 1 {
			continue
		}
		a := right(t, rnd, g, drawnPlaces(rnd, 1<<(g.Cols+g.Rate)))
		v := a.v
		for n := range uint64(1) << (1 << g.Level) {
			a.v = api.Elem{Lo: n}
			if e := a.check(); a.v != v && e != api.ErrProof || a.v == v && e != api.OK {
				t.Errorf("%v: %v, not %v: %v", g, a.v, v, e)
			}
		}
	}
}

// eachRow hands on all rows of a grid's length over a small level.
func eachRow(g api.Grid, look func(row []api.Elem)) {
	size := 1 << (1 << g.Level)
	n := 1
	for range 1 << g.Cols {
		n *= size
	}
	for i := range n {
		row := make([]api.Elem, 1<<g.Cols)
		for j, left := 0, i; j < len(row); j, left = j+1, left/size {
			row[j].Lo = uint64(left % size)
		}
		look(row)
	}
}

// 24.4: a Row that is another one than the rows mixed is right at fewer than 2^Cols of all places: all rows of small levels.
func TestEachOtherRow(t *testing.T) {
	rnd := rand.New(rand.NewPCG(24, 20))
	for _, g := range []api.Grid{{Level: 0, Rows: 1, Cols: 1}, {Level: 0, Rows: 2, Rate: 1}, {Level: 1, Rows: 1, Cols: 1, Rate: 1}, {Level: 1, Rows: 1, Cols: 2}, {Level: 1, Rows: 2, Rate: 2}, {Level: 2, Rows: 1, Cols: 1, Rate: 2}} {
		n := g.Cols + g.Rows
		s := commit(t, tables, g, drawn(rnd, g.Level, 1<<n))
		p := drawn(rnd, g.Level, n)
		var single []api.Opening
		for at := range 1 << (g.Cols + g.Rate) {
			single = append(single, open(t, s, p[g.Cols:], []int{at}))
		}
		most := 0
		eachRow(g, func(row []api.Elem) {
			if slices.Equal(row, single[0].Row) {
				return
			}
			v, _ := cube.At(g.Level, row, p[:g.Cols])
			count := 0
			for at, o := range single {
				o.Row = row
				if pcs.Check(tables, g, s.Root(), p, v, []int{at}, o) == api.OK {
					count++
				}
			}
			most = max(most, count)
		})
		if most != 1<<g.Cols-1 {
			t.Errorf("%v: another row is right at %d places", g, most)
		}
	}
}

// 24.4: a Row may be right at 2^Cols - 1 places, asked all at once, and at no others.
func TestRowsRightAtMost(t *testing.T) {
	rnd := rand.New(rand.NewPCG(24, 21))
	for _, g := range []api.Grid{{Level: 3, Rows: 1, Cols: 2, Rate: 1}, {Level: 4, Rows: 2, Cols: 3, Rate: 1}, {Level: 7, Rows: 1, Cols: 3, Rate: 2}, {Level: 6, Cols: 2, Rate: 2}} {
		n := g.Cols + g.Rows
		c, _ := code.New(g.Level, g.Cols, g.Rate)
		s := commit(t, tables, g, drawn(rnd, g.Level, 1<<n))
		p := drawn(rnd, g.Level, n)
		chosen := rnd.Perm(c.Long())[:c.Size()]
		slices.Sort(chosen)
		word, _ := c.Encode(open(t, s, p[g.Cols:], chosen).Row)
		var values []api.Elem
		for _, at := range chosen {
			values = append(values, word[at])
		}
		values[c.Size()-1] = tower.Add(values[c.Size()-1], tower.One())
		row, e := c.Fill(chosen, values)
		if e != api.OK {
			t.Fatalf("Fill: %v", e)
		}
		v, _ := cube.At(g.Level, row, p[:g.Cols])
		ask := func(places []int) api.Errno {
			o := open(t, s, p[g.Cols:], places)
			o.Row = row
			return pcs.Check(tables, g, s.Root(), p, v, places, o)
		}
		if e := ask(chosen[:c.Size()-1]); e != api.OK {
			t.Errorf("%v at %v: %v", g, chosen[:c.Size()-1], e)
		}
		if e := ask(chosen); e != api.ErrProof {
			t.Errorf("%v at %v: %v", g, chosen, e)
		}
		for at := range c.Long() {
			if e := ask([]int{at}); (e == api.OK) != slices.Contains(chosen[:c.Size()-1], at) {
				t.Errorf("%v at %d, right at %v: %v", g, at, chosen, e)
			}
		}
	}
}

// blunt is tables of which few digests come, so that unlike texts of one digest are soon found: a mixed column has the same two bits in each byte.
func blunt() *perm.Tables {
	t := perm.Make()
	mix := reflect.ValueOf(t).Elem().FieldByName("mix")
	columns := (*[256]uint64)(unsafe.Pointer(mix.UnsafeAddr()))
	for b := range columns {
		columns[b] = uint64(b&3) * 0x0101010101010101
	}
	return t
}

// leaves are those of columns.
func leaves(level int, cols [][]api.Elem) []string {
	var l []string
	for _, col := range cols {
		l = append(l, pcs.Leaf(level, col))
	}
	return l
}

// unlike draws an opening with another column that leads to the same root, and is right.
func unlike(t *testing.T, rnd *rand.Rand, a asked) asked {
	t.Helper()
	c, _ := code.New(a.g.Level, a.g.Cols, a.g.Rate)
	h, i := a.g.Cols+a.g.Rate, rnd.IntN(len(a.places))
	for range 1 << 20 {
		b := a
		b.o.Cols = put(a.o.Cols, i, drawn(rnd, a.g.Level, 1<<a.g.Rows))
		if slices.Equal(b.o.Cols[i], a.o.Cols[i]) || !multi.Check(a.k, a.root, h, a.places, leaves(a.g.Level, b.o.Cols), a.o.Proof) {
			continue
		}
		// A row whose word is the columns mixed: there are no more places than elements of a row.
		places, values := slices.Clone(a.places), []api.Elem{}
		for _, col := range b.o.Cols {
			values = append(values, summed(a.g.Level, weights(a.g.Level, a.p[a.g.Cols:]), col))
		}
		for at := 0; len(places) < c.Size(); at++ {
			if !slices.Contains(places, at) {
				places, values = append(places, at), append(values, api.Elem{})
			}
		}
		b.o.Row, _ = c.Fill(places, values)
		b.v, _ = cube.At(a.g.Level, b.o.Row, a.p[:a.g.Cols])
		return b
	}
	t.Fatalf("%v: no other column leads to the root", a.g)
	return a
}

// 24.4: openings that lead to one root and show unlike columns at one place have a twin.
func TestTwins(t *testing.T) {
	rnd := rand.New(rand.NewPCG(24, 22))
	k := blunt()
	for _, g := range []api.Grid{{Level: 7, Rows: 1, Cols: 2, Rate: 1}, {Level: 5, Rows: 2, Cols: 1, Rate: 2}, {Level: 6, Cols: 1}, {Level: 3, Rows: 3, Cols: 3, Rate: 1}} {
		for range 4 {
			n := g.Cols + g.Rows
			s := commit(t, k, g, drawn(rnd, g.Level, 1<<n))
			p := drawn(rnd, g.Level, n)
			places := drawnPlaces(rnd, 1<<(g.Cols+g.Rate))
			places = places[:min(len(places), 1<<g.Cols)]
			a := asked{k, g, s.Root(), p, value(t, s, p), places, open(t, s, p[g.Cols:], places)}
			b := unlike(t, rnd, a)
			if e, f := a.check(), b.check(); e != api.OK || f != api.OK {
				t.Fatalf("Check of %v: %v, %v", g, e, f)
			}
			x, y, is := multi.Twin(k, g.Cols+g.Rate, places, leaves(g.Level, a.o.Cols), leaves(g.Level, b.o.Cols), a.o.Proof, b.o.Proof)
			if !is || x == y || sponge.Sum(k, x) != sponge.Sum(k, y) {
				t.Errorf("%v: Twin: %x, %x, %v", g, x, y, is)
			}
			b.k = tables
			b.proves(t, "tables that are not blunt")
		}
	}
}
