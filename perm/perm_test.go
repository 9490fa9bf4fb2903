package perm_test

import (
	"encoding/hex"
	"math/rand/v2"
	"strings"
	"testing"

	"steeple/api"
	"steeple/perm"
	"steeple/tower"
)

// model turns a state as the chapter tells it, step by step, out of the tower alone.
type model struct {
	row   int
	all   byte
	turns [8]int
}

// grid is a state by columns and rows.
type grid [8][8]byte

var (
	modelP = model{row: 0, all: 0, turns: [8]int{0, 1, 2, 3, 4, 5, 6, 7}}
	modelQ = model{row: 7, all: 255, turns: [8]int{1, 3, 5, 7, 0, 2, 4, 6}}
)

func gridOf(s string) (g grid) {
	for i := range len(s) {
		g[i/8][i%8] = s[i]
	}
	return g
}

func (g grid) text() string {
	var out []byte
	for _, column := range g {
		out = append(out, column[:]...)
	}
	return string(out)
}

// each is a grid made anew, byte by byte.
func each(make func(c, r int) byte) (g grid) {
	for c := range 8 {
		for r := range 8 {
			g[c][r] = make(c, r)
		}
	}
	return g
}

func (m model) round(g grid, i int) grid {
	g = each(func(c, r int) byte {
		if r == m.row {
			return g[c][r] ^ m.all ^ byte(16*c+i)
		}
		return g[c][r] ^ m.all
	})
	g = each(func(c, r int) byte { return modelBox(g[c][r]) })
	g = each(func(c, r int) byte { return g[(c+m.turns[r])%8][r] })
	return each(func(c, r int) byte {
		var sum byte
		for k, factor := range []int{2, 2, 3, 4, 5, 3, 5, 7} {
			sum ^= product(factor, g[c][(r+k)%8])
		}
		return sum
	})
}

func (m model) forth(s string) string {
	g := gridOf(s)
	for i := range 6 {
		g = m.round(g, i)
	}
	return g.text()
}

// ways are both ways with what they are held against.
func ways(t *perm.Tables) []struct {
	name        string
	forth, back func(string) (string, api.Errno)
	model       model
} {
	return []struct {
		name        string
		forth, back func(string) (string, api.Errno)
		model       model
	}{
		{"P", t.P, t.BackP, modelP},
		{"Q", t.Q, t.BackQ, modelQ},
	}
}

// drawn is a text of n bytes.
func drawn(rnd *rand.Rand, n int) string {
	b := make([]byte, n)
	for i := range b {
		b[i] = byte(rnd.Uint32())
	}
	return string(b)
}

// counted is the bytes from 0 to 63.
func counted() string {
	b := make([]byte, 64)
	for i := range b {
		b[i] = byte(i)
	}
	return string(b)
}

// states are some states: of one byte alone, of a byte that is unlike all others, and drawn ones.
func states() []string {
	rnd := rand.New(rand.NewPCG(10, 1))
	var l []string
	for _, b := range []string{"\x00", "\x01", "\x63", "\x80", "\xff"} {
		l = append(l, strings.Repeat(b, 64))
	}
	for i := range 64 {
		l = append(l, strings.Repeat("\x00", i)+"\x01"+strings.Repeat("\x00", 63-i))
	}
	l = append(l, counted())
	for range 100 {
		l = append(l, drawn(rnd, 64))
	}
	return l
}

// 10.2: what the ways make of two states, byte by byte.
func TestKnownStates(t *testing.T) {
	p := perm.Make()
	zero := strings.Repeat("\x00", 64)
	for _, x := range []struct {
		name string
		way  func(string) (string, api.Errno)
		s    string
		want string
	}{
		{"P", p.P, zero, "274a8ef005b68fccc74d90e58b8d63e2748befd4a3e2f980ea77720d223e450fb8328fd677066ab561a5dd13b23717a51d001ecca07976b52bc924618d867aa4"},
		{"P", p.P, counted(), "f4ffc171f82827f2ddd42a4883e99b31dcb7262302a6843e1ca48f7cdf66359fb215fe6b73544eb8ccdc666e528ebfdd0e42c3cb8e96eb2a58048cfea9a71c72"},
		{"Q", p.Q, zero, "ec90f60dea2a74c75f08e435ecf52fb1922a50d4dee3ccd1442b43d7aa72984f098dc8e6311ef4054dd7a5a8bf9df357deeca5af1cb327c4ed8b7364c7eaa73f"},
		{"Q", p.Q, counted(), "0e1597cf80ef1ed63195f3ead9ddf6c3439cf5286140be4046df5dfbe06223c871a7f6564cc65afb887bb714daddfdd0fc6c785ccb1b83e6813ea766927f48a3"},
	} {
		if got, e := x.way(x.s); e != api.OK || hex.EncodeToString([]byte(got)) != x.want {
			t.Errorf("%s(%x): %x, %v", x.name, x.s, got, e)
		}
	}
}

// 10.2
func TestWays(t *testing.T) {
	for _, w := range ways(perm.Make()) {
		for _, s := range states() {
			if got, e := w.forth(s); e != api.OK || got != w.model.forth(s) {
				t.Errorf("%s(%x): %x, %v", w.name, s, got, e)
			}
		}
	}
}

// 10.2, 10.3: forth and back, and back and forth.
func TestThereAndBack(t *testing.T) {
	for _, w := range ways(perm.Make()) {
		for _, s := range states() {
			there, e := w.forth(s)
			back, f := w.back(there)
			if e != api.OK || f != api.OK || back != s {
				t.Errorf("Back%s(%s(%x)): %x, %v, %v", w.name, w.name, s, back, e, f)
			}
			before, e := w.back(s)
			again, f := w.forth(before)
			if e != api.OK || f != api.OK || again != s || w.model.forth(before) != s {
				t.Errorf("%s(Back%s(%x)): %x, %v, %v", w.name, w.name, s, again, e, f)
			}
		}
	}
}

// 10.3: no two states lead to one.
func TestWaysAreOneToOne(t *testing.T) {
	p := perm.Make()
	for _, w := range ways(p) {
		from := map[string]string{}
		for _, s := range states() {
			got, _ := w.forth(s)
			if before, ok := from[got]; ok && before != s {
				t.Errorf("%s(%x) is %s(%x)", w.name, s, w.name, before)
			}
			from[got] = s
		}
	}
}

// 10.2: the errors, and that nil tables are told first.
func TestWayErrors(t *testing.T) {
	var none *perm.Tables
	for i, tables := range []*perm.Tables{none, perm.Make()} {
		for _, w := range ways(tables) {
			for _, n := range []int{0, 1, 32, 62, 63, 64, 65, 66, 127, 128, 129, 4096} {
				want := api.OK
				switch {
				case i == 0:
					want = api.ErrArg
				case n != 64:
					want = api.ErrSize
				}
				for _, way := range []func(string) (string, api.Errno){w.forth, w.back} {
					got, e := way(strings.Repeat("x", n))
					if e != want || (got == "") != (want != api.OK) {
						t.Errorf("%s, forth or back, of %d bytes: %x, %v, not %v", w.name, n, got, e, want)
					}
				}
			}
		}
	}
}

// 10.2: what a call answers hangs on no call before it.
func TestCallsLeaveNothingBehind(t *testing.T) {
	p := perm.Make()
	for _, w := range ways(p) {
		s := counted()
		first, _ := w.forth(s)
		for _, other := range ways(p) {
			other.forth("short")
			other.back(first)
		}
		if again, e := w.forth(s); e != api.OK || again != first || s != counted() {
			t.Errorf("%s once more: %x, %v, not %x", w.name, again, e, first)
		}
	}
}

// product is a byte times a number, in the tower.
func product(k int, b byte) byte {
	x := tower.Mul(3, api.Elem{Lo: uint64(k)}, api.Elem{Lo: uint64(b)})
	return byte(x.Lo)
}
