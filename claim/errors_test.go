package claim_test

import (
	"math"
	"math/rand/v2"
	"slices"
	"testing"

	"steeple/api"
	"steeple/claim"
	"steeple/tower"
	"steeple/turn"
)

// noTotal asks for an error of Total, and for nothing beside it.
func noTotal(t *testing.T, level int, l []api.Claim, b api.Elem, want api.Errno) {
	t.Helper()
	if s, e := claim.Total(level, l, b); e != want || s != (api.Elem{}) {
		t.Errorf("Total(%d) of %d: %v, %v, not %v", level, len(l), s, e, want)
	}
}

// noMask asks for an error of Mask, and for nothing beside it.
func noMask(t *testing.T, level, c, w int, l []api.Claim, z []api.Elem, b api.Elem, want api.Errno) {
	t.Helper()
	if m, e := claim.Mask(level, c, w, l, z, b); e != want || len(m) != 0 {
		t.Errorf("Mask(%d, %d, %d) of %d, %d elements: %v, %v, not %v", level, c, w, len(l), len(z), m, e, want)
	}
}

// noAt asks for an error of At, and for nothing beside it.
func noAt(t *testing.T, level, c, w int, l []api.Claim, z []api.Elem, b api.Elem, q []api.Elem, want api.Errno) {
	t.Helper()
	if x, e := claim.At(level, c, w, l, z, b, q); e != want || x != (api.Elem{}) {
		t.Errorf("At(%d, %d, %d) of %d, %d and %d elements: %v, %v, not %v", level, c, w, len(l), len(z), len(q), x, e, want)
	}
}

// noTrue asks for an error of True, and for nothing beside it.
func noTrue(t *testing.T, level, c, w int, l []api.Claim, z, columns []api.Elem, want api.Errno) {
	t.Helper()
	if v, e := claim.True(level, c, w, l, z, columns); e != want || len(v) != 0 {
		t.Errorf("True(%d, %d, %d) of %d, %d and %d elements: %v, %v, not %v", level, c, w, len(l), len(z), len(columns), v, e, want)
	}
}

// allRefuse asks for one error of Mask, At and True, ahead of all that is wrong with a point q and a table.
func allRefuse(t *testing.T, level, c, w int, l []api.Claim, z []api.Elem, want api.Errno) {
	t.Helper()
	n := min(max(c, 0), 7) + min(max(w, 0), 7)
	for _, e := range append(tooHigh(min(max(level, 0), 7)), api.Elem{}) {
		noMask(t, level, c, w, l, z, e, want)
		for _, m := range []int{0, n, n + 1} {
			noAt(t, level, c, w, l, z, e, slices.Repeat([]api.Elem{e}, m), want)
		}
		for _, m := range []int{0, 1 << min(n, 6), 65} {
			noTrue(t, level, c, w, l, z, slices.Repeat([]api.Elem{e}, m), want)
		}
	}
}

// outside are numbers that are not from 0 to 6.
var outside = []int{math.MinInt, math.MinInt32, -64, -1, 7, 8, 62, 63, 64, 65, math.MaxInt32, math.MaxInt}

// wrongClaims are claims of columns of c and w that may not be, by their errors.
func wrongClaims(c, w int) map[api.Errno][]api.Claim {
	none, arg := []api.Claim{}, []api.Claim{}
	for _, col := range []int{math.MinInt, -64, -1, 1 << c, 1<<c + 1, 64, 1 << 32, math.MaxInt} {
		none = append(none, api.Claim{Col: col}, api.Claim{Col: col, Kind: turn.Left, S: 1<<w - 1}, api.Claim{Col: col, Kind: 9}, api.Claim{Col: col, Kind: turn.Left, S: -1})
	}
	for _, kind := range []int{math.MinInt, -1, 4, 5, math.MaxInt} {
		arg = append(arg, api.Claim{Kind: kind}, api.Claim{Col: 1<<c - 1, Kind: kind})
	}
	for _, s := range []int{math.MinInt, -1, 1 << w, 1<<w + 1, 64, math.MaxInt} {
		for kind := range 4 {
			arg = append(arg, api.Claim{Kind: kind, S: s})
		}
	}
	if w > 0 {
		arg = append(arg, api.Claim{S: 1}, api.Claim{Col: 1<<c - 1, S: 1<<w - 1})
	}
	return map[api.Errno][]api.Claim{api.ErrNone: none, api.ErrArg: arg}
}

// 22.1: c and w that are not within their bounds come first.
func TestBounds(t *testing.T) {
	if claim.MaxCols != 6 || claim.MaxClaims != 200 {
		t.Errorf("the bounds are %d, %d", claim.MaxCols, claim.MaxClaims)
	}
	lists := [][]api.Claim{nil, {}, {{}}, make([]api.Claim, 201), {{Col: -1}}, {{Kind: 9}}}
	for c := range 7 {
		for w := range 7 {
			if e := claim.Check(c, w, nil); e != api.OK {
				t.Errorf("Check(%d, %d): %v", c, w, e)
			}
			if e := claim.Check(c, w, []api.Claim{{Col: 1<<c - 1}, {Col: 0, Kind: turn.Round, S: 1<<w - 1}}); e != api.OK {
				t.Errorf("Check(%d, %d) of two: %v", c, w, e)
			}
		}
	}
	for _, n := range outside {
		for m := -1; m <= 7; m++ {
			for _, l := range lists {
				for _, p := range [][2]int{{n, m}, {m, n}, {n, n}} {
					if e := claim.Check(p[0], p[1], l); e != api.ErrArg {
						t.Errorf("Check(%d, %d) of %d: %v", p[0], p[1], len(l), e)
					}
					for _, z := range []int{0, max(m, 0), 8} {
						allRefuse(t, 3, p[0], p[1], l, make([]api.Elem, z), api.ErrArg)
					}
				}
			}
		}
	}
}

// 22.1: 200 claims are the most, and 201 too many, whatever they are.
func TestNumbers(t *testing.T) {
	for c := range 7 {
		for w := range 7 {
			if e := claim.Check(c, w, make([]api.Claim, 200)); e != api.OK {
				t.Errorf("Check(%d, %d) of 200: %v", c, w, e)
			}
			for _, n := range []int{201, 202, 1000} {
				for _, l := range [][]api.Claim{make([]api.Claim, n), slices.Repeat([]api.Claim{{Col: -1}}, n), slices.Repeat([]api.Claim{{Kind: 9}}, n)} {
					if e := claim.Check(c, w, l); e != api.ErrLong {
						t.Errorf("Check(%d, %d) of %d: %v", c, w, n, e)
					}
					allRefuse(t, 3, c, w, l, make([]api.Elem, w), api.ErrLong)
					allRefuse(t, 3, c, w, l, make([]api.Elem, w+1), api.ErrLong)
				}
			}
		}
	}
}

// 22.1: columns that there are none of, and what is no turn, claim by claim.
func TestWrongClaims(t *testing.T) {
	for c := range 7 {
		for w := range 7 {
			right := api.Claim{Col: 1<<c - 1, Kind: turn.Left, S: 1<<w - 1}
			for want, all := range wrongClaims(c, w) {
				for _, wrong := range all {
					for _, l := range [][]api.Claim{{wrong}, {right, wrong}, {wrong, right}, {right, right, wrong, {Col: -1}, {Kind: 9}}, {wrong, {Kind: 9}, {Col: -1}}, append(slices.Repeat([]api.Claim{right}, 199), wrong)} {
						if e := claim.Check(c, w, l); e != want {
							t.Errorf("Check(%d, %d) of %v: %v, not %v", c, w, wrong, e, want)
						}
						if len(l) > 5 {
							continue
						}
						if _, e := claim.Mask(5, c, w, l, nil, tower.Bit(127)); e != want {
							t.Errorf("Mask(%d, %d) of %v: %v, not %v", c, w, wrong, e, want)
						}
						if _, e := claim.At(5, c, w, l, nil, tower.Bit(127), nil); e != want {
							t.Errorf("At(%d, %d) of %v: %v, not %v", c, w, wrong, e, want)
						}
						if _, e := claim.True(5, c, w, l, nil, nil); e != want {
							t.Errorf("True(%d, %d) of %v: %v, not %v", c, w, wrong, e, want)
						}
					}
				}
			}
		}
	}
}

// 22.1 to 22.3: levels that are none come first of all.
func TestNoLevels(t *testing.T) {
	for _, level := range noLevels {
		for _, l := range [][]api.Claim{nil, {{}}, {{Val: tower.Bit(127)}}, make([]api.Claim, 201), {{Col: -1}}} {
			for _, b := range []api.Elem{{}, tower.Bit(127)} {
				noTotal(t, level, l, b, api.ErrArg)
			}
			for _, c := range []int{-1, 0, 2, 7} {
				for _, w := range []int{-1, 0, 2, 7} {
					allRefuse(t, level, c, w, l, make([]api.Elem, max(w, 0)), api.ErrArg)
					allRefuse(t, level, c, w, l, []api.Elem{tower.Bit(127)}, api.ErrArg)
				}
			}
		}
	}
}

// 22.1: b, or a Val, that is not of the level, wherever it stands, also where the product would be 0.
func TestTotalErrors(t *testing.T) {
	for level := range 8 {
		for _, e := range tooHigh(level) {
			for _, n := range []int{0, 1, 3, 250} {
				noTotal(t, level, make([]api.Claim, n), e, api.ErrField)
				for _, j := range []int{0, n / 2, n - 1} {
					if n == 0 {
						continue
					}
					l := make([]api.Claim, n)
					l[j].Val = e
					for _, b := range []api.Elem{{}, tower.One(), e} {
						noTotal(t, level, l, b, api.ErrField)
					}
				}
			}
		}
	}
}

// 22.2, 22.3: z of too few and too many elements, ahead of elements that are not of the level.
func TestPointSizes(t *testing.T) {
	for level := range 8 {
		for c := range 7 {
			for w := range 7 {
				for _, l := range [][]api.Claim{nil, {{}}, {{Col: 1<<c - 1, Kind: turn.Round}}} {
					for _, e := range append(tooHigh(level), api.Elem{}) {
						many := slices.Repeat([]api.Elem{e}, 13)
						for _, n := range []int{0, w - 1, w + 1, w + c, 12, 13} {
							if n >= 0 && n != w {
								noMask(t, level, c, w, l, many[:n], e, api.ErrSize)
								noAt(t, level, c, w, l, many[:n], e, many[:min(w+c, 13)], api.ErrSize)
								noAt(t, level, c, w, l, many[:n], e, nil, api.ErrSize)
								noTrue(t, level, c, w, l, many[:n], nil, api.ErrSize)
								noTrue(t, level, c, w, l, many[:n], many, api.ErrSize)
							}
						}
					}
				}
			}
		}
	}
}

// 22.2, 22.3: an element of z, or b, that is not of the level, ahead of what is wrong with q and the table; of no claims as well.
func TestPointElements(t *testing.T) {
	for level := range 8 {
		for _, c := range []int{0, 2, 6} {
			for w := range 7 {
				for _, l := range [][]api.Claim{nil, {{}}, {{Col: 1<<c - 1, Kind: turn.Left, S: 1<<w - 1}}} {
					for _, e := range tooHigh(level) {
						for i := range w {
							allRefuse(t, level, c, w, l, put(make([]api.Elem, w), i, e), api.ErrField)
						}
						z := make([]api.Elem, w)
						noMask(t, level, c, w, l, z, e, api.ErrField)
						for _, n := range []int{0, w + c, w + c + 1} {
							noAt(t, level, c, w, l, z, e, make([]api.Elem, n), api.ErrField)
						}
					}
				}
			}
		}
	}
}

// 22.2: q of too few and too many elements, then its elements.
func TestAtErrors(t *testing.T) {
	for level := range 8 {
		for c := range 7 {
			for w := range 7 {
				z := make([]api.Elem, w)
				for _, l := range [][]api.Claim{nil, {{}}, {{Col: 1<<c - 1, Kind: turn.Right}}} {
					for _, e := range append(tooHigh(level), api.Elem{}) {
						many := slices.Repeat([]api.Elem{e}, 20)
						for _, n := range []int{0, w, c, w + c - 1, w + c + 1, 13, 20} {
							if n >= 0 && n != w+c {
								noAt(t, level, c, w, l, z, tower.One(), many[:n], api.ErrSize)
							}
						}
					}
					for _, e := range tooHigh(level) {
						for i := range w + c {
							noAt(t, level, c, w, l, z, tower.One(), put(make([]api.Elem, w+c), i, e), api.ErrField)
						}
					}
				}
			}
		}
	}
}

// 22.3: tables of too few and too many elements, then their elements, also in columns of which no claim speaks.
func TestTrueErrors(t *testing.T) {
	for level := range 8 {
		for c := range 7 {
			for w := range 7 {
				z, size := make([]api.Elem, w), 1<<(w+c)
				for _, l := range [][]api.Claim{nil, {{}}} {
					for _, e := range append(tooHigh(level), api.Elem{}) {
						many := slices.Repeat([]api.Elem{e}, 2*size+1)
						for _, n := range []int{0, 1, 1 << w, size - 1, size / 2, size + 1, 2 * size, 2*size + 1} {
							if n != size && n < len(many) {
								noTrue(t, level, c, w, l, z, many[:n], api.ErrSize)
							}
						}
					}
					for _, e := range tooHigh(level) {
						for _, i := range []int{0, size / 2, size - 1} {
							noTrue(t, level, c, w, l, z, put(make([]api.Elem, size), i, e), api.ErrField)
						}
					}
				}
			}
		}
	}
}

// R3: what is handed in is as it was, also behind its end, and shares nothing with what is answered.
func TestNothingIsChanged(t *testing.T) {
	rnd := rand.New(rand.NewPCG(22, 11))
	for level := range 8 {
		for c := range 4 {
			for w := range 4 {
				size := 1 << (w + c)
				room := drawn(rnd, level, size+30)
				before := slices.Clone(room)
				z, q, columns := room[size:size+w], room[size+10:size+10+w+c], room[:size]
				l := drawnClaims(rnd, level, c, w, 6)
				l[0] = api.Claim{Val: l[0].Val}
				kept := slices.Clone(l)
				total(t, level, l[:4], room[1])
				at(t, level, c, w, l[:4], z, room[0], q)
				answers := [][]api.Elem{mask(t, level, c, w, l[:1], z, tower.One()), mask(t, level, c, w, l[:4], z, room[0]), mask(t, level, c, w, l[:4], z, room[0]), truth(t, level, c, w, l[:4], z, columns), truth(t, level, c, w, l[:1], z, columns), mask(t, level, c, w, nil, z, room[0])}
				if !slices.Equal(room, before) || !slices.Equal(l, kept) {
					t.Errorf("(%d, %d, %d): what was handed in has changed", level, c, w)
				}
				copies := make([][]api.Elem, len(answers))
				for i := range answers {
					copies[i] = slices.Clone(answers[i])
				}
				for i, answer := range answers {
					if !slices.Equal(answer, copies[i]) {
						t.Errorf("(%d, %d, %d): the answer %d shares memory with another one", level, c, w, i)
					}
					for j := range answer[:cap(answer)] {
						answer[:cap(answer)][j] = api.Elem{Hi: 5, Lo: 5}
					}
				}
				if !slices.Equal(room, before) || !slices.Equal(l, kept) {
					t.Errorf("(%d, %d, %d): an answer shares memory with what was handed in", level, c, w)
				}
			}
		}
	}
}
