package sumcheck_test

import (
	"math"
	"math/rand/v2"
	"slices"
	"testing"

	"steeple/api"
	"steeple/sumcheck"
	"steeple/tower"
)

// noClaim asks for an error of Verify, and for nothing beside it.
func noClaim(t *testing.T, level, d int, claim api.Elem, rounds [][]api.Elem, r []api.Elem, want api.Errno) {
	t.Helper()
	if c, e := sumcheck.Verify(level, d, claim, rounds, r); e != want || c != (api.Elem{}) {
		t.Errorf("Verify(%d, %d) of %d rounds, %d elements: %v, %v, not %v", level, d, len(rounds), len(r), c, e, want)
	}
}

// modelLine is the value at x of the polynomial of values at the first places.
func modelLine(level int, v []api.Elem, x api.Elem) api.Elem {
	var sum api.Elem
	for i, y := range v {
		for j := range v {
			if j != i {
				place, other := api.Elem{Lo: uint64(i)}, api.Elem{Lo: uint64(j)}
				y = tower.Mul(level, y, tower.Div(level, tower.Add(x, other), tower.Add(place, other)))
			}
		}
		sum = tower.Add(sum, y)
	}
	return sum
}

// drawnRounds are rounds that fit a claim, whatever they say else, and the claim behind the last one.
func drawnRounds(rnd *rand.Rand, level, d int, claim api.Elem, r []api.Elem) ([][]api.Elem, api.Elem) {
	rounds := make([][]api.Elem, len(r))
	for i := range r {
		rounds[i] = drawn(rnd, level, d+1)
		rounds[i][1] = tower.Add(rounds[i][0], claim)
		claim = modelLine(level, rounds[i], r[i])
	}
	return rounds, claim
}

// 20.3: any rounds whose first two values are the claim, whether there are tables of which they are or not.
func TestVerify(t *testing.T) {
	rnd := rand.New(rand.NewPCG(20, 9))
	for level := range 8 {
		for d := 1; d <= mostDegree(level); d++ {
			for n := range 6 {
				claim, r := drawn(rnd, level, 1)[0], drawn(rnd, level, n)
				rounds, want := drawnRounds(rnd, level, d, claim, r)
				if got := verified(t, level, d, claim, rounds, r); got != want {
					t.Errorf("Verify(%d, %d) of %d rounds: %v, not %v", level, d, n, got, want)
				}
			}
		}
	}
	// There may be more rounds than a table has variables.
	claim, r := drawn(rnd, 7, 1)[0], drawn(rnd, 7, 40)
	rounds, want := drawnRounds(rnd, 7, 2, claim, r)
	if got := verified(t, 7, 2, claim, rounds, r); got != want {
		t.Errorf("40 rounds: %v, not %v", got, want)
	}
}

// 20.3: behind no rounds the claim is what it was.
func TestVerifyNoRounds(t *testing.T) {
	rnd := rand.New(rand.NewPCG(20, 10))
	for level := range 8 {
		for d := 1; d <= mostDegree(level); d++ {
			claim := drawn(rnd, level, 1)[0]
			for _, rounds := range [][][]api.Elem{nil, {}} {
				if got := verified(t, level, d, claim, rounds, nil); got != claim {
					t.Errorf("Verify(%d, %d): %v, not %v", level, d, got, claim)
				}
			}
		}
	}
}

// 20.3: levels that are none, and d below 1 or that does not fit, come first.
func TestVerifyArguments(t *testing.T) {
	high := tower.Bit(127)
	wrong := [][][]api.Elem{nil, {nil}, {lo(0, 0)}, {lo(1, 0), lo(0)}, {{high, high}}, {lo(0, 0, 0)}}
	refuse := func(level, d int) {
		t.Helper()
		for _, rounds := range wrong {
			for _, r := range [][]api.Elem{nil, lo(0), {high}, lo(0, 0)} {
				noClaim(t, level, d, api.Elem{}, rounds, r, api.ErrArg)
				noClaim(t, level, d, high, rounds, r, api.ErrArg)
			}
		}
	}
	for _, level := range noLevels {
		for _, d := range []int{math.MinInt, -1, 0, 1, 2, 8, 9, math.MaxInt} {
			refuse(level, d)
		}
	}
	for level := range 8 {
		for _, d := range []int{math.MinInt, -2, -1, 0, mostDegree(level) + 1, 9, 10, 16, 64, 256, math.MaxInt} {
			refuse(level, d)
		}
		for d := mostDegree(level) + 1; d <= 9; d++ {
			refuse(level, d)
		}
	}
}

// 20.3: too few and too many rounds, and a round of too few and too many values, ahead of elements that are not of the level and of what is not proved.
func TestVerifySizes(t *testing.T) {
	for level := range 8 {
		for d := 1; d <= mostDegree(level); d++ {
			for _, e := range append(tooHigh(level), api.Elem{}) {
				values := slices.Repeat([]api.Elem{e}, 20)
				for n := range 4 {
					rounds := slices.Repeat([][]api.Elem{values[:d+1]}, n)
					for _, m := range []int{0, 1, 2, 3, 4, 20} {
						if m != n {
							noClaim(t, level, d, e, rounds, values[:m], api.ErrSize)
							noClaim(t, level, d, tower.One(), rounds, values[:m], api.ErrSize)
						}
					}
					for i := range n {
						for _, m := range []int{0, 1, d, d + 2, 9, 10, 20} {
							if m == d+1 {
								continue
							}
							wrong := slices.Clone(rounds)
							wrong[i] = values[:m]
							noClaim(t, level, d, e, wrong, values[:n], api.ErrSize)
							noClaim(t, level, d, tower.One(), wrong, values[:n], api.ErrSize)
						}
					}
				}
			}
		}
	}
}

// 20.3: a claim, an element or a value that is not of the level, wherever it stands, ahead of what is not proved.
func TestVerifyElements(t *testing.T) {
	for level := range 8 {
		for d := 1; d <= mostDegree(level); d++ {
			for _, e := range tooHigh(level) {
				noClaim(t, level, d, e, nil, nil, api.ErrField)
				for _, claim := range lo(0, 1) {
					for n := 1; n < 4; n++ {
						rounds, r := slices.Repeat([][]api.Elem{make([]api.Elem, d+1)}, n), make([]api.Elem, n)
						noClaim(t, level, d, e, rounds, r, api.ErrField)
						for i := range n {
							noClaim(t, level, d, claim, rounds, put(r, i, e), api.ErrField)
							for j := range d + 1 {
								wrong := slices.Clone(rounds)
								wrong[i] = put(rounds[i], j, e)
								noClaim(t, level, d, claim, wrong, r, api.ErrField)
							}
							// Both of the first two: their sum is of the level.
							wrong := slices.Clone(rounds)
							wrong[i] = put(put(rounds[i], 0, e), 1, e)
							noClaim(t, level, d, claim, wrong, r, api.ErrField)
						}
					}
				}
			}
		}
	}
}

// 20.3: rounds whose first two values are not the claim, in the first round and in each behind it.
func TestVerifyNotProved(t *testing.T) {
	rnd := rand.New(rand.NewPCG(20, 11))
	for level := range 8 {
		for d := 1; d <= mostDegree(level); d++ {
			claim, r := drawn(rnd, level, 1)[0], drawn(rnd, level, 4)
			rounds, end := drawnRounds(rnd, level, d, claim, r)
			noClaim(t, level, d, tower.Add(claim, tower.One()), rounds, r, api.ErrProof)
			for i := range rounds {
				for j := range d + 1 {
					wrong := copied(rounds)
					wrong[i][j] = tower.Add(wrong[i][j], tower.One())
					got, e := sumcheck.Verify(level, d, claim, wrong, r)
					want, wants := modelVerify(level, claim, wrong, r)
					if j < 2 && e != api.ErrProof || e != wants || got != want {
						t.Errorf("Verify(%d, %d), the value %d of the round %d: %v, %v, not %v, %v", level, d, j, i, got, e, want, wants)
					}
				}
			}
			if got := verified(t, level, d, claim, rounds, r); got != end {
				t.Errorf("Verify(%d, %d): %v, not %v", level, d, got, end)
			}
		}
	}
	// All noughts prove 0 alone.
	noughts := [][]api.Elem{lo(0, 0, 0), lo(0, 0, 0)}
	if got := verified(t, 7, 2, api.Elem{}, noughts, lo(5, 6)); got != (api.Elem{}) {
		t.Errorf("noughts: %v", got)
	}
	noClaim(t, 7, 2, tower.Bit(127), noughts, lo(5, 6), api.ErrProof)
}

// modelVerify is Verify of what fits.
func modelVerify(level int, claim api.Elem, rounds [][]api.Elem, r []api.Elem) (api.Elem, api.Errno) {
	for i, v := range rounds {
		if tower.Add(v[0], v[1]) != claim {
			return api.Elem{}, api.ErrProof
		}
		claim = modelLine(level, v, r[i])
	}
	return claim, api.OK
}

// 20.4: what is proved is verified, and leads to the expression's value of what the tables are at r.
func TestProvedIsVerified(t *testing.T) {
	rnd := rand.New(rand.NewPCG(20, 12))
	for level := range 8 {
		for n := range 7 {
			for d := range mostDegree(level) + 1 {
				vars := 1 + rnd.IntN(4)
				l, tables, r := drawnSteps(rnd, level, vars, d), drawnTables(rnd, level, vars, n), drawn(rnd, level, n)
				sum := total(t, level, l, tables)
				p := proved(t, level, l, tables, r)
				for k := range tables {
					if p.Ends[k] != modelAt(level, tables[k], r) {
						t.Errorf("level %d: the end %d is not the value at r", level, k)
					}
				}
				if got := verified(t, level, max(1, d), sum, p.Rounds, r); got != modelEval(level, l, p.Ends) {
					t.Errorf("level %d, %d variables, degree %d: %v", level, n, d, got)
				}
				// Each other claim is not proved by the same rounds.
				if n > 0 {
					noClaim(t, level, max(1, d), tower.Add(sum, tower.One()), p.Rounds, r, api.ErrProof)
				}
			}
		}
	}
}

// lie is a round that fits a wrong claim, of a true round's values: true at as many elements as the roots are.
func lie(level int, truth []api.Elem, gap api.Elem, roots []api.Elem) []api.Elem {
	product := func(x api.Elem) api.Elem {
		p := tower.One()
		for _, root := range roots {
			p = tower.Mul(level, p, tower.Add(x, root))
		}
		return p
	}
	by := tower.Div(level, gap, tower.Add(product(api.Elem{}), product(tower.One())))
	v := slices.Clone(truth)
	for i := range v {
		v[i] = tower.Add(v[i], tower.Mul(level, by, product(api.Elem{Lo: uint64(i)})))
	}
	return v
}

// rootsFor are d elements of a level at which a lie may be true: those at 0 and 1 must still add up to something.
func rootsFor(level, d int) []api.Elem {
	size := 1 << (1 << level)
	for first := range size {
		roots := make([]api.Elem, d)
		at := [2]api.Elem{tower.One(), tower.One()}
		for j := range roots {
			roots[j] = api.Elem{Lo: uint64((first + j) % size)}
			at[0] = tower.Mul(level, at[0], roots[j])
			at[1] = tower.Mul(level, at[1], tower.Add(tower.One(), roots[j]))
		}
		if at[0] != at[1] {
			return roots
		}
	}
	return nil
}

// lying are rounds that lead from a wrong claim on, each knowing the elements ahead alone, and true from there on where the claim has become so.
func lying(level, d int, l []api.Op, tables [][]api.Elem, claim api.Elem, r, roots []api.Elem) [][]api.Elem {
	var rounds [][]api.Elem
	for i := range r {
		v := modelRound(level, d, l, tables, r[:i]...)
		if gap := tower.Sum(v[0], v[1], claim); gap != (api.Elem{}) {
			v = lie(level, v, gap, roots)
		}
		rounds = append(rounds, v)
		claim = modelLine(level, v, r[i])
	}
	return rounds
}

// 20.4: of all lists of elements at most n d |F|^(n - 1) lead a false claim to a true one, however it is told.
func TestFalseClaims(t *testing.T) {
	rnd := rand.New(rand.NewPCG(20, 13))
	for _, a := range []struct{ level, n, d int }{{0, 3, 1}, {1, 1, 1}, {1, 2, 2}, {1, 3, 1}, {1, 3, 3}, {2, 1, 8}, {2, 2, 1}, {2, 2, 2}, {2, 2, 3}} {
		size := 1 << (1 << a.level)
		l, tables := drawnSteps(rnd, a.level, 2, a.d), drawnTables(rnd, a.level, 2, a.n)
		wrong := tower.Add(total(t, a.level, l, tables), tower.One())
		// With all roots a lie is seen by as few lists as may be; with one less, or none, by more.
		for _, roots := range [][]api.Elem{rootsFor(a.level, a.d), rootsFor(a.level, 1)} {
			all, unseen := 1, 0
			for range a.n {
				all *= size
			}
			for list := range all {
				r := make([]api.Elem, a.n)
				for i, left := 0, list; i < a.n; i, left = i+1, left/size {
					r[i].Lo = uint64(left % size)
				}
				rounds := lying(a.level, a.d, l, tables, wrong, r, roots)
				var ends []api.Elem
				for _, table := range tables {
					ends = append(ends, modelAt(a.level, table, r))
				}
				if verified(t, a.level, a.d, wrong, rounds, r) == modelEval(a.level, l, ends) {
					unseen++
				}
			}
			if bound := a.n * a.d * all / size; unseen > bound {
				t.Errorf("%v: %d lists of %d do not see it, more than %d", a, unseen, all, bound)
			}
			// A list is seen, if none of its elements is a root.
			seen := 1
			for range a.n {
				seen *= size - len(roots)
			}
			if unseen != all-seen {
				t.Errorf("%v: %d lists of %d do not see it, not %d", a, unseen, all, all-seen)
			}
		}
	}
}
