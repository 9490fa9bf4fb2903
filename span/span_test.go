package span_test

import (
	"math"
	"math/rand/v2"
	"slices"
	"testing"

	"steeple/api"
	"steeple/span"
	"steeple/tower"
)

// lo is elements of one word each.
func lo(l ...uint64) []api.Elem {
	out := make([]api.Elem, len(l))
	for i, n := range l {
		out[i] = api.Elem{Lo: n}
	}
	return out
}

// draw is n elements of so many bits.
func draw(rnd *rand.Rand, n, bits int) []api.Elem {
	out := make([]api.Elem, n)
	for i := range out {
		for j := range bits {
			if rnd.IntN(2) == 1 {
				out[i] = tower.Add(out[i], tower.Bit(j))
			}
		}
	}
	return out
}

// raised is elements with their bits so many places higher.
func raised(l []api.Elem, by int) []api.Elem {
	out := make([]api.Elem, len(l))
	for i, e := range l {
		for j, set := range tower.Bits(7, e) {
			if set {
				out[i] = tower.Add(out[i], tower.Bit(j+by))
			}
		}
	}
	return out
}

// lead is the leading bit of an element that is not 0.
func lead(e api.Elem) int {
	n := -1
	for i, set := range tower.Bits(7, e) {
		if set {
			n = i
		}
	}
	return n
}

// all is each sum of some elements, one by one.
func all(l []api.Elem) map[api.Elem]int {
	sums := map[api.Elem]int{{}: 1}
	for _, e := range l {
		more := map[api.Elem]int{}
		for s := range sums {
			more[s] = 1
			more[tower.Add(s, e)] = 1
		}
		sums = more
	}
	return sums
}

// few are short lists of few bits: all lists of at most three elements below 8, and more drawn ones.
func few() [][]api.Elem {
	out := [][]api.Elem{nil, {}}
	for a := range uint64(8) {
		out = append(out, lo(a))
		for b := range uint64(8) {
			out = append(out, lo(a, b))
			for c := range uint64(8) {
				out = append(out, lo(a, b, c))
			}
		}
	}
	rnd := rand.New(rand.NewPCG(4, 1))
	for n := range 12 {
		for _, by := range []int{0, 59, 61, 122} {
			out = append(out, raised(draw(rnd, n, 6), by))
		}
	}
	return out
}

// 4.1
func TestBasisExamples(t *testing.T) {
	top := api.Elem{Hi: 1 << 63}
	for _, x := range []struct{ l, want []api.Elem }{
		{nil, nil},
		{lo(0), nil},
		{lo(0, 0, 0), nil},
		{lo(7, 7), lo(7)},
		{lo(3, 5, 6), lo(5, 3)},
		{lo(1, 3, 7, 15), lo(8, 4, 2, 1)},
		{[]api.Elem{{Lo: 1}, {Hi: 1 << 63, Lo: 1}}, []api.Elem{top, {Lo: 1}}},
		{[]api.Elem{{Hi: 1}, {Hi: 1, Lo: 1 << 63}}, []api.Elem{{Hi: 1}, {Lo: 1 << 63}}},
	} {
		if b := span.Basis(x.l); !slices.Equal(b, x.want) {
			t.Errorf("Basis of %v: %v", x.l, b)
		}
	}
}

// isBasis tells whether a list has the form of a basis.
func isBasis(b []api.Elem) bool {
	for i, e := range b {
		if e == (api.Elem{}) || i > 0 && lead(e) >= lead(b[i-1]) {
			return false
		}
		for j, other := range b {
			if j != i && tower.Bits(7, other)[lead(e)] {
				return false
			}
		}
	}
	return true
}

// 4.1, 4.5: by all sums, one by one.
func TestBasisAsTheModel(t *testing.T) {
	for _, l := range few() {
		sums, b := all(l), span.Basis(l)
		if !isBasis(b) || span.Rank(l) != len(b) || 1<<len(b) != len(sums) {
			t.Errorf("Basis of %v: %v, rank %d", l, b, span.Rank(l))
		}
		for e := range all(b) {
			if sums[e] == 0 {
				t.Errorf("Basis of %v: %v has %v", l, b, e)
			}
		}
	}
}

// 4.1
func TestIn(t *testing.T) {
	for _, l := range few() {
		sums := all(l)
		for e := range sums {
			if !span.In(l, e) {
				t.Errorf("%v is in the span of %v", e, l)
			}
		}
		for n := range uint64(16) {
			e := api.Elem{Lo: n}
			if span.In(l, e) != (sums[e] == 1) {
				t.Errorf("In(%v, %v): %v", l, e, span.In(l, e))
			}
		}
		if span.In(l, api.Elem{Hi: 1 << 63, Lo: 1}) && sums[api.Elem{Hi: 1 << 63, Lo: 1}] == 0 {
			t.Errorf("In(%v) of the greatest bit", l)
		}
	}
}

// 4.1
func TestSame(t *testing.T) {
	lists := few()
	lists = append(lists[:80:80], lists[len(lists)-48:]...)
	for _, a := range lists {
		sums := all(a)
		for _, b := range lists {
			want := true
			others := all(b)
			for e := range others {
				want = want && sums[e] == 1
			}
			want = want && len(sums) == len(others)
			if span.Same(a, b) != want {
				t.Errorf("Same(%v, %v): %v", a, b, span.Same(a, b))
			}
		}
	}
	if span.Same(lo(1), nil) || span.Same(nil, lo(1)) || !span.Same(lo(0, 0), nil) || span.Same(lo(1, 2), lo(1)) || span.Same(lo(1), lo(1, 2)) {
		t.Errorf("Same, of spans within each other")
	}
}

// modelSolve goes over all choices of new elements.
func modelSolve(l []api.Elem, x api.Elem) ([]bool, bool) {
	var fresh []int
	for i, e := range l {
		if all(l[:i])[e] == 0 {
			fresh = append(fresh, i)
		}
	}
	for n := range 1 << len(fresh) {
		which := make([]bool, len(l))
		var sum api.Elem
		for k, i := range fresh {
			if which[i] = n>>k&1 == 1; which[i] {
				sum = tower.Add(sum, l[i])
			}
		}
		if sum == x {
			return which, true
		}
	}
	return nil, false
}

// 4.2, 4.5
func TestSolve(t *testing.T) {
	for _, l := range few() {
		asked := lo(0, 1, 2, 3, 4, 5, 6, 7, 8, 1<<59, 1<<63)
		for e := range all(l) {
			asked = append(asked, e)
		}
		for _, x := range asked {
			want, there := modelSolve(l, x)
			if got, ok := span.Solve(l, x); ok != there || !slices.Equal(got, want) {
				t.Errorf("Solve(%v, %v): %v, %v; wanted %v, %v", l, x, got, ok, want, there)
			}
		}
	}
	if got, ok := span.Solve(nil, api.Elem{}); !ok || len(got) != 0 {
		t.Errorf("Solve of nothing: %v, %v", got, ok)
	}
	if got, ok := span.Solve(nil, tower.One()); ok || got != nil {
		t.Errorf("Solve of nothing: %v, %v", got, ok)
	}
	if got, ok := span.Solve(lo(0, 5, 5), api.Elem{Lo: 5}); !ok || !slices.Equal(got, []bool{false, true, false}) {
		t.Errorf("Solve with 0 and twice: %v, %v", got, ok)
	}
}

// 4.1, 4.2: more elements than bits, and all bits in use.
func TestManyElements(t *testing.T) {
	rnd := rand.New(rand.NewPCG(4, 2))
	l := draw(rnd, 300, 128)
	b := span.Basis(l)
	for i, e := range b {
		if e != tower.Bit(127-i) {
			t.Errorf("Basis: %v at %d", e, i)
		}
	}
	if len(b) != 128 || span.Rank(l) != 128 || !span.Same(l, b) {
		t.Errorf("%d elements in the basis, rank %d", len(b), span.Rank(l))
	}
	for _, x := range append(draw(rnd, 20, 128), l[299], api.Elem{}) {
		which, ok := span.Solve(l, x)
		var sum api.Elem
		for i, is := range which {
			if is {
				sum = tower.Add(sum, l[i])
			}
			if is && span.In(l[:i], l[i]) {
				t.Errorf("element %d is not new", i)
			}
		}
		if !ok || len(which) != 300 || sum != x || !span.In(l, x) {
			t.Errorf("Solve(%v): %v, %v", x, sum, ok)
		}
	}
}

// 4.2
func TestPoint(t *testing.T) {
	rnd := rand.New(rand.NewPCG(4, 3))
	l := draw(rnd, 70, 128)
	for i := range 63 {
		want := l[i]
		if i == 62 {
			want = api.Elem{}
		}
		if e := span.Point(l, 1<<i); e != want {
			t.Errorf("Point(%d): %v", 1<<i, e)
		}
	}
	if e := span.Point(l, math.MaxInt); e != tower.Sum(l[:62]...) {
		t.Errorf("Point of all bits: %v", e)
	}
	if e := span.Point(l, 0b1011); e != tower.Sum(l[0], l[1], l[3]) {
		t.Errorf("Point(11): %v", e)
	}
	if e := span.Point(l[:2], 0b111); e != tower.Sum(l[0], l[1]) {
		t.Errorf("Point with a bit too many: %v", e)
	}
	for _, n := range []int{0, -1, -2, math.MinInt, math.MinInt + 1} {
		if e := span.Point(l, n); e != (api.Elem{}) {
			t.Errorf("Point(%d): %v", n, e)
		}
	}
	if e := span.Point(nil, 5); e != (api.Elem{}) {
		t.Errorf("Point of nothing: %v", e)
	}
}

// R3
func TestNothingIsChanged(t *testing.T) {
	l := lo(3, 5, 6, 0, 8)
	kept := slices.Clone(l)
	b := span.Basis(l)
	span.Rank(l)
	span.Solve(l, l[2])
	span.Same(l, l)
	span.Turn(l, 4)
	back, _ := span.Back(lo(2, 3, 4))
	for i := range b {
		b[i].Lo = 77
	}
	for i := range back {
		back[i].Lo = 77
	}
	if !slices.Equal(l, kept) {
		t.Errorf("%v", l)
	}
	one := lo(1)
	if m, _ := span.Back(one); len(m) == 1 {
		m[0].Lo = 9
	}
	if m, _ := span.Then(one, one); len(m) == 1 {
		m[0].Lo = 9
	}
	if m := span.Basis(one); len(m) == 1 {
		m[0].Lo = 9
	}
	if one[0].Lo != 1 {
		t.Errorf("%v", one)
	}
}
