package expr_test

import (
	"math"
	"math/rand/v2"
	"runtime"
	"slices"
	"testing"

	"steeple/api"
	"steeple/expr"
	"steeple/tower"
)

// x is a variable as a node.
func x(n int) expr.Node {
	return expr.Var{N: n}
}

// c is a constant as a node.
func c(n uint64) expr.Node {
	return expr.Const{Val: api.Elem{Lo: n}}
}

// sum is a node.
func sum(a, b expr.Node) expr.Node {
	return expr.Sum{A: a, B: b}
}

// prod is a node.
func prod(a, b expr.Node) expr.Node {
	return expr.Prod{A: a, B: b}
}

// leaning is a sum of n + 1 variables, grouped to the left or to the right: 2 n + 1 steps.
func leaning(n int, right bool) expr.Node {
	tree := x(0)
	for range n {
		if right {
			tree = sum(x(0), tree)
		} else {
			tree = sum(tree, x(0))
		}
	}
	return tree
}

// doubled is a node that stands in 2^n places.
func doubled(tree expr.Node, n int) expr.Node {
	for range n {
		tree = sum(tree, tree)
	}
	return tree
}

// powered is x0 times itself, as a tree: the degree is d.
func powered(d int) expr.Node {
	tree := x(0)
	for range d - 1 {
		tree = prod(tree, x(0))
	}
	return tree
}

// strangers are no nodes.
func strangers() []expr.Node {
	type other struct{ N int }
	type same expr.Var
	variable, constant := expr.Var{N: 1}, expr.Const{}
	total, product := expr.Sum{A: variable, B: variable}, expr.Prod{A: variable, B: variable}
	var node expr.Node = variable
	return []expr.Node{nil, 0, 1, "x0", 1.5, true, api.Elem{Lo: 1}, variable.N, constant.Val, other{1}, same{1}, struct{ N int }{1}, struct{ A, B expr.Node }{variable, variable},
		&variable, &constant, &total, &product, &node, (*expr.Var)(nil), (*expr.Const)(nil), (*expr.Sum)(nil), (*expr.Prod)(nil),
		[]expr.Node{variable, variable}, []api.Op{{Kind: api.OpVar}}, map[string]int{}, func() {}, [1]expr.Var{}, api.Op{Kind: api.OpVar}, api.ErrArg}
}

// flat is a tree's steps, if there are any.
func flat(t *testing.T, n expr.Node) []api.Op {
	t.Helper()
	l, e := expr.Flat(n)
	if e != api.OK {
		t.Fatalf("Flat(%v): %v", n, e)
	}
	return l
}

// refused asks for an error of Flat, and no steps beside it.
func refused(t *testing.T, n expr.Node, want api.Errno) {
	t.Helper()
	if l, e := expr.Flat(n); e != want || len(l) != 0 {
		t.Errorf("Flat: %d steps, %v, not %v", len(l), e, want)
	}
}

// 16.3
func TestFlat(t *testing.T) {
	shared := prod(x(1), c(5))
	for _, a := range []struct {
		tree expr.Node
		want []api.Op
	}{
		{c(9), []api.Op{constant(9)}},
		{c(0), []api.Op{constant(0)}},
		{x(0), []api.Op{variable(0)}},
		{x(math.MaxInt), []api.Op{variable(math.MaxInt)}},
		{expr.Const{Val: api.Elem{Hi: math.MaxUint64, Lo: 3}}, []api.Op{{Kind: api.OpConst, Val: api.Elem{Hi: math.MaxUint64, Lo: 3}}}},
		{sum(prod(x(0), x(1)), c(1)), example()},
		{sum(x(1), x(2)), []api.Op{variable(1), variable(2), add(0, 1)}},
		{prod(x(5), x(5)), []api.Op{variable(5), variable(5), mul(0, 1)}},
		{prod(c(2), sum(x(3), prod(x(4), c(6)))), []api.Op{constant(2), variable(3), variable(4), constant(6), mul(2, 3), add(1, 4), mul(0, 5)}},
		{sum(sum(x(1), x(2)), sum(x(3), x(4))), []api.Op{variable(1), variable(2), add(0, 1), variable(3), variable(4), add(3, 4), add(2, 5)}},
		// A part that stands in several places is laid in each.
		{sum(shared, prod(shared, shared)), []api.Op{variable(1), constant(5), mul(0, 1), variable(1), constant(5), mul(3, 4), variable(1), constant(5), mul(6, 7), mul(5, 8), add(2, 9)}},
	} {
		if got := flat(t, a.tree); !slices.Equal(got, a.want) {
			t.Errorf("Flat(%v): %v", a.tree, got)
		}
	}
}

// 16.3: trees have an odd number of steps: 199 is the most, and 201 too many.
func TestFlatLengths(t *testing.T) {
	for _, right := range []bool{false, true} {
		for _, n := range []int{0, 1, 2, 98, 99} {
			l := flat(t, leaning(n, right))
			if len(l) != 2*n+1 || expr.Check(0, 1, l) != api.OK || expr.Degree(l) != 1 {
				t.Errorf("a sum of %d: %d steps", n+1, len(l))
			}
		}
		for _, n := range []int{100, 101, 200, 1000, 1 << 16} {
			refused(t, leaning(n, right), api.ErrLong)
		}
	}
	// 127 steps, and 255.
	if l := flat(t, doubled(x(0), 6)); len(l) != 127 {
		t.Errorf("a doubled tree: %d steps", len(l))
	}
	refused(t, doubled(x(0), 7), api.ErrLong)
	// 2^63 - 1, 2^64 - 1, 2^65 - 1 steps and more, of few nodes each.
	for _, n := range []int{8, 30, 31, 32, 61, 62, 63, 64, 100, 199, 1000, 1 << 15} {
		refused(t, doubled(x(0), n), api.ErrLong)
	}
	// All of the length is at the first, or at the last, part.
	refused(t, prod(doubled(x(0), 64), x(0)), api.ErrLong)
	refused(t, prod(x(0), doubled(x(0), 64)), api.ErrLong)
	refused(t, sum(leaning(49, false), leaning(50, true)), api.ErrLong)
	if l := flat(t, sum(leaning(49, false), leaning(49, true))); len(l) != 199 {
		t.Errorf("a sum of sums: %d steps", len(l))
	}
}

// 16.3
func TestFlatStrangers(t *testing.T) {
	for _, n := range strangers() {
		for _, tree := range []expr.Node{n, sum(n, x(0)), sum(x(0), n), prod(n, c(1)), prod(c(1), n), sum(n, n), prod(sum(x(1), prod(x(2), n)), c(3)), prod(sum(x(1), prod(n, x(2))), c(3))} {
			refused(t, tree, api.ErrArg)
		}
	}
	refused(t, expr.Sum{}, api.ErrArg)
	refused(t, expr.Prod{}, api.ErrArg)
	refused(t, expr.Sum{A: x(0)}, api.ErrArg)
	refused(t, expr.Prod{B: x(0)}, api.ErrArg)
}

// 16.3
func TestFlatVariables(t *testing.T) {
	for _, n := range []int{math.MinInt, -1 << 32, -2, -1} {
		for _, tree := range []expr.Node{x(n), sum(x(n), x(0)), sum(x(0), x(n)), prod(c(1), sum(x(0), x(n)))} {
			refused(t, tree, api.ErrNone)
		}
	}
}

// 16.3
func TestFlatDegree(t *testing.T) {
	for d := 1; d <= 8; d++ {
		if l := flat(t, powered(d)); expr.Degree(l) != d {
			t.Errorf("Flat of the degree %d: %v", d, l)
		}
	}
	for d := 9; d <= 99; d++ {
		refused(t, powered(d), api.ErrRule)
		refused(t, sum(powered(d), c(1)), api.ErrRule)
		refused(t, prod(c(0), powered(d)), api.ErrRule)
	}
	if l := flat(t, sum(powered(8), powered(8))); expr.Degree(l) != 8 {
		t.Errorf("a sum of degrees 8: %d", expr.Degree(l))
	}
	if l := flat(t, prod(powered(4), powered(4))); expr.Degree(l) != 8 {
		t.Errorf("a product of degrees 4: %d", expr.Degree(l))
	}
	refused(t, prod(powered(4), powered(5)), api.ErrRule)
	refused(t, prod(powered(8), x(1)), api.ErrRule)
	// Constants do not count.
	tree := powered(8)
	for range 90 {
		tree = prod(tree, c(3))
	}
	if l := flat(t, tree); expr.Degree(l) != 8 {
		t.Errorf("the degree 8 times constants: %d", expr.Degree(l))
	}
}

// 16.3: the first node in the order of the steps; lengths ahead of all.
func TestFlatFirst(t *testing.T) {
	broken := []struct {
		tree expr.Node
		want api.Errno
	}{{nil, api.ErrArg}, {&expr.Var{}, api.ErrArg}, {x(-1), api.ErrNone}, {powered(9), api.ErrRule}, {prod(x(-1), nil), api.ErrNone}, {prod(powered(9), x(-1)), api.ErrRule}, {sum(7, powered(9)), api.ErrArg}}
	for _, a := range broken {
		for _, b := range broken {
			refused(t, sum(a.tree, b.tree), a.want)
			refused(t, prod(a.tree, b.tree), a.want)
			refused(t, sum(x(0), prod(sum(a.tree, c(1)), b.tree)), a.want)
			for _, right := range []bool{false, true} {
				refused(t, sum(a.tree, leaning(100, right)), api.ErrLong)
				refused(t, sum(leaning(100, right), a.tree), api.ErrLong)
				refused(t, sum(sum(a.tree, b.tree), doubled(x(0), 70)), api.ErrLong)
			}
			refused(t, doubled(sum(a.tree, b.tree), 8), api.ErrLong)
		}
	}
	// A node's own degree is told behind all that is within it.
	refused(t, prod(powered(5), sum(powered(4), x(-3))), api.ErrNone)
	refused(t, prod(powered(5), sum(powered(4), "x")), api.ErrArg)
	refused(t, sum(prod(powered(5), powered(4)), nil), api.ErrRule)
	// What is no node stands at a step of its own, of 199 or of 201.
	refused(t, sum(leaning(98, false), nil), api.ErrArg)
	refused(t, sum(nil, leaning(98, true)), api.ErrArg)
	refused(t, sum(leaning(99, false), nil), api.ErrLong)
	refused(t, sum(nil, leaning(99, true)), api.ErrLong)
}

// 16.3
func TestTree(t *testing.T) {
	last := api.Elem{Hi: math.MaxUint64, Lo: math.MaxUint64}
	for _, a := range []struct {
		l    []api.Op
		want expr.Node
	}{
		{[]api.Op{constant(4)}, c(4)},
		{[]api.Op{{Kind: api.OpConst, Val: last}}, expr.Const{Val: last}},
		{[]api.Op{variable(0)}, x(0)},
		{[]api.Op{variable(math.MaxInt - 1)}, x(math.MaxInt - 1)},
		{example(), sum(prod(x(0), x(1)), c(1))},
		{[]api.Op{variable(2), constant(3), add(1, 0)}, sum(c(3), x(2))},
		{[]api.Op{variable(2), constant(3), mul(1, 0)}, prod(c(3), x(2))},
		{[]api.Op{variable(1), mul(0, 0), add(1, 1), add(0, 2)}, sum(x(1), sum(prod(x(1), x(1)), prod(x(1), x(1))))},
		// The last step's alone: what it does not use is not there.
		{[]api.Op{variable(1), variable(2), mul(0, 1), constant(6)}, c(6)},
		{[]api.Op{variable(1), variable(2), mul(0, 1), add(0, 0)}, sum(x(1), x(1))},
	} {
		before := slices.Clone(a.l)
		if got, e := expr.Tree(a.l); e != api.OK || got != a.want {
			t.Errorf("Tree(%v): %v, %v", a.l, got, e)
		}
		if !slices.Equal(a.l, before) {
			t.Errorf("Tree changed %v", before)
		}
	}
}

// 16.3
func TestTreeErrors(t *testing.T) {
	for _, a := range []struct {
		l    []api.Op
		want api.Errno
	}{
		{nil, api.ErrForm},
		{[]api.Op{}, api.ErrForm},
		{filled(201), api.ErrLong},
		{make([]api.Op, 201), api.ErrLong},
		{[]api.Op{{}}, api.ErrForm},
		{[]api.Op{add(0, 0)}, api.ErrForm},
		{[]api.Op{constant(1), mul(0, 1)}, api.ErrForm},
		{[]api.Op{constant(1), mul(-1, 0)}, api.ErrForm},
		{[]api.Op{{Kind: api.OpVar, Val: tower.One()}}, api.ErrForm},
		{[]api.Op{{Kind: api.OpConst, B: 1}}, api.ErrForm},
		{[]api.Op{variable(-1)}, api.ErrNone},
		{[]api.Op{variable(math.MaxInt)}, api.ErrNone},
		{power(9), api.ErrRule},
		{behind(power(9), constant(1)), api.ErrRule},
	} {
		if got, e := expr.Tree(a.l); e != a.want || got != nil {
			t.Errorf("Tree of %d steps: %v, %v, not %v", len(a.l), got, e, a.want)
		}
	}
}

// 16.3: steps that stand in many places: as a tree they are as few as they were.
func TestTreeShared(t *testing.T) {
	l := []api.Op{variable(0)}
	for len(l) < 200 {
		l = append(l, add(len(l)-1, len(l)-1))
	}
	for n, want := range map[int]api.Errno{1: api.OK, 2: api.OK, 7: api.OK, 8: api.ErrLong, 64: api.ErrLong, 200: api.ErrLong} {
		tree, e := expr.Tree(l[:n])
		if e != api.OK {
			t.Fatalf("Tree of %d steps: %v", n, e)
		}
		back, e := expr.Flat(tree)
		if e != want || e == api.OK && len(back) != 1<<n-1 {
			t.Errorf("Flat of a tree of %d steps: %d, %v", n, len(back), e)
		}
	}
	tree, e := expr.Tree(filled(200))
	if e != api.OK {
		t.Fatalf("Tree of 200 steps: %v", e)
	}
	refused(t, tree, api.ErrLong)
}

// same tells whether two trees are of the same nodes.
func same(a, b expr.Node) bool {
	switch n := a.(type) {
	case expr.Sum:
		m, ok := b.(expr.Sum)
		return ok && same(n.A, m.A) && same(n.B, m.B)
	case expr.Prod:
		m, ok := b.(expr.Prod)
		return ok && same(n.A, m.A) && same(n.B, m.B)
	}
	return a == b
}

// grown is a tree of so many leaves, drawn.
func grown(rnd *rand.Rand, level, vars, leaves int) expr.Node {
	if leaves == 1 && rnd.IntN(2) == 0 {
		return expr.Const{Val: drawn(rnd, level, 1)[0]}
	}
	if leaves == 1 {
		return x(rnd.IntN(vars))
	}
	first := 1 + rnd.IntN(leaves-1)
	a, b := grown(rnd, level, vars, first), grown(rnd, level, vars, leaves-first)
	if rnd.IntN(2) == 0 {
		return sum(a, b)
	}
	return prod(a, b)
}

// valueOf is a tree's value.
func valueOf(level int, n expr.Node, v []api.Elem) api.Elem {
	switch n := n.(type) {
	case expr.Const:
		return n.Val
	case expr.Var:
		return v[n.N]
	case expr.Sum:
		return tower.Add(valueOf(level, n.A, v), valueOf(level, n.B, v))
	case expr.Prod:
		return tower.Mul(level, valueOf(level, n.A, v), valueOf(level, n.B, v))
	}
	panic("no node")
}

// degreeOf is a tree's degree.
func degreeOf(n expr.Node) int {
	switch n := n.(type) {
	case expr.Var:
		return 1
	case expr.Sum:
		return max(degreeOf(n.A), degreeOf(n.B))
	case expr.Prod:
		return degreeOf(n.A) + degreeOf(n.B)
	}
	return 0
}

// 16.3, 16.4: a tree, flat, and back again, is the same tree, and has its value.
func TestThereAndBack(t *testing.T) {
	rnd := rand.New(rand.NewPCG(16, 4))
	good := 0
	for range 4000 {
		level, leaves := rnd.IntN(8), 1+rnd.IntN(20)
		tree := grown(rnd, level, 3, leaves)
		l, e := expr.Flat(tree)
		if degreeOf(tree) > 8 {
			if e != api.ErrRule || len(l) != 0 {
				t.Errorf("Flat(%v): %v, %v", tree, l, e)
			}
			continue
		}
		good++
		if e != api.OK || len(l) != 2*leaves-1 || expr.Check(level, 3, l) != api.OK || expr.Degree(l) != degreeOf(tree) {
			t.Fatalf("Flat(%v): %v, %v", tree, l, e)
		}
		if back, e := expr.Tree(l); e != api.OK || !same(back, tree) {
			t.Errorf("Tree(%v): %v, %v", l, back, e)
		}
		v := drawn(rnd, level, 3)
		if got, e := expr.Eval(level, l, v); e != api.OK || got != valueOf(level, tree, v) {
			t.Errorf("Eval(%v): %v, %v", l, got, e)
		}
	}
	if good < 1000 {
		t.Errorf("%d trees were right", good)
	}
}

// 16.4: an expression's tree, flat, has its value, however its steps lay.
func TestFlatValue(t *testing.T) {
	rnd := rand.New(rand.NewPCG(16, 5))
	good := 0
	for range 20000 {
		level := rnd.IntN(8)
		l := make([]api.Op, 1+rnd.IntN(12))
		for i := range l {
			l[i] = drawnOp(rnd, level, 3, i)
		}
		v := drawn(rnd, level, 3)
		want, e := expr.Eval(level, l, v)
		if e != api.OK {
			continue
		}
		tree, e := expr.Tree(l)
		if e != api.OK {
			t.Fatalf("Tree(%v): %v", l, e)
		}
		m, e := expr.Flat(tree)
		if e == api.ErrLong {
			continue
		}
		good++
		if got, f := expr.Eval(level, m, v); e != api.OK || f != api.OK || got != want || expr.Degree(m) != expr.Degree(l) {
			t.Errorf("%v became %v: %v, %v, %v", l, m, got, e, f)
		}
	}
	if good < 5000 {
		t.Errorf("%d expressions were right", good)
	}
}

// 16.3
func TestMustVar(t *testing.T) {
	for _, n := range []int{0, 1, 5, -1, math.MinInt, math.MaxInt} {
		if got := expr.MustVar(x(n)); got != n {
			t.Errorf("MustVar(%d): %d", n, got)
		}
	}
	panics := func(n expr.Node) {
		t.Helper()
		defer func() {
			if _, ok := recover().(runtime.Error); !ok {
				t.Errorf("MustVar(%v) does not panic", n)
			}
		}()
		expr.MustVar(n)
	}
	for _, n := range append(strangers(), c(0), sum(x(0), x(0)), prod(x(0), x(0)), expr.Sum{}, expr.Prod{}) {
		panics(n)
	}
}

// R3: what is answered is new, and what was handed in is as it was.
func TestNewMemory(t *testing.T) {
	tree := sum(prod(x(0), x(1)), c(1))
	first := flat(t, tree)
	second := flat(t, tree)
	clear(first)
	if !slices.Equal(second, example()) || !slices.Equal(flat(t, tree), example()) {
		t.Errorf("two answers of Flat share memory")
	}
	l := example()
	n, _ := expr.Tree(l)
	clear(l)
	if n != tree {
		t.Errorf("Tree kept the steps: %v", n)
	}
}
