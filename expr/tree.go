package expr

import (
	"steeple/api"
)

// Node is a part of a tree.
type Node any

// Const is an element.
type Const struct{ Val api.Elem }

// Var is a variable.
type Var struct{ N int }

// Sum is a sum.
type Sum struct{ A, B Node }

// Prod is a product.
type Prod struct{ A, B Node }

// Tree is the tree of an expression.
func Tree(l []api.Op) (Node, api.Errno) {
	if e := Check(api.MaxLevel, mostVars, l); e != api.OK {
		return nil, e
	}
	nodes := make([]Node, len(l))
	for i, op := range l {
		nodes[i] = node(op, nodes)
	}
	return nodes[len(l)-1], api.OK
}

// node is a step's node, of those of the steps ahead.
func node(op api.Op, ahead []Node) Node {
	switch op.Kind {
	case api.OpVar:
		return Var{N: op.A}
	case api.OpAdd:
		return Sum{A: ahead[op.A], B: ahead[op.B]}
	case api.OpMul:
		return Prod{A: ahead[op.A], B: ahead[op.B]}
	}
	return Const{Val: op.Val}
}

// Flat is a tree's steps.
func Flat(n Node) ([]api.Op, api.Errno) {
	if left(n, MaxOps) < 0 {
		return nil, api.ErrLong
	}
	var f flat
	if e := f.lay(n); e != api.OK {
		return nil, e
	}
	return f.ops, api.OK
}

// MustVar is a variable's number.
func MustVar(n Node) int {
	return number(n)
}

// number asks for MustVar, since no listed call asserts what comes in to it.
func number(n Node) int {
	return n.(Var).N
}

// left is how many of so many steps are left behind a node's own, below 0, if they do not suffice; what is no node takes one, too.
// A node takes its step ahead of its parts: so none goes deeper than there are steps, and parts that stand in many places end it soon.
func left(n Node, steps int) int {
	steps--
	kind, a, b := parts(n)
	if steps < 0 || kind == 0 {
		return steps
	}
	return left(b, left(a, steps))
}

// parts are those of a sum or a product, and the kind of its step; all else has none, and the kind 0.
func parts(n Node) (kind int, a, b Node) {
	switch x := n.(type) {
	case Sum:
		return api.OpAdd, x.A, x.B
	case Prod:
		return api.OpMul, x.A, x.B
	}
	return 0, nil, nil
}

// flat is what has been laid of a tree, and the degree of each step.
type flat struct {
	ops     []api.Op
	degrees []int
}

// lay lays a node's steps, its parts' ahead of its own, up to the first one that may not be.
func (f *flat) lay(n Node) api.Errno {
	if c, ok := n.(Const); ok {
		return f.step(api.Op{Kind: api.OpConst, Val: c.Val})
	}
	if v, ok := n.(Var); ok {
		if v.N < 0 {
			return api.ErrNone
		}
		return f.step(api.Op{Kind: api.OpVar, A: v.N})
	}
	kind, a, b := parts(n)
	if kind == 0 {
		return api.ErrArg
	}
	if e := f.lay(a); e != api.OK {
		return e
	}
	first := f.last()
	if e := f.lay(b); e != api.OK {
		return e
	}
	return f.step(api.Op{Kind: kind, A: first, B: f.last()})
}

// last is the number of the last step.
func (f *flat) last() int {
	return len(f.ops) - 1
}

// step lays one step, if its degree may be.
func (f *flat) step(op api.Op) api.Errno {
	d := stepDegree(op, f.degrees)
	if d > MaxDegree {
		return api.ErrRule
	}
	f.ops = append(f.ops, op)
	f.degrees = append(f.degrees, d)
	return api.OK
}
