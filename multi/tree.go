package multi

import (
	"slices"

	"steeple/api"
	"steeple/merkle"
	"steeple/perm"
)

// digest is one of a tree's digests.
type digest struct {
	bytes string
}

// row is what is known of one of a tree's rows, by places.
type row map[int]digest

// tree is what is known of a tree, the lowest row first.
type tree []row

// wanted is the places of a proof's digests, row by row.
func wanted(h int, l []int) [][]int {
	rows := make([][]int, h)
	for k := range rows {
		known := row{}
		for _, at := range l {
			known[at>>k] = digest{}
		}
		rows[k] = known.lacks()
	}
	return rows
}

// climbed is the tree as far as texts and a proof tell it.
func climbed(t *perm.Tables, h int, l []int, texts, proof []string) (tree, api.Errno) {
	n, e := Needs(h, l)
	switch {
	case t == nil || e != api.OK:
		return nil, api.ErrArg
	case len(texts) != len(l) || len(proof) != n || slices.ContainsFunc(proof, noDigest):
		return nil, api.ErrSize
	}
	known := row{}
	for i, at := range l {
		leaf := merkle.Leaf(t, texts[i])
		// A text that is too long for a digest leads nowhere, or unlike ones would lead to one root without a twin.
		if noDigest(leaf) {
			return nil, api.ErrSize
		}
		known[at] = digest{leaf}
	}
	rows := tree{known}
	for _, places := range wanted(h, l) {
		for i, at := range places {
			known[at] = digest{proof[i]}
		}
		proof = proof[len(places):]
		known = known.above(t)
		rows = append(rows, known)
	}
	return rows, api.OK
}

// noDigest tells whether a text can't be a digest.
func noDigest(s string) bool {
	return len(s) != api.Digest
}

// places is what is known, in order.
func (r row) places() []int {
	l := make([]int, 0, len(r))
	for at := range r {
		l = append(l, at)
	}
	slices.Sort(l)
	return l
}

// lacks is what is next to a known one and not known itself, in order.
func (r row) lacks() []int {
	var l []int
	for _, at := range r.places() {
		if _, is := r[at^1]; !is {
			l = append(l, at^1)
		}
	}
	return l
}

// above is the row above a row that lacks nothing.
func (r row) above(t *perm.Tables) row {
	up := row{}
	for _, at := range r.places() {
		if at&1 == 0 {
			up[at>>1] = digest{merkle.Node(t, r[at].bytes, r[at^1].bytes)}
		}
	}
	return up
}

// root is the one digest of the topmost row.
func (t tree) root() string {
	return t[len(t)-1][0].bytes
}

// path is the path of a place at which a text is known.
func (t tree) path(at int) []string {
	l := make([]string, len(t)-1)
	for k := range l {
		l[k] = t[k][at>>k^1].bytes
	}
	return l
}
