package pcs

import (
	"steeple/api"
	"steeple/code"
	"steeple/cube"
	"steeple/multi"
	"steeple/octet"
	"steeple/perm"
	"steeple/tower"
)

// Check is what is wrong with an opening.
func Check(t *perm.Tables, g api.Grid, root string, p []api.Elem, v api.Elem, places []int, o api.Opening) api.Errno {
	if t == nil {
		return api.ErrArg
	}
	c, e := codeOf(g)
	switch {
	case e != api.OK:
		return e
	case !multi.Places(g.Cols+g.Rate, places):
		return api.ErrArg
	case !sized(g, p, places, o):
		return api.ErrSize
	case !octet.Of(g.Level, v) || !allOf(g.Level, p) || !allOf(g.Level, o.Row) || !eachOf(g.Level, o.Cols):
		return api.ErrField
	}
	low, high := p[:g.Cols], p[g.Cols:]
	if !multi.Check(t, root, g.Cols+g.Rate, places, leaves(g.Level, o.Cols), o.Proof) ||
		!agrees(c, cube.Weights(g.Level, high), places, o) ||
		!says(g.Level, o.Row, low, v) {
		return api.ErrProof
	}
	return api.OK
}

// codeOf is the code of the rows of a grid, if that may be.
func codeOf(g api.Grid) (*code.Code, api.Errno) {
	if g.Rows < 0 || g.Rows > MaxRows {
		return nil, api.ErrArg
	}
	return code.New(g.Level, g.Cols, g.Rate)
}

// sized tells whether a point and an opening at places are as long as a grid asks.
func sized(g api.Grid, p []api.Elem, places []int, o api.Opening) bool {
	if len(p) != g.Cols+g.Rows || len(o.Row) != 1<<g.Cols || len(o.Cols) != len(places) {
		return false
	}
	for _, col := range o.Cols {
		if len(col) != 1<<g.Rows {
			return false
		}
	}
	return true
}

// agrees tells whether the word of the row is at each place the column there, mixed: what is mixed and encoded is what is encoded and mixed.
func agrees(c *code.Code, weights []api.Elem, places []int, o api.Opening) bool {
	word, e := c.Encode(o.Row)
	if e != api.OK {
		return false
	}
	for i, at := range places {
		if word[at] != tower.Dot(c.Level(), weights, o.Cols[i]) {
			return false
		}
	}
	return true
}

// says tells whether a row has a value at a point.
func says(level int, row, low []api.Elem, v api.Elem) bool {
	value, e := cube.At(level, row, low)
	return e == api.OK && value == v
}

// eachOf tells whether all elements of all columns are of a level.
func eachOf(level int, cols [][]api.Elem) bool {
	for _, col := range cols {
		if !allOf(level, col) {
			return false
		}
	}
	return true
}

// allOf tells whether all elements are of a level.
func allOf(level int, l []api.Elem) bool {
	for _, e := range l {
		if !octet.Of(level, e) {
			return false
		}
	}
	return true
}
