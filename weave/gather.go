package weave

import (
	"steeple/api"
	"steeple/tower"
)

// Gather is small elements as great ones.
func Gather(from, to int, l []api.Elem) ([]api.Elem, api.Errno) {
	if !isUp(from, to) {
		return nil, api.ErrArg
	}
	each := 1 << (to - from)
	switch {
	case len(l)%each != 0:
		return nil, api.ErrSize
	case !allOf(from, l):
		return nil, api.ErrField
	}
	great := make([]api.Elem, len(l)/each)
	for i, part := range cut(l, each) {
		great[i] = joined(to, part)
	}
	return great, api.OK
}

// Scatter is great elements as small ones.
func Scatter(from, to int, l []api.Elem) ([]api.Elem, api.Errno) {
	if !isUp(from, to) {
		return nil, api.ErrArg
	}
	if !allOf(to, l) {
		return nil, api.ErrField
	}
	each := 1 << (to - from)
	small := make([]api.Elem, len(l)*each)
	for i, part := range cut(small, each) {
		split(to, l[i], part)
	}
	return small, api.OK
}

// Bits is bits, gathered.
func Bits(level int, b []bool) ([]api.Elem, api.Errno) {
	l := make([]api.Elem, len(b))
	for i, bit := range b {
		if bit {
			l[i] = tower.One()
		}
	}
	return Gather(0, level, l)
}

// isUp tells whether there are both levels, and the second is not below the first.
func isUp(from, to int) bool {
	return from >= 0 && to >= from && to <= api.MaxLevel
}

// joined is the one element of a level that small ones are: each half is one of the level below.
func joined(level int, part []api.Elem) api.Elem {
	if len(part) == 1 {
		return part[0]
	}
	half := len(part) / 2
	return tower.Join(level, joined(level-1, part[half:]), joined(level-1, part[:half]))
}

// split lays an element of a level down as small ones, as many as there is room for.
func split(level int, x api.Elem, part []api.Elem) {
	if len(part) == 1 {
		part[0] = x
		return
	}
	half := len(part) / 2
	hi, lo := tower.Split(level, x)
	split(level-1, lo, part[:half])
	split(level-1, hi, part[half:])
}
