package span

import (
	"steeple/api"
	"steeple/tower"
)

// Apply is what a map makes of an element.
func Apply(m []api.Elem, x api.Elem) (api.Elem, api.Errno) {
	if !isMap(m) {
		return api.Elem{}, api.ErrArg
	}
	if long(x) > len(m) {
		return api.Elem{}, api.ErrSize
	}
	return made(m, x), api.OK
}

// Then is one map behind another one.
func Then(a, b []api.Elem) ([]api.Elem, api.Errno) {
	if !isMap(a) || !isMap(b) {
		return nil, api.ErrArg
	}
	if !within(a, len(b)) {
		return nil, api.ErrSize
	}
	m := make([]api.Elem, len(a))
	for i := range len(a) {
		m[i] = made(b, a[i])
	}
	return m, api.OK
}

// Back is the map that leads back.
func Back(m []api.Elem) ([]api.Elem, api.Errno) {
	if !isMap(m) {
		return nil, api.ErrArg
	}
	if !within(m, len(m)) {
		return nil, api.ErrSize
	}
	s := eliminate(m)
	if len(s.rows) < len(m) {
		return nil, api.ErrRule
	}
	back := make([]api.Elem, len(m))
	for i := range len(m) {
		// All elements are new here, so that the k-th new one is the k-th one.
		_, back[i] = s.reduce(tower.Bit(i))
	}
	return back, api.OK
}

// Turn is bits turned about.
func Turn(l []api.Elem, n int) ([]api.Elem, api.Errno) {
	if !isMap(l) || n < 0 || n > maxBits {
		return nil, api.ErrArg
	}
	if !within(l, n) {
		return nil, api.ErrSize
	}
	out := make([]api.Elem, n)
	for i := range len(l) {
		for j := range long(l[i]) {
			if has(l[i], j) {
				out[j] = tower.Add(out[j], tower.Bit(i))
			}
		}
	}
	return out, api.OK
}

// isMap tells whether a list is a map: one element for each bit there may be, at most.
func isMap(m []api.Elem) bool {
	return len(m) <= maxBits
}

// within tells whether no element of a list has a bit from n on.
func within(l []api.Elem, n int) bool {
	for _, x := range l {
		if long(x) > n {
			return false
		}
	}
	return true
}

// made is what a map makes of an element that has no bit too many.
func made(m []api.Elem, x api.Elem) api.Elem {
	var sum api.Elem
	for i := range long(x) {
		if has(x, i) {
			sum = tower.Add(sum, m[i])
		}
	}
	return sum
}
