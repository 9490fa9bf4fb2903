package span

import (
	"math/bits"
	"slices"

	"steeple/api"
	"steeple/tower"
)

// maxBits is how many bits an element has.
const maxBits = 128

// row is a sum of some new elements of a list; of has the bit k, if the k-th new one is among them.
type row struct {
	sum api.Elem
	of  api.Elem
}

// rows are those of a list: each one's leading bit is in its sum alone. fresh are the places of the list's new elements: at most as many as an element has bits.
type rows struct {
	rows  []row
	fresh []int
}

// eliminate is the rows of a list.
func eliminate(l []api.Elem) rows {
	var s rows
	for i, x := range l {
		if len(s.rows) == maxBits {
			break // all there is is in the span by now
		}
		left, of := s.reduce(x)
		if left == (api.Elem{}) {
			continue
		}
		s.add(row{sum: left, of: tower.Add(of, tower.Bit(len(s.fresh)))})
		s.fresh = append(s.fresh, i)
	}
	return s
}

// reduce takes from x each row whose leading bit it has; one way through is enough, as no row has the leading bit of another. It answers what is left, and the sum of which new elements was taken.
func (s rows) reduce(x api.Elem) (left, of api.Elem) {
	left = x
	for _, r := range s.rows {
		if has(left, long(r.sum)-1) {
			left, of = tower.Add(left, r.sum), tower.Add(of, r.of)
		}
	}
	return left, of
}

// add lays a row that is reduced beside the others, and takes its leading bit out of them.
func (s *rows) add(r row) {
	lead := long(r.sum) - 1
	for i := range len(s.rows) {
		if other := &s.rows[i]; has(other.sum, lead) {
			other.sum, other.of = tower.Add(other.sum, r.sum), tower.Add(other.of, r.of)
		}
	}
	s.rows = append(s.rows, r)
}

// basis is the sums of the rows by falling leading bits.
func (s rows) basis() []api.Elem {
	l := make([]api.Elem, len(s.rows))
	for i := range len(l) {
		l[i] = s.rows[i].sum
	}
	slices.SortFunc(l, func(a, b api.Elem) int { return long(b) - long(a) })
	return l
}

// has tells whether an element has a bit.
func has(x api.Elem, bit int) bool {
	if bit < 64 {
		return x.Lo>>bit&1 == 1
	}
	return x.Hi>>(bit-64)&1 == 1
}

// long is how many bits an element has up to its leading one.
func long(x api.Elem) int {
	if x.Hi != 0 {
		return 64 + bits.Len64(x.Hi)
	}
	return bits.Len64(x.Lo)
}
