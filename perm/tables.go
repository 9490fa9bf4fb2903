package perm

import (
	"math/bits"

	"steeple/api"
	"steeple/tower"
)

// byteLevel is the level whose elements are the bytes.
const byteLevel = 3

// Tables are the box of each byte and back, and each byte times small numbers.
type Tables struct {
	box, unbox [256]byte
	times      [8][256]byte // the rows of other numbers than the factors stay zero
	mix, unmix mixer
}

// Make is the tables.
func Make() *Tables {
	t := new(Tables)
	for i := range 256 {
		b := byte(i)
		t.box[b] = box(b)
		t.unbox[t.box[b]] = b
		for _, k := range factors() {
			t.times[k][b] = times(k, b)
		}
	}
	for i := range 256 {
		t.mix[i] = t.mixedAlone(byte(i))
	}
	for i := range 256 {
		t.unmix[i] = t.unmixedAlone(byte(i))
	}
	return t
}

// Box is a byte's box.
func (t *Tables) Box(b byte) byte {
	if t == nil {
		return 0
	}
	return t.box[b]
}

// Times is a byte times a small number.
func (t *Tables) Times(k int, b byte) byte {
	if t == nil || k < 0 || k >= len(t.times) {
		return 0
	}
	return t.times[k][b]
}

// factors are what a column's bytes are multiplied by, from the new byte's row on downwards.
func factors() [side]int {
	return [side]int{2, 2, 3, 4, 5, 3, 5, 7}
}

func box(b byte) byte {
	inverse := tower.Inv(byteLevel, api.Elem{Lo: uint64(b)})
	b = byte(inverse.Lo)
	sum := b ^ 0x63
	for n := range 4 {
		sum ^= bits.RotateLeft8(b, n+1)
	}
	return sum
}

func times(k int, b byte) byte {
	product := tower.Mul(byteLevel, api.Elem{Lo: uint64(k)}, api.Elem{Lo: uint64(b)})
	return byte(product.Lo)
}

// column is the bytes of a column in one word, that of the row 0 lowest.
type column uint64

// at is a column's byte of a row.
func (c column) at(r int) byte {
	return byte(c >> (8 * r))
}

// only is the column that has a byte in a row, and else 0.
func only(r int, b byte) column {
	return column(b) << (8 * r)
}

// mixer has for each byte what a column becomes that has it in the row 0, and else 0.
type mixer [256]column

// alone is what a column becomes that has a byte in a row, and else 0: the same for all rows but for a turn.
func (m *mixer) alone(r int, b byte) column {
	return column(bits.RotateLeft64(uint64(m[b]), 8*r))
}

// whole is what a column becomes: the sum of what its bytes become.
func (m *mixer) whole(c column) column {
	var sum column
	for r := range side {
		sum ^= m.alone(r, c.at(r))
	}
	return sum
}

// mixedAlone is what a column is mixed to that has a byte in the row 0, and else 0.
func (t *Tables) mixedAlone(b byte) column {
	var out column
	for k, factor := range factors() {
		out ^= only((side-k)%side, t.times[factor][b])
	}
	return out
}

// unmixedAlone is what is mixed to a column that has a byte in the row 0, and else 0.
// To mix eight times is to multiply by 2: squares go over sums, so that eight times take each byte, times the eighth power of each factor, by eight times as many rows, which is to its own row; and all factors added are 3, whose eighth power is 2. Hence to mix seven times, and then to multiply by 3 (2 times 3 is 1), leads back.
func (t *Tables) unmixedAlone(b byte) column {
	mixed := only(0, b)
	for range side - 1 {
		mixed = t.mix.whole(mixed)
	}
	var out column
	for r := range side {
		out ^= only(r, t.times[3][mixed.at(r)])
	}
	return out
}
