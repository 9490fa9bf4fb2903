package perm_test

import (
	"encoding/hex"
	"math"
	"slices"
	"testing"

	"steeple/perm"
)

// modelInverse tries all bytes.
func modelInverse(b byte) byte {
	for i := range 256 {
		if product(i, b) == 1 {
			return byte(i)
		}
	}
	return 0
}

// modelBox goes bit by bit: the bit n of the box is the sum of five bits of the inverse.
func modelBox(b byte) byte {
	inverse := modelInverse(b)
	var out byte
	for n := range 8 {
		bit := byte(0x63) >> n & 1
		for k := range 5 {
			bit ^= inverse >> ((n - k + 8) % 8) & 1
		}
		out |= bit << n
	}
	return out
}

// 10.1, 10.3
func TestBox(t *testing.T) {
	p := perm.Make()
	if p.Box(0) != 0x63 || p.Box(1) != 0x7c {
		t.Errorf("Box(0): %x, Box(1): %x", p.Box(0), p.Box(1))
	}
	var first []byte
	seen := map[byte]int{}
	for i := range 256 {
		b := byte(i)
		if p.Box(b) != modelBox(b) {
			t.Errorf("Box(%x): %x, not %x", b, p.Box(b), modelBox(b))
		}
		if i < 16 {
			first = append(first, p.Box(b))
		}
		if before, ok := seen[p.Box(b)]; ok {
			t.Errorf("%x and %x have one box", before, b)
		}
		seen[p.Box(b)] = i
	}
	if hex.EncodeToString(first) != "637c425d21d91fc6f8a584e7ba9b003e" {
		t.Errorf("the boxes of 0 to 15: %x", first)
	}
}

// 10.1
func TestTimes(t *testing.T) {
	p := perm.Make()
	there := []int{2, 3, 4, 5, 7}
	numbers := []int{math.MinInt, math.MinInt32, -256, math.MaxInt32, math.MaxInt, 1 << 32, 256 + 2}
	for k := -9; k < 300; k++ {
		numbers = append(numbers, k)
	}
	for _, k := range numbers {
		for i := range 256 {
			b := byte(i)
			var want byte
			if slices.Contains(there, k) {
				want = product(k, b)
			}
			if got := p.Times(k, b); got != want {
				t.Errorf("Times(%d, %x): %x, not %x", k, b, got, want)
			}
		}
	}
	// In the tower 2 times 2 is 3, and 4 times 4 is 9.
	if p.Times(2, 2) != 3 || p.Times(4, 4) != 9 || p.Times(3, 2) != 1 {
		t.Errorf("small products: %d, %d, %d", p.Times(2, 2), p.Times(4, 4), p.Times(3, 2))
	}
}

// 10.1
func TestNilTables(t *testing.T) {
	var none *perm.Tables
	for i := range 256 {
		if none.Box(byte(i)) != 0 {
			t.Errorf("Box(%x) of nil tables: %x", i, none.Box(byte(i)))
		}
		for _, k := range []int{math.MinInt, -1, 0, 1, 2, 3, 4, 5, 6, 7, 8, math.MaxInt} {
			if none.Times(k, byte(i)) != 0 {
				t.Errorf("Times(%d, %x) of nil tables: %x", k, i, none.Times(k, byte(i)))
			}
		}
	}
}

// 10.1: each call makes tables of its own, all alike.
func TestMake(t *testing.T) {
	a, b := perm.Make(), perm.Make()
	if a == nil || b == nil || a == b {
		t.Fatalf("Make: %p, %p", a, b)
	}
	if *a != *b {
		t.Errorf("two tables that are unlike")
	}
	if perm.Rounds != 6 || perm.Size != 64 {
		t.Errorf("Rounds: %d, Size: %d", perm.Rounds, perm.Size)
	}
}
