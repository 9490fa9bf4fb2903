package tower

// Here a word is a row of lanes: elements of one level side by side, which are reckoned with all at once.

// The lower halves of the lanes of each level.
const (
	low1 = 0x5555555555555555
	low2 = 0x3333333333333333
	low3 = 0x0f0f0f0f0f0f0f0f
	low4 = 0x00ff00ff00ff00ff
	low5 = 0x0000ffff0000ffff
	low6 = 0x00000000ffffffff
)

// timesX is each lane of a level times the generator of the level.
func timesX(level int, w uint64) uint64 {
	switch level {
	case 1:
		return timesX1(w)
	case 2:
		return timesX2(w)
	case 3:
		return timesX3(w)
	case 4:
		return timesX4(w)
	case 5:
		return timesX5(w)
	case 6:
		return timesX6(w)
	default:
		return w
	}
}

// One function for each level, not one for all with a table of masks: they stand in the innermost loop of all that is reckoned. In each, (hi X + lo) X is (lo + Z hi) X + hi.

func timesX1(w uint64) uint64 {
	hi := w >> 1 & low1
	return (w&low1^hi)<<1 | hi
}

func timesX2(w uint64) uint64 {
	hi := w >> 2 & low2
	return (w&low2^timesX1(hi))<<2 | hi
}

func timesX3(w uint64) uint64 {
	hi := w >> 4 & low3
	return (w&low3^timesX2(hi))<<4 | hi
}

func timesX4(w uint64) uint64 {
	hi := w >> 8 & low4
	return (w&low4^timesX3(hi))<<8 | hi
}

func timesX5(w uint64) uint64 {
	hi := w >> 16 & low5
	return (w&low5^timesX4(hi))<<16 | hi
}

func timesX6(w uint64) uint64 {
	hi := w >> 32
	return (w&low6^timesX5(hi))<<32 | hi
}

// scaled is each lane of a level times b, an element of that level.
func scaled(level int, w, b uint64) uint64 {
	if w == 0 || b == 0 {
		return 0
	}
	if b == 1 {
		return w
	}
	m := multiples(w)
	return joined(level, &m, b)
}

// multiples are the lanes of a word times each element of level 2.
func multiples(w uint64) [16]uint64 {
	var m [16]uint64
	m[1], m[2], m[4] = w, timesX1(w), timesX2(w)
	m[8] = timesX2(m[2])
	for n := range m {
		bit := n & -n
		m[n] = m[n-bit] ^ m[bit]
	}
	return m
}

// joined is the word whose multiples are m, each lane times b: its halves' products, joined by the generator. Bits of b above those of the level are left out.
func joined(level int, m *[16]uint64, b uint64) uint64 {
	if level <= 2 {
		return m[b&15]
	}
	if level == 3 {
		return m[b&15] ^ timesX3(m[b>>4&15])
	}
	low := joined(level-1, m, b)
	high := joined(level-1, m, b>>(1<<(level-1)))
	return low ^ timesX(level, high)
}

// squares is the square of a word of one lane, an element of level 6. (hi X + lo) squared is (Z hi hi) X + (hi hi + lo lo): the squares of all lanes of a level are made of those of the level below.
func squares(w uint64) uint64 {
	hi := w >> 1 & low1
	w = hi<<1 | w&low1 ^ hi
	hi = w >> 2 & low2
	w = timesX1(hi)<<2 | w&low2 ^ hi
	hi = w >> 4 & low3
	w = timesX2(hi)<<4 | w&low3 ^ hi
	hi = w >> 8 & low4
	w = timesX3(hi)<<8 | w&low4 ^ hi
	hi = w >> 16 & low5
	w = timesX4(hi)<<16 | w&low5 ^ hi
	hi = w >> 32
	return timesX5(hi)<<32 | w&low6 ^ hi
}
