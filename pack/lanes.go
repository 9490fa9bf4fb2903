package pack

// A lane is the bits of one element in its word: 2^level of them. What stands here reckons with all lanes of a word at once.

// place is in which word an element stands, and from which bit on.
func place(level, i int) (word, shift int) {
	perWord := 64 >> level
	return i / perWord, i % perWord << level
}

// wordsFor is how many words n elements take.
func wordsFor(level, n int) int {
	perWord := 64 >> level
	return (n + perWord - 1) / perWord
}

// laneMask is all bits of the lowest lane.
func laneMask(level int) uint64 {
	return 1<<(1<<level) - 1
}

// lowHalves is, for each level from 1 on, the lower halves of all lanes of a word.
func lowHalves() *[maxLevel + 1]uint64 {
	return &[...]uint64{
		1: 0x5555555555555555,
		2: 0x3333333333333333,
		3: 0x0f0f0f0f0f0f0f0f,
		4: 0x00ff00ff00ff00ff,
		5: 0x0000ffff0000ffff,
		6: 0x00000000ffffffff,
	}
}

// inAllLanes is a word with the same element in each lane.
func inAllLanes(level int, lane uint64) uint64 {
	for above := level; above < maxLevel; above++ {
		lane |= lane << (1 << above)
	}
	return lane
}

// sumOfLanes adds up all lanes, by halves of the word.
func sumOfLanes(level int, w uint64) uint64 {
	for above := maxLevel - 1; above >= level; above-- {
		w ^= w >> (1 << above)
	}
	return w & laneMask(level)
}

// products multiplies lane by lane. The lanes of the level below are the halves of these: one step multiplies both ends at once, another one the sums of the halves. The table of lower halves is handed on, so that it is made once a call.
func products(lows *[maxLevel + 1]uint64, level int, a, b uint64) uint64 {
	if level == 0 {
		return a & b
	}
	half, low := 1<<(level-1), lows[level]
	ends := products(lows, level-1, a, b)
	mixed := products(lows, level-1, (a^a>>half)&low, (b^b>>half)&low)
	both := (ends ^ ends>>half) & low
	// X X = Z X + 1: the product of the upper halves goes down as it is, and stays above times Z.
	return both ^ (both^mixed)<<half ^ timesX(lows, level-1, ends&^low)
}

// timesX multiplies each lane by the generator of its level: hi X + lo becomes (lo + Z hi) X + hi.
func timesX(lows *[maxLevel + 1]uint64, level int, w uint64) uint64 {
	var out uint64
	for level > 0 {
		half, low := 1<<(level-1), lows[level]
		out ^= w>>half&low ^ w&low<<half
		w &^= low
		level--
	}
	return out ^ w
}
