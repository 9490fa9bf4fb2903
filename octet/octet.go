// Package octet is layer 1: see shared/doc/01-octet.md.
package octet

import (
	"math"
	"strings"

	"steeple/api"
)

// numWide is how many bytes a number has.
const numWide = 4

// Num is a number's bytes.
func Num(n int) string {
	if n < 0 || n > math.MaxInt32 {
		return ""
	}
	b := highFirst(n)
	return together(b[:]...)
}

// Text is a text's bytes.
func Text(s string) string {
	return Num(len(s)) + s
}

// List is the bytes of a list of texts.
func List(l []string) string {
	var out strings.Builder
	out.WriteString(Num(len(l)))
	for _, s := range l {
		out.WriteString(Num(len(s)))
		out.WriteString(s)
	}
	return out.String()
}

// Wide is how many bytes an element of a level has.
func Wide(level int) int {
	if !isLevel(level) {
		return 0
	}
	return max(1, 1<<level/8)
}

// Of tells whether an element is of a level.
func Of(level int, e api.Elem) bool {
	if !isLevel(level) {
		return false
	}
	if level == api.MaxLevel {
		return true
	}
	return e.Hi == 0 && e.Lo>>(1<<level) == 0
}

// Elem is an element's bytes.
func Elem(level int, e api.Elem) string {
	if !Of(level, e) {
		return ""
	}
	b := lowFirst(e)
	return together(b[:Wide(level)]...)
}

// Elems is the bytes of elements.
func Elems(level int, l []api.Elem) string {
	wide := Wide(level)
	if wide == 0 {
		return ""
	}
	var out strings.Builder
	out.Grow(numWide + wide*len(l))
	out.WriteString(Num(len(l)))
	for _, e := range l {
		if !Of(level, e) {
			return ""
		}
		b := lowFirst(e)
		out.Write(b[:wide])
	}
	return out.String()
}

// together is the text of bytes that are given as numbers.
func together(l ...byte) string {
	return string(l)
}

// isLevel tells whether there is such a level.
func isLevel(level int) bool {
	return level >= 0 && level <= api.MaxLevel
}

// highFirst is a number's bytes, the highest first.
func highFirst(n int) [numWide]byte {
	return [numWide]byte{byte(n >> 24), byte(n >> 16), byte(n >> 8), byte(n)}
}

// lowFirst is all the bytes of an element, the lowest first; those of a level are the first ones.
func lowFirst(e api.Elem) [16]byte {
	var b [16]byte
	for i := range 8 {
		b[i] = byte(e.Lo >> (8 * i))
		b[8+i] = byte(e.Hi >> (8 * i))
	}
	return b
}
