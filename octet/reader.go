package octet

import (
	"math"

	"steeple/api"
)

// Reader reads bytes.
type Reader struct {
	rest string
	err  api.Errno
}

// Read is a reader of bytes.
func Read(s string) *Reader {
	return &Reader{rest: s}
}

// Num reads a number.
func (r *Reader) Num(most int) int {
	s, ok := r.take(numWide)
	if !ok {
		return 0
	}
	n := uint32(s[0])<<24 | uint32(s[1])<<16 | uint32(s[2])<<8 | uint32(s[3])
	// The first question keeps the second one right where an int has 32 bits.
	if n > math.MaxInt32 || int(n) > most {
		r.fail(api.ErrLong)
		return 0
	}
	return int(n)
}

// Text reads a text.
func (r *Reader) Text(most int) string {
	s, _ := r.take(r.Num(most))
	return s
}

// List reads a list of texts.
func (r *Reader) List(most, long int) []string {
	// The list grows as it is read: how many texts it says it has may be far more than there are bytes.
	var l []string
	for range r.Num(most) {
		s := r.Text(long)
		if r.err != api.OK {
			return nil
		}
		l = append(l, s)
	}
	return l
}

// Elem reads an element.
func (r *Reader) Elem(level int) api.Elem {
	if !r.hasLevel(level) {
		return api.Elem{}
	}
	s, ok := r.take(Wide(level))
	if !ok {
		return api.Elem{}
	}
	e := ofLowFirst(s)
	if !Of(level, e) {
		r.fail(api.ErrField)
		return api.Elem{}
	}
	return e
}

// Elems reads elements.
func (r *Reader) Elems(level, most int) []api.Elem {
	if !r.hasLevel(level) {
		return nil
	}
	var l []api.Elem
	for range r.Num(most) {
		e := r.Elem(level)
		if r.err != api.OK {
			return nil
		}
		l = append(l, e)
	}
	return l
}

// Left is how many bytes are left.
func (r *Reader) Left() int {
	if r == nil {
		return 0
	}
	return len(r.rest)
}

// Fail is what a reader has failed with.
func (r *Reader) Fail() api.Errno {
	if r == nil {
		return api.ErrArg
	}
	return r.err
}

// End is what is wrong with what was read, if it was to be all.
func (r *Reader) End() api.Errno {
	if r.Fail() == api.OK && r.Left() > 0 {
		return api.ErrForm
	}
	return r.Fail()
}

// take is the next n bytes; the reader fails, if they are not there.
func (r *Reader) take(n int) (string, bool) {
	if r.Fail() != api.OK {
		return "", false
	}
	if n > len(r.rest) {
		r.fail(api.ErrShort)
		return "", false
	}
	s := r.rest[:n]
	r.rest = r.rest[n:]
	return s, true
}

// hasLevel tells whether the reader may go on to read elements of a level; it fails, if there is no such level.
func (r *Reader) hasLevel(level int) bool {
	if r.Fail() != api.OK {
		return false
	}
	if !isLevel(level) {
		r.fail(api.ErrArg)
		return false
	}
	return true
}

// fail lets go of the bytes, too: of a reader that has failed none are left.
func (r *Reader) fail(err api.Errno) {
	r.rest = ""
	r.err = err
}

// ofLowFirst is the element of at most 16 bytes, the lowest first.
func ofLowFirst(s string) api.Elem {
	var e api.Elem
	for i := range len(s) {
		if i < 8 {
			e.Lo |= uint64(s[i]) << (8 * i)
		} else {
			e.Hi |= uint64(s[i]) << (8 * (i - 8))
		}
	}
	return e
}
