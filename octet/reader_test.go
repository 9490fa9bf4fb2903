package octet_test

import (
	"math"
	"math/rand/v2"
	"slices"
	"strings"
	"testing"

	"steeple/api"
	"steeple/octet"
)

// readsNothing tells whether a reader that has failed with want reads and answers nothing, and stays so.
func readsNothing(r *octet.Reader, want api.Errno) bool {
	for range 2 {
		if r.Fail() != want || r.End() != want || r.Left() != 0 {
			return false
		}
		if r.Num(math.MaxInt) != 0 || r.Text(math.MaxInt) != "" || len(r.List(9, 9)) != 0 {
			return false
		}
		if r.Elem(0) != (api.Elem{}) || r.Elem(8) != (api.Elem{}) || len(r.Elems(0, 9)) != 0 || len(r.Elems(-1, 9)) != 0 {
			return false
		}
	}
	return true
}

// The calls that read, each answering whether it answered nothing.

func num(most int) func(*octet.Reader) bool {
	return func(r *octet.Reader) bool { return r.Num(most) == 0 }
}

func text(most int) func(*octet.Reader) bool {
	return func(r *octet.Reader) bool { return r.Text(most) == "" }
}

func list(most, long int) func(*octet.Reader) bool {
	return func(r *octet.Reader) bool { return len(r.List(most, long)) == 0 }
}

func elem(level int) func(*octet.Reader) bool {
	return func(r *octet.Reader) bool { return r.Elem(level) == (api.Elem{}) }
}

func elems(level, most int) func(*octet.Reader) bool {
	return func(r *octet.Reader) bool { return len(r.Elems(level, most)) == 0 }
}

// 1.2, 1.3
func TestReadOn(t *testing.T) {
	e := api.Elem{Hi: 0x1817161514131211, Lo: 0x0807060504030201}
	s := octet.Num(0) + octet.Num(math.MaxInt32) + octet.Text("") + octet.Text("a\x00b") +
		octet.List(nil) + octet.List([]string{"x", "", "yz"}) +
		octet.Elem(7, e) + octet.Elem(4, api.Elem{Lo: 258}) + octet.Elem(0, api.Elem{Lo: 1}) +
		octet.Elems(2, nil) + octet.Elems(7, []api.Elem{e, {}, e})
	r := octet.Read(s)
	if r.Left() != len(s) || r.Fail() != api.OK || r.End() != api.ErrForm {
		t.Fatalf("at first: %d, %v, %v", r.Left(), r.Fail(), r.End())
	}
	if a, b := r.Num(0), r.Num(math.MaxInt32); a != 0 || b != math.MaxInt32 || r.Left() != len(s)-8 {
		t.Errorf("numbers: %d, %d, %d", a, b, r.Left())
	}
	if a, b := r.Text(0), r.Text(3); a != "" || b != "a\x00b" {
		t.Errorf("texts: %q, %q", a, b)
	}
	if a, b := r.List(0, 0), r.List(3, 2); len(a) != 0 || !slices.Equal(b, []string{"x", "", "yz"}) {
		t.Errorf("lists: %q, %q", a, b)
	}
	if a, b, c := r.Elem(7), r.Elem(4), r.Elem(0); a != e || b != (api.Elem{Lo: 258}) || c != (api.Elem{Lo: 1}) {
		t.Errorf("elements: %v, %v, %v", a, b, c)
	}
	if a, b := r.Elems(2, 0), r.Elems(7, 3); len(a) != 0 || !slices.Equal(b, []api.Elem{e, {}, e}) {
		t.Errorf("lists of elements: %v, %v", a, b)
	}
	if r.Left() != 0 || r.Fail() != api.OK || r.End() != api.OK {
		t.Errorf("at last: %d, %v, %v", r.Left(), r.Fail(), r.End())
	}
}

// 1.2
func TestReadFails(t *testing.T) {
	for i, x := range []struct {
		s    string
		read func(*octet.Reader) bool
		want api.Errno
	}{
		{"", num(9), api.ErrShort},
		{"\x00\x00\x00", num(9), api.ErrShort},
		{"\x00\x00\x00", num(-1), api.ErrShort},
		{"\x00\x00\x00\x09", num(8), api.ErrLong},
		{"\x00\x00\x00\x00", num(-1), api.ErrLong},
		{"\x00\x00\x00\x00", num(math.MinInt), api.ErrLong},
		{"\x7f\xff\xff\xff", num(math.MaxInt32 - 1), api.ErrLong},
		{"\x80\x00\x00\x00", num(math.MaxInt), api.ErrLong},
		{"\xff\xff\xff\xff", num(math.MaxInt), api.ErrLong},
		{"\x00\x00", text(9), api.ErrShort},
		{"\x00\x00\x00\x02a", text(2), api.ErrShort},
		{"\x00\x00\x00\x02ab", text(1), api.ErrLong},
		{"\x00\x00\x00\x02", text(1), api.ErrLong},
		{"\x00\x00\x00\x00", text(-1), api.ErrLong},
		{"\x7f\xff\xff\xffa", text(math.MaxInt), api.ErrShort},
		{"\x80\x00\x00\x00a", text(math.MaxInt), api.ErrLong},
		{"", list(9, 9), api.ErrShort},
		{"\x00\x00\x00\x01", list(1, 9), api.ErrShort},
		{"\x00\x00\x00\x02\x00\x00\x00\x00", list(2, 9), api.ErrShort},
		{"\x00\x00\x00\x02\x00\x00\x00\x00\x00\x00\x00\x01", list(2, 9), api.ErrShort},
		{"\x00\x00\x00\x02\x00\x00\x00\x00\x00\x00\x00\x01a", list(1, 9), api.ErrLong},
		{"\x00\x00\x00\x02\x00\x00\x00\x00\x00\x00\x00\x01a", list(2, 0), api.ErrLong},
		{"\x00\x00\x00\x01\x00\x00\x00\x00", list(1, -1), api.ErrLong},
		{"\x00\x00\x00\x00", list(-1, 9), api.ErrLong},
		{"\x7f\xff\xff\xff\x00\x00\x00\x00", list(math.MaxInt, 9), api.ErrShort},
		{"\xff\xff\xff\xff\x00\x00\x00\x00", list(math.MaxInt, 9), api.ErrLong},
		{"", elem(0), api.ErrShort},
		{"\x01", elem(4), api.ErrShort},
		{"\x01\x02\x03\x04\x05\x06\x07\x08\x09\x0a\x0b\x0c\x0d\x0e\x0f", elem(7), api.ErrShort},
		{"", elem(-1), api.ErrArg},
		{"\x00", elem(8), api.ErrArg},
		{"\x02", elem(0), api.ErrField},
		{"\x80", elem(0), api.ErrField},
		{"\x04", elem(1), api.ErrField},
		{"\x10", elem(2), api.ErrField},
		{"\xff", elem(2), api.ErrField},
		{"", elems(-1, 9), api.ErrArg},
		{"\x00\x00\x00\x00", elems(8, 0), api.ErrArg},
		{"\x00\x00\x00\x01\xff", elems(8, 0), api.ErrArg},
		{"\x00\x00\x00", elems(3, 9), api.ErrShort},
		{"\x00\x00\x00\x02\x01", elems(3, 2), api.ErrShort},
		{"\x00\x00\x00\x02\x01\x02\x03", elems(4, 2), api.ErrShort},
		{"\x7f\xff\xff\xff\x01", elems(3, math.MaxInt), api.ErrShort},
		{"\x80\x00\x00\x00\x01", elems(3, math.MaxInt), api.ErrLong},
		{"\x00\x00\x00\x02\x01\x02", elems(3, 1), api.ErrLong},
		{"\x00\x00\x00\x02\x02\x02", elems(0, 1), api.ErrLong},
		{"\x00\x00\x00\x00", elems(3, -1), api.ErrLong},
		{"\x00\x00\x00\x02\x01\x02", elems(0, 2), api.ErrField},
		{"\x00\x00\x00\x02\x04\x01", elems(1, 2), api.ErrField},
	} {
		r := octet.Read(x.s)
		if !x.read(r) {
			t.Errorf("read %d answered something", i)
		}
		if !readsNothing(r, x.want) {
			t.Errorf("read %d: %v, not %v", i, r.Fail(), x.want)
		}
		// what follows the fault is of no use to a reader that has failed
		r = octet.Read(octet.Num(3) + x.s)
		if r.Num(3) != 3 || !x.read(r) || !readsNothing(r, x.want) {
			t.Errorf("read %d, behind a number: %v, not %v", i, r.Fail(), x.want)
		}
	}
}

// 1.2: an element may have each of its own bits, and none above them.
func TestEachByteAsElement(t *testing.T) {
	for level := range 4 {
		for b := range 256 {
			r := octet.Read(string([]byte{byte(b)}))
			e := r.Elem(level)
			if b < 1<<(1<<level) {
				if e != (api.Elem{Lo: uint64(b)}) || r.End() != api.OK {
					t.Errorf("level %d, byte %d: %v, %v", level, b, e, r.End())
				}
			} else if e != (api.Elem{}) || !readsNothing(r, api.ErrField) {
				t.Errorf("level %d, byte %d: %v, %v", level, b, e, r.Fail())
			}
		}
	}
}

// 1.2, 1.3: whatever is cut off, the reader fails for it; whatever is left, End tells it.
func TestCutAndLeft(t *testing.T) {
	e := api.Elem{Hi: math.MaxUint64, Lo: math.MaxUint64}
	for i, x := range []struct {
		s    string
		read func(*octet.Reader) bool
	}{
		{octet.Num(math.MaxInt32), num(math.MaxInt)},
		{octet.Text("abcd"), text(4)},
		{octet.List([]string{"ab", "", "c"}), list(3, 2)},
		{octet.Elem(7, e), elem(7)},
		{octet.Elems(7, []api.Elem{e, e}), elems(7, 2)},
		{octet.Elems(0, []api.Elem{{Lo: 1}, {}, {Lo: 1}}), elems(0, 3)},
	} {
		for n := range len(x.s) {
			r := octet.Read(x.s[:n])
			if !x.read(r) || !readsNothing(r, api.ErrShort) {
				t.Errorf("%d, cut at %d: %v", i, n, r.Fail())
			}
		}
		for n := range 3 {
			r := octet.Read(x.s + strings.Repeat("\x00", n))
			want := api.OK
			if n > 0 {
				want = api.ErrForm
			}
			if x.read(r) || r.Fail() != api.OK || r.Left() != n || r.End() != want || r.End() != want {
				t.Errorf("%d, %d left: %d, %v, %v", i, n, r.Left(), r.Fail(), r.End())
			}
		}
	}
	if r := octet.Read(""); r.Left() != 0 || r.Fail() != api.OK || r.End() != api.OK {
		t.Errorf("of no bytes: %d, %v, %v", r.Left(), r.Fail(), r.End())
	}
}

// 1.2: reading goes step by step: a number that is too great is told ahead of bytes that it says, and of members behind it.
func TestStepByStep(t *testing.T) {
	for i, x := range []struct {
		s    string
		read func(*octet.Reader) bool
		want api.Errno
	}{
		{"\x00\x00\x00\x09a", text(8), api.ErrLong},
		{"\x00\x00\x00\x02\x00\x00\x00\x05ab", list(2, 4), api.ErrLong},
		{"\x00\x00\x00\x02\x00\x00\x00\x05abcde", list(2, 4), api.ErrLong},
		{"\x00\x00\x00\x02\x00\x00\x00\x05abcd", list(2, 5), api.ErrShort},
		{"\x00\x00\x00\x03\x01\x02", elems(0, 3), api.ErrField},
	} {
		r := octet.Read(x.s)
		if !x.read(r) || !readsNothing(r, x.want) {
			t.Errorf("read %d: %v, not %v", i, r.Fail(), x.want)
		}
	}
}

// 1.2: the first error stays.
func TestFirstErrorStays(t *testing.T) {
	r := octet.Read("\x02\x00\x00\x00\x07")
	r.Elem(0)
	r.Elem(9)
	r.Num(-1)
	r.Text(9)
	if !readsNothing(r, api.ErrField) {
		t.Errorf("%v", r.Fail())
	}
}

// 1.3, R1
func TestNilReader(t *testing.T) {
	var r *octet.Reader
	if !readsNothing(r, api.ErrArg) {
		t.Errorf("%v, %v, %d", r.Fail(), r.End(), r.Left())
	}
}

// R3: what a reader answers is no other answer's memory.
func TestAnswersShareNothing(t *testing.T) {
	s := octet.Elems(3, []api.Elem{{Lo: 1}, {Lo: 2}}) + octet.Elems(3, []api.Elem{{Lo: 3}}) + octet.List([]string{"a"}) + octet.List([]string{"b"})
	r := octet.Read(s)
	a, b, c, d := r.Elems(3, 9), r.Elems(3, 9), r.List(9, 9), r.List(9, 9)
	a = append(a, api.Elem{Lo: 9})
	a[0], c[0] = api.Elem{Lo: 9}, "c"
	if !slices.Equal(b, []api.Elem{{Lo: 3}}) || !slices.Equal(d, []string{"b"}) || len(a) != 3 {
		t.Errorf("%v, %q", b, d)
	}
}

// some is a text of at most n bytes.
func some(r *rand.Rand, n int) string {
	b := make([]byte, r.IntN(n+1))
	for i := range b {
		b[i] = byte(r.Uint32())
	}
	return string(b)
}

// 1.4: what is written is read as it was.
func TestWrittenIsRead(t *testing.T) {
	rnd := rand.New(rand.NewPCG(1, 4))
	for range 300 {
		n, level, word := int(rnd.Int32()), rnd.IntN(8), some(rnd, 20)
		var words []string
		for range rnd.IntN(5) {
			words = append(words, some(rnd, 9))
		}
		var l []api.Elem
		for range 1 + rnd.IntN(5) {
			all := greatest(level)
			l = append(l, api.Elem{Hi: rnd.Uint64() & all.Hi, Lo: rnd.Uint64() & all.Lo})
		}
		r := octet.Read(octet.Num(n) + octet.Text(word) + octet.List(words) + octet.Elem(level, l[0]) + octet.Elems(level, l))
		if r.Num(n) != n || r.Text(len(word)) != word || !slices.Equal(r.List(len(words), 9), words) {
			t.Fatalf("%d, %q, %q: %v", n, word, words, r.Fail())
		}
		if r.Elem(level) != l[0] || !slices.Equal(r.Elems(level, len(l)), l) || r.End() != api.OK {
			t.Fatalf("level %d, %v: %v", level, l, r.End())
		}
	}
}

// 1.4: what is read, written again, are the bytes that stood there.
func TestReadIsWritten(t *testing.T) {
	rnd := rand.New(rand.NewPCG(1, 5))
	read := 0
	for range 20000 {
		b := []byte(some(rnd, 24))
		for i := range b {
			if rnd.IntN(4) > 0 {
				b[i] &= 3
			}
			if i%4 < 3 && rnd.IntN(8) > 0 {
				b[i] = 0
			}
		}
		s, level := string(b), rnd.IntN(8)
		r := octet.Read(s)
		var again string
		switch rnd.IntN(5) {
		case 0:
			again = octet.Num(r.Num(math.MaxInt32))
		case 1:
			again = octet.Text(r.Text(9))
		case 2:
			again = octet.List(r.List(9, 9))
		case 3:
			again = octet.Elem(level, r.Elem(level))
		default:
			again = octet.Elems(level, r.Elems(level, 9))
		}
		if r.Fail() != api.OK {
			continue
		}
		read++
		if again != s[:len(s)-r.Left()] {
			t.Fatalf("%x was read, %x is written", s[:len(s)-r.Left()], again)
		}
	}
	if read < 5000 {
		t.Errorf("only %d were read", read)
	}
}
