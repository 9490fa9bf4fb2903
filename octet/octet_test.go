package octet_test

import (
	"math"
	"strings"
	"testing"

	"steeple/api"
	"steeple/octet"
)

// noLevels are numbers that are no level.
var noLevels = []int{-1, 8, 9, 64, 128, -8, math.MinInt, math.MaxInt}

// tooHigh are for each level from 0 to 6 elements that have a bit too many: the lowest such bit, the highest one, and all.
func tooHigh(level int) []api.Elem {
	l := []api.Elem{{Hi: 1}, {Hi: 1 << 63}, {Hi: math.MaxUint64, Lo: math.MaxUint64}}
	if level < 6 {
		l = append(l, api.Elem{Lo: 1 << (1 << level)}, api.Elem{Lo: 1 << 63}, api.Elem{Lo: 1<<(1<<level) | 1})
	}
	return l
}

// greatest is the element of a level with all its bits.
func greatest(level int) api.Elem {
	if level == 7 {
		return api.Elem{Hi: math.MaxUint64, Lo: math.MaxUint64}
	}
	return api.Elem{Lo: math.MaxUint64 >> (64 - 1<<level)}
}

// 1.1
func TestNum(t *testing.T) {
	for _, x := range []struct {
		n    int
		want string
	}{
		{0, "\x00\x00\x00\x00"},
		{1, "\x00\x00\x00\x01"},
		{255, "\x00\x00\x00\xff"},
		{258, "\x00\x00\x01\x02"},
		{0x12345678, "\x12\x34\x56\x78"},
		{math.MaxInt32 - 1, "\x7f\xff\xff\xfe"},
		{math.MaxInt32, "\x7f\xff\xff\xff"},
		{math.MaxInt32 + 1, ""},
		{math.MaxUint32, ""},
		{1 << 32, ""},
		{math.MaxInt, ""},
		{-1, ""},
		{math.MinInt32, ""},
		{math.MinInt, ""},
	} {
		if s := octet.Num(x.n); s != x.want {
			t.Errorf("Num(%d): %x, not %x", x.n, s, x.want)
		}
	}
}

// 1.1
func TestTextAndList(t *testing.T) {
	for _, x := range []struct{ s, want string }{
		{"", "\x00\x00\x00\x00"},
		{"ab", "\x00\x00\x00\x02ab"},
		{"\x00\xff\x80", "\x00\x00\x00\x03\x00\xff\x80"},
		{strings.Repeat("x", 300), "\x00\x00\x01\x2c" + strings.Repeat("x", 300)},
	} {
		if s := octet.Text(x.s); s != x.want {
			t.Errorf("Text(%q): %x", x.s, s)
		}
	}
	for _, x := range []struct {
		l    []string
		want string
	}{
		{nil, "\x00\x00\x00\x00"},
		{[]string{}, "\x00\x00\x00\x00"},
		{[]string{""}, "\x00\x00\x00\x01\x00\x00\x00\x00"},
		{[]string{"ab", "", "c"}, "\x00\x00\x00\x03\x00\x00\x00\x02ab\x00\x00\x00\x00\x00\x00\x00\x01c"},
	} {
		if s := octet.List(x.l); s != x.want {
			t.Errorf("List(%q): %x", x.l, s)
		}
	}
}

// 1.1
func TestWide(t *testing.T) {
	for level, want := range []int{1, 1, 1, 1, 2, 4, 8, 16} {
		if n := octet.Wide(level); n != want {
			t.Errorf("Wide(%d): %d", level, n)
		}
	}
	for _, level := range noLevels {
		if n := octet.Wide(level); n != 0 {
			t.Errorf("Wide(%d): %d", level, n)
		}
	}
}

// 1.1, R4
func TestOf(t *testing.T) {
	for level := range 8 {
		for above := level; above < 8; above++ {
			for _, e := range []api.Elem{{}, {Lo: 1}, greatest(level)} {
				if !octet.Of(above, e) {
					t.Errorf("%v of level %d is not of level %d", e, level, above)
				}
			}
		}
		if level == 7 {
			continue
		}
		for _, e := range tooHigh(level) {
			if octet.Of(level, e) {
				t.Errorf("%v is of level %d", e, level)
			}
		}
	}
	for _, level := range noLevels {
		if octet.Of(level, api.Elem{}) || octet.Of(level, api.Elem{Lo: 1}) {
			t.Errorf("something is of level %d", level)
		}
	}
}

// 1.1
func TestElem(t *testing.T) {
	e := api.Elem{Hi: 0x1817161514131211, Lo: 0x0807060504030201}
	for _, x := range []struct {
		level int
		e     api.Elem
		want  string
	}{
		{0, api.Elem{}, "\x00"},
		{0, api.Elem{Lo: 1}, "\x01"},
		{1, api.Elem{Lo: 3}, "\x03"},
		{2, api.Elem{Lo: 15}, "\x0f"},
		{3, api.Elem{Lo: 255}, "\xff"},
		{3, api.Elem{Lo: 1}, "\x01"},
		{3, api.Elem{Lo: 258}, ""},
		{4, api.Elem{Lo: 258}, "\x02\x01"},
		{5, api.Elem{Lo: e.Lo & 0xffffffff}, "\x01\x02\x03\x04"},
		{6, api.Elem{Lo: e.Lo}, "\x01\x02\x03\x04\x05\x06\x07\x08"},
		{7, e, "\x01\x02\x03\x04\x05\x06\x07\x08\x11\x12\x13\x14\x15\x16\x17\x18"},
		{7, api.Elem{}, strings.Repeat("\x00", 16)},
	} {
		if s := octet.Elem(x.level, x.e); s != x.want {
			t.Errorf("Elem(%d, %v): %x", x.level, x.e, s)
		}
	}
}

// 1.1, R3
func TestElems(t *testing.T) {
	l := []api.Elem{{Lo: 258}, {}, {Lo: 0xffff}}
	if s := octet.Elems(4, l); s != "\x00\x00\x00\x03\x02\x01\x00\x00\xff\xff" {
		t.Errorf("Elems: %x", s)
	}
	if l[0] != (api.Elem{Lo: 258}) || l[1] != (api.Elem{}) || l[2] != (api.Elem{Lo: 0xffff}) {
		t.Errorf("Elems changed its elements: %v", l)
	}
	for level := range 8 {
		if s := octet.Elems(level, nil); s != "\x00\x00\x00\x00" {
			t.Errorf("Elems(%d) of none: %x", level, s)
		}
		if s := octet.Elems(level, []api.Elem{{Lo: 1}}); s != octet.Num(1)+octet.Elem(level, api.Elem{Lo: 1}) {
			t.Errorf("Elems(%d) of 1: %x", level, s)
		}
	}
}

// 1.1
func TestElementsThatAreNot(t *testing.T) {
	for level := range 7 {
		for _, e := range tooHigh(level) {
			if s := octet.Elem(level, e); s != "" {
				t.Errorf("Elem(%d, %v): %x", level, e, s)
			}
			for i := range 3 {
				l := make([]api.Elem, 3)
				l[i] = e
				if s := octet.Elems(level, l); s != "" {
					t.Errorf("Elems(%d, %v): %x", level, l, s)
				}
			}
		}
	}
	for _, level := range noLevels {
		if s := octet.Elem(level, api.Elem{}); s != "" {
			t.Errorf("Elem(%d): %x", level, s)
		}
		if octet.Elems(level, nil) != "" || octet.Elems(level, []api.Elem{{Lo: 1}}) != "" {
			t.Errorf("Elems(%d) has bytes", level)
		}
	}
}
