package judge

import (
	"strings"
	"testing"

	"steeple/multi"
	"steeple/perm"
	"steeple/sponge"
)

// 34.2: just a place that was asked of both counts, and of these the first at which the leaves are unlike. Tables that nothing was put into give all texts one digest.
func TestParted(t *testing.T) {
	blank := &perm.Tables{}
	if sponge.Sum(blank, "a") != sponge.Sum(blank, "bc") {
		t.Skip("blank tables tell texts apart")
	}
	show := func(leaves string, places ...int) shown {
		n, _ := multi.Needs(3, places)
		l := shown{height: 3, places: places, leaves: strings.Split(leaves, "")}
		for range n {
			l.proof = append(l.proof, strings.Repeat("d", 32))
		}
		return l
	}
	for i, x := range []struct {
		x, y shown
		a, b string
	}{
		{show("ab", 0, 1), show("ab", 0, 1), "", ""},
		{show("ab", 0, 1), show("cd", 0, 1), "\x00a", "\x00c"},
		{show("ab", 0, 1), show("ad", 0, 1), "\x00b", "\x00d"},
		{show("ab", 0, 1), show("cd", 2, 3), "", ""},
		{show("abc", 0, 3, 5), show("de", 1, 3), "\x00b", "\x00e"},
		{show("abc", 0, 3, 5), show("dbf", 1, 3, 5), "\x00c", "\x00f"},
		{show("abc", 0, 3, 7), show("dbe", 2, 3, 6), "", ""},
		{show("abcd", 1, 2, 4, 6), show("xyd", 0, 2, 6), "\x00b", "\x00y"},
	} {
		a, b, is := parted(blank, x.x, x.y)
		if a != x.a || b != x.b || is != (x.a != "") {
			t.Errorf("%d: %q, %q, %v", i, a, b, is)
		}
		if a, b, is := parted(blank, x.y, x.x); a != x.b || b != x.a || is != (x.a != "") {
			t.Errorf("%d, the other way: %q, %q, %v", i, a, b, is)
		}
	}
}
