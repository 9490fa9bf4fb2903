package merkle_test

import (
	"encoding/hex"
	"math"
	"math/rand/v2"
	"reflect"
	"slices"
	"strconv"
	"strings"
	"testing"
	"unsafe"

	"steeple/api"
	"steeple/merkle"
	"steeple/perm"
	"steeple/sponge"
)

// tables are the same for all tests.
var tables = perm.Make()

// far are numbers that are no height and no place of a tree.
var far = []int{math.MinInt, math.MinInt + 1, -64, -2, -1, 1 << 32, math.MaxInt - 1, math.MaxInt}

// drawn is a text of n bytes.
func drawn(rnd *rand.Rand, n int) string {
	b := make([]byte, n)
	for i := range b {
		b[i] = byte(rnd.Uint32())
	}
	return string(b)
}

// drawnPath is h texts as long as digests.
func drawnPath(rnd *rand.Rand, h int) []string {
	var l []string
	for range h {
		l = append(l, drawn(rnd, 32))
	}
	return l
}

// numbers is n texts, each unlike the others.
func numbers(n int) []string {
	var l []string
	for i := range n {
		l = append(l, "text "+strconv.Itoa(i))
	}
	return l
}

// long is a text of n bytes.
func long(n int) string {
	return strings.Repeat("x", n)
}

// modelDigest goes down from a place of a row to the texts that it is made of.
func modelDigest(l []string, row, i int) string {
	if row == 0 {
		return sponge.Sum(tables, "\x00"+l[i])
	}
	return sponge.Sum(tables, "\x01"+modelDigest(l, row-1, 2*i)+modelDigest(l, row-1, 2*i+1))
}

// blunt is tables of which few digests come, so that unlike texts of one digest are soon found: a mixed column has the same two bits in each byte.
func blunt() *perm.Tables {
	t := perm.Make()
	mix := reflect.ValueOf(t).Elem().FieldByName("mix")
	columns := (*[256]uint64)(unsafe.Pointer(mix.UnsafeAddr()))
	for b := range columns {
		columns[b] = uint64(b&3) * 0x0101010101010101
	}
	return t
}

// 12.1: digests that were worked out apart from the program.
func TestFixed(t *testing.T) {
	for _, x := range []struct {
		texts []string
		want  string
	}{
		{[]string{""}, "2f768fe1ca3e3b97ce0aa46e8884c2192c4912809e59bf69811e626ac6bc00a0"},
		{[]string{"a"}, "06be48cede38023f36649ff3e61f13593017219a9409e21a1e8bf9b6b58325b9"},
		{[]string{"a", "b"}, "fb2966e79ad493cb16769e6d74de1b1362b014d57f0c5c966874150a689c5bbf"},
		{[]string{"a", "b", "c", "d"}, "397c158794feef1439c89e2bc8f54f8587a688b82e4e497f68a3bd20edfe1139"},
		{make([]string, 8), "11a994905aaec3841b5aca8ecae10594973e75f28f4c18428cf1a0801f49f94c"},
		{strings.Fields("0 1 2 3 4 5 6 7 8 9 10 11 12 13 14 15"), "7568565373a46dd88562bbe7be90e34d83ad0c9e70d8082da404755fed031f0d"},
	} {
		if got, e := merkle.Root(tables, x.texts); e != api.OK || hex.EncodeToString([]byte(got)) != x.want {
			t.Errorf("Root of %q: %x, %v", x.texts, got, e)
		}
	}
	if got := hex.EncodeToString([]byte(merkle.Node(tables, "", ""))); got != "60a6c705d08a531349665e8ba5db4752af3f8ee304a479aceb4d1388177b8108" {
		t.Errorf("Node of no bytes: %s", got)
	}
}

// 12.1
func TestLeafAndNode(t *testing.T) {
	rnd := rand.New(rand.NewPCG(12, 1))
	for _, n := range []int{0, 1, 31, 32, 33, 53, 54, 55, 63, 64, 65, 200} {
		a, b := drawn(rnd, n), drawn(rnd, rnd.IntN(70))
		if got := merkle.Leaf(tables, a); got != sponge.Sum(tables, "\x00"+a) || len(got) != api.Digest {
			t.Errorf("Leaf(%x): %x", a, got)
		}
		if got := merkle.Node(tables, a, b); got != sponge.Sum(tables, "\x01"+a+b) || len(got) != api.Digest {
			t.Errorf("Node(%x, %x): %x", a, b, got)
		}
		if merkle.Leaf(nil, a) != "" || merkle.Node(nil, a, b) != "" {
			t.Errorf("digests of nil tables")
		}
	}
}

// 12.1: the longest texts, and those that are too long.
func TestLongTexts(t *testing.T) {
	most := api.MaxText - 1
	if got := merkle.Leaf(tables, long(most)); got != sponge.Sum(tables, "\x00"+long(most)) || len(got) != api.Digest {
		t.Errorf("Leaf of the longest text: %x", got)
	}
	if got := merkle.Node(tables, long(32), long(most-32)); got != sponge.Sum(tables, "\x01"+long(most)) || len(got) != api.Digest {
		t.Errorf("Node of the longest text: %x", got)
	}
	for _, n := range []int{most + 1, most + 2, 2 * most} {
		if merkle.Leaf(tables, long(n)) != "" || merkle.Node(tables, long(32), long(n-32)) != "" || merkle.Node(tables, long(n), "") != "" {
			t.Errorf("a digest of a text of %d bytes", n)
		}
	}
}

// 12.1
func TestRows(t *testing.T) {
	for h := range 7 {
		l := numbers(1 << h)
		rows, e := merkle.Rows(tables, l)
		if e != api.OK || len(rows) != h+1 {
			t.Fatalf("Rows of height %d: %d, %v", h, len(rows), e)
		}
		for k, row := range rows {
			if len(row) != 1<<(h-k) {
				t.Fatalf("row %d of height %d has %d digests", k, h, len(row))
			}
			for i, got := range row {
				if got != modelDigest(l, k, i) {
					t.Errorf("row %d of height %d, place %d: %x", k, h, i, got)
				}
			}
		}
		if root, e := merkle.Root(tables, l); e != api.OK || root != rows[h][0] {
			t.Errorf("Root of height %d: %x, %v", h, root, e)
		}
		if !slices.Equal(l, numbers(1<<h)) {
			t.Errorf("Rows changed the texts")
		}
	}
}

// 12.1: the highest tree, and one that would be higher.
func TestRowsHighest(t *testing.T) {
	if merkle.MaxHeight != 12 {
		t.Fatalf("MaxHeight: %d", merkle.MaxHeight)
	}
	l := numbers(1 << 13)
	rows, e := merkle.Rows(tables, l[:1<<12])
	if e != api.OK || len(rows) != 13 || len(rows[0]) != 1<<12 || len(rows[12]) != 1 || rows[12][0] != modelDigest(l, 12, 0) {
		t.Errorf("Rows of 2^12 texts: %d, %v", len(rows), e)
	}
	if rows, e := merkle.Rows(tables, l); e != api.ErrSize || rows != nil {
		t.Errorf("Rows of 2^13 texts: %d, %v", len(rows), e)
	}
}

// 12.1: errors, and that nil tables are told first.
func TestRowsErrors(t *testing.T) {
	l := numbers(1<<13 + 1)
	for _, n := range []int{0, 1, 2, 3, 4, 5, 6, 7, 8, 9, 12, 24, 100, 1<<12 - 1, 1<<12 + 1, 1<<13 - 1, 1 << 13, 1<<13 + 1} {
		want := api.ErrSize
		if n == 1 || n == 2 || n == 4 || n == 8 {
			want = api.OK
		}
		rows, e := merkle.Rows(tables, l[:n])
		root, f := merkle.Root(tables, l[:n])
		if e != want || f != want || (rows == nil) != (e != api.OK) || (root == "") != (e != api.OK) {
			t.Errorf("of %d texts: %v, %v", n, e, f)
		}
		rows, e = merkle.Rows(nil, l[:n])
		root, f = merkle.Root(nil, l[:n])
		if e != api.ErrArg || f != api.ErrArg || rows != nil || root != "" {
			t.Errorf("of %d texts, nil tables: %v, %v", n, e, f)
		}
	}
	if _, e := merkle.Rows(tables, nil); e != api.ErrSize {
		t.Errorf("of nil: %v", e)
	}
}

// 12.1: a text that is too long has no bytes for a digest in its row, too; its node is that of no bytes and the other digest.
func TestRowsOfLongText(t *testing.T) {
	rows, e := merkle.Rows(tables, []string{"a", long(api.MaxText)})
	if e != api.OK || rows[0][1] != "" || rows[1][0] != merkle.Node(tables, rows[0][0], "") {
		t.Errorf("Rows: %v", e)
	}
	path, e := merkle.Path(rows, 0)
	if e != api.OK || !slices.Equal(path, []string{""}) || merkle.Check(tables, rows[1][0], 1, 0, "a", path) {
		t.Errorf("Path: %x, %v", path, e)
	}
}

// R3: rows share nothing with one another, nor a path with rows.
func TestNothingShared(t *testing.T) {
	l := numbers(8)
	rows, _ := merkle.Rows(tables, l)
	again, _ := merkle.Rows(tables, l)
	for k := range rows {
		rows[k] = append(rows[k], "x")
	}
	for k := range rows {
		if !slices.Equal(rows[k][:len(again[k])], again[k]) {
			t.Errorf("row %d has changed", k)
		}
	}
	path, _ := merkle.Path(again, 3)
	want := slices.Clone(path)
	clear(path)
	if got, _ := merkle.Path(again, 3); !slices.Equal(got, want) {
		t.Errorf("the rows have changed with a path")
	}
	_, texts, _ := merkle.Climb(tables, 3, 3, again[0][3], want)
	clear(texts)
	if !merkle.Check(tables, again[3][0], 3, 3, l[3], want) {
		t.Errorf("the path has changed with the texts")
	}
}

// 12.1, 12.2, 12.4: each place's path, and what it leads to.
func TestPathAndClimb(t *testing.T) {
	for _, h := range []int{0, 1, 2, 3, 4, 5, 12} {
		l := numbers(1 << h)
		rows, _ := merkle.Rows(tables, l)
		step := 1
		if h == 12 {
			step = 65 // goes through places of all ends
		}
		for i := 0; i < 1<<h; i += step {
			path, e := merkle.Path(rows, i)
			if e != api.OK || len(path) != h {
				t.Fatalf("Path(%d) of height %d: %x, %v", i, h, path, e)
			}
			var texts []string
			for k := range h {
				at := i >> k
				if path[k] != rows[k][at^1] {
					t.Errorf("Path(%d) of height %d, row %d: %x", i, h, k, path[k])
				}
				texts = append(texts, "\x01"+rows[k][at&^1]+rows[k][at|1])
			}
			root, got, e := merkle.Climb(tables, h, i, rows[0][i], path)
			if e != api.OK || root != rows[h][0] || !slices.Equal(got, texts) {
				t.Errorf("Climb(%d) of height %d: %x, %x, %v", i, h, root, got, e)
			}
			if !merkle.Check(tables, rows[h][0], h, i, l[i], path) {
				t.Errorf("Check(%d) of height %d", i, h)
			}
		}
	}
}

// 12.1: the path's errors, and that there being no place is told first.
func TestPathErrors(t *testing.T) {
	shaped := func(lengths ...int) [][]string {
		rows := [][]string{}
		for _, n := range lengths {
			rows = append(rows, numbers(n))
		}
		return rows
	}
	for _, x := range []struct {
		rows [][]string
		i    int
		want api.Errno
	}{
		{nil, 0, api.ErrNone}, {shaped(), 0, api.ErrNone}, {shaped(), -1, api.ErrNone},
		{shaped(0), 0, api.ErrNone}, {shaped(0, 1), 0, api.ErrNone}, {shaped(0, 0), 0, api.ErrNone},
		{[][]string{nil, {"x"}}, 0, api.ErrNone},
		{shaped(1), 0, api.OK}, {shaped(1), 1, api.ErrNone}, {shaped(1), -1, api.ErrNone},
		{shaped(2, 1), 0, api.OK}, {shaped(2, 1), 1, api.OK}, {shaped(2, 1), 2, api.ErrNone},
		{shaped(4, 2, 1), 3, api.OK}, {shaped(4, 2, 1), 4, api.ErrNone}, {shaped(4, 2, 1), -1, api.ErrNone},
		{shaped(2), 0, api.ErrSize}, {shaped(2), 1, api.ErrSize}, {shaped(2), 2, api.ErrNone},
		{shaped(1, 1), 0, api.ErrSize}, {shaped(1, 0), 0, api.ErrSize}, {shaped(2, 1, 0), 0, api.ErrSize}, {shaped(2, 1, 1), 0, api.ErrSize},
		{shaped(3, 1), 0, api.ErrSize}, {shaped(3, 2, 1), 0, api.ErrSize}, {shaped(3, 1), 2, api.ErrSize}, {shaped(3, 1), 3, api.ErrNone},
		{shaped(4, 1), 0, api.ErrSize}, {shaped(4, 2), 0, api.ErrSize}, {shaped(4, 2, 2), 0, api.ErrSize}, {shaped(4, 2, 0), 0, api.ErrSize},
		{shaped(4, 3, 1), 0, api.ErrSize}, {shaped(4, 2, 2, 1), 0, api.ErrSize}, {shaped(5, 2, 1), 4, api.ErrSize}, {shaped(5, 2, 1), 5, api.ErrNone},
		{shaped(6, 3, 1), 0, api.ErrSize}, {shaped(6, 3), 0, api.ErrSize}, {shaped(6, 3), 6, api.ErrNone}, {shaped(1, 2, 4), 0, api.ErrSize},
		{shaped(8, 4, 2, 1), 7, api.OK}, {shaped(8, 4, 1), 7, api.ErrSize}, {shaped(8, 4, 2), 7, api.ErrSize}, {shaped(8, 2, 1), 7, api.ErrSize},
	} {
		path, e := merkle.Path(x.rows, x.i)
		if e != x.want || e != api.OK && path != nil {
			t.Errorf("Path(%q, %d): %q, %v", x.rows, x.i, path, e)
		}
	}
	for _, i := range far {
		if path, e := merkle.Path(shaped(4, 2, 1), i); e != api.ErrNone || path != nil {
			t.Errorf("Path at %d: %q, %v", i, path, e)
		}
	}
}

// 12.2: heights and places that are none, with sizes that hinder, too.
func TestClimbArguments(t *testing.T) {
	rnd := rand.New(rand.NewPCG(12, 2))
	leaf, path := drawn(rnd, 32), drawnPath(rnd, 13)
	refused := func(p *perm.Tables, h, i, n int) {
		t.Helper()
		for _, leaf := range []string{leaf, "", leaf[1:]} {
			root, texts, e := merkle.Climb(p, h, i, leaf, path[:n])
			if e != api.ErrArg || root != "" || texts != nil {
				t.Errorf("Climb of height %d at %d: %x, %x, %v", h, i, root, texts, e)
			}
		}
	}
	for h := range 13 {
		for _, i := range []int{0, 1<<h - 1} {
			root, texts, e := merkle.Climb(tables, h, i, leaf, path[:h])
			if e != api.OK || len(root) != 32 || len(texts) != h {
				t.Errorf("Climb of height %d at %d: %x, %v", h, i, root, e)
			}
			refused(nil, h, i, h)
		}
		for _, i := range append([]int{1 << h, 1<<h + 1, 1 << (h + 1), 1 << 13}, far...) {
			refused(tables, h, i, h)
			refused(tables, h, i, 0)
		}
	}
	refused(tables, 13, 0, 13)
	for _, h := range append([]int{13, 14, 31, 32, 62, 63, 64, 65, 128}, far...) {
		for _, i := range append([]int{0, 1}, far...) {
			refused(tables, h, i, 13)
			refused(tables, h, i, 0)
		}
	}
}

// 12.2: a leaf, or one of the path, that has not 32 bytes, and paths that are too short or too long.
func TestClimbSizes(t *testing.T) {
	rnd := rand.New(rand.NewPCG(12, 3))
	refused := func(h int, leaf string, path []string) {
		t.Helper()
		root, texts, e := merkle.Climb(tables, h, 0, leaf, path)
		if e != api.ErrSize || root != "" || texts != nil {
			t.Errorf("Climb of height %d: %x, %x, %v", h, root, texts, e)
		}
	}
	for _, h := range []int{0, 1, 2, 3, 12} {
		leaf, path := drawn(rnd, 32), drawnPath(rnd, h+2)
		for _, n := range []int{0, 1, 31, 33, 64} {
			refused(h, drawn(rnd, n), path[:h])
			for k := range h {
				wrong := slices.Clone(path[:h])
				wrong[k] = drawn(rnd, n)
				refused(h, leaf, wrong)
			}
		}
		for n := range path {
			if n != h {
				refused(h, leaf, path[:n])
			}
		}
	}
	leaf := drawn(rnd, 32)
	for _, none := range [][]string{nil, {}} {
		if root, texts, e := merkle.Climb(tables, 0, 0, leaf, none); e != api.OK || root != leaf || len(texts) != 0 {
			t.Errorf("Climb of height 0: %x, %x, %v", root, texts, e)
		}
	}
}

// 12.2: what leads elsewhere, or nowhere.
func TestCheckWrong(t *testing.T) {
	l := numbers(8)
	rows, _ := merkle.Rows(tables, l)
	root := rows[3][0]
	for i := range l {
		path, _ := merkle.Path(rows, i)
		for j := range l {
			if merkle.Check(tables, root, 3, j, l[i], path) != (i == j) || merkle.Check(tables, root, 3, i, l[j], path) != (i == j) {
				t.Errorf("Check of %d, %d", i, j)
			}
		}
		if merkle.Check(nil, root, 3, i, l[i], path) || merkle.Check(tables, root, 2, i, l[i], path) || merkle.Check(tables, root, 4, i, l[i], path) || merkle.Check(tables, root, 3, i-8, l[i], path) || merkle.Check(tables, root, 3, i+8, l[i], path) {
			t.Errorf("Check of what does not climb, %d", i)
		}
		for _, r := range []string{"", root[1:], root + "\x00", root[1:] + root[:1], rows[0][i]} {
			if merkle.Check(tables, r, 3, i, l[i], path) {
				t.Errorf("Check of the root %x", r)
			}
		}
		for k := range path {
			wrong := slices.Clone(path)
			wrong[k] = wrong[k][:31] + string([]byte{wrong[k][31] ^ 1})
			if merkle.Check(tables, root, 3, i, l[i], wrong) || merkle.Check(tables, root, 3, i, l[i], path[:k]) {
				t.Errorf("Check of a wrong path, %d, %d", i, k)
			}
		}
	}
	if !merkle.Check(tables, merkle.Leaf(tables, ""), 0, 0, "", nil) {
		t.Errorf("Check of one text")
	}
	// No root is none of what does not climb.
	if merkle.Check(nil, "", 0, 0, "", nil) || merkle.Check(tables, "", 0, 0, long(api.MaxText), nil) || merkle.Check(tables, "", 13, 0, "", nil) {
		t.Errorf("Check of no root")
	}
}

// 12.2: a leaf's text is no node's: what stands below a node is not taken for a leaf.
func TestLeavesAreNoNodes(t *testing.T) {
	rows, _ := merkle.Rows(tables, numbers(4))
	for i := range 2 {
		text := rows[0][2*i] + rows[0][2*i+1]
		if merkle.Check(tables, rows[2][0], 1, i, text, []string{rows[1][1-i]}) || merkle.Check(tables, rows[2][0], 1, i, "\x01"+text, []string{rows[1][1-i]}) {
			t.Errorf("a node is taken for a leaf")
		}
	}
}

// twinAt draws two texts and their paths, which lead to one root by way of blunt tables and meet first in a row.
func twinAt(rnd *rand.Rand, p *perm.Tables, h, i, row int) (a, b string, pa, pb []string) {
	for {
		a, b = drawn(rnd, 5), drawn(rnd, 100)
		pa, pb = drawnPath(rnd, h), drawnPath(rnd, h)
		copy(pb[row:], pa[row:])
		_, left, _ := merkle.Climb(p, h, i, merkle.Leaf(p, a), pa)
		_, right, _ := merkle.Climb(p, h, i, merkle.Leaf(p, b), pb)
		left, right = append([]string{"\x00" + a}, left...), append([]string{"\x00" + b}, right...)
		met := 0
		for met <= row && sponge.Sum(p, left[met]) != sponge.Sum(p, right[met]) {
			met++
		}
		if met == row {
			return a, b, pa, pb
		}
	}
}

// textAt is what is summed on a way up in a row.
func textAt(p *perm.Tables, h, i, row int, s string, path []string) string {
	if row == 0 {
		return "\x00" + s
	}
	_, texts, _ := merkle.Climb(p, h, i, merkle.Leaf(p, s), path)
	return texts[row-1]
}

// 12.3, 12.4: unlike texts of one digest, wherever the ways meet.
func TestTwin(t *testing.T) {
	rnd := rand.New(rand.NewPCG(12, 4))
	p := blunt()
	for _, h := range []int{0, 1, 2, 3, 12} {
		for row := range h + 1 {
			i := rnd.IntN(1 << h)
			a, b, pa, pb := twinAt(rnd, p, h, i, row)
			x, y, is := merkle.Twin(p, h, i, a, b, pa, pb)
			if !is || x == y || sponge.Sum(p, x) != sponge.Sum(p, y) {
				t.Fatalf("Twin of height %d, row %d: %x, %x, %v", h, row, x, y, is)
			}
			if x != textAt(p, h, i, row, a, pa) || y != textAt(p, h, i, row, b, pb) {
				t.Errorf("Twin of height %d, row %d: %x, %x", h, row, x, y)
			}
			if y2, x2, is := merkle.Twin(p, h, i, b, a, pb, pa); !is || x2 != x || y2 != y {
				t.Errorf("Twin of height %d, row %d, the other way round: %x, %x, %v", h, row, y2, x2, is)
			}
			noTwin(t, p, h, i, a, a, pa, pa)
			noTwin(t, tables, h, i, a, b, pa, pb)
			noTwin(t, nil, h, i, a, b, pa, pb)
			noTwin(t, p, h+1, i, a, b, pa, pb)
			noTwin(t, p, h, i+1<<h, a, b, pa, pb)
			noTwin(t, p, h, i-1<<h, a, b, pa, pb)
			noTwin(t, p, h, i, a, b, pa, append(drawnPath(rnd, 1), pb...))
			noTwin(t, p, h, i, a, b, append(drawnPath(rnd, 1), pa...), pb)
			noTwin(t, p, h, i, a, long(api.MaxText), pa, pa)
			noTwin(t, p, h, i, long(api.MaxText), b, pb, pb)
			noTwin(t, p, h, i, long(api.MaxText), long(api.MaxText+1), pa, pa)
		}
	}
}

// noTwin asks where there is none.
func noTwin(t *testing.T, p *perm.Tables, h, i int, a, b string, pa, pb []string) {
	t.Helper()
	if x, y, is := merkle.Twin(p, h, i, a, b, pa, pb); is || x != "" || y != "" {
		t.Errorf("Twin of height %d at %d: %x, %x, %v", h, i, x, y, is)
	}
}

// 12.3: the same texts have none, though their paths differ and lead to one root.
func TestTwinOfSameTexts(t *testing.T) {
	rnd := rand.New(rand.NewPCG(12, 5))
	p := blunt()
	for h := 1; h < 5; h++ {
		a, pa := drawn(rnd, 9), drawnPath(rnd, h)
		root, _, _ := merkle.Climb(p, h, 0, merkle.Leaf(p, a), pa)
		pb := slices.Clone(pa)
		for slices.Equal(pa, pb) || !merkle.Check(p, root, h, 0, a, pb) {
			pb[rnd.IntN(h)] = drawn(rnd, 32)
		}
		noTwin(t, p, h, 0, a, a, pa, pb)
	}
}

// 12.3: texts that lead to unlike roots.
func TestTwinOfUnlikeRoots(t *testing.T) {
	rnd := rand.New(rand.NewPCG(12, 6))
	p := blunt()
	for h := range 4 {
		for range 50 {
			a, b := drawn(rnd, 9), drawn(rnd, 9)
			pa, pb := drawnPath(rnd, h), drawnPath(rnd, h)
			root, _, _ := merkle.Climb(p, h, 0, merkle.Leaf(p, a), pa)
			x, y, is := merkle.Twin(p, h, 0, a, b, pa, pb)
			if is != merkle.Check(p, root, h, 0, b, pb) || is != (x != y) {
				t.Errorf("Twin of height %d: %x, %x, %v", h, x, y, is)
			}
			noTwin(t, tables, h, 0, a, b, pa, pa)
		}
	}
}

// R3: arguments are left as they are.
func TestArgumentsUnchanged(t *testing.T) {
	rnd := rand.New(rand.NewPCG(12, 7))
	p := blunt()
	a, b, pa, pb := twinAt(rnd, p, 3, 5, 2)
	left, right := slices.Clone(pa), slices.Clone(pb)
	merkle.Twin(p, 3, 5, a, b, pa, pb)
	merkle.Climb(p, 3, 5, merkle.Leaf(p, a), pa)
	merkle.Check(p, "", 3, 5, b, pb)
	if !slices.Equal(pa, left) || !slices.Equal(pb, right) {
		t.Errorf("paths have changed")
	}
}
