package multi_test

import (
	"math"
	"math/rand/v2"
	"reflect"
	"slices"
	"strconv"
	"strings"
	"testing"
	"unsafe"

	"steeple/api"
	"steeple/merkle"
	"steeple/multi"
	"steeple/perm"
	"steeple/sponge"
)

// tables are the same for all tests.
var tables = perm.Make()

// far are numbers that are no height and no place of a tree.
var far = []int{math.MinInt, math.MinInt + 1, -64, -2, -1, 1 << 32, math.MaxInt - 1, math.MaxInt}

// drawn is a text of n bytes.
func drawn(rnd *rand.Rand, n int) string {
	b := make([]byte, n)
	for i := range b {
		b[i] = byte(rnd.Uint32())
	}
	return string(b)
}

// several is n drawn texts of one length.
func several(rnd *rand.Rand, n, length int) []string {
	var l []string
	for range n {
		l = append(l, drawn(rnd, length))
	}
	return l
}

// numbers is n texts, each unlike the others.
func numbers(n int) []string {
	var l []string
	for i := range n {
		l = append(l, "text "+strconv.Itoa(i))
	}
	return l
}

// upTo is the numbers below n.
func upTo(n int) []int {
	var l []int
	for i := range n {
		l = append(l, i)
	}
	return l
}

// bitsOf is the places of the bits of a number.
func bitsOf(n int) []int {
	var l []int
	for i := range 64 {
		if n>>i&1 == 1 {
			l = append(l, i)
		}
	}
	return l
}

// drawnPlaces is some of the places of 2^h, at least one.
func drawnPlaces(rnd *rand.Rand, h int) []int {
	l := rnd.Perm(1 << h)[:1+rnd.IntN(min(1<<h, 12))]
	slices.Sort(l)
	return l
}

// at is those of l at places.
func at(l []string, places []int) []string {
	var out []string
	for _, i := range places {
		out = append(out, l[i])
	}
	return out
}

// modelKnown asks all places whether one of them is below.
func modelKnown(l []int, row, i int) bool {
	return slices.ContainsFunc(l, func(at int) bool { return at>>row == i })
}

// modelProof goes through all rows and all of their places.
func modelProof(rows [][]string, l []int) []string {
	var proof []string
	for k, row := range rows[:len(rows)-1] {
		for i, d := range row {
			if modelKnown(l, k, i^1) && !modelKnown(l, k, i) {
				proof = append(proof, d)
			}
		}
	}
	return proof
}

// blunt is tables of which few digests come, so that unlike texts of one digest are soon found: a mixed column has the same two bits in each byte.
func blunt() *perm.Tables {
	t := perm.Make()
	mix := reflect.ValueOf(t).Elem().FieldByName("mix")
	columns := (*[256]uint64)(unsafe.Pointer(mix.UnsafeAddr()))
	for b := range columns {
		columns[b] = uint64(b&3) * 0x0101010101010101
	}
	return t
}

// 13.1
func TestPlaces(t *testing.T) {
	for _, x := range []struct {
		h    int
		l    []int
		want bool
	}{
		{0, []int{0}, true}, {0, []int{1}, false}, {0, []int{0, 0}, false}, {0, []int{0, 1}, false}, {0, []int{-1}, false}, {0, nil, false}, {0, []int{}, false},
		{3, nil, false}, {3, []int{}, false}, {3, []int{0}, true}, {3, []int{7}, true}, {3, []int{8}, false}, {3, []int{-1}, false},
		{3, []int{0, 7}, true}, {3, []int{0, 8}, false}, {3, []int{-1, 0}, false}, {3, []int{7, 0}, false}, {3, []int{2, 2}, false}, {3, []int{2, 3}, true},
		{3, []int{0, 1, 1, 2}, false}, {3, []int{0, 2, 1, 3}, false}, {3, []int{0, 1, 2, 2}, false}, {3, []int{1, 0, 2, 3}, false}, {3, []int{0, 1, 8, 2}, false}, {3, []int{0, -1, 2}, false},
		{3, upTo(8), true}, {3, upTo(9), false}, {2, upTo(4), true}, {2, upTo(8), false},
		{12, upTo(1 << 12), true}, {12, []int{1<<12 - 1}, true}, {12, []int{1 << 12}, false}, {12, upTo(1<<12 + 1), false},
		{13, []int{0}, false}, {13, upTo(1 << 13), false}, {14, []int{0}, false}, {63, []int{0}, false}, {64, []int{0}, false},
		{5, []int{math.MinInt, 3}, false}, {5, []int{3, math.MaxInt}, false}, {5, []int{3, math.MaxInt, math.MinInt}, false}, {5, []int{math.MaxInt}, false},
	} {
		n, e := multi.Needs(x.h, x.l)
		if multi.Places(x.h, x.l) != x.want || (e == api.OK) != x.want || e != api.OK && (e != api.ErrArg || n != 0) {
			t.Errorf("of %d, %v: %v, %d, %v", x.h, x.l, multi.Places(x.h, x.l), n, e)
		}
	}
	for _, h := range far {
		if n, e := multi.Needs(h, []int{0}); multi.Places(h, []int{0}) || n != 0 || e != api.ErrArg {
			t.Errorf("of height %d: %d, %v", h, n, e)
		}
	}
}

// 13.1: all lists of few numbers, held against sorted ones without doubles.
func TestPlacesOfAll(t *testing.T) {
	for h := range 3 {
		for n := range 6 * 6 * 6 {
			l := []int{n%6 - 1, n/6%6 - 1, n/36 - 1}
			sorted := slices.Compact(slices.Sorted(slices.Values(l)))
			want := slices.Equal(l, sorted) && l[0] >= 0 && l[2] < 1<<h
			if multi.Places(h, l) != want {
				t.Errorf("Places(%d, %v): %v", h, l, !want)
			}
		}
	}
}

// 13.1: the proofs of all lists of places of small trees.
func TestOpen(t *testing.T) {
	for h := range 5 {
		rows, _ := merkle.Rows(tables, numbers(1<<h))
		for set := 1; set < 1<<(1<<h); set++ {
			l := bitsOf(set)
			want := modelProof(rows, l)
			proof, e := multi.Open(rows, l)
			n, f := multi.Needs(h, l)
			if e != api.OK || f != api.OK || !slices.Equal(proof, want) || n != len(want) {
				t.Fatalf("of %d, %v: %x, %d, %v, %v", h, l, proof, n, e, f)
			}
		}
	}
}

// 13.1: the highest tree.
func TestOpenHighest(t *testing.T) {
	rnd := rand.New(rand.NewPCG(13, 1))
	rows, _ := merkle.Rows(tables, numbers(1<<12))
	lists := [][]int{upTo(1 << 12), {0}, {1<<12 - 1}, {0, 1<<12 - 1}, {1<<11 - 1, 1 << 11}}
	for range 5 {
		lists = append(lists, drawnPlaces(rnd, 12))
	}
	for _, l := range lists {
		kept := slices.Clone(l)
		proof, e := multi.Open(rows, l)
		n, f := multi.Needs(12, l)
		if e != api.OK || f != api.OK || !slices.Equal(proof, modelProof(rows, l)) || n != len(proof) {
			t.Errorf("of %v: %d, %d, %v, %v", l, len(proof), n, e, f)
		}
		texts := at(numbers(1<<12), l)
		if !multi.Check(tables, rows[12][0], 12, l, texts, proof) {
			t.Errorf("what is opened at %v does not lead to the root", l)
		}
		if !slices.Equal(l, kept) {
			t.Errorf("the places have changed")
		}
	}
	if n, _ := multi.Needs(12, upTo(1<<12)); n != 0 {
		t.Errorf("Needs of all places: %d", n)
	}
	if n, _ := multi.Needs(12, []int{5}); n != 12 {
		t.Errorf("Needs of one place: %d", n)
	}
}

// 13.1: errors, and that the rows' come first.
func TestOpenErrors(t *testing.T) {
	shaped := func(lengths ...int) [][]string {
		rows := [][]string{}
		for _, n := range lengths {
			rows = append(rows, numbers(n))
		}
		return rows
	}
	refused := func(rows [][]string, l []int, want api.Errno) {
		t.Helper()
		if proof, e := multi.Open(rows, l); e != want || proof != nil {
			t.Errorf("Open of %d rows, %v: %q, %v", len(rows), l, proof, e)
		}
	}
	bad := [][]int{nil, {}, {-1}, {0, 0}, {1, 0}, {1 << 13}, {0, -1}}
	for _, i := range far {
		bad = append(bad, []int{i})
	}
	for _, rows := range [][][]string{
		nil, {}, {nil}, {{}}, shaped(0, 1), shaped(2), shaped(1, 1), shaped(1, 0), shaped(3, 1), shaped(3, 2, 1), shaped(4, 2), shaped(4, 1), shaped(4, 2, 2), shaped(4, 2, 1, 0), shaped(4, 2, 1, 1), shaped(4, 3, 1), shaped(6, 3, 1), shaped(1, 2, 4), shaped(8, 4, 1),
	} {
		refused(rows, []int{0}, api.ErrSize)
		for _, l := range bad {
			refused(rows, l, api.ErrSize)
		}
	}
	for h, rows := range [][][]string{shaped(1), shaped(2, 1), shaped(4, 2, 1), shaped(8, 4, 2, 1)} {
		for _, l := range append(bad, []int{1 << h}, []int{0, 1 << h}, upTo(1<<h+1)) {
			refused(rows, l, api.ErrArg)
		}
		if _, e := multi.Open(rows, []int{1<<h - 1}); e != api.OK {
			t.Errorf("Open of %d rows: %v", len(rows), e)
		}
	}
}

// 13.1: 2^13 places are none, nor are there rows for them.
func TestOpenTooHigh(t *testing.T) {
	var rows [][]string
	for n := 1 << 13; n > 0; n /= 2 {
		rows = append(rows, make([]string, n))
	}
	if proof, e := multi.Open(rows, []int{0}); e != api.ErrArg || proof != nil {
		t.Errorf("Open: %d, %v", len(proof), e)
	}
	if _, e := multi.Open(rows[1:], []int{0}); e != api.OK {
		t.Errorf("Open: %v", e)
	}
}

// 13.1, 13.2: the chapter's example.
func TestExample(t *testing.T) {
	l := []string{"a", "b", "c", "d"}
	rows, _ := merkle.Rows(tables, l)
	leaf := func(i int) string { return merkle.Leaf(tables, l[i]) }
	if proof, e := multi.Open(rows, []int{0, 1}); e != api.OK || !slices.Equal(proof, []string{merkle.Node(tables, leaf(2), leaf(3))}) {
		t.Errorf("Open at 0 and 1: %x, %v", proof, e)
	}
	if proof, e := multi.Open(rows, []int{0, 3}); e != api.OK || !slices.Equal(proof, []string{leaf(1), leaf(2)}) {
		t.Errorf("Open at 0 and 3: %x, %v", proof, e)
	}
}

// 13.2, 13.3, 13.4: what is opened leads to the root, and so does each path.
func TestClimbAndSingle(t *testing.T) {
	for h := range 4 {
		texts := numbers(1 << h)
		rows, _ := merkle.Rows(tables, texts)
		for set := 1; set < 1<<(1<<h); set++ {
			l := bitsOf(set)
			shown, proof := at(texts, l), modelProof(rows, l)
			root, e := multi.Climb(tables, h, l, shown, proof)
			if e != api.OK || root != rows[h][0] || !multi.Check(tables, root, h, l, shown, proof) {
				t.Fatalf("Climb of %d, %v: %x, %v", h, l, root, e)
			}
			for i := range 1 << h {
				want, wanted := []string(nil), api.ErrNone
				if slices.Contains(l, i) {
					want, wanted = merkle.Path(rows, i)
				}
				path, e := multi.Single(tables, h, l, shown, proof, i)
				if e != wanted || !slices.Equal(path, want) || e != api.OK && path != nil {
					t.Errorf("Single of %d, %v at %d: %x, %v", h, l, i, path, e)
				}
				if e == api.OK && !merkle.Check(tables, root, h, i, texts[i], path) {
					t.Errorf("the path of %d, %v at %d leads elsewhere", h, l, i)
				}
			}
		}
	}
}

// 13.2, 13.3: proofs of no tree lead to a root, too, to which each single path leads.
func TestClimbOfDrawn(t *testing.T) {
	rnd := rand.New(rand.NewPCG(13, 2))
	for range 40 {
		h := rnd.IntN(13)
		l := drawnPlaces(rnd, h)
		n, _ := multi.Needs(h, l)
		texts, proof := several(rnd, len(l), rnd.IntN(80)), several(rnd, n, 32)
		root, e := multi.Climb(tables, h, l, texts, proof)
		if e != api.OK || len(root) != api.Digest {
			t.Fatalf("Climb of %d, %v: %x, %v", h, l, root, e)
		}
		for i, at := range l {
			path, e := multi.Single(tables, h, l, texts, proof, at)
			if e != api.OK || !merkle.Check(tables, root, h, at, texts[i], path) {
				t.Errorf("Single of %d, %v at %d: %x, %v", h, l, at, path, e)
			}
		}
		for _, i := range append(far, -1, 1<<h, l[0]-1, l[len(l)-1]+1) {
			if path, e := multi.Single(tables, h, l, texts, proof, i); e != api.ErrNone || path != nil {
				t.Errorf("Single of %d, %v at %d: %x, %v", h, l, i, path, e)
			}
		}
	}
}

// refused asks for an error of Climb, which is that of Single, too, be the place one of them or not; and what does not climb leads to no root and has no twin.
func refused(t *testing.T, want api.Errno, p *perm.Tables, h int, l []int, texts, proof []string) {
	t.Helper()
	if root, e := multi.Climb(p, h, l, texts, proof); e != want || root != "" {
		t.Errorf("Climb of %d, %v: %x, %v", h, l, root, e)
	}
	for _, at := range []int{0, 2, 3, -1, math.MaxInt} {
		if path, e := multi.Single(p, h, l, texts, proof, at); e != want || path != nil {
			t.Errorf("Single of %d, %v at %d: %x, %v", h, l, at, path, e)
		}
	}
	if multi.Check(p, "", h, l, texts, proof) {
		t.Errorf("Check of %d, %v", h, l)
	}
	noTwin(t, p, h, l, texts, numbers(len(texts)), proof, proof)
}

// noTwin asks where there is none.
func noTwin(t *testing.T, p *perm.Tables, h int, l []int, a, b, pa, pb []string) {
	t.Helper()
	if x, y, is := multi.Twin(p, h, l, a, b, pa, pb); is || x != "" || y != "" {
		t.Errorf("Twin of %d, %v: %x, %x, %v", h, l, x, y, is)
	}
}

// 13.2, 13.3: nil tables and what are no places, with sizes that hinder, too.
func TestClimbArguments(t *testing.T) {
	rnd := rand.New(rand.NewPCG(13, 3))
	l, texts, proof := []int{2, 5}, several(rnd, 2, 10), several(rnd, 4, 32)
	refused(t, api.ErrArg, nil, 3, l, texts, proof)
	refused(t, api.ErrArg, nil, 3, l, texts[1:], proof)
	refused(t, api.ErrArg, nil, 3, l, texts, proof[1:])
	refused(t, api.ErrArg, nil, 3, nil, nil, nil)
	for _, h := range append([]int{2, 1, 0, 13, 14, 31, 32, 63, 64, 65}, far...) {
		refused(t, api.ErrArg, tables, h, l, texts, proof)
		refused(t, api.ErrArg, tables, h, l, texts, nil)
		refused(t, api.ErrArg, tables, h, l, nil, nil)
	}
	for _, wrong := range [][]int{nil, {}, {5, 2}, {2, 2}, {5, 5}, {-1, 5}, {2, 8}, {2, -5}, {math.MinInt, math.MaxInt}, {2}, {2, 5, 8}} {
		want := api.ErrArg
		if len(wrong) == 1 {
			want = api.ErrSize
		}
		refused(t, want, tables, 3, wrong, texts, proof)
		refused(t, want, tables, 3, wrong, texts, proof[1:])
	}
	n, _ := multi.Needs(12, l)
	if root, e := multi.Climb(tables, 12, l, texts, several(rnd, n, 32)); e != api.OK || len(root) != 32 {
		t.Errorf("Climb of height 12: %x, %v", root, e)
	}
	if root, e := multi.Climb(tables, 0, []int{0}, texts[:1], nil); e != api.OK || root != merkle.Leaf(tables, texts[0]) {
		t.Errorf("Climb of height 0: %x, %v", root, e)
	}
}

// 13.2, 13.3: too few and too many texts and digests, and digests that have not 32 bytes.
func TestClimbSizes(t *testing.T) {
	rnd := rand.New(rand.NewPCG(13, 4))
	for _, l := range [][]int{{2}, {2, 5}, {2, 3}, {0, 2, 4, 6}, upTo(8)} {
		n, _ := multi.Needs(3, l)
		texts, proof := several(rnd, len(l), 10), several(rnd, n, 32)
		for _, k := range []int{0, len(l) - 1, len(l) + 1, len(l) + 2} {
			refused(t, api.ErrSize, tables, 3, l, several(rnd, k, 10), proof)
		}
		for k := range n + 3 {
			if k != n {
				refused(t, api.ErrSize, tables, 3, l, texts, several(rnd, k, 32))
			}
		}
		for k := range n {
			for _, long := range []int{0, 1, 31, 33, 64} {
				wrong := slices.Clone(proof)
				wrong[k] = drawn(rnd, long)
				refused(t, api.ErrSize, tables, 3, l, texts, wrong)
			}
		}
	}
	refused(t, api.ErrSize, tables, 0, []int{0}, nil, nil)
	refused(t, api.ErrSize, tables, 0, []int{0}, []string{"a"}, several(rnd, 1, 32))
}

// 13.2, 13.4: a text that is too long for a digest leads to no root: unlike ones would lead to one root, and have no twin.
func TestLongTexts(t *testing.T) {
	rnd := rand.New(rand.NewPCG(13, 5))
	most := strings.Repeat("x", api.MaxText-1)
	for _, h := range []int{0, 1, 3} {
		l := []int{1<<h - 1}
		proof := several(rnd, h, 32)
		if root, e := multi.Climb(tables, h, l, []string{most}, proof); e != api.OK || len(root) != 32 {
			t.Errorf("Climb of the longest text: %x, %v", root, e)
		}
		refused(t, api.ErrSize, tables, h, l, []string{most + "x"}, proof)
		noTwin(t, tables, h, l, []string{most + "x"}, []string{most + "y"}, proof, proof)
	}
	refused(t, api.ErrSize, tables, 1, []int{0, 1}, []string{"a", most + "x"}, nil)
}

// 13.2: what leads elsewhere.
func TestCheckWrong(t *testing.T) {
	texts := numbers(8)
	rows, _ := merkle.Rows(tables, texts)
	root := rows[3][0]
	for set := 1; set < 256; set += 3 {
		l := bitsOf(set)
		shown, proof := at(texts, l), modelProof(rows, l)
		for i := range shown {
			wrong := slices.Clone(shown)
			wrong[i] += "x"
			if multi.Check(tables, root, 3, l, wrong, proof) {
				t.Errorf("Check of %v, another text %d", l, i)
			}
			noTwin(t, tables, 3, l, shown, wrong, proof, proof)
		}
		for i := range proof {
			wrong := slices.Clone(proof)
			wrong[i] = wrong[i][:31] + string([]byte{wrong[i][31] ^ 1})
			if multi.Check(tables, root, 3, l, shown, wrong) {
				t.Errorf("Check of %v, another digest %d", l, i)
			}
		}
		for _, r := range []string{"", root[1:], root + "\x00", root[1:] + root[:1]} {
			if multi.Check(tables, r, 3, l, shown, proof) {
				t.Errorf("Check of %v, the root %x", l, r)
			}
		}
		slices.Reverse(shown)
		if len(l) > 1 && multi.Check(tables, root, 3, l, shown, proof) {
			t.Errorf("Check of %v, the texts in another order", l)
		}
	}
}

// other draws other texts that lead to a root by way of blunt tables, the first of them perhaps the same; and another proof, unless it is to be kept.
func other(rnd *rand.Rand, p *perm.Tables, root string, h int, l []int, texts, proof []string, keep bool) ([]string, []string) {
	for {
		b, pb := slices.Clone(texts), slices.Clone(proof)
		first := rnd.IntN(len(b))
		for i := first; i < len(b); i++ {
			if i == first || rnd.IntN(2) == 0 {
				b[i] = drawn(rnd, 20)
			}
		}
		if !keep && len(pb) > 0 {
			pb[rnd.IntN(len(pb))] = drawn(rnd, 32)
		}
		if multi.Check(p, root, h, l, b, pb) {
			return b, pb
		}
	}
}

// 13.3, 13.4: unlike texts that lead to one root have a twin, with the same proof and with another.
func TestTwin(t *testing.T) {
	rnd := rand.New(rand.NewPCG(13, 6))
	p := blunt()
	for round := range 40 {
		h := round % 5
		l := drawnPlaces(rnd, h)
		n, _ := multi.Needs(h, l)
		a, pa := several(rnd, len(l), 20), several(rnd, n, 32)
		root, _ := multi.Climb(p, h, l, a, pa)
		b, pb := other(rnd, p, root, h, l, a, pa, round%2 == 0)
		first := 0
		for a[first] == b[first] {
			first++
		}
		left, _ := multi.Single(p, h, l, a, pa, l[first])
		right, _ := multi.Single(p, h, l, b, pb, l[first])
		wantX, wantY, _ := merkle.Twin(p, h, l[first], a[first], b[first], left, right)
		keptA, keptB, keptL := slices.Clone(pa), slices.Clone(b), slices.Clone(l)
		x, y, is := multi.Twin(p, h, l, a, b, pa, pb)
		if !is || x == y || sponge.Sum(p, x) != sponge.Sum(p, y) || x != wantX || y != wantY {
			t.Errorf("Twin of %d, %v: %x, %x, %v", h, l, x, y, is)
		}
		if !slices.Equal(keptA, pa) || !slices.Equal(keptB, b) || !slices.Equal(keptL, l) {
			t.Errorf("arguments have changed")
		}
		if y, x, is := multi.Twin(p, h, l, b, a, pb, pa); !is || x != wantX || y != wantY {
			t.Errorf("Twin of %d, %v, the other way round: %x, %x, %v", h, l, y, x, is)
		}
		noTwin(t, p, h, l, a, a, pa, pa)
		noTwin(t, nil, h, l, a, b, pa, pb)
		noTwin(t, tables, h, l, a, b, pa, pb)
		noTwin(t, p, h, l, a, b[1:], pa, pb)
		noTwin(t, p, h, l, a, append(b, "x"), pa, pb)
		noTwin(t, p, h, l, a[1:], b, pa, pb)
		noTwin(t, p, h, l, a, b, append(pa, root), pb)
		noTwin(t, p, h, l, a, b, pa, append(pb, root))
		noTwin(t, p, h, slices.Repeat(l, 2), a, b, pa, pb)
	}
}

// 13.3: the same texts have none, though their proofs differ and lead to one root.
func TestTwinOfSameTexts(t *testing.T) {
	rnd := rand.New(rand.NewPCG(13, 7))
	p := blunt()
	l := []int{1, 6}
	a, pa := several(rnd, 2, 9), several(rnd, 4, 32)
	root, _ := multi.Climb(p, 3, l, a, pa)
	pb := slices.Clone(pa)
	for slices.Equal(pa, pb) || !multi.Check(p, root, 3, l, a, pb) {
		pb[rnd.IntN(4)] = drawn(rnd, 32)
	}
	noTwin(t, p, 3, l, a, a, pa, pb)
}

// 13.3: there is a twin just where the roots are one and the texts differ.
func TestTwinOfUnlikeRoots(t *testing.T) {
	rnd := rand.New(rand.NewPCG(13, 8))
	p := blunt()
	found := 0
	for range 3000 {
		l := drawnPlaces(rnd, 2)
		n, _ := multi.Needs(2, l)
		a, b, proof := several(rnd, len(l), 9), several(rnd, len(l), 9), several(rnd, n, 32)
		left, _ := multi.Climb(p, 2, l, a, proof)
		right, _ := multi.Climb(p, 2, l, b, proof)
		x, y, is := multi.Twin(p, 2, l, a, b, proof, proof)
		if is != (left == right) || is != (x != y) {
			t.Errorf("Twin of %v: %x, %x, %v", l, x, y, is)
		}
		if is {
			found++
		}
	}
	if found == 0 || found == 3000 {
		t.Errorf("%d twins", found)
	}
}

// R3: an answer shares nothing with rows or another answer.
func TestNothingShared(t *testing.T) {
	texts := numbers(8)
	rows, _ := merkle.Rows(tables, texts)
	l := []int{1, 4}
	proof, _ := multi.Open(rows, l)
	kept := slices.Clone(proof)
	clear(proof)
	again, _ := multi.Open(rows, l)
	path, _ := multi.Single(tables, 3, l, at(texts, l), again, 4)
	want := slices.Clone(path)
	clear(path)
	path, _ = multi.Single(tables, 3, l, at(texts, l), again, 4)
	if !slices.Equal(again, kept) || !slices.Equal(path, want) {
		t.Errorf("rows or a proof have changed with an answer")
	}
}
