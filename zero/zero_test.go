package zero_test

import (
	"math"
	"math/big"
	"math/rand/v2"
	"slices"
	"strconv"
	"strings"
	"testing"

	"steeple/api"
	"steeple/cube"
	"steeple/expr"
	"steeple/sumcheck"
	"steeple/tower"
	"steeple/zero"
)

// noLevels are numbers that are no levels.
var noLevels = []int{math.MinInt, math.MinInt32, -64, -1, 8, 9, 63, 64, math.MaxInt32, math.MaxInt}

// lo is elements of one word each.
func lo(l ...uint64) []api.Elem {
	out := make([]api.Elem, len(l))
	for i, n := range l {
		out[i] = api.Elem{Lo: n}
	}
	return out
}

// elem is an element by its digits to the base 16.
func elem(t *testing.T, s string) api.Elem {
	t.Helper()
	n, ok := new(big.Int).SetString(s, 16)
	if !ok {
		t.Fatalf("no number: %s", s)
	}
	low := new(big.Int).And(n, new(big.Int).SetUint64(math.MaxUint64))
	return api.Elem{Hi: new(big.Int).Rsh(n, 64).Uint64(), Lo: low.Uint64()}
}

// elems are elements with spaces between.
func elems(t *testing.T, s string) []api.Elem {
	t.Helper()
	var l []api.Elem
	for _, x := range strings.Fields(s) {
		l = append(l, elem(t, x))
	}
	return l
}

// lists are elements by lists, with semicolons between.
func lists(t *testing.T, s string) [][]api.Elem {
	t.Helper()
	var out [][]api.Elem
	for _, l := range strings.Split(s, ";") {
		out = append(out, elems(t, l))
	}
	return out
}

// steps are an expression's: x and a variable's number, c and a constant's digits, + or * and the numbers of two steps.
func steps(t *testing.T, s string) []api.Op {
	t.Helper()
	var l []api.Op
	for _, x := range strings.Fields(s) {
		first, second, _ := strings.Cut(x[1:], ",")
		a, _ := strconv.Atoi(first)
		b, _ := strconv.Atoi(second)
		switch x[0] {
		case 'c':
			l = append(l, api.Op{Kind: api.OpConst, Val: elem(t, first)})
		case 'x':
			l = append(l, api.Op{Kind: api.OpVar, A: a})
		case '+':
			l = append(l, api.Op{Kind: api.OpAdd, A: a, B: b})
		case '*':
			l = append(l, api.Op{Kind: api.OpMul, A: a, B: b})
		default:
			t.Fatalf("no step: %s", x)
		}
	}
	return l
}

// conditions are expressions with semicolons between.
func conditions(t *testing.T, s string) [][]api.Op {
	t.Helper()
	var out [][]api.Op
	for _, l := range strings.Split(s, ";") {
		out = append(out, steps(t, l))
	}
	return out
}

// drawn is n elements of a level.
func drawn(rnd *rand.Rand, level, n int) []api.Elem {
	l := make([]api.Elem, n)
	for i := range l {
		l[i].Lo = rnd.Uint64()
		if level == 7 {
			l[i].Hi = rnd.Uint64()
		} else {
			l[i].Lo &= 1<<(1<<level) - 1
		}
	}
	return l
}

// drawnTables are tables of n variables.
func drawnTables(rnd *rand.Rand, level, tables, n int) [][]api.Elem {
	out := make([][]api.Elem, tables)
	for k := range out {
		out[k] = drawn(rnd, level, 1<<n)
	}
	return out
}

// mostDegree is the greatest degree of a condition whose mixed expression fits a level.
func mostDegree(level int) int {
	return []int{0, 2, 7, 7, 7, 7, 7, 7}[level]
}

// drawnConds are conditions of degree d at most, with few steps each.
func drawnConds(rnd *rand.Rand, level, vars, d, n int) [][]api.Op {
	conds := make([][]api.Op, n)
	for j := range conds {
		l := []api.Op{{Kind: api.OpConst, Val: drawn(rnd, level, 1)[0]}}
		for range rnd.IntN(min(d, 3) + 1) {
			last := len(l) - 1
			l = append(l, api.Op{Kind: api.OpVar, A: rnd.IntN(vars)}, api.Op{Kind: api.OpMul, A: last, B: last + 1}, api.Op{Kind: api.OpAdd, A: 0, B: last + 2})
		}
		conds[j] = l
	}
	return conds
}

// power is x0 times itself: the degree is d.
func power(d int) []api.Op {
	l := []api.Op{{Kind: api.OpVar}}
	for i := range d - 1 {
		l = append(l, api.Op{Kind: api.OpMul, B: i})
	}
	return l
}

// long is an expression of n steps.
func long(n int) []api.Op {
	l := []api.Op{{Kind: api.OpVar}}
	for i := range n - 1 {
		l = append(l, api.Op{Kind: api.OpAdd, B: i})
	}
	return l
}

// tooHigh are elements that are not of a level.
func tooHigh(level int) []api.Elem {
	if level == 7 {
		return nil
	}
	return []api.Elem{tower.Bit(1 << level), tower.Bit(127), tower.Add(tower.One(), tower.Bit(1<<level))}
}

// put is a list with another element at a place.
func put(l []api.Elem, i int, e api.Elem) []api.Elem {
	out := slices.Clone(l)
	out[i] = e
	return out
}

// column is what tables have at a corner.
func column(tables [][]api.Elem, i int) []api.Elem {
	var v []api.Elem
	for _, table := range tables {
		v = append(v, table[i])
	}
	return v
}

// modelValue is an expression's value, step by step.
func modelValue(level int, l []api.Op, v []api.Elem) api.Elem {
	var out []api.Elem
	for _, op := range l {
		switch op.Kind {
		case api.OpConst:
			out = append(out, op.Val)
		case api.OpVar:
			out = append(out, v[op.A])
		case api.OpAdd:
			out = append(out, tower.Add(out[op.A], out[op.B]))
		case api.OpMul:
			out = append(out, tower.Mul(level, out[op.A], out[op.B]))
		}
	}
	return out[len(out)-1]
}

// modelMixed is the sum over j of a^j times the value of the condition j.
func modelMixed(level int, conds [][]api.Op, v []api.Elem, a api.Elem) api.Elem {
	var sum api.Elem
	for j, cond := range conds {
		sum = tower.Add(sum, tower.Mul(level, tower.Pow(level, a, uint64(j)), modelValue(level, cond, v)))
	}
	return sum
}

// modelWeight is a corner's weight, factor by factor.
func modelWeight(level int, p []api.Elem, i int) api.Elem {
	product := tower.One()
	for j, x := range p {
		if i>>j&1 == 0 {
			x = tower.Add(tower.One(), x)
		}
		product = tower.Mul(level, product, x)
	}
	return product
}

// modelSum is the zero sum, corner by corner.
func modelSum(level int, conds [][]api.Op, tables [][]api.Elem, a api.Elem, p []api.Elem) api.Elem {
	var sum api.Elem
	for i := range tables[0] {
		mixed := modelMixed(level, conds, column(tables, i), a)
		sum = tower.Add(sum, tower.Mul(level, modelWeight(level, p, i), mixed))
	}
	return sum
}

// modelMix is the mixed expression, by the words: a step's number is asked for, not kept.
func modelMix(level, vars int, conds [][]api.Op, a api.Elem) []api.Op {
	var l []api.Op
	sum := 0
	for j, cond := range conds {
		ahead := len(l)
		for _, op := range cond {
			if op.Kind == api.OpAdd || op.Kind == api.OpMul {
				op = api.Op{Kind: op.Kind, A: op.A + ahead, B: op.B + ahead}
			}
			l = append(l, op)
		}
		last := len(l) - 1
		if j == 0 {
			sum = last
			continue
		}
		l = append(l, api.Op{Kind: api.OpConst, Val: tower.Pow(level, a, uint64(j))})
		l = append(l, api.Op{Kind: api.OpMul, A: len(l) - 1, B: last})
		l = append(l, api.Op{Kind: api.OpAdd, A: sum, B: len(l) - 1})
		sum = len(l) - 1
	}
	l = append(l, api.Op{Kind: api.OpVar, A: vars})
	return append(l, api.Op{Kind: api.OpMul, A: len(l) - 1, B: sum})
}

// mixed is an expression that there is.
func mixed(t *testing.T, level, vars int, conds [][]api.Op, a api.Elem) []api.Op {
	t.Helper()
	l, e := zero.Mix(level, vars, conds, a)
	if e != api.OK {
		t.Fatalf("Mix(%d, %d) of %d: %v", level, vars, len(conds), e)
	}
	return l
}

// holds is an answer that there is.
func holds(t *testing.T, level int, conds [][]api.Op, tables [][]api.Elem) bool {
	t.Helper()
	h, e := zero.Holds(level, conds, tables)
	if e != api.OK {
		t.Fatalf("Holds(%d) of %d: %v", level, len(conds), e)
	}
	return h
}

// zeroSum is a sum that there is.
func zeroSum(t *testing.T, level int, conds [][]api.Op, tables [][]api.Elem, a api.Elem, p []api.Elem) api.Elem {
	t.Helper()
	s, e := zero.Sum(level, conds, tables, a, p)
	if e != api.OK {
		t.Fatalf("Sum(%d) of %d: %v", level, len(conds), e)
	}
	return s
}

// valued is a value that there is.
func valued(t *testing.T, level int, conds [][]api.Op, v []api.Elem, a, weight api.Elem) api.Elem {
	t.Helper()
	x, e := zero.Value(level, conds, v, a, weight)
	if e != api.OK {
		t.Fatalf("Value(%d) of %d: %v", level, len(conds), e)
	}
	return x
}

// 21.1 to 21.3: what was worked out apart from the program.
func TestFixed(t *testing.T) {
	for _, a := range []struct {
		level                           int
		conds, tables, a, p, mixed, sum string
		v, weight, value                string
	}{
		{0, "c1", "0 0 1 0; 1 0 0 1; 0 1 1 0", "1", "1 1", "c1 x3 *1,0", "1", "0 1 1", "0", "0"},
		{1, "x0 +0,0", "3 0; 0 1; 3 2", "1", "0", "x0 +0,0 x3 *2,1", "0", "0 3 3", "0", "0"},
		{2, "x1 *0,0 +0,1; x2 x1 x0 *2,1 +0,3 c1 +4,5", "e 3 b 0; 6 f f b; c e 6 9", "7", "0 f", "x1 *0,0 +0,1 x2 x1 x0 *5,4 +3,6 c1 +7,8 c7 *10,9 +2,11 x3 *13,12", "7", "5 8 7", "b", "7"},
		{3, "x0 x1 *0,1 x2 +2,3; x0 +0,0", "1d a6 f3 f0; 5e 5 27 bd; d1 16 1f cf", "ed", "5 74", "x0 x1 *0,1 x2 +2,3 x0 +5,5 ced *7,6 +4,8 x3 *10,9", "4e", "29 8d ba", "57", "b"},
		{3, "x2 x1 x0 *2,1 +0,3 c1 +4,5; x0 x1 *0,1 x2 +2,3; x1 *0,0 +0,1", "66 7c 26 2f aa 9 78 dd; d1 3c 13 c7 32 35 ac f8; cd e4 a8 c1 f3 c3 e5 94", "fd", "ba 12 1f", "x2 x1 x0 *2,1 +0,3 c1 +4,5 x0 x1 *7,8 x2 +9,10 cfd *12,11 +6,13 x1 *15,15 +15,16 c73 *18,17 +14,19 x3 *21,20", "18", "8f 79 8f", "d3", "b"},
		{4, "x1 *0,0 +0,1; x1 *0,0 +0,1; x1 *0,0 +0,1; c1", "6354 3379 575a ec54 256a e337 892b 68db; 4abf 5d7f f45a 7389 805e 62c2 5165 feae", "7c05", "62f7 4405 6de", "x1 *0,0 +0,1 x1 *3,3 +3,4 c7c05 *6,5 +2,7 x1 *9,9 +9,10 cd22d *12,11 +8,13 c1 c94f2 *16,15 +14,17 x2 *19,18", "70d1", "d588 17e0", "28b0", "5885"},
		{5, "x0 x1 *0,1 x2 +2,3; x2 x1 x0 *2,1 +0,3 c1 +4,5; c1; x1 *0,0 +0,1", "b7d4ea02 b74ba47d fe29acbe fb7e0776; 7efa8fd2 b998ee 7dd58a3f 11f329f0; 8ce90a07 9970d71d bf8876b4 85ad1e9f", "38d727ff", "924f0814 9be0f62c", "x0 x1 *0,1 x2 +2,3 x2 x1 x0 *7,6 +5,8 c1 +9,10 c38d727ff *12,11 +4,13 c1 c9ab84489 *16,15 +14,17 x1 *19,19 +19,20 c1898c33e *22,21 +18,23 x3 *25,24", "51273167", "51927773 8e75ee98 fae0f5e0", "9f6433ff", "d913176f"},
		{6, "x2 x1 x0 *2,1 +0,3 c1 +4,5", "2e40df041cda89e2 2b8b23a4ab6fe701 59241c90a0621cba ed54b226d56aa653 58bba8375516bcc2 98e47ee9c308bd98 4e7e4092ee010ee0 1a701d5a3eea7b74; 10ce0a842b2f6d0a d04e5ef4ec523b81 c6eab0aa2c8c7375 5ff7d8296dc04993 aef024b228ee3a6d ad07e6250964ffa7 e6110c5285089ee2 f551d892a8716492; 68321cc13dd66ac8 fd3649f4eaf3e110 f62042d729c0047c 972c3d70bdea967e e217681103a6b983 7dac664c58bb65bb 6024b5b08191fdec 3f49026eaabc5427", "e04b034cefb088c3", "298c01663ef177ca 11bff2d98fd338ea ce26f256707198b5", "x2 x1 x0 *2,1 +0,3 c1 +4,5 x3 *7,6", "19bce673e182f92c", "c61f665b684f8cd3 7bb1388abdcd3cdc d6458ddb0eb3cb7b", "d5b402749b91be1", "2b6bb2f41912fdc0"},
		{7, "x0 x1 *0,1 x2 +2,3; x2 x1 x0 *2,1 +0,3 c1 +4,5; x1 *0,0 +0,1; x0 +0,0; c1", "4a3539c7a88e9f61420ac140da7256f3 2bae62e13fa3e42d6b67b77c08e6209d 568c912dded197d411c78edf64ff9bd8 fbc32fdb2567c523e62e615aa53b4250 7a9dfcc1ba7d1aabbeefe06726b4f734 f578ff9223bc15b4409126370ca59ddf ba861635e95478a4868f8b23a676ce40 364ba0c0f3ec9c22073ea1937aa41c0e; cb936d5a5da0239ad69874dae641a0d0 99f273db5e66f3cee1a6e407276229bc 94c58f0a7c05794b6d13be18c5d3d13c 4ed7994c7a12c8e3d96e7b10e7100e9c 46a6be6996a2332388ca2a4023881349 29eaa8cb8843839c4ac693123a9df12 f437ab312039d8b9af6fbcf261e2bb4d 97fbd74243b118bc060423b0b7374df8; da07d6043ff0a043a4d3efdf537fdadb 41d7a5bc6bcd305595975193f4a72915 f56e35f6c06b42c967d5d0b3aee2a6bf 222f88282375a22ee7d5d996cfe911f4 180c6010659f3aae184760852457f326 72651e94a448e03c067b2cd62fca48f7 de09be2f12675bab240d2b99c940ceaf 206424484805e322a7c3440f1e7b8828", "5303cf51f12cd90e89e587ef4dd4a5ab", "38383987e35118ce7e6e0d5d6572b0cb 2f16e4f52e7bb84c2a843f969f0707f8 b5c0ef2a339d6dba60b8341cdb84bad6", "x0 x1 *0,1 x2 +2,3 x2 x1 x0 *7,6 +5,8 c1 +9,10 c5303cf51f12cd90e89e587ef4dd4a5ab *12,11 +4,13 x1 *15,15 +15,16 c71f58fd9722edd5e736f959b0d164ee3 *18,17 +14,19 x0 +21,21 c6738d9c4c2ff213581e62d4f6f4910e8 *23,22 +20,24 c1 c6718744f1a40fc22d92cd230efc20792 *27,26 +25,28 x3 *30,29", "f90938236a90624a2b5cf458d44ad9ba", "bd28baac1ce6e798ccf291bbe83c807 dfb5e0a1813fcc1db5fbf8e19a990f13 ca6cfc4d0e820edac6352bf0bedd28c5", "76c0d20c633ce6d10200ad81eddf6e05", "50ac53bff59911181d5db57e724c8bc"},
		{7, "x2 x1 x0 *2,1 +0,3 c1 +4,5; x1 *0,0 +0,1", "c390446365df31db1040f95bdd4d7117; b6240d21dabc89322ce0461f912324a3; b25d1980f6c8d36640be71b93bbaafce; abab078beed579b504938d79aed857c", "4f3598ff27fafc26638d0d053ea5621f", "", "x2 x1 x0 *2,1 +0,3 c1 +4,5 x1 *7,7 +7,8 c4f3598ff27fafc26638d0d053ea5621f *10,9 +6,11 x4 *13,12", "3b1a2d03119fa7a630c6ca15744ead2a", "4b86e3e8fd905889e697d678b9e483c4 8ca10b3bcd9639f780cc8d93d14e60d0 193b738f92af1f8ff2be5a017d7485c6 821a37c40f5f81b599e6e6ff8ba08732", "f7949ba852ec9ff6bc0cf37898427680", "31ec042d852d835844bef43df071fef3"},
	} {
		conds, tables, by, p := conditions(t, a.conds), lists(t, a.tables), elem(t, a.a), elems(t, a.p)
		// What is reckoned in a level is the same in each above.
		for level := a.level; level < 8; level++ {
			if got := mixed(t, level, len(tables), conds, by); !slices.Equal(got, steps(t, a.mixed)) {
				t.Errorf("%s in level %d: mixed %v", a.conds, level, got)
			}
			if got := zeroSum(t, level, conds, tables, by, p); got != elem(t, a.sum) {
				t.Errorf("%s in level %d: the sum %x", a.conds, level, got)
			}
			if got := valued(t, level, conds, elems(t, a.v), by, elem(t, a.weight)); got != elem(t, a.value) {
				t.Errorf("%s in level %d: the value %x", a.conds, level, got)
			}
		}
	}
}

// The chapter's example.
func TestExample(t *testing.T) {
	conds := conditions(t, "x0 c1 +0,1")
	for _, a := range lo(0, 1, 2, 3) {
		if !holds(t, 1, conds, lists(t, "1 1")) || zeroSum(t, 1, conds, lists(t, "1 1"), a, lo(2)) != (api.Elem{}) {
			t.Error("1, 1 does not hold")
		}
		if holds(t, 1, conds, lists(t, "1 0")) || zeroSum(t, 1, conds, lists(t, "1 0"), a, lo(2)) != lo(2)[0] {
			t.Error("1, 0 holds")
		}
	}
}

// 21.1: step by step, of one condition and of up to MaxConds, and its value is what the words say.
func TestMix(t *testing.T) {
	rnd := rand.New(rand.NewPCG(21, 1))
	for level := range 8 {
		for n := 1; n <= 14; n++ {
			vars := 1 + rnd.IntN(5)
			conds := drawnConds(rnd, level, vars, mostDegree(level), n)
			for _, a := range append(drawn(rnd, level, 1), lo(0, 1)...) {
				got := mixed(t, level, vars, conds, a)
				if want := modelMix(level, vars, conds, a); !slices.Equal(got, want) {
					t.Errorf("level %d, %d conditions: %v, not %v", level, n, got, want)
				}
				v := drawn(rnd, level, vars+1)
				want := tower.Mul(level, v[vars], modelMixed(level, conds, v[:vars], a))
				if got := modelValue(level, got, v); got != want {
					t.Errorf("level %d, %d conditions: the value %v, not %v", level, n, got, want)
				}
			}
		}
	}
}

// 21.1: one condition is multiplied by the last variable alone, whatever a is.
func TestMixOne(t *testing.T) {
	for level := range 8 {
		for _, a := range lo(0, 1) {
			if got := mixed(t, level, 3, conditions(t, "x0 x2 +0,1"), a); !slices.Equal(got, steps(t, "x0 x2 +0,1 x3 *3,2")) {
				t.Errorf("level %d: %v", level, got)
			}
		}
	}
}

// 21.1: 40 conditions are the most, and 41 too many, whatever else is wrong.
func TestMixNumbers(t *testing.T) {
	rnd := rand.New(rand.NewPCG(21, 2))
	if zero.MaxConds != 40 {
		t.Errorf("MaxConds: %d", zero.MaxConds)
	}
	for level := range 8 {
		a := drawn(rnd, level, 1)[0]
		for _, n := range []int{1, 2, 39, 40} {
			conds := slices.Repeat([][]api.Op{power(1)}, n)
			got := mixed(t, level, 1, conds, a)
			if len(got) != 4*n-1 || !slices.Equal(got, modelMix(level, 1, conds, a)) {
				t.Errorf("level %d, %d conditions: %d steps", level, n, len(got))
			}
		}
	}
	for _, level := range append([]int{0, 3, 7}, noLevels...) {
		for _, vars := range []int{math.MinInt, -1, 0, 1, math.MaxInt} {
			for _, a := range []api.Elem{{}, tower.Bit(127)} {
				noMix(t, level, vars, nil, a, api.ErrArg)
				noMix(t, level, vars, [][]api.Op{}, a, api.ErrArg)
				for _, n := range []int{41, 42, 1000} {
					noMix(t, level, vars, slices.Repeat([][]api.Op{power(1)}, n), a, api.ErrLong)
					noMix(t, level, vars, make([][]api.Op, n), a, api.ErrLong)
				}
			}
		}
	}
}

// 21.1: the last variable is the one behind those of the conditions, none or as many as there are numbers.
func TestMixVariables(t *testing.T) {
	for level := range 8 {
		for _, vars := range []int{0, 1, 2, 200, math.MaxInt32, math.MaxInt - 1, math.MaxInt} {
			got := mixed(t, level, vars, conditions(t, "c1; c0"), tower.One())
			want := steps(t, "c1 c0 c1 *2,1 +0,3 x0 *5,4")
			want[5].A = vars
			if !slices.Equal(got, want) {
				t.Errorf("level %d, %d variables: %v", level, vars, got)
			}
		}
		for _, vars := range []int{1, 2, math.MaxInt - 1, math.MaxInt} {
			cond := []api.Op{{Kind: api.OpVar, A: vars - 1}}
			want := []api.Op{{Kind: api.OpVar, A: vars - 1}, {Kind: api.OpVar, A: vars}, {Kind: api.OpMul, A: 1, B: 0}}
			if got := mixed(t, level, vars, [][]api.Op{cond}, api.Elem{}); !slices.Equal(got, want) {
				t.Errorf("level %d, %d variables: %v", level, vars, got)
			}
			noMix(t, level, vars-1, [][]api.Op{cond}, api.Elem{}, api.ErrNone)
		}
	}
}

// 21.2: conditions hold, if each is 0 at all corners; one corner of one condition is enough for them not to.
func TestHolds(t *testing.T) {
	rnd := rand.New(rand.NewPCG(21, 3))
	for level := 1; level < 8; level++ {
		for n := range 5 {
			tables := drawnTables(rnd, level, 4, n)
			for i := range tables[0] {
				tables[2][i] = tower.Mul(level, tables[0][i], tables[1][i])
				tables[3][i] = tower.Sum(tables[0][i], tables[1][i], tower.One())
			}
			conds := conditions(t, "x0 x1 *0,1 x2 +2,3; x0 x1 +0,1 x3 +2,3 c1 +4,5; c0; x1 +0,0")
			if !holds(t, level, conds, tables) {
				t.Errorf("level %d, %d variables: what holds does not", level, n)
			}
			for j := range conds {
				if !holds(t, level, conds[j:j+1], tables) {
					t.Errorf("level %d, %d variables: the condition %d does not hold", level, n, j)
				}
			}
			// Each bit of an element counts.
			for bit := range 1 << level {
				i := rnd.IntN(1 << n)
				for _, k := range []int{2, 3} {
					wrong := slices.Clone(tables)
					wrong[k] = put(tables[k], i, tower.Add(tables[k][i], tower.Bit(bit)))
					broken := k - 2
					if holds(t, level, conds, wrong) || holds(t, level, conds[broken:broken+1], wrong) {
						t.Errorf("level %d, %d variables: the condition %d holds, though it is not 0 at %d", level, n, broken, i)
					}
					if !holds(t, level, conds[1-broken:2-broken], wrong) {
						t.Errorf("level %d, %d variables: the condition %d does not hold", level, n, 1-broken)
					}
				}
			}
		}
	}
}

// 21.2: each corner and each condition is looked at, the first ones and the last ones.
func TestHoldsEverywhere(t *testing.T) {
	for level := range 8 {
		for n := range 6 {
			noughts := make([]api.Elem, 1<<n)
			for i := range noughts {
				if holds(t, level, conditions(t, "x0"), [][]api.Elem{put(noughts, i, tower.One())}) {
					t.Errorf("level %d: it holds, though the corner %d of %d is not 0", level, i, len(noughts))
				}
			}
			for m := range 40 {
				conds := slices.Repeat(conditions(t, "x0"), 40)
				conds[m] = steps(t, "c1")
				if holds(t, level, conds, [][]api.Elem{noughts}) {
					t.Errorf("level %d: it holds, though the condition %d does not", level, m)
				}
			}
		}
	}
}

// 21.2: the zero sum, corner by corner, and as the sum of the mixed expression.
func TestSum(t *testing.T) {
	rnd := rand.New(rand.NewPCG(21, 4))
	for level := range 8 {
		for n := range 5 {
			for m := 1; m < 8; m++ {
				vars := 1 + rnd.IntN(4)
				conds, tables := drawnConds(rnd, level, vars, mostDegree(level), m), drawnTables(rnd, level, vars, n)
				a, p := drawn(rnd, level, 1)[0], drawn(rnd, level, n)
				got := zeroSum(t, level, conds, tables, a, p)
				if want := modelSum(level, conds, tables, a, p); got != want {
					t.Errorf("level %d, %d variables, %d conditions: %v, not %v", level, n, m, got, want)
				}
				l := mixed(t, level, vars, conds, a)
				if sum, e := sumcheck.Sum(level, l, append(slices.Clone(tables), cube.Weights(level, p))); e != api.OK || sum != got {
					t.Errorf("level %d, %d variables, %d conditions: sumcheck has %v, %v", level, n, m, sum, e)
				}
			}
		}
	}
}

// 21.2: tables of 2^12 elements, and a condition that is not 0 at one of the corners: the sum is its weight.
func TestSumOfGreatTables(t *testing.T) {
	rnd := rand.New(rand.NewPCG(21, 5))
	p, noughts := drawn(rnd, 7, 12), make([]api.Elem, 4096)
	for _, i := range []int{0, 1, 2048, 4095} {
		if got := zeroSum(t, 7, conditions(t, "x0"), [][]api.Elem{put(noughts, i, tower.One())}, api.Elem{}, p); got != modelWeight(7, p, i) {
			t.Errorf("the corner %d: %v", i, got)
		}
	}
}

// 21.3: the value, by the words, and as that of the mixed expression.
func TestValue(t *testing.T) {
	rnd := rand.New(rand.NewPCG(21, 6))
	for level := range 8 {
		for m := 1; m < 12; m++ {
			vars := 1 + rnd.IntN(6)
			// No sum is asked for, so that the degree need not fit the level.
			conds := drawnConds(rnd, level, vars, 7, m)
			v, a, weight := drawn(rnd, level, vars), drawn(rnd, level, 1)[0], drawn(rnd, level, 1)[0]
			got := valued(t, level, conds, v, a, weight)
			if want := tower.Mul(level, weight, modelMixed(level, conds, v, a)); got != want {
				t.Errorf("level %d, %d conditions: %v, not %v", level, m, got, want)
			}
			if x, e := expr.Eval(level, mixed(t, level, vars, conds, a), append(slices.Clone(v), weight)); e != api.OK || x != got {
				t.Errorf("level %d, %d conditions: expr has %v, %v", level, m, x, e)
			}
		}
	}
}

// 21.3: conditions of no variables.
func TestValueOfNoVariables(t *testing.T) {
	rnd := rand.New(rand.NewPCG(21, 7))
	for level := range 8 {
		for _, v := range [][]api.Elem{nil, {}} {
			a, weight := drawn(rnd, level, 1)[0], drawn(rnd, level, 1)[0]
			if got := valued(t, level, conditions(t, "c1"), v, a, weight); got != weight {
				t.Errorf("level %d: %v, not %v", level, got, weight)
			}
			if got := valued(t, level, conditions(t, "c0; c1"), v, a, weight); got != tower.Mul(level, a, weight) {
				t.Errorf("level %d: %v", level, got)
			}
		}
	}
}

// each hands on all lists of n elements of a small level.
func each(level, n int, f func(l []api.Elem)) {
	size := 1 << (1 << level)
	all := 1
	for range n {
		all *= size
	}
	for number := range all {
		l := make([]api.Elem, n)
		for i := range l {
			l[i].Lo = uint64(number % size)
			number /= size
		}
		f(l)
	}
}

// 21.4: if conditions hold, all zero sums are 0; if they do not, at most (m - 1 + n) |F|^n of all.
func TestFewDoNotSee(t *testing.T) {
	rnd := rand.New(rand.NewPCG(21, 8))
	for _, a := range []struct{ level, n, m int }{{0, 3, 1}, {1, 0, 3}, {1, 1, 1}, {1, 1, 2}, {1, 2, 1}, {1, 2, 2}, {2, 0, 5}, {2, 1, 1}, {2, 1, 3}, {2, 2, 1}, {2, 2, 4}} {
		most := a.m - 1 + a.n
		for range a.n {
			most *= 1 << (1 << a.level)
		}
		conds, tables := make([][]api.Op, a.m), make([][]api.Elem, a.m)
		for j := range conds {
			conds[j], tables[j] = []api.Op{{Kind: api.OpVar, A: j}}, make([]api.Elem, 1<<a.n)
		}
		if a.level == 0 {
			// Of level 0 just constants fit.
			conds = conditions(t, "c1")
		} else if zeros := zeroSums(t, a.level, conds, tables); zeros != 1<<(1<<a.level*(a.n+1)) {
			t.Errorf("%v: %d zero sums are 0, though they hold", a, zeros)
		}
		for range 6 {
			for j := range tables {
				// Now all of the tables, now one element alone, are not 0.
				tables[j] = drawn(rnd, a.level, 1<<a.n)
				if rnd.IntN(2) == 0 {
					tables[j] = make([]api.Elem, 1<<a.n)
				}
			}
			tables[a.m-1][rnd.IntN(1<<a.n)] = tower.One()
			if zeros := zeroSums(t, a.level, conds, tables); zeros > most {
				t.Errorf("%v: %d zero sums are 0, more than %d", a, zeros, most)
			}
		}
	}
}

// zeroSums is how many lists of a and p have a zero sum of 0.
func zeroSums(t *testing.T, level int, conds [][]api.Op, tables [][]api.Elem) int {
	t.Helper()
	count := 0
	each(level, cube.Log(len(tables[0]))+1, func(l []api.Elem) {
		if zeroSum(t, level, conds, tables, l[0], l[1:]) == (api.Elem{}) {
			count++
		}
	})
	return count
}

// 21.4: that many do not see it, where a polynomial has all the zeros that it may have.
func TestManyDoNotSee(t *testing.T) {
	// (a + 1) (a + 2), which is 2 + 3 a + a^2, times the weight of the corner 0, 1 + p: 0, if a is 1 or 2, or p is 1.
	tables := [][]api.Elem{lo(2, 0), lo(3, 0), lo(1, 0)}
	if got := zeroSums(t, 2, conditions(t, "x0; x1; x2"), tables); got != 256-14*15 {
		t.Errorf("%d zero sums are 0", got)
	}
}
