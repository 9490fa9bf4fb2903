package sumcheck_test

import (
	"math"
	"math/big"
	"math/rand/v2"
	"slices"
	"strconv"
	"strings"
	"testing"

	"steeple/api"
	"steeple/cube"
	"steeple/expr"
	"steeple/sumcheck"
	"steeple/tower"
)

// noLevels are numbers that are no levels.
var noLevels = []int{math.MinInt, math.MinInt32, -64, -1, 8, 9, 63, 64, math.MaxInt32, math.MaxInt}

// lo is elements of one word each.
func lo(l ...uint64) []api.Elem {
	out := make([]api.Elem, len(l))
	for i, n := range l {
		out[i] = api.Elem{Lo: n}
	}
	return out
}

// elem is an element by its digits to the base 16.
func elem(t *testing.T, s string) api.Elem {
	t.Helper()
	n, ok := new(big.Int).SetString(s, 16)
	if !ok {
		t.Fatalf("no number: %s", s)
	}
	low := new(big.Int).And(n, new(big.Int).SetUint64(math.MaxUint64))
	return api.Elem{Hi: new(big.Int).Rsh(n, 64).Uint64(), Lo: low.Uint64()}
}

// elems are elements with spaces between.
func elems(t *testing.T, s string) []api.Elem {
	t.Helper()
	var l []api.Elem
	for _, x := range strings.Fields(s) {
		l = append(l, elem(t, x))
	}
	return l
}

// lists are elements by lists, with semicolons between.
func lists(t *testing.T, s string) [][]api.Elem {
	t.Helper()
	if s == "" {
		return nil
	}
	var out [][]api.Elem
	for _, l := range strings.Split(s, ";") {
		out = append(out, elems(t, l))
	}
	return out
}

// steps are an expression's: x and a variable's number, c and a constant's digits, + or * and the numbers of two steps.
func steps(t *testing.T, s string) []api.Op {
	t.Helper()
	var l []api.Op
	for _, x := range strings.Fields(s) {
		first, second, _ := strings.Cut(x[1:], ",")
		a, _ := strconv.Atoi(first)
		b, _ := strconv.Atoi(second)
		switch x[0] {
		case 'c':
			l = append(l, api.Op{Kind: api.OpConst, Val: elem(t, first)})
		case 'x':
			l = append(l, api.Op{Kind: api.OpVar, A: a})
		case '+':
			l = append(l, api.Op{Kind: api.OpAdd, A: a, B: b})
		case '*':
			l = append(l, api.Op{Kind: api.OpMul, A: a, B: b})
		default:
			t.Fatalf("no step: %s", x)
		}
	}
	return l
}

// drawn is n elements of a level.
func drawn(rnd *rand.Rand, level, n int) []api.Elem {
	l := make([]api.Elem, n)
	for i := range l {
		l[i].Lo = rnd.Uint64()
		if level == 7 {
			l[i].Hi = rnd.Uint64()
		} else {
			l[i].Lo &= 1<<(1<<level) - 1
		}
	}
	return l
}

// drawnTables are tables of n variables.
func drawnTables(rnd *rand.Rand, level, tables, n int) [][]api.Elem {
	out := make([][]api.Elem, tables)
	for k := range out {
		out[k] = drawn(rnd, level, 1<<n)
	}
	return out
}

// mostDegree is the greatest degree that fits a level.
func mostDegree(level int) int {
	return []int{1, 3, 8, 8, 8, 8, 8, 8}[level]
}

// drawnSteps is an expression of a degree, of so many variables: sums of products.
func drawnSteps(rnd *rand.Rand, level, vars, degree int) []api.Op {
	l := []api.Op{{Kind: api.OpConst, Val: drawn(rnd, level, 1)[0]}}
	sum := 0
	for range 1 + rnd.IntN(3) {
		term := len(l)
		l = append(l, api.Op{Kind: api.OpConst, Val: drawn(rnd, level, 1)[0]})
		for range degree {
			l = append(l, api.Op{Kind: api.OpVar, A: rnd.IntN(vars)})
			l = append(l, api.Op{Kind: api.OpMul, A: len(l) - 1, B: term})
			term = len(l) - 1
		}
		l = append(l, api.Op{Kind: api.OpAdd, A: sum, B: term})
		sum = len(l) - 1
	}
	return l
}

// power is x0 times itself: the degree is d.
func power(d int) []api.Op {
	l := []api.Op{{Kind: api.OpVar}}
	for i := range d - 1 {
		l = append(l, api.Op{Kind: api.OpMul, B: i})
	}
	return l
}

// copied is lists with memory of their own.
func copied(l [][]api.Elem) [][]api.Elem {
	out := make([][]api.Elem, len(l))
	for k := range l {
		out[k] = slices.Clone(l[k])
	}
	return out
}

// same tells whether lists of lists are the same.
func same(a, b [][]api.Elem) bool {
	return slices.EqualFunc(a, b, func(x, y []api.Elem) bool { return slices.Equal(x, y) })
}

// tooHigh are elements that are not of a level.
func tooHigh(level int) []api.Elem {
	if level == 7 {
		return nil
	}
	return []api.Elem{tower.Bit(1 << level), tower.Bit(127), tower.Add(tower.One(), tower.Bit(1<<level))}
}

// put is a list with another element at a place.
func put(l []api.Elem, i int, e api.Elem) []api.Elem {
	out := slices.Clone(l)
	out[i] = e
	return out
}

// modelEval is an expression's value, step by step.
func modelEval(level int, l []api.Op, v []api.Elem) api.Elem {
	var out []api.Elem
	for _, op := range l {
		switch op.Kind {
		case api.OpConst:
			out = append(out, op.Val)
		case api.OpVar:
			out = append(out, v[op.A])
		case api.OpAdd:
			out = append(out, tower.Add(out[op.A], out[op.B]))
		case api.OpMul:
			out = append(out, tower.Mul(level, out[op.A], out[op.B]))
		}
	}
	return out[len(out)-1]
}

// modelAt is a table's value, by the weights.
func modelAt(level int, table, p []api.Elem) api.Elem {
	var sum api.Elem
	for i, x := range table {
		for j, y := range p {
			if i>>j&1 == 0 {
				y = tower.Add(tower.One(), y)
			}
			x = tower.Mul(level, x, y)
		}
		sum = tower.Add(sum, x)
	}
	return sum
}

// modelSum is the sum over all corners behind a point of the first variables: each table is asked for its value at each point.
func modelSum(level int, l []api.Op, tables [][]api.Elem, ahead ...api.Elem) api.Elem {
	var sum api.Elem
	n := cube.Log(len(tables[0])) - len(ahead)
	for i := range 1 << n {
		p := slices.Clone(ahead)
		for j := range n {
			p = append(p, api.Elem{Lo: uint64(i >> j & 1)})
		}
		var v []api.Elem
		for _, table := range tables {
			v = append(v, modelAt(level, table, p))
		}
		sum = tower.Add(sum, modelEval(level, l, v))
	}
	return sum
}

// modelRound is a round's values behind a point of the first variables.
func modelRound(level, d int, l []api.Op, tables [][]api.Elem, ahead ...api.Elem) []api.Elem {
	v := make([]api.Elem, d+1)
	for i := range v {
		v[i] = modelSum(level, l, tables, append(slices.Clone(ahead), api.Elem{Lo: uint64(i)})...)
	}
	return v
}

// total is a sum that there is.
func total(t *testing.T, level int, l []api.Op, tables [][]api.Elem) api.Elem {
	t.Helper()
	s, e := sumcheck.Sum(level, l, tables)
	if e != api.OK || sumcheck.Check(level, l, tables) != api.OK {
		t.Fatalf("Sum in level %d of %d steps, %d tables: %v", level, len(l), len(tables), e)
	}
	return s
}

// round is values that there are.
func round(t *testing.T, level int, l []api.Op, tables [][]api.Elem) []api.Elem {
	t.Helper()
	v, e := sumcheck.Round(level, l, tables)
	if e != api.OK {
		t.Fatalf("Round in level %d of %d steps, %d tables: %v", level, len(l), len(tables), e)
	}
	return v
}

// bound is tables that there are.
func bound(t *testing.T, level int, tables [][]api.Elem, r api.Elem) [][]api.Elem {
	t.Helper()
	out, e := sumcheck.Bind(level, tables, r)
	if e != api.OK {
		t.Fatalf("Bind in level %d of %d tables: %v", level, len(tables), e)
	}
	return out
}

// proved is a proof that there is.
func proved(t *testing.T, level int, l []api.Op, tables [][]api.Elem, r []api.Elem) sumcheck.Proof {
	t.Helper()
	p, e := sumcheck.Prove(level, l, tables, r)
	if e != api.OK {
		t.Fatalf("Prove in level %d of %d steps, %d tables, %d elements: %v", level, len(l), len(tables), len(r), e)
	}
	return p
}

// verified is the claim to which rounds lead.
func verified(t *testing.T, level, d int, claim api.Elem, rounds [][]api.Elem, r []api.Elem) api.Elem {
	t.Helper()
	c, e := sumcheck.Verify(level, d, claim, rounds, r)
	if e != api.OK {
		t.Fatalf("Verify(%d, %d) of %d rounds: %v", level, d, len(rounds), e)
	}
	return c
}

// 20.1 to 20.3: what was worked out apart from the program, by values at points.
func TestFixed(t *testing.T) {
	for _, a := range []struct {
		level                         int
		steps, tables, r, sum, rounds string
		ends, claim                   string
	}{
		{0, "x0", "1 1 1 1 1 1 1 0", "0 1 1", "1", "0 1; 0 0; 1 1", "1", "1"},
		{1, "x0 x1 *0,1 +2,0", "3 3 0 3; 1 2 3 0", "0 1", "1", "0 1 0; 0 0 1", "0 3", "0"},
		{2, "x0", "6 f", "1", "9", "6 f", "f", "f"},
		{2, "x0 x1 *0,1 x2 +2,3", "1 2 5 7 f 9 7 6; 3 3 5 a e a 5 5; 6 1 a 8 c d 7 6", "1 3 9", "b", "d 6 4; c a 8; 5 b d", "6 e a", "2"},
		{3, "x0 x1 *0,1 x2 +2,3", "3e 8 33 18 15 30 40 b1; c3 48 4e b0 41 29 9f 1e; e7 5 44 b4 3b db d7 38", "92 3c e", "ea", "80 6a 2c; 9d d6 dd; c1 d0 ec", "17 d2 b1", "25"},
		{3, "c5b", "3 cc a5 9e", "4c 47", "0", "0 0; 5b 5b", "4", "5b"},
		{4, "x1 *0,0 *1,1 x0 +2,3 c1234 *5,4", "230a b1dd a599 55fa 9988 b8a6 7288 e810; 272b ec24 a37f 4617 8e41 d532 6ed2 281f", "2a27 67e0 edc8", "cae5", "5c07 96e2 137d d998 62ed; c8a2 1518 ae7d 73c7 91b6; b8f2 dbfd 9f7 6af8 6709", "96b0 f969", "801a"},
		{5, "x0 x1 x2 *0,1 *3,2 cdeadbeef +4,5", "b4ec0652 dcf8bef6 1efc20c9 b096ebf5; 200c54e9 fefa0243 c79f25ee 94929216; 6db56e5b 584355b8 3959999c 1dc90357", "e8245819 9b914a48", "68890b97", "37fcd173 5f75dae4 cd25d356 eeeaf774; 71d68664 457da5ea b99929fe 6ab14e52", "8a8068f9 f6d1a59a 344e7bfb", "2323e3d8"},
		{6, "x0 x1 *0,1", "84fd2ec50d44edc5 6fba579b31826e0a fe1d515b2c1d8728 d6e8541a2c1d8f47 1d6597e214bc028a e25bd3abc8b05024 830f1b4b216f91 a6c67d82cf5d777f 50b94098cc61175d bad32fc0ac19c0e8 f3d9680166efbf7c 87c4ebf175187d21 c34e9d45c1aa598c dea8095b9b8a314 aad71c97d5f8822f 1e177c0b2a0227c8; 748989b0f025f1e1 556205aa8ea995cd 12b6d519033e86fd bf4b099c92e62e72 17e00e581bcd4b53 41df2a8155311d24 15febbe2a487c242 a98b1a93f4c926dd 4d0eec27c7f99687 b589fd6a9e493f0 6f2f0d0c9a20e34 383a102d31c43b40 81b32c2b835c8065 31c7c21b3664327 616c7bc2814806d aaa47956ecf07bda", "86fd07efbea74ba7 2297ee54e570d89a 4fe559a1e454625d 2043d6bbdff83c26", "ec4375029067cbb0", "ec3589e35490b70b 76fce1c4f77cbb 4b4f641d1f00a020; 4b055eb3813d6824 69a2abd9a108669e e1fd750e292d28f7; 3841b5199d6071ca 40c1730d64e3cafb 9e6c336b76fc029c; b031bcdd1e3aacfe 75f233f78e73b503 3408bad52ae9a32c", "83b7ce192ad5c3 790e8d7dbc14eb97", "dd6a6bcfb97f6dd5"},
		{7, "x0 *0,0 *1,1 *2,2 x1 +3,4", "63568ce61bf60341466912696b420a06 3291aa393d63c71937cef9cb19403c6a 4d29c46d18e2cd3639f4faf9dbf269b3 e2dc965863c71fc58e15ed4e20188f42; 72d21f0b152e9ea1a5e1509a23b49669 30459f522dc3bd2900d46e9a7cc4b46e 67b28ccb4fb0b0fca25b5681d05f4102 e8a902151851c006d8da9d8bf1393697", "5d4f51c434ffa7234be644a6d41fc278 ad2c509c24d2c1994c5832979f76d03e", "d744f903caa723074d569b3762a765e2", "fd369782cf9beec81f5c4e6f2a02ac75 2a726e81053ccdcf520ad55848a5c997 8e763e0725c9afb40b15cd4b854a2676 5932c704ef6e8cb34643567ce7ed4394 2a0a1bd198d202ac3b5a613ed8a921ed fd4ee2d2527521ab760cfa09ba0e440f 594ab254728043d02f13e21a77e1abee 8e0e4b57b82760d76245792d1546ce0c 30f9d0952a5baa4c3878e99ad4153aa9; acfef95c7a2c768726a14181f95d234 97c62fcc0aede1c7b9512f8fb95d2514 ef5e034b104b2e96d15c727592f95325 7257c312dd0408391a6749e23431a405 a076b52f0ab3010fddd4bae2169b22ca 3d7f7576c7fc27a016ef8175b053d5ea 45e759f1dd5ae8f17ee2dc8f9bf7a3db d8ee99a81015ce5eb5d9e7183d3f54fb f0090d7a9b1df3dfa543ddf12862f999", "cb60cf6321b4070fddf14749cab2dda8 a0a2e2393ef07f0940f6d57f0e63a736", "7361d80271f106a00494065e9bd13af"},
		{7, "x0 x1 *0,1 x2 +2,3 x3 *5,4", "46b6a6f2013e1fc41942eec2b9bfc89e 5f8c57c66330a015e0e683af0fd1d032 6559ddbb4853ce75f84d77dfbc486fc4 7667ae45e6cc3cf3d6408279fae1c1eb 93e0d660110d547d1970860acf68d554 eafb9fdaf6d1cf46361811807823f9b3 877e0ba6bb404afeb36e76130290d45d 8c0cf1c2c04acf16ec2e681111eabda4; b6ff1e16573fb719f779a6f59f5adf10 4b445f73471114092dd05a7a03f91068 19922763f76465ccd89211569bf3d964 a8e824efc0af9abfb468f75009faaba 9e46e03b34fbd0a1bfed0fec3618aac9 99eb8a9eb047d84d67f57e32f2f4f6a1 5c161f91d8f79d99950f148b14057c20 cc4fc28715a4a55486ff3dfca226f80; e16c3ec623401fa4a7b0d9becf6040f1 dba6a3b6e63e7646603e5f7e9f6dbc56 411e180964e0dbbb65b670f58ffefe4e ed2bf943c7677920ccf928a200eef70a df0e26d094fb05481779ef9975794271 c64264b83aed4bf451b38f037df40652 fd802e5f73597ee14afda649337746bb 34e1793f61531619562ed9b5e33ab0b8; 22883aba5923251e0d690b1a9f9783f9 d1ebb1b8bfa58e7a175bc023fa43e630 1e31fa49c2b35455052aa1c15e0b1ef7 244554798ab60f503d53f0017a1ec89f 1b5cd5eba761481c68da8334bc14293 5993bf8f5d094739ae6d221d23c521c6 3aceea2c04d7d3fc258b443887c5166e 3f48240672ef9d7286c3f2686ec0157a", "635d13cafaa9ce3364232415ec71a85a b3c2d892d744df80893b4700b0ca3b73 9bec75a4818373634a65c156e8a3cb71", "a2f4cdb0066e92e32177ef35c2d891fa", "d2edb9574e172b8d47171d8b7d0a43f1 701974e74879b96e6660f2bebfd2d20b b8dfcba89eb526651eb243e04739d02c f34da88a3aedf58548ddc538e2cafc26; e0a0f913ef347468ab5a6ecd891441 ec7d96696de07bdc2cb5ebb1bae8805c 63c54cd60d9dd9cd0f785a70ebd9edca bf04130e34198d8ba775bf3c6cd183f7; ead6a2012cb8526be9af862562949ce7 66d16fc2bb095b74360a980f14b84fc8 fdb76202b630ff90366acd45487bac35 adda6efa028c1f266ccf9de763ce1690", "61f5155a66948206620b7b97e4e2081c 8e08534e8289dc41d0a702fe51b5d999 5ae7172876bbfc585cc30c35a68258ee 6dafcf9055a9606f54265483e406d393", "1f93275aab25c7d7d52cd8f40ddb0bd0"},
		{7, "x0", "4be78917fe23ab59b7047f2da624ee1f", "", "4be78917fe23ab59b7047f2da624ee1f", "", "4be78917fe23ab59b7047f2da624ee1f", "4be78917fe23ab59b7047f2da624ee1f"},
	} {
		l, tables, r := steps(t, a.steps), lists(t, a.tables), elems(t, a.r)
		sum, rounds, ends, claim := elem(t, a.sum), lists(t, a.rounds), elems(t, a.ends), elem(t, a.claim)
		// What is reckoned in a level is the same in each above.
		for level := a.level; level < 8; level++ {
			if got := total(t, level, l, tables); got != sum {
				t.Errorf("%s in level %d: the sum %x", a.steps, level, got)
			}
			p := proved(t, level, l, tables, r)
			if !same(p.Rounds, rounds) || !slices.Equal(p.Ends, ends) {
				t.Errorf("%s in level %d: %x", a.steps, level, p)
			}
			if len(r) > 0 && !slices.Equal(round(t, level, l, tables), rounds[0]) {
				t.Errorf("%s in level %d: another first round", a.steps, level)
			}
			if got := verified(t, level, max(1, expr.Degree(l)), sum, rounds, r); got != claim {
				t.Errorf("%s in level %d: the claim %x", a.steps, level, got)
			}
		}
	}
}

// The chapter's example, and the eighth of the whole.
func TestExample(t *testing.T) {
	l, tables := power(1), [][]api.Elem{lo(1, 2)}
	if got := total(t, 2, l, tables); got != lo(3)[0] {
		t.Errorf("the sum: %v", got)
	}
	v := round(t, 2, l, tables)
	if !slices.Equal(v, lo(1, 2)) {
		t.Errorf("the values: %v", v)
	}
	if got := verified(t, 2, 1, lo(3)[0], [][]api.Elem{v}, lo(3)); got != lo(3)[0] {
		t.Errorf("the claim: %v", got)
	}
}

// 20.1: the sum, corner by corner, of tables of no variable and of several.
func TestSum(t *testing.T) {
	rnd := rand.New(rand.NewPCG(20, 1))
	for level := range 8 {
		for n := range 6 {
			for d := range mostDegree(level) + 1 {
				vars := 1 + rnd.IntN(4)
				l, tables := drawnSteps(rnd, level, vars, d), drawnTables(rnd, level, vars, n)
				var want api.Elem
				for i := range 1 << n {
					var v []api.Elem
					for _, table := range tables {
						v = append(v, table[i])
					}
					want = tower.Add(want, modelEval(level, l, v))
				}
				if got := total(t, level, l, tables); got != want {
					t.Errorf("level %d, %d variables, degree %d: %v, not %v", level, n, d, got, want)
				}
			}
		}
	}
}

// 20.1: one element of each table is no sum but their value; a constant comes up once for each corner.
func TestSumOfNoVariable(t *testing.T) {
	for level := 1; level < 8; level++ {
		if got := total(t, level, steps(t, "x0 x1 *0,1"), [][]api.Elem{lo(2), lo(3)}); got != tower.Mul(level, lo(2)[0], lo(3)[0]) {
			t.Errorf("level %d, a product: %v", level, got)
		}
		for n := range 13 {
			want := api.Elem{}
			if n == 0 {
				want = lo(3)[0]
			}
			if got := total(t, level, steps(t, "c3"), [][]api.Elem{make([]api.Elem, 1<<n)}); got != want {
				t.Errorf("level %d, a constant over %d variables: %v", level, n, got)
			}
		}
	}
}

// 20.1, 20.2: tables of 2^12 elements are the greatest.
func TestGreatestTables(t *testing.T) {
	rnd := rand.New(rand.NewPCG(20, 2))
	l, tables, r := steps(t, "x0 x1 *0,1"), drawnTables(rnd, 7, 2, 12), drawn(rnd, 7, 12)
	sum := tower.Dot(7, tables[0], tables[1])
	if got := total(t, 7, l, tables); got != sum {
		t.Errorf("the sum: %v, not %v", got, sum)
	}
	p := proved(t, 7, l, tables, r)
	if got := verified(t, 7, 2, sum, p.Rounds, r); got != tower.Mul(7, p.Ends[0], p.Ends[1]) {
		t.Errorf("the claim in the end: %v", got)
	}
	for k := range tables {
		if got := modelAt(7, tables[k], r); p.Ends[k] != got {
			t.Errorf("the end %d: %v, not %v", k, p.Ends[k], got)
		}
	}
}

// 20.2: a round's values are sums at the places, d + 1 of them; a constant has two.
func TestRound(t *testing.T) {
	rnd := rand.New(rand.NewPCG(20, 3))
	for level := range 8 {
		for n := 1; n < 4; n++ {
			for d := range mostDegree(level) + 1 {
				vars := 1 + rnd.IntN(3)
				l, tables := drawnSteps(rnd, level, vars, d), drawnTables(rnd, level, vars, n)
				v := round(t, level, l, tables)
				if want := modelRound(level, max(1, d), l, tables); !slices.Equal(v, want) {
					t.Errorf("level %d, %d variables, degree %d: %v, not %v", level, n, d, v, want)
				}
				if got := total(t, level, l, tables); got != tower.Add(v[0], v[1]) {
					t.Errorf("level %d, %d variables, degree %d: the first two are not the sum", level, n, d)
				}
			}
		}
	}
}

// 20.2: a constant stands at each of half the corners.
func TestRoundOfConstant(t *testing.T) {
	for level := range 8 {
		for n := 1; n < 5; n++ {
			want := lo(0, 0)
			if n == 1 {
				want = lo(1, 1)
			}
			if got := round(t, level, steps(t, "c1"), [][]api.Elem{make([]api.Elem, 1<<n)}); !slices.Equal(got, want) {
				t.Errorf("level %d, %d variables: %v", level, n, got)
			}
			// What falls away is a constant by its degree alone.
			if got := round(t, level, steps(t, "x0 +0,0"), [][]api.Elem{make([]api.Elem, 1<<n)}); !slices.Equal(got, lo(0, 0)) {
				t.Errorf("level %d, %d variables, x0 + x0: %v", level, n, got)
			}
		}
	}
	// The degree is that of the steps, whatever the tables are.
	if got := round(t, 3, power(8), [][]api.Elem{lo(0, 0)}); !slices.Equal(got, make([]api.Elem, 9)) {
		t.Errorf("the eighth power of noughts: %v", got)
	}
}

// 20.2: each table is bound in its first variable; they need not be as long as each other.
func TestBind(t *testing.T) {
	rnd := rand.New(rand.NewPCG(20, 4))
	for level := range 8 {
		for _, lengths := range [][]int{{1}, {1, 1}, {3, 3, 3}, {4, 1, 2}, {2, 5}, {12, 1}, {13}, {16}} {
			var tables [][]api.Elem
			for _, n := range lengths {
				tables = append(tables, drawn(rnd, level, 1<<n))
			}
			for _, r := range append(drawn(rnd, level, 2), lo(0, 1)...) {
				got := bound(t, level, tables, r)
				if len(got) != len(tables) {
					t.Fatalf("level %d: %d tables of %d", level, len(got), len(tables))
				}
				for k, table := range tables {
					var want []api.Elem
					for i := range len(table) / 2 {
						without := tower.Mul(level, tower.Add(tower.One(), r), table[2*i])
						want = append(want, tower.Add(without, tower.Mul(level, r, table[2*i+1])))
					}
					if !slices.Equal(got[k], want) {
						t.Errorf("level %d, the table %d of %v: %v, not %v", level, k, lengths, got[k], want)
					}
				}
			}
		}
	}
}

// 20.2: what has no table has no error of one.
func TestBindNothing(t *testing.T) {
	for _, level := range append([]int{0, 3, 7}, noLevels...) {
		for _, r := range []api.Elem{{}, tower.One(), tower.Bit(127)} {
			for _, tables := range [][][]api.Elem{nil, {}} {
				if got, e := sumcheck.Bind(level, tables, r); e != api.OK || len(got) != 0 {
					t.Errorf("Bind(%d) of nothing: %v, %v", level, got, e)
				}
			}
		}
	}
}

// 20.2: round by round, the tables bound to the elements ahead; in the end one element of each.
func TestProve(t *testing.T) {
	rnd := rand.New(rand.NewPCG(20, 5))
	for level := range 8 {
		for n := range 4 {
			for d := range mostDegree(level) + 1 {
				vars := 1 + rnd.IntN(3)
				l, tables, r := drawnSteps(rnd, level, vars, d), drawnTables(rnd, level, vars, n), drawn(rnd, level, n)
				p := proved(t, level, l, tables, r)
				if len(p.Rounds) != n || len(p.Ends) != vars {
					t.Fatalf("level %d, %d variables: %d rounds, %d ends", level, n, len(p.Rounds), len(p.Ends))
				}
				left := tables
				for i := range n {
					if want := modelRound(level, max(1, d), l, tables, r[:i]...); !slices.Equal(p.Rounds[i], want) {
						t.Errorf("level %d, the round %d of %d, degree %d: %v, not %v", level, i, n, d, p.Rounds[i], want)
					}
					if !slices.Equal(p.Rounds[i], round(t, level, l, left)) {
						t.Errorf("level %d, the round %d of %d: not that of the tables left", level, i, n)
					}
					left = bound(t, level, left, r[i])
				}
				for k, table := range tables {
					if p.Ends[k] != modelAt(level, table, r) || p.Ends[k] != left[k][0] {
						t.Errorf("level %d, the end %d: %v", level, k, p.Ends[k])
					}
				}
			}
		}
	}
}

// 20.2: with none there is no round, and the tables are left as they are.
func TestProveOfNoVariable(t *testing.T) {
	for level := 1; level < 8; level++ {
		for _, r := range [][]api.Elem{nil, {}} {
			p := proved(t, level, steps(t, "x0 x1 *0,1"), [][]api.Elem{lo(2), lo(3)}, r)
			if len(p.Rounds) != 0 || !slices.Equal(p.Ends, lo(2, 3)) {
				t.Errorf("level %d: %v", level, p)
			}
		}
	}
}

// 20.2: tables that no step uses are left, too.
func TestUnusedTables(t *testing.T) {
	rnd := rand.New(rand.NewPCG(20, 6))
	tables, r := drawnTables(rnd, 7, 3, 3), drawn(rnd, 7, 3)
	p := proved(t, 7, steps(t, "x1"), tables, r)
	for k := range tables {
		if p.Ends[k] != modelAt(7, tables[k], r) {
			t.Errorf("the end %d: %v", k, p.Ends[k])
		}
	}
	if !slices.Equal(round(t, 7, steps(t, "x1"), tables), round(t, 7, steps(t, "x0"), tables[1:2])) {
		t.Error("a table that is not used makes another round")
	}
}
