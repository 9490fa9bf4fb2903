package pcs_test

import (
	"encoding/hex"
	"math"
	"math/big"
	"math/rand/v2"
	"slices"
	"strings"
	"testing"

	"steeple/api"
	"steeple/code"
	"steeple/cube"
	"steeple/merkle"
	"steeple/multi"
	"steeple/octet"
	"steeple/pcs"
	"steeple/perm"
	"steeple/tower"
)

// tables are made once for all tests.
var tables = perm.Make()

// noLevels are numbers that are no levels.
var noLevels = []int{math.MinInt, math.MinInt32, -64, -1, 8, 9, 63, 64, math.MaxInt32, math.MaxInt}

// lo is elements of one word each.
func lo(l ...uint64) []api.Elem {
	out := make([]api.Elem, len(l))
	for i, n := range l {
		out[i] = api.Elem{Lo: n}
	}
	return out
}

// elems are elements by their digits to the base 16, with spaces between.
func elems(t *testing.T, s string) []api.Elem {
	t.Helper()
	var l []api.Elem
	for _, x := range strings.Fields(s) {
		n, ok := new(big.Int).SetString(x, 16)
		if !ok {
			t.Fatalf("no number: %s", x)
		}
		low := new(big.Int).And(n, new(big.Int).SetUint64(math.MaxUint64))
		l = append(l, api.Elem{Hi: new(big.Int).Rsh(n, 64).Uint64(), Lo: low.Uint64()})
	}
	return l
}

// texts are texts by their digits to the base 16, with spaces between.
func texts(t *testing.T, s string) []string {
	t.Helper()
	var l []string
	for _, x := range strings.Fields(s) {
		b, err := hex.DecodeString(x)
		if err != nil {
			t.Fatal(err)
		}
		l = append(l, string(b))
	}
	return l
}

// drawn is n elements of a level.
func drawn(rnd *rand.Rand, level, n int) []api.Elem {
	l := make([]api.Elem, n)
	for i := range l {
		l[i].Lo = rnd.Uint64()
		if level == 7 {
			l[i].Hi = rnd.Uint64()
		} else {
			l[i].Lo &= 1<<(1<<level) - 1
		}
	}
	return l
}

// drawnPlaces are some places below n.
func drawnPlaces(rnd *rand.Rand, n int) []int {
	l := []int{rnd.IntN(n)}
	for range rnd.IntN(5) {
		l = append(l, rnd.IntN(n))
	}
	slices.Sort(l)
	return slices.Compact(l)
}

// all are all places below n.
func all(n int) []int {
	l := make([]int, n)
	for i := range l {
		l[i] = i
	}
	return l
}

// tooHigh are elements that are not of a level.
func tooHigh(level int) []api.Elem {
	if level == 7 {
		return nil
	}
	return []api.Elem{tower.Bit(1 << level), tower.Bit(127), tower.Add(tower.One(), tower.Bit(1<<level))}
}

// put is a list with another member at a place.
func put[T any](l []T, i int, x T) []T {
	out := slices.Clone(l)
	out[i] = x
	return out
}

// copied is an opening of its own.
func copied(o api.Opening) api.Opening {
	out := api.Opening{Row: slices.Clone(o.Row), Proof: slices.Clone(o.Proof)}
	for _, col := range o.Cols {
		out.Cols = append(out.Cols, slices.Clone(col))
	}
	return out
}

// same tells whether two openings are the same.
func same(a, b api.Opening) bool {
	return slices.Equal(a.Row, b.Row) && slices.EqualFunc(a.Cols, b.Cols, slices.Equal[[]api.Elem]) && slices.Equal(a.Proof, b.Proof)
}

// weights are those of all corners, factor by factor.
func weights(level int, p []api.Elem) []api.Elem {
	out := make([]api.Elem, 1<<len(p))
	for i := range out {
		out[i] = tower.One()
		for j, x := range p {
			if i>>j&1 == 0 {
				x = tower.Add(tower.One(), x)
			}
			out[i] = tower.Mul(level, out[i], x)
		}
	}
	return out
}

// summed is the sum of products of two lists.
func summed(level int, a, b []api.Elem) api.Elem {
	var sum api.Elem
	for i := range a {
		sum = tower.Add(sum, tower.Mul(level, a[i], b[i]))
	}
	return sum
}

// modelColumns are all columns of the words of a table's rows.
func modelColumns(t *testing.T, g api.Grid, table []api.Elem) [][]api.Elem {
	t.Helper()
	c, e := code.New(g.Level, g.Cols, g.Rate)
	if e != api.OK {
		t.Fatalf("the code of %v: %v", g, e)
	}
	cols := make([][]api.Elem, c.Long())
	for i := range 1 << g.Rows {
		word, e := c.Encode(table[i<<g.Cols : (i+1)<<g.Cols])
		if e != api.OK {
			t.Fatalf("the row %d of %v: %v", i, g, e)
		}
		for j, x := range word {
			cols[j] = append(cols[j], x)
		}
	}
	return cols
}

// modelLeaves are the bytes of columns.
func modelLeaves(level int, cols [][]api.Elem) []string {
	var l []string
	for _, col := range cols {
		l = append(l, octet.Elems(level, col))
	}
	return l
}

// modelOpening is an opening for a high part and places.
func modelOpening(t *testing.T, g api.Grid, table, high []api.Elem, places []int) api.Opening {
	t.Helper()
	o := api.Opening{Row: make([]api.Elem, 1<<g.Cols)}
	for i, weight := range weights(g.Level, high) {
		for j := range o.Row {
			o.Row[j] = tower.Add(o.Row[j], tower.Mul(g.Level, weight, table[i<<g.Cols+j]))
		}
	}
	cols := modelColumns(t, g, table)
	for _, at := range places {
		o.Cols = append(o.Cols, cols[at])
	}
	rows, e := merkle.Rows(tables, modelLeaves(g.Level, cols))
	if e != api.OK {
		t.Fatalf("the rows of %v: %v", g, e)
	}
	o.Proof, e = multi.Open(rows, places)
	if e != api.OK {
		t.Fatalf("the proof of %v in %v: %v", places, g, e)
	}
	return o
}

// commit is a store that there is.
func commit(t *testing.T, k *perm.Tables, g api.Grid, table []api.Elem) *pcs.Store {
	t.Helper()
	s, e := pcs.Commit(k, g, table)
	if e != api.OK || s == nil {
		t.Fatalf("Commit(%v): %v", g, e)
	}
	return s
}

// open is an opening that there is.
func open(t *testing.T, s *pcs.Store, high []api.Elem, places []int) api.Opening {
	t.Helper()
	o, e := s.Open(high, places)
	if e != api.OK {
		t.Fatalf("Open(%v, %v): %v", high, places, e)
	}
	return o
}

// value is one that there is.
func value(t *testing.T, s *pcs.Store, p []api.Elem) api.Elem {
	t.Helper()
	v, e := s.Value(p)
	if e != api.OK {
		t.Fatalf("Value(%v): %v", p, e)
	}
	return v
}

// small are grids that may be, with words of 2^5 elements and 2^3 rows at most.
func small() []api.Grid {
	var l []api.Grid
	for level := range 8 {
		for long := range min(5, 1<<level) + 1 {
			for rate := range long + 1 {
				for rows := range 4 {
					l = append(l, api.Grid{Level: level, Rows: rows, Cols: long - rate, Rate: rate})
				}
			}
		}
	}
	return l
}

// 24.1 to 24.3: what was worked out apart from the program, the digests too.
func TestFixed(t *testing.T) {
	for _, a := range []struct {
		grid             api.Grid
		table, p         string
		places           []int
		root, value, row string
		cols, proof      string
	}{
		{api.Grid{Level: 0, Rows: 0, Cols: 0, Rate: 0}, "0", "", []int{0}, "736f726f4da0bfdd0d7e77a6fa25b1badfdde1e22b11fd52e041817db349dd81", "0", "0", "0", ""},
		{api.Grid{Level: 0, Rows: 1, Cols: 0, Rate: 1}, "0 0", "1", []int{1}, "0f0b10134435d04e5061b85782c28f5a5e94835608739cb150cc8c453f921d37", "0", "0", "0 0", "2eb8c0757de788dfbc3f1a01305a2b9ad2f395ffd5d09c77821c115e384d0948"},
		{api.Grid{Level: 0, Rows: 2, Cols: 1, Rate: 0}, "1 1 0 0 0 0 1 1", "1 1 0", []int{0, 1}, "41e429bb202de22d367c6fa57a7887475fb6093a25b37473c5573e345360c3e4", "0", "0 0", "1 0 0 1 0 0 0 0", ""},
		{api.Grid{Level: 1, Rows: 1, Cols: 1, Rate: 1}, "1 3 1 2", "2 3", []int{0, 3}, "bb1c178bb1bcca1ceb639832f4cdc9b6095afe637a35f7220712e59bb8d14dc2", "3", "1 0", "1 1 3 0", "9b1e204007435eef0a67f237b736fee9d59664ba42203da9aa390d53be676f7c 17799ede13ef9af6b421c179e6bea6d702b3266543cfe2e12e34afe4168bc2c6"},
		{api.Grid{Level: 2, Rows: 2, Cols: 2, Rate: 1}, "7 d 7 2 5 b 7 0 0 f 7 0 e e 8 c", "f 8 9 f", []int{1, 2, 7}, "5a4259724e6a2265587f3e09e393007208cbcb142f6df4ec32eeb4adc1b647a5", "5", "c 5 2 e", "a e f 0 5 f 2 5 5 e e 7", "63753fcac51b52c5995e67e7b2378691fc4f85fa216142103a368082b11d8d43 f23caac2a093b28785e0db8eaea90d1b2272d74019b32c69a2eda1c8fa0965ff 62f32042aa6dde9f32d29b4a8f103ad970b5c3908ebe08025b38c477aeb2a599 29b9e1df49618f678056dddada47b9074c4ac9e0240a5927e6487136b5cd4128"},
		{api.Grid{Level: 3, Rows: 1, Cols: 2, Rate: 1}, "cf 4f d4 75 37 5e c2 b5", "40 c6 b5", []int{1, 6}, "3728e02cc69b69b264770e51465edc64f3ca962943229341ad28cdc40f7982d5", "98", "ee 81 58 84", "80 69 19 c4", "fcc77a53a929404d427bb66741cfaa23ae4f75ed4d0433659dee3deabe81dd6d a74f83bd257b8b3998eb9af8cdcadc2cffcfd55e39c112c6125b74a4cf8810a3 4f8bb73e5bec3e56d9f3c6de64af2d2d8105602b36522f2cf45e6564a55cf223 ce7bec6eafd84c219bf2f8d9e04dc4f678412c10da9cb06ef6664fd9d8f72ccd"},
		{api.Grid{Level: 3, Rows: 3, Cols: 3, Rate: 2}, "50 3f 9f ea 5c 5 5f d3 50 dc a 72 28 33 4e 33 75 c4 28 74 28 bc 49 4b f6 e2 1a ff 69 9b ee fb 64 a0 1c 50 bc b 9b 5c 57 ae 42 f4 b d6 63 c2 bf ef f4 75 93 ef f0 db 72 cf f7 8 2d 4c ad f0", "a6 ec ad 82 35 f", []int{0, 5, 6, 31}, "f5e91c04f8587027a800b6691399e3331d25d789d1869d112833fa71de88696a", "c6", "48 fd f3 31 ac 19 78 34", "50 50 75 f6 64 57 bf 72 4b a1 b5 20 3 8f 2 e2 12 42 89 30 d0 ff 72 6b d4 71 3d 60 59 c7 3 18", "410c5a351c0ed8a20e34a6731f65d6b0b0b391f6de4359a13ee3595c65cdfba2 469c5c03ec10f91270b54f3f75f1e0119bdc12bf6dd364573c60abcc13a3686d aac4801bd2fbf5e83b3d7e52ca41324f058fdadc19770f925f6bb2b2d4728694 056fb001b319a6d6f9043a53e7b65bf95caf9fdfbef7a76d601e16050198fc09 62048b2f88747ee2781ae1d568c67813a6619f86e7556b17dfb58bd9dc81685c 5bba6d5f3f0bcd741bfb8ca28cc50edf001ae75ef776a5bc6ae8f5364e0b5a1d 23b956f57acb03917bc3c22c0db36221e4cff86ef55f315f03f9584ba9aeee26 5c7dc68e617ee44fca3e49957efaa0e65c0df63d8b9ddebc985094447e2221eb 7b4f276c59277e90fb4b1e9a8a3e5e6cbaa7109cb9f3105343f94401fc112c65"},
		{api.Grid{Level: 4, Rows: 0, Cols: 3, Rate: 1}, "d55b ccd0 31f1 77c0 aa57 2b0e c7d6 5737", "cdc9 81a1 7512", []int{2}, "4f04915073b157d21dc65b9e11788fcf0b54263eb5365b01086763fd05f92cc0", "6617", "d55b ccd0 31f1 77c0 aa57 2b0e c7d6 5737", "398a", "2e2246a334230cf8b6094fb9dc88ef0f063bdcb58310779684e323e59e67adc1 693b2899a778b52fe4b7b26f4451a8595edc422714e67f3c25fae4874729e004 30c40de08a32e56338ef2d6a0633dac9eb9e0c53d8d2559779f81d3788ecb438 d3997acd464919def8212c65d6338dec49ad1019b8efbab52c6840d97da25ec9"},
		{api.Grid{Level: 5, Rows: 2, Cols: 2, Rate: 0}, "41ae9b68 45218631 7a39d137 5680a7e3 2a8f4aa6 258b2c5 b0c75fbd f1c764e1 b43630bf 176fd0b8 d0349dce 530e53ae 7af087d9 eb89b34d 7d5a6e0d 806610e2", "ebf80b82 fe72dfc9 29520729 e168eba4", []int{3}, "7bd51ecd770835577b8b83d1d04215059e69dc41f2227a71685acdd712b5fb9c", "26de6e76", "6c8a2c8a fe8a2699 9ff8db3b f7ea013c", "9c459ee 3832a807 a8d1ef4c d130bb8e", "cd1ad5e673e52a8ad1ec1f9da8632c408ab61a30741ad7d560581f82ebccf5cb 2176c2f657a48d897ccb9965e0a6ed3003ee5144a316782666d85827e6d623f9"},
		{api.Grid{Level: 6, Rows: 1, Cols: 3, Rate: 2}, "af4b4dbe99057c32 207c4f5580a00cae 6bc77827062a5afc c1525971d5db4546 20ce747a214f35b9 7202a81699b54631 712fc8c754782385 7a88dbc664e6f194 9b9049ba87b2d08d 588a6385f60dbdd6 ef17a3d37bda6550 8f0a254748baf334 b88da62a867a9f61 bcb367c7d3492be4 62b1353ea1728b00 3d031ba1a2813258", "a8635ff7b6fffec5 2fa49a61fd770eb b3fc3342fe74cc77 f91caae5e45445c2", []int{4, 17, 18}, "00ac97d6bdd21e60142b8e0fae518b6e77a0f76c3f8a4919136f99b5c01d0541", "e0dd33fb533a9a20", "c69389ca71b66e31 efefc4e30d40f766 54339d565a3d1511 3451ca5c2f801d58 9609b394763ffcf0 cda4fd80849cd52 748060730a7d837a dd21ad767a99e757", "e62e2d7677ca3f1d a4a50adaee06291c 8d685bfd45871f37 289472bba2ab3dc4 6f53cbe63e946db9 333d5d4fdef81edc", "ec223910284c0f00a67b5c367d645337562a0d072a0379f0017112442b98b38e eaf337a046e3d1b1a91828137c7253aa7b77810a80a68bd70b2e49379a14c91b 1f8cfe776afc269ff6c85ba8ae6e1c294ee0462108f15ec93bf405dd81d53b5c 74f81371ca0ed2d4f7e399dfc1e867a170eef69a328d30aa9a71e3e779c4c8ae 4a40e2eb94457422c388862b49de35f6902a7fca83a6c1244928d888a0640109 3ccd92d5e2df39a250635748bbede28c5c49ff198052a66975a418adc8bdccad 952082e292c66c785217987da8ccddb2dac3c8cf31c8ce044b0709b9f2ff412d fd6f2b6758253aa9dc4bdae5fd2ca59caaac96118b522681f9fcbca0c64b0103"},
		{api.Grid{Level: 7, Rows: 2, Cols: 2, Rate: 2}, "7768da73358dac522ac7657d893f2019 670b6d1848ed2f0070943a887f18c792 b15cc27f8f1101019f8eacad708423c5 367cc22233a7dfbc571532e6edb03569 294307b110c51776908025e12bb51523 f3655c2334389f1df85a6e05080ba3a8 acaf32b3adb30cc80cba89a716c8db8f abf986218a43e997f4b33845f2b41c75 4305299dd28c81d95765709d46298c2 e686019f1851572e0058672303c57800 f96c4254f43d32bcf02236a740b07d4c c363636bd1743dbfa7810a6395bb54bb c111a3c7e973897deb63897459493862 5ca9621f3777ae148c3c130c7fc7d795 f9598d2b29398a80e2c2ec1d01750e1c 77dad11ec1bf01cf4066eee9082123c1", "80ea0936a49c1d9043a086d2920c06ff 2fd09c2e1ca8c57098b857a83266f005 f83fb22ff76e97a32d6829f46ebd6a27 a36150c2f199732f5b9ccd4e82f4ced2", []int{0, 9}, "fd8602716a1524be35f4cbb693ea853d988dde3914fbf7074b4bedc4d8ca90ee", "f7939971647538b34c6b198fa66fca65", "cde7a064fde61608aa825508eda9a2fa 9dd75e559d10c45dfcca0888eb9f5fef 4528e89b260c14bafb5e01222a03f29 2b11ba5911c3e87ab6ec065e95c2b4f6", "7768da73358dac522ac7657d893f2019 294307b110c51776908025e12bb51523 4305299dd28c81d95765709d46298c2 c111a3c7e973897deb63897459493862 5eb2b0c3573724897f5481703dab3dad 75d25c1e2c410d6ee118a0e98908b17a 33935f0deb204655acdebbde899cf6a9 af2a562584d94872abc85ff68832c7b5", "c89b993c954d426e9076e0b8e6bf2f6b4de97d9c689b210012ae494ba72a091d 7c6ba00585850a818dc031feb7b52816b85a2016c4772ff3496e8cb1ceee06fd fe0107171da232c8d02e00af5f417746dd81196188cff5f052f882211ba5922c 4c382ec67296eb3c428f3972e2dfe11f1c51d468f8edca284a2ffba04fad6393 dfbe94db5950d9e4fb8b5eeac38d580d0c4818092dab5b3cbe26217c4b0eebae 1aa141f0323bb4d51199361550a120857aebe5df41459fe96a27e03c49eb9bea"},
		{api.Grid{Level: 7, Rows: 3, Cols: 0, Rate: 2}, "c0098266dc5b67ae8097d6d58fc57d16 c07e8125ec29249ec5fe05bfafe51bb0 6d1a7b0592d60aaafba50153db4a873 c6b33f711f58500348bd81ec4b4d8b94 d9d3f1a0807abbe052cc9147526318df 2e5794aaedf1840bb7b894c70f82c496 5c231ab23a8b2f7ddb739d8a661d1ebe 5c207a1d933b81505442ad737c5a0001", "190fe1cf7ae80e5d51349ee0563ef7ea 260e14d73ed9a9f303b1f49bd20ab487 4d0f320d709b1da37fb50bee5429ee06", []int{2, 3}, "797ffb3ae34562f7d0b41dd7d271ba9fc0c71135607e403801ea6c183db4a0b5", "694af095e2f576b6cdcdb12af702cd9f", "694af095e2f576b6cdcdb12af702cd9f", "c0098266dc5b67ae8097d6d58fc57d16 c07e8125ec29249ec5fe05bfafe51bb0 6d1a7b0592d60aaafba50153db4a873 c6b33f711f58500348bd81ec4b4d8b94 d9d3f1a0807abbe052cc9147526318df 2e5794aaedf1840bb7b894c70f82c496 5c231ab23a8b2f7ddb739d8a661d1ebe 5c207a1d933b81505442ad737c5a0001 c0098266dc5b67ae8097d6d58fc57d16 c07e8125ec29249ec5fe05bfafe51bb0 6d1a7b0592d60aaafba50153db4a873 c6b33f711f58500348bd81ec4b4d8b94 d9d3f1a0807abbe052cc9147526318df 2e5794aaedf1840bb7b894c70f82c496 5c231ab23a8b2f7ddb739d8a661d1ebe 5c207a1d933b81505442ad737c5a0001", "e967ddb8b969a848611bf563d4c75e5d3467753641f19e1986b94aac83cb7592"},
	} {
		g, table, p := a.grid, elems(t, a.table), elems(t, a.p)
		s := commit(t, tables, g, table)
		root := texts(t, a.root)[0]
		if s.Root() != root {
			t.Errorf("%v: the root is %x", g, s.Root())
		}
		v := value(t, s, p)
		if v != elems(t, a.value)[0] {
			t.Errorf("%v: the value is %v", g, v)
		}
		want := api.Opening{Row: elems(t, a.row), Proof: texts(t, a.proof)}
		for l := elems(t, a.cols); len(l) > 0; l = l[1<<g.Rows:] {
			want.Cols = append(want.Cols, l[:1<<g.Rows])
		}
		if o := open(t, s, p[g.Cols:], a.places); !same(o, want) {
			t.Errorf("%v: the opening is %v", g, o)
		}
		if e := pcs.Check(tables, g, root, p, v, a.places, want); e != api.OK {
			t.Errorf("Check of %v: %v", g, e)
		}
	}
}

// 24.1: which grids may be: Rows first, and then what the code says.
func TestFits(t *testing.T) {
	if pcs.MaxRows != 6 {
		t.Errorf("MaxRows is %d", pcs.MaxRows)
	}
	numbers := []int{math.MinInt, -64, -1, 0, 1, 2, 3, 4, 5, 6, 7, 8, 9, 10, 11, 12, 63, 64, math.MaxInt}
	for level := -1; level < 9; level++ {
		for _, cols := range numbers {
			for _, rate := range numbers {
				_, want := code.New(level, cols, rate)
				for _, rows := range numbers {
					if rows < 0 || rows > 6 {
						want = api.ErrArg
					} else {
						_, want = code.New(level, cols, rate)
					}
					if e := pcs.Fits(api.Grid{Level: level, Rows: rows, Cols: cols, Rate: rate}); e != want {
						t.Errorf("Fits of %d, %d, %d, %d: %v, not %v", level, rows, cols, rate, e, want)
					}
				}
			}
		}
	}
	for _, x := range []struct {
		grid api.Grid
		want api.Errno
	}{
		{api.Grid{}, api.OK},
		{api.Grid{Level: 7, Rows: 6, Cols: 10}, api.OK},
		{api.Grid{Level: 4, Rows: 6, Rate: 10}, api.OK},
		{api.Grid{Level: 4, Rows: 6, Cols: 10, Rate: 1}, api.ErrLong},
		{api.Grid{Level: 3, Cols: 5, Rate: 3}, api.OK},
		{api.Grid{Level: 3, Cols: 5, Rate: 4}, api.ErrLong},
		{api.Grid{Level: 0, Cols: 1}, api.OK},
		{api.Grid{Level: 0, Cols: 1, Rate: 1}, api.ErrLong},
		{api.Grid{Level: 3, Rows: 7, Cols: 11}, api.ErrArg},
		{api.Grid{Level: 3, Rows: -1}, api.ErrArg},
		{api.Grid{Level: 8}, api.ErrArg},
		{api.Grid{Level: 3, Cols: -1, Rate: 1}, api.ErrArg},
		{api.Grid{Level: 3, Cols: 11, Rate: -1}, api.ErrArg},
	} {
		if e := pcs.Fits(x.grid); e != x.want {
			t.Errorf("Fits of %v: %v, not %v", x.grid, e, x.want)
		}
	}
}

// 24.1: a leaf is the column's bytes.
func TestLeaf(t *testing.T) {
	for _, x := range []struct {
		level int
		col   []api.Elem
		want  string
	}{
		{0, nil, "\x00\x00\x00\x00"},
		{7, []api.Elem{}, "\x00\x00\x00\x00"},
		{0, lo(1, 0), "\x00\x00\x00\x02\x01\x00"},
		{3, lo(255), "\x00\x00\x00\x01\xff"},
		{4, lo(0x1234, 5), "\x00\x00\x00\x02\x34\x12\x05\x00"},
		{7, []api.Elem{{Hi: 1, Lo: 2}}, "\x00\x00\x00\x01\x02\x00\x00\x00\x00\x00\x00\x00\x01\x00\x00\x00\x00\x00\x00\x00"},
		{2, lo(3, 16), ""},
		{8, lo(1), ""},
		{8, nil, ""},
		{-1, nil, ""},
		{math.MinInt, nil, ""},
	} {
		if got := pcs.Leaf(x.level, x.col); got != x.want {
			t.Errorf("Leaf(%d, %v): %x", x.level, x.col, got)
		}
	}
	rnd := rand.New(rand.NewPCG(24, 1))
	for level := range 8 {
		for n := range 10 {
			if col := drawn(rnd, level, n); pcs.Leaf(level, col) != octet.Elems(level, col) {
				t.Errorf("Leaf(%d, %v)", level, col)
			}
		}
	}
}

// 24.1 to 24.3, by the words: grids of all levels, of one row and several, of rate 0 and more.
func TestByTheWords(t *testing.T) {
	rnd := rand.New(rand.NewPCG(24, 2))
	for _, g := range small() {
		n := g.Cols + g.Rows
		table, p := drawn(rnd, g.Level, 1<<n), drawn(rnd, g.Level, n)
		s := commit(t, tables, g, table)
		root, e := merkle.Root(tables, modelLeaves(g.Level, modelColumns(t, g, table)))
		if e != api.OK || s.Root() != root {
			t.Errorf("%v: the root is %x", g, s.Root())
		}
		v := summed(g.Level, weights(g.Level, p), table)
		if got := value(t, s, p); got != v {
			t.Errorf("%v: the value is %v", g, got)
		}
		places := drawnPlaces(rnd, 1<<(g.Cols+g.Rate))
		o := open(t, s, p[g.Cols:], places)
		if !same(o, modelOpening(t, g, table, p[g.Cols:], places)) {
			t.Errorf("%v: the opening at %v is %v", g, places, o)
		}
		if e := pcs.Check(tables, g, root, p, v, places, o); e != api.OK {
			t.Errorf("Check of %v: %v", g, e)
		}
	}
}

// The greatest grids: words of 2^10 elements, 2^6 rows, all places.
func TestGreatest(t *testing.T) {
	rnd := rand.New(rand.NewPCG(24, 3))
	for _, g := range []api.Grid{{Level: 4, Rows: 6, Cols: 10}, {Level: 5, Rows: 6, Rate: 10}, {Level: 7, Cols: 9, Rate: 1}, {Level: 6, Rows: 1, Cols: 7, Rate: 3}, {Level: 0, Rows: 6, Cols: 1}} {
		n := g.Cols + g.Rows
		table, p := drawn(rnd, g.Level, 1<<n), drawn(rnd, g.Level, n)
		s := commit(t, tables, g, table)
		v := value(t, s, p)
		if want, _ := cube.At(g.Level, table, p); v != want {
			t.Errorf("%v: the value is %v", g, v)
		}
		for _, places := range [][]int{{0}, {1<<(g.Cols+g.Rate) - 1}, all(1 << (g.Cols + g.Rate))} {
			o := open(t, s, p[g.Cols:], places)
			if e := pcs.Check(tables, g, s.Root(), p, v, places, o); e != api.OK {
				t.Errorf("Check of %v: %v", g, e)
			}
			if e := pcs.Check(tables, g, s.Root(), p, tower.Add(v, tower.One()), places, o); e != api.ErrProof {
				t.Errorf("Check of %v at another value: %v", g, e)
			}
		}
	}
}

// The chapter's example.
func TestExample(t *testing.T) {
	for level := range 8 {
		x := tower.Bit(1<<level - 1)
		s := commit(t, tables, api.Grid{Level: level}, []api.Elem{x})
		if root, _ := merkle.Root(tables, []string{octet.Elems(level, []api.Elem{x})}); s.Root() != root {
			t.Errorf("level %d: the root is %x", level, s.Root())
		}
		o := open(t, s, nil, []int{0})
		if !same(o, api.Opening{Row: []api.Elem{x}, Cols: [][]api.Elem{{x}}}) {
			t.Errorf("level %d: the opening is %v", level, o)
		}
		if v := value(t, s, nil); v != x {
			t.Errorf("level %d: the value is %v", level, v)
		}
		if e := pcs.Check(tables, api.Grid{Level: level}, s.Root(), nil, x, []int{0}, o); e != api.OK {
			t.Errorf("level %d: Check: %v", level, e)
		}
	}
}

// R4: a table of a level is one of each above: its rows, words and values are the same, and what is opened there is right.
func TestLevelsAbove(t *testing.T) {
	rnd := rand.New(rand.NewPCG(24, 4))
	for level := range 7 {
		g := api.Grid{Level: level, Rows: 2, Cols: min(level, 2), Rate: 1}
		if level == 0 {
			g.Rate = 0
		}
		n := g.Cols + g.Rows
		table, p := drawn(rnd, level, 1<<n), drawn(rnd, level, n)
		s := commit(t, tables, g, table)
		places := drawnPlaces(rnd, 1<<(g.Cols+g.Rate))
		o := open(t, s, p[g.Cols:], places)
		for g.Level = level + 1; g.Level < 8; g.Level++ {
			above := commit(t, tables, g, table)
			if value(t, above, p) != value(t, s, p) {
				t.Errorf("%v: another value than at level %d", g, level)
			}
			high := open(t, above, p[g.Cols:], places)
			if !slices.Equal(high.Row, o.Row) || !slices.EqualFunc(high.Cols, o.Cols, slices.Equal[[]api.Elem]) {
				t.Errorf("%v: another opening than at level %d", g, level)
			}
			if e := pcs.Check(tables, g, above.Root(), p, value(t, s, p), places, high); e != api.OK {
				t.Errorf("Check of %v: %v", g, e)
			}
		}
	}
}

// R3: what is handed in is as it was and is not kept; what is answered shares nothing with the store, nor with another answer.
func TestNothingIsShared(t *testing.T) {
	rnd := rand.New(rand.NewPCG(24, 5))
	for _, g := range small() {
		n := g.Cols + g.Rows
		table, p, places := drawn(rnd, g.Level, 1<<n), drawn(rnd, g.Level, n), drawnPlaces(rnd, 1<<(g.Cols+g.Rate))
		kept, keptP, keptPlaces := slices.Clone(table), slices.Clone(p), slices.Clone(places)
		s := commit(t, tables, g, table)
		root, v := s.Root(), value(t, s, p)
		want := copied(open(t, s, p[g.Cols:], places))
		if !slices.Equal(table, kept) {
			t.Fatalf("%v: the table has changed", g)
		}
		for i := range table {
			table[i] = tower.Bit(127)
		}
		for range 2 {
			o := open(t, s, p[g.Cols:], places)
			if !same(o, want) || s.Root() != root || value(t, s, p) != v {
				t.Fatalf("%v: the store has changed", g)
			}
			if e := pcs.Check(tables, g, root, p, v, places, o); e != api.OK || !same(o, want) {
				t.Fatalf("%v: Check: %v, or the opening has changed", g, e)
			}
			if !slices.Equal(p, keptP) || !slices.Equal(places, keptPlaces) {
				t.Fatalf("%v: arguments have changed", g)
			}
			for i := range o.Row {
				o.Row[i] = tower.Bit(127)
			}
			for i := range o.Cols {
				// What is written over, or behind, one column is in no other.
				before := copied(o)
				_ = append(o.Cols[i], tower.Bit(127))
				for r := range o.Cols[i] {
					o.Cols[i][r] = tower.Bit(126)
				}
				before.Cols[i] = o.Cols[i]
				if !same(o, before) {
					t.Fatalf("%v: columns share memory", g)
				}
			}
			for i := range o.Proof {
				o.Proof[i] = ""
			}
		}
	}
}

// Two stores do not know of each other, and the same table has the same root.
func TestStoresApart(t *testing.T) {
	rnd := rand.New(rand.NewPCG(24, 6))
	g := api.Grid{Level: 3, Rows: 1, Cols: 2, Rate: 1}
	one, two := drawn(rnd, 3, 8), drawn(rnd, 3, 8)
	a := commit(t, tables, g, one)
	root := a.Root()
	b := commit(t, tables, g, two)
	if a.Root() != root || b.Root() == root {
		t.Errorf("roots: %x, %x, %x", root, a.Root(), b.Root())
	}
	if again := commit(t, tables, g, one); again.Root() != root {
		t.Errorf("the same table: %x, %x", root, again.Root())
	}
}
