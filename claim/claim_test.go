package claim_test

import (
	"math"
	"math/big"
	"math/rand/v2"
	"slices"
	"strconv"
	"strings"
	"testing"

	"steeple/api"
	"steeple/claim"
	"steeple/cube"
	"steeple/tower"
	"steeple/turn"
)

// noLevels are numbers that are no levels.
var noLevels = []int{math.MinInt, math.MinInt32, -64, -1, 8, 9, 63, 64, math.MaxInt32, math.MaxInt}

// lo is elements of one word each.
func lo(l ...uint64) []api.Elem {
	out := make([]api.Elem, len(l))
	for i, n := range l {
		out[i] = api.Elem{Lo: n}
	}
	return out
}

// elems are elements by their digits to the base 16, with spaces between.
func elems(t *testing.T, s string) []api.Elem {
	t.Helper()
	var l []api.Elem
	for _, x := range strings.Fields(s) {
		n, ok := new(big.Int).SetString(x, 16)
		if !ok {
			t.Fatalf("no number: %s", x)
		}
		low := new(big.Int).And(n, new(big.Int).SetUint64(math.MaxUint64))
		l = append(l, api.Elem{Hi: new(big.Int).Rsh(n, 64).Uint64(), Lo: low.Uint64()})
	}
	return l
}

// claims are a column, a kind and a number each, with semicolons between, and their values.
func claims(t *testing.T, s string, vals []api.Elem) []api.Claim {
	t.Helper()
	l := make([]api.Claim, len(vals))
	for j, text := range strings.Split(s, ";") {
		if len(vals) == 0 {
			break
		}
		var n [3]int
		for i, x := range strings.Fields(text) {
			n[i], _ = strconv.Atoi(x)
		}
		l[j] = api.Claim{Col: n[0], Kind: n[1], S: n[2], Val: vals[j]}
	}
	return l
}

// drawn is n elements of a level.
func drawn(rnd *rand.Rand, level, n int) []api.Elem {
	l := make([]api.Elem, n)
	for i := range l {
		l[i].Lo = rnd.Uint64()
		if level == 7 {
			l[i].Hi = rnd.Uint64()
		} else {
			l[i].Lo &= 1<<(1<<level) - 1
		}
	}
	return l
}

// drawnClaims are n claims that may be, with any values of a level.
func drawnClaims(rnd *rand.Rand, level, c, w, n int) []api.Claim {
	l := make([]api.Claim, n)
	for j, val := range drawn(rnd, level, n) {
		l[j] = api.Claim{Col: rnd.IntN(1 << c), Kind: rnd.IntN(4), Val: val}
		if l[j].Kind != turn.Same {
			l[j].S = rnd.IntN(1 << w)
		}
	}
	return l
}

// tooHigh are elements that are not of a level.
func tooHigh(level int) []api.Elem {
	if level == 7 {
		return nil
	}
	return []api.Elem{tower.Bit(1 << level), tower.Bit(127), tower.Add(tower.One(), tower.Bit(1<<level))}
}

// put is a list with another element at a place.
func put(l []api.Elem, i int, e api.Elem) []api.Elem {
	out := slices.Clone(l)
	out[i] = e
	return out
}

// was is the number of what the bit i of n was, -1 if there is none.
func was(kind, n, s, i int) int {
	switch kind {
	case turn.Left:
		i -= s
	case turn.Right:
		i += s
	case turn.Round:
		i = (i + n - s) % n
	}
	if i >= n {
		return -1
	}
	return max(i, -1)
}

// weights are those of all corners, factor by factor.
func weights(level int, p []api.Elem) []api.Elem {
	out := make([]api.Elem, 1<<len(p))
	for i := range out {
		out[i] = tower.One()
		for j, x := range p {
			if i>>j&1 == 0 {
				x = tower.Add(tower.One(), x)
			}
			out[i] = tower.Mul(level, out[i], x)
		}
	}
	return out
}

// modelTotal is the sum of b^j times the values.
func modelTotal(level int, vals []api.Elem, b api.Elem) api.Elem {
	var sum api.Elem
	for j, val := range vals {
		sum = tower.Add(sum, tower.Mul(level, tower.Pow(level, b, uint64(j)), val))
	}
	return sum
}

// modelMask is the mask: what each bit was, it weighs where it was.
func modelMask(level, c, w int, l []api.Claim, z []api.Elem, b api.Elem) []api.Elem {
	n := 1 << w
	mask := make([]api.Elem, n<<c)
	for j, claim := range l {
		by := tower.Pow(level, b, uint64(j))
		for i, weight := range weights(level, z) {
			if y := was(claim.Kind, n, claim.S, i); y >= 0 {
				place := claim.Col*n + y
				mask[place] = tower.Add(mask[place], tower.Mul(level, by, weight))
			}
		}
	}
	return mask
}

// modelTrue is the value at z of each claim's column, turned element by element.
func modelTrue(level, w int, l []api.Claim, z, columns []api.Elem) []api.Elem {
	n := 1 << w
	out := make([]api.Elem, len(l))
	for j, claim := range l {
		for i, weight := range weights(level, z) {
			if y := was(claim.Kind, n, claim.S, i); y >= 0 {
				out[j] = tower.Add(out[j], tower.Mul(level, weight, columns[claim.Col*n+y]))
			}
		}
	}
	return out
}

// total is one that there is.
func total(t *testing.T, level int, l []api.Claim, b api.Elem) api.Elem {
	t.Helper()
	s, e := claim.Total(level, l, b)
	if e != api.OK {
		t.Fatalf("Total(%d) of %d: %v", level, len(l), e)
	}
	return s
}

// mask is one that there is.
func mask(t *testing.T, level, c, w int, l []api.Claim, z []api.Elem, b api.Elem) []api.Elem {
	t.Helper()
	m, e := claim.Mask(level, c, w, l, z, b)
	if e != api.OK || len(m) != 1<<(w+c) {
		t.Fatalf("Mask(%d, %d, %d) of %d: %d elements, %v", level, c, w, len(l), len(m), e)
	}
	return m
}

// at is a value that there is.
func at(t *testing.T, level, c, w int, l []api.Claim, z []api.Elem, b api.Elem, q []api.Elem) api.Elem {
	t.Helper()
	x, e := claim.At(level, c, w, l, z, b, q)
	if e != api.OK {
		t.Fatalf("At(%d, %d, %d) of %d: %v", level, c, w, len(l), e)
	}
	return x
}

// truth is values that there are.
func truth(t *testing.T, level, c, w int, l []api.Claim, z, columns []api.Elem) []api.Elem {
	t.Helper()
	v, e := claim.True(level, c, w, l, z, columns)
	if e != api.OK || len(v) != len(l) {
		t.Fatalf("True(%d, %d, %d) of %d: %d values, %v", level, c, w, len(l), len(v), e)
	}
	return v
}

// told are claims with other values.
func told(l []api.Claim, vals []api.Elem) []api.Claim {
	out := slices.Clone(l)
	for j := range out {
		out[j].Val = vals[j]
	}
	return out
}

// 22.1 to 22.3: what was worked out apart from the program, by sums over all pairs of corners.
func TestFixed(t *testing.T) {
	for _, a := range []struct {
		level, c, w               int
		claims, vals, b, z, q     string
		columns, total, mask, atQ string
		values                    string
	}{
		{0, 1, 1, "0 1 0; 0 3 0", "1 1", "1", "0", "1 1", "0 0 0 1", "0", "0 0 0 0", "0", "0 0"},
		{1, 1, 1, "1 0 0; 0 1 1; 1 0 0", "1 1 0", "0", "3", "0 2", "2 3 2 3", "1", "0 0 2 3", "3", "1 1 1"},
		{2, 0, 2, "0 0 0", "9", "5", "4 2", "f 6", "4 e c d", "9", "f c a 8", "c", "d"},
		{2, 1, 2, "1 1 2; 0 1 3; 1 2 0; 1 2 2", "6 a e e", "2", "4 9", "5 6 9", "0 4 9 9 8 8 8 6", "e", "f 0 0 0 e 3 4 b", "e", "f 0 a a"},
		{3, 1, 2, "0 3 0; 0 3 2; 0 3 3", "ed d7 f3", "32", "83 3d", "66 1 18", "75 e5 31 2b 7 8b 60 59", "c1", "e0 54 b1 b7 0 0 0 0", "69", "86 60 17"},
		{3, 2, 1, "2 1 1; 0 1 1; 1 0 0; 0 1 0; 0 1 1", "d3 25 eb 96 75", "b", "d8", "1e 7f b5", "86 22 95 48 fd af be db", "d1", "72 cf e3 e6 d8 0 0 0", "53", "88 63 cb 5f 63"},
		{4, 3, 0, "1 3 0; 4 2 0; 0 0 0; 1 1 0", "572f 18e5 2bdf a107", "b12c", "", "98cd 6f34 b32f", "44dc 2d64 ab7 1391 f796 30c9 5a2e adc8", "5f4c", "7d19 8def 0 0 b12c 0 0 0", "f706", "2d64 f796 44dc 2d64"},
		{5, 0, 3, "0 0 0; 0 2 7; 0 1 0; 0 0 0; 0 1 6; 0 0 0", "9ccd8ac 3cd9d6d9 60b4851e d753dfc8 d9545029 9fe51164", "870e117", "3486fb0e 34053ac4 c0f49d57", "7d7013d0 a2911ef8 61e70026", "c942812 c013007a b056f1be b7d7b96d 6b5c8312 76e6f640 40fcb56c 3fbfa567", "18df60e0", "2f4d9297 af7a9835 c496ebb6 ee65b152 5c791d25 8658f175 373c1d7e b4f19e77", "b5c9280f", "20996c3 d8228756 20996c3 20996c3 4b78e6d6 20996c3"},
		{6, 2, 2, "2 1 0; 1 0 0; 0 1 2", "7faea63707acb4d2 9a89d375288a23d6 ad1354847af2c4b", "7c9a68b5d8db4789", "7a3fb45b34f383c c42aacb846ee62ba", "10aa95dc4bf5f5f a1ca31d637201037 fc4cd287cfc29c70 d8ac432e73f4f62b", "3bbad885a94631bb 88d80ba0716be0e9 23cceda16e075734 57a051c85aecf035 dd261cb5424fb5cb d156fb82f89cf47f 2544f4ab06e51d5 613fff85b3f13f5a a3e667549bbc8154 2cec705f1b72624c cd78d1f4d897fd1a e4a06ec6f4558fdd 8d2872fd9efdcb68 5cb0901da5b4346e d93785af4763392d 8348d7b7d82ebaef", "68b169311f262525", "c94a04016756faf6 7f56126ba95df59d 0 0 dd25416c5f08b5a9 90a0f87dde7a5df2 43e0f3a75d571661 72ff220304feb9b3 5dc87c013b89859c 99e2d0b97d67e727 5a6b874488c6bda1 9e412bfcce28df1b 0 0 0 0", "7c073e1fccaaaf60", "f4496c07c9928b5a cb34b74af91accb7 52e534f1d439d818"},
		{7, 1, 3, "1 2 3; 1 2 2; 0 3 7; 1 1 7; 1 2 1", "31eaaffa86c07018a7e08aecaa7f9820 cf4a73c15ef6bdf2968601bb4fc898e 3c66f18b56986eea61346150ebc311fb f8318a31864060c38486846b0de7f546 8ec48774326536c227224374d9a5e7ed", "9930f2d0f3e4556bdd5a1eee5cacd737", "c48e5689522fbf4e86f6266f00286113 f2d4f8681d08819f05966b27c42b1e92 ce80717f0d2bd1f2afbc562281b8a00d", "193c318410ac2fa6d3416fdba1e08047 2da93cacebddc7de110d48cd920a6528 f037680d4d9a7b5d8139597141f68985 6977266ee9a2af16e8c82df8500714ac", "bd659365868c912d9f5689319333a1c3 f872835d527ce6c85517c4598c8d24d8 ba19dacccafed43df1193845ad16fad7 cd02ffb53bfc4e72e6c42eb30d600c50 52433190f3dc2f0ba6f7c8a7830f101b 3d0ce23100df074b48081282add9bea2 ed051b6b1e2f4a3e0eafe7bd3e12dd02 61cbe04e3950b0f4c604ac7508b19ff 1a69464b1cdc6e2350ebe9d1efd14326 550ca08fd319749071f55aaae8315494 7a0c669928e9bc6e2cec42cdeb3866aa 5aa30a0064e35c7d6a337b6f48d4f29c 4e892e12674e1707d0320be923c806c4 e0c0ee4a3a35abb78a8e5f6d3c1af20e 5fefca5fe9622c88f584df509f02c6fd f351fe8476db64dc0a5d84ade74fd581", "3cc6393bacc65fd94171723c27cac639", "1dab640378fa99ff0f21995430c43849 aff23aedeb9f8f976dfdbd8185f1d4f7 44931a956917b5f448dca6946e471c15 bd80cd1908b2d83d98ed94f4fa6276a8 8fffb1a725efd259e86a5bd8e68e25ea 41c8cdf1cf30d8d389a63b64520e2738 918ca711eceee4974b36d2bc781dfc4 5154169680958923839863480e527ee3 84998dbf0fb2794c35ee007492cdb1ff c0c6a9f75836544164724c6eeb640715 a91c52bfe4bc5c56d6bfc0d17fcdfffd e9ae2b165555e94c6c9fd8844a55417e 5f46a4d215561f8ca1a6854ae9de5107 4f221ed4968249111f01d4a4eca6e1b9 5a7e378543b17d6923d7df228b05ebe2 6bd3c3f732bd52f3c8e55809729bd025", "59bd1fc96df1df761f7b621fcd1b35f7", "fe30470e49c2c4668027a417c89d3f1a d105f553226e6bc0d03cda903635fe56 9635c8e512ea480f37145ce73aefcff5 c020466328252c7c0a53070898d032f7 8c4c3f21ed6efbd0c55b0dd4d61bbad9"},
		{7, 2, 2, "0 2 1; 2 1 1; 0 1 3; 1 2 1; 3 0 0; 3 2 1; 2 0 0", "ea1d5a4821d922bd617409af34c2ab45 757fc082e52ec87c9538423baac2c19d c7319de89e63f17a1735a4f6f1505b9 ced8f20e757cf9d4afaa41e66505da9f 5c625fea70b36fd2abb4700ada3b2b21 29946acb010c8974935c93f356c38e4 2791cedf1d8718a514ff8ed0efab3664", "c73da29bc0f166bb7409832ad7e0bd8b", "78ebe74a903ad518379609071461103a a125ed7e44736f31a2c9d038ca92025e", "eba9969dc31b5d54054172b2200b291e 4da19a12c9afbb5895d46e6b295c87cb b0603fa5961900623d43cccc89a306e7 565b8dbacae098b5eeca29b232c97fb7", "8e9f104b72f3441f65e80bddbd028ce9 67e7bfeec69f64722cc91822b7528606 8e6ec8657381c663eae6c723aae340f3 430931886cdb00f5d2b24202cc8fbe11 c85c23ad3549cfebde636754c70b26d1 87adc640a4b7133539b5fbd83e8b1a1c 92a76d2a4a8515feae916bfd453f550f 3d7476c2ed5f6dd29a1902930bcc158b 5ac43f0b3dcf98558dcd529c9c5ff46c 5f69ff5acea373dfcc46f72075d8a013 949c0d9d1f94d87ffabe2e78fb76aacd 6a6cc401592a38473a4e21aebf994a3d bc8387d6f7221fbd20c9a9555fcc727e 9adcecf88ce86a0c0bc28e0b235cee80 c6ec53c7a6be3c5d4ed9daf981052a2f ae30cf7ace8dbb3b207634c11bd4c808", "f3a87ceab6802e974a5d48bc83696c0c", "97a6c6f350dd4a1e78b51fd7ec7b6214 594cb5257ed9aec7cfe362ba20e989ff f869585b3aaac1f66d2ab282ea7b8ba0 21a7526feee37bdff8756bbd348899c4 0 e9132b3fc8f199f9eb16af029b6a7556 4538fb910c04686bc2a4b750b6c16d32 7f432e697b1859829936d11cfe0f75c0 cc09f26d56d16d6d26cf10a42fd143ed c79509e9f97723b4bcb0dc308d17d74c dce25fc50797a0d12539fd743c0685d6 1baeced24d8ce9563f4276e58c6f2ee7 23c781dc347af4757feb96f9b62bb07c 223e7dadb5656de8428e07cc586bcef9 36396cb5bf8bb69af1c7a70220f7f3e5 280bd9cec850505cdb689a1129caf775", "b91fcf0010fcfa7387dcd341e7f80284", "b3739b793d8227ad58998e7c1fa529a4 ed97de51def2f949714985d3c7f177a7 da22d515e1fdcb51129d75fd7519d97b 98e7e792b1fde68a5602fc6b8af362f0 b9f76a869b9680661c38f99fa267e659 5a433163d1125adb1961900e3ac2caad fe96fb9ca6040225023de2b9b6eaef07"},
		{7, 0, 0, "0 1 0; 0 0 0", "42cbe1ebbdd6122da624a722814b68d7 710184832a6a561402402ca0033bfa92", "2866497155e5d411cf06eedcfeeab108", "", "", "821b4f9729dfbf85f0d29cc67bcae72d", "74d73d1ff753371a4e497b59cfd6d0a5", "2866497155e5d411cf06eedcfeeab109", "2866497155e5d411cf06eedcfeeab109", "821b4f9729dfbf85f0d29cc67bcae72d 821b4f9729dfbf85f0d29cc67bcae72d"},
		{7, 1, 1, "", "", "199d8b88b4c0a3282919a8b9991b57dd", "79f51d641efcf6955eec649842e8aebc", "1587a102b6ef73592cf91ec92b83619f 410739ecab32721d8052a212b1f02ab9", "7364bdea89b2880571c05dbcafa25449 93dc0431c8c3c65fb283f349535f0703 2e004c82d8e693e13a72a79952709286 ced723ca337ba2edbd1f007be7f7ff1", "0", "0 0 0 0", "0", ""},
	} {
		l, b, z, q := claims(t, a.claims, elems(t, a.vals)), elems(t, a.b)[0], elems(t, a.z), elems(t, a.q)
		// What is reckoned in a level is the same in each above.
		for level := a.level; level < 8; level++ {
			if e := claim.Check(a.c, a.w, l); e != api.OK {
				t.Errorf("%s: %v", a.claims, e)
			}
			if got := total(t, level, l, b); got != elems(t, a.total)[0] {
				t.Errorf("%s in level %d: the total %x", a.claims, level, got)
			}
			if got := mask(t, level, a.c, a.w, l, z, b); !slices.Equal(got, elems(t, a.mask)) {
				t.Errorf("%s in level %d: the mask %x", a.claims, level, got)
			}
			if got := at(t, level, a.c, a.w, l, z, b, q); got != elems(t, a.atQ)[0] {
				t.Errorf("%s in level %d: the mask's value %x", a.claims, level, got)
			}
			if got := truth(t, level, a.c, a.w, l, z, elems(t, a.columns)); !slices.Equal(got, elems(t, a.values)) {
				t.Errorf("%s in level %d: the values %x", a.claims, level, got)
			}
		}
	}
}

// The chapter's example.
func TestExample(t *testing.T) {
	rnd := rand.New(rand.NewPCG(22, 1))
	for level := range 8 {
		for w := range 7 {
			z, b := drawn(rnd, level, w), drawn(rnd, level, 1)[0]
			if got := mask(t, level, 0, w, []api.Claim{{}}, z, b); !slices.Equal(got, weights(level, z)) {
				t.Errorf("level %d, w %d: %v", level, w, got)
			}
		}
	}
}

// 22.1: the total, of no claims, of few and of more than may be mixed; of claims that may not be, too.
func TestTotal(t *testing.T) {
	rnd := rand.New(rand.NewPCG(22, 2))
	for level := range 8 {
		for _, n := range []int{0, 1, 2, 3, 7, 199, 200, 201, 500} {
			vals := drawn(rnd, level, n)
			l := told(make([]api.Claim, n), vals)
			for _, b := range append(drawn(rnd, level, 1), lo(0, 1)...) {
				if got := total(t, level, l, b); got != modelTotal(level, vals, b) {
					t.Errorf("level %d, %d claims: %v", level, n, got)
				}
			}
			for j := range l {
				l[j].Col, l[j].Kind, l[j].S = -1-j, 100*j-5, math.MaxInt-j
			}
			b := drawn(rnd, level, 1)[0]
			if got := total(t, level, l, b); got != modelTotal(level, vals, b) {
				t.Errorf("level %d, %d claims that may not be: %v", level, n, got)
			}
		}
		if total(t, level, nil, tower.One()) != (api.Elem{}) {
			t.Errorf("level %d: no claims have a total", level)
		}
		// The first power is 1, that of 0 as well.
		if got := total(t, level, []api.Claim{{Val: tower.One()}, {Val: tower.One()}}, api.Elem{}); got != tower.One() {
			t.Errorf("level %d: mixed by 0: %v", level, got)
		}
	}
}

// 22.2, 22.3: the mask, its value, and what is true, of all sizes.
func TestAll(t *testing.T) {
	rnd := rand.New(rand.NewPCG(22, 3))
	for level := range 8 {
		for c := range 7 {
			for w := range 7 {
				l := drawnClaims(rnd, level, c, w, rnd.IntN(6))
				z, q, columns := drawn(rnd, level, w), drawn(rnd, level, w+c), drawn(rnd, level, 1<<(w+c))
				b := drawn(rnd, level, 1)[0]
				m := mask(t, level, c, w, l, z, b)
				if want := modelMask(level, c, w, l, z, b); !slices.Equal(m, want) {
					t.Errorf("Mask(%d, %d, %d) of %v: %v, not %v", level, c, w, l, m, want)
				}
				if got := at(t, level, c, w, l, z, b, q); got != tower.Dot(level, m, weights(level, q)) {
					t.Errorf("At(%d, %d, %d) of %v: %v", level, c, w, l, got)
				}
				got := truth(t, level, c, w, l, z, columns)
				if want := modelTrue(level, w, l, z, columns); !slices.Equal(got, want) {
					t.Errorf("True(%d, %d, %d) of %v: %v, not %v", level, c, w, l, got, want)
				}
				// 22.4: the sum of mask times table.
				if sum := total(t, level, told(l, got), b); sum != tower.Dot(level, m, columns) {
					t.Errorf("(%d, %d, %d) of %v: the total %v is not the sum", level, c, w, l, sum)
				}
			}
		}
	}
}

// 22.2: at a corner the mask's value is its element.
func TestAtCorners(t *testing.T) {
	rnd := rand.New(rand.NewPCG(22, 4))
	for level := range 8 {
		for c := range 3 {
			for w := range 4 {
				l, z, b := drawnClaims(rnd, level, c, w, 5), drawn(rnd, level, w), drawn(rnd, level, 1)[0]
				for i, x := range mask(t, level, c, w, l, z, b) {
					q := make([]api.Elem, w+c)
					for j := range q {
						q[j].Lo = uint64(i >> j & 1)
					}
					if got := at(t, level, c, w, l, z, b, q); got != x {
						t.Errorf("At(%d, %d, %d) at the corner %d: %v, not %v", level, c, w, i, got, x)
					}
				}
			}
		}
	}
}

// 22.2: a claim is in its own column alone, times its power of b; several of one column are added.
func TestMaskColumns(t *testing.T) {
	rnd := rand.New(rand.NewPCG(22, 5))
	for level := range 8 {
		for c := range 7 {
			const w, n = 3, 8
			z, b := drawn(rnd, level, w), drawn(rnd, level, 1)[0]
			col := rnd.IntN(1 << c)
			l := []api.Claim{{Col: col}, {Col: col, Kind: turn.Left, S: 3}, {Col: col, Kind: turn.Round, S: 5}, {Col: col, Kind: turn.Right, S: 1}}
			want := make([]api.Elem, n<<c)
			for j, claim := range l {
				row, _ := turn.Row(level, claim.Kind, w, claim.S, z)
				for y, x := range row {
					want[col*n+y] = tower.Add(want[col*n+y], tower.Mul(level, tower.Pow(level, b, uint64(j)), x))
				}
			}
			if got := mask(t, level, c, w, l, z, b); !slices.Equal(got, want) {
				t.Errorf("level %d, the column %d of %d: %v, not %v", level, col, 1<<c, got, want)
			}
			// Twice the same, mixed by 1, falls away.
			if got := mask(t, level, c, w, []api.Claim{l[1], l[1]}, z, tower.One()); slices.ContainsFunc(got, func(e api.Elem) bool { return e != api.Elem{} }) {
				t.Errorf("level %d: twice the same: %v", level, got)
			}
		}
	}
}

// 22.2, 22.3: of no claims the mask is all noughts, and nothing is true.
func TestNoClaims(t *testing.T) {
	rnd := rand.New(rand.NewPCG(22, 6))
	for level := range 8 {
		for c := range 7 {
			for w := range 7 {
				for _, l := range [][]api.Claim{nil, {}} {
					z, b := drawn(rnd, level, w), drawn(rnd, level, 1)[0]
					if got := mask(t, level, c, w, l, z, b); !slices.Equal(got, make([]api.Elem, 1<<(w+c))) {
						t.Errorf("Mask(%d, %d, %d): %v", level, c, w, got)
					}
					if got := at(t, level, c, w, l, z, b, drawn(rnd, level, w+c)); got != (api.Elem{}) {
						t.Errorf("At(%d, %d, %d): %v", level, c, w, got)
					}
					truth(t, level, c, w, l, z, drawn(rnd, level, 1<<(w+c)))
				}
			}
		}
	}
}

// 22.2, 22.3: 200 claims about the greatest columns.
func TestGreatest(t *testing.T) {
	rnd := rand.New(rand.NewPCG(22, 7))
	l, z, q := drawnClaims(rnd, 7, 6, 6, 200), drawn(rnd, 7, 6), drawn(rnd, 7, 12)
	b, columns := drawn(rnd, 7, 1)[0], drawn(rnd, 7, 4096)
	l[7].Col, l[8].Col = 0, 63
	m := mask(t, 7, 6, 6, l, z, b)
	if !slices.Equal(m, modelMask(7, 6, 6, l, z, b)) {
		t.Error("another mask")
	}
	if v, e := cube.At(7, m, q); e != api.OK || v != at(t, 7, 6, 6, l, z, b, q) {
		t.Errorf("the mask's value is %v", v)
	}
	vals := truth(t, 7, 6, 6, l, z, columns)
	if !slices.Equal(vals, modelTrue(7, 6, l, z, columns)) {
		t.Error("other values")
	}
	if total(t, 7, told(l, vals), b) != tower.Dot(7, m, columns) {
		t.Error("the total is not the sum")
	}
}

// 22.3: of bits what is true is the value of the bits that are turned, for each kind.
func TestTrueOfBits(t *testing.T) {
	rnd := rand.New(rand.NewPCG(22, 8))
	for level := range 8 {
		for w := range 7 {
			const c = 2
			bits := make([]bool, 4<<w)
			columns := make([]api.Elem, len(bits))
			for i := range bits {
				if bits[i] = rnd.IntN(2) == 1; bits[i] {
					columns[i] = tower.One()
				}
			}
			z := drawn(rnd, level, w)
			for _, kind := range []int{turn.Same, turn.Left, turn.Right, turn.Round} {
				for _, s := range []int{0, 1, 1<<w - 1, 1 << w / 2} {
					if !turn.Fits(kind, w, s) {
						continue
					}
					turned, _ := turn.Bits(kind, w, s, bits)
					for col := range 4 {
						var want api.Elem
						for i, weight := range weights(level, z) {
							if turned[col<<w+i] {
								want = tower.Add(want, weight)
							}
						}
						if got := truth(t, level, c, w, []api.Claim{{Col: col, Kind: kind, S: s}}, z, columns)[0]; got != want {
							t.Errorf("level %d, w %d: the column %d, turned by %d, %d: %v, not %v", level, w, col, kind, s, got, want)
						}
					}
				}
			}
		}
	}
}

// 22.2, 22.3: what the claims say their values are is neither here nor there.
func TestValuesDoNotMatter(t *testing.T) {
	rnd := rand.New(rand.NewPCG(22, 9))
	for level := range 8 {
		l, z, b := drawnClaims(rnd, level, 2, 3, 5), drawn(rnd, level, 3), drawn(rnd, level, 1)[0]
		q, columns := drawn(rnd, level, 5), drawn(rnd, level, 32)
		other := told(l, slices.Repeat([]api.Elem{tower.Bit(127)}, 5))
		if !slices.Equal(mask(t, level, 2, 3, l, z, b), mask(t, level, 2, 3, other, z, b)) || at(t, level, 2, 3, l, z, b, q) != at(t, level, 2, 3, other, z, b, q) || !slices.Equal(truth(t, level, 2, 3, l, z, columns), truth(t, level, 2, 3, other, z, columns)) {
			t.Errorf("level %d: other answers", level)
		}
	}
}

// 22.4: of m claims of which one is false at most m - 1 elements b have the same total.
func TestFalseClaims(t *testing.T) {
	rnd := rand.New(rand.NewPCG(22, 10))
	for level := range 4 {
		for m := 1; m < 9; m++ {
			l, z, columns := drawnClaims(rnd, level, 1, 2, m), drawn(rnd, level, 2), drawn(rnd, level, 8)
			vals := truth(t, level, 1, 2, l, z, columns)
			for range 5 {
				wrong := slices.Clone(vals)
				for j := range wrong {
					if rnd.IntN(2) == 0 {
						wrong[j] = drawn(rnd, level, 1)[0]
					}
				}
				j := rnd.IntN(m)
				wrong[j] = tower.Add(vals[j], tower.One())
				unseen := 0
				for n := range 1 << (1 << level) {
					b := lo(uint64(n))[0]
					sum := tower.Dot(level, mask(t, level, 1, 2, l, z, b), columns)
					if total(t, level, told(l, vals), b) != sum {
						t.Errorf("level %d: the total of what is true is not the sum", level)
					}
					if total(t, level, told(l, wrong), b) == sum {
						unseen++
					}
				}
				if unseen > m-1 {
					t.Errorf("level %d: %d elements do not see it, of %d claims", level, unseen, m)
				}
			}
		}
	}
}

// 22.4: that many do not see it, where the differences have all the zeros that they may have.
func TestManyDoNotSee(t *testing.T) {
	// In level 1 all elements but 0 are zeros of 1 + b^3.
	for n, want := range []bool{false, true, true, true} {
		b := lo(uint64(n))[0]
		l := []api.Claim{{Val: tower.One()}, {}, {}, {Val: tower.One()}}
		if got := total(t, 1, l, b) == (api.Elem{}); got != want {
			t.Errorf("mixed by %d: %v", n, got)
		}
	}
}
