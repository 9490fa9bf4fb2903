package talk_test

import (
	"encoding/hex"
	"math"
	"math/big"
	"math/rand/v2"
	"reflect"
	"slices"
	"strings"
	"testing"

	"steeple/api"
	"steeple/octet"
	"steeple/perm"
	"steeple/sponge"
	"steeple/talk"
)

// tables are the same for all tests.
var tables = perm.Make()

// noLevels are numbers that are no levels.
var noLevels = []int{math.MinInt, math.MinInt32, -64, -2, -1, 8, 9, 63, 64, 128, math.MaxInt32, math.MaxInt}

// tooFew and tooMany are how many elements can't be asked.
var (
	tooFew  = []int{math.MinInt, math.MinInt32, -4096, -2, -1}
	tooMany = []int{4097, 4098, 8192, 1 << 20, math.MaxInt32, math.MaxInt/16 + 1, math.MaxInt - 1, math.MaxInt}
)

// begun is a transcript that there is.
func begun(t *testing.T, name string) *talk.Talk {
	t.Helper()
	k := talk.New(tables, name)
	if k == nil {
		t.Fatalf("New(%.20q): nil", name)
	}
	return k
}

// long is a text of n bytes.
func long(b string, n int) string {
	return strings.Repeat(b, n)
}

// at looks for a state.
func at(t *testing.T, what string, k *talk.Talk, want string) {
	t.Helper()
	if k.State() != want || len(want) != api.Digest {
		t.Errorf("%s: the state is %x, not %x", what, k.State(), want)
	}
}

// atHex looks for a state that was worked out apart from the program.
func atHex(t *testing.T, what string, k *talk.Talk, want string) {
	t.Helper()
	b, err := hex.DecodeString(want)
	if err != nil {
		t.Fatal(err)
	}
	at(t, what, k, string(b))
}

// elem is an element by its digits to the base 16.
func elem(t *testing.T, s string) api.Elem {
	t.Helper()
	n, ok := new(big.Int).SetString(s, 16)
	if !ok {
		t.Fatalf("no number: %s", s)
	}
	low := new(big.Int).And(n, new(big.Int).SetUint64(math.MaxUint64))
	return api.Elem{Hi: new(big.Int).Rsh(n, 64).Uint64(), Lo: low.Uint64()}
}

// elems are elements by their digits, with spaces between.
func elems(t *testing.T, s string) []api.Elem {
	t.Helper()
	var l []api.Elem
	for _, x := range strings.Fields(s) {
		l = append(l, elem(t, x))
	}
	return l
}

// modelElems reads bytes bit by bit.
func modelElems(level int, b string) []api.Elem {
	wide := max(1, 1<<level/8)
	var l []api.Elem
	for at := 0; at < len(b); at += wide {
		var e api.Elem
		for bit := range 1 << level {
			set := uint64(b[at+bit/8]>>(bit%8)) & 1
			if bit < 64 {
				e.Lo |= set << bit
			} else {
				e.Hi |= set << (bit - 64)
			}
		}
		l = append(l, e)
	}
	return l
}

// modelPlaces marks the places that come.
func modelPlaces(h int, b string) []int {
	marked := make([]bool, 1<<h)
	for at := 0; at < len(b); at += 4 {
		n := uint64(b[at])*256*256*256 + uint64(b[at+1])*256*256 + uint64(b[at+2])*256 + uint64(b[at+3])
		marked[n%uint64(len(marked))] = true
	}
	var l []int
	for i, m := range marked {
		if m {
			l = append(l, i)
		}
	}
	return l
}

// 14.1: states that were worked out apart from the program.
func TestNewFixed(t *testing.T) {
	for name, want := range map[string]string{
		"":        "705139cb8f96330f5b0e82acf26dca994307bc26356af8d2992ca62428259d7c",
		"a":       "b44503038a940346d2a0f0cec74c6e18f85c64fd40e0b88f98cb8db98b2c2b13",
		"steeple": "6996716e0956f00d436577ad0fb53991231d78b6bb05cfcd7b095ca6d8d85a7d",
	} {
		atHex(t, "New of "+name, begun(t, name), want)
	}
	atHex(t, "New of the longest name", begun(t, long("n", 500000)), "a375c57a59df5c4ea025f432bdea360dc7d1a397c3fc3fac3c85f82d66e1fd71")
}

// 14.1
func TestNew(t *testing.T) {
	if talk.MaxSay != 500000 || talk.MaxAsk != 4096 {
		t.Fatalf("MaxSay, MaxAsk: %d, %d", talk.MaxSay, talk.MaxAsk)
	}
	for _, name := range []string{"", "a", "new", "\x00", "\x00\x00", "\xff", "steeple", long("x", 1000), long("x", talk.MaxSay-1), long("x", talk.MaxSay)} {
		at(t, "New", begun(t, name), sponge.Parts(tables, "new", name))
		if talk.New(nil, name) != nil {
			t.Errorf("New(nil, %.20q) is a transcript", name)
		}
	}
	for _, n := range []int{talk.MaxSay + 1, talk.MaxSay + 2, api.MaxText, api.MaxText + 1} {
		if talk.New(tables, long("x", n)) != nil || talk.New(nil, long("x", n)) != nil {
			t.Errorf("New of a name of %d bytes is a transcript", n)
		}
	}
}

// 14.1 to 14.4: a nil transcript, at each call, with what may be and what may not be.
func TestNil(t *testing.T) {
	var k *talk.Talk
	if k.State() != "" {
		t.Errorf("State: %x", k.State())
	}
	for _, n := range []int{0, 1, talk.MaxSay, talk.MaxSay + 1} {
		if e := k.Say("", long("x", n)); e != api.ErrArg {
			t.Errorf("Say of %d bytes: %v", n, e)
		}
		if e := k.Say(long("x", n), ""); e != api.ErrArg {
			t.Errorf("Say with a label of %d bytes: %v", n, e)
		}
	}
	for _, x := range []int{-1, 0, 1, 3, 7, 8, 12, 13} {
		for _, n := range []int{-1, 0, 1, 1024, 4096, 4097} {
			if k.Elems(x, n) != nil || k.Places(x, n) != nil {
				t.Errorf("%d, %d: %v, %v", x, n, k.Elems(x, n), k.Places(x, n))
			}
		}
		if e := k.Elem(x); e != (api.Elem{}) {
			t.Errorf("Elem(%d): %v", x, e)
		}
	}
	if k.State() != "" {
		t.Errorf("State, behind all: %x", k.State())
	}
}

// 14.2
func TestSay(t *testing.T) {
	k := begun(t, "name")
	state := k.State()
	texts := []string{"", "a", "say", "ask", "\x00\xff", long("x", 63), long("x", 64), long("x", 1000)}
	for _, label := range texts {
		for _, s := range texts {
			e := k.Say(label, s)
			state = sponge.Parts(tables, state, "say", label, s)
			if e != api.OK {
				t.Errorf("Say(%.20q, %.20q): %v", label, s, e)
			}
			at(t, "Say", k, state)
		}
	}
}

// 14.2: the longest texts, and those of a byte more, which change nothing.
func TestSayLong(t *testing.T) {
	most, more := long("x", talk.MaxSay), long("x", talk.MaxSay+1)
	k := begun(t, long("n", talk.MaxSay))
	for _, x := range [][2]string{{most, ""}, {"", most}, {"l", most}, {most, "t"}, {most, most}} {
		want := sponge.Parts(tables, k.State(), "say", x[0], x[1])
		if e := k.Say(x[0], x[1]); e != api.OK {
			t.Errorf("Say of %d and %d bytes: %v", len(x[0]), len(x[1]), e)
		}
		at(t, "Say of long texts", k, want)
	}
	state := k.State()
	for _, x := range [][2]string{{more, ""}, {"", more}, {more, "t"}, {"l", more}, {more, most}, {most, more}, {more, more}, {"", long("x", 3*api.MaxText)}} {
		if e := k.Say(x[0], x[1]); e != api.ErrLong {
			t.Errorf("Say of %d and %d bytes: %v", len(x[0]), len(x[1]), e)
		}
		at(t, "Say of texts that are too long", k, state)
	}
}

// 14.2: a state that was worked out apart from the program.
func TestSayLongFixed(t *testing.T) {
	k := begun(t, long("n", 500000))
	if e := k.Say(long("l", 500000), long("t", 500000)); e != api.OK {
		t.Errorf("Say: %v", e)
	}
	atHex(t, "Say of the longest", k, "6219707c330abe06552092dba1b4ddcc64ba0aaa5bb041cfe9cf38b7f1c2d1a0")
}

// 14.2: what is said under one label is not said under another; what is said twice is not said once.
func TestSayIsApart(t *testing.T) {
	seen := map[string]int{}
	for i, said := range [][][2]string{
		{}, {{"", ""}}, {{"", ""}, {"", ""}}, {{"a", ""}}, {{"", "a"}}, {{"a", "b"}}, {{"ab", ""}}, {{"", "ab"}}, {{"b", "a"}},
		{{"a", "b"}, {"c", "d"}}, {{"c", "d"}, {"a", "b"}}, {{"a", "b"}, {"a", "b"}}, {{"a", "bcd"}},
	} {
		k := begun(t, "name")
		for _, x := range said {
			if e := k.Say(x[0], x[1]); e != api.OK {
				t.Errorf("Say(%q, %q): %v", x[0], x[1], e)
			}
		}
		if before, ok := seen[k.State()]; ok {
			t.Errorf("%d and %d have one state", before, i)
		}
		seen[k.State()] = i
	}
}

// 14.1 to 14.5: a talk that was worked out apart from the program, state by state.
func TestFixedTalk(t *testing.T) {
	k := begun(t, "steeple")
	for _, x := range []struct{ label, text, state string }{
		{"root", "abc", "8357b66ff109b17bf57d026e54b82a95850394255275283e3f37d35fa5b07fc1"},
		{"", "", "366df450f1587aec0eae7be13222751b7f1254a275ffcd7393e4aac6b92e7b3c"},
		{"rootabc", "", "093c65f78af720a29a01474556b3ba34727df0fefe3fe1c2432cf84dedadf6cb"},
	} {
		if e := k.Say(x.label, x.text); e != api.OK {
			t.Errorf("Say(%q, %q): %v", x.label, x.text, e)
		}
		atHex(t, "Say", k, x.state)
	}
	for level, x := range []struct{ elems, state string }{
		{"1 0 1 1 1", "f612d7460c20a17075bf3fe4d6695e5dc45232f4f6880d2cd0dea9edd6b07daf"},
		{"0 3 1 3 3", "db5935b32599e4c4387f5666da3282023d330734976bfd97f75b0ebae37b664c"},
		{"0 e 2 3 0", "468118493575742fa8cc58532a9c6d8fa70a0fe9f19f554f1f30adb93b0f87b4"},
		{"6f f8 c3 31 45", "1c3d7f7c6c9184a711c3c046f3aceae7fe0c48dd83429c998bafcb9d8957316e"},
		{"6e70 7879 1ee5 a257 e100", "4dd6647305d1e20ede421341783a71567eb056f6d4e5fce3fa7832b93a51e083"},
		{"b3309fd8 d2d607d2 935fee20 99a24853 952fa62f", "a71084bc568afa57456a1ffda1b8bd9ce7a45e679bc110d90d7feb5d4507c412"},
		{"a09330eb6f4752f6 48aadc8e89f0b8d3 bc6319632dcfb1a4 4bf8e433324d2cd5 605ad3c340b1d996", "482df1a6c82044070774779aec34c80175a919ed595368b7e09321c98d09815b"},
		{"91ef794a4f8e15422bba402af0ef44f1 0d0e6b177d65488fba2fdac02cd72ab0 15c4d8b7f15d4bc38912116655cef2a2 205117051d3bc869074a7bb12b2b023e 516823b4071b05d0aa67a2e19b1be80f", "3a5f0a139a5f3811a66df9cb0532dc3648f8e4e5de936ade2c06d3ba3481aea8"},
	} {
		if got := k.Elems(level, 5); !slices.Equal(got, elems(t, x.elems)) {
			t.Errorf("Elems(%d, 5): %x", level, got)
		}
		atHex(t, "Elems", k, x.state)
	}
	if got := k.Elems(3, 0); got != nil {
		t.Errorf("Elems(3, 0): %v", got)
	}
	atHex(t, "Elems of none", k, "6518289cd94cadca487ed5f8c517142aa8dfab6b488f0410cd8c4c0ae674db52")
	if got := k.Elem(7); got != elem(t, "b6800f3c989b61a15a48ef9d51166a14") {
		t.Errorf("Elem(7): %x", got)
	}
	atHex(t, "Elem(7)", k, "17c4107e37031f461a11761cf2690b57a9ea574b4dd79208a84c42479c229fa4")
	if got := k.Elem(0); got != (api.Elem{}) {
		t.Errorf("Elem(0): %x", got)
	}
	atHex(t, "Elem(0)", k, "f6377e45108b47312a3bb1389395a1a73f34823be2d194725c3f3fc2a579a645")
	fixedPlaces(t, k)
	fixedLong(t, k)
}

// fixedPlaces goes on with the fixed talk.
func fixedPlaces(t *testing.T, k *talk.Talk) {
	for _, x := range []struct {
		h, q  int
		want  []int
		state string
	}{
		{0, 3, []int{0}, "a7937eae9da4203f194001d1d52603cd7d15810d1219a119df83a208ddca90ec"},
		{3, 8, []int{0, 1, 2, 5}, "a5658791b8be5bf9a11868db06a4111a8f63ad6db05657875aaceef7e998ae49"},
		{5, 0, nil, "dfd5a75605e8b7f97296d5c0def298df3da8c785f693efd0c2ebb20132b53922"},
		{8, 16, []int{27, 65, 75, 94, 103, 116, 122, 125, 126, 129, 134, 191, 207, 226, 228, 238}, "b81f8caba8f3c04d423e6e9a1503d8a6e8cc9f5d1cf845c3fb18f219d99c389f"},
		{12, 10, []int{115, 921, 981, 1218, 1379, 1404, 1904, 3074, 3980, 4006}, "140b3333fdb3efe89bb01a24b7fcc4a6605f1e6d692a9f1469f26c551983256d"},
	} {
		if got := k.Places(x.h, x.q); !slices.Equal(got, x.want) {
			t.Errorf("Places(%d, %d): %v", x.h, x.q, got)
		}
		atHex(t, "Places", k, x.state)
	}
}

// fixedLong ends the fixed talk: as much is asked as may be.
func fixedLong(t *testing.T, k *talk.Talk) {
	sum := 0
	for _, e := range k.Elems(2, 4096) {
		sum += int(e.Lo)
	}
	if sum != 0x7718 {
		t.Errorf("Elems(2, 4096): the bits are %x in all", sum)
	}
	atHex(t, "Elems(2, 4096)", k, "01c557fba9fdf690c7e4433d5e23b5637a405559dc9ac924fff3705a8856cd1f")
	l := k.Elems(7, 4096)
	var all api.Elem
	for _, e := range l {
		all = api.Elem{Hi: all.Hi ^ e.Hi, Lo: all.Lo ^ e.Lo}
	}
	if len(l) != 4096 || all != elem(t, "8e1458521e097b1cde4fe4fd5c528956") || l[4095] != elem(t, "60d27c7d864123d542e104c300302530") {
		t.Errorf("Elems(7, 4096): %d, %x", len(l), all)
	}
	atHex(t, "Elems(7, 4096)", k, "fede5cf516609257d467f9edd818ab9d9862f6bf4a72c1279bcb94165b3c3696")
	places := k.Places(12, 1024)
	sum = 0
	for _, i := range places {
		sum += i
	}
	if len(places) != 886 || sum != 1778212 || !slices.Equal(places[:4], []int{1, 3, 7, 9}) || !slices.Equal(places[882:], []int{4084, 4087, 4092, 4095}) {
		t.Errorf("Places(12, 1024): %v", places)
	}
	atHex(t, "Places(12, 1024)", k, "1d97ae795eeb6212753c01e702e92c5412c56d21c7443e5f8454a3e6f37b493c")
}

// 14.3
func TestElems(t *testing.T) {
	k := begun(t, "elems")
	state := k.State()
	for level := range 8 {
		wide := max(1, 1<<level/8)
		for _, n := range []int{1, 0, 2, 3, 31, 32, 33, 100, talk.MaxAsk - 1, talk.MaxAsk} {
			state = sponge.Parts(tables, state, "ask")
			want := modelElems(level, sponge.Stream(tables, state, n*wide))
			got := k.Elems(level, n)
			if len(got) != n || !slices.Equal(got, want) {
				t.Errorf("Elems(%d, %d): %d elements, unlike the model's", level, n, len(got))
			}
			at(t, "Elems", k, state)
		}
	}
}

// 14.3
func TestElem(t *testing.T) {
	k, other := begun(t, "elem"), begun(t, "elem")
	for range 20 {
		for level := range 8 {
			got, want := k.Elem(level), other.Elems(level, 1)
			if len(want) != 1 || got != want[0] || got != modelElems(level, sponge.Stream(tables, k.State(), octet.Wide(level)))[0] {
				t.Errorf("Elem(%d): %x, not %x", level, got, want)
			}
			at(t, "Elem", k, other.State())
		}
	}
}

// 14.3: what is above a level's bits is left out, and nothing else: each element of the small levels comes, and each bit of the great ones.
func TestElemsAreOfTheLevel(t *testing.T) {
	k := begun(t, "levels")
	for level := range 8 {
		var some api.Elem
		seen := map[api.Elem]int{}
		for _, e := range k.Elems(level, talk.MaxAsk) {
			if !octet.Of(level, e) {
				t.Errorf("Elems(%d): %x", level, e)
			}
			seen[e]++
			some = api.Elem{Hi: some.Hi | e.Hi, Lo: some.Lo | e.Lo}
		}
		if level <= 3 && len(seen) != 1<<(1<<level) {
			t.Errorf("Elems(%d): %d elements", level, len(seen))
		}
		want := api.Elem{Lo: math.MaxUint64, Hi: math.MaxUint64}
		if level < 7 {
			want = api.Elem{Lo: 1<<(1<<level) - 1}
		}
		if some != want {
			t.Errorf("Elems(%d): the bits %x", level, some)
		}
	}
}

// 14.3: nothing is asked where nothing is given, but where n is 0.
func TestElemsErrors(t *testing.T) {
	k := begun(t, "errors")
	state := k.State()
	for _, level := range noLevels {
		for _, n := range slices.Concat(tooFew, []int{0, 1, 2, 4095, 4096}, tooMany) {
			if got := k.Elems(level, n); got != nil {
				t.Errorf("Elems(%d, %d): %v", level, n, got)
			}
		}
		if got := k.Elem(level); got != (api.Elem{}) {
			t.Errorf("Elem(%d): %v", level, got)
		}
		at(t, "a level that is none", k, state)
	}
	for level := range 8 {
		for _, n := range slices.Concat(tooFew, tooMany) {
			if got := k.Elems(level, n); got != nil {
				t.Errorf("Elems(%d, %d): %d", level, n, len(got))
			}
			at(t, "too few or too many", k, state)
		}
	}
	for level := range 8 {
		state = sponge.Parts(tables, state, "ask")
		if got := k.Elems(level, 0); got != nil {
			t.Errorf("Elems(%d, 0): %v", level, got)
		}
		at(t, "no elements", k, state)
	}
}

// 14.4
func TestPlaces(t *testing.T) {
	k := begun(t, "places")
	state := k.State()
	for h := range 13 {
		for _, q := range []int{1, 0, 2, 3, 7, 8, 9, 64, 100, 1023, 1024} {
			state = sponge.Parts(tables, state, "ask")
			want := modelPlaces(h, sponge.Stream(tables, state, 4*q))
			got := k.Places(h, q)
			if !slices.Equal(got, want) {
				t.Errorf("Places(%d, %d): %v, not %v", h, q, got, want)
			}
			for i := range got {
				if got[i] < 0 || got[i] >= 1<<h || i > 0 && got[i] <= got[i-1] {
					t.Errorf("Places(%d, %d): %v", h, q, got)
				}
			}
			if (got == nil) != (q == 0) || len(got) > q {
				t.Errorf("Places(%d, %d): %d places", h, q, len(got))
			}
			at(t, "Places", k, state)
		}
	}
}

// 14.4: numbers that come twice; of few places all come.
func TestPlacesTwice(t *testing.T) {
	k := begun(t, "twice")
	for h, want := range [][]int{{0}, {0, 1}, {0, 1, 2, 3}, {0, 1, 2, 3, 4, 5, 6, 7}} {
		if got := k.Places(h, 1024); !slices.Equal(got, want) {
			t.Errorf("Places(%d, 1024): %v", h, got)
		}
	}
	if got := k.Places(12, 1024); len(got) < 500 || len(got) >= 1024 || got[len(got)-1] < 4000 {
		t.Errorf("Places(12, 1024): %d", len(got))
	}
}

// 14.4: nothing is asked where nothing is given, but where q is 0.
func TestPlacesErrors(t *testing.T) {
	k := begun(t, "errors")
	state := k.State()
	many := append([]int{1025, 1026, 4095, 4096}, tooMany...)
	for _, h := range []int{math.MinInt, math.MinInt32, -64, -1, 13, 14, 31, 32, 33, 63, 64, math.MaxInt32, math.MaxInt} {
		for _, q := range slices.Concat(tooFew, []int{0, 1, 1024}, many) {
			if got := k.Places(h, q); got != nil {
				t.Errorf("Places(%d, %d): %v", h, q, got)
			}
			at(t, "a height that is none", k, state)
		}
	}
	for h := range 13 {
		for _, q := range slices.Concat(tooFew, many) {
			if got := k.Places(h, q); got != nil {
				t.Errorf("Places(%d, %d): %d", h, q, len(got))
			}
			at(t, "too few or too many", k, state)
		}
	}
	for h := range 13 {
		state = sponge.Parts(tables, state, "ask")
		if got := k.Places(h, 0); got != nil {
			t.Errorf("Places(%d, 0): %v", h, got)
		}
		at(t, "no places", k, state)
	}
}

// 14.1: to ask for the state changes nothing.
func TestStateStays(t *testing.T) {
	k := begun(t, "state")
	for range 3 {
		at(t, "State", k, sponge.Parts(tables, "new", "state"))
	}
}

// step is some call of a transcript, and its answer.
func step(k *talk.Talk, kind, a, b int) any {
	switch kind {
	case 0:
		return k.Say(long("l", a), long("s", b))
	case 1:
		return k.Elem(a)
	case 2:
		return k.Elems(a, b)
	case 3:
		return k.Places(a, b)
	}
	return k.State()
}

// 14.5: the same words lead to the same answers, whatever other transcripts do between, and with tables of their own.
func TestSameWordsSameAnswers(t *testing.T) {
	rnd := rand.New(rand.NewPCG(14, 5))
	first, second, other := begun(t, "same"), talk.New(perm.Make(), "same"), begun(t, "other")
	for range 300 {
		kind, a, b := rnd.IntN(5), rnd.IntN(10), rnd.IntN(40)
		x := step(first, kind, a, b)
		step(other, rnd.IntN(5), rnd.IntN(10), rnd.IntN(40))
		if y := step(second, kind, a, b); !reflect.DeepEqual(x, y) {
			t.Fatalf("the call %d with %d, %d: %v and %v", kind, a, b, x, y)
		}
		at(t, "the same words", first, second.State())
	}
	if first.State() == other.State() {
		t.Errorf("unlike words have one state")
	}
}

// 14.5: what is asked hangs on all that was said and asked ahead.
func TestUnlikeWords(t *testing.T) {
	seen := map[api.Elem]int{}
	for i, lead := range []func(k *talk.Talk){
		func(k *talk.Talk) {},
		func(k *talk.Talk) { k.Say("", "") },
		func(k *talk.Talk) { k.Say("ask", "") },
		func(k *talk.Talk) { k.Elem(0) },
		func(k *talk.Talk) { k.Elem(7); k.Elem(7) },
		func(k *talk.Talk) { k.Say("a", "b"); k.Elem(0) },
		func(k *talk.Talk) { k.Elem(0); k.Say("a", "b") },
	} {
		k := begun(t, "name")
		lead(k)
		e := k.Elem(7)
		if before, ok := seen[e]; ok {
			t.Errorf("%d and %d are led to one element", before, i)
		}
		seen[e] = i
	}
	if begun(t, "a").Elem(7) == begun(t, "b").Elem(7) {
		t.Errorf("two names, one element")
	}
}

// R3: an answer is new memory.
func TestAnswersAreApart(t *testing.T) {
	k, other := begun(t, "apart"), begun(t, "apart")
	for range 3 {
		clear(k.Elems(7, 10))
		clear(k.Places(12, 10))
		other.Elems(7, 10)
		other.Places(12, 10)
		at(t, "what was answered is changed", k, other.State())
	}
	if !slices.Equal(k.Elems(7, 10), other.Elems(7, 10)) || !slices.Equal(k.Places(12, 10), other.Places(12, 10)) {
		t.Errorf("what is asked behind it is another")
	}
}

// Ways, 14: the calls of the tables are the transcript's own.
func TestEmbedding(t *testing.T) {
	k := begun(t, "tables")
	state := k.State()
	if k.Tables != tables {
		t.Errorf("the tables are not kept")
	}
	for b := range 256 {
		if k.Box(byte(b)) != tables.Box(byte(b)) || k.Times(3, byte(b)) != tables.Times(3, byte(b)) {
			t.Errorf("Box, Times of %d", b)
		}
	}
	s := long("s", perm.Size)
	p, e := k.P(s)
	if want, f := tables.P(s); p != want || e != f {
		t.Errorf("P: %x, %v", p, e)
	}
	if back, e := k.BackP(p); back != s || e != api.OK {
		t.Errorf("BackP: %x, %v", back, e)
	}
	at(t, "the tables' calls", k, state)
}
