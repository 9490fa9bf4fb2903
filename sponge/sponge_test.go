package sponge_test

import (
	"encoding/binary"
	"encoding/hex"
	"math"
	"math/rand/v2"
	"strings"
	"testing"

	"steeple/api"
	"steeple/perm"
	"steeple/sponge"
)

// tables are the same for all tests.
var tables = perm.Make()

// edges are lengths of texts about which something is said, and some others.
var edges = []int{0, 1, 2, 31, 32, 33, 54, 55, 56, 57, 62, 63, 64, 65, 118, 119, 120, 121, 127, 128, 183, 184, 1000}

// drawn is a text of n bytes.
func drawn(rnd *rand.Rand, n int) string {
	b := make([]byte, n)
	for i := range b {
		b[i] = byte(rnd.Uint32())
	}
	return string(b)
}

// zeros is n bytes 0.
func zeros(n int) string {
	return strings.Repeat("\x00", n)
}

// sum is texts of one length added.
func sum(a, b string) string {
	out := []byte(a)
	for i := range out {
		out[i] ^= b[i]
	}
	return string(out)
}

// modelFill puts byte behind byte.
func modelFill(s string) string {
	b := append([]byte(s), 128)
	for (len(b)+8)%64 != 0 {
		b = append(b, 0)
	}
	return string(binary.BigEndian.AppendUint64(b, uint64(len(b)+8)/64))
}

// modelPress adds what the ways make.
func modelPress(h, m string) string {
	p, _ := tables.P(sum(h, m))
	q, _ := tables.Q(m)
	return sum(sum(p, q), h)
}

// modelSum fills up, presses and closes.
func modelSum(s string) string {
	h := zeros(62) + "\x01\x00"
	for f := modelFill(s); f != ""; f = f[64:] {
		h = modelPress(h, f[:64])
	}
	p, _ := tables.P(h)
	return sum(p, h)[32:]
}

// modelStream sums the whole seed for each digest.
func modelStream(seed string, n int) string {
	var out []byte
	for i := uint32(0); len(out) < n; i++ {
		out = append(out, modelSum(string(binary.BigEndian.AppendUint32([]byte(seed), i)))...)
	}
	return string(out[:n])
}

// 11.1
func TestPressAndClose(t *testing.T) {
	rnd := rand.New(rand.NewPCG(11, 1))
	l := []string{zeros(64), strings.Repeat("\xff", 64), zeros(62) + "\x01\x00"}
	for range 20 {
		l = append(l, drawn(rnd, 64))
	}
	for _, h := range l {
		for _, m := range l {
			if got, e := sponge.Press(tables, h, m); e != api.OK || got != modelPress(h, m) {
				t.Errorf("Press(%x, %x): %x, %v", h, m, got, e)
			}
		}
		p, _ := tables.P(h)
		if got, e := sponge.Close(tables, h); e != api.OK || got != sum(p, h)[32:] || len(got) != api.Digest {
			t.Errorf("Close(%x): %x, %v", h, got, e)
		}
	}
}

// 11.1: the errors, and that nil tables are told first.
func TestPressErrors(t *testing.T) {
	lengths := []int{0, 1, 32, 63, 64, 65, 128, 4096}
	for i, p := range []*perm.Tables{nil, tables} {
		want := func(right bool) api.Errno {
			switch {
			case i == 0:
				return api.ErrArg
			case !right:
				return api.ErrSize
			}
			return api.OK
		}
		for _, a := range lengths {
			for _, b := range lengths {
				got, e := sponge.Press(p, zeros(a), zeros(b))
				if e != want(a == 64 && b == 64) || (got == "") != (e != api.OK) {
					t.Errorf("Press of %d and %d bytes: %x, %v", a, b, got, e)
				}
			}
			got, e := sponge.Close(p, zeros(a))
			if e != want(a == 64) || (got == "") != (e != api.OK) {
				t.Errorf("Close of %d bytes: %x, %v", a, got, e)
			}
		}
	}
}

// 11.1
func TestFill(t *testing.T) {
	if got := sponge.Fill(""); got != "\x80"+zeros(62)+"\x01" {
		t.Errorf("Fill of nothing: %x", got)
	}
	rnd := rand.New(rand.NewPCG(11, 2))
	for n := range 400 {
		s := drawn(rnd, n)
		if got := sponge.Fill(s); got != modelFill(s) {
			t.Errorf("Fill(%x): %x", s, got)
		}
	}
	// From 256 blocks on the number has a second byte; a text may be longer than what is summed.
	for _, n := range []int{255*64 + 55, 255*64 + 56, 256*64 + 55, 256*64 + 56, api.MaxText - 9, api.MaxText - 8, api.MaxText, api.MaxText + 1, 3 * api.MaxText} {
		s := strings.Repeat("y", n)
		if sponge.Fill(s) != modelFill(s) {
			t.Errorf("Fill of %d bytes: the last are %x", n, sponge.Fill(s)[n:])
		}
	}
}

// 11.3: each text that is filled up says where it ends.
func TestFilledTextsAreApart(t *testing.T) {
	from := map[string]string{}
	for n := range 200 {
		for _, end := range []string{"", "\x80", "\x80\x00", "\x00", "\x01"} {
			s := zeros(n) + end
			f := sponge.Fill(s)
			if before, ok := from[f]; ok && before != s {
				t.Errorf("%x and %x are filled up to one", before, s)
			}
			from[f] = s
			back := strings.TrimRight(f[:len(f)-8], "\x00")
			if back[:len(back)-1] != s || binary.BigEndian.Uint64([]byte(f[len(f)-8:])) != uint64(len(f)/64) {
				t.Errorf("Fill(%x) does not say where it ends: %x", s, f)
			}
		}
	}
}

// 11.1
func TestBlocks(t *testing.T) {
	for n, want := range map[int]int{0: 1, 55: 1, 56: 2, 63: 2, 64: 2, 119: 2, 120: 3, api.MaxText - 9: 16384, api.MaxText - 8: 16385, api.MaxText: 16385} {
		if got := sponge.Blocks(n); got != want {
			t.Errorf("Blocks(%d): %d, not %d", n, got, want)
		}
	}
	for n := range 500 {
		if got := sponge.Blocks(n); got != len(modelFill(zeros(n)))/64 {
			t.Errorf("Blocks(%d): %d", n, got)
		}
	}
	for _, n := range []int{-1, -55, -64, -65, math.MinInt32, math.MinInt, api.MaxText + 1, 2 * api.MaxText, math.MaxInt32, math.MaxInt - 8, math.MaxInt} {
		if got := sponge.Blocks(n); got != 0 {
			t.Errorf("Blocks(%d): %d", n, got)
		}
	}
}

// 11.2: some digests, byte by byte.
func TestKnownDigests(t *testing.T) {
	for _, x := range []struct{ what, got, want string }{
		{"nothing", sponge.Sum(tables, ""), "f2e2ef642c824b214ae1ecc0fc460f750cecceb3b50d12a533544dea34bc3eab"},
		{"abc", sponge.Sum(tables, "abc"), "162871d363e35bcac71fb3def52a07fa756fb1321fff96d058f0e6439e446592"},
		{"55 a", sponge.Sum(tables, strings.Repeat("a", 55)), "45d078af3bd005752278f1f2335b4203bf05ecc2c6766dc694794da62f0d5736"},
		{"56 a", sponge.Sum(tables, strings.Repeat("a", 56)), "664e8487139eb9adade2409c733863a9b2a7d4b90b6fa5b6b91c028a604ceed9"},
		{"63 a", sponge.Sum(tables, strings.Repeat("a", 63)), "810c601f69f86c97bf7e0425450b3fc2e01cf3e19d266773ce7e00bbd5d18714"},
		{"64 a", sponge.Sum(tables, strings.Repeat("a", 64)), "4653901e843752bbd8976134dbc273bcefca5fdd2fe18f669369924103ce6f45"},
		{"119 a", sponge.Sum(tables, strings.Repeat("a", 119)), "1dd0edeeb3d907c22a88c3853f6b3f715e6ba803fb89420c30ecbee03d933dff"},
		{"120 a", sponge.Sum(tables, strings.Repeat("a", 120)), "bd270020ab65bf54cca5c7a0411026e9a7f31fe1bb48b559fd57ebe374f230e4"},
		{"the parts a, b", sponge.Parts(tables, "a", "b"), "3c179357f109d9133d192cb4015d64f650c6770168ba776c53a01c2ccea60bb7"},
		{"no parts", sponge.Parts(tables), "c05ed2878d4ef156c541f24c954a92aafa6c38a73525b54ccf16e76ba67e5996"},
		{"the stream of seed", sponge.Stream(tables, "seed", 70), "337773baaeff147901f515d6d9a617bd3faaed61307b2c46137fdc4b3d3690379e43e84966bd6cb7101d459326ad16e1b8384ee7378a82ea3d37fc6353b1de3788012f3e30ba"},
	} {
		if hex.EncodeToString([]byte(x.got)) != x.want {
			t.Errorf("%s: %x", x.what, x.got)
		}
	}
}

// 11.2
func TestSum(t *testing.T) {
	rnd := rand.New(rand.NewPCG(11, 3))
	seen := map[string]string{}
	for _, n := range edges {
		for _, s := range []string{zeros(n), drawn(rnd, n)} {
			got := sponge.Sum(tables, s)
			if got != modelSum(s) || len(got) != api.Digest {
				t.Errorf("Sum(%x): %x", s, got)
			}
			if before, ok := seen[got]; ok && before != s {
				t.Errorf("%x and %x have one digest", before, s)
			}
			seen[got] = s
			if sponge.Sum(nil, s) != "" {
				t.Errorf("Sum(%x) with nil tables: %x", s, sponge.Sum(nil, s))
			}
		}
	}
	long := strings.Repeat("z", api.MaxText+1)
	if sponge.Sum(tables, long[1:]) != modelSum(long[1:]) {
		t.Errorf("Sum of as many bytes as there may be: %x", sponge.Sum(tables, long[1:]))
	}
	if sponge.Sum(tables, long) != "" || sponge.Sum(nil, long) != "" {
		t.Errorf("Sum of one byte too many: %x", sponge.Sum(tables, long))
	}
}

// list is a list of texts as bytes: how many, then each with its length ahead.
func list(l []string) string {
	out := binary.BigEndian.AppendUint32(nil, uint32(len(l)))
	for _, s := range l {
		out = binary.BigEndian.AppendUint32(out, uint32(len(s)))
		out = append(out, s...)
	}
	return string(out)
}

// 11.2
func TestParts(t *testing.T) {
	seen := map[string]int{}
	for i, l := range [][]string{
		nil, {""}, {"", ""}, {"", "", ""}, {"abc"}, {"a", "bc"}, {"ab", "c"}, {"", "abc"}, {"abc", ""}, {"a", "", "bc"}, {"a", "b", "c"}, {"c", "b", "a"},
		{zeros(47)}, {zeros(48)}, {zeros(1000), zeros(1000)},
	} {
		got := sponge.Parts(tables, l...)
		if got != modelSum(list(l)) {
			t.Errorf("Parts(%q): %x", l, got)
		}
		if before, ok := seen[got]; ok {
			t.Errorf("the lists %d and %d have one digest", before, i)
		}
		seen[got] = i
		if sponge.Parts(nil, l...) != "" {
			t.Errorf("Parts(%q) with nil tables: %x", l, sponge.Parts(nil, l...))
		}
	}
	if sponge.Parts(tables, []string{}...) != sponge.Parts(tables) {
		t.Errorf("an empty list is not like none")
	}
	// A list has four bytes, and four more for each text.
	long := strings.Repeat("z", api.MaxText-7)
	if sponge.Parts(tables, long[1:]) != modelSum(list([]string{long[1:]})) || sponge.Parts(tables, long) != "" {
		t.Errorf("Parts of a long text: %x, %x", sponge.Parts(tables, long[1:]), sponge.Parts(tables, long))
	}
	if sponge.Parts(tables, long[5:], "") == "" || sponge.Parts(tables, long[5:], "x") != "" || sponge.Parts(nil, long) != "" {
		t.Errorf("Parts of long texts")
	}
}

// 11.2: what is handed over is not changed.
func TestPartsKeepsItsList(t *testing.T) {
	l := []string{"a", "", "bc"}
	first := sponge.Parts(tables, l...)
	if l[0] != "a" || l[1] != "" || l[2] != "bc" || sponge.Parts(tables, l...) != first {
		t.Errorf("Parts: %q", l)
	}
}

// 11.2, 11.3
func TestStream(t *testing.T) {
	rnd := rand.New(rand.NewPCG(11, 4))
	for _, long := range append(edges, 50, 51, 52, 53, 59, 60, 61, 115, 116, 123, 124) {
		seed := drawn(rnd, long)
		whole := modelStream(seed, 200)
		for _, n := range []int{0, 1, 31, 32, 33, 63, 64, 65, 70, 96, 199, 200} {
			if got := sponge.Stream(tables, seed, n); got != whole[:n] {
				t.Errorf("Stream(%x, %d): %x", seed, n, got)
			}
		}
	}
}

// 11.2
func TestStreamErrors(t *testing.T) {
	for _, n := range []int{math.MinInt, math.MinInt32, -32, -1, api.MaxText + 1, api.MaxText + 32, math.MaxInt32, math.MaxInt} {
		for _, p := range []*perm.Tables{nil, tables} {
			if got := sponge.Stream(p, "seed", n); got != "" {
				t.Errorf("Stream of %d bytes: %d", n, len(got))
			}
		}
	}
	for _, n := range []int{0, 1, 32, api.MaxText} {
		if got := sponge.Stream(nil, "seed", n); got != "" {
			t.Errorf("Stream with nil tables: %x", got)
		}
	}
	seed := strings.Repeat("s", api.MaxText-3)
	if got := sponge.Stream(tables, seed, 32); got != "" {
		t.Errorf("Stream of a seed that is too long: %x", got)
	}
	if got := sponge.Stream(tables, seed[1:], 33); got != modelStream(seed[1:], 33) {
		t.Errorf("Stream of a seed that is as long as may be: %x", got)
	}
}

// 11.2, 11.3: as many bytes as may be drawn; from the digest 256 on, the number has a second byte.
func TestLongStream(t *testing.T) {
	got := sponge.Stream(tables, "seed", api.MaxText)
	if len(got) != api.MaxText || got[:300*32] != modelStream("seed", 300*32) {
		t.Fatalf("Stream of as much as may be: %d bytes", len(got))
	}
	last := modelSum("seed\x00\x00\x7f\xff")
	if got[api.MaxText-32:] != last || sponge.Stream(tables, "seed", api.MaxText-1) != got[:api.MaxText-1] {
		t.Errorf("the last digest: %x, not %x", got[api.MaxText-32:], last)
	}
}

// 11.2: the longest stream of the longest seed, which is only summed in time where the seed is pressed once.
func TestLongStreamOfLongSeed(t *testing.T) {
	seed := strings.Repeat("s", api.MaxText-4)
	got := sponge.Stream(tables, seed, api.MaxText)
	if len(got) != api.MaxText || got[api.MaxText-32:] != modelSum(seed+"\x00\x00\x7f\xff") {
		t.Errorf("Stream: %d bytes", len(got))
	}
}
