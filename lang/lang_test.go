package lang_test

import (
	"math"
	"math/rand/v2"
	"slices"
	"strings"
	"testing"
	"unicode/utf8"

	"steeple/api"
	"steeple/circuit"
	"steeple/lang"
)

// isLetter tells whether a rune is a letter.
func isLetter(r rune) bool {
	return strings.ContainsRune("abcdefghijklmnopqrstuvwxyzαβγδεζηθικλμνξοπρςστυφχψω", r)
}

// isName tells whether a text is a name, by its runes.
func isName(s string) bool {
	runes := []rune(s)
	return utf8.ValidString(s) && len(runes) >= 1 && len(runes) <= 8 && !slices.ContainsFunc(runes, func(r rune) bool { return !isLetter(r) })
}

// 26.1: of all runes just 26 and 25 are letters.
func TestLetters(t *testing.T) {
	letters := 0
	for r := rune(0); r <= utf8.MaxRune; r++ {
		want := isLetter(r)
		if lang.Name(string(r)) != want || lang.Name("a"+string(r)) != want || lang.Name(string(r)+"ω") != want {
			t.Errorf("Name of the rune %d", r)
		}
		if want {
			letters++
		}
	}
	if letters != 26+25 {
		t.Errorf("%d letters", letters)
	}
	for r, want := range map[rune]bool{'a' - 1: false, 'a': true, 'z': true, 'z' + 1: false, 944: false, 945: true, 962: true, 969: true, 970: false, 'A': false, 'Z': false, 'Α': false, 'Ω': false, '0': false, '_': false, ' ': false, '\n': false, 0: false, utf8.RuneError: false} {
		if lang.Name(string(r)) != want {
			t.Errorf("Name of the rune %d", r)
		}
	}
}

// 26.1: names of no letters, of 8 and of 9, of one byte and of two.
func TestLengths(t *testing.T) {
	if lang.MaxName != 8 {
		t.Errorf("MaxName: %d", lang.MaxName)
	}
	for n := range 40 {
		for _, letter := range []string{"a", "z", "α", "ω"} {
			if lang.Name(strings.Repeat(letter, n)) != (n >= 1 && n <= 8) {
				t.Errorf("Name of %d times %s", n, letter)
			}
		}
		if n < 12 && lang.Name("xα"[:min(n, 3)]+strings.Repeat("y", max(0, n-3))) != (n != 0 && n != 2 && n <= 9) {
			t.Errorf("Name of %d bytes", n)
		}
	}
	if lang.Name(strings.Repeat("a", 1<<20)) {
		t.Error("Name of many letters")
	}
}

// 26.1: what is no UTF-8 is no name.
func TestNoUTF8(t *testing.T) {
	for _, s := range []string{"\xff", "a\xff", "\xffa", "\xce", "\xb1", "\xceα", "α\xce", "\xb1\xce", "\xce\xce\xb1", "\xc1\xa1", "\xe0\x81\xa1", "\xe0\x8e\xb1", "\xf0\x80\x81\xa1", "\xed\xa0\x80", "\xf4\x90\x80\x80", "\xef\xbf\xbd", "a\xef\xbf\xbd", "aaaaaaaa\xff"} {
		if lang.Name(s) {
			t.Errorf("Name(%q)", s)
		}
	}
	names := 0
	for a := range 256 {
		for b := range 256 {
			s := string([]byte{byte(a), byte(b)})
			if lang.Name(s) != isName(s) {
				t.Errorf("Name(%q)", s)
			}
			if isName(s) {
				names++
			}
		}
	}
	if names != 26*26+25 {
		t.Errorf("%d names of two bytes", names)
	}
}

// 26.1: drawn texts of bytes that names are made of, and some others.
func TestDrawnNames(t *testing.T) {
	rnd := rand.New(rand.NewPCG(26, 1))
	parts := []string{"a", "m", "z", "α", "ς", "ω", "x", "θ", "b", "\xce", "1", "Ω"}
	yes := 0
	for range 20000 {
		s := ""
		for range rnd.IntN(11) {
			s += parts[rnd.IntN(len(parts)-rnd.IntN(4))]
		}
		if lang.Name(s) != isName(s) {
			t.Errorf("Name(%q)", s)
		}
		if isName(s) {
			yes++
		}
	}
	if yes < 2000 {
		t.Errorf("%d names only", yes)
	}
}

// eight is a system with a gate of each kind, and its names.
func eight() (api.System, []string) {
	return api.System{Wide: 3, Rows: 2, Cols: 4, Public: 2, Private: 1, Gates: []api.Gate{
		{Kind: api.GateXor, Dst: 3, A: 0, B: 1},
		{Kind: api.GateAnd, Dst: 4, A: 2, B: 3},
		{Kind: api.GateNot, Dst: 5, A: 4},
		{Kind: api.GateLeft, Dst: 6, A: 5, S: 1},
		{Kind: api.GateRight, Dst: 7, A: 1, S: 7},
		{Kind: api.GateRound, Dst: 8, A: 7},
		{Kind: api.GateAdd, Dst: 9, A: 8, B: 6, S: 10},
		{Kind: api.GateSame, A: 10, B: 0},
	}}, []string{"α", "bb", "ωωωωωωωω", "d", "e", "f", "g", "h", "i", "sum", "k"}
}

const eightText = "words 3\nrows 2\ncolumns 4\npublic α bb\nprivate ωωωωωωωω\nd = α ^ bb\ne = ωωωωωωωω & d\nf = ~ e\ng = f << 1\nh = bb >> 7\ni = h <<< 0\nsum = i + g carry k\nk == α\n"

// 26.1, 26.2: a gate of each kind, written and read.
func TestEachKind(t *testing.T) {
	s, names := eight()
	prints(t, s, names, eightText)
}

// same tells whether two systems are the same.
func same(a, b api.System) bool {
	return a.Wide == b.Wide && a.Rows == b.Rows && a.Cols == b.Cols && a.Public == b.Public && a.Private == b.Private && slices.Equal(a.Gates, b.Gates)
}

// prints asks whether a system is written so, and read again.
func prints(t *testing.T, s api.System, names []string, want string) {
	t.Helper()
	before := s
	before.Gates = slices.Clone(s.Gates)
	calledBefore := slices.Clone(names)
	text, e := lang.Print(s, names)
	if e != api.OK || text != want {
		t.Fatalf("Print(%v, %q): %q, %v, not %q", s, names, text, e, want)
	}
	if !same(s, before) || !slices.Equal(names, calledBefore) {
		t.Errorf("Print has changed %v, %q", before, calledBefore)
	}
	got, called, e := lang.Read(text)
	if e != api.OK || !same(got, s) || !slices.Equal(called, names) {
		t.Errorf("Read(%q): %v, %q, %v", text, got, called, e)
	}
}

// 26.1, 26.2: no public columns, no private ones, none at all; numbers of two digits; the document's example.
func TestHeads(t *testing.T) {
	prints(t, api.System{}, nil, "words 0\nrows 0\ncolumns 0\npublic\nprivate\n")
	prints(t, api.System{Gates: []api.Gate{}}, []string{}, "words 0\nrows 0\ncolumns 0\npublic\nprivate\n")
	prints(t, api.System{Wide: 5, Rows: 4, Cols: 6}, nil, "words 5\nrows 4\ncolumns 6\npublic\nprivate\n")
	prints(t, api.System{Public: 1}, []string{"a"}, "words 0\nrows 0\ncolumns 0\npublic a\nprivate\n")
	prints(t, api.System{Private: 1}, []string{"a"}, "words 0\nrows 0\ncolumns 0\npublic\nprivate a\n")
	prints(t, api.System{Cols: 2, Public: 3, Private: 1}, []string{"x", "y", "z", "a"}, "words 0\nrows 0\ncolumns 2\npublic x y z\nprivate a\n")
	prints(t, api.System{Wide: 5, Cols: 1, Public: 1, Gates: []api.Gate{{Kind: api.GateRight, Dst: 1, S: 31}}}, []string{"a", "b"}, "words 5\nrows 0\ncolumns 1\npublic a\nprivate\nb = a >> 31\n")
	prints(t, api.System{Wide: 5, Cols: 1, Public: 1, Gates: []api.Gate{{Kind: api.GateLeft, Dst: 1, S: 10}}}, []string{"a", "b"}, "words 5\nrows 0\ncolumns 1\npublic a\nprivate\nb = a << 10\n")
	prints(t, api.System{Wide: 2, Cols: 2, Public: 1, Private: 1, Gates: []api.Gate{{Kind: api.GateAnd, Dst: 2, A: 0, B: 1}}}, []string{"α", "β", "γ"}, "words 2\nrows 0\ncolumns 2\npublic α\nprivate β\nγ = α & β\n")
}

// 26.1, 26.2: the words that lines are made of are names, too.
func TestNamesLikeWords(t *testing.T) {
	s, _ := eight()
	prints(t, s, []string{"public", "private", "carry", "words", "rows", "columns", "a", "b", "c", "and", "or"},
		"words 3\nrows 2\ncolumns 4\npublic public private\nprivate carry\nwords = public ^ private\nrows = carry & words\ncolumns = ~ rows\na = columns << 1\nb = private >> 7\nc = b <<< 0\nand = c + a carry or\nor == public\n")
	prints(t, api.System{Wide: 1, Cols: 2, Public: 1, Gates: []api.Gate{{Kind: api.GateAdd, Dst: 1, S: 2}}}, []string{"k", "carry", "rows"},
		"words 1\nrows 0\ncolumns 2\npublic k\nprivate\ncarry = k + k carry rows\n")
}

// refuses asks whether Print answers an error alone.
func refuses(t *testing.T, s api.System, names []string, want api.Errno) {
	t.Helper()
	if text, e := lang.Print(s, names); e != want || text != "" {
		t.Errorf("Print(%v, %q): %q, %v, not %v", s, names, text, e, want)
	}
}

// 26.1: circuit's errors, ahead of all that is wrong with names.
func TestPrintOfWhatMayNotBe(t *testing.T) {
	s, names := eight()
	for _, x := range []struct {
		put  func(s *api.System)
		want api.Errno
	}{
		{func(s *api.System) { s.Wide = 6 }, api.ErrArg},
		{func(s *api.System) { s.Public = -1 }, api.ErrArg},
		{func(s *api.System) { s.Public = math.MaxInt }, api.ErrArg},
		{func(s *api.System) { s.Gates = make([]api.Gate, 31) }, api.ErrLong},
		{func(s *api.System) { s.Gates[0].Kind = 9 }, api.ErrForm},
		{func(s *api.System) { s.Gates[0].Kind = 0 }, api.ErrForm},
		{func(s *api.System) { s.Gates[2].A = 5 }, api.ErrNone},
		{func(s *api.System) { s.Gates[2].A = -1 }, api.ErrNone},
		{func(s *api.System) { s.Gates[3].S = 8 }, api.ErrArg},
		{func(s *api.System) { s.Gates[3].Dst = 60 }, api.ErrForm},
		{func(s *api.System) { s.Cols = 3 }, api.ErrLong},
	} {
		bad := s
		bad.Gates = slices.Clone(s.Gates)
		x.put(&bad)
		if circuit.Check(bad) != x.want {
			t.Fatalf("%v", bad)
		}
		for _, l := range [][]string{names, nil, names[1:], append(slices.Clone(names), "x"), make([]string, 11), slices.Repeat([]string{"a"}, 11)} {
			refuses(t, bad, l, x.want)
		}
	}
}

// put is a list with another member at a place.
func put[T any](l []T, i int, x T) []T {
	out := slices.Clone(l)
	out[i] = x
	return out
}

// 26.1: too few and too many names, names that are none, and that are twice; which error comes first.
func TestWrongNames(t *testing.T) {
	s, names := eight()
	for n := range names {
		refuses(t, s, names[:n], api.ErrSize)
		refuses(t, s, put(names, n, "A")[:10], api.ErrSize)
		refuses(t, s, append(put(names, n, "A"), "x"), api.ErrSize)
	}
	refuses(t, s, append(slices.Clone(names), "x"), api.ErrSize)
	refuses(t, s, append(slices.Clone(names), names[0]), api.ErrSize)
	refuses(t, api.System{}, []string{"a"}, api.ErrSize)
	refuses(t, api.System{Public: 1}, nil, api.ErrSize)
	for i := range names {
		for _, wrong := range []string{"", "A", "abcdefghi", "a b", "a\n", " ", "1", "=", "\xff", "Ω"} {
			refuses(t, s, put(names, i, wrong), api.ErrName)
		}
		for k := range names {
			if i == k {
				continue
			}
			refuses(t, s, put(names, i, names[k]), api.ErrTwice)
			// The one that stands first is told, of whichever kind.
			at := max(i, k)
			twice := put(names, i, names[k])
			for m := range names {
				want := api.ErrTwice
				if m <= at {
					want = api.ErrName
				}
				if m == i || m == k {
					// What stood twice stands there once.
					want = api.ErrName
				}
				refuses(t, s, put(twice, m, "x1"), want)
			}
		}
	}
	// What is no name, twice, is no name.
	refuses(t, s, put(put(names, 3, "X"), 4, "X"), api.ErrName)
	refuses(t, s, make([]string, 11), api.ErrName)
}
