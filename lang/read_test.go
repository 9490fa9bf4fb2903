package lang_test

import (
	"fmt"
	"math/rand/v2"
	"regexp"
	"slices"
	"strconv"
	"strings"
	"testing"

	"steeple/api"
	"steeple/circuit"
	"steeple/lang"
)

// refusesText asks whether Read answers an error alone.
func refusesText(t *testing.T, text string, want api.Errno) {
	t.Helper()
	s, names, e := lang.Read(text)
	if e != want || !same(s, api.System{}) || len(names) != 0 {
		t.Errorf("Read(%.200q): %v, %q, %v, not %v", text, s, names, e, want)
	}
}

// 26.2: a text of as many bytes as may be, and of one more.
func TestLongTexts(t *testing.T) {
	for _, fill := range []string{"x", "\n", " ", "a ", "a\n", "a == a\n", "α"} {
		long := strings.Repeat(fill, api.MaxText/len(fill)+1)
		refusesText(t, long[:api.MaxText+1], api.ErrLong)
		refusesText(t, long[:api.MaxText], api.ErrForm)
		refusesText(t, (eightText + long)[:api.MaxText], api.ErrForm)
		refusesText(t, (eightText + long)[:api.MaxText+1], api.ErrLong)
		refusesText(t, ("words 0\nrows 0\ncolumns 0\npublic " + long)[:api.MaxText-9]+"\nprivate\n", api.ErrForm)
	}
	refusesText(t, strings.Repeat("\x00", 1<<22), api.ErrLong)
	refusesText(t, strings.Repeat("\xff", 1<<20), api.ErrForm)
}

// 26.2: a line too few, too many, twice, or in another order.
func TestLines(t *testing.T) {
	lines := strings.SplitAfter(eightText, "\n")
	lines = lines[:len(lines)-1]
	for i := range lines {
		// Each gate but the last one makes what another one needs.
		if got, _, e := lang.Read(strings.Join(slices.Delete(slices.Clone(lines), i, i+1), "")); (e == api.OK) != (i == len(lines)-1) {
			t.Errorf("without the line %d: %v, %v", i, got, e)
		}
		if i < 12 {
			refusesText(t, strings.Join(slices.Insert(slices.Clone(lines), i, lines[i]), ""), api.ErrForm)
		}
		refusesText(t, strings.Join(slices.Insert(slices.Clone(lines), i, "\n"), ""), api.ErrForm)
		for k := range i {
			swapped := slices.Clone(lines)
			swapped[i], swapped[k] = lines[k], lines[i]
			text := strings.Join(swapped, "")
			_, _, want := strict(text)
			if _, _, e := lang.Read(text); e != want {
				t.Errorf("%q: %v, not %v", text, e, want)
			}
			if k < 5 {
				refusesText(t, text, api.ErrForm)
			}
		}
	}
	// Each beginning of it.
	for n := range len(eightText) {
		_, _, want := strict(eightText[:n])
		if _, _, e := lang.Read(eightText[:n]); e != want {
			t.Errorf("%q: %v, not %v", eightText[:n], e, want)
		}
	}
	refusesText(t, eightText+"\n", api.ErrForm)
	refusesText(t, "\n"+eightText, api.ErrForm)
	refusesText(t, eightText+eightText, api.ErrForm)
	refusesText(t, strings.TrimSuffix(eightText, "\n"), api.ErrForm)
	refusesText(t, "", api.ErrForm)
	refusesText(t, "\n\n\n\n\n", api.ErrForm)
	refusesText(t, "words 0\nrows 0\ncolumns 0\npublic\nprivate", api.ErrForm)
	refusesText(t, "words 0\nrows 0\ncolumns 0\npublic\n", api.ErrForm)
}

// 26.2: as many gates as may be, and one more.
func TestManyGates(t *testing.T) {
	head := "words 0\nrows 0\ncolumns 5\npublic a\nprivate\n"
	for n := range 33 {
		text := head + strings.Repeat("a == a\n", n)
		s, names, e := lang.Read(text)
		if n > circuit.MaxGates {
			refusesText(t, text, api.ErrForm)
		} else if e != api.OK || len(s.Gates) != n || !slices.Equal(names, []string{"a"}) {
			t.Errorf("%d gates: %v, %q, %v", n, s, names, e)
		}
	}
}

// 26.2: what is almost a text.
func TestAlmostTexts(t *testing.T) {
	for _, x := range []struct{ old, new string }{
		// Numbers.
		{"words 3", "words 03"}, {"words 3", "words +3"}, {"words 3", "words 3.0"}, {"words 3", "words 0x3"}, {"words 3", "words -3"}, {"words 3", "words"}, {"words 3", "words "},
		{"words 3", "words three"}, {"words 3", "words 3 3"}, {"words 3", "words 6"}, {"words 3", "words ٣"}, {"words 3", "words 18446744073709551619"}, {"words 3", "words 1_1"},
		{"rows 2", "rows 00"}, {"rows 2", "rows -0"}, {"rows 2", "rows 5"}, {"rows 2", "rows -1"}, {"rows 2", "rows 02"}, {"rows 2", "rows"}, {"rows 2", "rows 2 "},
		{"columns 4", "columns 04"}, {"columns 4", "columns 3"}, {"columns 4", "columns 7"}, {"columns 4", "columns 4\r"}, {"columns 4", "columns\t4"},
		{"<< 1", "<< 01"}, {"<< 1", "<< 8"}, {"<< 1", "<< -1"}, {"<< 1", "<< a"}, {"<< 1", "<< α"}, {"<< 1", "<< "}, {"<< 1", "<<"}, {"<< 1", "<< 1 1"}, {"<<< 0", "<<< 00"}, {"<<< 0", "<<< -0"}, {"<<< 0", "<<< +0"}, {">> 7", ">> 07"}, {">> 7", ">> 8"},
		// Words and signs.
		{"words", "word"}, {"words", "Words"}, {"rows", "words"}, {"columns", "cols"}, {"public α", "private α"}, {"public α", "public= α"}, {"private", "public"}, {"private ω", "ω"},
		{"= α ^", "= α &&"}, {"= α ^", "= α <<<<"}, {"= α ^", "= α +"}, {"= α ^", "= α =="}, {"= α ^", "= α ~"}, {"= α ^", "α ^"}, {"= α ^", "== α ^"}, {"= α ^", "= α "}, {"= α ^", "= α xor"},
		{"= ~", "= !"}, {"= ~", "== ~"}, {"= ~", "= "}, {"= ~ e", "= ~e"}, {"= ~ e", "~ = e"}, {"= ~", "= ~ ~"},
		{">> 7", ">>> 7"}, {"carry", "and"}, {"carry k", "carry"}, {"carry k", ""}, {"carry k", "k carry"}, {" + g", " + "}, {"+ g", "^ g"}, {"+ g carry", "+ carry g"},
		{"k ==", "k ="}, {"k ==", "k ==="}, {"k == α", "k == α α"}, {"k == α", "k =="}, {"k == α", "k α"}, {"k == α", "== k α"},
		// Blanks.
		{"words 3", "words  3"}, {"words 3", " words 3"}, {"words 3", "words 3 "}, {"public α", "public  α"}, {"α bb\n", "α bb \n"}, {"public α bb", "public α  bb"}, {"private", "private "}, {"d = α", "d  = α"}, {"d = α", "d = α "}, {"d = α", "\td = α"}, {"d = α", "d =\u00a0α"},
		{"\nd = ", "\n d = "}, {"^ bb\n", "^ bb \n"}, {"f = ~ e", "f = ~  e"}, {"k == α", "k  == α"}, {"k == α\n", "k == α \n"}, {"k == α", "k\t==\tα"},
		// Line feeds.
		{"words 3\n", "words 3\r\n"}, {"words 3\n", "words 3 "}, {"words 3\n", "words 3\n\n"}, {"public α bb\n", "public α\nbb\n"}, {"d = α", "d =\nα"}, {"k == α\n", "k == α"}, {"k == α\n", "k == α\n\n"}, {"k == α\n", "k == α\r\n"}, {"k == α\n", "k == α\x00"}, {"k == α\n", "k == α\n\x00"}, {"k == α\n", "k == α\n "}, {"k == α\n", "k == α\nk"},
		// Names that are none, that are not known, or not yet, or twice.
		{"public α bb", "public α BB"}, {"public α bb", "public α b1"}, {"public α", "public Ω"}, {"public α bb", "public α α"}, {"public α bb", "public bb α bb"}, {"private ω", "private bb ω"}, {"private ωωωωωωωω", "private ωωωωωωωωω"},
		{"d = α", "α = α"}, {"d = α", "bb = α"}, {"d = α", "d = d"}, {"d = α", "d = e"}, {"d = α", "d = x"}, {"d = α ^ bb", "d = α ^ d"}, {"d = α ^ bb", "d = α ^ 1"}, {"d = α ^ bb", "d = α ^ sum"}, {"d = α", "D = α"}, {"d = α", "abcdefghi = α"}, {"d = α", "1 = α"}, {"d = α", " = α"},
		{"f = ~ e", "f = ~ f"}, {"f = ~ e", "f = ~ q"}, {"f = ~ e", "e = ~ e"}, {"f = ~ e", "f = ~ g"}, {"f << 1", "g << 1"}, {"f << 1", "h << 1"}, {"f << 1", "q << 1"}, {"f << 1", "1 << f"},
		{"sum = i", "sum = sum"}, {"sum = i", "sum = k"}, {"sum = i", "k = i"}, {"i + g", "i + k"}, {"i + g", "i + sum"}, {"carry k", "carry sum"}, {"carry k", "carry i"}, {"carry k", "carry K"}, {"carry k", "carry α"}, {"k == α", "q == α"}, {"k == α", "k == q"}, {"k == α", "k == 1"},
	} {
		if strings.Count(eightText, x.old) == 0 {
			t.Fatalf("no %q in the text", x.old)
		}
		text := strings.Replace(eightText, x.old, x.new, 1)
		refusesText(t, text, api.ErrForm)
		if _, _, e := strict(text); e != api.ErrForm {
			t.Errorf("%q may be", text)
		}
	}
}

const aName, aNumber = `([a-zα-ω]{1,8})`, `(0|[1-9][0-9]*)`

// heads are what the lines ahead of the gates must be.
var heads = forms("words "+aNumber, "rows "+aNumber, "columns "+aNumber, `public((?: [a-zα-ω]{1,8})*)`, `private((?: [a-zα-ω]{1,8})*)`)

// gates are what the line of each kind of gate must be, by their numbers less 1.
var gates = forms(
	aName+` = `+aName+` \^ `+aName, aName+` = `+aName+` & `+aName, aName+` = ~ `+aName,
	aName+` = `+aName+` << `+aNumber, aName+` = `+aName+` >> `+aNumber, aName+` = `+aName+` <<< `+aNumber,
	aName+` = `+aName+` \+ `+aName+` carry `+aName, aName+` == `+aName)

// forms are what whole lines must be.
func forms(l ...string) []*regexp.Regexp {
	var out []*regexp.Regexp
	for _, form := range l {
		out = append(out, regexp.MustCompile(`\A`+form+`\z`))
	}
	return out
}

// strict reads a text by what each line must be, and holds the system against circuit.
func strict(text string) (api.System, []string, api.Errno) {
	lines := strings.Split(text, "\n")
	if len(lines) < 6 || lines[len(lines)-1] != "" {
		return api.System{}, nil, api.ErrForm
	}
	var s api.System
	var names []string
	for i, line := range lines[:5] {
		m := heads[i].FindStringSubmatch(line)
		if m == nil {
			return api.System{}, nil, api.ErrForm
		}
		n := number(m[1])
		if i >= 3 {
			l := strings.Fields(m[1])
			names, n = append(names, l...), len(l)
		}
		*[]*int{&s.Wide, &s.Rows, &s.Cols, &s.Public, &s.Private}[i] = n
	}
	for _, line := range lines[5 : len(lines)-1] {
		g, made := strictGate(line, names)
		if g.Kind == 0 {
			return api.System{}, nil, api.ErrForm
		}
		s.Gates, names = append(s.Gates, g), append(names, made...)
	}
	sorted := slices.Sorted(slices.Values(names))
	if circuit.Check(s) != api.OK || len(slices.Compact(sorted)) != len(names) {
		return api.System{}, nil, api.ErrForm
	}
	return s, names, api.OK
}

// strictGate is the gate of a line, of the kind 0, if it is none, and the names of what it makes.
func strictGate(line string, names []string) (api.Gate, []string) {
	for i, form := range gates {
		m := form.FindStringSubmatch(line)
		if m == nil {
			continue
		}
		col := func(k int) int { return slices.Index(names, m[k]) }
		switch kind := i + 1; kind {
		case api.GateXor, api.GateAnd:
			return api.Gate{Kind: kind, Dst: len(names), A: col(2), B: col(3)}, m[1:2]
		case api.GateNot:
			return api.Gate{Kind: kind, Dst: len(names), A: col(2)}, m[1:2]
		case api.GateLeft, api.GateRight, api.GateRound:
			return api.Gate{Kind: kind, Dst: len(names), A: col(2), S: number(m[3])}, m[1:2]
		case api.GateAdd:
			return api.Gate{Kind: kind, Dst: len(names), A: col(2), B: col(3), S: len(names) + 1}, []string{m[1], m[4]}
		case api.GateSame:
			return api.Gate{Kind: kind, A: col(1), B: col(2)}, nil
		}
	}
	return api.Gate{}, nil
}

// number is a number that is not too great, else -1.
func number(digits string) int {
	n, err := strconv.Atoi(digits)
	if err != nil {
		return -1
	}
	return n
}

// drawn is a system that may be, and names for it.
func drawn(rnd *rand.Rand) (api.System, []string) {
	s := api.System{Wide: rnd.IntN(6), Rows: rnd.IntN(5), Cols: rnd.IntN(7)}
	s.Public = rnd.IntN(min(5, 1<<s.Cols+1))
	s.Private = rnd.IntN(min(5, 1<<s.Cols-s.Public+1))
	there := s.Public + s.Private
	for range rnd.IntN(31) {
		if there == 0 {
			break
		}
		g := api.Gate{Kind: 1 + rnd.IntN(8), Dst: there, A: rnd.IntN(there)}
		switch g.Kind {
		case api.GateXor, api.GateAnd:
			g.B = rnd.IntN(there)
		case api.GateLeft, api.GateRight, api.GateRound:
			g.S = rnd.IntN(1 << s.Wide)
		case api.GateAdd:
			g.B, g.S = rnd.IntN(there), there+1
		}
		made := max(g.Dst, g.S) + 1 - there
		if g.Kind == api.GateSame || there+max(made, 1) > 1<<s.Cols || g.Kind == api.GateAdd && there+2 > 1<<s.Cols {
			g = api.Gate{Kind: api.GateSame, A: rnd.IntN(there), B: rnd.IntN(there)}
		}
		s.Gates = append(s.Gates, g)
		there = circuit.Used(s)
	}
	var names []string
	letters := []rune("abyzαβψως")
	for len(names) < there {
		name := ""
		for range 1 + rnd.IntN(8) {
			name += string(letters[rnd.IntN(len(letters))])
		}
		if !slices.Contains(names, name) {
			names = append(names, name)
		}
	}
	return s, names
}

// wordsOf is the lines of a system, written word by word.
func wordsOf(s api.System, names []string) string {
	out := fmt.Sprintf("words %d\nrows %d\ncolumns %d\npublic", s.Wide, s.Rows, s.Cols)
	for _, name := range names[:s.Public] {
		out += " " + name
	}
	out += "\nprivate"
	for _, name := range names[s.Public:][:s.Private] {
		out += " " + name
	}
	out += "\n"
	for _, g := range s.Gates {
		d, a, b := names[g.Dst], names[g.A], names[g.B]
		switch g.Kind {
		case api.GateXor:
			out += fmt.Sprintf("%s = %s ^ %s\n", d, a, b)
		case api.GateAnd:
			out += fmt.Sprintf("%s = %s & %s\n", d, a, b)
		case api.GateNot:
			out += fmt.Sprintf("%s = ~ %s\n", d, a)
		case api.GateLeft:
			out += fmt.Sprintf("%s = %s << %d\n", d, a, g.S)
		case api.GateRight:
			out += fmt.Sprintf("%s = %s >> %d\n", d, a, g.S)
		case api.GateRound:
			out += fmt.Sprintf("%s = %s <<< %d\n", d, a, g.S)
		case api.GateAdd:
			out += fmt.Sprintf("%s = %s + %s carry %s\n", d, a, b, names[g.S])
		case api.GateSame:
			out += fmt.Sprintf("%s == %s\n", a, b)
		}
	}
	return out
}

// 26.1, 26.3: drawn systems are written as they are to be, and read as they were.
func TestDrawnSystems(t *testing.T) {
	rnd := rand.New(rand.NewPCG(26, 2))
	laid := 0
	for range 2000 {
		s, names := drawn(rnd)
		if circuit.Check(s) != api.OK {
			t.Fatalf("%v may not be", s)
		}
		laid += len(s.Gates)
		prints(t, s, names, wordsOf(s, names))
	}
	if laid < 10000 {
		t.Errorf("%d gates only", laid)
	}
}

// 26.2, 26.3: texts with a byte more, fewer, or another one, against what each line must be; what is read, written again, is the text.
func TestSpoiltTexts(t *testing.T) {
	rnd := rand.New(rand.NewPCG(26, 3))
	bytes := "abα\xb1\xce \n=^&~<>+0123789crw"
	yes, no := 0, 0
	for range 60 {
		s, names := drawn(rnd)
		text, _ := lang.Print(s, names)
		for range 300 {
			spoilt := spoil(rnd, text, bytes)
			if rnd.IntN(3) == 0 {
				spoilt = spoil(rnd, spoilt, bytes)
			}
			want, called, e := strict(spoilt)
			got, gotNames, f := lang.Read(spoilt)
			if e != f || !same(got, want) || e == api.OK && !slices.Equal(gotNames, called) {
				t.Fatalf("Read(%q): %v, %q, %v, not %v, %q, %v", spoilt, got, gotNames, f, want, called, e)
			}
			if f != api.OK {
				no++
				continue
			}
			yes++
			if again, e := lang.Print(got, gotNames); e != api.OK || again != spoilt {
				t.Fatalf("%q, written again: %q, %v", spoilt, again, e)
			}
		}
	}
	if yes < 100 || no < 1000 {
		t.Errorf("%d were read, %d were not", yes, no)
	}
}

// spoil puts a byte into a text, takes one out, or puts one in the place of another.
func spoil(rnd *rand.Rand, text, bytes string) string {
	at := rnd.IntN(len(text))
	with := string(bytes[rnd.IntN(len(bytes))])
	switch rnd.IntN(3) {
	case 0:
		return text[:at] + with + text[at:]
	case 1:
		return text[:at] + text[at+1:]
	}
	return text[:at] + with + text[at+1:]
}

// 26.3: each one of the bytes of a text turned into each other one.
func TestEachByte(t *testing.T) {
	text := "words 1\nrows 0\ncolumns 2\npublic a\nprivate β\nc = a << 1\nc == β\n"
	yes := 0
	for i := range len(text) {
		for b := range 256 {
			spoilt := text[:i] + string([]byte{byte(b)}) + text[i+1:]
			s, names, e := lang.Read(spoilt)
			_, _, want := strict(spoilt)
			if e != want {
				t.Fatalf("Read(%q): %v, not %v", spoilt, e, want)
			}
			if e != api.OK {
				continue
			}
			yes++
			if again, e := lang.Print(s, names); e != api.OK || again != spoilt {
				t.Fatalf("%q, written again: %q, %v", spoilt, again, e)
			}
		}
	}
	if yes <= len(text) {
		t.Errorf("%d were read", yes)
	}
}

// R3: what is answered is each call's own.
func TestAnswersAreTheirOwn(t *testing.T) {
	s, names, _ := lang.Read(eightText)
	clear(s.Gates)
	clear(names)
	want, called := eight()
	if got, names, e := lang.Read(eightText); e != api.OK || !same(got, want) || !slices.Equal(names, called) {
		t.Errorf("Read: %v, %q, %v", got, names, e)
	}
}
