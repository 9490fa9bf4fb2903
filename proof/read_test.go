package proof_test

import (
	"math/rand/v2"
	"reflect"
	"slices"
	"strings"
	"testing"

	"steeple/api"
	"steeple/proof"
)

// reads are the calls that read: each tells whether it answered something beside its error, and what it answered, written again.
var reads = map[string]func(s string) (again string, none bool, e api.Errno){
	"ReadParams": func(s string) (string, bool, api.Errno) {
		p, e := proof.ReadParams(s)
		again, _ := proof.Params(p)
		return again, p == api.Params{}, e
	},
	"ReadSystem": func(s string) (string, bool, api.Errno) {
		x, e := proof.ReadSystem(s)
		again, _ := proof.System(x)
		return again, reflect.DeepEqual(x, api.System{}), e
	},
	"ReadWords": func(s string) (string, bool, api.Errno) {
		l, e := proof.ReadWords(s)
		again, _ := proof.Words(l)
		return again, l == nil, e
	},
	"ReadProof": func(s string) (string, bool, api.Errno) {
		level, p, e := proof.ReadProof(s)
		again, _ := proof.Proof(level, p)
		return again, level == 0 && reflect.DeepEqual(p, api.Proof{}), e
	},
}

// noRead asks for an error of a call that reads, and for nothing beside it.
func noRead(t *testing.T, name, what, s string, want api.Errno) {
	t.Helper()
	if again, none, e := reads[name](s); e != want || !none {
		t.Errorf("%s, %s: %d bytes, %v, not %v", name, what, len(again), e, want)
	}
}

// samples are bytes that each call reads.
func samples() map[string][]string {
	out := map[string][]string{}
	for _, p := range []api.Params{{Level: 2, Rate: 1, Queries: 1}, {Level: 7, Rows: 6, Rate: 3, Queries: 64}} {
		s, _ := proof.Params(p)
		out["ReadParams"] = append(out["ReadParams"], s)
	}
	for _, x := range systems() {
		s, _ := proof.System(x)
		out["ReadSystem"] = append(out["ReadSystem"], s)
	}
	for _, l := range [][][]uint64{nil, {{}, {}}, {{1, 2}, {3}}} {
		s, _ := proof.Words(l)
		out["ReadWords"] = append(out["ReadWords"], s)
	}
	for _, level := range []int{0, 2, 3, 5, 7} {
		for _, p := range []api.Proof{{Root: strings.Repeat("r", 32)}, full(level)} {
			s, _ := proof.Proof(level, p)
			out["ReadProof"] = append(out["ReadProof"], s)
		}
	}
	return out
}

// 29.2, 29.3: what is read, written again, are the bytes; a byte too few, or more, and each shorter text is read by nothing.
func TestReadAgain(t *testing.T) {
	for name, l := range samples() {
		for i, s := range l {
			if again, _, e := reads[name](s); e != api.OK || again != s {
				t.Errorf("%s %d: %x, %v", name, i, again, e)
			}
			for n := range len(s) {
				noRead(t, name, "too short", s[:n], api.ErrForm)
			}
			for _, more := range []string{"\x00", "x", "\x00\x00\x00\x00", s} {
				noRead(t, name, "too long", s+more, api.ErrForm)
			}
		}
	}
}

// 29.2: no text of one kind with a bit turned is read as anything that is written in another way.
func TestBitsTurned(t *testing.T) {
	for name, l := range samples() {
		read, refused := 0, 0
		for _, s := range l {
			for i := range 8 * len(s) {
				b := []byte(s)
				b[i/8] ^= 1 << (i % 8)
				switch again, none, e := reads[name](string(b)); {
				case e == api.OK && again == string(b):
					read++
				case e == api.ErrForm && none:
					refused++
				default:
					t.Fatalf("%s of %x: %x, %v", name, b, again, e)
				}
			}
		}
		if read == 0 || refused == 0 {
			t.Errorf("%s: %d read, %d refused", name, read, refused)
		}
	}
}

// 29.2: bytes that are too many, and just as many as there may be.
func TestTooManyBytes(t *testing.T) {
	for name, l := range samples() {
		for _, s := range append(l, "") {
			full := s + strings.Repeat("\x00", api.MaxText-len(s))
			noRead(t, name, "as many as there may be", full, api.ErrForm)
			noRead(t, name, "one more", full+"\x00", api.ErrLong)
			noRead(t, name, "far more", full+full, api.ErrLong)
		}
	}
	// what fills just as many bytes as there may be is read: 31 full columns, and one that has the rest
	cols := slices.Repeat([][]uint64{make([]uint64, 4096)}, 31)
	left := api.MaxText - 4 - 31*(4+8*4096)
	for left%8 != 4 {
		cols = append(cols, nil)
		left -= 4
	}
	cols = append(cols, make([]uint64, (left-4)/8))
	s, e := proof.Words(cols)
	if e != api.OK || len(s) != api.MaxText {
		t.Fatalf("Words: %d bytes, %v", len(s), e)
	}
	if l, e := proof.ReadWords(s); e != api.OK || !sameWords(l, cols) {
		t.Errorf("ReadWords of MaxText bytes: %v", e)
	}
}

// 29.2: a count that is greater than what follows, and one that is no number.
func TestCounts(t *testing.T) {
	count := func(n uint32) string { return string([]byte{byte(n >> 24), byte(n >> 16), byte(n >> 8), byte(n)}) }
	for _, n := range []uint32{1, 2, 30, 31, 4096, 4097, 1 << 20, 1<<31 - 1, 1 << 31, 1<<32 - 1} {
		noRead(t, "ReadWords", "columns", count(n), api.ErrForm)
		noRead(t, "ReadWords", "words", count(1)+count(n), api.ErrForm)
		noRead(t, "ReadWords", "words", count(1)+count(n)+strings.Repeat("\x00", 7), api.ErrForm)
		noRead(t, "ReadSystem", "gates", strings.Repeat("\x00", 20)+count(n), api.ErrForm)
		if n > 64 {
			noRead(t, "ReadParams", "Queries", count(2)+count(0)+count(1)+count(n), api.ErrForm)
		}
	}
	s, _ := proof.Proof(3, full(3))
	for at := 0; at+4 <= len(s); at++ {
		for _, n := range []uint32{4096, 4097, 1<<31 - 1, 1 << 31, 1<<32 - 1} {
			b := []byte(s)
			copy(b[at:], count(n))
			again, none, e := reads["ReadProof"](string(b))
			if (e != api.OK || again != string(b)) && (e != api.ErrForm || !none) {
				t.Errorf("ReadProof with %d at %d: %v", n, at, e)
			}
		}
	}
}

// 29.2: levels that are none, digests of another length, and a Value or Packed that is a list of none or of two.
func TestProofsOfOtherForms(t *testing.T) {
	for level := range 8 {
		p := full(level)
		build := func(do func(w *writer, part string) bool) string {
			var w writer
			put := func(part string, write func()) {
				if !do(&w, part) {
					write()
				}
			}
			put("level", func() { w.num(level) })
			put("root", func() { w.text(p.Root) })
			w.lists(level, p.Zero)
			w.elems(level, p.Wires...)
			w.lists(level, p.Claim)
			put("value", func() { w.elems(level, p.Value) })
			w.elems(level, p.Parts...)
			w.lists(level, p.Ring)
			put("packed", func() { w.elems(level, p.Packed) })
			w.elems(level, p.Open.Row...)
			w.lists(level, p.Open.Cols)
			w.num(2)
			w.text(p.Open.Proof[0])
			put("digest", func() { w.text(p.Open.Proof[1]) })
			return string(w)
		}
		if again, _, e := reads["ReadProof"](build(func(*writer, string) bool { return false })); e != api.OK || again == "" {
			t.Errorf("level %d: %v", level, e)
		}
		other := func(part string, write func(w *writer)) {
			t.Helper()
			noRead(t, "ReadProof", part, build(func(w *writer, at string) bool {
				if at == part {
					write(w)
				}
				return at == part
			}), api.ErrForm)
		}
		for _, n := range []int{8, 9, 255, 1 << 30} {
			other("level", func(w *writer) { w.num(n) })
		}
		for _, n := range []int{0, 1, 31, 33, 64} {
			other("root", func(w *writer) { w.text(strings.Repeat("r", n)) })
			other("digest", func(w *writer) { w.text(strings.Repeat("d", n)) })
		}
		for _, part := range []string{"value", "packed"} {
			other(part, func(w *writer) { w.elems(level) })
			other(part, func(w *writer) { w.elems(level, p.Value, p.Packed) })
			other(part, func(w *writer) { w.elems(level, p.Value, p.Packed, p.Value) })
		}
	}
	// bits that a level's elements have not, though their bytes have
	for level := range 3 {
		for name := range places(new(full(level))) {
			for bit := 1 << level; bit < 8; bit++ {
				p := full(level)
				places(&p)[name].Lo |= 1 << bit
				var w writer
				w.proof(level, p)
				noRead(t, "ReadProof", name, string(w), api.ErrForm)
			}
		}
	}
}

// 29.2: drawn bytes, and bytes of one kind read as another.
func TestAnyBytes(t *testing.T) {
	rnd := rand.New(rand.NewPCG(29, 2))
	var texts []string
	for range 2000 {
		b := make([]byte, rnd.IntN(60))
		for i := range b {
			if rnd.IntN(3) == 0 {
				b[i] = byte(rnd.IntN(8))
			}
		}
		texts = append(texts, string(b))
	}
	for _, l := range samples() {
		texts = append(texts, l...)
	}
	for name, read := range reads {
		for _, s := range texts {
			again, none, e := read(s)
			if (e != api.OK || again != s) && (e != api.ErrForm || !none) {
				t.Errorf("%s of %x: %x, %v", name, s, again, e)
			}
		}
	}
}

// R3: what is answered is new each time.
func TestAnswersAreNew(t *testing.T) {
	s, _ := proof.Proof(3, full(3))
	_, a, _ := proof.ReadProof(s)
	_, b, _ := proof.ReadProof(s)
	for _, e := range places(&a) {
		e.Lo ^= 1
	}
	a.Open.Proof[0] = "x"
	if !same(b, full(3)) {
		t.Errorf("a proof that is read shares memory with another one")
	}
	w, _ := proof.Words([][]uint64{{1, 2}, {3, 4}})
	l, _ := proof.ReadWords(w)
	m, _ := proof.ReadWords(w)
	_ = append(l[0], 9)
	l[0][0], l[1][1] = 7, 7
	if !sameWords(m, [][]uint64{{1, 2}, {3, 4}}) || !slices.Equal(l[1], []uint64{3, 7}) {
		t.Errorf("columns that are read share memory: %v, %v", l, m)
	}
}
