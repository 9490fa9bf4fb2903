package proof

import (
	"math"

	"steeple/api"
	"steeple/circuit"
	"steeple/octet"
)

// ReadParams is the parameters of bytes.
func ReadParams(s string) (api.Params, api.Errno) {
	if len(s) > api.MaxText {
		return api.Params{}, api.ErrLong
	}
	r := octet.Read(s)
	p := api.Params{Level: number(r), Rows: number(r), Rate: number(r), Queries: number(r)}
	if r.End() != api.OK || !Fits(p) {
		return api.Params{}, api.ErrForm
	}
	return p, api.OK
}

// ReadSystem is the system of bytes.
func ReadSystem(t string) (api.System, api.Errno) {
	if len(t) > api.MaxText {
		return api.System{}, api.ErrLong
	}
	r := octet.Read(t)
	s := api.System{Wide: number(r), Rows: number(r), Cols: number(r), Public: number(r), Private: number(r)}
	s.Gates = readList(r, circuit.MaxGates, readGate)
	if r.End() != api.OK || circuit.Check(s) != api.OK {
		return api.System{}, api.ErrForm
	}
	return s, api.OK
}

// ReadWords is the columns of bytes.
func ReadWords(s string) ([][]uint64, api.Errno) {
	if len(s) > api.MaxText {
		return nil, api.ErrLong
	}
	r := octet.Read(s)
	l := readList(r, MaxList, readColumn)
	if r.End() != api.OK {
		return nil, api.ErrForm
	}
	return l, api.OK
}

// ReadProof is the proof of bytes.
func ReadProof(s string) (int, api.Proof, api.Errno) {
	if len(s) > api.MaxText {
		return 0, api.Proof{}, api.ErrLong
	}
	r := octet.Read(s)
	level := r.Num(api.MaxLevel)
	p, plain := readProof(r, level)
	if !plain || r.End() != api.OK {
		return 0, api.Proof{}, api.ErrForm
	}
	return level, p, api.OK
}

// readProof is the proof of a level that a reader stands ahead of, and whether digests are as long as they are, and elements that stand alone alone.
func readProof(r *octet.Reader, level int) (api.Proof, bool) {
	elems := func(r *octet.Reader) []api.Elem { return r.Elems(level, MaxList) }
	var p api.Proof
	p.Root = r.Text(api.Digest)
	p.Zero = readList(r, MaxList, elems)
	p.Wires = elems(r)
	p.Claim = readList(r, MaxList, elems)
	value := elems(r)
	p.Parts = elems(r)
	p.Ring = readList(r, MaxList, elems)
	packed := elems(r)
	p.Open.Row = elems(r)
	p.Open.Cols = readList(r, MaxList, elems)
	p.Open.Proof = r.List(MaxList, api.Digest)
	if len(value) != 1 || len(packed) != 1 || !isDigest(p.Root) || !digests(p.Open.Proof) {
		return api.Proof{}, false
	}
	p.Value, p.Packed = value[0], packed[0]
	return p, true
}

// readList is a list of at most so many members, each read by one function.
func readList[T any](r *octet.Reader, most int, read func(*octet.Reader) T) []T {
	// The list grows as it is read: how many members it says it has may be far more than there are bytes.
	var l []T
	for range r.Num(most) {
		member := read(r)
		if r.Fail() != api.OK {
			return nil
		}
		l = append(l, member)
	}
	return l
}

// readGate reads a gate.
func readGate(r *octet.Reader) api.Gate {
	return api.Gate{Kind: number(r), Dst: number(r), A: number(r), B: number(r), S: number(r)}
}

// readColumn reads a column of words.
func readColumn(r *octet.Reader) []uint64 {
	l := r.Elems(wordLevel, MaxList)
	words := make([]uint64, len(l))
	for i, e := range l {
		words[i] = e.Lo
	}
	return words
}

// number reads any number; whether it may be is asked of the whole.
func number(r *octet.Reader) int {
	return r.Num(math.MaxInt32)
}
