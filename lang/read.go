package lang

import (
	"strconv"
	"strings"

	"steeple/api"
	"steeple/circuit"
)

// headLines is how many lines stand ahead of the gates.
const headLines = 5

// none is the number of what is not there: no system that may be has it.
const none = -1

// Read is the system of a text, and its names.
func Read(t string) (api.System, []string, api.Errno) {
	if len(t) > api.MaxText {
		return api.System{}, nil, api.ErrLong
	}
	r := reading{column: map[string]int{}}
	lines := strings.SplitN(t, "\n", headLines+circuit.MaxGates+1)
	for i, line := range lines[:len(lines)-1] {
		r.line(i, strings.Split(line, " "))
	}
	// The lines were read without asking for all that they must be: they are, if just these are written of what was read.
	if again, e := Print(r.system, r.names); e != api.OK || again != t {
		return api.System{}, nil, api.ErrForm
	}
	return r.system, r.names, api.OK
}

// reading is what has been read; column has the number of each name.
type reading struct {
	system api.System
	names  []string
	column map[string]int
}

// line reads the words of the line number i.
func (r *reading) line(i int, words []string) {
	last := words[len(words)-1]
	switch i {
	case 0:
		r.system.Wide = number(last)
	case 1:
		r.system.Rows = number(last)
	case 2:
		r.system.Cols = number(last)
	case 3:
		r.system.Public = r.nameAll(words[1:])
	case 4:
		r.system.Private = r.nameAll(words[1:])
	default:
		r.gate(words)
	}
}

// nameAll gives the next columns their names, and answers how many they are.
func (r *reading) nameAll(names []string) int {
	for _, name := range names {
		r.name(name)
	}
	return len(names)
}

// name gives the next column its name, and answers its number.
func (r *reading) name(name string) int {
	next := len(r.names)
	r.names = append(r.names, name)
	r.column[name] = next
	return next
}

// known is the number of a column that has been named.
func (r *reading) known(name string) int {
	if col, ok := r.column[name]; ok {
		return col
	}
	return none
}

// gate reads the words of a gate's line. What it makes is named behind what it is made of, so that it is not made of itself.
func (r *reading) gate(words []string) {
	var g api.Gate
	switch len(words) {
	case 3:
		g = api.Gate{Kind: api.GateSame, A: r.known(words[0]), B: r.known(words[2])}
	case 4:
		g = api.Gate{Kind: api.GateNot, A: r.known(words[3])}
		g.Dst = r.name(words[0])
	case 5:
		g = r.signed(words[2], words[3], words[4])
		g.Dst = r.name(words[0])
	case 7:
		g = api.Gate{Kind: api.GateAdd, A: r.known(words[2]), B: r.known(words[4])}
		g.Dst = r.name(words[0])
		g.S = r.name(words[6])
	}
	r.system.Gates = append(r.system.Gates, g)
}

// signed is a gate of a column, a sign, and another column or a number.
func (r *reading) signed(a, between, b string) api.Gate {
	g := api.Gate{Kind: kindOf(between), A: r.known(a)}
	switch g.Kind {
	case api.GateXor, api.GateAnd:
		g.B = r.known(b)
	default:
		g.S = number(b)
	}
	return g
}

// kindOf is the kind of gate for which a sign stands.
func kindOf(s string) int {
	for _, kind := range []int{api.GateXor, api.GateAnd, api.GateLeft, api.GateRight, api.GateRound} {
		if sign(kind) == s {
			return kind
		}
	}
	return none
}

// number is the number whose digits a word has.
func number(word string) int {
	if n, err := strconv.Atoi(word); err == nil {
		return n
	}
	return none
}
