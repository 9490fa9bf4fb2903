package prove

import (
	"slices"

	"steeple/api"
	"steeple/circuit"
	"steeple/claim"
	"steeple/cube"
	"steeple/expr"
	"steeple/octet"
	"steeple/pcs"
	"steeple/perm"
	"steeple/ring"
	"steeple/sumcheck"
	"steeple/talk"
	"steeple/witness"
)

// work is a proof as far as it is made, and what its next part is made of.
type work struct {
	Plan
	params api.Params
	system api.System
	all    [][]uint64
	bits   []bool // the hidden ones
	store  *pcs.Store
	talk   *talk.Talk
	z      []api.Elem // what Zero was answered
	point  []api.Elem // of all variables
	u      []api.Elem // what Ring was answered
	proof  api.Proof
}

// commit packs the hidden bits, puts them into the grid, and begins the transcript.
func (w *work) commit(t *perm.Tables) api.Errno {
	var e api.Errno
	if w.bits, e = hiddenBits(w.system, w.all); e != api.OK {
		return e
	}
	packed, e := ring.Pack(w.Level, w.bits)
	if e != api.OK {
		return e
	}
	if w.store, e = pcs.Commit(t, w.Grid, packed); e != api.OK {
		return e
	}
	w.proof.Root = w.store.Root()
	w.talk, e = begun(t, w.params, w.system, w.all[:w.system.Public], w.proof.Root)
	return e
}

// zero makes Zero and Wires.
func (w *work) zero() api.Errno {
	a := w.talk.Elem(w.Level)
	rho := w.talk.Elems(w.Level, w.Corners)
	l, e := mixed(w.Level, w.system, a)
	if e != api.OK {
		return e
	}
	tables, e := witness.Tables(w.system, w.all)
	if e != api.OK {
		return e
	}
	x, z, e := rounds(w.Level, l, append(tables, cube.Weights(w.Level, rho)), w.tell("zero"))
	if e != api.OK {
		return e
	}
	w.proof.Zero, w.z = x.Rounds, z
	w.proof.Wires, e = hiddenEnds(w.system, x.Ends)
	return e
}

// claim makes Claim and Value.
func (w *work) claim() api.Errno {
	w.say("wires", w.proof.Wires...)
	b := w.talk.Elem(w.Level)
	hidden, e := Hidden(w.system)
	if e != api.OK {
		return e
	}
	wide := w.system.Wide
	mask, e := claim.Mask(w.Level, w.system.Cols, wide, hidden, w.z[:wide], b)
	if e != api.OK {
		return e
	}
	columns, e := boundRows(w.Level, w.system, w.bits, w.z[wide:])
	if e != api.OK {
		return e
	}
	x, q, e := product(w.Level, columns, mask, w.tell("claim"))
	if e != api.OK {
		return e
	}
	w.proof.Claim, w.proof.Value = x.Rounds, x.Ends[0]
	w.point = slices.Concat(q[:wide], w.z[wide:], q[wide:])
	return api.OK
}

// ring makes Parts, Ring and Packed.
func (w *work) ring() api.Errno {
	high := w.point[w.Level:]
	var e api.Errno
	if w.proof.Parts, e = ring.Parts(w.Level, w.bits, high); e != api.OK {
		return e
	}
	w.say("value", w.proof.Value)
	w.say("parts", w.proof.Parts...)
	mask, e := ring.Mask(w.Level, high, w.talk.Elems(w.Level, w.Level))
	if e != api.OK {
		return e
	}
	packed, e := ring.Pack(w.Level, w.bits)
	if e != api.OK {
		return e
	}
	x, u, e := product(w.Level, packed, mask, w.tell("ring"))
	if e != api.OK {
		return e
	}
	w.proof.Ring, w.proof.Packed, w.u = x.Rounds, x.Ends[0], u
	return api.OK
}

// open makes Open.
func (w *work) open() api.Errno {
	high := w.u[w.Grid.Cols:]
	// The places hang on Row, which hangs on no place: it is opened at the place 0 first, to be said.
	first, e := w.store.Open(high, []int{0})
	if e != api.OK {
		return e
	}
	w.say("packed", w.proof.Packed)
	w.say("row", first.Row...)
	places := w.talk.Places(w.Grid.Cols+w.Grid.Rate, w.params.Queries)
	w.proof.Open, e = w.store.Open(high, places)
	return e
}

// say says elements.
func (w *work) say(label string, l ...api.Elem) {
	w.talk.Say(label, octet.Elems(w.Level, l))
}

// tell is the function by which rounds are told: it says a round's values, and answers what is asked then.
func (w *work) tell(label string) func([]api.Elem) api.Elem {
	return func(values []api.Elem) api.Elem {
		w.say(label, values...)
		return w.talk.Elem(w.Level)
	}
}

// rounds is a sumcheck each of whose elements is what is answered to the round that is told; these elements are told, too.
func rounds(level int, l []api.Op, tables [][]api.Elem, tell func([]api.Elem) api.Elem) (sumcheck.Proof, []api.Elem, api.Errno) {
	var x sumcheck.Proof
	var point []api.Elem
	for len(tables[0]) > 1 {
		values, e := sumcheck.Round(level, l, tables)
		if e != api.OK {
			return sumcheck.Proof{}, nil, e
		}
		r := tell(values)
		if tables, e = sumcheck.Bind(level, tables, r); e != api.OK {
			return sumcheck.Proof{}, nil, e
		}
		x.Rounds, point = append(x.Rounds, values), append(point, r)
	}
	for _, t := range tables {
		x.Ends = append(x.Ends, t[0])
	}
	return x, point, api.OK
}

// product is the rounds of x0 x1 over two tables.
func product(level int, a, b []api.Elem, tell func([]api.Elem) api.Elem) (sumcheck.Proof, []api.Elem, api.Errno) {
	l, e := expr.Flat(expr.Prod{A: expr.Var{N: 0}, B: expr.Var{N: 1}})
	if e != api.OK {
		return sumcheck.Proof{}, nil, e
	}
	return rounds(level, l, [][]api.Elem{a, b}, tell)
}

// hiddenBits are the bits of columns, those of the public ones all 0.
func hiddenBits(s api.System, all [][]uint64) ([]bool, api.Errno) {
	bits, e := witness.Bits(s, all)
	if e != api.OK {
		return nil, e
	}
	clear(bits[:s.Public<<(s.Wide+s.Rows)])
	return bits, api.OK
}

// hiddenEnds are those of the wires' values that are of hidden wires; the wires stand first in ends.
func hiddenEnds(s api.System, ends []api.Elem) ([]api.Elem, api.Errno) {
	wires, e := circuit.Wires(s)
	if e != api.OK {
		return nil, e
	}
	var values []api.Elem
	for i, wire := range wires {
		if wire.Col >= s.Public {
			values = append(values, ends[i])
		}
	}
	return values, api.OK
}

// boundRows is bits as a table that is bound in its row variables, which stand between those of a word and those of a column.
func boundRows(level int, s api.System, bits []bool, r []api.Elem) ([]api.Elem, api.Errno) {
	// A column's last variables are those of its rows; bound one by one, the last comes first.
	var last []api.Elem
	for _, x := range slices.Backward(r) {
		last = append(last, x)
	}
	table, long := elems(bits), 1<<(s.Wide+s.Rows)
	var out []api.Elem
	for k := range 1 << s.Cols {
		left, e := cube.Last(level, table[k*long:(k+1)*long], last...)
		if e != api.OK {
			return nil, e
		}
		out = append(out, left...)
	}
	return out, api.OK
}

// elems are bits as elements.
func elems(bits []bool) []api.Elem {
	l := make([]api.Elem, len(bits))
	for i, bit := range bits {
		if bit {
			l[i].Lo = 1
		}
	}
	return l
}
