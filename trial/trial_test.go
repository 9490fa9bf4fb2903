package trial_test

import (
	"testing"

	"steeple/api"
	"steeple/gadget"
	"steeple/perm"
	"steeple/prove"
	"steeple/trial"
)

// What the steps say of proofs that are spoilt, and each error, is tested where layers 31 and 34 are.
func TestTrial(t *testing.T) {
	tables := perm.Make()
	s, _, _ := gadget.Adder(3, 1)
	p := api.Params{Level: 5, Rows: 1, Rate: 1, Queries: 4}
	given := [][]uint64{{200, 3}, {44, 2}, {100, 255}}
	x, e := prove.Prove(tables, p, s, given)
	if e != api.OK {
		t.Fatalf("Prove: %v", e)
	}
	c, e := trial.Open(tables, p, s, given[:2], x)
	if e != api.OK || len(c.Steps()) != 5 {
		t.Fatalf("Open: %v", e)
	}
	for i, holds := range c.Steps() {
		if !holds() {
			t.Errorf("step %d fails", i+1)
		}
	}
	if a := c.Asked(); len(a.Rho) != 4 || len(a.Z) != 4 || len(a.Q) != 6 || len(a.R) != 5 || len(a.U) != 2 || len(a.Point) != 7 || len(a.Places) != len(x.Open.Cols) {
		t.Errorf("Asked: %v", a)
	}
	for want, open := range map[api.Errno]func() (*trial.Trial, api.Errno){
		api.ErrArg:   func() (*trial.Trial, api.Errno) { return trial.Open(nil, p, s, given[:2], x) },
		api.ErrField: func() (*trial.Trial, api.Errno) { return trial.Open(tables, p, s, [][]uint64{{256, 3}, {44, 2}}, x) },
		api.ErrSize:  func() (*trial.Trial, api.Errno) { return trial.Open(tables, p, s, given[:2], api.Proof{}) },
	} {
		if c, e := open(); e != want || c != nil {
			t.Errorf("Open: %v, not %v", e, want)
		}
	}
}
