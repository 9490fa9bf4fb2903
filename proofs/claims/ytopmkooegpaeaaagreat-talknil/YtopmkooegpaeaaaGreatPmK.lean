/- The walks of PermTables and PermOne, over the seat's translation. -/
import Derived.Test.YtopmkooegpaeaaaGreatPmH
namespace Go.Proofs.YtopmkooegpaeaaaGreat
open Go.RowKit

theorem Tab.below {w w' : World} {g : Nat} (h : Tab w g) (hb : Below w.heap.size w w') : Tab w' g := Tabs.below h hb
theorem tmv_ok {k : Nat} (h : tok k = true) (b : Nat) : tmv k b = tmul k b := by unfold tmv; rw [if_pos h]
theorem tmv_no {k : Nat} (h : tok k = false) (b : Nat) : tmv k b = 0 := by unfold tmv; rw [if_neg (by rw [h]; decide)]
/-- The tables lie at g, and what lay there in W is as it was. -/
structure Hold (W w : World) (g : Nat) : Prop where
  t : Tab w g
  d : Below W.heap.size W w
theorem Hold.below {W w w' : World} {g : Nat} (h : Hold W w g) (hb : Below w.heap.size w w') : Hold W w' g := ⟨h.t.below hb, h.d.trans (hb.mono h.d.size)⟩
end Go.Proofs.YtopmkooegpaeaaaGreat
