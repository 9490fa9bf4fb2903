/- Walk of steeplelaw02.TowerBits over the seat's translation, over the contracts of what it calls. -/
import Derived.Test.YtflkchhdgiojgaaTwBu
namespace Go.Proofs.Ytflkchhdgiojgaa
open Go.RowKit

/-- An element and its bits. -/
structure Ust (W w : World) (g n : Nat) (hb : Nat → Bool) (ah al : Nat) : Prop where
  a : Ew w W.heap.size ah al
  row : w.rowIs g 4 n fun i => .bool (hb i)
  d : Below W.heap.size W w
theorem Ust.below {W w w' : World} {g n : Nat} {hb : Nat → Bool} {ah al : Nat} (h : Ust W w g n hb ah al) (k : Below w.heap.size w w') : Ust W w' g n hb ah al := ⟨h.a.below k, rowIs_below h.row k, h.d.trans (k.mono h.d.size)⟩
theorem Ust.drew {W w : World} {g n : Nat} {hb : Nat → Bool} {ah al : Nat} (h : Ust W w g n hb ah al) : Ust W w.drew g n hb ah al := ⟨h.a.drew, h.row, h.d.drew⟩
theorem Ust.alloc {W w : World} {g n : Nat} {hb : Nat → Bool} {ah al : Nat} (h : Ust W w g n hb ah al) (o : Obj) : Ust W (w.alloc o) g n hb ah al := h.below ((Below.refl _ _).alloc (Nat.le_refl _) o)
theorem Ust.facts {W w : World} {g n : Nat} {hb : Nat → Bool} {ah al : Nat} (h : Ust W w g n hb ah al) : w.cell? ⟨W.heap.size, 0, none⟩ = some (.int .u64 (ah : Int)) ∧ w.cell? ⟨W.heap.size, 1, none⟩ = some (.int .u64 (al : Int)) := ⟨h.a.hi, h.a.lo⟩
/-- .. at one place of the row. -/
structure Vst (W w : World) (g n j : Nat) (b : Bool) (hb : Nat → Bool) (ah al : Nat) : Prop where
  u : Ust W w g n hb ah al
  lt : j < n
  e : hb j = b
theorem Vst.below {W w w' : World} {g n j : Nat} {b : Bool} {hb : Nat → Bool} {ah al : Nat} (h : Vst W w g n j b hb ah al) (k : Below w.heap.size w w') : Vst W w' g n j b hb ah al := ⟨h.u.below k, h.lt, h.e⟩
theorem Vst.drew {W w : World} {g n j : Nat} {b : Bool} {hb : Nat → Bool} {ah al : Nat} (h : Vst W w g n j b hb ah al) : Vst W w.drew g n j b hb ah al := ⟨h.u.drew, h.lt, h.e⟩
theorem Vst.facts {W w : World} {g n j : Nat} {b : Bool} {hb : Nat → Bool} {ah al : Nat} (h : Vst W w g n j b hb ah al) : (w.cell? ⟨W.heap.size, 0, none⟩ = some (.int .u64 (ah : Int)) ∧ w.cell? ⟨W.heap.size, 1, none⟩ = some (.int .u64 (al : Int))) ∧ w.cell? ⟨g, j, none⟩ = some (.bool b) := ⟨h.u.facts, by rw [h.u.row.cell h.lt, h.e]⟩
end Go.Proofs.Ytflkchhdgiojgaa
