/- Walk of steeplelaw02.TowerBits over the seat's translation for levels from 1 on, over the contracts of what it calls. -/
import Derived.Test.YtflkchhdgiojgaaTwBw
namespace Go.Proofs.Ytflkchhdgiojgaa
open Go.RowKit

/-- An element, its bits, and its halves. -/
structure Xst (W w : World) (g n : Nat) (hb : Nat → Bool) (ah al p q r : Nat) : Prop where
  u : Ust W w g n hb ah al
  x : w.cell? ⟨p, 0, none⟩ = some (.int .u64 0) ∧ w.cell? ⟨p, 1, none⟩ = some (.int .u64 (q : Int))
  y : w.cell? ⟨p + 1, 0, none⟩ = some (.int .u64 0) ∧ w.cell? ⟨p + 1, 1, none⟩ = some (.int .u64 (r : Int))
theorem Xst.below {W w w' : World} {g n : Nat} {hb : Nat → Bool} {ah al p q r : Nat} (h : Xst W w g n hb ah al p q r) (k : Below w.heap.size w w') : Xst W w' g n hb ah al p q r := ⟨h.u.below k, ⟨keepc k h.x.1, keepc k h.x.2⟩, ⟨keepc k h.y.1, keepc k h.y.2⟩⟩
theorem Xst.drew {W w : World} {g n : Nat} {hb : Nat → Bool} {ah al p q r : Nat} (h : Xst W w g n hb ah al p q r) : Xst W w.drew g n hb ah al p q r := ⟨h.u.drew, h.x, h.y⟩
theorem Xst.facts {W w : World} {g n : Nat} {hb : Nat → Bool} {ah al p q r : Nat} (h : Xst W w g n hb ah al p q r) : (w.cell? ⟨W.heap.size, 0, none⟩ = some (.int .u64 (ah : Int)) ∧ w.cell? ⟨W.heap.size, 1, none⟩ = some (.int .u64 (al : Int))) ∧ (w.cell? ⟨p, 0, none⟩ = some (.int .u64 0) ∧ w.cell? ⟨p, 1, none⟩ = some (.int .u64 (q : Int))) ∧ (w.cell? ⟨p + 1, 0, none⟩ = some (.int .u64 0) ∧ w.cell? ⟨p + 1, 1, none⟩ = some (.int .u64 (r : Int))) := ⟨h.u.facts, h.x, h.y⟩
structure Yst (W w : World) (g n m j : Nat) (b c : Bool) (hb : Nat → Bool) (ah al p q r : Nat) : Prop where
  u : Xst W w g n hb ah al p q r
  lt : m + j < n
  e : hb j = b
  f : hb (m + j) = c
theorem Yst.below {W w w' : World} {g n m j : Nat} {b c : Bool} {hb : Nat → Bool} {ah al p q r : Nat} (h : Yst W w g n m j b c hb ah al p q r) (k : Below w.heap.size w w') : Yst W w' g n m j b c hb ah al p q r := ⟨h.u.below k, h.lt, h.e, h.f⟩
theorem Yst.drew {W w : World} {g n m j : Nat} {b c : Bool} {hb : Nat → Bool} {ah al p q r : Nat} (h : Yst W w g n m j b c hb ah al p q r) : Yst W w.drew g n m j b c hb ah al p q r := ⟨h.u.drew, h.lt, h.e, h.f⟩
theorem Yst.facts {W w : World} {g n m j : Nat} {b c : Bool} {hb : Nat → Bool} {ah al p q r : Nat} (h : Yst W w g n m j b c hb ah al p q r) : (w.cell? ⟨p, 0, none⟩ = some (.int .u64 0) ∧ w.cell? ⟨p, 1, none⟩ = some (.int .u64 (q : Int))) ∧ (w.cell? ⟨p + 1, 0, none⟩ = some (.int .u64 0) ∧ w.cell? ⟨p + 1, 1, none⟩ = some (.int .u64 (r : Int))) ∧ w.cell? ⟨g, j, none⟩ = some (.bool b) ∧ w.cell? ⟨g, m + j, none⟩ = some (.bool c) :=
  ⟨h.u.x, h.u.y, by rw [h.u.u.row.cell (by have := h.lt; omega), h.e], by rw [h.u.u.row.cell h.lt, h.f]⟩
end Go.Proofs.Ytflkchhdgiojgaa
