/- steeplelaw15.awake and the walk of CubeValues over the seat's translation. -/
import Derived.Test.YtbomgcmmfeahiaaCbH
namespace Go.Proofs.Ytbomgcmmfeahiaa
open Go.RowKit
open Cb
open Tw (pm)

theorem px33 : Tw.px 3 3 = 2 := by decide +kernel
theorem awake_v : firsts [(0, 1), (0, 2)] [(0, 3)] = [(0, 3)] := by
  have h : pm (0, 3) (0, 3) = (0, 2) := by
    show (Tw.pmh 0 3 0 3, Tw.pml 0 3 0 3) = (0, 2)
    rw [Tw.pmh_low, Tw.pml_low, px33]
  have e : firsts [(0, 1), (0, 2)] [(0, 3)] = [xa (0, 1) (pm (0, 3) (xa (0, 1) (0, 2)))] := by
    rw [firsts_one]
    simp [fst1, half, hv, el]
  rw [e, show xa (0, 1) (0, 2) = (0, 3) by decide, h]
  decide
theorem erow_cells2 {w : World} {b : Nat} {x y : Nat × Nat} (h1 : w.cell? ⟨b, 0, none⟩ = some (.int .u64 (x.1 : Int))) (h2 : w.cell? ⟨b, 1, none⟩ = some (.int .u64 (x.2 : Int))) (h3 : w.cell? ⟨b, 2, none⟩ = some (.int .u64 (y.1 : Int))) (h4 : w.cell? ⟨b, 3, none⟩ = some (.int .u64 (y.2 : Int))) : ERow w (some ⟨b, 0, none⟩) [x, y] := ⟨fun i hi => by
  simp at hi
  have hb := cell_lt h1
  obtain rfl | rfl : i = 0 ∨ i = 1 := by omega
  · exact ⟨b, 0, rfl, hb, h1, h2⟩
  · exact ⟨b, 0, rfl, hb, h3, h4⟩⟩
theorem erow_cells1 {w : World} {b : Nat} {x : Nat × Nat} (h1 : w.cell? ⟨b, 0, none⟩ = some (.int .u64 (x.1 : Int))) (h2 : w.cell? ⟨b, 1, none⟩ = some (.int .u64 (x.2 : Int))) : ERow w (some ⟨b, 0, none⟩) [x] := ⟨fun i hi => by
  simp at hi
  have hb := cell_lt h1
  subst hi
  exact ⟨b, 0, rfl, hb, h1, h2⟩⟩
theorem El.new (w : World) (v : Nat × Nat) (T : TypeId) : El (w.alloc (Obj.cells #[.int .u64 (v.1 : Int), .int .u64 (v.2 : Int)] T)) w.heap.size v.1 v.2 := ⟨by simp [go_sem], by simp [go_sem]⟩
/-- What CubeValues holds: the value, both tables, and what lay there. -/
structure Cvs (W w : World) (q : Nat) (v : Nat × Nat) : Prop where
  v : El w q v.1 v.2
  d : Below W.heap.size W w
theorem Cvs.below {W w w' : World} {q : Nat} {v : Nat × Nat} (h : Cvs W w q v) (hb : Below w.heap.size w w') : Cvs W w' q v := ⟨h.v.below hb, h.d.trans (hb.mono h.d.size)⟩
theorem Cvs.drew {W w : World} {q : Nat} {v : Nat × Nat} (h : Cvs W w q v) : Cvs W w.drew q v := h.below (Below.refl _ _).drew
structure Cvt (W w : World) (q : Nat) (v : Nat × Nat) (ax ay : Option Addr) (t p : List (Nat × Nat)) : Prop where
  c : Cvs W w q v
  x : ERow w ax t
  y : ERow w ay p
theorem Cvt.below {W w w' : World} {q : Nat} {v : Nat × Nat} {ax ay : Option Addr} {t p : List (Nat × Nat)} (h : Cvt W w q v ax ay t p) (hb : Below w.heap.size w w') : Cvt W w' q v ax ay t p := ⟨h.c.below hb, h.x.below hb, h.y.below hb⟩
theorem Cvt.drew {W w : World} {q : Nat} {v : Nat × Nat} {ax ay : Option Addr} {t p : List (Nat × Nat)} (h : Cvt W w q v ax ay t p) : Cvt W w.drew q v ax ay t p := h.below (Below.refl _ _).drew
end Go.Proofs.Ytbomgcmmfeahiaa
