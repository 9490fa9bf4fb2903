/- Contracts of tower.Dot and steepleref02.Dot for any slices of elements. -/
import Derived.Test.YtjdfbjdbfncofaaSlC
import Derived.Test.YtjdfbjdbfncofaaPWvA
namespace Go.Proofs.Ytjdfbjdbfncofaa
open Go.RowKit
open Tw (pm)

/-- The sum of the first products. -/
def dots (es fs : List (Nat × Nat)) (j : Nat) : Nat × Nat := xsum ((List.range j).map fun i => pm (es.getD i (0, 0)) (fs.getD i (0, 0)))
theorem dots_succ (es fs : List (Nat × Nat)) (j : Nat) : dots es fs (j + 1) = ((dots es fs j).1 ^^^ (pm (es.getD j (0, 0)) (fs.getD j (0, 0))).1, (dots es fs j).2 ^^^ (pm (es.getD j (0, 0)) (fs.getD j (0, 0))).2) := by
  unfold dots
  rw [List.range_succ, List.map_append]
  exact xsum_snoc _ _
theorem dots_lt (es fs : List (Nat × Nat)) (j : Nat) : (dots es fs j).1 < 2 ^ 64 ∧ (dots es fs j).2 < 2 ^ 64 := by
  have := xsum_lt ((List.range j).map fun i => pm (es.getD i (0, 0)) (fs.getD i (0, 0))) (by
    intro e he
    obtain ⟨i, _, rfl⟩ := List.mem_map.1 he
    exact Tw.pm_lt _ _) j
  rw [List.take_of_length_le (by simp)] at this
  exact this
def ofAll (l : Int) (es fs : List (Nat × Nat)) : Bool := (List.range es.length).all fun j => ofB l (es.getD j (0, 0)).1 (es.getD j (0, 0)).2 && ofB l (fs.getD j (0, 0)).1 (fs.getD j (0, 0)).2
theorem ofAll_at {l : Int} {es fs : List (Nat × Nat)} (h : ofAll l es fs = true) {j : Nat} (hj : j < es.length) : ofB l (es.getD j (0, 0)).1 (es.getD j (0, 0)).2 = true ∧ ofB l (fs.getD j (0, 0)).1 (fs.getD j (0, 0)).2 = true := by
  unfold ofAll at h
  rw [List.all_eq_true] at h
  have := h j (List.mem_range.2 hj)
  simpa using this
theorem ofAll_mk {l : Int} {es fs : List (Nat × Nat)} (h : ∀ j, j < es.length → ofB l (es.getD j (0, 0)).1 (es.getD j (0, 0)).2 = true ∧ ofB l (fs.getD j (0, 0)).1 (fs.getD j (0, 0)).2 = true) : ofAll l es fs = true := by
  unfold ofAll
  rw [List.all_eq_true]
  intro j hj
  have := h j (List.mem_range.1 hj)
  simpa using this
/-- The sum of products in a level: nothing, if the lists are not of one length, or one is not of it. -/
def dotv (l : Int) (es fs : List (Nat × Nat)) : Nat × Nat := if fs.length = es.length then (if ofAll l es fs = true then dots es fs es.length else (0, 0)) else (0, 0)

theorem dotv_rt {l : Int} {es fs : List (Nat × Nat)} (h : fs.length = es.length) (H : ∀ j, j < es.length → ofB l (es.getD j (0, 0)).1 (es.getD j (0, 0)).2 = true ∧ ofB l (fs.getD j (0, 0)).1 (fs.getD j (0, 0)).2 = true) : dotv l es fs = dots es fs es.length := by
  unfold dotv; rw [if_pos h, if_pos (ofAll_mk H)]
theorem dotv_rf {l : Int} {es fs : List (Nat × Nat)} {j : Nat} (hj : j < es.length) (H : ofB l (es.getD j (0, 0)).1 (es.getD j (0, 0)).2 = false ∨ ofB l (fs.getD j (0, 0)).1 (fs.getD j (0, 0)).2 = false) : dotv l es fs = (0, 0) := by
  unfold dotv
  split
  · rw [if_neg]
    intro h
    have := ofAll_at h hj
    rcases H with h1 | h1
    · rw [h1] at this; cases this.1
    · rw [h1] at this; cases this.2
  · rfl
end Go.Proofs.Ytjdfbjdbfncofaa
