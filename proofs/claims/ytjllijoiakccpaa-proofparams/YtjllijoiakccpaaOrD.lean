/- The contract of (*octet.Reader).Elem over the seat's translation. -/
import Derived.Test.YtjllijoiakccpaaOrC
namespace Go.Proofs.Ytjllijoiakccpaa
open Go.RowKit

theorem Step.put {b q o : Nat} {s : ByteArray} {e : Int} {W w : World} (h : Step b s e W w) (hq : W.heap.size ≤ q) (hb : b < W.heap.size) (v : Value) : Step b s e W (w.setCell ⟨q, o, none⟩ v) := by
  have hh := h.here
  refine ⟨h.os, h.tape, h.output, by simpa [World.setCell] using h.size, fun k hk hkb => ?_, ?_⟩
  · have hne : ¬ q = k := by omega
    rw [← h.rest k hk hkb]
    simp [World.setCell, Array.getElem?_modify, hne]
  · have hne : ¬ q = b := by omega
    unfold Rd at hh ⊢
    rw [← hh]
    simp [World.setCell, Array.getElem?_modify, hne]
theorem Ew.step {b q h l : Nat} {s : ByteArray} {e : Int} {w w' : World} (x : Ew w q h l) (hn : q ≠ b) (k : Step b s e w w') : Ew w' q h l := by
  have hq := x.toEl.lt
  have e0 := k.rest q hq hn
  obtain ⟨⟨h1, h0⟩, f1, f0⟩ := x
  refine ⟨⟨?_, ?_⟩, ?_, ?_⟩
  · rw [← h1]; simp [World.cell?, e0]
  · rw [← h0]; simp [World.cell?, e0]
  · rw [← f1]; simp [World.frozen?, e0]
  · rw [← f0]; simp [World.frozen?, e0]
theorem lwv_lt (s : ByteArray) (n : Nat) (h : n ≤ 16) : (lwv s n).1 < 2 ^ 64 ∧ (lwv s n).2 < 2 ^ 64 := by
  by_cases h8 : n ≤ 8
  · have := lwv_lo s n h8
    exact ⟨by rw [this.1]; decide, Nat.lt_of_lt_of_le this.2 (Nat.pow_le_pow_right (by decide) (by omega))⟩
  · obtain ⟨i, rfl⟩ : ∃ i, n = 8 + i := ⟨n - 8, by omega⟩
    have := lwv_hi s i (by omega)
    exact ⟨Nat.lt_of_lt_of_le this.1 (Nat.pow_le_pow_right (by decide) (by omega)), this.2⟩
theorem wide_nat2 (l : Int) : ∃ n : Nat, wideI l = (n : Int) ∧ n ≤ 16 := ⟨(wideI l).toNat, by unfold wideI; split <;> (try split) <;> (try split) <;> (try split) <;> (try split) <;> decide, by unfold wideI; split <;> (try split) <;> (try split) <;> (try split) <;> (try split) <;> decide⟩
/-- What 'Elem' makes of a reader: what is left, the error, the element. -/
def rdElem (s : ByteArray) (e l : Int) : ByteArray × Int × (Nat × Nat) :=
  if (rdHas s e l).2.2 = true then
    (if (s.size : Int) < wideI l then (⟨#[]⟩, 11, (0, 0))
     else if ofB l ((lwv (s.extract 0 (wideI l).toNat) (wideI l).toNat).1 : Int) ((lwv (s.extract 0 (wideI l).toNat) (wideI l).toNat).2 : Int) = true then (s.extract (wideI l).toNat s.size, 0, lwv (s.extract 0 (wideI l).toNat) (wideI l).toNat)
     else (⟨#[]⟩, 5, (0, 0)))
  else ((rdHas s e l).1, (rdHas s e l).2.1, (0, 0))
end Go.Proofs.Ytjllijoiakccpaa
