/- Slices of elements: what lies in memory; contracts of tower.Sum and steeplelaw01.Ref over the seat's translation. -/
import Derived.Test.YtjllijoiakccpaaTwBl
namespace Go.Proofs.Ytjllijoiakccpaa
open Go.RowKit

/-- Elements in memory, as a slice has them. -/
structure ERow (w : World) (a : Option Addr) (es : List (Nat × Nat)) : Prop where
  cells : ∀ i, i < es.length → ∃ b off : Nat, a = some ⟨b, off, none⟩ ∧ b < w.heap.size ∧ w.cell? ⟨b, off + i * 2, none⟩ = some (.int .u64 ((es.getD i (0, 0)).1 : Nat)) ∧ w.cell? ⟨b, off + i * 2 + 1, none⟩ = some (.int .u64 ((es.getD i (0, 0)).2 : Nat))
theorem ERow.below {w w' : World} {a : Option Addr} {es : List (Nat × Nat)} (h : ERow w a es) (hb : Below w.heap.size w w') : ERow w' a es := ⟨fun i hi => by
  obtain ⟨b, off, h1, h2, h3, h4⟩ := h.cells i hi
  exact ⟨b, off, h1, Nat.lt_of_lt_of_le h2 hb.size, by rw [hb.cell (p := ⟨b, off + i * 2, none⟩) h2]; exact h3, by rw [hb.cell (p := ⟨b, off + i * 2 + 1, none⟩) h2]; exact h4⟩⟩
theorem ERow.drew {w : World} {a : Option Addr} {es : List (Nat × Nat)} (h : ERow w a es) : ERow w.drew a es := ⟨h.cells⟩
def ltE (es : List (Nat × Nat)) : Prop := ∀ e ∈ es, e.1 < 2 ^ 64 ∧ e.2 < 2 ^ 64
theorem ltE.at {es : List (Nat × Nat)} (h : ltE es) (i : Nat) : (es.getD i (0, 0)).1 < 2 ^ 64 ∧ (es.getD i (0, 0)).2 < 2 ^ 64 := by
  by_cases hi : i < es.length
  · rw [show es.getD i (0, 0) = es[i] by simp [hi]]; exact h _ (List.getElem_mem hi)
  · rw [show es.getD i (0, 0) = (0, 0) by simp [List.getD, List.getElem?_eq_none (Nat.not_lt.1 hi)]]; exact ⟨Nat.two_pow_pos 64, Nat.two_pow_pos 64⟩
theorem flat_at (es : List (Nat × Nat)) : ∀ i, i < es.length → (flat es)[i * 2]? = some (.int .u64 ((es.getD i (0, 0)).1 : Nat)) ∧ (flat es)[i * 2 + 1]? = some (.int .u64 ((es.getD i (0, 0)).2 : Nat)) := by
  induction es with
  | nil => intro i hi; simp at hi
  | cons e l ih =>
    intro i hi
    have ef : flat (e :: l) = .int .u64 (e.1 : Int) :: .int .u64 (e.2 : Int) :: flat l := by simp [flat]
    rw [ef]
    rcases i with _ | i
    · simp
    · have := ih i (by simpa using hi)
      rw [show (i + 1) * 2 = i * 2 + 1 + 1 by omega, show i * 2 + 1 + 1 + 1 = (i * 2 + 1) + 1 + 1 by omega]
      simpa using this
theorem own_row {w : World} {base : Nat} {T : TypeId} {v : Value} {es : List (Nat × Nat)} (h : w.ownsRow base T 2 v es.length (flat es)) :
    ∃ a cap, v = .slice a es.length cap ∧ ERow w a es := by
  rcases h.2 with ⟨h1, h0⟩ | ⟨g, cap, cur, rfl, _⟩
  · refine ⟨none, 0, ?_, ⟨fun i hi => by omega⟩⟩
    rw [h1, h0]
  · refine ⟨_, cap, rfl, ⟨fun i hi => ?_⟩⟩
    have e1 := h.cellAt (i * 2) (by omega)
    have e0 := h.cellAt (i * 2 + 1) (by omega)
    rw [(flat_at es i hi).1] at e1
    rw [(flat_at es i hi).2] at e0
    refine ⟨g, 0, rfl, ?_, by rw [Nat.zero_add]; exact e1, by rw [Nat.zero_add]; exact e0⟩
    rcases Nat.lt_or_ge g w.heap.size with h2 | h2
    · exact h2
    · simp [World.cell?, Array.getElem?_eq_none h2] at e1

end Go.Proofs.Ytjllijoiakccpaa
