/- Contract of steeplelaw01.Few over the seat's translation. -/
import Derived.Test.YtopmkooegpaeaaaGreatStrA
namespace Go.Proofs.YtopmkooegpaeaaaGreat
open Go.RowKit

/-- Are texts no more than m, and none longer than n bytes? -/
def fewB (ss : List ByteArray) (m n : Int) : Bool := decide ((ss.length : Int) ≤ m) && ss.all fun s => decide ((s.size : Int) ≤ n)
theorem fewB_of {ss : List ByteArray} {m n : Int} (h : fewB ss m n = true) : (ss.length : Int) ≤ m ∧ ∀ s ∈ ss, (s.size : Int) ≤ n := by
  simp [fewB] at h; exact h

theorem StrRow.below {w w' : World} {a : Option Addr} {ss : List ByteArray} (h : StrRow w a ss) (k : Below w.heap.size w w') : StrRow w' a ss := by
  rcases h with h | ⟨b, off, rfl, hb, hcell⟩
  · exact .inl h
  · refine .inr ⟨b, off, rfl, Nat.lt_of_lt_of_le hb k.size, fun i hi => ?_⟩
    rw [k.cell (p := ⟨b, off + i, none⟩) hb]
    exact hcell i hi
end Go.Proofs.YtopmkooegpaeaaaGreat
