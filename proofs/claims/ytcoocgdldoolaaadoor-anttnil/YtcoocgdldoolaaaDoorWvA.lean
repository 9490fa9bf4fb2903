/- Contracts of weave.joined over the seat's translation: halves joined to one element. -/
import Derived.Test.YtcoocgdldoolaaaDoorSlA
import Derived.Test.YtcoocgdldoolaaaDoorTwBl
import Derived.Deep.OwnRows
import Derived.BigQuiet
namespace Go.Proofs.YtcoocgdldoolaaaDoor
open Go.RowKit

/-- Two halves as one element of the level k. -/
def jn (k : Nat) (x y : Nat × Nat) : Nat × Nat := if k = 7 then (x.2, y.2) else (0, 2 ^ 2 ^ (k - 1) * x.2 + y.2)
def jnd : Nat → Nat → List (Nat × Nat) → Nat × Nat
  | 0, _, es => es.getD 0 (0, 0)
  | d + 1, k, es => jn k (jnd d (k - 1) (es.drop (2 ^ d))) (jnd d (k - 1) (es.take (2 ^ d)))
theorem ERow.drop {w : World} {b off n : Nat} {es : List (Nat × Nat)} (h : ERow w (some ⟨b, off, none⟩) es) : ERow w (some ⟨b, off + n * 2, none⟩) (es.drop n) := ⟨fun i hi => by
  have hi' : n + i < es.length := by simp at hi; omega
  obtain ⟨b', o', e, h1, h2, h3⟩ := h.cells (n + i) hi'
  simp only [Option.some.injEq, Addr.mk.injEq] at e
  obtain ⟨rfl, rfl, _⟩ := e
  have eg : (es.drop n).getD i (0, 0) = es.getD (n + i) (0, 0) := by simp [List.getD]
  refine ⟨_, _, rfl, h1, ?_, ?_⟩
  · rw [eg, ← h2]; congr 2; omega
  · rw [eg, ← h3]; congr 2; omega⟩
theorem ERow.take {w : World} {a : Option Addr} {n : Nat} {es : List (Nat × Nat)} (h : ERow w a es) : ERow w a (es.take n) := ⟨fun i hi => by
  have hi' : i < es.length ∧ i < n := by simp at hi; omega
  obtain ⟨b', o', e, h1, h2, h3⟩ := h.cells i hi'.1
  have eg : (es.take n).getD i (0, 0) = es.getD i (0, 0) := by simp [List.getD, hi'.2]
  exact ⟨_, _, e, h1, by rw [eg]; exact h2, by rw [eg]; exact h3⟩⟩
end Go.Proofs.YtcoocgdldoolaaaDoor
