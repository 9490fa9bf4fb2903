/- Contracts of steepleref01.Wide and Bytes over the seat's translation. -/
import Derived.Test.YtjllijoiakccpaaOeA
import Derived.Test.YtjllijoiakccpaaRfE
namespace Go.Proofs.Ytjllijoiakccpaa
open Go.RowKit

/-- The byte i of an element. -/
def byN (h l i : Nat) : Nat := if i < 8 then l / 2 ^ (8 * i) % 256 else h / 2 ^ (8 * (i - 8)) % 256
theorem by_lt (h l i : Nat) : byN h l i < 256 := by unfold byN; split <;> exact Nat.mod_lt _ (by decide)
theorem bit_step (x i k : Nat) (hk : k < 8) : (x / 2 ^ (8 * i) % 256) / 2 ^ k % 2 = x / 2 ^ (8 * i + k) % 2 := by
  rw [Nat.pow_add, ← Nat.div_div_eq_div_mul]
  generalize x / 2 ^ (8 * i) = q
  obtain rfl | rfl | rfl | rfl | rfl | rfl | rfl | rfl : k = 0 ∨ k = 1 ∨ k = 2 ∨ k = 3 ∨ k = 4 ∨ k = 5 ∨ k = 6 ∨ k = 7 := by omega
  all_goals (simp <;> omega)
theorem by_bit (h l i k : Nat) (hi : i < 16) (hk : k < 8) : byN h l i / 2 ^ k % 2 = bitN h l (8 * i + k) := by
  unfold byN bitN
  by_cases h8 : i < 8
  · rw [if_pos h8, if_pos (by omega)]
    exact bit_step l i k hk
  · rw [if_neg h8, if_neg (by omega)]
    have := bit_step h (i - 8) k hk
    rw [this]
    congr 3
    omega
theorem by_half (x k : Nat) : 2 * (x / 2 ^ (k + 1)) + x / 2 ^ k % 2 = x / 2 ^ k := by
  rw [Nat.pow_succ, ← Nat.div_div_eq_div_mul]
  omega
theorem low_by (h l : Nat) (hh : h < 2 ^ 64) (hl : l < 2 ^ 64) (i : Nat) (hi : i < 16) : (lowL (h : Int) (l : Int)).getD i 0 = ((byN h l i : Nat) : Int) := by
  obtain rfl | rfl | rfl | rfl | rfl | rfl | rfl | rfl | rfl | rfl | rfl | rfl | rfl | rfl | rfl | rfl : i = 0 ∨ i = 1 ∨ i = 2 ∨ i = 3 ∨ i = 4 ∨ i = 5 ∨ i = 6 ∨ i = 7 ∨ i = 8 ∨ i = 9 ∨ i = 10 ∨ i = 11 ∨ i = 12 ∨ i = 13 ∨ i = 14 ∨ i = 15 := by omega
  all_goals simp [lowL, byN]
  all_goals omega
/-- The first so many bytes. -/
def byL (h l n : Nat) : List Int := (List.range n).map fun i => ((byN h l i : Nat) : Int)
theorem byL_low (h l n : Nat) (hh : h < 2 ^ 64) (hl : l < 2 ^ 64) (hn : n ≤ 16) : (lowL (h : Int) (l : Int)).take n = byL h l n := by
  have hlen : ((lowL (h : Int) (l : Int)).take n).length = (byL h l n).length := by simp [lowL, byL]; omega
  refine List.ext_getElem hlen fun i h1 h2 => ?_
  have hi : i < n := by simpa [byL] using h2
  have e := low_by h l hh hl i (by omega)
  have hi16 : i < (lowL (h : Int) (l : Int)).length := by simp [lowL]; omega
  have e2 : (lowL (h : Int) (l : Int)).getD i 0 = (lowL (h : Int) (l : Int))[i] := by simp [List.getD, hi16]
  rw [List.getElem_take, ← e2, e]
  simp [byL]
end Go.Proofs.Ytjllijoiakccpaa
