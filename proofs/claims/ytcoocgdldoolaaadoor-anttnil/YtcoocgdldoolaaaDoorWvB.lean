/- Contracts of tower.Join at any level, weave.joined of any parts and weave.allOf over the seat's translation. -/
import Derived.Test.YtcoocgdldoolaaaDoorWvA
import Derived.Test.YtcoocgdldoolaaaDoorTwX
namespace Go.Proofs.YtcoocgdldoolaaaDoor
open Go.RowKit

theorem join_ret (k : Nat) (h1 : 1 ≤ k) (hk : k < 8) (x y : Nat × Nat) (hx : x.1 < 2 ^ 64 ∧ x.2 < 2 ^ 64) (hy : y.1 < 2 ^ 64 ∧ y.2 < 2 ^ 64) (ox : ofB ((k - 1 : Nat) : Int) (x.1 : Int) (x.2 : Int) = true) (oy : ofB ((k - 1 : Nat) : Int) (y.1 : Int) (y.2 : Int) = true) :
    Ret 56 #[.int .i64 (k : Int), .agg #[.int .u64 (x.1 : Int), .int .u64 (x.2 : Int)], .agg #[.int .u64 (y.1 : Int), .int .u64 (y.2 : Int)]] (.agg #[.int .u64 ((jn k x y).1 : Nat), .int .u64 ((jn k x y).2 : Nat)]) := by
  have OX := of_ret ((k - 1 : Nat) : Int) x.1 x.2 hx.2
  have OY := of_ret ((k - 1 : Nat) : Int) y.1 y.2 hy.2
  rw [ox] at OX
  rw [oy] at OY
  rw [ofB_iff _ _ _ (by omega)] at ox oy
  obtain rfl | rfl | rfl | rfl | rfl | rfl | rfl : k = 1 ∨ k = 2 ∨ k = 3 ∨ k = 4 ∨ k = 5 ∨ k = 6 ∨ k = 7 := by omega
  · have ox := ox.resolve_left (by decide)
    have oy := oy.resolve_left (by decide)
    have e1 : x.2 < 2 := ox.2
    have e2 : y.2 < 2 := oy.2
    exact join1 x.1 x.2 y.1 y.2 (2 * x.2 + y.2) OX OY e1 (by
      show bits .or .u64 ((x.2 : Int) * ((2 : Nat) : Int)) (y.2 : Int) = _
      have := or_join x.2 y.2 1 (by rw [show (2 : Nat) ^ 1 = 2 by decide]; omega) (by rw [show (2 : Nat) ^ 1 = 2 by decide]; exact e2) hy.2
      rw [show (2 : Nat) ^ 1 = 2 by decide, Int.natCast_mul] at this
      exact this)
  · have ox := ox.resolve_left (by decide)
    have oy := oy.resolve_left (by decide)
    have e1 : x.2 < 4 := ox.2
    have e2 : y.2 < 4 := oy.2
    exact join2 x.1 x.2 y.1 y.2 (4 * x.2 + y.2) OX OY e1 (by
      show bits .or .u64 ((x.2 : Int) * ((4 : Nat) : Int)) (y.2 : Int) = _
      have := or_join x.2 y.2 2 (by rw [show (2 : Nat) ^ 2 = 4 by decide]; omega) (by rw [show (2 : Nat) ^ 2 = 4 by decide]; exact e2) hy.2
      rw [show (2 : Nat) ^ 2 = 4 by decide, Int.natCast_mul] at this
      exact this)
  · have ox := ox.resolve_left (by decide)
    have oy := oy.resolve_left (by decide)
    have e1 : x.2 < 16 := ox.2
    have e2 : y.2 < 16 := oy.2
    exact join3 x.1 x.2 y.1 y.2 (16 * x.2 + y.2) OX OY e1 (by
      show bits .or .u64 ((x.2 : Int) * ((16 : Nat) : Int)) (y.2 : Int) = _
      have := or_join x.2 y.2 4 (by rw [show (2 : Nat) ^ 4 = 16 by decide]; omega) (by rw [show (2 : Nat) ^ 4 = 16 by decide]; exact e2) hy.2
      rw [show (2 : Nat) ^ 4 = 16 by decide, Int.natCast_mul] at this
      exact this)
  · have ox := ox.resolve_left (by decide)
    have oy := oy.resolve_left (by decide)
    have e1 : x.2 < 256 := ox.2
    have e2 : y.2 < 256 := oy.2
    exact join4 x.1 x.2 y.1 y.2 (256 * x.2 + y.2) OX OY e1 (by
      show bits .or .u64 ((x.2 : Int) * ((256 : Nat) : Int)) (y.2 : Int) = _
      have := or_join x.2 y.2 8 (by rw [show (2 : Nat) ^ 8 = 256 by decide]; omega) (by rw [show (2 : Nat) ^ 8 = 256 by decide]; exact e2) hy.2
      rw [show (2 : Nat) ^ 8 = 256 by decide, Int.natCast_mul] at this
      exact this)
  · have ox := ox.resolve_left (by decide)
    have oy := oy.resolve_left (by decide)
    have e1 : x.2 < 65536 := ox.2
    have e2 : y.2 < 65536 := oy.2
    exact join5 x.1 x.2 y.1 y.2 (65536 * x.2 + y.2) OX OY e1 (by
      show bits .or .u64 ((x.2 : Int) * ((65536 : Nat) : Int)) (y.2 : Int) = _
      have := or_join x.2 y.2 16 (by rw [show (2 : Nat) ^ 16 = 65536 by decide]; omega) (by rw [show (2 : Nat) ^ 16 = 65536 by decide]; exact e2) hy.2
      rw [show (2 : Nat) ^ 16 = 65536 by decide, Int.natCast_mul] at this
      exact this)
  · have ox := ox.resolve_left (by decide)
    have oy := oy.resolve_left (by decide)
    have e1 : x.2 < 4294967296 := ox.2
    have e2 : y.2 < 4294967296 := oy.2
    exact join6 x.1 x.2 y.1 y.2 (4294967296 * x.2 + y.2) OX OY e1 (by
      show bits .or .u64 ((x.2 : Int) * ((4294967296 : Nat) : Int)) (y.2 : Int) = _
      have := or_join x.2 y.2 32 (by rw [show (2 : Nat) ^ 32 = 4294967296 by decide]; omega) (by rw [show (2 : Nat) ^ 32 = 4294967296 by decide]; exact e2) hy.2
      rw [show (2 : Nat) ^ 32 = 4294967296 by decide, Int.natCast_mul] at this
      exact this)
  · exact join7 x.1 x.2 y.1 y.2 OX OY
theorem jn_of (k : Nat) (h1 : 1 ≤ k) (hk : k < 8) (x y : Nat × Nat) (ox : ofB ((k - 1 : Nat) : Int) (x.1 : Int) (x.2 : Int) = true) (oy : ofB ((k - 1 : Nat) : Int) (y.1 : Int) (y.2 : Int) = true) : ofB (k : Int) ((jn k x y).1 : Nat) ((jn k x y).2 : Nat) = true := by
  rw [ofB_iff _ _ _ (by omega)] at ox oy
  rw [ofB_iff _ _ _ hk]
  by_cases h7 : k = 7
  · exact .inl h7
  · right
    have ox := ox.resolve_left (by omega)
    have oy := oy.resolve_left (by omega)
    unfold jn
    rw [if_neg h7]
    refine ⟨rfl, ?_⟩
    show 2 ^ 2 ^ (k - 1) * x.2 + y.2 < 2 ^ 2 ^ k
    have e : 2 ^ 2 ^ k = 2 ^ 2 ^ (k - 1) * 2 ^ 2 ^ (k - 1) := by
      rw [← Nat.pow_add]; congr 1; obtain ⟨j, rfl⟩ : ∃ j, k = j + 1 := ⟨k - 1, by omega⟩; rw [Nat.add_sub_cancel, Nat.pow_succ]; omega
    rw [e]
    generalize 2 ^ 2 ^ (k - 1) = P at *
    have := Nat.mul_le_mul_left P (show x.2 + 1 ≤ P from ox.2)
    rw [Nat.mul_add, Nat.mul_one] at this
    omega
theorem of_lt64 {k : Nat} (hk : k < 7) {h l : Nat} (o : ofB (k : Int) (h : Int) (l : Int) = true) : h < 2 ^ 64 ∧ l < 2 ^ 64 := by
  rw [ofB_iff _ _ _ (by omega)] at o
  have o := o.resolve_left (by omega)
  refine ⟨by rw [o.1]; exact Nat.two_pow_pos 64, Nat.lt_of_lt_of_le o.2 ?_⟩
  exact Nat.pow_le_pow_right (by decide) (show 2 ^ k ≤ 2 ^ 6 from Nat.pow_le_pow_right (by decide) (by omega))
theorem jnd_of : ∀ (d k : Nat) (es : List (Nat × Nat)), d ≤ k → k < 8 → es.length = 2 ^ d → (∀ e ∈ es, ofB ((k - d : Nat) : Int) (e.1 : Int) (e.2 : Int) = true) → ofB (k : Int) ((jnd d k es).1 : Nat) ((jnd d k es).2 : Nat) = true := by
  intro d
  induction d with
  | zero =>
    intro k es _ _ hl ho
    cases es with
    | nil => simp at hl
    | cons e l => exact ho e (by simp)
  | succ d ih =>
    intro k es hd hk hl ho
    have hp : 2 ^ (d + 1) = 2 ^ d + 2 ^ d := by rw [Nat.pow_succ]; omega
    have hs : k - 1 - d = k - (d + 1) := by omega
    exact jn_of k (by omega) hk _ _ (ih (k - 1) _ (by omega) (by omega) (by rw [List.length_drop]; omega) (fun e he => by rw [hs]; exact ho e (List.mem_of_mem_drop he)))
      (ih (k - 1) _ (by omega) (by omega) (by rw [List.length_take]; omega) (fun e he => by rw [hs]; exact ho e (List.mem_of_mem_take he)))
end Go.Proofs.YtcoocgdldoolaaaDoor
