/- Contracts of steepleref01.Of, steepleref02.Product and Mul, and of steeplelaw02's ref and same over the seat's translation. -/
import Derived.Test.YtbmjceiogfhffabRfD
import Derived.Test.YtbmjceiogfhffabRfC
namespace Go.Proofs.Ytbmjceiogfhffab
open Go.RowKit

theorem bitN_has (h l n : Nat) : bitN h l n = 1 ↔ hasB h l n = true := by
  unfold bitN hasB
  by_cases h1 : n < 64
  · rw [if_pos h1, if_pos h1, Nat.testBit_eq_decide_div_mod_eq]; simp
  · rw [if_neg h1, if_neg h1, Nat.testBit_eq_decide_div_mod_eq]; simp
theorem of_bits (k h l : Nat) (hk : k < 8) (hh : h < 2 ^ 64) (hl : l < 2 ^ 64) : (∀ n : Nat, 2 ^ k ≤ n → n < 128 → bitN h l n ≠ 1) ↔ (k = 7 ∨ (h = 0 ∧ l < 2 ^ 2 ^ k)) := by
  constructor
  · intro H
    by_cases h7 : k = 7
    · exact .inl h7
    · have hp : 2 ^ k ≤ 64 := Nat.pow_le_pow_right (n := 2) (by decide) (show k ≤ 6 by omega)
      right
      have H' : ∀ n : Nat, 2 ^ k ≤ n → n < 128 → hasB h l n = false := fun n h1 h2 => by
        have := H n h1 h2
        rw [Ne, bitN_has] at this
        simpa using this
      refine ⟨Nat.eq_of_testBit_eq fun i => ?_, Nat.lt_pow_two_of_testBit _ fun i hi => ?_⟩
      · rw [Nat.zero_testBit]
        by_cases hi : i < 64
        · have := H' (64 + i) (by omega) (by omega)
          unfold hasB at this
          rw [if_neg (by omega), show 64 + i - 64 = i by omega] at this
          exact this
        · exact Nat.testBit_lt_two_pow (Nat.lt_of_lt_of_le hh (Nat.pow_le_pow_right (by decide) (by omega)))
      · by_cases hi2 : i < 64
        · have := H' i hi (by omega)
          unfold hasB at this
          rw [if_pos hi2] at this
          exact this
        · exact Nat.testBit_lt_two_pow (Nat.lt_of_lt_of_le hl (Nat.pow_le_pow_right (by decide) (by omega)))
  · rintro (rfl | ⟨rfl, h2⟩) n h3 h4
    · omega
    · unfold bitN
      by_cases h5 : n < 64
      · rw [if_pos h5, Nat.div_eq_of_lt (Nat.lt_of_lt_of_le h2 (Nat.pow_le_pow_right (by decide) h3))]; decide
      · rw [if_neg h5, Nat.zero_div]; decide
end Go.Proofs.Ytbmjceiogfhffab
