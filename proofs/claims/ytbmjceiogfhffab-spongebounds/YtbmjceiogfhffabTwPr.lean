/- The product as sums of products with single bits, and these as products with generators. No Go in sight. -/
import Derived.Test.YtbmjceiogfhffabTwQ
namespace Go.Proofs.Ytbmjceiogfhffab
namespace Tw
/-- The pair with the bit n alone. -/
def bitp (n : Nat) : Nat × Nat := if n < 64 then (0, 2 ^ n) else (2 ^ (n - 64), 0)
/-- A pair times the generator of level j + 1. -/
def tms (j : Nat) (e : Nat × Nat) : Nat × Nat := if j < 6 then (px (2 ^ 2 ^ j) e.1, px (2 ^ 2 ^ j) e.2) else (e.2 ^^^ px 4294967296 e.1, e.1)
/-- The generator of level j + 1. -/
def gp (j : Nat) : Nat × Nat := if j < 6 then (0, 2 ^ 2 ^ j) else (1, 0)
def pm (a b : Nat × Nat) : Nat × Nat := (pmh a.1 a.2 b.1 b.2, pml a.1 a.2 b.1 b.2)
theorem pm_lt (a b : Nat × Nat) : (pm a b).1 < 2 ^ 64 ∧ (pm a b).2 < 2 ^ 64 := ⟨pmh_lt _ _ _ _, pml_lt _ _ _ _⟩
theorem pm_assoc' (a b c : Nat × Nat) : pm (pm a b) c = pm a (pm b c) := Prod.ext (pm_assoc _ _ _ _ _ _).1 (pm_assoc _ _ _ _ _ _).2
theorem pm_comm' (a b : Nat × Nat) : pm a b = pm b a := Prod.ext (pm_comm _ _ _ _).1 (pm_comm _ _ _ _).2
theorem pm_one' (a : Nat × Nat) (h1 : a.1 < 2 ^ 64) (h2 : a.2 < 2 ^ 64) : pm a (0, 1) = a := Prod.ext (pm_one h1 h2).1 (pm_one h1 h2).2
theorem tms_pm (j : Nat) (e : Nat × Nat) (h1 : e.1 < 2 ^ 64) (h2 : e.2 < 2 ^ 64) : tms j e = pm e (gp j) := by
  unfold tms gp pm
  by_cases h : j < 6
  · rw [if_pos h, if_pos h]
    unfold pmh pml
    simp only [px_zero, Nat.xor_zero]
    rw [px_comm e.1, px_comm e.2]
  · rw [if_neg h, if_neg h]
    unfold pmh pml
    simp only [px_zero, px_one _ h1, px_one _ h2, Nat.zero_xor]
theorem tms_lt (j : Nat) (e : Nat × Nat) (h1 : e.1 < 2 ^ 64) (h2 : e.2 < 2 ^ 64) : (tms j e).1 < 2 ^ 64 ∧ (tms j e).2 < 2 ^ 64 := by
  rw [tms_pm j e h1 h2]; exact pm_lt _ _
theorem tms_bit_low (j m : Nat) (hj : j < 6) (hm : m < 2 ^ j) : px (2 ^ 2 ^ j) (2 ^ m) = 2 ^ (m + 2 ^ j) := by
  have hj' : j = 0 ∨ j = 1 ∨ j = 2 ∨ j = 3 ∨ j = 4 ∨ j = 5 := by omega
  rcases hj' with rfl | rfl | rfl | rfl | rfl | rfl
  · rw [px_lane 1 _ (by decide +kernel)]; revert m; decide +kernel
  · rw [px_lane 2 _ (by decide +kernel)]; revert m; decide +kernel
  · rw [px_lane 3 _ (by decide +kernel)]; revert m; decide +kernel
  · rw [px_lane 4 _ (by decide +kernel)]; revert m; decide +kernel
  · rw [px_lane 5 _ (by decide +kernel)]; revert m; decide +kernel
  · rw [px_lane 6 _ (by decide +kernel)]; revert m; decide +kernel
theorem tms_bit (j m : Nat) (hj : j < 7) (hm : m < 2 ^ j) : tms j (bitp m) = bitp (m + 2 ^ j) := by
  by_cases h : j < 6
  · have h1 : 2 ^ j ≤ 2 ^ 5 := Nat.pow_le_pow_right (by decide) (by omega)
    unfold tms bitp
    rw [if_pos h, if_pos (by omega), if_pos (by omega)]
    simp only
    rw [tms_bit_low j m h hm, px_zero]
  · obtain rfl : j = 6 := by omega
    unfold tms bitp
    rw [if_neg h, if_pos (by omega), if_neg (by omega)]
    simp only [px_zero, Nat.xor_zero]
    rw [show m + 2 ^ 6 - 64 = m by omega]
theorem inner_step (a : Nat × Nat) (n j : Nat) (hj : j < 7) (h : n / 2 ^ j % 2 = 1) : tms j (pm a (bitp (n % 2 ^ j))) = pm a (bitp (n % 2 ^ (j + 1))) := by
  have hl := pm_lt a (bitp (n % 2 ^ j))
  have hb : (bitp (n % 2 ^ j)).1 < 2 ^ 64 ∧ (bitp (n % 2 ^ j)).2 < 2 ^ 64 := by
    have h1 : n % 2 ^ j < 2 ^ j := Nat.mod_lt _ (Nat.two_pow_pos _)
    have h2 : 2 ^ j ≤ 2 ^ 6 := Nat.pow_le_pow_right (by decide) (by omega)
    unfold bitp
    rw [if_pos (by omega)]
    exact ⟨Nat.two_pow_pos 64, Nat.pow_lt_pow_right (by decide) (by omega)⟩
  rw [tms_pm _ _ hl.1 hl.2, pm_assoc', ← tms_pm _ _ hb.1 hb.2, tms_bit j _ hj (Nat.mod_lt _ (Nat.two_pow_pos _)), Nat.pow_succ, Nat.mod_mul, h, Nat.mul_one]
theorem inner_skip (n j : Nat) (h : n / 2 ^ j % 2 = 0) : n % 2 ^ (j + 1) = n % 2 ^ j := by
  rw [Nat.pow_succ, Nat.mod_mul, h, Nat.mul_zero, Nat.add_zero]
/-- The lowest n bits of a pair. -/
def lowp (b : Nat × Nat) (n : Nat) : Nat × Nat := if n ≤ 64 then (0, b.2 % 2 ^ n) else (b.1 % 2 ^ (n - 64), b.2 % 2 ^ 64)
def hasP (b : Nat × Nat) (n : Nat) : Bool := if n < 64 then b.2.testBit n else b.1.testBit (n - 64)
theorem mod_set (x n : Nat) (h : x.testBit n = true) : x % 2 ^ (n + 1) = x % 2 ^ n ^^^ 2 ^ n := by
  apply Nat.eq_of_testBit_eq
  intro i
  rw [Nat.testBit_xor, Nat.testBit_mod_two_pow, Nat.testBit_mod_two_pow, Nat.testBit_two_pow]
  by_cases h1 : n = i
  · subst h1; simp [h]
  · by_cases h2 : i < n
    · simp [h1, h2, Nat.lt_succ_of_lt h2]
    · have h3 : ¬ i < n + 1 := by omega
      simp [h1, h2, h3]
theorem mod_clear (x n : Nat) (h : x.testBit n = false) : x % 2 ^ (n + 1) = x % 2 ^ n := by
  apply Nat.eq_of_testBit_eq
  intro i
  rw [Nat.testBit_mod_two_pow, Nat.testBit_mod_two_pow]
  by_cases h1 : n = i
  · subst h1; simp [h]
  · by_cases h2 : i < n
    · simp [h2, Nat.lt_succ_of_lt h2]
    · have h3 : ¬ i < n + 1 := by omega
      simp [h2, h3]
theorem lowp_set (b : Nat × Nat) (n : Nat) (h : hasP b n = true) : lowp b (n + 1) = ((lowp b n).1 ^^^ (bitp n).1, (lowp b n).2 ^^^ (bitp n).2) := by
  unfold hasP at h
  unfold lowp bitp
  by_cases h1 : n < 64
  · rw [if_pos h1] at h
    rw [if_pos (by omega), if_pos (by omega), if_pos h1]
    simp only [mod_set _ _ h, Nat.zero_xor]
  · rw [if_neg h1] at h
    rw [if_neg (show ¬ n + 1 ≤ 64 by omega), if_neg h1]
    by_cases h2 : n = 64
    · subst h2
      have h3 := mod_set _ _ h
      simp only [Nat.sub_self, Nat.pow_zero, Nat.mod_one, Nat.zero_xor] at h3
      simp only [Nat.le_refl, if_true, Nat.zero_xor, Nat.xor_zero]
      rw [show 64 + 1 - 64 = 0 + 1 by rfl]
      simp only [Nat.sub_self, Nat.pow_zero]
      rw [h3]
    · rw [if_neg (show ¬ n ≤ 64 by omega)]
      simp only [Nat.xor_zero]
      rw [← mod_set _ _ h, show n + 1 - 64 = n - 64 + 1 by omega]
theorem lowp_clear (b : Nat × Nat) (n : Nat) (h : hasP b n = false) : lowp b (n + 1) = lowp b n := by
  unfold hasP at h
  unfold lowp
  by_cases h1 : n < 64
  · rw [if_pos h1] at h
    rw [if_pos (by omega), if_pos (by omega), mod_clear _ _ h]
  · rw [if_neg h1] at h
    rw [if_neg (show ¬ n + 1 ≤ 64 by omega)]
    by_cases h2 : n = 64
    · subst h2
      have h3 := mod_clear _ _ h
      simp only [Nat.sub_self, Nat.pow_zero, Nat.mod_one] at h3
      rw [show 64 + 1 - 64 = 0 + 1 by rfl, h3]
      rfl
    · rw [if_neg (show ¬ n ≤ 64 by omega), show n + 1 - 64 = n - 64 + 1 by omega, mod_clear _ _ h]
theorem lowp_all (b : Nat × Nat) (h1 : b.1 < 2 ^ 64) (h2 : b.2 < 2 ^ 64) : lowp b 128 = b := by
  unfold lowp
  rw [if_neg (by decide)]
  exact Prod.ext (Nat.mod_eq_of_lt h1) (Nat.mod_eq_of_lt h2)
theorem lowp_none (b : Nat × Nat) : lowp b 0 = (0, 0) := by
  unfold lowp
  rw [if_pos (by decide), Nat.pow_zero, Nat.mod_one]
theorem pm_none (a : Nat × Nat) : pm a (0, 0) = (0, 0) := by
  unfold pm pmh pml
  simp only [px_zero, Nat.xor_zero]
theorem pm_set (a b : Nat × Nat) (n : Nat) (h : hasP b n = true) : pm a (lowp b (n + 1)) = ((pm a (lowp b n)).1 ^^^ (pm a (bitp n)).1, (pm a (lowp b n)).2 ^^^ (pm a (bitp n)).2) := by
  rw [lowp_set b n h]
  exact Prod.ext (pm_add _ _ _ _ _ _).1 (pm_add _ _ _ _ _ _).2
end Tw
end Go.Proofs.Ytbmjceiogfhffab
