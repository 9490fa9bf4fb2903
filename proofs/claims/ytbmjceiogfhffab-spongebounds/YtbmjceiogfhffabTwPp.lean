/- Pairs of words squared again and again, and their powers. No Go in sight. -/
import Derived.Test.YtbmjceiogfhffabTwU
namespace Go.Proofs.Ytbmjceiogfhffab
namespace Tw
theorem sqn_up (k n a : Nat) (h : a < 2 ^ (2 ^ k)) (j : Nat) : enc (k + j) (sqn (k + j) n (dec (k + j) a)) = enc k (sqn k n (dec k a)) := by
  induction j with
  | zero => rfl
  | succ j ih => rw [← Nat.add_assoc, dec_low (k + j) a (Nat.lt_of_lt_of_le h (pow_le_up k j)), sqn_low, enc_low, ih]
/-- A pair squared again and again. -/
def sqp (xh xl : Nat) : Nat → Nat × Nat
  | 0 => (xh, xl)
  | i + 1 => (pmh (sqp xh xl i).1 (sqp xh xl i).2 (sqp xh xl i).1 (sqp xh xl i).2, pml (sqp xh xl i).1 (sqp xh xl i).2 (sqp xh xl i).1 (sqp xh xl i).2)
theorem sqp_lt {xh xl : Nat} (h1 : xh < 2 ^ 64) (h2 : xl < 2 ^ 64) : ∀ i, (sqp xh xl i).1 < 2 ^ 64 ∧ (sqp xh xl i).2 < 2 ^ 64
  | 0 => ⟨h1, h2⟩
  | _ + 1 => ⟨pmh_lt _ _ _ _, pml_lt _ _ _ _⟩
theorem d7_sqp (xh xl : Nat) : ∀ i, d7 (sqp xh xl i).1 (sqp xh xl i).2 = sqn 7 i (d7 xh xl)
  | 0 => rfl
  | i + 1 => by rw [sqn_succ, ← d7_sqp xh xl i, ← d7_mul]; rfl
theorem sqp_back {k xh xl : Nat} (hk : k < 8) (h1 : xh < 2 ^ 64) (h2 : xl < 2 ^ 64) (h : k = 7 ∨ (xh = 0 ∧ xl < 2 ^ 2 ^ k)) : sqp xh xl (2 ^ k) = (xh, xl) := by
  have hd : sqn 7 (2 ^ k) (d7 xh xl) = d7 xh xl := by
    rcases h with rfl | ⟨rfl, h3⟩
    · exact frob 7 _
    · have e7 : d7 0 xl = dec 7 xl := by rw [← dec7 0 xl h2, Nat.mul_zero, Nat.zero_add]
      have e := sqn_up k (2 ^ k) xl h3 (7 - k)
      rw [show k + (7 - k) = 7 by omega, frob, enc_dec_lt h3] at e
      rw [e7]
      apply enc_inj
      rw [e, enc_dec_lt]
      exact Nat.lt_of_lt_of_le h3 (by have := pow_le_up k (7 - k); rwa [show k + (7 - k) = 7 by omega] at this)
  have h4 := sqp_lt h1 h2 (2 ^ k)
  have h5 := d7_inj h4.1 h4.2 h1 h2 ((d7_sqp xh xl _).trans hd)
  exact Prod.ext h5.1 h5.2
/-- Powers. -/
def pow (k : Nat) (a : T k) : Nat → T k
  | 0 => one k
  | n + 1 => mul k (pow k a n) a
theorem pow_add (k : Nat) (a : T k) (m n : Nat) : pow k a (m + n) = mul k (pow k a m) (pow k a n) := by
  induction n with
  | zero => exact (mul_one k _).symm
  | succ n ih => rw [← Nat.add_assoc]; show mul k (pow k a (m + n)) a = mul k (pow k a m) (mul k (pow k a n) a); rw [ih, mul_assoc]
theorem pow_one (k : Nat) (a : T k) : pow k a 1 = a := one_mul k a
theorem pow_of_one (k n : Nat) : pow k (one k) n = one k := by
  induction n with
  | zero => rfl
  | succ n ih => show mul k (pow k (one k) n) (one k) = _; rw [ih, mul_one]
theorem pow_mul (k : Nat) (a : T k) (m n : Nat) : pow k (pow k a m) n = pow k a (m * n) := by
  induction n with
  | zero => rfl
  | succ n ih => show mul k (pow k (pow k a m) n) (pow k a m) = _; rw [ih, Nat.mul_succ, pow_add]
theorem sqn_pow (k : Nat) (a : T k) (n : Nat) : sqn k n a = pow k a (2 ^ n) := by
  induction n with
  | zero => exact (pow_one k a).symm
  | succ n ih => rw [sqn_succ, ih, ← pow_add, Nat.pow_succ, Nat.mul_two]
theorem d7_one' : d7 0 1 = one 7 := by
  unfold d7; rw [dec_one, dec_zero]; rfl
/-- Powers of pairs. -/
def pph (xh xl n : Nat) : Nat := enc 6 (pow 7 (d7 xh xl) n).1
def ppl (xh xl n : Nat) : Nat := enc 6 (pow 7 (d7 xh xl) n).2
theorem pph_lt (xh xl n : Nat) : pph xh xl n < 2 ^ 64 := enc_lt 6 _
theorem ppl_lt (xh xl n : Nat) : ppl xh xl n < 2 ^ 64 := enc_lt 6 _
theorem d7_pp (xh xl n : Nat) : d7 (pph xh xl n) (ppl xh xl n) = pow 7 (d7 xh xl) n := by
  show (dec 6 (pph xh xl n), dec 6 (ppl xh xl n)) = _
  unfold pph ppl; rw [dec_enc, dec_enc]
  rfl
theorem pp_zero (xh xl : Nat) : pph xh xl 0 = 0 ∧ ppl xh xl 0 = 1 :=
  d7_inj (pph_lt _ _ _) (ppl_lt _ _ _) (by decide) (by decide) (by rw [d7_pp, d7_one']; rfl)
theorem pp_succ (xh xl n : Nat) : pmh (pph xh xl n) (ppl xh xl n) xh xl = pph xh xl (n + 1) ∧ pml (pph xh xl n) (ppl xh xl n) xh xl = ppl xh xl (n + 1) :=
  d7_inj (pmh_lt _ _ _ _) (pml_lt _ _ _ _) (pph_lt _ _ _) (ppl_lt _ _ _) (by rw [d7_mul, d7_pp, d7_pp]; rfl)
theorem pp_step (xh xl n j : Nat) (h : n / 2 ^ j % 2 = 1) : pmh (pph xh xl (n % 2 ^ j)) (ppl xh xl (n % 2 ^ j)) (sqp xh xl j).1 (sqp xh xl j).2 = pph xh xl (n % 2 ^ (j + 1)) ∧ pml (pph xh xl (n % 2 ^ j)) (ppl xh xl (n % 2 ^ j)) (sqp xh xl j).1 (sqp xh xl j).2 = ppl xh xl (n % 2 ^ (j + 1)) :=
  d7_inj (pmh_lt _ _ _ _) (pml_lt _ _ _ _) (pph_lt _ _ _) (ppl_lt _ _ _) (by
    rw [d7_mul, d7_pp, d7_pp, d7_sqp, sqn_pow, ← pow_add, Nat.pow_succ, Nat.mod_mul, h, Nat.mul_one])
theorem pp_mul (xh xl m n : Nat) : pmh (pph xh xl m) (ppl xh xl m) (pph xh xl n) (ppl xh xl n) = pph xh xl (m + n) ∧ pml (pph xh xl m) (ppl xh xl m) (pph xh xl n) (ppl xh xl n) = ppl xh xl (m + n) :=
  d7_inj (pmh_lt _ _ _ _) (pml_lt _ _ _ _) (pph_lt _ _ _) (ppl_lt _ _ _) (by rw [d7_mul, d7_pp, d7_pp, d7_pp, pow_add])
theorem pp_pp (xh xl m n : Nat) : pph (pph xh xl m) (ppl xh xl m) n = pph xh xl (m * n) ∧ ppl (pph xh xl m) (ppl xh xl m) n = ppl xh xl (m * n) :=
  d7_inj (pph_lt _ _ _) (ppl_lt _ _ _) (pph_lt _ _ _) (ppl_lt _ _ _) (by rw [d7_pp, d7_pp, d7_pp, pow_mul])
end Tw

end Go.Proofs.Ytbmjceiogfhffab
