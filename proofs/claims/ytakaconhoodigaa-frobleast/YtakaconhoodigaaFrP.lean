/- Squares of squares, no Go in sight: what is fixed by them is of the level below; traces and norms. -/
import Derived.Test.YtakaconhoodigaaCbA
namespace Go.Proofs.Ytakaconhoodigaa
namespace Tw
/-- The sum of the first n squares of squares. -/
def trs (k : Nat) : Nat → T k → T k
  | 0, _ => zero k
  | n + 1, a => add k (trs k n a) (sqn k n a)
theorem sqn_zero' (k n : Nat) : sqn k n (zero k) = zero k := by
  have h := sqn_add k n (zero k) (zero k)
  rw [add_self, add_self] at h
  exact h
theorem trs_add (k n : Nat) (a b : T k) : trs k n (add k a b) = add k (trs k n a) (trs k n b) := by
  induction n with
  | zero => exact (add_zero k _).symm
  | succ n ih =>
    simp only [trs]
    rw [ih, sqn_add, add_assoc, add_assoc, add_left_comm k (trs k n b)]
theorem trs_split (k m n : Nat) (a : T k) : trs k (m + n) a = add k (trs k m a) (trs k n (sqn k m a)) := by
  induction n with
  | zero => exact (add_zero k _).symm
  | succ n ih =>
    rw [show m + (n + 1) = m + n + 1 by omega]
    simp only [trs]
    rw [ih, sqn_sqn, add_assoc]
theorem add_low2 (k : Nat) (x y : T k) : add (k + 1) (emb k x) (emb k y) = emb k (add k x y) := by
  show (add k (zero k) (zero k), add k x y) = (zero k, add k x y)
  rw [add_zero]
theorem trs_low (k n : Nat) (x : T k) : trs (k + 1) n (emb k x) = emb k (trs k n x) := by
  induction n with
  | zero => rfl
  | succ n ih => simp only [trs]; rw [ih, sqn_low, add_low2]
theorem one_ne (k : Nat) : one k ≠ zero k := by
  induction k with
  | zero => intro h; cases h
  | succ k ih => intro h; exact ih (Prod.mk.inj h).2
/-- The trace of a square is that of what is squared. -/
theorem trs_sq (k : Nat) (a : T k) : trs k (2 ^ k) (mul k a a) = trs k (2 ^ k) a := by
  have h1 := trs_split k 1 (2 ^ k) a
  have h2 := trs_split k (2 ^ k) 1 a
  rw [Nat.add_comm] at h2
  rw [h1] at h2
  rw [frob] at h2
  have e : ∀ b : T k, trs k 1 b = b := fun b => zero_add k b
  have e1 : sqn k 1 a = mul k a a := rfl
  rw [e, e1, add_comm k (trs k (2 ^ k) a)] at h2
  have h3 := congrArg (add k a) h2
  rwa [add_self_left, add_self_left] at h3
/-- Where an inverse of the generator has the trace 1, the generator of the level above is not fixed. -/
theorem gen_moves (k : Nat) (U : T k) (hU : mul k (gen k) U = one k) (ht : trs k (2 ^ k) U = one k) : sqn (k + 1) (2 ^ k) (gen (k + 1)) = add (k + 1) (gen (k + 1)) (emb k (gen k)) := by
  have fix : ∀ x : T k, sqn (k + 1) (2 ^ k) (emb k x) = emb k x := fun x => by rw [sqn_low, frob]
  have h1 := congrArg (sqn (k + 1) (2 ^ k)) (gen_sq k)
  rw [sqn_mul, sqn_add, sqn_mul, fix, sqn_one] at h1
  rcases two_roots (k + 1) (gen (k + 1)) (emb k (gen k)) _ (gen_sq k) h1 with h | h
  · exfalso
    obtain ⟨y, hy⟩ : ∃ y, y = mul (k + 1) (emb k U) (gen (k + 1)) := ⟨_, rfl⟩
    have e2 : mul (k + 1) y y = add (k + 1) y (emb k (mul k U U)) := by
      rw [hy, mul_assoc, mul_comm (k + 1) (gen (k + 1)) (mul (k + 1) (emb k U) (gen (k + 1))), mul_assoc, gen_sq, mul_add, mul_add, mul_one, ← mul_assoc (k + 1) (emb k U) (emb k (gen k)), mul_low2, mul_comm k U (gen k), hU]
      have e3 : emb k (one k) = one (k + 1) := rfl
      rw [e3, one_mul, mul_low2]
    have e4 : ∀ n, sqn (k + 1) n y = add (k + 1) y (emb k (trs k n (mul k U U))) := by
      intro n
      induction n with
      | zero => exact (add_zero (k + 1) y).symm
      | succ n ih =>
        show sqn (k + 1) n (mul (k + 1) y y) = _
        rw [e2, sqn_add, ih, sqn_low, add_assoc, add_low2]
        rfl
    have e5 := e4 (2 ^ k)
    rw [trs_sq, ht] at e5
    have e6 : sqn (k + 1) (2 ^ k) y = y := by rw [hy, sqn_mul, fix, h]
    rw [e6] at e5
    have e7 := congrArg (add (k + 1) y) e5
    rw [add_self, add_self_left] at e7
    exact one_ne (k + 1) e7.symm
  · exact h
/-- The generator and its inverse have the trace 1. -/
theorem gen_traces (k : Nat) : trs k (2 ^ k) (gen k) = one k ∧ ∃ U, mul k (gen k) U = one k ∧ trs k (2 ^ k) U = one k := by
  induction k with
  | zero => exact ⟨rfl, true, rfl, rfl⟩
  | succ k ih =>
    obtain ⟨h1, U, hU, ht⟩ := ih
    have hm := gen_moves k U hU ht
    have fix : ∀ x : T k, sqn (k + 1) (2 ^ k) (emb k x) = emb k x := fun x => by rw [sqn_low, frob]
    have hl : trs (k + 1) (2 ^ k) (emb k (gen k)) = one (k + 1) := by rw [trs_low, h1]; rfl
    have hp : 2 ^ (k + 1) = 2 ^ k + 2 ^ k := by rw [Nat.pow_succ]; omega
    refine ⟨?_, add (k + 1) (gen (k + 1)) (emb k (gen k)), ?_, ?_⟩
    · rw [hp, trs_split, hm, trs_add, add_self_left, hl]
    · rw [mul_add, gen_sq, mul_comm (k + 1) (gen (k + 1)), add_comm (k + 1) _ (one (k + 1)), add_assoc, add_self, add_zero]
    · rw [hp, trs_split, sqn_add, hm, fix, add_assoc, add_self, add_zero, trs_add, add_assoc, add_comm (k + 1) _ (trs (k + 1) (2 ^ k) (gen (k + 1))), add_self_left, hl]
/-- What is fixed is of the level below. -/
theorem fixed_low (k : Nat) (a : T (k + 1)) (h : sqn (k + 1) (2 ^ k) a = a) : a = emb k a.2 := by
  obtain ⟨_, U, hU, ht⟩ := gen_traces k
  have hm := gen_moves k U hU ht
  have fix : ∀ x : T k, sqn (k + 1) (2 ^ k) (emb k x) = emb k x := fun x => by rw [sqn_low, frob]
  have hp := pair_eq k a
  rw [← hp, sqn_add, sqn_mul, fix, fix, hm, mul_add, add_assoc] at h
  have h2 := congrArg (add (k + 1) (mul (k + 1) (emb k a.1) (gen (k + 1)))) h
  rw [add_self_left, add_self_left, mul_low2] at h2
  have h3 := congrArg (add (k + 1) (emb k a.2)) h2
  rw [add_comm (k + 1) (emb k (mul k a.1 (gen k))), add_self_left, add_self] at h3
  have h4 : mul k a.1 (gen k) = zero k := emb_inj (k := k) h3
  have h5 : mul k (mul k a.1 (gen k)) U = mul k (zero k) U := by rw [h4]
  rw [mul_assoc, hU, mul_one, mul_comm, mul_zero] at h5
  exact Prod.ext h5 rfl
theorem sqn_more (k m : Nat) (a : T k) (h : sqn k m a = a) (n : Nat) : sqn k (m * n) a = a := by
  induction n with
  | zero => rfl
  | succ n ih => rw [Nat.mul_succ, ← sqn_sqn, ih, h]
theorem fixed_levels (j i : Nat) : ∀ b : T (j + i), sqn (j + i) (2 ^ j) b = b → enc (j + i) b < 2 ^ 2 ^ j := by
  induction i with
  | zero => intro b _; exact enc_lt _ _
  | succ i ih =>
    intro b hb
    have h1 : sqn (j + i + 1) (2 ^ (j + i)) b = b := by
      rw [Nat.pow_add]
      exact sqn_more _ _ _ hb _
    have h2 := fixed_low (j + i) b h1
    have h3 : enc (j + i + 1) b = enc (j + i) b.2 := by
      rw [h2, enc_low]; rfl
    have h4 : sqn (j + i) (2 ^ j) b.2 = b.2 := by
      have h5 : sqn (j + i + 1) (2 ^ j) b = b := hb
      rw [h2, sqn_low] at h5
      exact emb_inj h5
    show enc (j + i + 1) b < _
    rw [h3]
    exact ih _ h4
end Tw
end Go.Proofs.Ytakaconhoodigaa
