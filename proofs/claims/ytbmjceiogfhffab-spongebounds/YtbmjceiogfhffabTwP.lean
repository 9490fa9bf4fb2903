/- Elements of 128 bits as pairs of words: their product by words, the levels are closed under products and inverses, squares taken often lead back; no Go in sight. -/
import Derived.Test.YtbmjceiogfhffabTwW
namespace Go.Proofs.Ytbmjceiogfhffab
namespace Tw

/-- The element of two words. -/
def d7 (hi lo : Nat) : T 7 := (dec 6 hi, dec 6 lo)
def pmh (ah al bh bl : Nat) : Nat := (px ah bl ^^^ px al bh) ^^^ px 4294967296 (px ah bh)
def pml (ah al bh bl : Nat) : Nat := px al bl ^^^ px ah bh
theorem dec_gen6 : dec 6 4294967296 = gen 6 := by
  apply enc_inj
  decide +kernel
theorem d7_mul (ah al bh bl : Nat) : d7 (pmh ah al bh bl) (pml ah al bh bl) = mul 7 (d7 ah al) (d7 bh bl) := by
  unfold d7 pmh pml
  simp only [dec_xor, dec_px, dec_gen6]
  rfl
theorem d7_inj {ah al bh bl : Nat} (h1 : ah < 2 ^ 64) (h2 : al < 2 ^ 64) (h3 : bh < 2 ^ 64) (h4 : bl < 2 ^ 64) (h : d7 ah al = d7 bh bl) : ah = bh ∧ al = bl := by
  unfold d7 at h
  have e1 := congrArg (fun x : T 6 × T 6 => enc 6 x.1) h
  have e2 := congrArg (fun x : T 6 × T 6 => enc 6 x.2) h
  simp only [enc_dec_lt (k := 6) h1, enc_dec_lt (k := 6) h2, enc_dec_lt (k := 6) h3, enc_dec_lt (k := 6) h4] at e1 e2
  exact ⟨e1, e2⟩
theorem d7_add (ah al bh bl : Nat) : d7 (ah ^^^ bh) (al ^^^ bl) = add 7 (d7 ah al) (d7 bh bl) := by
  unfold d7
  rw [dec_xor, dec_xor]
  rfl
theorem pmh_lt (ah al bh bl : Nat) : pmh ah al bh bl < 2 ^ 64 := Nat.xor_lt_two_pow (Nat.xor_lt_two_pow (px_lt _ _) (px_lt _ _)) (px_lt _ _)
theorem pml_lt (ah al bh bl : Nat) : pml ah al bh bl < 2 ^ 64 := Nat.xor_lt_two_pow (px_lt _ _) (px_lt _ _)

/-- The product of numbers in a level. -/
def pk (k a b : Nat) : Nat := enc k (mul k (dec k a) (dec k b))
/-- An element of a level as one of the level above. -/
def emb (k : Nat) (x : T k) : T (k + 1) := (zero k, x)
theorem dec_low (k a : Nat) (h : a < 2 ^ (2 ^ k)) : dec (k + 1) a = emb k (dec k a) := by
  show (dec k (a >>> 2 ^ k), dec k a) = (zero k, dec k a)
  rw [Nat.shiftRight_eq_div_pow, Nat.div_eq_of_lt h, dec_zero]
theorem enc_low (k : Nat) (x : T k) : enc (k + 1) (emb k x) = enc k x := by
  show 2 ^ (2 ^ k) * enc k (zero k) + enc k x = _
  rw [enc_zero, Nat.mul_zero, Nat.zero_add]
theorem mul_low2 (k : Nat) (x y : T k) : mul (k + 1) (emb k x) (emb k y) = emb k (mul k x y) := by
  refine (mul_low k x (emb k y)).trans ?_
  show (mul k x (zero k), mul k x y) = (zero k, mul k x y)
  rw [mul_zero]
theorem pk_succ (k a b : Nat) (ha : a < 2 ^ (2 ^ k)) (hb : b < 2 ^ (2 ^ k)) : pk (k + 1) a b = pk k a b := by
  unfold pk
  rw [dec_low k a ha, dec_low k b hb, mul_low2, enc_low]
theorem pow_le_up (k j : Nat) : 2 ^ (2 ^ k) ≤ 2 ^ (2 ^ (k + j)) := Nat.pow_le_pow_right (by decide) (Nat.pow_le_pow_right (by decide) (by omega))
theorem pk_up (k j a b : Nat) (ha : a < 2 ^ (2 ^ k)) (hb : b < 2 ^ (2 ^ k)) : pk (k + j) a b = pk k a b := by
  induction j with
  | zero => rfl
  | succ j ih => rw [← Nat.add_assoc, pk_succ (k + j) a b (Nat.lt_of_lt_of_le ha (pow_le_up k j)) (Nat.lt_of_lt_of_le hb (pow_le_up k j)), ih]
theorem px_closed (k a b : Nat) (hk : k ≤ 6) (ha : a < 2 ^ (2 ^ k)) (hb : b < 2 ^ (2 ^ k)) : px a b < 2 ^ (2 ^ k) := by
  have h := pk_up k (6 - k) a b ha hb
  rw [show k + (6 - k) = 6 by omega] at h
  rw [show px a b = pk 6 a b from rfl, h]
  exact enc_lt k _

/-- Squared again and again. -/
def sqn (k : Nat) : Nat → T k → T k
  | 0, a => a
  | n + 1, a => sqn k n (mul k a a)
theorem sqn_add (k n : Nat) (a b : T k) : sqn k n (add k a b) = add k (sqn k n a) (sqn k n b) := by
  induction n generalizing a b with
  | zero => rfl
  | succ n ih => simp only [sqn]; rw [sq_add, ih]
theorem sq_mul (k : Nat) (a b : T k) : mul k (mul k a b) (mul k a b) = mul k (mul k a a) (mul k b b) := by
  simp only [mul_assoc, mul_left_comm k]
theorem sqn_mul (k n : Nat) (a b : T k) : sqn k n (mul k a b) = mul k (sqn k n a) (sqn k n b) := by
  induction n generalizing a b with
  | zero => rfl
  | succ n ih => simp only [sqn]; rw [sq_mul, ih]
theorem sqn_sqn (k m n : Nat) (a : T k) : sqn k m (sqn k n a) = sqn k (n + m) a := by
  induction n generalizing a with
  | zero => simp only [sqn, Nat.zero_add]
  | succ n ih => rw [show n + 1 + m = (n + m) + 1 by omega]; simp only [sqn]; rw [ih]
theorem sqn_low (k n : Nat) (x : T k) : sqn (k + 1) n (emb k x) = emb k (sqn k n x) := by
  induction n generalizing x with
  | zero => rfl
  | succ n ih => simp only [sqn]; rw [mul_low2, ih]
theorem sqn_one (k n : Nat) : sqn k n (one k) = one k := by
  induction n with
  | zero => rfl
  | succ n ih => simp only [sqn]; rw [mul_one, ih]
theorem pair_eq (k : Nat) (a : T (k + 1)) : add (k + 1) (mul (k + 1) (emb k a.1) (gen (k + 1))) (emb k a.2) = a := by
  have h : mul (k + 1) (emb k a.1) (gen (k + 1)) = (mul k a.1 (one k), mul k a.1 (zero k)) := mul_low k a.1 (gen (k + 1))
  rw [h]
  show (add k (mul k a.1 (one k)) (zero k), add k (mul k a.1 (zero k)) a.2) = a
  rw [mul_one, add_zero, mul_zero, zero_add]
  rfl
/-- X X = Z X + 1. -/
theorem gen_sq (k : Nat) : mul (k + 1) (gen (k + 1)) (gen (k + 1)) = add (k + 1) (mul (k + 1) (emb k (gen k)) (gen (k + 1))) (one (k + 1)) := by
  have h : mul (k + 1) (emb k (gen k)) (gen (k + 1)) = (mul k (gen k) (one k), mul k (gen k) (zero k)) := mul_low k (gen k) (gen (k + 1))
  rw [h, sq_succ]
  show (mul k (gen k) (mul k (one k) (one k)), add k (mul k (zero k) (zero k)) (mul k (one k) (one k))) = (add k (mul k (gen k) (one k)) (zero k), add k (mul k (gen k) (zero k)) (one k))
  rw [mul_one, mul_one, mul_zero, mul_zero, add_zero]
/-- A zero of y y + Z y + 1 is X or X + Z, where X is one. -/
theorem two_roots (k : Nat) (X Z y : T k) (hX : mul k X X = add k (mul k Z X) (one k)) (hy : mul k y y = add k (mul k Z y) (one k)) : y = X ∨ y = add k X Z := by
  have h : mul k (add k y X) (add k y (add k X Z)) = zero k := by
    simp only [mul_add, add_mul]
    rw [hX, hy, mul_comm k X y, mul_comm k y Z, mul_comm k X Z]
    simp only [add_left_comm k, add_comm k, add_self_left, add_self, add_zero]
  by_cases h0 : add k y X = zero k
  · exact .inl (add_eq_zero h0)
  · exact .inr (add_eq_zero (mul_eq_zero h h0))
/-- An element squared as often as its level has bits is itself again. -/
theorem frob (k : Nat) (a : T k) : sqn k (2 ^ k) a = a := by
  induction k with
  | zero => exact Bool.and_self a
  | succ k ih =>
    have fix : ∀ x : T k, sqn (k + 1) (2 ^ k) (emb k x) = emb k x := fun x => by rw [sqn_low, ih]
    have hg : sqn (k + 1) (2 ^ k) (sqn (k + 1) (2 ^ k) (gen (k + 1))) = gen (k + 1) := by
      have h1 := congrArg (sqn (k + 1) (2 ^ k)) (gen_sq k)
      rw [sqn_mul, sqn_add, sqn_mul, fix, sqn_one] at h1
      rcases two_roots (k + 1) (gen (k + 1)) (emb k (gen k)) _ (gen_sq k) h1 with h | h
      · rw [h, h]
      · rw [h, sqn_add, fix, h, add_assoc, add_self, add_zero]
    rw [show 2 ^ (k + 1) = 2 ^ k + 2 ^ k by rw [Nat.pow_succ]; omega, ← sqn_sqn]
    have hp := pair_eq k a
    rw [← hp, sqn_add, sqn_mul, fix, fix, sqn_add, sqn_mul, fix, fix, hg]
theorem sqn_succ (k n : Nat) (a : T k) : sqn k (n + 1) a = mul k (sqn k n a) (sqn k n a) := by
  show sqn k n (mul k a a) = _
  rw [sqn_mul]
/-- The product of the squares of an element, from the first to the n-th. -/
def sqs (k : Nat) (a : T k) : Nat → T k
  | 0 => one k
  | n + 1 => mul k (sqs k a n) (sqn k (n + 1) a)
theorem sqs_eq (k n : Nat) (a : T k) : mul k a (mul k a (sqs k a n)) = sqn k (n + 1) a := by
  induction n with
  | zero => rw [sqs, mul_one]; rfl
  | succ n ih =>
    rw [sqs, sqn_succ k (n + 1), ← ih]
    simp only [mul_assoc]
theorem cancel {k : Nat} {a b c : T k} (ha : a ≠ zero k) (h : mul k a b = mul k a c) : b = c := by
  have h1 : mul k a (add k b c) = zero k := by rw [mul_add, h, add_self]
  exact add_eq_zero (mul_eq_zero h1 ha)
/-- The inverse is the product of all squares but the first. -/
theorem inv_sqs (k : Nat) (a : T k) (ha : a ≠ zero k) (m : Nat) (hm : m + 1 = 2 ^ k) : sqs k a m = inv k a := by
  apply inv_unique
  have h := sqs_eq k m a
  rw [hm, frob] at h
  have h2 : mul k a (mul k a (sqs k a m)) = mul k a (one k) := by rw [h, mul_one]
  exact cancel ha h2
theorem emb_inj {k : Nat} {x y : T k} (h : emb k x = emb k y) : x = y := (Prod.mk.inj h).2
theorem inv_low (k : Nat) (x : T k) : inv (k + 1) (emb k x) = emb k (inv k x) := by
  by_cases h : x = zero k
  · rw [h, inv_zero]
    exact inv_zero (k + 1)
  · refine (inv_unique ?_).symm
    rw [mul_low2, field k x h]
    rfl
theorem inv_inv (k : Nat) (a : T k) : inv k (inv k a) = a := by
  by_cases h : a = zero k
  · rw [h, inv_zero, inv_zero]
  · refine (inv_unique ?_).symm
    rw [mul_comm]
    exact field k a h
end Tw
end Go.Proofs.Ytbmjceiogfhffab
