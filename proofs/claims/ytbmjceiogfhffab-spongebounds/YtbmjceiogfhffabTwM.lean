/- The tower of fields of characteristic two, as pairs: sums, products, and that each level is a commutative ring without noughts that divide; no Go in sight. -/
namespace Go.Proofs.Ytbmjceiogfhffab
namespace Tw

/-- The elements of a level: a bit, or a pair (hi, lo) of elements of the level below. -/
def T : Nat → Type
  | 0 => Bool
  | k + 1 => T k × T k
def zero : (k : Nat) → T k
  | 0 => false
  | k + 1 => (zero k, zero k)
def one : (k : Nat) → T k
  | 0 => true
  | k + 1 => (zero k, one k)
def add : (k : Nat) → T k → T k → T k
  | 0, a, b => xor a b
  | k + 1, a, b => (add k a.1 b.1, add k a.2 b.2)
/-- The generator of a level (of level 0: 1). -/
def gen : (k : Nat) → T k
  | 0 => true
  | k + 1 => (one k, zero k)
def mul : (k : Nat) → T k → T k → T k
  | 0, a, b => and a b
  | k + 1, a, b => (add k (add k (mul k a.1 b.2) (mul k a.2 b.1)) (mul k (gen k) (mul k a.1 b.1)), add k (mul k a.2 b.2) (mul k a.1 b.1))

theorem add_comm (k : Nat) (a b : T k) : add k a b = add k b a := by
  induction k with
  | zero => exact Bool.xor_comm a b
  | succ k ih => simp only [add]; rw [ih, ih a.2]
theorem add_assoc (k : Nat) (a b c : T k) : add k (add k a b) c = add k a (add k b c) := by
  induction k with
  | zero => exact Bool.xor_assoc a b c
  | succ k ih => simp only [add]; rw [ih, ih a.2]
theorem add_left_comm (k : Nat) (a b c : T k) : add k a (add k b c) = add k b (add k a c) := by
  rw [← add_assoc, add_comm k a b, add_assoc]
theorem add_zero (k : Nat) (a : T k) : add k a (zero k) = a := by
  induction k with
  | zero => exact Bool.xor_false a
  | succ k ih => simp only [add, zero]; rw [ih, ih]; rfl
theorem zero_add (k : Nat) (a : T k) : add k (zero k) a = a := by rw [add_comm, add_zero]
theorem add_self (k : Nat) (a : T k) : add k a a = zero k := by
  induction k with
  | zero => exact Bool.xor_self a
  | succ k ih => simp only [add, zero]; rw [ih, ih]
theorem add_self_left (k : Nat) (a b : T k) : add k a (add k a b) = b := by rw [← add_assoc, add_self, zero_add]
theorem add_eq_zero {k : Nat} {a b : T k} (h : add k a b = zero k) : a = b := by
  have := congrArg (add k a) h
  rw [add_self_left, add_zero] at this
  exact this.symm

theorem mul_comm (k : Nat) (a b : T k) : mul k a b = mul k b a := by
  induction k with
  | zero => exact Bool.and_comm a b
  | succ k ih =>
    simp only [mul]
    rw [ih b.1 a.1, ih b.2 a.2, ih b.1 a.2, ih b.2 a.1, add_comm k (mul k a.2 b.1)]
theorem mul_zero (k : Nat) (a : T k) : mul k a (zero k) = zero k := by
  induction k with
  | zero => exact Bool.and_false a
  | succ k ih => simp only [mul, zero]; simp only [ih, add_zero]; rfl
theorem zero_mul (k : Nat) (a : T k) : mul k (zero k) a = zero k := by rw [mul_comm, mul_zero]
theorem mul_one (k : Nat) (a : T k) : mul k a (one k) = a := by
  induction k with
  | zero => exact Bool.and_true a
  | succ k ih => simp only [mul, one]; simp only [ih, mul_zero, add_zero]; rfl
theorem one_mul (k : Nat) (a : T k) : mul k (one k) a = a := by rw [mul_comm, mul_one]
theorem mul_add (k : Nat) (a b c : T k) : mul k a (add k b c) = add k (mul k a b) (mul k a c) := by
  induction k with
  | zero => exact Bool.and_xor_distrib_left a b c
  | succ k ih =>
    simp only [mul, add]
    simp only [ih]
    refine Prod.ext ?_ ?_
    · simp only [add_assoc, add_left_comm k]
    · simp only [add_assoc, add_left_comm k]
theorem add_mul (k : Nat) (a b c : T k) : mul k (add k b c) a = add k (mul k b a) (mul k c a) := by
  rw [mul_comm, mul_add, mul_comm k a b, mul_comm k a c]
theorem mul_assoc (k : Nat) (a b c : T k) : mul k (mul k a b) c = mul k a (mul k b c) := by
  induction k with
  | zero => exact Bool.and_assoc a b c
  | succ k ih =>
    have lc : ∀ x y z : T k, mul k x (mul k y z) = mul k y (mul k x z) := fun x y z => by rw [← ih, mul_comm k x y, ih]
    have cm := mul_comm k
    simp only [mul]
    simp only [mul_add, add_mul]
    refine Prod.ext ?_ ?_
    · simp only [ih, cm, lc, add_assoc, add_comm k, add_left_comm k]
    · simp only [ih, cm, lc, add_assoc, add_comm k, add_left_comm k]
theorem mul_left_comm (k : Nat) (a b c : T k) : mul k a (mul k b c) = mul k b (mul k a c) := by rw [← mul_assoc, mul_comm k a b, mul_assoc]

/-- The trace down to the bit. -/
def tr : (k : Nat) → T k → Bool
  | 0, a => a
  | k + 1, a => tr k (mul k (gen k) a.1)
theorem tr_add (k : Nat) (a b : T k) : tr k (add k a b) = xor (tr k a) (tr k b) := by
  induction k with
  | zero => rfl
  | succ k ih => simp only [tr, add]; rw [mul_add, ih]
theorem sq_succ (k : Nat) (a : T (k + 1)) : mul (k + 1) a a = (mul k (gen k) (mul k a.1 a.1), add k (mul k a.2 a.2) (mul k a.1 a.1)) := by
  simp only [mul]
  rw [mul_comm k a.2 a.1, add_self, zero_add]
theorem tr_sq (k : Nat) (a : T k) : tr k (mul k a a) = tr k a := by
  induction k with
  | zero => exact Bool.and_self a
  | succ k ih =>
    rw [sq_succ]
    simp only [tr]
    have e : mul k (gen k) (mul k (gen k) (mul k a.1 a.1)) = mul k (mul k (gen k) a.1) (mul k (gen k) a.1) := by
      simp only [mul_assoc, mul_left_comm k a.1]
    rw [e, ih]
theorem tr_gen (k : Nat) : tr k (gen k) = true := by
  induction k with
  | zero => rfl
  | succ k ih => simp only [tr, gen]; rw [mul_one]; exact ih
/-- The inverse of the generator. -/
def gi : (k : Nat) → T k
  | 0 => true
  | k + 1 => (one k, gen k)
theorem gen_gi (k : Nat) : mul k (gen k) (gi k) = one k := by
  cases k with
  | zero => rfl
  | succ k =>
    simp only [mul, gen, gi, one]
    simp only [one_mul, zero_mul, mul_one, add_zero, zero_add, add_self]
    rfl
theorem tr_gi (k : Nat) : tr k (gi k) = true := by
  cases k with
  | zero => rfl
  | succ k => simp only [tr, gi]; rw [mul_one]; exact tr_gen k
/-- X X + Z X + 1 has no zero in the level of Z. -/
theorem no_root (k : Nat) (t : T k) : add k (add k (mul k t t) (mul k (gen k) t)) (one k) ≠ zero k := by
  intro h
  have h1 := congrArg (fun x => mul k (mul k (gi k) (gi k)) x) h
  simp only [mul_zero, mul_add, mul_one] at h1
  have e1 : mul k (mul k (gi k) (gi k)) (mul k t t) = mul k (mul k t (gi k)) (mul k t (gi k)) := by
    simp only [mul_comm k, mul_left_comm k]
  have e2 : mul k (mul k (gi k) (gi k)) (mul k (gen k) t) = mul k t (gi k) := by
    have : mul k (mul k (gi k) (gi k)) (mul k (gen k) t) = mul k (mul k (gen k) (gi k)) (mul k t (gi k)) := by
      simp only [mul_comm k, mul_left_comm k]
    rw [this, gen_gi, one_mul]
  rw [e1, e2] at h1
  have h2 := congrArg (tr k) h1
  rw [tr_add, tr_add, tr_sq, tr_sq, tr_gi] at h2
  have hz : tr k (zero k) = false := by
    have := tr_add k (zero k) (zero k)
    rw [add_zero] at this
    rw [Bool.xor_self] at this
    exact this
  rw [hz] at h2
  simp at h2

/-- The norm down to the level below. -/
def norm (k : Nat) (a : T (k + 1)) : T k := add k (mul k a.1 a.1) (mul k a.2 (add k a.2 (mul k (gen k) a.1)))
def inv : (k : Nat) → T k → T k
  | 0, a => a
  | k + 1, a => (mul k a.1 (inv k (norm k a)), mul k (add k a.2 (mul k (gen k) a.1)) (inv k (norm k a)))
theorem mul_conj (k : Nat) (a : T (k + 1)) (c : T k) : mul (k + 1) a (mul k a.1 c, mul k (add k a.2 (mul k (gen k) a.1)) c) = (zero k, mul k (norm k a) c) := by
  simp only [mul, norm]
  refine Prod.ext ?_ ?_
  · simp only [mul_add, add_mul, mul_assoc, mul_left_comm k]
    simp only [add_comm k, add_self_left, add_self]
  · simp only [mul_add, add_mul, mul_assoc, mul_left_comm k]
    simp only [add_comm k]
theorem field (k : Nat) (a : T k) (h : a ≠ zero k) : mul k a (inv k a) = one k := by
  induction k with
  | zero =>
    cases a
    · exact absurd rfl h
    · rfl
  | succ k ih =>
    have hn : norm k a ≠ zero k := by
      intro h0
      by_cases h1 : a.1 = zero k
      · have h2 : a.2 ≠ zero k := fun h2 => h (Prod.ext h1 h2)
        have h3 : mul k a.2 a.2 = zero k := by
          unfold norm at h0
          rw [h1, mul_zero, mul_zero, add_zero, zero_add] at h0
          exact h0
        have h4 := ih a.2 h2
        have h5 : mul k (mul k a.2 a.2) (inv k a.2) = a.2 := by rw [mul_assoc, h4, mul_one]
        rw [h3, zero_mul] at h5
        exact h2 h5.symm
      · have h4 := ih a.1 h1
        have h5 := congrArg (fun x => mul k x (mul k (inv k a.1) (inv k a.1))) h0
        simp only [zero_mul] at h5
        have e1 : mul k (norm k a) (mul k (inv k a.1) (inv k a.1)) = add k (add k (mul k (mul k a.2 (inv k a.1)) (mul k a.2 (inv k a.1))) (mul k (gen k) (mul k a.2 (inv k a.1)))) (one k) := by
          have f1 : mul k (mul k a.1 a.1) (mul k (inv k a.1) (inv k a.1)) = one k := by
            have : mul k (mul k a.1 a.1) (mul k (inv k a.1) (inv k a.1)) = mul k (mul k a.1 (inv k a.1)) (mul k a.1 (inv k a.1)) := by
              simp only [mul_assoc, mul_left_comm k]
            rw [this, h4, mul_one]
          have f2 : mul k (mul k a.2 (mul k (gen k) a.1)) (mul k (inv k a.1) (inv k a.1)) = mul k (gen k) (mul k a.2 (inv k a.1)) := by
            have : mul k (mul k a.2 (mul k (gen k) a.1)) (mul k (inv k a.1) (inv k a.1)) = mul k (mul k a.1 (inv k a.1)) (mul k (gen k) (mul k a.2 (inv k a.1))) := by
              simp only [mul_comm k, mul_left_comm k]
            rw [this, h4, one_mul]
          have f3 : mul k (mul k a.2 a.2) (mul k (inv k a.1) (inv k a.1)) = mul k (mul k a.2 (inv k a.1)) (mul k a.2 (inv k a.1)) := by
            simp only [mul_comm k, mul_left_comm k]
          unfold norm
          rw [add_mul, mul_add, add_mul, f1, f2, f3, add_comm]
        rw [e1] at h5
        exact no_root k _ h5
    show mul (k + 1) a (inv (k + 1) a) = (zero k, one k)
    rw [inv, mul_conj, ih _ hn]
theorem mul_eq_zero {k : Nat} {a b : T k} (h : mul k a b = zero k) (ha : a ≠ zero k) : b = zero k := by
  have h1 : mul k (inv k a) (mul k a b) = b := by rw [← mul_assoc, mul_comm k (inv k a), field k a ha, one_mul]
  rw [← h1, h, mul_zero]
theorem inv_zero (k : Nat) : inv k (zero k) = zero k := by
  cases k with
  | zero => rfl
  | succ k => simp only [inv, zero]; simp only [zero_mul, mul_zero, add_zero]; rfl
theorem inv_unique {k : Nat} {a b : T k} (h : mul k a b = one k) : b = inv k a := by
  have ha : a ≠ zero k := by
    intro h0
    rw [h0, zero_mul] at h
    have : ∀ j, zero j ≠ one j := by
      intro j
      induction j with
      | zero => exact Bool.false_ne_true
      | succ j ih => intro e; exact ih (Prod.mk.inj e).2
    exact this k h
  have h1 : mul k (inv k a) (mul k a b) = b := by rw [← mul_assoc, mul_comm k (inv k a), field k a ha, one_mul]
  rw [← h1, h, mul_one]
end Tw
end Go.Proofs.Ytbmjceiogfhffab
