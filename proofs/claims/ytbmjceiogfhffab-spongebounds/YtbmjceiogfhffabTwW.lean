/- Words of 64 bits as elements of level 6: the products with generators and the squares that masks and shifts make are the tower's; no Go in sight. -/
import Derived.Test.YtbmjceiogfhffabTwN
namespace Go.Proofs.Ytbmjceiogfhffab
namespace Tw

/-- An element times the generator, cheaply. -/
def mulX : (k : Nat) → T k → T k
  | 0, a => a
  | k + 1, a => (add k a.2 (mulX k a.1), a.1)
theorem mulX_eq (k : Nat) (a : T k) : mulX k a = mul k (gen k) a := by
  induction k with
  | zero => exact (Bool.true_and a).symm
  | succ k ih =>
    show (add k a.2 (mulX k a.1), a.1) = (add k (add k (mul k (one k) a.2) (mul k (zero k) a.1)) (mul k (gen k) (mul k (one k) a.1)), add k (mul k (zero k) a.2) (mul k (one k) a.1))
    rw [one_mul, zero_mul, add_zero, one_mul, zero_mul, zero_add, ih]
/-- Each block of a level times that level's generator. -/
def laneX (j : Nat) : (k : Nat) → T k → T k
  | 0, a => a
  | k + 1, a => if j = k + 1 then mulX (k + 1) a else (laneX j k a.1, laneX j k a.2)
/-- The generator of a level, as an element of another above it. -/
def gk (j : Nat) : (k : Nat) → T k
  | 0 => one 0
  | k + 1 => if j = k + 1 then gen (k + 1) else (zero k, gk j k)
theorem mul_low (k : Nat) (x : T k) (a : T (k + 1)) : mul (k + 1) (zero k, x) a = (mul k x a.1, mul k x a.2) := by
  simp only [mul]
  simp only [zero_mul, mul_zero, add_zero, zero_add]
  rfl
theorem laneX_eq (j k : Nat) (a : T k) : laneX j k a = mul k (gk j k) a := by
  induction k with
  | zero => exact (Bool.true_and a).symm
  | succ k ih =>
    by_cases h : j = k + 1
    · have e1 : laneX j (k + 1) a = mulX (k + 1) a := by unfold laneX; exact if_pos h
      have e2 : gk j (k + 1) = gen (k + 1) := by unfold gk; exact if_pos h
      rw [e1, e2, mulX_eq]
    · have e1 : laneX j (k + 1) a = (laneX j k a.1, laneX j k a.2) := by
        conv => lhs; unfold laneX
        exact if_neg h
      have e2 : gk j (k + 1) = (zero k, gk j k) := by
        conv => lhs; unfold gk
        exact if_neg h
      rw [e1, e2, mul_low, ih, ih]
/-- Squares, cheaply. -/
def sqc : (k : Nat) → T k → T k
  | 0, a => a
  | k + 1, a => (mulX k (sqc k a.1), add k (sqc k a.2) (sqc k a.1))
theorem sqc_eq (k : Nat) (a : T k) : sqc k a = mul k a a := by
  induction k with
  | zero => exact (Bool.and_self a).symm
  | succ k ih => rw [sq_succ]; simp only [sqc]; rw [mulX_eq, ih, ih]
theorem sq_add (k : Nat) (a b : T k) : mul k (add k a b) (add k a b) = add k (mul k a a) (mul k b b) := by
  rw [mul_add, add_mul, add_mul, mul_comm k b a, add_assoc, ← add_assoc k (mul k a b), add_self, zero_add]

/-- The product of two words. -/
def px (a b : Nat) : Nat := enc 6 (mul 6 (dec 6 a) (dec 6 b))
theorem px_lt (a b : Nat) : px a b < 2 ^ 64 := enc_lt 6 _
theorem px_lin (a : Nat) : Lin (px a) := lin_enc 6 _ fun x y => by rw [mul_add]
theorem px_comm (a b : Nat) : px a b = px b a := by unfold px; rw [mul_comm]
theorem dec_px (a b : Nat) : dec 6 (px a b) = mul 6 (dec 6 a) (dec 6 b) := dec_enc 6 _
theorem px_assoc (a b c : Nat) : px (px a b) c = px a (px b c) := by
  unfold px; rw [dec_enc, dec_enc, mul_assoc]
theorem px_one (a : Nat) (h : a < 2 ^ 64) : px a 1 = a := by
  unfold px; rw [dec_one, mul_one, enc_dec_lt (k := 6) h]
theorem px_zero (a : Nat) : px a 0 = 0 := (px_lin a).zero
theorem px_lane (j g : Nat) (h : g = enc 6 (gk j 6)) (n : Nat) : px g n = enc 6 (laneX j 6 (dec 6 n)) := by
  unfold px; rw [h, dec_enc, laneX_eq]

theorem or_eq_xor {x y : Nat} (h : x &&& y = 0) : x ||| y = x ^^^ y := by
  apply Nat.eq_of_testBit_eq
  intro i
  have := congrArg (fun n => Nat.testBit n i) h
  simp only [Nat.testBit_and, Nat.zero_testBit] at this
  rw [Nat.testBit_or, Nat.testBit_xor]
  cases hx : x.testBit i <;> cases hy : y.testBit i <;> simp [hx, hy] at this ⊢
theorem lanes_or {x y L m : Nat} (hx : x &&& L = x) (hy : y &&& L = y) (hL : (L <<< m) &&& L = 0) : (x <<< m) ||| y = (x <<< m) ^^^ y := by
  apply or_eq_xor
  rw [← hx, ← hy, Nat.shiftLeft_and_distrib]
  have : (x <<< m &&& L <<< m) &&& (y &&& L) = (x <<< m &&& y) &&& ((L <<< m) &&& L) := by
    apply Nat.eq_of_testBit_eq
    intro i
    simp only [Nat.testBit_and]
    cases (x <<< m).testBit i <;> cases (L <<< m).testBit i <;> cases y.testBit i <;> cases L.testBit i <;> rfl
  rw [this, hL, Nat.and_zero]
theorem and_and_self (x L : Nat) : (x &&& L) &&& L = x &&& L := by rw [Nat.and_assoc, Nat.and_self]

/-- What a round of masks and shifts makes of a word: each block (hi, lo) becomes (lo + t hi, hi). -/
def goX (m L : Nat) (t : Nat → Nat) (w : Nat) : Nat := (((w &&& L) ^^^ t ((w >>> m) &&& L)) <<< m) ||| ((w >>> m) &&& L)
theorem goX_eq (j g m L : Nat) (t : Nat → Nat) (ht : Lin t) (hL : (L <<< m) &&& L = 0) (hg : g = enc 6 (gk j 6))
    (h1 : ∀ i, i < 64 → t (((2 ^ i) >>> m) &&& L) &&& L = t (((2 ^ i) >>> m) &&& L))
    (h2 : ∀ i, i < 64 → ((((2 ^ i) &&& L) ^^^ t (((2 ^ i) >>> m) &&& L)) <<< m) ^^^ (((2 ^ i) >>> m) &&& L) = enc 6 (laneX j 6 (dec 6 (2 ^ i)))) :
    ∀ w, w < 2 ^ 64 → goX m L t w = px g w ∧ ((w &&& L) ^^^ t ((w >>> m) &&& L)) ≤ L ∧ t ((w >>> m) &&& L) &&& L = t ((w >>> m) &&& L) := by
  intro w hw
  have lt : Lin fun w => t ((w >>> m) &&& L) := ht.comp ((Lin.id.shr m).and L)
  have e1 : t ((w >>> m) &&& L) &&& L = t ((w >>> m) &&& L) := lin_ext (lt.and L) lt 64 h1 w hw
  have e2 : ((w &&& L) ^^^ t ((w >>> m) &&& L)) &&& L = (w &&& L) ^^^ t ((w >>> m) &&& L) := by rw [Nat.and_xor_distrib_right, and_and_self, e1]
  refine ⟨?_, ?_, e1⟩
  · unfold goX
    rw [lanes_or e2 (and_and_self _ _) hL, px_lane j g hg]
    exact lin_ext (f := fun w => (((w &&& L) ^^^ t ((w >>> m) &&& L)) <<< m) ^^^ ((w >>> m) &&& L)) ((((Lin.id.and L).xor lt).shl m).xor ((Lin.id.shr m).and L)) (lin_enc 6 _ fun a b => by rw [laneX_eq, mul_add, ← laneX_eq, ← laneX_eq]) 64 h2 w hw
  · rw [← e2]; exact Nat.and_le_right
def L1 : Nat := 6148914691236517205
def L2 : Nat := 3689348814741910323
def L3 : Nat := 1085102592571150095
def L4 : Nat := 71777214294589695
def L5 : Nat := 281470681808895
def L6 : Nat := 4294967295
theorem goX1 (w : Nat) (h : w < 2 ^ 64) : goX 1 L1 (fun x => x) w = px 2 w ∧ ((w &&& L1) ^^^ ((w >>> 1) &&& L1)) ≤ L1 ∧ ((w >>> 1) &&& L1) &&& L1 = (w >>> 1) &&& L1 :=
  goX_eq 1 2 1 L1 (fun x => x) Lin.id (by decide +kernel) (by decide +kernel) (by decide +kernel) (by decide +kernel) w h
theorem goX2 (w : Nat) (h : w < 2 ^ 64) : goX 2 L2 (px 2) w = px 4 w ∧ ((w &&& L2) ^^^ px 2 ((w >>> 2) &&& L2)) ≤ L2 ∧ (px 2 ((w >>> 2) &&& L2)) &&& L2 = px 2 ((w >>> 2) &&& L2) :=
  goX_eq 2 4 2 L2 (px 2) (px_lin 2) (by decide +kernel) (by decide +kernel) (by simp only [px_lane 1 2 (by decide +kernel)]; decide +kernel) (by simp only [px_lane 1 2 (by decide +kernel)]; decide +kernel) w h
theorem goX3 (w : Nat) (h : w < 2 ^ 64) : goX 4 L3 (px 4) w = px 16 w ∧ ((w &&& L3) ^^^ px 4 ((w >>> 4) &&& L3)) ≤ L3 ∧ (px 4 ((w >>> 4) &&& L3)) &&& L3 = px 4 ((w >>> 4) &&& L3) :=
  goX_eq 3 16 4 L3 (px 4) (px_lin 4) (by decide +kernel) (by decide +kernel) (by simp only [px_lane 2 4 (by decide +kernel)]; decide +kernel) (by simp only [px_lane 2 4 (by decide +kernel)]; decide +kernel) w h
theorem goX4 (w : Nat) (h : w < 2 ^ 64) : goX 8 L4 (px 16) w = px 256 w ∧ ((w &&& L4) ^^^ px 16 ((w >>> 8) &&& L4)) ≤ L4 ∧ (px 16 ((w >>> 8) &&& L4)) &&& L4 = px 16 ((w >>> 8) &&& L4) :=
  goX_eq 4 256 8 L4 (px 16) (px_lin 16) (by decide +kernel) (by decide +kernel) (by simp only [px_lane 3 16 (by decide +kernel)]; decide +kernel) (by simp only [px_lane 3 16 (by decide +kernel)]; decide +kernel) w h
theorem goX5 (w : Nat) (h : w < 2 ^ 64) : goX 16 L5 (px 256) w = px 65536 w ∧ ((w &&& L5) ^^^ px 256 ((w >>> 16) &&& L5)) ≤ L5 ∧ (px 256 ((w >>> 16) &&& L5)) &&& L5 = px 256 ((w >>> 16) &&& L5) :=
  goX_eq 5 65536 16 L5 (px 256) (px_lin 256) (by decide +kernel) (by decide +kernel) (by simp only [px_lane 4 256 (by decide +kernel)]; decide +kernel) (by simp only [px_lane 4 256 (by decide +kernel)]; decide +kernel) w h
theorem goX6 (w : Nat) (h : w < 2 ^ 64) : goX 32 L6 (px 65536) w = px 4294967296 w ∧ ((w &&& L6) ^^^ px 65536 ((w >>> 32) &&& L6)) ≤ L6 ∧ (px 65536 ((w >>> 32) &&& L6)) &&& L6 = px 65536 ((w >>> 32) &&& L6) :=
  goX_eq 6 4294967296 32 L6 (px 65536) (px_lin 65536) (by decide +kernel) (by decide +kernel) (by simp only [px_lane 5 65536 (by decide +kernel)]; decide +kernel) (by simp only [px_lane 5 65536 (by decide +kernel)]; decide +kernel) w h

/-- A round of masks and shifts of a square. -/
def ls (m L : Nat) (t : Nat → Nat) (w : Nat) : Nat := ((t (w >>> m &&& L) <<< m) ^^^ (w &&& L)) ^^^ (w >>> m &&& L)
theorem ls_lin (m L : Nat) (t : Nat → Nat) (ht : Lin t) : Lin (ls m L t) :=
  (((ht.comp ((Lin.id.shr m).and L)).shl m).xor (Lin.id.and L)).xor ((Lin.id.shr m).and L)
theorem ls_lt (m L : Nat) (t : Nat → Nat) (w : Nat) (h : t (w >>> m &&& L) &&& L = t (w >>> m &&& L)) (hL : L * 2 ^ m < 2 ^ 64) : ls m L t w < 2 ^ 64 := by
  have hp : 1 ≤ 2 ^ m := Nat.one_le_two_pow
  have hL1 : L < 2 ^ 64 := Nat.lt_of_le_of_lt (Nat.le_mul_of_pos_right L hp) hL
  have h1 : t (w >>> m &&& L) ≤ L := by rw [← h]; exact Nat.and_le_right
  have h2 : t (w >>> m &&& L) <<< m < 2 ^ 64 := by rw [Nat.shiftLeft_eq]; exact Nat.lt_of_le_of_lt (Nat.mul_le_mul_right _ h1) hL
  exact Nat.xor_lt_two_pow (Nat.xor_lt_two_pow h2 (Nat.lt_of_le_of_lt Nat.and_le_right hL1)) (Nat.lt_of_le_of_lt Nat.and_le_right hL1)
def sq1 (w : Nat) : Nat := ls 1 L1 (fun x => x) w
def sq2 (w : Nat) : Nat := ls 2 L2 (px 2) w
def sq3 (w : Nat) : Nat := ls 4 L3 (px 4) w
def sq4 (w : Nat) : Nat := ls 8 L4 (px 16) w
def sq5 (w : Nat) : Nat := ls 16 L5 (px 256) w
def sq6 (w : Nat) : Nat := ls 32 L6 (px 65536) w
theorem sq1_lt (w : Nat) (h : w < 2 ^ 64) : sq1 w < 2 ^ 64 := ls_lt 1 L1 _ w (goX1 w h).2.2 (by decide)
theorem sq2_lt (w : Nat) (h : w < 2 ^ 64) : sq2 w < 2 ^ 64 := ls_lt 2 L2 _ w (goX2 w h).2.2 (by decide)
theorem sq3_lt (w : Nat) (h : w < 2 ^ 64) : sq3 w < 2 ^ 64 := ls_lt 4 L3 _ w (goX3 w h).2.2 (by decide)
theorem sq4_lt (w : Nat) (h : w < 2 ^ 64) : sq4 w < 2 ^ 64 := ls_lt 8 L4 _ w (goX4 w h).2.2 (by decide)
theorem sq5_lt (w : Nat) (h : w < 2 ^ 64) : sq5 w < 2 ^ 64 := ls_lt 16 L5 _ w (goX5 w h).2.2 (by decide)
theorem sq_lin : Lin fun w => px w w := lin_enc 6 (fun a => mul 6 a a) fun a b => sq_add 6 a b
theorem sq_all (w : Nat) (h : w < 2 ^ 64) : sq6 (sq5 (sq4 (sq3 (sq2 (sq1 w))))) = px w w := by
  refine lin_ext (f := fun w => sq6 (sq5 (sq4 (sq3 (sq2 (sq1 w)))))) (g := fun w => px w w) ?_ sq_lin 64 ?_ w h
  · exact (ls_lin 32 L6 _ (px_lin _)).comp ((ls_lin 16 L5 _ (px_lin _)).comp ((ls_lin 8 L4 _ (px_lin _)).comp ((ls_lin 4 L3 _ (px_lin _)).comp ((ls_lin 2 L2 _ (px_lin _)).comp (ls_lin 1 L1 _ Lin.id)))))
  · have e : ∀ n, px n n = enc 6 (sqc 6 (dec 6 n)) := fun n => by unfold px; rw [sqc_eq]
    simp only [e, sq6, sq5, sq4, sq3, sq2, sq1, ls, px_lane 1 2 (by decide +kernel), px_lane 2 4 (by decide +kernel), px_lane 3 16 (by decide +kernel), px_lane 4 256 (by decide +kernel), px_lane 5 65536 (by decide +kernel)]
    decide +kernel
end Tw
end Go.Proofs.Ytbmjceiogfhffab
