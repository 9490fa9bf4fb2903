/- The product of bytes; mixing and unmixing undo one another. -/
import Derived.Test.YtopmkooegpaeaaaGreatPmK
namespace Go.Proofs.YtopmkooegpaeaaaGreat
open Go.RowKit

/-- The product of two bytes, as it is reckoned in level 3. -/
def pb (a b : Nat) : Nat := Tw.pk 3 a b
theorem px_pb {a b : Nat} (ha : a < 256) (hb : b < 256) : Tw.px a b = pb a b := Tw.pk_up 3 3 a b ha hb
theorem tmul_pb {k b : Nat} (hk : k < 256) (hb : b < 256) : tmul k b = pb k b := by rw [(tmul_eq hk hb).1, px_pb hk hb]
/-- The number that leads back. -/
def kinv : Nat → Nat
  | 2 => 3 | 3 => 2 | 4 => Tw.ik 3 4 | 5 => Tw.ik 3 5 | _ => Tw.ik 3 7
theorem pb_back : ∀ b : Fin 256, pb (kinv 2) (pb 2 b.val) = b.val ∧ pb (kinv 3) (pb 3 b.val) = b.val ∧ pb (kinv 4) (pb 4 b.val) = b.val ∧ pb (kinv 5) (pb 5 b.val) = b.val ∧ pb (kinv 7) (pb 7 b.val) = b.val := by decide +kernel
theorem tmul_inj {k a b : Nat} (hk : k = 2 ∨ k = 3 ∨ k = 4 ∨ k = 5 ∨ k = 7) (ha : a < 256) (hb : b < 256) (h : tmul k a = tmul k b) : a = b := by
  have h1 := pb_back ⟨a, ha⟩
  have h2 := pb_back ⟨b, hb⟩
  rw [tmul_pb (by omega) ha, tmul_pb (by omega) hb] at h
  rcases hk with rfl | rfl | rfl | rfl | rfl
  · exact h1.1.symm.trans ((congrArg (pb (kinv 2)) h).trans h2.1)
  · exact h1.2.1.symm.trans ((congrArg (pb (kinv 3)) h).trans h2.2.1)
  · exact h1.2.2.1.symm.trans ((congrArg (pb (kinv 4)) h).trans h2.2.2.1)
  · exact h1.2.2.2.1.symm.trans ((congrArg (pb (kinv 5)) h).trans h2.2.2.2.1)
  · exact h1.2.2.2.2.symm.trans ((congrArg (pb (kinv 7)) h).trans h2.2.2.2.2)

open Tw (Lin)

/-- A word, if a bit is set. -/
def bt (b i m : Nat) : Nat := (b >>> i &&& 1) * m
theorem bt_lin (i m : Nat) : Lin fun b => bt b i m := fun a b => by
  show ((a ^^^ b) >>> i &&& 1) * m = (a >>> i &&& 1) * m ^^^ (b >>> i &&& 1) * m
  rw [Nat.shiftRight_xor_distrib, Nat.and_xor_distrib_right]
  have h1 : a >>> i &&& 1 = 0 ∨ a >>> i &&& 1 = 1 := by rw [nat_mask1]; omega
  have h2 : b >>> i &&& 1 = 0 ∨ b >>> i &&& 1 = 1 := by rw [nat_mask1]; omega
  rcases h1 with h1 | h1 <;> rcases h2 with h2 | h2 <;> rw [h1, h2] <;> simp
theorem bt_lt {b i m : Nat} (hm : m < 2 ^ 64) : bt b i m < 2 ^ 64 := by
  unfold bt
  have h1 : b >>> i &&& 1 = 0 ∨ b >>> i &&& 1 = 1 := by rw [nat_mask1]; omega
  rcases h1 with h1 | h1 <;> rw [h1] <;> omega
def lin8 (l0 l1 l2 l3 l4 l5 l6 l7 b : Nat) : Nat := bt b 0 l0 ^^^ bt b 1 l1 ^^^ bt b 2 l2 ^^^ bt b 3 l3 ^^^ bt b 4 l4 ^^^ bt b 5 l5 ^^^ bt b 6 l6 ^^^ bt b 7 l7
theorem lin8_lin (l0 l1 l2 l3 l4 l5 l6 l7 : Nat) : Lin (lin8 l0 l1 l2 l3 l4 l5 l6 l7) :=
  ((((((Lin.xor (bt_lin 0 l0) (bt_lin 1 l1)).xor (bt_lin 2 l2)).xor (bt_lin 3 l3)).xor (bt_lin 4 l4)).xor (bt_lin 5 l5)).xor (bt_lin 6 l6)).xor (bt_lin 7 l7)
/-- The products by the factors, bit by bit. -/
def tL : Nat → Nat → Nat
  | 2, b => lin8 2 3 8 12 32 48 128 192 b
  | 3, b => lin8 3 1 12 4 48 16 192 64 b
  | 4, b => lin8 4 8 9 14 64 128 144 224 b
  | 5, b => lin8 5 10 13 6 80 160 208 96 b
  | _, b => lin8 7 9 5 10 112 144 80 160 b
theorem tm_2 {b : Nat} (hb : b < 256) : tmv 2 b = tL 2 b := by
  rw [tmv_ok (by decide), (tmul_eq (by decide) hb).1]
  refine Tw.lin_ext (f := Tw.px 2) (g := lin8 2 3 8 12 32 48 128 192) (Tw.px_lin 2) (lin8_lin _ _ _ _ _ _ _ _) 8 (fun i hi => ?_) b hb
  have h2 : 2 ^ i < 256 := Nat.pow_lt_pow_right (by decide) hi
  rw [px_pb (by decide) h2]
  have all : ∀ i : Fin 8, pb 2 (2 ^ i.val) = lin8 2 3 8 12 32 48 128 192 (2 ^ i.val) := by decide +kernel
  exact all ⟨i, hi⟩
theorem tm_3 {b : Nat} (hb : b < 256) : tmv 3 b = tL 3 b := by
  rw [tmv_ok (by decide), (tmul_eq (by decide) hb).1]
  refine Tw.lin_ext (f := Tw.px 3) (g := lin8 3 1 12 4 48 16 192 64) (Tw.px_lin 3) (lin8_lin _ _ _ _ _ _ _ _) 8 (fun i hi => ?_) b hb
  have h2 : 2 ^ i < 256 := Nat.pow_lt_pow_right (by decide) hi
  rw [px_pb (by decide) h2]
  have all : ∀ i : Fin 8, pb 3 (2 ^ i.val) = lin8 3 1 12 4 48 16 192 64 (2 ^ i.val) := by decide +kernel
  exact all ⟨i, hi⟩
theorem tm_4 {b : Nat} (hb : b < 256) : tmv 4 b = tL 4 b := by
  rw [tmv_ok (by decide), (tmul_eq (by decide) hb).1]
  refine Tw.lin_ext (f := Tw.px 4) (g := lin8 4 8 9 14 64 128 144 224) (Tw.px_lin 4) (lin8_lin _ _ _ _ _ _ _ _) 8 (fun i hi => ?_) b hb
  have h2 : 2 ^ i < 256 := Nat.pow_lt_pow_right (by decide) hi
  rw [px_pb (by decide) h2]
  have all : ∀ i : Fin 8, pb 4 (2 ^ i.val) = lin8 4 8 9 14 64 128 144 224 (2 ^ i.val) := by decide +kernel
  exact all ⟨i, hi⟩
theorem tm_5 {b : Nat} (hb : b < 256) : tmv 5 b = tL 5 b := by
  rw [tmv_ok (by decide), (tmul_eq (by decide) hb).1]
  refine Tw.lin_ext (f := Tw.px 5) (g := lin8 5 10 13 6 80 160 208 96) (Tw.px_lin 5) (lin8_lin _ _ _ _ _ _ _ _) 8 (fun i hi => ?_) b hb
  have h2 : 2 ^ i < 256 := Nat.pow_lt_pow_right (by decide) hi
  rw [px_pb (by decide) h2]
  have all : ∀ i : Fin 8, pb 5 (2 ^ i.val) = lin8 5 10 13 6 80 160 208 96 (2 ^ i.val) := by decide +kernel
  exact all ⟨i, hi⟩
theorem tm_7 {b : Nat} (hb : b < 256) : tmv 7 b = tL 7 b := by
  rw [tmv_ok (by decide), (tmul_eq (by decide) hb).1]
  refine Tw.lin_ext (f := Tw.px 7) (g := lin8 7 9 5 10 112 144 80 160) (Tw.px_lin 7) (lin8_lin _ _ _ _ _ _ _ _) 8 (fun i hi => ?_) b hb
  have h2 : 2 ^ i < 256 := Nat.pow_lt_pow_right (by decide) hi
  rw [px_pb (by decide) h2]
  have all : ∀ i : Fin 8, pb 7 (2 ^ i.val) = lin8 7 9 5 10 112 144 80 160 (2 ^ i.val) := by decide +kernel
  exact all ⟨i, hi⟩
theorem tmv_tL {k b : Nat} (hk : k = 2 ∨ k = 3 ∨ k = 4 ∨ k = 5 ∨ k = 7) (hb : b < 256) : tmv k b = tL k b := by
  rcases hk with rfl | rfl | rfl | rfl | rfl
  · exact tm_2 hb
  · exact tm_3 hb
  · exact tm_4 hb
  · exact tm_5 hb
  · exact tm_7 hb
theorem fac_is (j : Nat) : fac j = 2 ∨ fac j = 3 ∨ fac j = 4 ∨ fac j = 5 ∨ fac j = 7 := by
  unfold fac
  split <;> simp
theorem mxp_tL {b : Nat} (hb : b < 256) : ∀ j, mxp tmv b j = mxp tL b j
  | 0 => rfl
  | j + 1 => by
    unfold mxp
    rw [mxp_tL hb j, tmv_tL (fac_is j) hb]
def mixL : Nat → Nat := lin8 144964032577996546 216463096150624515 579848403665356040 865832447362075148 2319424521247944736 3463409538409992240 9277574458645696640 13853319157793202368
def unmL : Nat → Nat := lin8 723675528267498240 1084524206471315712 432921755599047680 793482413279413248 11578808452279971840 17352387303541051392 6926748089584762880 12695718612470611968
theorem mixv_L {b : Nat} (hb : b < 256) : mixv b = mixL b := by
  unfold mixv
  rw [mxp_tL hb]
  have all : ∀ b : Fin 256, mxp tL b.val 8 = mixL b.val := by decide +kernel
  exact all ⟨b, hb⟩
theorem whp_congr {f f' : Nat → Nat} (h : ∀ x, x < 256 → f x = f' x) (c : Nat) : ∀ j, whp f c j = whp f' c j
  | 0 => rfl
  | j + 1 => by
    unfold whp
    rw [whp_congr h c j, h _ (Nat.mod_lt _ (by decide))]
theorem whn_congr {f f' : Nat → Nat} (h : ∀ x, x < 256 → f x = f' x) (c : Nat) : ∀ j, whn f c j = whn f' c j
  | 0 => rfl
  | j + 1 => by
    unfold whn
    rw [whn_congr h c j, whp_congr h]
theorem t3p_tL (c : Nat) : ∀ j, t3p tmv c j = t3p tL c j
  | 0 => rfl
  | j + 1 => by
    unfold t3p
    rw [t3p_tL c j, tm_3 (Nat.mod_lt _ (by decide))]
theorem unmixv_L {b : Nat} (hb : b < 256) : unmixv b = unmL b := by
  unfold unmixv
  rw [t3p_tL, whn_congr (f' := mixL) (fun x hx => mixv_L hx)]
  have all : ∀ b : Fin 256, t3p tL (whn mixL b.val 7) 8 = unmL b.val := by decide +kernel
  exact all ⟨b, hb⟩
/-- A word turned, as a sum. -/
def rlx (x n : Nat) : Nat := (x <<< n &&& 18446744073709551615) ^^^ x >>> (64 - n)
theorem rl64_x {x n : Nat} (hx : x < 2 ^ 64) (hn : n ≤ 64) : rl64 x n = rlx x n := by
  unfold rl64 rlx
  apply Nat.eq_of_testBit_eq
  intro i
  rw [Nat.testBit_or, Nat.testBit_xor, Nat.testBit_mod_two_pow, ← Nat.shiftLeft_eq, ← Nat.shiftRight_eq_div_pow, Nat.testBit_shiftRight, Nat.testBit_shiftLeft, Nat.testBit_and, Nat.testBit_shiftLeft, show 18446744073709551615 = 2 ^ 64 - 1 by decide, Nat.testBit_two_pow_sub_one]
  by_cases h1 : n ≤ i
  · have : x.testBit (64 - n + i) = false := Nat.testBit_lt_two_pow (Nat.lt_of_lt_of_le hx (Nat.pow_le_pow_right (by decide) (by omega)))
    rw [this]
    simp [Bool.and_comm]
  · simp [h1]
theorem rlx_lin {f : Nat → Nat} (h : Lin f) (n : Nat) : Lin fun w => rlx (f w) n := ((h.shl n).and _).xor (h.shr _)
/-- A column mixed, as a sum. -/
def whx (f : Nat → Nat) (c : Nat) : Nat := rlx (f (c >>> 0 &&& 255)) 0 ^^^ rlx (f (c >>> 8 &&& 255)) 8 ^^^ rlx (f (c >>> 16 &&& 255)) 16 ^^^ rlx (f (c >>> 24 &&& 255)) 24 ^^^ rlx (f (c >>> 32 &&& 255)) 32 ^^^ rlx (f (c >>> 40 &&& 255)) 40 ^^^ rlx (f (c >>> 48 &&& 255)) 48 ^^^ rlx (f (c >>> 56 &&& 255)) 56
theorem term_lin {f : Nat → Nat} (h : Lin f) (s n : Nat) : Lin fun c => rlx (f (c >>> s &&& 255)) n := rlx_lin (Lin.comp h ((Lin.id.shr s).and 255)) n
theorem whx_lin {f : Nat → Nat} (h : Lin f) : Lin (whx f) :=
  ((((((Lin.xor (term_lin h 0 0) (term_lin h 8 8)).xor (term_lin h 16 16)).xor (term_lin h 24 24)).xor (term_lin h 32 32)).xor (term_lin h 40 40)).xor (term_lin h 48 48)).xor (term_lin h 56 56)
theorem byte_of (c s : Nat) : c / 2 ^ s % 256 = c >>> s &&& 255 := by rw [nat_mask8, Nat.shiftRight_eq_div_pow]
theorem whp_x {f g : Nat → Nat} (hf : ∀ x, f x < 2 ^ 64) (h : ∀ x, x < 256 → f x = g x) (c : Nat) : whp f c 8 = whx g c := by
  have e : ∀ j, j < 8 → rl64 (f (c / 2 ^ (8 * j) % 256)) (8 * j) = rlx (g (c >>> (8 * j) &&& 255)) (8 * j) := fun j hj => by
    rw [rl64_x (hf _) (by omega), h _ (Nat.mod_lt _ (by decide)), byte_of]
  show ((((((((0 ^^^ _) ^^^ _) ^^^ _) ^^^ _) ^^^ _) ^^^ _) ^^^ _) ^^^ _) = _
  rw [e 0 (by decide), e 1 (by decide), e 2 (by decide), e 3 (by decide), e 4 (by decide), e 5 (by decide), e 6 (by decide), e 7 (by decide), Nat.zero_xor]
  rfl
/-- Mixed, and mixed back. -/
theorem unmix_mix {X : Nat} (hX : X < 2 ^ 64) : whp unmixv (whp mixv X 8) 8 = X := by
  rw [whp_x mixv_lt (fun x hx => mixv_L hx), whp_x unmixv_lt (fun x hx => unmixv_L hx)]
  refine Tw.lin_ext (f := fun X => whx unmL (whx mixL X)) (g := fun X => X) (Lin.comp (whx_lin (lin8_lin _ _ _ _ _ _ _ _)) (whx_lin (lin8_lin _ _ _ _ _ _ _ _))) Lin.id 64 (fun i hi => ?_) X hX
  have all : ∀ i : Fin 64, whx unmL (whx mixL (2 ^ i.val)) = 2 ^ i.val := by decide +kernel
  exact all ⟨i, hi⟩
theorem mix_unmix {X : Nat} (hX : X < 2 ^ 64) : whp mixv (whp unmixv X 8) 8 = X := by
  rw [whp_x unmixv_lt (fun x hx => unmixv_L hx), whp_x mixv_lt (fun x hx => mixv_L hx)]
  refine Tw.lin_ext (f := fun X => whx mixL (whx unmL X)) (g := fun X => X) (Lin.comp (whx_lin (lin8_lin _ _ _ _ _ _ _ _)) (whx_lin (lin8_lin _ _ _ _ _ _ _ _))) Lin.id 64 (fun i hi => ?_) X hX
  have all : ∀ i : Fin 64, whx mixL (whx unmL (2 ^ i.val)) = 2 ^ i.val := by decide +kernel
  exact all ⟨i, hi⟩
end Go.Proofs.YtopmkooegpaeaaaGreat
