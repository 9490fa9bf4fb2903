/- Tensors, pure: the product by halves is the sum over all pairs of bits. -/
import Derived.Test.YtcejppibcemdeaaPPvP
namespace Go.Proofs.Ytcejppibcemdeaa
open Go.RowKit
open Cb Rg
open Tw (pm px pmh pml)
namespace Pv

theorem of_pmP {k : Nat} (hk : k < 8) {a b : Nat × Nat} (ha : ofE k a) (hb : ofE k b) : ofE k (pm a b) := of_pm hk ha hb
theorem hs_bvP {u w : Nat} (hu : u < 128) (hw : w < 128) : hs (bv (u : Int)) w = decide (w = u) := bv_has u w hu hw
theorem hs_high {k : Nat} (hk : k < 8) {a : Nat × Nat} (la : lt2 a) (oa : ofE k a) {w : Nat} (hw : 2 ^ k ≤ w) : hs a w = false := by
  have h := (ofB_iff k a.1 a.2 hk).1 oa
  unfold hs hasB
  rcases h with rfl | ⟨h1, h2⟩
  · have : (2 : Nat) ^ 7 = 128 := by decide
    rw [if_neg (by omega)]
    exact Nat.testBit_lt_two_pow (Nat.lt_of_lt_of_le la.1 (Nat.pow_le_pow_right (by decide) (by omega)))
  · split
    · exact Nat.testBit_lt_two_pow (Nat.lt_of_lt_of_le h2 (Nat.pow_le_pow_right (by decide) hw))
    · rw [h1]; exact Nat.zero_testBit _
theorem bx_congr {f g : Nat → Bool} : ∀ n, (∀ i, i < n → f i = g i) → bx n f = bx n g
  | 0, _ => rfl
  | n + 1, h => by simp only [bx]; rw [bx_congr n (fun i hi => h i (by omega)), h n (by omega)]
theorem bx_pick (f : Nat → Bool) (m : Nat) : ∀ n, bx n (fun x => f x && decide (m = x)) = (decide (m < n) && f m)
  | 0 => by simp [bx]
  | n + 1 => by
    simp only [bx]
    rw [bx_pick f m n]
    by_cases e : m = n
    · subst e
      simp
    · rw [decide_eq_false e, Bool.and_false, Bool.xor_false]
      by_cases h : m < n
      · rw [decide_eq_true h, decide_eq_true (show m < n + 1 by omega)]
      · rw [decide_eq_false h, decide_eq_false (show ¬ m < n + 1 by omega)]
theorem pow128 {k : Nat} (hk : k < 8) : 2 ^ k ≤ 128 := Nat.le_trans (Nat.pow_le_pow_right (by decide) (show k ≤ 7 by omega)) (by decide)
/-- An element is the sum of its bits. -/
theorem bits_sumP {k : Nat} (hk : k < 8) {a : Nat × Nat} (la : lt2 a) (oa : ofE k a) : xs (2 ^ k) (fun x => sl (hs a x) (bv (x : Int))) = a := by
  refine pair_ext (lt_xs (fun x => lt_sl (bv_lt2 _)) _) la fun m hm => ?_
  have e := hs_xs (fun x => sl (hs a x) (bv (x : Int))) m (2 ^ k)
  change hs _ m = hs a m
  rw [e, bx_congr (g := fun x => hs a x && decide (m = x)) _ (fun i hi => by rw [hs_sl, hs_bvP (Nat.lt_of_lt_of_le hi (pow128 hk)) hm]), bx_pick]
  by_cases h : m < 2 ^ k
  · rw [decide_eq_true h]; rfl
  · rw [decide_eq_false h, hs_high hk la oa (by omega)]; rfl
theorem xs_pick {f : Nat → Nat × Nat} {w : Nat} : ∀ n, w < n → xs n (fun u => sl (decide (w = u)) (f u)) = f w
  | n + 1, h => by
    simp only [xs]
    by_cases e : w = n
    · subst e
      rw [xs_none w (fun i hi => by rw [decide_eq_false (by omega)]; rfl), zero_xa, decide_eq_true rfl]
      rfl
    · rw [xs_pick n (by omega), decide_eq_false e]
      exact xa_zero _
/-- The generator of a level, as a bit, and what its square has besides. -/
def gX (k : Nat) : Nat × Nat := bv ((2 ^ k : Nat) : Int)
def gZ (k : Nat) : Nat × Nat := (0, Tw.gn k)
theorem pm_lowP (x y : Nat) : pm (0, x) (0, y) = (0, px x y) := by
  unfold pm pmh pml
  simp [Tw.px_zero, Tw.px_comm 0]
theorem gn_succ (k : Nat) : Tw.gn (k + 1) = 2 ^ (2 ^ k) := by
  show 2 ^ (2 ^ k) * Tw.enc k (Tw.one k) + Tw.enc k (Tw.zero k) = _
  rw [Tw.enc_one, Tw.enc_zero]
  omega
theorem gX_low {k : Nat} (hk : k ≤ 5) : gX k = (0, 2 ^ (2 ^ k)) := by
  have : 2 ^ k ≤ 32 := Nat.le_trans (Nat.pow_le_pow_right (by decide) hk) (by decide)
  unfold gX bv Tw.bitp
  generalize 2 ^ k = n at *
  rw [if_pos (by omega), Int.toNat_natCast, if_pos (by omega)]
theorem gX_six : gX 6 = (1, 0) := by decide
theorem gZ_succ {k : Nat} (hk : k ≤ 5) : gZ (k + 1) = gX k := by rw [gX_low hk]; unfold gZ; rw [gn_succ]
theorem lt_gZ {k : Nat} (hk : k ≤ 6) : lt2 (gZ k) := ⟨by show 0 < 2 ^ 64; decide, Nat.lt_of_lt_of_le (Tw.gn_lt k) (Nat.pow_le_pow_right (by decide) (Nat.le_trans (Nat.pow_le_pow_right (by decide) hk) (by decide)))⟩
theorem of_gZ {k : Nat} (hk : k ≤ 6) : ofE k (gZ k) := (ofB_iff k 0 (Tw.gn k) (by omega)).2 (.inr ⟨rfl, Tw.gn_lt k⟩)
theorem low_of {k : Nat} (hk : k ≤ 6) {a : Nat × Nat} (oa : ofE k a) : a = (0, a.2) ∧ a.2 < 2 ^ (2 ^ k) := by
  rcases (ofB_iff k a.1 a.2 (by omega)).1 oa with h | ⟨h1, h2⟩
  · omega
  · exact ⟨Prod.ext h1 rfl, h2⟩
theorem up_lt {k x : Nat} (h : x < 2 ^ (2 ^ k)) : x < 2 ^ (2 ^ (k + 1)) := Nat.lt_of_lt_of_le h (Nat.pow_le_pow_right (by decide) (Nat.pow_le_pow_right (by decide) (by omega)))
theorem dec_gn (k : Nat) : Tw.dec (k + 1) (2 ^ (2 ^ k)) = Tw.gen (k + 1) := by rw [← gn_succ]; exact Tw.dec_enc _ _
theorem mul_gen (k : Nat) (x : Tw.T k) : Tw.mul (k + 1) (Tw.gen (k + 1)) (Tw.emb k x) = (x, Tw.zero k) := by
  show (Tw.add k (Tw.add k (Tw.mul k (Tw.one k) x) (Tw.mul k (Tw.zero k) (Tw.zero k))) (Tw.mul k (Tw.gen k) (Tw.mul k (Tw.one k) (Tw.zero k))), Tw.add k (Tw.mul k (Tw.zero k) x) (Tw.mul k (Tw.one k) (Tw.zero k))) = _
  rw [Tw.one_mul, Tw.mul_zero, Tw.mul_zero, Tw.mul_zero, Tw.zero_mul, Tw.add_zero, Tw.add_zero, Tw.add_zero]
theorem pw_gn (k : Nat) : 2 ^ (2 ^ k) < 2 ^ (2 ^ (k + 1)) := Nat.pow_lt_pow_right (by decide) (Nat.pow_lt_pow_right (by decide) (by omega))
theorem px_gen {k al : Nat} (hk : k ≤ 5) (h : al < 2 ^ (2 ^ k)) : px (2 ^ (2 ^ k)) al = 2 ^ (2 ^ k) * al := by
  rw [← Tw.pk_px (k + 1) _ _ (by omega) (pw_gn k) (up_lt h), dec_gn, Tw.dec_low k al h, mul_gen]
  show 2 ^ (2 ^ k) * Tw.enc k (Tw.dec k al) + Tw.enc k (Tw.zero k) = _
  rw [Tw.enc_dec_lt h, Tw.enc_zero]
  rfl
theorem px_one' {a : Nat} (h : a < 2 ^ 64) : px 1 a = a := by rw [Tw.px_comm]; exact Tw.px_one a h
theorem px_zero' (a : Nat) : px 0 a = 0 := by rw [Tw.px_comm]; exact Tw.px_zero a
/-- The generator shifts what is of the level below. -/
theorem gX_shift {k : Nat} (hk : k ≤ 6) {a : Nat × Nat} (oa : ofE k a) {w : Nat} (hw : w < 128) : hs (pm (gX k) a) w = (decide (2 ^ k ≤ w) && hs a (w - 2 ^ k)) := by
  obtain ⟨ea, hal⟩ := low_of hk oa
  have la : lt2 a := ⟨by rw [ea]; show 0 < 2 ^ 64; decide, Nat.lt_of_lt_of_le hal (Nat.pow_le_pow_right (by decide) (Nat.le_trans (Nat.pow_le_pow_right (by decide) hk) (by decide)))⟩
  have HH : 2 ^ k ≤ w - 2 ^ k → hs a (w - 2 ^ k) = false := fun h => hs_high (by omega) la oa h
  generalize a.2 = al at *
  subst ea
  by_cases h6 : k = 6
  · subst h6
    rw [gX_six]
    have e : pm (1, 0) (0, al) = (al, 0) := by
      unfold pm pmh pml
      have l2 : al < 2 ^ 64 := hal
      simp only [px_zero', Tw.px_zero, px_one' l2, Nat.xor_zero]
    rw [e]
    unfold hs hasB
    have e64 : (2 : Nat) ^ 6 = 64 := by decide
    rw [e64]
    by_cases h : w < 64
    · rw [if_pos h, decide_eq_false (by omega)]
      simp
    · rw [if_neg h, decide_eq_true (by omega), if_pos (by omega)]
      rfl
  · have h5 : k ≤ 5 := by omega
    have h32 : 2 ^ k ≤ 32 := Nat.le_trans (Nat.pow_le_pow_right (by decide) h5) (by decide)
    have hp := Nat.two_pow_pos k
    rw [gX_low h5, pm_lowP, px_gen h5 hal]
    by_cases h : w < 64
    · unfold hs hasB
      rw [if_pos h, if_pos (show w - 2 ^ k < 64 by omega), Nat.testBit_two_pow_mul]
    · rw [HH (by omega), Bool.and_false]
      unfold hs hasB
      rw [if_neg h]
      exact Nat.zero_testBit _
theorem gX_sq {k : Nat} (hk : k ≤ 6) : pm (gX k) (gX k) = xa (pm (gZ k) (gX k)) (0, 1) := by
  by_cases h6 : k = 6
  · subst h6
    rw [gX_six]
    have e : gZ 6 = (0, 4294967296) := by unfold gZ; rw [gn_succ 5]
    rw [e]
    unfold pm pmh pml xa
    simp only [px_zero', Tw.px_zero, px_one' (show (1 : Nat) < 2 ^ 64 by decide), Tw.px_one 4294967296 (by decide), Nat.xor_zero, Nat.zero_xor]
  · have h5 : k ≤ 5 := by omega
    rw [gX_low h5]
    unfold gZ
    rw [pm_lowP, pm_lowP]
    unfold xa
    rw [← Tw.pk_px (k + 1) _ _ (by omega) (pw_gn k) (pw_gn k), ← Tw.pk_px (k + 1) (Tw.gn k) _ (by omega) (up_lt (Tw.gn_lt k)) (pw_gn k), dec_gn, Tw.gen_sq, Tw.enc_add, Tw.enc_one, Tw.dec_low k _ (Tw.gn_lt k)]
    have e : Tw.dec k (Tw.gn k) = Tw.gen k := Tw.dec_enc _ _
    rw [e]
    simp
theorem of_up {k : Nat} (hk : k ≤ 6) {a : Nat × Nat} (oa : ofE k a) : ofE (k + 1) a := by
  obtain ⟨ea, h⟩ := low_of hk oa
  exact (ofB_iff (k + 1) a.1 a.2 (by omega)).2 (.inr ⟨by rw [ea], up_lt h⟩)
theorem pow_up {k : Nat} (hk : k ≤ 6) : 2 ^ k + 2 ^ k ≤ 128 := by
  have := pow128 (show k + 1 < 8 by omega)
  rw [Nat.pow_succ] at this
  omega
theorem bv_up {k u : Nat} (hk : k ≤ 6) (hu : u < 2 ^ k) : bv ((2 ^ k + u : Nat) : Int) = pm (gX k) (bv (u : Int)) := by
  have h2 := pow_up hk
  refine pair_ext (bv_lt2 _) (lt_pm _ _) fun m hm => ?_
  change hs _ m = hs _ m
  rw [gX_shift hk (of_bv (by omega) hu) hm, hs_bvP (by omega) hm]
  by_cases h : 2 ^ k ≤ m
  · rw [decide_eq_true h, hs_bvP (by omega) (by omega), Bool.true_and]
    exact decide_eq_decide.2 ⟨fun e => by omega, fun e => by omega⟩
  · rw [decide_eq_false h, Bool.false_and, decide_eq_false (by omega)]
theorem gX_lo {k w : Nat} (hk : k ≤ 6) {a : Nat × Nat} (oa : ofE k a) (hw : w < 2 ^ k) : hs (pm (gX k) a) w = false := by
  have h2 := pow_up hk
  rw [gX_shift hk oa (by omega), decide_eq_false (by omega), Bool.false_and]
theorem gX_hi {k w : Nat} (hk : k ≤ 6) {a : Nat × Nat} (oa : ofE k a) (hw : w < 2 ^ k) : hs (pm (gX k) a) (2 ^ k + w) = hs a w := by
  have h2 := pow_up hk
  rw [gX_shift hk oa (by omega), decide_eq_true (by omega), Bool.true_and, Nat.add_sub_cancel_left]
theorem gXX {k : Nat} (hk : k ≤ 6) {a : Nat × Nat} (la : lt2 a) : pm (gX k) (pm (gX k) a) = xa (pm (gX k) (pm (gZ k) a)) a := by
  rw [← Tw.pm_assoc', gX_sq hk, xa_pm, one_pm la, Tw.pm_assoc', pm_left]
theorem gXX_lo {k w : Nat} (hk : k ≤ 6) {a : Nat × Nat} (la : lt2 a) (oa : ofE k a) (hw : w < 2 ^ k) : hs (pm (gX k) (pm (gX k) a)) w = hs a w := by
  rw [gXX hk la, hs_xa, gX_lo hk (of_pmP (by omega) (of_gZ hk) oa) hw, Bool.false_xor]
theorem gXX_hi {k w : Nat} (hk : k ≤ 6) {a : Nat × Nat} (la : lt2 a) (oa : ofE k a) (hw : w < 2 ^ k) : hs (pm (gX k) (pm (gX k) a)) (2 ^ k + w) = hs (pm (gZ k) a) w := by
  rw [gXX hk la, hs_xa, gX_hi hk (of_pmP (by omega) (of_gZ hk) oa) hw, hs_high (by omega) la oa (by omega), Bool.xor_false]
theorem sl_true (e : Nat × Nat) : sl true e = e := rfl
theorem sl_false (e : Nat × Nat) : sl false e = (0, 0) := rfl
theorem el_take {t : List (Nat × Nat)} {n i : Nat} (h : i < n) : el (t.take n) i = el t i := by simp [el, List.getD, List.getElem?_take_of_lt h]
theorem el_drop (t : List (Nat × Nat)) (n i : Nat) : el (t.drop n) i = el t (n + i) := by simp [el, List.getD]
theorem el_left {s t : List (Nat × Nat)} {i : Nat} (h : i < s.length) : el (s ++ t) i = el s i := by simp [el, List.getD, List.getElem?_append_left h]
theorem el_right {s t : List (Nat × Nat)} {n i : Nat} (h : s.length = n) : el (s ++ t) (n + i) = el t i := by
  unfold el
  rw [List.getD_eq_getElem?_getD, List.getD_eq_getElem?_getD, List.getElem?_append_right (by omega), h, Nat.add_sub_cancel_left]
theorem xs_one (f : Nat → Nat × Nat) : xs 1 f = f 0 := by simp only [xs]; exact zero_xa _
theorem xs_two' (f : Nat → Nat × Nat) : xs 2 f = xa (f 0) (f 1) := by simp only [xs]; rw [zero_xa]
theorem xs_four (f : Nat → Nat × Nat) : xs 4 f = xa (xa (xa (f 0) (f 1)) (f 2)) (f 3) := by simp only [xs]; rw [zero_xa]
/-- A tensor times an element on the left. -/
def TX (N : Nat) (z : Nat × Nat) (t : Nat → Nat × Nat) (w : Nat) : Nat × Nat := xs N fun u => sl (hs (pm z (bv (u : Int))) w) (t u)
theorem TX_congr {N : Nat} {z : Nat × Nat} {t t' : Nat → Nat × Nat} (w : Nat) (h : ∀ u, u < N → t u = t' u) : TX N z t w = TX N z t' w := xs_congr N fun u hu => by rw [h u hu]
theorem TX_up {k w : Nat} (hk : k ≤ 6) (t : Nat → Nat × Nat) (hw : w < 2 ^ k) : TX (2 ^ k + 2 ^ k) (gX k) t w = t (2 ^ k + w) := by
  unfold TX
  rw [xs_add, xs_none (2 ^ k) (fun u hu => by rw [gX_lo hk (of_bv (by omega) hu) hw]; rfl), zero_xa]
  have e : xs (2 ^ k) (fun i => sl (hs (pm (gX k) (bv ((2 ^ k + i : Nat) : Int))) w) (t (2 ^ k + i))) = xs (2 ^ k) (fun i => sl (decide (w = i)) (t (2 ^ k + i))) := xs_congr _ fun u hu => by
    rw [bv_up hk hu, gXX_lo hk (bv_lt2 _) (of_bv (by omega) hu) hw, hs_bvP (Nat.lt_of_lt_of_le hu (pow128 (by omega))) (Nat.lt_of_lt_of_le hw (pow128 (by omega)))]
  rw [e]
  exact xs_pick (f := fun i => t (2 ^ k + i)) _ hw
theorem TX_up2 {k w : Nat} (hk : k ≤ 6) (t : Nat → Nat × Nat) (hw : w < 2 ^ k) : TX (2 ^ k + 2 ^ k) (gX k) t (2 ^ k + w) = xa (t w) (TX (2 ^ k) (gZ k) (fun i => t (2 ^ k + i)) w) := by
  unfold TX
  rw [xs_add]
  have e1 : xs (2 ^ k) (fun u => sl (hs (pm (gX k) (bv (u : Int))) (2 ^ k + w)) (t u)) = t w := by
    rw [xs_congr (g := fun u => sl (decide (w = u)) (t u)) _ fun u hu => by rw [gX_hi hk (of_bv (by omega) hu) hw, hs_bvP (Nat.lt_of_lt_of_le hu (pow128 (by omega))) (Nat.lt_of_lt_of_le hw (pow128 (by omega)))]]
    exact xs_pick _ hw
  rw [e1]
  refine congrArg (xa _) ?_
  exact xs_congr _ fun u hu => by rw [bv_up hk hu, gXX_hi hk (bv_lt2 _) (of_bv (by omega) hu) hw]
theorem bit_zero : hs (pm (0, 1) (bv ((0 : Nat) : Int))) 0 = true := by decide +kernel
theorem gZ_zero : gZ 0 = (0, 1) := rfl
/-- timesX is the product with the generator. -/
theorem txL_el : ∀ (k : Nat), k ≤ 6 → ∀ (t : List (Nat × Nat)) (w : Nat), t.length = 2 ^ k → w < 2 ^ k → el (txL k t) w = TX (2 ^ k) (gZ k) (el t) w
  | 0, _, t, w, _, hw => by
    obtain rfl : w = 0 := by simpa using hw
    have e : txL 0 t = t := rfl
    rw [e]
    unfold TX
    rw [Nat.pow_zero, xs_one, gZ_zero, bit_zero]
    exact (sl_true _).symm
  | k + 1, hk, t, w, hl, hw => by
    have e : 2 ^ (k + 1) = 2 ^ k + 2 ^ k := by rw [Nat.pow_succ]; omega
    have ld := len_drop hl
    rw [gZ_succ (by omega), e]
    rw [e] at hw
    unfold txL
    by_cases h : w < 2 ^ k
    · rw [el_left (by rw [addv_len]; exact h), addv_el _ _ _ _ h, xs_one, TX_up (by omega) _ h]
      exact el_drop t _ _
    · obtain ⟨v, rfl⟩ : ∃ v, w = 2 ^ k + v := ⟨w - 2 ^ k, by omega⟩
      have hv : v < 2 ^ k := by omega
      rw [el_right (addv_len _ _ _), addv_el _ _ _ _ hv, xs_two', TX_up2 (by omega) _ hv]
      show xa (el (t.take (2 ^ k)) v) (el (txL k (t.drop (2 ^ k))) v) = _
      rw [el_take hv, txL_el k (by omega) _ v ld hv]
      refine congrArg (xa _) ?_
      exact TX_congr v fun u _ => el_drop t _ _
/-- A product of tensors, by all pairs of bits. -/
def MM (N : Nat) (s t : Nat → Nat × Nat) (w : Nat) : Nat × Nat := xs N fun u => xs N fun v => sl (hs (pm (bv (u : Int)) (bv (v : Int))) w) (pm (s u) (t v))
theorem MM_congr {N : Nat} {s s' t t' : Nat → Nat × Nat} (w : Nat) (h : ∀ u, u < N → s u = s' u) (k : ∀ u, u < N → t u = t' u) : MM N s t w = MM N s' t' w := xs_congr N fun u hu => xs_congr N fun v hv => by rw [h u hu, k v hv]
theorem sl_xa (b : Bool) (x y : Nat × Nat) : sl b (xa x y) = xa (sl b x) (sl b y) := by cases b; exact (xa_zero _).symm; rfl
theorem MM_add_left (N : Nat) (s s' t : Nat → Nat × Nat) (w : Nat) : MM N (fun u => xa (s u) (s' u)) t w = xa (MM N s t w) (MM N s' t w) := by
  unfold MM
  rw [← xs_two]
  refine xs_congr N fun u _ => ?_
  rw [← xs_two]
  exact xs_congr N fun v _ => by rw [xa_pm, sl_xa]
theorem MM_add_right (N : Nat) (s t t' : Nat → Nat × Nat) (w : Nat) : MM N s (fun u => xa (t u) (t' u)) w = xa (MM N s t w) (MM N s t' w) := by
  unfold MM
  rw [← xs_two]
  refine xs_congr N fun u _ => ?_
  rw [← xs_two]
  exact xs_congr N fun v _ => by rw [pm_xa, sl_xa]
/-- A tensor times an element on the left, of a product. -/
theorem TX_MM {k w : Nat} (hk : k < 8) (z : Nat × Nat) (s t : Nat → Nat × Nat) : TX (2 ^ k) z (MM (2 ^ k) s t) w = xs (2 ^ k) fun u => xs (2 ^ k) fun v => sl (hs (pm z (pm (bv (u : Int)) (bv (v : Int)))) w) (pm (s u) (t v)) := by
  unfold TX MM
  rw [xs_congr (g := fun x => xs (2 ^ k) fun u => xs (2 ^ k) fun v => sl (hs (pm z (bv (x : Int))) w) (sl (hs (pm (bv (u : Int)) (bv (v : Int))) x) (pm (s u) (t v)))) _ fun x _ => by
    rw [sl_xs]
    exact xs_congr _ fun u _ => sl_xs _ _ _]
  rw [xs_swap]
  refine xs_congr _ fun u hu => ?_
  rw [xs_swap]
  refine xs_congr _ fun v hv => ?_
  have e := bits_sumP hk (lt_pm (bv (u : Int)) (bv (v : Int))) (of_pmP hk (of_bv hk hu) (of_bv hk hv))
  have e2 : hs (pm z (pm (bv (u : Int)) (bv (v : Int)))) w = bx (2 ^ k) fun x => (hs (pm (bv (u : Int)) (bv (v : Int))) x && hs (pm z (bv (x : Int))) w) := by
    conv => lhs; rw [← e, pm_xs, hs_xs]
    exact bx_congr _ fun x _ => by rw [pm_sl, hs_sl]
  rw [e2, sl_bx]
  exact xs_congr _ fun x _ => by rw [Bool.and_comm, sl_and]
theorem MM_lo {k w : Nat} (hk : k ≤ 6) (s t : Nat → Nat × Nat) (hw : w < 2 ^ k) : MM (2 ^ k + 2 ^ k) s t w = xa (MM (2 ^ k) s t w) (MM (2 ^ k) (fun i => s (2 ^ k + i)) (fun i => t (2 ^ k + i)) w) := by
  have hk8 : k < 8 := by omega
  unfold MM
  rw [xs_add]
  refine congr (congrArg xa ?_) ?_
  · refine xs_congr _ fun u hu => ?_
    rw [xs_add]
    have e : xs (2 ^ k) (fun i => sl (hs (pm (bv (u : Int)) (bv ((2 ^ k + i : Nat) : Int))) w) (pm (s u) (t (2 ^ k + i)))) = (0, 0) := xs_none _ fun v hv => by
      rw [bv_up hk hv, pm_left, gX_lo hk (of_pmP hk8 (of_bv hk8 hu) (of_bv hk8 hv)) hw]
      rfl
    rw [e, xa_zero]
  · refine xs_congr _ fun u hu => ?_
    rw [xs_add]
    have e : xs (2 ^ k) (fun v => sl (hs (pm (bv ((2 ^ k + u : Nat) : Int)) (bv (v : Int))) w) (pm (s (2 ^ k + u)) (t v))) = (0, 0) := xs_none _ fun v hv => by
      rw [bv_up hk hu, Tw.pm_assoc', gX_lo hk (of_pmP hk8 (of_bv hk8 hu) (of_bv hk8 hv)) hw]
      rfl
    rw [e, zero_xa]
    refine xs_congr _ fun v hv => ?_
    rw [bv_up hk hu, bv_up hk hv, Tw.pm_assoc', pm_left (bv (u : Int)), gXX_lo hk (lt_pm _ _) (of_pmP hk8 (of_bv hk8 hu) (of_bv hk8 hv)) hw]
theorem MM_hi {k w : Nat} (hk : k ≤ 6) (s t : Nat → Nat × Nat) (hw : w < 2 ^ k) : MM (2 ^ k + 2 ^ k) s t (2 ^ k + w) = xa (xa (MM (2 ^ k) s (fun i => t (2 ^ k + i)) w) (MM (2 ^ k) (fun i => s (2 ^ k + i)) t w)) (TX (2 ^ k) (gZ k) (MM (2 ^ k) (fun i => s (2 ^ k + i)) (fun i => t (2 ^ k + i))) w) := by
  have hk8 : k < 8 := by omega
  rw [TX_MM hk8, xa_assoc]
  unfold MM
  rw [xs_add]
  refine congr (congrArg xa ?_) ?_
  · refine xs_congr _ fun u hu => ?_
    rw [xs_add]
    have e : xs (2 ^ k) (fun v => sl (hs (pm (bv (u : Int)) (bv (v : Int))) (2 ^ k + w)) (pm (s u) (t v))) = (0, 0) := xs_none _ fun v hv => by
      rw [hs_high hk8 (lt_pm _ _) (of_pmP hk8 (of_bv hk8 hu) (of_bv hk8 hv)) (by omega)]
      rfl
    rw [e, zero_xa]
    refine xs_congr _ fun v hv => ?_
    rw [bv_up hk hv, pm_left, gX_hi hk (of_pmP hk8 (of_bv hk8 hu) (of_bv hk8 hv)) hw]
  · rw [← xs_two]
    refine xs_congr _ fun u hu => ?_
    rw [xs_add]
    refine congr (congrArg xa ?_) ?_
    · refine xs_congr _ fun v hv => ?_
      rw [bv_up hk hu, Tw.pm_assoc', gX_hi hk (of_pmP hk8 (of_bv hk8 hu) (of_bv hk8 hv)) hw]
    · refine xs_congr _ fun v hv => ?_
      rw [bv_up hk hu, bv_up hk hv, Tw.pm_assoc', pm_left (bv (u : Int)), gXX_hi hk (lt_pm _ _) (of_pmP hk8 (of_bv hk8 hu) (of_bv hk8 hv)) hw]
theorem bit_one : hs (pm (bv ((0 : Nat) : Int)) (bv ((0 : Nat) : Int))) 0 = true := by decide +kernel
/-- The product by halves is the sum over all pairs of bits. -/
theorem prL_el : ∀ (k : Nat), k ≤ 7 → ∀ (s t : List (Nat × Nat)) (w : Nat), s.length = 2 ^ k → t.length = 2 ^ k → w < 2 ^ k → el (prL k s t) w = MM (2 ^ k) (el s) (el t) w
  | 0, _, s, t, w, _, _, hw => by
    obtain rfl : w = 0 := by simpa using hw
    have e : prL 0 s t = [pm (el s 0) (el t 0)] := rfl
    rw [e]
    unfold MM
    rw [Nat.pow_zero, xs_one, xs_one, bit_one]
    exact (sl_true _).symm
  | k + 1, hk, s, t, w, hs', ht', hw => by
    have e : 2 ^ (k + 1) = 2 ^ k + 2 ^ k := by rw [Nat.pow_succ]; omega
    have l1 := len_drop hs'
    have l2 := len_drop ht'
    have l3 := len_take hs'
    have l4 := len_take ht'
    have LO : ∀ v, v < 2 ^ k → el (prL k (s.take (2 ^ k)) (t.take (2 ^ k))) v = MM (2 ^ k) (el s) (el t) v := fun v hv => by
      rw [prL_el k (by omega) _ _ v l3 l4 hv]
      exact MM_congr v (fun u hu => el_take hu) fun u hu => el_take hu
    have HI : ∀ v, v < 2 ^ k → el (prL k (s.drop (2 ^ k)) (t.drop (2 ^ k))) v = MM (2 ^ k) (fun i => el s (2 ^ k + i)) (fun i => el t (2 ^ k + i)) v := fun v hv => by
      rw [prL_el k (by omega) _ _ v l1 l2 hv]
      exact MM_congr v (fun u hu => el_drop _ _ _) fun u hu => el_drop _ _ _
    rw [e]
    rw [e] at hw
    unfold prL
    by_cases h : w < 2 ^ k
    · rw [el_left (by rw [addv_len]; exact h), addv_el _ _ _ _ h, xs_two', MM_lo (by omega) _ _ h, xa_comm, ← LO w h, ← HI w h]
      rfl
    · obtain ⟨v, rfl⟩ : ∃ v, w = 2 ^ k + v := ⟨w - 2 ^ k, by omega⟩
      have hv : v < 2 ^ k := by omega
      rw [el_right (addv_len _ _ _), addv_el _ _ _ _ hv, xs_four, MM_hi (by omega) _ _ hv]
      show xa (xa (xa (el (prL k (addv 2 (2 ^ k) [s.take (2 ^ k), s.drop (2 ^ k)]) (addv 2 (2 ^ k) [t.take (2 ^ k), t.drop (2 ^ k)])) v) (el (prL k (s.drop (2 ^ k)) (t.drop (2 ^ k))) v)) (el (prL k (s.take (2 ^ k)) (t.take (2 ^ k))) v)) (el (txL k (prL k (s.drop (2 ^ k)) (t.drop (2 ^ k)))) v) = _
      have MI : el (prL k (addv 2 (2 ^ k) [s.take (2 ^ k), s.drop (2 ^ k)]) (addv 2 (2 ^ k) [t.take (2 ^ k), t.drop (2 ^ k)])) v = xa (xa (MM (2 ^ k) (el s) (el t) v) (MM (2 ^ k) (el s) (fun i => el t (2 ^ k + i)) v)) (xa (MM (2 ^ k) (fun i => el s (2 ^ k + i)) (el t) v) (MM (2 ^ k) (fun i => el s (2 ^ k + i)) (fun i => el t (2 ^ k + i)) v)) := by
        rw [prL_el k (by omega) _ _ v (addv_len _ _ _) (addv_len _ _ _) hv, MM_congr (s' := fun u => xa (el s u) (el s (2 ^ k + u))) (t' := fun u => xa (el t u) (el t (2 ^ k + u))) v (fun u hu => by
          rw [addv_el _ _ _ _ hu, xs_two']
          show xa (el (s.take (2 ^ k)) u) (el (s.drop (2 ^ k)) u) = _
          rw [el_take hu, el_drop]) (fun u hu => by
          rw [addv_el _ _ _ _ hu, xs_two']
          show xa (el (t.take (2 ^ k)) u) (el (t.drop (2 ^ k)) u) = _
          rw [el_take hu, el_drop]), MM_add_left, MM_add_right, MM_add_right]
      rw [MI, HI v hv, LO v hv, txL_el k (by omega) _ v (prL_len _ _ _) hv, TX_congr v HI]
      refine congrArg (fun z => xa z _) ?_
      generalize MM (2 ^ k) (el s) (el t) v = A
      generalize MM (2 ^ k) (el s) (fun i => el t (2 ^ k + i)) v = B
      generalize MM (2 ^ k) (fun i => el s (2 ^ k + i)) (el t) v = C
      generalize MM (2 ^ k) (fun i => el s (2 ^ k + i)) (fun i => el t (2 ^ k + i)) v = D
      rw [xa_assoc (xa A B) (xa C D) D, xa_assoc C D D, xa_self, xa_zero, xa_comm (xa (xa A B) C) A, xa_assoc A B C, xa_back]
end Pv
end Go.Proofs.Ytcejppibcemdeaa
