/- Tables, weights and values, no Go in sight: binding one variable, values by binding, sums of tables, corners. -/
import Derived.Test.YtnecjkdlmecgdaaPSlA
import Derived.Test.YtnecjkdlmecgdaaPTwF
import Derived.Deep.RegionHeld3
import Derived.Deep.OwnRows
namespace Go.Proofs.Ytnecjkdlmecgdaa
namespace Cb
open Tw (pm)

def xa (a b : Nat × Nat) : Nat × Nat := (a.1 ^^^ b.1, a.2 ^^^ b.2)
theorem xa_comm (a b : Nat × Nat) : xa a b = xa b a := by unfold xa; rw [Nat.xor_comm, Nat.xor_comm a.2]
theorem xa_assoc (a b c : Nat × Nat) : xa (xa a b) c = xa a (xa b c) := by simp only [xa, Nat.xor_assoc]
theorem xa_left (a b c : Nat × Nat) : xa a (xa b c) = xa b (xa a c) := by rw [← xa_assoc, xa_comm a b, xa_assoc]
theorem xa_self (a : Nat × Nat) : xa a a = (0, 0) := by simp [xa]
theorem xa_zero (a : Nat × Nat) : xa a (0, 0) = a := by simp [xa]
theorem zero_xa (a : Nat × Nat) : xa (0, 0) a = a := by simp [xa]
theorem xa_back (a b : Nat × Nat) : xa a (xa a b) = b := by rw [← xa_assoc, xa_self, zero_xa]
theorem pm_xa (a b c : Nat × Nat) : pm a (xa b c) = xa (pm a b) (pm a c) := Prod.ext (Tw.pm_add _ _ _ _ _ _).1 (Tw.pm_add _ _ _ _ _ _).2
theorem xa_pm (a b c : Nat × Nat) : pm (xa b c) a = xa (pm b a) (pm c a) := by rw [Tw.pm_comm', pm_xa, Tw.pm_comm' a b, Tw.pm_comm' a c]
def lt2 (a : Nat × Nat) : Prop := a.1 < 2 ^ 64 ∧ a.2 < 2 ^ 64
theorem lt_xa {a b : Nat × Nat} (ha : lt2 a) (hb : lt2 b) : lt2 (xa a b) := ⟨Nat.xor_lt_two_pow ha.1 hb.1, Nat.xor_lt_two_pow ha.2 hb.2⟩
theorem lt_pm (a b : Nat × Nat) : lt2 (pm a b) := Tw.pm_lt a b
theorem lt_one : lt2 (0, 1) := ⟨Nat.two_pow_pos 64, by decide⟩
theorem lt_zero : lt2 (0, 0) := ⟨Nat.two_pow_pos 64, Nat.two_pow_pos 64⟩
theorem pm_one {a : Nat × Nat} (h : lt2 a) : pm a (0, 1) = a := Tw.pm_one' a h.1 h.2
theorem one_pm {a : Nat × Nat} (h : lt2 a) : pm (0, 1) a = a := by rw [Tw.pm_comm', pm_one h]
theorem pm_zero (a : Nat × Nat) : pm a (0, 0) = (0, 0) := Tw.pm_none a
theorem zero_pm (a : Nat × Nat) : pm (0, 0) a = (0, 0) := by rw [Tw.pm_comm', pm_zero]
theorem pm_left (a b c : Nat × Nat) : pm a (pm b c) = pm b (pm a c) := by rw [← Tw.pm_assoc', Tw.pm_comm' a b, Tw.pm_assoc']

/-- The element number i of a table. -/
def el (t : List (Nat × Nat)) (i : Nat) : Nat × Nat := t.getD i (0, 0)
/-- Bound to r in one variable, the two elements st * i and st * i + gp. -/
def hv (st gp : Nat) (t : List (Nat × Nat)) (r : Nat × Nat) (i : Nat) : Nat × Nat := xa (el t (st * i)) (pm r (xa (el t (st * i)) (el t (st * i + gp))))
def half (st gp : Nat) (t : List (Nat × Nat)) (r : Nat × Nat) : List (Nat × Nat) := (List.range (t.length / 2)).map (hv st gp t r)
theorem half_len (st gp : Nat) (t : List (Nat × Nat)) (r : Nat × Nat) : (half st gp t r).length = t.length / 2 := by simp [half]
theorem half_at (st gp : Nat) (t : List (Nat × Nat)) (r : Nat × Nat) {i : Nat} (h : i < t.length / 2) : el (half st gp t r) i = hv st gp t r i := by
  simp [el, half, List.getD, h]
def fst1 (t : List (Nat × Nat)) (r : Nat × Nat) : List (Nat × Nat) := half 2 1 t r
def lst1 (t : List (Nat × Nat)) (r : Nat × Nat) : List (Nat × Nat) := half 1 (t.length / 2) t r
theorem list_ext {a b : List (Nat × Nat)} (hl : a.length = b.length) (h : ∀ i, i < a.length → el a i = el b i) : a = b := by
  refine List.ext_getElem hl fun i h1 h2 => ?_
  have := h i h1
  simpa [el, List.getD, h1, h2] using this
/-- All elements are words. -/
theorem ltE_el {t : List (Nat × Nat)} (h : ltE t) (i : Nat) : lt2 (el t i) := h.at i
theorem ltE_of {t : List (Nat × Nat)} (h : ∀ i, i < t.length → lt2 (el t i)) : ltE t := fun e he => by
  obtain ⟨i, hi, rfl⟩ := List.getElem_of_mem he
  have := h i hi
  rw [show el t i = t[i] by simp [el, List.getD, hi]] at this
  exact this
theorem lt_half {t : List (Nat × Nat)} (h : ltE t) (st gp : Nat) (r : Nat × Nat) : ltE (half st gp t r) := ltE_of fun i hi => by
  rw [half_len] at hi
  rw [half_at st gp t r hi]
  exact lt_xa (ltE_el h _) (lt_pm _ _)
/-- All elements are of the level. -/
def ofE (k : Nat) (e : Nat × Nat) : Prop := ofB (k : Int) (e.1 : Int) (e.2 : Int) = true
def ofT (k : Nat) (t : List (Nat × Nat)) : Prop := ∀ e ∈ t, ofE k e
theorem ofT.el {k : Nat} {t : List (Nat × Nat)} (hk : k < 8) (h : ofT k t) (i : Nat) : ofE k (el t i) := by
  by_cases hi : i < t.length
  · have : Cb.el t i = t[i] := by simp [Cb.el, List.getD, hi]
    rw [this]; exact h _ (List.getElem_mem hi)
  · have : Cb.el t i = (0, 0) := by simp [Cb.el, List.getD, List.getElem?_eq_none (Nat.not_lt.1 hi)]
    rw [this]; exact of_zero k hk
theorem ofT_of {k : Nat} {t : List (Nat × Nat)} (h : ∀ i, i < t.length → ofE k (el t i)) : ofT k t := fun e he => by
  obtain ⟨i, hi, rfl⟩ := List.getElem_of_mem he
  have := h i hi
  simpa [Cb.el, List.getD, hi] using this
theorem of_hv {k : Nat} (hk : k < 8) {t : List (Nat × Nat)} (h : ofT k t) {r : Nat × Nat} (hr : ofE k r) (st gp i : Nat) : ofE k (hv st gp t r i) :=
  of_xor hk (h.el hk _) (of_pm hk hr (of_xor hk (h.el hk _) (h.el hk _)))
theorem of_half {k : Nat} (hk : k < 8) {t : List (Nat × Nat)} (h : ofT k t) {r : Nat × Nat} (hr : ofE k r) (st gp : Nat) : ofT k (half st gp t r) := ofT_of fun i hi => by
  rw [half_len] at hi
  rw [half_at st gp t r hi]
  exact of_hv hk h hr st gp i
/-- Bound again and again. -/
def firsts (t p : List (Nat × Nat)) : List (Nat × Nat) := p.foldl fst1 t
def lasts (t p : List (Nat × Nat)) : List (Nat × Nat) := p.foldl lst1 t
theorem firsts_len : ∀ (p t : List (Nat × Nat)) (m : Nat), t.length = 2 ^ (p.length + m) → (firsts t p).length = 2 ^ m
  | [], t, m, h => by simpa [firsts] using h
  | r :: p, t, m, h => by
    show (firsts (fst1 t r) p).length = 2 ^ m
    refine firsts_len p (fst1 t r) m ?_
    rw [fst1, half_len, h, List.length_cons, show p.length + 1 + m = (p.length + m) + 1 by omega, Nat.pow_succ]
    omega
theorem lasts_len : ∀ (p t : List (Nat × Nat)) (m : Nat), t.length = 2 ^ (p.length + m) → (lasts t p).length = 2 ^ m
  | [], t, m, h => by simpa [lasts] using h
  | r :: p, t, m, h => by
    show (lasts (lst1 t r) p).length = 2 ^ m
    refine lasts_len p (lst1 t r) m ?_
    rw [lst1, half_len, h, List.length_cons, show p.length + 1 + m = (p.length + m) + 1 by omega, Nat.pow_succ]
    omega
theorem lt_firsts : ∀ (p t : List (Nat × Nat)), ltE t → ltE (firsts t p)
  | [], _, h => h
  | r :: p, t, h => lt_firsts p (fst1 t r) (lt_half h 2 1 r)
theorem lt_lasts : ∀ (p t : List (Nat × Nat)), ltE t → ltE (lasts t p)
  | [], _, h => h
  | r :: p, t, h => lt_lasts p (lst1 t r) (lt_half h 1 _ r)
theorem of_firsts {k : Nat} (hk : k < 8) : ∀ (p t : List (Nat × Nat)), ofT k t → ofT k p → ofT k (firsts t p)
  | [], _, h, _ => h
  | r :: p, t, h, hp => of_firsts hk p (fst1 t r) (of_half hk h (hp r (by simp)) 2 1) fun e he => hp e (by simp [he])
theorem of_lasts {k : Nat} (hk : k < 8) : ∀ (p t : List (Nat × Nat)), ofT k t → ofT k p → ofT k (lasts t p)
  | [], _, h, _ => h
  | r :: p, t, h, hp => of_lasts hk p (lst1 t r) (of_half hk h (hp r (by simp)) 1 _) fun e he => hp e (by simp [he])

/-- A sum over the first so many. -/
def xs : Nat → (Nat → Nat × Nat) → Nat × Nat
  | 0, _ => (0, 0)
  | n + 1, f => xa (xs n f) (f n)
theorem xs_congr {f g : Nat → Nat × Nat} : ∀ n, (∀ i, i < n → f i = g i) → xs n f = xs n g
  | 0, _ => rfl
  | n + 1, h => by rw [xs, xs, xs_congr n fun i hi => h i (by omega), h n (by omega)]
theorem xs_pair (f : Nat → Nat × Nat) : ∀ m, xs (2 * m) f = xs m fun i => xa (f (2 * i)) (f (2 * i + 1))
  | 0 => rfl
  | m + 1 => by
    rw [show 2 * (m + 1) = 2 * m + 1 + 1 by omega, xs, xs, xs, xs_pair f m, xa_assoc]
theorem lt_xs {f : Nat → Nat × Nat} (h : ∀ i, lt2 (f i)) : ∀ n, lt2 (xs n f)
  | 0 => lt_zero
  | n + 1 => lt_xa (lt_xs h n) (h n)
/-- The factor of a variable. -/
def fac (x : Nat × Nat) (n : Nat) : Nat × Nat := if n % 2 = 1 then x else xa (0, 1) x
def wtf (o : Nat × Nat) : List (Nat × Nat) → Nat → Nat × Nat
  | [], _ => o
  | x :: p, n => wtf (pm o (fac x n)) p (n / 2)
/-- The weight of a corner. -/
def wt (p : List (Nat × Nat)) (n : Nat) : Nat × Nat := wtf (0, 1) p n
theorem lt_wtf : ∀ (p : List (Nat × Nat)) (o : Nat × Nat) (n : Nat), lt2 o → lt2 (wtf o p n)
  | [], _, _, h => h
  | _ :: p, _, _, _ => lt_wtf p _ _ (lt_pm _ _)
theorem lt_wt (p : List (Nat × Nat)) (n : Nat) : lt2 (wt p n) := lt_wtf p _ n lt_one
theorem lt_fac {x : Nat × Nat} (h : lt2 x) (n : Nat) : lt2 (fac x n) := by
  unfold fac; split
  · exact h
  · exact lt_xa lt_one h
theorem wtf_pm : ∀ (p : List (Nat × Nat)) (o : Nat × Nat) (n : Nat), ltE p → lt2 o → wtf o p n = pm o (wt p n)
  | [], o, n, _, ho => by show o = pm o (0, 1); rw [pm_one ho]
  | x :: p, o, n, hp, ho => by
    have hp' : ltE p := fun e he => hp e (by simp [he])
    have hx : lt2 x := hp x (by simp)
    show wtf (pm o (fac x n)) p (n / 2) = pm o (wtf (pm (0, 1) (fac x n)) p (n / 2))
    rw [wtf_pm p _ _ hp' (lt_pm _ _), wtf_pm p _ _ hp' (lt_pm _ _), one_pm (lt_fac hx n), Tw.pm_assoc']
theorem wt_cons (x : Nat × Nat) (p : List (Nat × Nat)) (n : Nat) (hx : lt2 x) (hp : ltE p) : wt (x :: p) n = pm (fac x n) (wt p (n / 2)) := by
  show wtf (pm (0, 1) (fac x n)) p (n / 2) = _
  rw [one_pm (lt_fac hx n), wtf_pm p _ _ hp (lt_fac hx n)]
/-- The value of a table. -/
def vl (t p : List (Nat × Nat)) : Nat × Nat := xs t.length fun i => pm (el t i) (wt p i)
theorem lt_vl (t p : List (Nat × Nat)) : lt2 (vl t p) := lt_xs (fun _ => lt_pm _ _) _
theorem bind_eq (a b r : Nat × Nat) (ha : lt2 a) : xa (pm a (xa (0, 1) r)) (pm b r) = xa a (pm r (xa a b)) := by
  rw [pm_xa, pm_one ha, pm_xa, xa_assoc, Tw.pm_comm' a r, Tw.pm_comm' b r]
theorem vl_step (t p : List (Nat × Nat)) (r : Nat × Nat) (m : Nat) (hl : t.length = 2 * m) (ht : ltE t) (hr : lt2 r) (hp : ltE p) : vl t (r :: p) = vl (fst1 t r) p := by
  unfold vl
  rw [fst1, half_len, hl, xs_pair, show 2 * m / 2 = m by omega]
  refine xs_congr m fun i hi => ?_
  rw [wt_cons r p _ hr hp, wt_cons r p _ hr hp, show 2 * i / 2 = i by omega, show (2 * i + 1) / 2 = i by omega, half_at 2 1 t r (by omega)]
  have f0 : fac r (2 * i) = xa (0, 1) r := by unfold fac; rw [if_neg (by omega)]
  have f1 : fac r (2 * i + 1) = r := by unfold fac; rw [if_pos (by omega)]
  rw [f0, f1, ← Tw.pm_assoc', ← Tw.pm_assoc', ← xa_pm, bind_eq _ _ _ (ltE_el ht _)]
  rfl
/-- Bound in all its variables, a table has its value alone. -/
theorem firsts_vl : ∀ (p t : List (Nat × Nat)), t.length = 2 ^ p.length → ltE t → ltE p → firsts t p = [vl t p]
  | [], t, h, ht, _ => by
    obtain ⟨x, rfl⟩ := List.length_eq_one_iff.1 (by simpa using h)
    show [x] = [vl [x] []]
    have : vl [x] [] = x := by
      show xa (0, 0) (pm x (0, 1)) = x
      rw [zero_xa, pm_one (ht x (by simp))]
    rw [this]
  | r :: p, t, h, ht, hp => by
    have hp' : ltE p := fun e he => hp e (by simp [he])
    have hr : lt2 r := hp r (by simp)
    have h2 : t.length = 2 * 2 ^ p.length := by rw [h, List.length_cons, Nat.pow_succ]; omega
    show firsts (fst1 t r) p = _
    rw [firsts_vl p (fst1 t r) (by rw [fst1, half_len, h2]; omega) (lt_half ht 2 1 r) hp', vl_step t p r _ h2 ht hr hp']

/-- A table and another one times a factor, added. -/
def lc (c : Nat × Nat) (t s : List (Nat × Nat)) : List (Nat × Nat) := (List.range t.length).map fun i => xa (el t i) (pm c (el s i))
theorem lc_len (c : Nat × Nat) (t s : List (Nat × Nat)) : (lc c t s).length = t.length := by simp [lc]
theorem lc_at (c : Nat × Nat) (t s : List (Nat × Nat)) {i : Nat} (h : i < t.length) : el (lc c t s) i = xa (el t i) (pm c (el s i)) := by
  simp [el, lc, List.getD, h]
theorem lc_fst (c r : Nat × Nat) (t s : List (Nat × Nat)) (hl : t.length = s.length) : fst1 (lc c t s) r = lc c (fst1 t r) (fst1 s r) := by
  refine list_ext ?_ fun i hi => ?_
  · rw [fst1, half_len, lc_len, lc_len, fst1, half_len]
  · rw [fst1, half_len, lc_len] at hi
    rw [fst1, half_at 2 1 _ r (by rw [lc_len]; exact hi), lc_at c (fst1 t r) (fst1 s r) (by rw [fst1, half_len]; exact hi), fst1, fst1, half_at 2 1 t r hi, half_at 2 1 s r (by omega)]
    unfold hv
    rw [lc_at c t s (by omega), lc_at c t s (by omega)]
    simp only [pm_xa, pm_left c r, xa_assoc, xa_left]
theorem lc_firsts (c : Nat × Nat) : ∀ (p t s : List (Nat × Nat)), t.length = s.length → firsts (lc c t s) p = lc c (firsts t p) (firsts s p)
  | [], _, _, _ => rfl
  | r :: p, t, s, h => by
    show firsts (fst1 (lc c t s) r) p = lc c (firsts (fst1 t r) p) (firsts (fst1 s r) p)
    rw [lc_fst c r t s h, lc_firsts c p _ _ (by rw [fst1, fst1, half_len, half_len, h])]

/-- A corner as a point. -/
def crn : Nat → Nat → List (Nat × Nat)
  | 0, _ => []
  | n + 1, i => (0, i % 2) :: crn n (i / 2)
theorem crn_len : ∀ n i, (crn n i).length = n
  | 0, _ => rfl
  | n + 1, i => by simp [crn, crn_len n]
theorem fst_bit (t : List (Nat × Nat)) (b : Nat) (hb : b < 2) (ht : ltE t) : fst1 t (0, b) = (List.range (t.length / 2)).map fun i => el t (2 * i + b) := by
  unfold fst1 half
  refine List.map_congr_left fun i _ => ?_
  unfold hv
  obtain rfl | rfl : b = 0 ∨ b = 1 := by omega
  · rw [zero_pm, xa_zero]; rfl
  · rw [one_pm (lt_xa (ltE_el ht _) (ltE_el ht _)), xa_back]
theorem firsts_crn : ∀ (n i : Nat) (t : List (Nat × Nat)), t.length = 2 ^ n → i < 2 ^ n → ltE t → firsts t (crn n i) = [el t i]
  | 0, i, t, h, hi, _ => by
    obtain ⟨x, rfl⟩ := List.length_eq_one_iff.1 (by simpa using h)
    obtain rfl : i = 0 := by omega
    rfl
  | n + 1, i, t, h, hi, ht => by
    rw [Nat.pow_succ] at h hi
    show firsts (fst1 t (0, i % 2)) (crn n (i / 2)) = _
    rw [firsts_crn n (i / 2) (fst1 t (0, i % 2)) (by rw [fst1, half_len]; omega) (by omega) (lt_half ht 2 1 _), fst_bit t _ (by omega) ht]
    have h2 : i / 2 < t.length / 2 := by omega
    have : el ((List.range (t.length / 2)).map fun i_1 => el t (2 * i_1 + i % 2)) (i / 2) = el t (2 * (i / 2) + i % 2) := by simp [el, List.getD, h2]
    rw [this, show 2 * (i / 2) + i % 2 = i by omega]

/-- Bound in the last variable and in the first one, in either order. -/
theorem fst_lst (t : List (Nat × Nat)) (r s : Nat × Nat) (m : Nat) (hl : t.length = 4 * m) : fst1 (lst1 t r) s = lst1 (fst1 t s) r := by
  refine list_ext (by rw [fst1, half_len, lst1, half_len, lst1, half_len, fst1, half_len]) fun i hi => ?_
  rw [fst1, half_len, lst1, half_len] at hi
  have e1 : (lst1 t r).length = 2 * m := by rw [lst1, half_len]; omega
  have e2 : (fst1 t s).length = 2 * m := by rw [fst1, half_len]; omega
  rw [fst1, half_at 2 1 _ s (by rw [e1]; omega)]
  conv => rhs; rw [lst1, half_at 1 _ _ r (by rw [e2]; omega)]
  unfold hv
  rw [e2, lst1, half_at 1 _ t r (by omega), half_at 1 _ t r (by omega), fst1, half_at 2 1 t s (by omega), half_at 2 1 t s (by omega)]
  unfold hv
  rw [hl, show 1 * (2 * i) = 2 * i by omega, show 2 * (1 * i) = 2 * i by omega, show 1 * (2 * i + 1) = 2 * i + 1 by omega, show 2 * (1 * i + 2 * m / 2) = 2 * i + 4 * m / 2 by omega, show 2 * i + 1 + 4 * m / 2 = 2 * i + 4 * m / 2 + 1 by omega]
  simp only [pm_xa, pm_left r s, xa_assoc, xa_left]
theorem fst_lst2 (t : List (Nat × Nat)) (r : Nat × Nat) (hl : t.length = 2) : fst1 t r = lst1 t r := by
  refine list_ext (by rw [fst1, half_len, lst1, half_len]) fun i hi => ?_
  rw [fst1, half_len] at hi
  obtain rfl : i = 0 := by omega
  rw [fst1, half_at 2 1 t r (by omega), lst1, half_at 1 _ t r (by omega)]
  unfold hv
  rw [hl]
theorem firsts_app (t p q : List (Nat × Nat)) : firsts t (p ++ q) = firsts (firsts t p) q := by unfold firsts; rw [List.foldl_append]
theorem firsts_one (t : List (Nat × Nat)) (r : Nat × Nat) : firsts t [r] = fst1 t r := by simp only [firsts, List.foldl_cons, List.foldl_nil]
theorem firsts_lst : ∀ (p t : List (Nat × Nat)) (r : Nat × Nat) (m : Nat), t.length = 2 ^ (p.length + (m + 1)) → firsts (lst1 t r) p = lst1 (firsts t p) r
  | [], _, _, _, _ => rfl
  | s :: p, t, r, m, h => by
    have h4 : t.length = 4 * 2 ^ (p.length + m) := by
      rw [h, List.length_cons, show p.length + 1 + (m + 1) = (p.length + m) + 1 + 1 by omega, Nat.pow_succ, Nat.pow_succ]; omega
    show firsts (fst1 (lst1 t r) s) p = lst1 (firsts (fst1 t s) p) r
    rw [fst_lst t r s _ h4, firsts_lst p (fst1 t s) r m (by rw [fst1, half_len, h4, ← Nat.add_assoc, Nat.pow_succ]; omega)]
theorem lasts_rev (p : List (Nat × Nat)) : ∀ t : List (Nat × Nat), t.length = 2 ^ p.length → lasts t p = firsts t p.reverse := by
  induction p with
  | nil => intro t _; simp only [lasts, firsts, List.reverse_nil, List.foldl_nil]
  | cons r p ih =>
    intro t h
    have h1 : t.length = 2 ^ (p.length + 1) := by rw [h, List.length_cons]
    have h2 : t.length = 2 * 2 ^ p.length := by rw [h1, Nat.pow_succ]; omega
    have h3 : (lst1 t r).length = 2 ^ p.length := by rw [lst1, half_len]; omega
    have e1 : lasts t (r :: p) = lasts (lst1 t r) p := by simp only [lasts, List.foldl_cons]
    have h4 : t.length = 2 ^ (p.reverse.length + (0 + 1)) := by rw [List.length_reverse, Nat.zero_add]; exact h1
    have h5 : (firsts t p.reverse).length = 2 := firsts_len p.reverse t 1 h4
    rw [e1, ih _ h3, List.reverse_cons, firsts_app, firsts_one, firsts_lst p.reverse t r 0 h4, fst_lst2 _ r h5]
theorem firsts_lasts : ∀ (r p t : List (Nat × Nat)), t.length = 2 ^ (p.length + r.length) → firsts (lasts t r) p = lasts (firsts t p) r
  | [], _, _, _ => rfl
  | x :: r, p, t, h => by
    show firsts (lasts (lst1 t x) r) p = lasts (lst1 (firsts t p) x) r
    have hh : t.length = 2 * 2 ^ (p.length + r.length) := by rw [h, List.length_cons, ← Nat.add_assoc, Nat.pow_succ]; omega
    rw [firsts_lasts r p (lst1 t x) (by rw [lst1, half_len]; omega), firsts_lst p t x r.length (by rw [h, List.length_cons])]
/-- What is bound in its last variables has at a point the value that the table has there, with what it was bound to behind it, the last one first. -/
theorem last_value (t p r : List (Nat × Nat)) (h : t.length = 2 ^ (p.length + r.length)) : firsts (lasts t r) p = firsts t (p ++ r.reverse) := by
  rw [firsts_lasts r p t h, lasts_rev r _ (firsts_len p t r.length h), firsts_app]
theorem first_value (t p r : List (Nat × Nat)) : firsts (firsts t r) p = firsts t (r ++ p) := by
  rw [firsts_app]
end Cb
end Go.Proofs.Ytnecjkdlmecgdaa

/- Contracts of cube.isLevel, allOf, Log, hindrance and halved over the seat's translation. -/
namespace Go.Proofs.Ytnecjkdlmecgdaa
open Go.RowKit
open Cb

theorem cand_nat (a b : Nat) (ha : a < 9223372036854775808) (hb : b < 9223372036854775808) : bits .and .i64 (a : Int) (b : Int) = ((a &&& b : Nat) : Int) := by
  have hx : a &&& b < 2 ^ 63 := Nat.and_lt_two_pow _ (by omega)
  have h1 : (BitVec.ofInt 64 (a : Int)).toNat = a := by
    rw [BitVec.ofInt_natCast, BitVec.toNat_ofNat]; exact Nat.mod_eq_of_lt (by omega)
  have h2 : (BitVec.ofInt 64 (b : Int)).toNat = b := by
    rw [BitVec.ofInt_natCast, BitVec.toNat_ofNat]; exact Nat.mod_eq_of_lt (by omega)
  show IntKind.i64.wrap ((BitVec.ofInt 64 (a : Int) &&& BitVec.ofInt 64 (b : Int)).toNat : Int) = _
  rw [BitVec.toNat_and, h1, h2, IntKind.wrap_i64]
  omega
/-- k of 2^k, or -1. -/
def lgz (n : Nat) : Int := if n ≠ 0 ∧ n.log2 ≤ 16 ∧ 2 ^ n.log2 = n then (n.log2 : Int) else -1
theorem lgz_two (k : Nat) (h : k ≤ 16) : lgz (2 ^ k) = (k : Int) := by
  unfold lgz
  rw [Nat.log2_two_pow, if_pos ⟨by have := Nat.two_pow_pos k; omega, h, rfl⟩]
theorem lgz_or (n : Nat) : lgz n = -1 ∨ ∃ k : Nat, k ≤ 16 ∧ n = 2 ^ k ∧ lgz n = (k : Int) := by
  unfold lgz
  split
  · rename_i h; exact .inr ⟨n.log2, h.2.1, h.2.2.symm, rfl⟩
  · exact .inl rfl
theorem lgz_no {n : Nat} (h : lgz n = -1) (k : Nat) (hk : k ≤ 16) : n ≠ 2 ^ k := by
  rintro rfl
  rw [lgz_two k hk] at h
  omega
theorem bitLen_two : ∀ k, k < 17 → Lib.bitLen (2 ^ k) = k + 1 := by decide
/-- What hinders. -/
def hnd (l : Int) (f : Bool) (t p : List (Nat × Nat)) : Int :=
  if 0 ≤ l ∧ l ≤ 7 then (if f = true then (if (t.all fun e => ofB l (e.1 : Int) (e.2 : Int)) = true ∧ (p.all fun e => ofB l (e.1 : Int) (e.2 : Int)) = true then 0 else 5) else 6) else 1
end Go.Proofs.Ytnecjkdlmecgdaa

/- The contract of cube.halved over the seat's translation. -/
namespace Go.Proofs.Ytnecjkdlmecgdaa
open Go.RowKit
open Cb
open Tw (pm)

/-- The cell number p of a table. -/
def tcell (f : Nat → Nat × Nat) (p : Nat) : Value := if p % 2 = 0 then .int .u64 ((f (p / 2)).1 : Int) else .int .u64 ((f (p / 2)).2 : Int)
theorem row_tab {w : World} {g : Nat} {T : TypeId} {m : Nat} {f : Nat → Value} {es : List (Nat × Nat)} (hm : es.length = m) (R : w.rowIs g T (m * 2) f) (F : ∀ p, p < m * 2 → f p = tcell (el es) p) : ERow w (some ⟨g, 0, none⟩) es := ⟨fun i hi => by
  have c1 := R.cell (i := i * 2) (by omega)
  have c0 := R.cell (i := i * 2 + 1) (by omega)
  rw [F _ (by omega)] at c1 c0
  unfold tcell at c1 c0
  rw [if_pos (by omega), show i * 2 / 2 = i by omega] at c1
  rw [if_neg (by omega), show (i * 2 + 1) / 2 = i by omega] at c0
  exact ⟨g, 0, rfl, R.lt, by rw [Nat.zero_add]; exact c1, by rw [Nat.zero_add]; exact c0⟩⟩
theorem own_rowT {w : World} {base : Nat} {T : TypeId} {g n c : Nat} {xs : List Value} (h : w.ownsRow base T 2 (.slice (some ⟨g, 0, none⟩) n n) n xs) (hc : c = n * 2) : ∃ f, w.rowIs g T c f := by
  subst hc
  rcases h.2 with ⟨h1, _⟩ | ⟨g', cap, cur, e, _, hg, _, _, hs, _⟩
  · injection h1 with h2; cases h2
  · injection e with e1 e2 e3
    obtain rfl : g = g' := by injection e1 with e4; injection e4
    subst e3
    exact ⟨fun i => cur.getD i undef, cur, hg, hs, fun i hi => by
      show cur[i]? = some (cur.getD i undef)
      rw [Array.getD_eq_getD_getElem?, Array.getElem?_eq_getElem (by omega)]; rfl⟩
theorem half_el (st gp : Nat) (t : List (Nat × Nat)) (r : Nat × Nat) {i m : Nat} (hm : t.length / 2 = m) (h : i < m) : el (half st gp t r) i = hv st gp t r i := half_at st gp t r (by omega)
theorem Ew.off {w : World} {b c h l : Nat} (e : Ew w c h l) (hn : b ≠ c) (o o' : Nat) (u v : Value) : Ew ((w.setCell ⟨b, o, none⟩ u).setCell ⟨b, o', none⟩ v) c h l := by
  obtain ⟨⟨h1, h2⟩, h3, h4⟩ := e
  have hn' : c ≠ b := fun h => hn h.symm
  exact ⟨⟨by simp [go_sem, *], by simp [go_sem, *]⟩, by simp [go_sem, *], by simp [go_sem, *]⟩
/-- Three elements in boxes, and the row that is filled. -/
structure Hst (W w : World) (m : Nat) (f : Nat → Value) (P1 P2 : Nat) (r x y : Nat × Nat) : Prop where
  r : Ew w W.heap.size r.1 r.2
  x : El w P1 x.1 x.2
  y : El w P2 y.1 y.2
  row : w.rowIs (W.heap.size + 1) 27 (m * 2) f
  d : Below W.heap.size W w
theorem Hst.below {W w w' : World} {m : Nat} {f : Nat → Value} {P1 P2 : Nat} {r x y : Nat × Nat} (h : Hst W w m f P1 P2 r x y) (hb : Below w.heap.size w w') : Hst W w' m f P1 P2 r x y :=
  ⟨h.r.below hb, h.x.below hb, h.y.below hb, h.row.of_block (hb.block _ h.row.lt), h.d.trans (hb.mono h.d.size)⟩
theorem Hst.drew {W w : World} {m : Nat} {f : Nat → Value} {P1 P2 : Nat} {r x y : Nat × Nat} (h : Hst W w m f P1 P2 r x y) : Hst W w.drew m f P1 P2 r x y := h.below (Below.refl _ _).drew
theorem Hst.facts {W w : World} {m : Nat} {f : Nat → Value} {P1 P2 : Nat} {r x y : Nat × Nat} (h : Hst W w m f P1 P2 r x y) :
    w.cell? ⟨W.heap.size, 0, none⟩ = some (.int .u64 (r.1 : Int)) ∧ w.cell? ⟨W.heap.size, 1, none⟩ = some (.int .u64 (r.2 : Int)) ∧ w.cell? ⟨P1, 0, none⟩ = some (.int .u64 (x.1 : Int)) ∧ w.cell? ⟨P1, 1, none⟩ = some (.int .u64 (x.2 : Int)) ∧ w.cell? ⟨P2, 0, none⟩ = some (.int .u64 (y.1 : Int)) ∧ w.cell? ⟨P2, 1, none⟩ = some (.int .u64 (y.2 : Int)) :=
  ⟨h.r.hi, h.r.lo, h.x.hi, h.x.lo, h.y.hi, h.y.lo⟩
end Go.Proofs.Ytnecjkdlmecgdaa

/- Contracts of slices.Clone, cube.first, last, At, First and Last over the seat's translation. -/
namespace Go.Proofs.Ytnecjkdlmecgdaa
open Go.RowKit
open Cb
open Tw (pm)

theorem cflat_ones (es : List (Nat × Nat)) : ∀ u ∈ flat es, u.oneCell' = true := by
  intro u hu
  unfold flat at hu
  obtain ⟨e, _, he⟩ := List.mem_flatMap.1 hu
  simp at he
  rcases he with rfl | rfl <;> rfl
theorem ERow.cflatOn {w : World} {b off : Nat} {es : List (Nat × Nat)} (h : ERow w (some ⟨b, off, none⟩) es) (j : Nat) (u : Value) (hu : (flat es)[j]? = some u) : w.cell? ((⟨b, off, none⟩ : Addr).add j) = some u := by
  have hj : j < es.length * 2 := by
    rw [← flat_len]
    obtain ⟨h1, _⟩ := List.getElem?_eq_some_iff.1 hu
    exact h1
  have ha : (⟨b, off, none⟩ : Addr).add j = ⟨b, off + j, none⟩ := by unfold Addr.add; split <;> simp_all
  rw [ha]
  have hi : j / 2 < es.length := by omega
  obtain ⟨b2, off2, e, _, c1, c0⟩ := h.cells (j / 2) hi
  have hf := flat_at es (j / 2) hi
  simp only [Option.some.injEq, Addr.mk.injEq] at e
  obtain ⟨rfl, rfl, _⟩ := e
  rcases Nat.mod_two_eq_zero_or_one j with h2 | h2
  · have e2 : j / 2 * 2 = j := by omega
    rw [e2] at c1 hf
    rw [hf.1] at hu
    rw [c1]; exact hu
  · have e2 : j / 2 * 2 + 1 = j := by omega
    rw [Nat.add_assoc, e2] at c0
    rw [e2] at hf
    rw [hf.2] at hu
    rw [c0]; exact hu
/-- A row of one's own, as elements. -/
theorem cown_elems {w : World} {base : Nat} {T : TypeId} {v : Value} {es : List (Nat × Nat)} (h : w.ownsRow base T 2 v es.length (flat es)) :
    ∃ a b cap, v = .slice a es.length cap ∧ (es.length = 0 ∨ a = some ⟨b, 0, none⟩) ∧ es.length ≤ cap ∧ ERow w a es := by
  obtain ⟨a', cap', e, hE⟩ := own_row h
  rcases h.2 with ⟨h1, h0⟩ | ⟨g, cap, cur, e2, _, _, hn, _⟩
  · refine ⟨a', 0, cap', e, .inl h0, by omega, hE⟩
  · rw [e2] at e
    injection e with e3 e4 e5
    subst e3 e5
    exact ⟨_, g, cap, e2, .inr rfl, hn, hE⟩
set_option maxHeartbeats 1000000 in
set_option maxRecDepth 100000 in
/-- A copy of elements. -/
theorem ccloned (a : Option Addr) (cap : Nat) (es : List (Nat × Nat)) (h10 : es.length ≤ 100000) (ha : a = none → es.length = 0 ∧ cap = 0) (W : World) (hr : ERow W a es) :
    Calls Try.prog 44 #[.slice a es.length cap] W fun e w' => ∃ a' b' cap', e = .returned (.slice a' es.length cap') ∧ (es.length = 0 ∨ a' = some ⟨b', 0, none⟩) ∧ es.length ≤ cap' ∧ ERow w' a' es ∧ Below W.heap.size W w' := by
  rcases a with _ | x
  · obtain ⟨h1, h2⟩ := ha rfl
    obtain rfl : es = [] := List.eq_nil_of_length_eq_zero h1
    subst h2
    clear hr ha
    have he : ∀ w, (binOp .eql 22 (.slice none 0 0) (.slice none 0 0)).run Try.prog w = .ok (.bool true) w := fun w => Go.Lib.run_eql_slice_nil w 22 27 _ _ _ _ _ Try.underlying22
    go_enter Try.func44, Try.ntmps44
    go_wp2
    go_ret
    exact ⟨none, 0, 0, rfl, .inl (by first | rfl | trivial), Nat.zero_le _, ⟨fun i hi => by simp at hi⟩, Below.refl _ _⟩
  · obtain ⟨i0, hi, hz0, hz1, hz2⟩ := info_elem
    have HI : Hid (Try.prog.info? 27 = some i0 ∧ i0.zero = some (.agg #[.int .u64 0, .int .u64 0]) ∧ i0.size = 2 ∧ i0.bytes = 16) := ⟨hi, hz0, hz1, hz2⟩
    have HR : Hid (∀ w, Below W.heap.size W w → ∀ p u, (flat es)[p]? = some u → w.cell? (x.add p) = some u) := by
      intro w hb p u hu
      rcases Nat.eq_zero_or_pos es.length with h | h
      · rw [List.eq_nil_of_length_eq_zero h] at hu; simp [flat] at hu
      · obtain ⟨b, off, e, _⟩ := hr.cells 0 h
        injection e with e
        subst e
        exact (hr.below hb).cflatOn p u hu
    clear hi hz0 hz1 hz2 hr ha
    have he : ∀ w, (binOp .eql 22 (.slice (some x) es.length cap) (.slice none 0 0)).run Try.prog w = .ok (.bool false) w := fun w => Go.Lib.run_eql_slice_nil w 22 27 _ _ _ _ _ Try.underlying22
    go_enter Try.func44, Try.ntmps44
    go_wp2_with (at_builtin; refine wpList_append_own _ rfl _ _ 22 rfl W.heap.size 27 i0 (.agg #[.int .u64 0, .int .u64 0]) 2 16 Try.underlying22 HI.out.1 HI.out.2.1 HI.out.2.2.1 HI.out.2.2.2 rfl (by decide) _ 0 [] rfl (World.ownsRow_made W #[] 0 (Nat.le_refl _) (by decide) rfl) x es.length cap (flat es) rfl (flat_len es) (fun p u hu => HR.out _ ((Below.refl _ _).alloc (Nat.le_refl _) _) p u hu) (cflat_ones es) (by simp only [maxLen]; omega) (by omega) (by simp) ?_; intro v' w' hown' hgr _)
    rw [Nat.zero_add, List.nil_append] at hown'
    obtain ⟨a', b', cap', rfl, h1, h2, hE⟩ := cown_elems hown'
    have HD : Hid (Below W.heap.size W w') := ((Below.refl _ _).alloc (Nat.le_refl _) _).grown hgr (by simp) fun k hk => ((World.ownsRow_made (e := 27) (size := 2) (base := W.heap.size) W #[] 0 (Nat.le_refl _) (by decide) rfl).lt k hk).1
    have HE : Hid (ERow w' a' es ∧ (es.length = 0 ∨ a' = some ⟨b', 0, none⟩) ∧ es.length ≤ cap') := ⟨hE, h1, h2⟩
    clear hE hown' hgr h1 h2
    go_wp2
    go_ret
    exact ⟨a', b', cap', rfl, HE.out.2.1, HE.out.2.2, HE.out.1, HD.out⟩

theorem row_some {w : World} {a : Option Addr} {es : List (Nat × Nat)} (h : ERow w a es) (hl : 0 < es.length) (cap : Nat) : a = none → es.length = 0 ∧ cap = 0 := by
  rintro rfl
  obtain ⟨b, off, e, _⟩ := h.cells 0 hl
  cases e
theorem lasts_app (t p q : List (Nat × Nat)) : lasts t (p ++ q) = lasts (lasts t p) q := by unfold lasts; rw [List.foldl_append]
theorem lasts_one (t : List (Nat × Nat)) (r : Nat × Nat) : lasts t [r] = lst1 t r := by simp only [lasts, List.foldl_cons, List.foldl_nil]
theorem pow_half (n : Nat) : 2 ^ (n + 1) / 2 = 2 ^ n := by rw [Nat.pow_succ]; omega
end Go.Proofs.Ytnecjkdlmecgdaa

/- The contract of cube.last over the seat's translation. -/
namespace Go.Proofs.Ytnecjkdlmecgdaa
open Go.RowKit
open Cb
open Tw (pm)

end Go.Proofs.Ytnecjkdlmecgdaa

/- Contracts of cube.At, First and Last over the seat's translation: what hinders, and what they give. -/
namespace Go.Proofs.Ytnecjkdlmecgdaa
open Go.RowKit
open Cb
open Tw (pm)

/-- What hinders At. -/
def atE (l : Int) (t p : List (Nat × Nat)) : Int := hnd l (decide ((p.length : Int) = lgz t.length)) t p
/-- What hinders First and Last. -/
def fiE (l : Int) (t p : List (Nat × Nat)) : Int := hnd l (decide ((p.length : Int) ≤ lgz t.length)) t p
theorem hnd_zero {l : Int} {f : Bool} {t p : List (Nat × Nat)} (h : hnd l f t p = 0) : (0 ≤ l ∧ l ≤ 7) ∧ f = true ∧ (t.all fun e => ofB l (e.1 : Int) (e.2 : Int)) = true ∧ (p.all fun e => ofB l (e.1 : Int) (e.2 : Int)) = true := by
  unfold hnd at h
  by_cases h1 : 0 ≤ l ∧ l ≤ 7
  · rw [if_pos h1] at h
    by_cases h2 : f = true
    · rw [if_pos h2] at h
      by_cases h3 : (t.all fun e => ofB l (e.1 : Int) (e.2 : Int)) = true ∧ (p.all fun e => ofB l (e.1 : Int) (e.2 : Int)) = true
      · exact ⟨h1, h2, h3.1, h3.2⟩
      · rw [if_neg h3] at h; exact absurd h (by decide)
    · rw [if_neg h2] at h; exact absurd h (by decide)
  · rw [if_neg h1] at h; exact absurd h (by decide)
theorem hnd_mk {l : Int} {f : Bool} {t p : List (Nat × Nat)} (h1 : 0 ≤ l ∧ l ≤ 7) (h2 : f = true) (h3 : (t.all fun e => ofB l (e.1 : Int) (e.2 : Int)) = true) (h4 : (p.all fun e => ofB l (e.1 : Int) (e.2 : Int)) = true) : hnd l f t p = 0 := by
  unfold hnd; rw [if_pos h1, if_pos h2, if_pos ⟨h3, h4⟩]
theorem all_of {k : Nat} {t : List (Nat × Nat)} : (t.all fun e => ofB (k : Int) (e.1 : Int) (e.2 : Int)) = true ↔ ofT k t := by
  rw [List.all_eq_true]; rfl
theorem at_zero {l : Int} {t p : List (Nat × Nat)} (h : atE l t p = 0) : ∃ k : Nat, k < 8 ∧ l = (k : Int) ∧ p.length ≤ 16 ∧ t.length = 2 ^ p.length ∧ ofT k t ∧ ofT k p := by
  obtain ⟨⟨h1, h2⟩, h3, h4, h5⟩ := hnd_zero h
  obtain ⟨k, rfl⟩ := Int.eq_ofNat_of_zero_le h1
  have h6 := of_decide_eq_true h3
  rcases lgz_or t.length with e | ⟨n, hn, e1, e2⟩
  · omega
  · obtain rfl : p.length = n := by omega
    exact ⟨k, by omega, rfl, hn, e1, all_of.1 h4, all_of.1 h5⟩
theorem fi_zero {l : Int} {t p : List (Nat × Nat)} (h : fiE l t p = 0) : ∃ k m : Nat, k < 8 ∧ l = (k : Int) ∧ p.length + m ≤ 16 ∧ t.length = 2 ^ (p.length + m) ∧ ofT k t ∧ ofT k p := by
  obtain ⟨⟨h1, h2⟩, h3, h4, h5⟩ := hnd_zero h
  obtain ⟨k, rfl⟩ := Int.eq_ofNat_of_zero_le h1
  have h6 := of_decide_eq_true h3
  rcases lgz_or t.length with e | ⟨n, hn, e1, e2⟩
  · omega
  · obtain ⟨m, rfl⟩ : ∃ m, n = p.length + m := ⟨n - p.length, by omega⟩
    exact ⟨k, m, by omega, rfl, hn, e1, all_of.1 h4, all_of.1 h5⟩
theorem at_mk {k : Nat} {t p : List (Nat × Nat)} (hk : k < 8) (hp : p.length ≤ 16) (hl : t.length = 2 ^ p.length) (ot : ofT k t) (op : ofT k p) : atE (k : Int) t p = 0 := by
  refine hnd_mk ⟨by omega, by omega⟩ (decide_eq_true ?_) (all_of.2 ot) (all_of.2 op)
  rw [hl, lgz_two _ hp]
theorem fi_mk {k m : Nat} {t p : List (Nat × Nat)} (hk : k < 8) (hp : p.length + m ≤ 16) (hl : t.length = 2 ^ (p.length + m)) (ot : ofT k t) (op : ofT k p) : fiE (k : Int) t p = 0 := by
  refine hnd_mk ⟨by omega, by omega⟩ (decide_eq_true ?_) (all_of.2 ot) (all_of.2 op)
  rw [hl, lgz_two _ hp]; omega
/-- A room for an element. -/
structure Rm (W w : World) : Prop where
  room : Ew w W.heap.size 0 0
  d : Below W.heap.size W w
theorem Rm.below {W w w' : World} (h : Rm W w) (hb : Below w.heap.size w w') : Rm W w' := ⟨h.room.below hb, h.d.trans (hb.mono h.d.size)⟩
theorem Rm.start (W : World) : Rm W (W.alloc (Obj.cells #[.int .u64 0, .int .u64 0] 27)) := ⟨⟨⟨by simp [go_sem], by simp [go_sem]⟩, by simp [go_sem], by simp [go_sem]⟩, by go_grown⟩
end Go.Proofs.Ytnecjkdlmecgdaa
