/- Tables, weights and values, no Go in sight: binding one variable, values by binding, sums of tables, corners. -/
import Derived.Test.YtcejppibcemdeaaPTwMx
import Derived.Test.YtcejppibcemdeaaPWvD
namespace Go.Proofs.Ytcejppibcemdeaa
namespace Cb
open Tw (pm)

def xa (a b : Nat × Nat) : Nat × Nat := (a.1 ^^^ b.1, a.2 ^^^ b.2)
theorem xa_comm (a b : Nat × Nat) : xa a b = xa b a := by unfold xa; rw [Nat.xor_comm, Nat.xor_comm a.2]
theorem xa_assoc (a b c : Nat × Nat) : xa (xa a b) c = xa a (xa b c) := by simp only [xa, Nat.xor_assoc]
theorem xa_left (a b c : Nat × Nat) : xa a (xa b c) = xa b (xa a c) := by rw [← xa_assoc, xa_comm a b, xa_assoc]
theorem xa_self (a : Nat × Nat) : xa a a = (0, 0) := by simp [xa]
theorem xa_zero (a : Nat × Nat) : xa a (0, 0) = a := by simp [xa]
theorem zero_xa (a : Nat × Nat) : xa (0, 0) a = a := by simp [xa]
theorem xa_back (a b : Nat × Nat) : xa a (xa a b) = b := by rw [← xa_assoc, xa_self, zero_xa]
theorem pm_xa (a b c : Nat × Nat) : pm a (xa b c) = xa (pm a b) (pm a c) := Prod.ext (Tw.pm_add _ _ _ _ _ _).1 (Tw.pm_add _ _ _ _ _ _).2
theorem xa_pm (a b c : Nat × Nat) : pm (xa b c) a = xa (pm b a) (pm c a) := by rw [Tw.pm_comm', pm_xa, Tw.pm_comm' a b, Tw.pm_comm' a c]
def lt2 (a : Nat × Nat) : Prop := a.1 < 2 ^ 64 ∧ a.2 < 2 ^ 64
theorem lt_xa {a b : Nat × Nat} (ha : lt2 a) (hb : lt2 b) : lt2 (xa a b) := ⟨Nat.xor_lt_two_pow ha.1 hb.1, Nat.xor_lt_two_pow ha.2 hb.2⟩
theorem lt_pm (a b : Nat × Nat) : lt2 (pm a b) := Tw.pm_lt a b
theorem lt_one : lt2 (0, 1) := ⟨Nat.two_pow_pos 64, by decide⟩
theorem lt_zero : lt2 (0, 0) := ⟨Nat.two_pow_pos 64, Nat.two_pow_pos 64⟩
theorem pm_one {a : Nat × Nat} (h : lt2 a) : pm a (0, 1) = a := Tw.pm_one' a h.1 h.2
theorem one_pm {a : Nat × Nat} (h : lt2 a) : pm (0, 1) a = a := by rw [Tw.pm_comm', pm_one h]
theorem pm_zero (a : Nat × Nat) : pm a (0, 0) = (0, 0) := Tw.pm_none a
theorem zero_pm (a : Nat × Nat) : pm (0, 0) a = (0, 0) := by rw [Tw.pm_comm', pm_zero]
theorem pm_left (a b c : Nat × Nat) : pm a (pm b c) = pm b (pm a c) := by rw [← Tw.pm_assoc', Tw.pm_comm' a b, Tw.pm_assoc']

/-- The element number i of a table. -/
def el (t : List (Nat × Nat)) (i : Nat) : Nat × Nat := t.getD i (0, 0)
/-- Bound to r in one variable, the two elements st * i and st * i + gp. -/
def hv (st gp : Nat) (t : List (Nat × Nat)) (r : Nat × Nat) (i : Nat) : Nat × Nat := xa (el t (st * i)) (pm r (xa (el t (st * i)) (el t (st * i + gp))))
def half (st gp : Nat) (t : List (Nat × Nat)) (r : Nat × Nat) : List (Nat × Nat) := (List.range (t.length / 2)).map (hv st gp t r)
theorem half_len (st gp : Nat) (t : List (Nat × Nat)) (r : Nat × Nat) : (half st gp t r).length = t.length / 2 := by simp [half]
theorem half_at (st gp : Nat) (t : List (Nat × Nat)) (r : Nat × Nat) {i : Nat} (h : i < t.length / 2) : el (half st gp t r) i = hv st gp t r i := by
  simp [el, half, List.getD, h]
def fst1 (t : List (Nat × Nat)) (r : Nat × Nat) : List (Nat × Nat) := half 2 1 t r
def lst1 (t : List (Nat × Nat)) (r : Nat × Nat) : List (Nat × Nat) := half 1 (t.length / 2) t r
theorem list_ext {a b : List (Nat × Nat)} (hl : a.length = b.length) (h : ∀ i, i < a.length → el a i = el b i) : a = b := by
  refine List.ext_getElem hl fun i h1 h2 => ?_
  have := h i h1
  simpa [el, List.getD, h1, h2] using this
/-- All elements are words. -/
theorem ltE_el {t : List (Nat × Nat)} (h : ltE t) (i : Nat) : lt2 (el t i) := h.at i
theorem ltE_of {t : List (Nat × Nat)} (h : ∀ i, i < t.length → lt2 (el t i)) : ltE t := fun e he => by
  obtain ⟨i, hi, rfl⟩ := List.getElem_of_mem he
  have := h i hi
  rw [show el t i = t[i] by simp [el, List.getD, hi]] at this
  exact this
theorem lt_half {t : List (Nat × Nat)} (h : ltE t) (st gp : Nat) (r : Nat × Nat) : ltE (half st gp t r) := ltE_of fun i hi => by
  rw [half_len] at hi
  rw [half_at st gp t r hi]
  exact lt_xa (ltE_el h _) (lt_pm _ _)
/-- All elements are of the level. -/
def ofE (k : Nat) (e : Nat × Nat) : Prop := ofB (k : Int) (e.1 : Int) (e.2 : Int) = true
def ofT (k : Nat) (t : List (Nat × Nat)) : Prop := ∀ e ∈ t, ofE k e
theorem ofT.el {k : Nat} {t : List (Nat × Nat)} (hk : k < 8) (h : ofT k t) (i : Nat) : ofE k (el t i) := by
  by_cases hi : i < t.length
  · have : Cb.el t i = t[i] := by simp [Cb.el, List.getD, hi]
    rw [this]; exact h _ (List.getElem_mem hi)
  · have : Cb.el t i = (0, 0) := by simp [Cb.el, List.getD, List.getElem?_eq_none (Nat.not_lt.1 hi)]
    rw [this]; exact of_zero k hk
theorem ofT_of {k : Nat} {t : List (Nat × Nat)} (h : ∀ i, i < t.length → ofE k (el t i)) : ofT k t := fun e he => by
  obtain ⟨i, hi, rfl⟩ := List.getElem_of_mem he
  have := h i hi
  simpa [Cb.el, List.getD, hi] using this
theorem of_hv {k : Nat} (hk : k < 8) {t : List (Nat × Nat)} (h : ofT k t) {r : Nat × Nat} (hr : ofE k r) (st gp i : Nat) : ofE k (hv st gp t r i) :=
  of_xor hk (h.el hk _) (of_pm hk hr (of_xor hk (h.el hk _) (h.el hk _)))
theorem of_half {k : Nat} (hk : k < 8) {t : List (Nat × Nat)} (h : ofT k t) {r : Nat × Nat} (hr : ofE k r) (st gp : Nat) : ofT k (half st gp t r) := ofT_of fun i hi => by
  rw [half_len] at hi
  rw [half_at st gp t r hi]
  exact of_hv hk h hr st gp i
/-- Bound again and again. -/
def firsts (t p : List (Nat × Nat)) : List (Nat × Nat) := p.foldl fst1 t
def lasts (t p : List (Nat × Nat)) : List (Nat × Nat) := p.foldl lst1 t
theorem firsts_len : ∀ (p t : List (Nat × Nat)) (m : Nat), t.length = 2 ^ (p.length + m) → (firsts t p).length = 2 ^ m
  | [], t, m, h => by simpa [firsts] using h
  | r :: p, t, m, h => by
    show (firsts (fst1 t r) p).length = 2 ^ m
    refine firsts_len p (fst1 t r) m ?_
    rw [fst1, half_len, h, List.length_cons, show p.length + 1 + m = (p.length + m) + 1 by omega, Nat.pow_succ]
    omega
theorem lasts_len : ∀ (p t : List (Nat × Nat)) (m : Nat), t.length = 2 ^ (p.length + m) → (lasts t p).length = 2 ^ m
  | [], t, m, h => by simpa [lasts] using h
  | r :: p, t, m, h => by
    show (lasts (lst1 t r) p).length = 2 ^ m
    refine lasts_len p (lst1 t r) m ?_
    rw [lst1, half_len, h, List.length_cons, show p.length + 1 + m = (p.length + m) + 1 by omega, Nat.pow_succ]
    omega
theorem lt_firsts : ∀ (p t : List (Nat × Nat)), ltE t → ltE (firsts t p)
  | [], _, h => h
  | r :: p, t, h => lt_firsts p (fst1 t r) (lt_half h 2 1 r)
theorem lt_lasts : ∀ (p t : List (Nat × Nat)), ltE t → ltE (lasts t p)
  | [], _, h => h
  | r :: p, t, h => lt_lasts p (lst1 t r) (lt_half h 1 _ r)
theorem of_firsts {k : Nat} (hk : k < 8) : ∀ (p t : List (Nat × Nat)), ofT k t → ofT k p → ofT k (firsts t p)
  | [], _, h, _ => h
  | r :: p, t, h, hp => of_firsts hk p (fst1 t r) (of_half hk h (hp r (by simp)) 2 1) fun e he => hp e (by simp [he])
theorem of_lasts {k : Nat} (hk : k < 8) : ∀ (p t : List (Nat × Nat)), ofT k t → ofT k p → ofT k (lasts t p)
  | [], _, h, _ => h
  | r :: p, t, h, hp => of_lasts hk p (lst1 t r) (of_half hk h (hp r (by simp)) 1 _) fun e he => hp e (by simp [he])

/-- A sum over the first so many. -/
def xs : Nat → (Nat → Nat × Nat) → Nat × Nat
  | 0, _ => (0, 0)
  | n + 1, f => xa (xs n f) (f n)
theorem xs_congr {f g : Nat → Nat × Nat} : ∀ n, (∀ i, i < n → f i = g i) → xs n f = xs n g
  | 0, _ => rfl
  | n + 1, h => by rw [xs, xs, xs_congr n fun i hi => h i (by omega), h n (by omega)]
theorem xs_pair (f : Nat → Nat × Nat) : ∀ m, xs (2 * m) f = xs m fun i => xa (f (2 * i)) (f (2 * i + 1))
  | 0 => rfl
  | m + 1 => by
    rw [show 2 * (m + 1) = 2 * m + 1 + 1 by omega, xs, xs, xs, xs_pair f m, xa_assoc]
theorem lt_xs {f : Nat → Nat × Nat} (h : ∀ i, lt2 (f i)) : ∀ n, lt2 (xs n f)
  | 0 => lt_zero
  | n + 1 => lt_xa (lt_xs h n) (h n)
/-- The factor of a variable. -/
def fac (x : Nat × Nat) (n : Nat) : Nat × Nat := if n % 2 = 1 then x else xa (0, 1) x
def wtf (o : Nat × Nat) : List (Nat × Nat) → Nat → Nat × Nat
  | [], _ => o
  | x :: p, n => wtf (pm o (fac x n)) p (n / 2)
/-- The weight of a corner. -/
def wt (p : List (Nat × Nat)) (n : Nat) : Nat × Nat := wtf (0, 1) p n
theorem lt_wtf : ∀ (p : List (Nat × Nat)) (o : Nat × Nat) (n : Nat), lt2 o → lt2 (wtf o p n)
  | [], _, _, h => h
  | _ :: p, _, _, _ => lt_wtf p _ _ (lt_pm _ _)
theorem lt_wt (p : List (Nat × Nat)) (n : Nat) : lt2 (wt p n) := lt_wtf p _ n lt_one
theorem lt_fac {x : Nat × Nat} (h : lt2 x) (n : Nat) : lt2 (fac x n) := by
  unfold fac; split
  · exact h
  · exact lt_xa lt_one h
theorem wtf_pm : ∀ (p : List (Nat × Nat)) (o : Nat × Nat) (n : Nat), ltE p → lt2 o → wtf o p n = pm o (wt p n)
  | [], o, n, _, ho => by show o = pm o (0, 1); rw [pm_one ho]
  | x :: p, o, n, hp, ho => by
    have hp' : ltE p := fun e he => hp e (by simp [he])
    have hx : lt2 x := hp x (by simp)
    show wtf (pm o (fac x n)) p (n / 2) = pm o (wtf (pm (0, 1) (fac x n)) p (n / 2))
    rw [wtf_pm p _ _ hp' (lt_pm _ _), wtf_pm p _ _ hp' (lt_pm _ _), one_pm (lt_fac hx n), Tw.pm_assoc']
theorem wt_cons (x : Nat × Nat) (p : List (Nat × Nat)) (n : Nat) (hx : lt2 x) (hp : ltE p) : wt (x :: p) n = pm (fac x n) (wt p (n / 2)) := by
  show wtf (pm (0, 1) (fac x n)) p (n / 2) = _
  rw [one_pm (lt_fac hx n), wtf_pm p _ _ hp (lt_fac hx n)]
/-- The value of a table. -/
def vl (t p : List (Nat × Nat)) : Nat × Nat := xs t.length fun i => pm (el t i) (wt p i)
theorem lt_vl (t p : List (Nat × Nat)) : lt2 (vl t p) := lt_xs (fun _ => lt_pm _ _) _
theorem bind_eq (a b r : Nat × Nat) (ha : lt2 a) : xa (pm a (xa (0, 1) r)) (pm b r) = xa a (pm r (xa a b)) := by
  rw [pm_xa, pm_one ha, pm_xa, xa_assoc, Tw.pm_comm' a r, Tw.pm_comm' b r]
theorem vl_step (t p : List (Nat × Nat)) (r : Nat × Nat) (m : Nat) (hl : t.length = 2 * m) (ht : ltE t) (hr : lt2 r) (hp : ltE p) : vl t (r :: p) = vl (fst1 t r) p := by
  unfold vl
  rw [fst1, half_len, hl, xs_pair, show 2 * m / 2 = m by omega]
  refine xs_congr m fun i hi => ?_
  rw [wt_cons r p _ hr hp, wt_cons r p _ hr hp, show 2 * i / 2 = i by omega, show (2 * i + 1) / 2 = i by omega, half_at 2 1 t r (by omega)]
  have f0 : fac r (2 * i) = xa (0, 1) r := by unfold fac; rw [if_neg (by omega)]
  have f1 : fac r (2 * i + 1) = r := by unfold fac; rw [if_pos (by omega)]
  rw [f0, f1, ← Tw.pm_assoc', ← Tw.pm_assoc', ← xa_pm, bind_eq _ _ _ (ltE_el ht _)]
  rfl
/-- Bound in all its variables, a table has its value alone. -/
theorem firsts_vl : ∀ (p t : List (Nat × Nat)), t.length = 2 ^ p.length → ltE t → ltE p → firsts t p = [vl t p]
  | [], t, h, ht, _ => by
    obtain ⟨x, rfl⟩ := List.length_eq_one_iff.1 (by simpa using h)
    show [x] = [vl [x] []]
    have : vl [x] [] = x := by
      show xa (0, 0) (pm x (0, 1)) = x
      rw [zero_xa, pm_one (ht x (by simp))]
    rw [this]
  | r :: p, t, h, ht, hp => by
    have hp' : ltE p := fun e he => hp e (by simp [he])
    have hr : lt2 r := hp r (by simp)
    have h2 : t.length = 2 * 2 ^ p.length := by rw [h, List.length_cons, Nat.pow_succ]; omega
    show firsts (fst1 t r) p = _
    rw [firsts_vl p (fst1 t r) (by rw [fst1, half_len, h2]; omega) (lt_half ht 2 1 r) hp', vl_step t p r _ h2 ht hr hp']

/-- A table and another one times a factor, added. -/
def lc (c : Nat × Nat) (t s : List (Nat × Nat)) : List (Nat × Nat) := (List.range t.length).map fun i => xa (el t i) (pm c (el s i))
theorem lc_len (c : Nat × Nat) (t s : List (Nat × Nat)) : (lc c t s).length = t.length := by simp [lc]
theorem lc_at (c : Nat × Nat) (t s : List (Nat × Nat)) {i : Nat} (h : i < t.length) : el (lc c t s) i = xa (el t i) (pm c (el s i)) := by
  simp [el, lc, List.getD, h]
theorem lc_fst (c r : Nat × Nat) (t s : List (Nat × Nat)) (hl : t.length = s.length) : fst1 (lc c t s) r = lc c (fst1 t r) (fst1 s r) := by
  refine list_ext ?_ fun i hi => ?_
  · rw [fst1, half_len, lc_len, lc_len, fst1, half_len]
  · rw [fst1, half_len, lc_len] at hi
    rw [fst1, half_at 2 1 _ r (by rw [lc_len]; exact hi), lc_at c (fst1 t r) (fst1 s r) (by rw [fst1, half_len]; exact hi), fst1, fst1, half_at 2 1 t r hi, half_at 2 1 s r (by omega)]
    unfold hv
    rw [lc_at c t s (by omega), lc_at c t s (by omega)]
    simp only [pm_xa, pm_left c r, xa_assoc, xa_left]
theorem lc_firsts (c : Nat × Nat) : ∀ (p t s : List (Nat × Nat)), t.length = s.length → firsts (lc c t s) p = lc c (firsts t p) (firsts s p)
  | [], _, _, _ => rfl
  | r :: p, t, s, h => by
    show firsts (fst1 (lc c t s) r) p = lc c (firsts (fst1 t r) p) (firsts (fst1 s r) p)
    rw [lc_fst c r t s h, lc_firsts c p _ _ (by rw [fst1, fst1, half_len, half_len, h])]

/-- A corner as a point. -/
def crn : Nat → Nat → List (Nat × Nat)
  | 0, _ => []
  | n + 1, i => (0, i % 2) :: crn n (i / 2)
theorem crn_len : ∀ n i, (crn n i).length = n
  | 0, _ => rfl
  | n + 1, i => by simp [crn, crn_len n]
theorem fst_bit (t : List (Nat × Nat)) (b : Nat) (hb : b < 2) (ht : ltE t) : fst1 t (0, b) = (List.range (t.length / 2)).map fun i => el t (2 * i + b) := by
  unfold fst1 half
  refine List.map_congr_left fun i _ => ?_
  unfold hv
  obtain rfl | rfl : b = 0 ∨ b = 1 := by omega
  · rw [zero_pm, xa_zero]; rfl
  · rw [one_pm (lt_xa (ltE_el ht _) (ltE_el ht _)), xa_back]
theorem firsts_crn : ∀ (n i : Nat) (t : List (Nat × Nat)), t.length = 2 ^ n → i < 2 ^ n → ltE t → firsts t (crn n i) = [el t i]
  | 0, i, t, h, hi, _ => by
    obtain ⟨x, rfl⟩ := List.length_eq_one_iff.1 (by simpa using h)
    obtain rfl : i = 0 := by omega
    rfl
  | n + 1, i, t, h, hi, ht => by
    rw [Nat.pow_succ] at h hi
    show firsts (fst1 t (0, i % 2)) (crn n (i / 2)) = _
    rw [firsts_crn n (i / 2) (fst1 t (0, i % 2)) (by rw [fst1, half_len]; omega) (by omega) (lt_half ht 2 1 _), fst_bit t _ (by omega) ht]
    have h2 : i / 2 < t.length / 2 := by omega
    have : el ((List.range (t.length / 2)).map fun i_1 => el t (2 * i_1 + i % 2)) (i / 2) = el t (2 * (i / 2) + i % 2) := by simp [el, List.getD, h2]
    rw [this, show 2 * (i / 2) + i % 2 = i by omega]

/-- Bound in the last variable and in the first one, in either order. -/
theorem fst_lst (t : List (Nat × Nat)) (r s : Nat × Nat) (m : Nat) (hl : t.length = 4 * m) : fst1 (lst1 t r) s = lst1 (fst1 t s) r := by
  refine list_ext (by rw [fst1, half_len, lst1, half_len, lst1, half_len, fst1, half_len]) fun i hi => ?_
  rw [fst1, half_len, lst1, half_len] at hi
  have e1 : (lst1 t r).length = 2 * m := by rw [lst1, half_len]; omega
  have e2 : (fst1 t s).length = 2 * m := by rw [fst1, half_len]; omega
  rw [fst1, half_at 2 1 _ s (by rw [e1]; omega)]
  conv => rhs; rw [lst1, half_at 1 _ _ r (by rw [e2]; omega)]
  unfold hv
  rw [e2, lst1, half_at 1 _ t r (by omega), half_at 1 _ t r (by omega), fst1, half_at 2 1 t s (by omega), half_at 2 1 t s (by omega)]
  unfold hv
  rw [hl, show 1 * (2 * i) = 2 * i by omega, show 2 * (1 * i) = 2 * i by omega, show 1 * (2 * i + 1) = 2 * i + 1 by omega, show 2 * (1 * i + 2 * m / 2) = 2 * i + 4 * m / 2 by omega, show 2 * i + 1 + 4 * m / 2 = 2 * i + 4 * m / 2 + 1 by omega]
  simp only [pm_xa, pm_left r s, xa_assoc, xa_left]
theorem fst_lst2 (t : List (Nat × Nat)) (r : Nat × Nat) (hl : t.length = 2) : fst1 t r = lst1 t r := by
  refine list_ext (by rw [fst1, half_len, lst1, half_len]) fun i hi => ?_
  rw [fst1, half_len] at hi
  obtain rfl : i = 0 := by omega
  rw [fst1, half_at 2 1 t r (by omega), lst1, half_at 1 _ t r (by omega)]
  unfold hv
  rw [hl]
theorem firsts_app (t p q : List (Nat × Nat)) : firsts t (p ++ q) = firsts (firsts t p) q := by unfold firsts; rw [List.foldl_append]
theorem firsts_one (t : List (Nat × Nat)) (r : Nat × Nat) : firsts t [r] = fst1 t r := by simp only [firsts, List.foldl_cons, List.foldl_nil]
theorem firsts_lst : ∀ (p t : List (Nat × Nat)) (r : Nat × Nat) (m : Nat), t.length = 2 ^ (p.length + (m + 1)) → firsts (lst1 t r) p = lst1 (firsts t p) r
  | [], _, _, _, _ => rfl
  | s :: p, t, r, m, h => by
    have h4 : t.length = 4 * 2 ^ (p.length + m) := by
      rw [h, List.length_cons, show p.length + 1 + (m + 1) = (p.length + m) + 1 + 1 by omega, Nat.pow_succ, Nat.pow_succ]; omega
    show firsts (fst1 (lst1 t r) s) p = lst1 (firsts (fst1 t s) p) r
    rw [fst_lst t r s _ h4, firsts_lst p (fst1 t s) r m (by rw [fst1, half_len, h4, ← Nat.add_assoc, Nat.pow_succ]; omega)]
theorem lasts_rev (p : List (Nat × Nat)) : ∀ t : List (Nat × Nat), t.length = 2 ^ p.length → lasts t p = firsts t p.reverse := by
  induction p with
  | nil => intro t _; simp only [lasts, firsts, List.reverse_nil, List.foldl_nil]
  | cons r p ih =>
    intro t h
    have h1 : t.length = 2 ^ (p.length + 1) := by rw [h, List.length_cons]
    have h2 : t.length = 2 * 2 ^ p.length := by rw [h1, Nat.pow_succ]; omega
    have h3 : (lst1 t r).length = 2 ^ p.length := by rw [lst1, half_len]; omega
    have e1 : lasts t (r :: p) = lasts (lst1 t r) p := by simp only [lasts, List.foldl_cons]
    have h4 : t.length = 2 ^ (p.reverse.length + (0 + 1)) := by rw [List.length_reverse, Nat.zero_add]; exact h1
    have h5 : (firsts t p.reverse).length = 2 := firsts_len p.reverse t 1 h4
    rw [e1, ih _ h3, List.reverse_cons, firsts_app, firsts_one, firsts_lst p.reverse t r 0 h4, fst_lst2 _ r h5]
theorem firsts_lasts : ∀ (r p t : List (Nat × Nat)), t.length = 2 ^ (p.length + r.length) → firsts (lasts t r) p = lasts (firsts t p) r
  | [], _, _, _ => rfl
  | x :: r, p, t, h => by
    show firsts (lasts (lst1 t x) r) p = lasts (lst1 (firsts t p) x) r
    have hh : t.length = 2 * 2 ^ (p.length + r.length) := by rw [h, List.length_cons, ← Nat.add_assoc, Nat.pow_succ]; omega
    rw [firsts_lasts r p (lst1 t x) (by rw [lst1, half_len]; omega), firsts_lst p t x r.length (by rw [h, List.length_cons])]
/-- What is bound in its last variables has at a point the value that the table has there, with what it was bound to behind it, the last one first. -/
theorem last_value (t p r : List (Nat × Nat)) (h : t.length = 2 ^ (p.length + r.length)) : firsts (lasts t r) p = firsts t (p ++ r.reverse) := by
  rw [firsts_lasts r p t h, lasts_rev r _ (firsts_len p t r.length h), firsts_app]
theorem first_value (t p r : List (Nat × Nat)) : firsts (firsts t r) p = firsts t (r ++ p) := by
  rw [firsts_app]
end Cb
end Go.Proofs.Ytcejppibcemdeaa
