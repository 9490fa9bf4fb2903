/- How many points batch unlike parts alike, no Go in sight: levels 1 and 2. -/
import Derived.Test.YtbomgcmmfeahiaaRgP
namespace Go.Proofs.Ytbomgcmmfeahiaa
namespace Rg
open Cb
open Tw (pm)

theorem pm_no {a b : Nat × Nat} (ha : lt2 a) (hb : lt2 b) (h : pm a b = (0, 0)) (na : a ≠ (0, 0)) : b = (0, 0) := by
  have d7n : ∀ {ah al : Nat}, ah < 2 ^ 64 → al < 2 ^ 64 → ¬ (ah = 0 ∧ al = 0) → Tw.d7 ah al ≠ Tw.zero 7 := fun h1 h2 h e =>
    h (Tw.d7_inj h1 h2 (by decide) (by decide) (by rw [e, Tw.d7_zero]))
  apply Classical.byContradiction
  intro nb
  have na' : ¬ (a.1 = 0 ∧ a.2 = 0) := fun h => na (Prod.ext h.1 h.2)
  have nb' : ¬ (b.1 = 0 ∧ b.2 = 0) := fun h => nb (Prod.ext h.1 h.2)
  have h1 : Tw.pmh a.1 a.2 b.1 b.2 = 0 := congrArg Prod.fst h
  have h2 : Tw.pml a.1 a.2 b.1 b.2 = 0 := congrArg Prod.snd h
  have := Tw.d7_mul a.1 a.2 b.1 b.2
  rw [h1, h2, Tw.d7_zero] at this
  exact d7n hb.1 hb.2 nb' (Tw.mul_eq_zero this.symm (d7n ha.1 ha.2 na'))
theorem xa_same {a b : Nat × Nat} (h : xa a b = (0, 0)) : a = b := by
  have := xa_back a b
  rw [h, xa_zero] at this
  exact this
/-- A sum of numbers. -/
def ns : Nat → (Nat → Nat) → Nat
  | 0, _ => 0
  | n + 1, f => ns n f + f n
theorem ns_congr {f g : Nat → Nat} : ∀ n, (∀ i, i < n → f i = g i) → ns n f = ns n g
  | 0, _ => rfl
  | n + 1, h => by simp only [ns]; rw [ns_congr n fun i hi => h i (by omega), h n (by omega)]
theorem ns_le {f g : Nat → Nat} : ∀ n, (∀ i, i < n → f i ≤ g i) → ns n f ≤ ns n g
  | 0, _ => Nat.le_refl _
  | n + 1, h => by simp only [ns]; exact Nat.add_le_add (ns_le n fun i hi => h i (by omega)) (h n (by omega))
theorem ns_add (f : Nat → Nat) (a : Nat) : ∀ b, ns (a + b) f = ns a f + ns b fun i => f (a + i)
  | 0 => rfl
  | b + 1 => by rw [← Nat.add_assoc]; simp only [ns]; rw [ns_add f a b, Nat.add_assoc]
theorem ns_mul (f : Nat → Nat) (N : Nat) : ∀ q, ns (q * N) f = ns q fun y => ns N fun x => f (y * N + x)
  | 0 => by rw [Nat.zero_mul]; rfl
  | q + 1 => by rw [Nat.add_mul, Nat.one_mul, ns_add, ns_mul f N q]; rfl
theorem ns_zero : ∀ n, (ns n fun _ => 0) = 0
  | 0 => rfl
  | n + 1 => by simp only [ns]; rw [ns_zero n]
theorem ns_two (f g : Nat → Nat) : ∀ n, ns n (fun i => f i + g i) = ns n f + ns n g
  | 0 => rfl
  | n + 1 => by simp only [ns]; rw [ns_two f g n]; omega
theorem ns_swap (f : Nat → Nat → Nat) (m : Nat) : ∀ n, ns n (fun i => ns m (f i)) = ns m fun k => ns n fun i => f i k
  | 0 => by simp only [ns]; exact (ns_zero m).symm
  | n + 1 => by simp only [ns]; rw [ns_swap f m n, ns_two]
theorem ns_const (c : Nat) : ∀ n, (ns n fun _ => c) = n * c
  | 0 => by rw [Nat.zero_mul]; rfl
  | n + 1 => by simp only [ns]; rw [ns_const c n, Nat.add_mul, Nat.one_mul]
theorem ns_times (c : Nat) (f : Nat → Nat) : ∀ n, (ns n fun i => c * f i) = c * ns n f
  | 0 => rfl
  | n + 1 => by simp only [ns]; rw [ns_times c f n, Nat.mul_add]
def b2 (p : Bool) : Nat := if p = true then 1 else 0
/-- Where no two hold, at most one does. -/
theorem ns_one (f : Nat → Bool) : ∀ n, (∀ i j, i < n → j < n → f i = true → f j = true → i = j) → (ns n fun i => b2 (f i)) ≤ 1
  | 0, _ => Nat.zero_le _
  | n + 1, h => by
    simp only [ns]
    by_cases hn : f n = true
    · have : (ns n fun i => b2 (f i)) = 0 := by
        rw [ns_congr (g := fun _ => 0) n fun i hi => ?_, ns_zero]
        unfold b2
        rw [if_neg]
        intro hf
        have := h i n (by omega) (by omega) hf hn
        omega
      rw [this]
      unfold b2
      rw [if_pos hn]
      exact Nat.le_refl _
    · have e : b2 (f n) = 0 := by unfold b2; rw [if_neg hn]
      rw [e, Nat.add_zero]
      exact ns_one f n fun i j hi hj => h i j (by omega) (by omega)
/-- A line between two elements. -/
def lin (A B x : Nat × Nat) : Nat × Nat := xa A (pm x (xa A B))
theorem lt_lin {A B : Nat × Nat} (hA : lt2 A) (x : Nat × Nat) : lt2 (lin A B x) := lt_xa hA (lt_pm _ _)
/-- A line that is not nothing is so at one place at most. -/
theorem lin_one {A B x y : Nat × Nat} (hA : lt2 A) (hB : lt2 B) (hx : lt2 x) (hy : lt2 y) (h1 : lin A B x = (0, 0)) (h2 : lin A B y = (0, 0)) (n : ¬ (A = (0, 0) ∧ B = (0, 0))) : x = y := by
  apply Classical.byContradiction
  intro hne
  unfold lin at h1 h2
  have e1 := xa_same h1
  have e2 := xa_same h2
  have hs : pm (xa x y) (xa A B) = (0, 0) := by rw [xa_pm, ← e1, ← e2, xa_self]
  have hz := pm_no (lt_xa hx hy) (lt_xa hA hB) hs (fun h => hne (xa_same h))
  rw [hz, pm_zero] at e1
  refine n ⟨e1, ?_⟩
  have := xa_same hz
  rw [← this]; exact e1
theorem wt1 (x : Nat × Nat) (hx : lt2 x) (u : Nat) : wt [x] u = fac x u := by
  show pm (0, 1) (fac x u) = _
  exact one_pm (lt_fac hx u)
theorem wt2 (x y : Nat × Nat) (hx : lt2 x) (hy : lt2 y) (u : Nat) : wt [x, y] u = pm (fac x u) (fac y (u / 2)) := by
  rw [wt_cons x [y] u hx (fun e he => by simp at he; subst he; exact hy), wt1 y hy]
theorem lin_fac (A B x : Nat × Nat) (hA : lt2 A) : xa (pm (fac x 0) A) (pm (fac x 1) B) = lin A B x := by
  show xa (pm (xa (0, 1) x) A) (pm x B) = _
  unfold lin
  rw [xa_pm, one_pm hA, xa_assoc, ← pm_xa]
/-- The difference of two lists of parts, turned about. -/
def df (N : Nat) (ps qs : List (Nat × Nat)) (u : Nat) : Nat × Nat := xa (trn N ps u) (trn N qs u)
theorem lt_df (N : Nat) (ps qs : List (Nat × Nat)) (u : Nat) : lt2 (df N ps qs u) := lt_xa (lt_trn _ _ _) (lt_trn _ _ _)
theorem btc_df (N : Nat) (ps qs r : List (Nat × Nat)) : btc N ps r = btc N qs r ↔ (xs N fun u => pm (wt r u) (df N ps qs u)) = (0, 0) := by
  have e : (xs N fun u => pm (wt r u) (df N ps qs u)) = xa (btc N ps r) (btc N qs r) := by
    unfold btc
    rw [← xs_two]
    exact xs_congr N fun u _ => pm_xa _ _ _
  rw [e]
  exact ⟨fun h => by rw [h, xa_self], xa_same⟩
theorem btc1 (ps qs : List (Nat × Nat)) (x : Nat × Nat) (hx : lt2 x) : btc 2 ps [x] = btc 2 qs [x] ↔ lin (df 2 ps qs 0) (df 2 ps qs 1) x = (0, 0) := by
  rw [btc_df]
  simp only [xs]
  rw [zero_xa, wt1 x hx, wt1 x hx, lin_fac _ _ x (lt_df _ _ _ _)]
theorem btc2 (ps qs : List (Nat × Nat)) (x y : Nat × Nat) (hx : lt2 x) (hy : lt2 y) : btc 4 ps [x, y] = btc 4 qs [x, y] ↔ lin (lin (df 4 ps qs 0) (df 4 ps qs 1) x) (lin (df 4 ps qs 2) (df 4 ps qs 3) x) y = (0, 0) := by
  rw [btc_df]
  simp only [xs]
  rw [zero_xa, wt2 x y hx hy, wt2 x y hx hy, wt2 x y hx hy, wt2 x y hx hy]
  rw [show (0 : Nat) / 2 = 0 by decide, show (2 : Nat) / 2 = 1 by decide, show fac x 2 = fac x 0 from rfl, show fac x 3 = fac x 1 from rfl]
  have e : ∀ a b c : Nat × Nat, pm (pm a b) c = pm b (pm a c) := fun a b c => by rw [Tw.pm_comm' a b, Tw.pm_assoc']
  rw [e, e, e, e, xa_assoc, ← pm_xa, ← pm_xa, lin_fac _ _ x (lt_df _ _ _ _), lin_fac _ _ x (lt_df _ _ _ _), lin_fac _ _ y (lt_lin (lt_df _ _ _ _) x)]
/-- The bit v of the u-th turned one is the bit u of the part v. -/
theorem hs_trn (N : Nat) (hN : N ≤ 128) (ps : List (Nat × Nat)) (u v : Nat) (hv : v < N) : hs (trn N ps u) v = hs (el ps v) u := by
  have h := rx_has (fun i => hs (el ps i) u) N hN v (by omega)
  rw [rx_xs] at h
  have h' : hs (trn N ps u) v = (decide (v < N) && hs (el ps v) u) := h
  rw [h']
  simp [hv]
/-- Parts that are not the same differ when turned about. -/
theorem df_ne {k : Nat} (hk : k < 8) {ps qs : List (Nat × Nat)} (hp : ps.length = 2 ^ k) (hq : qs.length = 2 ^ k) (lp : ltE ps) (lq : ltE qs) (op : ofT k ps) (oq : ofT k qs) (h : ps ≠ qs) : ¬ ∀ u, u < 2 ^ k → df (2 ^ k) ps qs u = (0, 0) := by
  intro H
  have h7 : 2 ^ k ≤ 2 ^ 7 := Nat.pow_le_pow_right (by decide) (by omega)
  have e7 : (2 : Nat) ^ 7 = 128 := by decide
  refine h (list_ext (by rw [hp, hq]) fun v hv => ?_)
  rw [hp] at hv
  refine pair_ext (ltE_el lp v) (ltE_el lq v) fun u hu => ?_
  by_cases hu2 : u < 2 ^ k
  · have e := xa_same (H u hu2)
    have this : hs (trn (2 ^ k) ps u) v = hs (trn (2 ^ k) qs u) v := by rw [e]
    rw [hs_trn _ (by omega) ps u v hv, hs_trn _ (by omega) qs u v hv] at this
    exact this
  · rw [of_has hk (op.el hk v) u (by omega) hu, of_has hk (oq.el hk v) u (by omega) hu]
theorem lt_lo {i : Nat} (h : i < 2 ^ 64) : lt2 (0, i) := ⟨Nat.two_pow_pos 64, h⟩
def al1 (ps qs : List (Nat × Nat)) (i : Nat) : Bool := decide (btc 2 ps [(0, i)] = btc 2 qs [(0, i)])
def al2 (ps qs : List (Nat × Nat)) (i : Nat) : Bool := decide (btc 4 ps [(0, i % 16), (0, i / 16)] = btc 4 qs [(0, i % 16), (0, i / 16)])
theorem count1 {ps qs : List (Nat × Nat)} (hp : ps.length = 2) (hq : qs.length = 2) (lp : ltE ps) (lq : ltE qs) (op : ofT 1 ps) (oq : ofT 1 qs) (h : ps ≠ qs) : (ns 4 fun i => b2 (al1 ps qs i)) ≤ 1 := by
  have hd := df_ne (k := 1) (by decide) hp hq lp lq op oq h
  refine ns_one _ 4 fun i j hi hj hf hg => ?_
  have l1 := lt_lo (i := i) (by omega)
  have l2 := lt_lo (i := j) (by omega)
  have f1 := (btc1 ps qs _ l1).1 (of_decide_eq_true hf)
  have f2 := (btc1 ps qs _ l2).1 (of_decide_eq_true hg)
  have := lin_one (lt_df _ _ _ _) (lt_df _ _ _ _) l1 l2 f1 f2 (fun n => hd fun u hu => by
    obtain rfl | rfl : u = 0 ∨ u = 1 := by omega
    · exact n.1
    · exact n.2)
  injection this
theorem count2 {ps qs : List (Nat × Nat)} (hp : ps.length = 4) (hq : qs.length = 4) (lp : ltE ps) (lq : ltE qs) (op : ofT 2 ps) (oq : ofT 2 qs) (h : ps ≠ qs) : (ns 256 fun i => b2 (al2 ps qs i)) ≤ 32 := by
  have hd := df_ne (k := 2) (by decide) hp hq lp lq op oq h
  obtain ⟨A, hA⟩ : ∃ A, A = fun x => lin (df 4 ps qs 0) (df 4 ps qs 1) x := ⟨_, rfl⟩
  obtain ⟨B, hB⟩ : ∃ B, B = fun x => lin (df 4 ps qs 2) (df 4 ps qs 3) x := ⟨_, rfl⟩
  have hAl : ∀ x, lt2 (A x) := fun x => by rw [hA]; exact lt_lin (lt_df _ _ _ _) x
  have hBl : ∀ x, lt2 (B x) := fun x => by rw [hB]; exact lt_lin (lt_df _ _ _ _) x
  have key : ∀ x y, x < 16 → y < 16 → (al2 ps qs (y * 16 + x) = true ↔ lin (A (0, x)) (B (0, x)) (0, y) = (0, 0)) := fun x y hx hy => by
    have := btc2 ps qs (0, x) (0, y) (lt_lo (by omega)) (lt_lo (by omega))
    unfold al2
    rw [decide_eq_true_iff, show (y * 16 + x) % 16 = x by omega, show (y * 16 + x) / 16 = y by omega, this, hA, hB]
  have e : (ns 256 fun i => b2 (al2 ps qs i)) = ns 16 fun x => ns 16 fun y => b2 (al2 ps qs (y * 16 + x)) := by
    rw [show (256 : Nat) = 16 * 16 by decide, ns_mul, ns_swap]
  rw [e]
  obtain ⟨bad, hbad⟩ : ∃ bad : Nat → Bool, bad = fun x => decide (A (0, x) = (0, 0) ∧ B (0, x) = (0, 0)) := ⟨_, rfl⟩
  have hb1 : (ns 16 fun x => b2 (bad x)) ≤ 1 := ns_one bad 16 fun i j hi hj hf hg => by
    rw [hbad] at hf hg
    have f := of_decide_eq_true hf
    have g := of_decide_eq_true hg
    have l1 := lt_lo (i := i) (by omega)
    have l2 := lt_lo (i := j) (by omega)
    apply Classical.byContradiction
    intro hne
    have hne' : ¬ (0, i) = (0, j) := fun h => hne (by injection h)
    rw [hA, hB] at f g
    have z1 : df 4 ps qs 0 = (0, 0) ∧ df 4 ps qs 1 = (0, 0) := Classical.byContradiction fun n => hne' (lin_one (lt_df _ _ _ _) (lt_df _ _ _ _) l1 l2 f.1 g.1 n)
    have z2 : df 4 ps qs 2 = (0, 0) ∧ df 4 ps qs 3 = (0, 0) := Classical.byContradiction fun n => hne' (lin_one (lt_df _ _ _ _) (lt_df _ _ _ _) l1 l2 f.2 g.2 n)
    exact hd fun u hu => by
      obtain rfl | rfl | rfl | rfl : u = 0 ∨ u = 1 ∨ u = 2 ∨ u = 3 := by omega
      · exact z1.1
      · exact z1.2
      · exact z2.1
      · exact z2.2
  have hx : ∀ x, x < 16 → (ns 16 fun y => b2 (al2 ps qs (y * 16 + x))) ≤ 1 + 15 * b2 (bad x) := fun x hx => by
    by_cases hc : bad x = true
    · rw [show b2 (bad x) = 1 by unfold b2; rw [if_pos hc]]
      refine Nat.le_trans (ns_le (g := fun _ => 1) 16 fun i _ => by unfold b2; split <;> decide) ?_
      rw [ns_const]
      decide
    · refine Nat.le_trans (ns_one _ 16 fun i j hi hj hf hg => ?_) (Nat.le_add_right _ _)
      have f := (key x i hx hi).1 hf
      have g := (key x j hx hj).1 hg
      have := lin_one (hAl _) (hBl _) (lt_lo (i := i) (by omega)) (lt_lo (i := j) (by omega)) f g (fun n => hc (by rw [hbad]; exact decide_eq_true n))
      injection this
  refine Nat.le_trans (ns_le 16 hx) ?_
  rw [ns_two, ns_const, ns_times]
  omega
end Rg
end Go.Proofs.Ytbomgcmmfeahiaa
