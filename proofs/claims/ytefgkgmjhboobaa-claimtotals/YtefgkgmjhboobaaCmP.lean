/- How many elements have one total of two lists of values that differ, no Go in sight. -/
import Derived.Test.YtefgkgmjhboobaaCmF
import Derived.Test.YtefgkgmjhboobaaLnP
namespace Go.Proofs.Ytefgkgmjhboobaa
namespace Cm
open Cb
open Tw (pm)
open Ln (F z o ad mu P cnt ad_comm ad_assoc ad_left ad_z z_ad ad_self ad_back ad_eq mu_comm mu_assoc mu_left mu_ad mu_z z_mu o_mu mu_o mu_ne roots cnt_all cnt_le)

def D (a : Nat × Nat) : F := Tw.d7 a.1 a.2
theorem D_pm (a b : Nat × Nat) : D (pm a b) = mu (D a) (D b) := Tw.d7_mul _ _ _ _
theorem D_xa (a b : Nat × Nat) : D (xa a b) = ad (D a) (D b) := Tw.d7_add _ _ _ _
theorem D_one : D (0, 1) = o := Tw.d7_one'
theorem D_zero : D (0, 0) = z := Tw.d7_zero
theorem D_inj {a b : Nat × Nat} (ha : lt2 a) (hb : lt2 b) (h : D a = D b) : a = b := by
  have := Tw.d7_inj ha.1 ha.2 hb.1 hb.2 h
  exact Prod.ext this.1 this.2
theorem lo_inj {i j : Nat} (hi : i < 2 ^ 64) (hj : j < 2 ^ 64) (h : D (0, i) = D (0, j)) : i = j := by
  have := D_inj (a := (0, i)) (b := (0, j)) ⟨Nat.two_pow_pos 64, hi⟩ ⟨Nat.two_pow_pos 64, hj⟩ h
  exact (Prod.mk.inj this).2
/-- A polynomial by its coefficients. -/
def hF (d : Nat → F) : Nat → F → F
  | 0, _ => z
  | n + 1, x => ad (d 0) (mu x (hF (fun i => d (i + 1)) n x))
theorem hF_P : ∀ (n : Nat) (d : Nat → F), P n (hF d (n + 1))
  | 0, d => ⟨d 0, fun x => by show ad (d 0) (mu x z) = _; rw [mu_z, ad_z]⟩
  | n + 1, d => ⟨d 0, hF (fun i => d (i + 1)) (n + 1), hF_P n _, fun _ => rfl⟩
theorem hF_ad : ∀ (n : Nat) (d e : Nat → F) (x : F), ad (hF d n x) (hF e n x) = hF (fun i => ad (d i) (e i)) n x
  | 0, _, _, _ => by show ad z z = z; rw [ad_z]
  | n + 1, d, e, x => by
    show ad (ad (d 0) (mu x _)) (ad (e 0) (mu x _)) = ad (ad (d 0) (e 0)) (mu x (hF (fun i => ad (d (i + 1)) (e (i + 1))) n x))
    rw [← hF_ad n (fun i => d (i + 1)) (fun i => e (i + 1)) x, mu_ad, ad_assoc, ad_assoc, ad_left (mu x (hF (fun i => d (i + 1)) n x)) (e 0)]
/-- One that is nothing everywhere has no coefficients. -/
theorem hF_none : ∀ (n : Nat) (d : Nat → F), n ≤ 12 → (∀ x, hF d n x = z) → ∀ j, j < n → d j = z
  | 0, _, _, _, j, hj => by omega
  | n + 1, d, hn, h, j, hj => by
    have h0 : d 0 = z := by
      have := h z
      show d 0 = z
      rw [show hF d (n + 1) z = ad (d 0) (mu z (hF (fun i => d (i + 1)) n z)) from rfl, z_mu, ad_z] at this
      exact this
    have hg : ∀ x, x ≠ z → hF (fun i => d (i + 1)) n x = z := fun x hx => by
      have := h x
      rw [show hF d (n + 1) x = ad (d 0) (mu x (hF (fun i => d (i + 1)) n x)) from rfl, h0, z_ad] at this
      exact Classical.byContradiction fun hne => mu_ne hx hne this
    have hg2 : ∀ x, hF (fun i => d (i + 1)) n x = z := by
      cases n with
      | zero => exact fun _ => rfl
      | succ k =>
        intro x
        apply Classical.byContradiction
        intro hne
        have hc := roots (fun i => D (0, i + 1)) 13 (fun i j hi hj e => by have := lo_inj (i := i + 1) (j := j + 1) (by omega) (by omega) e; omega) k _ (hF_P k (fun i => d (i + 1))) ⟨x, hne⟩ (fun _ => true) (fun i hi _ => hg _ (fun e => by
          have := lo_inj (i := i + 1) (j := 0) (by omega) (by decide) (by rw [e]; exact D_zero.symm)
          omega))
        rw [cnt_all (fun _ _ => rfl)] at hc
        omega
    cases j with
    | zero => exact h0
    | succ j => exact hF_none n (fun i => d (i + 1)) (by omega) hg2 j (by omega)
theorem sum_front (f : Nat → Nat × Nat) : ∀ n, xs (n + 1) f = xa (f 0) (xs n fun i => f (i + 1))
  | 0 => by simp only [xs]; rw [zero_xa, xa_zero]
  | n + 1 => by
    rw [show xs (n + 1 + 1) f = xa (xs (n + 1) f) (f (n + 1)) from rfl, sum_front f n, xa_assoc]
    rfl
theorem bpow_front (b : Nat × Nat) (hb : lt2 b) : ∀ j, bpow b (j + 1) = pm b (bpow b j)
  | 0 => by show pm (0, 1) b = pm b (0, 1); rw [one_pm hb, pm_one hb]
  | j + 1 => by
    show pm (bpow b (j + 1)) b = pm b (pm (bpow b j) b)
    rw [bpow_front b hb j, Tw.pm_assoc']
/-- The total is the polynomial's value. -/
theorem D_sum (b : Nat × Nat) (hb : lt2 b) : ∀ (n : Nat) (f : Nat → Nat × Nat), (∀ i, lt2 (f i)) → D (xs n fun j => pm (bpow b j) (f j)) = hF (fun i => D (f i)) n (D b)
  | 0, _, _ => D_zero
  | n + 1, f, hf => by
    rw [sum_front, D_xa]
    have e1 : pm (bpow b 0) (f 0) = f 0 := one_pm (hf 0)
    have e2 : (xs n fun i => pm (bpow b (i + 1)) (f (i + 1))) = pm b (xs n fun i => pm (bpow b i) (f (i + 1))) := by
      rw [Rg.pm_xs]
      exact xs_congr n fun i _ => by rw [bpow_front b hb, Tw.pm_assoc']
    rw [e1, e2, D_pm, D_sum b hb n (fun i => f (i + 1)) (fun i => hf (i + 1))]
    rfl
theorem lt_val {cl : List Stp} (h : okC cl) (i : Nat) : lt2 (cl.getD i zst).v := by
  by_cases hi : i < cl.length
  · exact h _ (by rw [show cl.getD i zst = cl[i] by simp [hi]]; exact List.getElem_mem hi)
  · rw [show cl.getD i zst = zst by simp [List.getD, List.getElem?_eq_none (Nat.not_lt.1 hi)]]; exact lt_zero
/-- Is the total at the element i one? -/
def eqT (cl ot : List Stp) (n i : Nat) : Bool := decide (tts cl (0, i) n = tts ot (0, i) n)
theorem count_tot (cl ot : List Stp) (n size : Nat) (hn : n ≤ 12) (hs : size ≤ 16) (h1 : okC cl) (h2 : okC ot) (j : Nat) (hj : j < n) (hne : (cl.getD j zst).v ≠ (ot.getD j zst).v) : cnt (eqT cl ot n) size ≤ n - 1 := by
  obtain ⟨k, rfl⟩ : ∃ k, n = k + 1 := ⟨n - 1, by omega⟩
  have hd : ¬ ∀ x, hF (fun i => ad (D (cl.getD i zst).v) (D (ot.getD i zst).v)) (k + 1) x = z := fun h => by
    have := hF_none (k + 1) _ hn h j hj
    exact hne (D_inj (lt_val h1 j) (lt_val h2 j) (ad_eq this))
  have hy : ∃ y, hF (fun i => ad (D (cl.getD i zst).v) (D (ot.getD i zst).v)) (k + 1) y ≠ z := Classical.byContradiction fun h => hd fun x => Classical.byContradiction fun hx => h ⟨x, hx⟩
  refine Nat.le_trans (roots (fun i => D (0, i)) size (fun i j hi hj e => lo_inj (by omega) (by omega) e) k _ (hF_P k _) hy (eqT cl ot (k + 1)) (fun i hi hp => ?_)) (by omega)
  have e := of_decide_eq_true hp
  have hb : lt2 (0, i) := ⟨Nat.two_pow_pos 64, by show i < 2 ^ 64; omega⟩
  have f1 := D_sum (0, i) hb (k + 1) (fun j => (cl.getD j zst).v) (lt_val h1)
  have f2 := D_sum (0, i) hb (k + 1) (fun j => (ot.getD j zst).v) (lt_val h2)
  rw [← hF_ad, ← f1, ← f2]
  show ad (D (tts cl (0, i) (k + 1))) (D (tts ot (0, i) (k + 1))) = z
  rw [e, ad_self]
theorem tts_same (cl ot : List Stp) (b : Nat × Nat) (n : Nat) (h : ∀ j, j < n → (cl.getD j zst).v = (ot.getD j zst).v) : tts cl b n = tts ot b n := xs_congr n fun j hj => by rw [h j hj]
theorem count_same (cl ot : List Stp) (n size : Nat) (h : ∀ j, j < n → (cl.getD j zst).v = (ot.getD j zst).v) : cnt (eqT cl ot n) size = size := cnt_all fun _ _ => decide_eq_true (tts_same cl ot _ n h)
end Cm
end Go.Proofs.Ytefgkgmjhboobaa
