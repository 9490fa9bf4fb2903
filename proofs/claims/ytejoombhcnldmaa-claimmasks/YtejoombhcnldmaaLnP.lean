/- Polynomials of one variable over the tower's top level, no Go in sight: their roots are no more than their degree, values at as many places as they have coefficients fix them. -/
import Derived.Test.YtejoombhcnldmaaTwM
namespace Go.Proofs.Ytejoombhcnldmaa
namespace Ln
open Tw

abbrev F := T 7
def z : F := zero 7
def o : F := one 7
def ad (a b : F) : F := add 7 a b
def mu (a b : F) : F := mul 7 a b
theorem ad_comm (a b : F) : ad a b = ad b a := add_comm 7 a b
theorem ad_assoc (a b c : F) : ad (ad a b) c = ad a (ad b c) := add_assoc 7 a b c
theorem ad_left (a b c : F) : ad a (ad b c) = ad b (ad a c) := add_left_comm 7 a b c
theorem ad_z (a : F) : ad a z = a := add_zero 7 a
theorem z_ad (a : F) : ad z a = a := zero_add 7 a
theorem ad_self (a : F) : ad a a = z := add_self 7 a
theorem ad_back (a b : F) : ad a (ad a b) = b := add_self_left 7 a b
theorem ad_eq {a b : F} (h : ad a b = z) : a = b := add_eq_zero h
theorem mu_comm (a b : F) : mu a b = mu b a := mul_comm 7 a b
theorem mu_assoc (a b c : F) : mu (mu a b) c = mu a (mu b c) := mul_assoc 7 a b c
theorem mu_left (a b c : F) : mu a (mu b c) = mu b (mu a c) := mul_left_comm 7 a b c
theorem mu_ad (a b c : F) : mu a (ad b c) = ad (mu a b) (mu a c) := mul_add 7 a b c
theorem ad_mu (a b c : F) : mu (ad b c) a = ad (mu b a) (mu c a) := add_mul 7 a b c
theorem mu_z (a : F) : mu a z = z := mul_zero 7 a
theorem z_mu (a : F) : mu z a = z := zero_mul 7 a
theorem mu_o (a : F) : mu a o = a := mul_one 7 a
theorem o_mu (a : F) : mu o a = a := one_mul 7 a
theorem mu_ne {a b : F} (ha : a ≠ z) (hb : b ≠ z) : mu a b ≠ z := fun h => hb (mul_eq_zero h ha)
theorem o_ne : o ≠ z := fun h => by
  have := congrArg (enc 7) h
  rw [show enc 7 o = 1 from enc_one 7, show enc 7 z = 0 from enc_zero 7] at this
  exact absurd this (by decide)

/-- A polynomial of degree at most d: a number, or a number and x times one of degree less. -/
def P : Nat → (F → F) → Prop
  | 0, f => ∃ c, ∀ x, f x = c
  | d + 1, f => ∃ c g, P d g ∧ ∀ x, f x = ad c (mu x (g x))
theorem P.congr : ∀ {d : Nat} {f g : F → F}, (∀ x, f x = g x) → P d f → P d g
  | 0, _, _, h, ⟨c, hc⟩ => ⟨c, fun x => by rw [← h x, hc x]⟩
  | _ + 1, _, _, h, ⟨c, k, hk, hc⟩ => ⟨c, k, hk, fun x => by rw [← h x, hc x]⟩
theorem P.const : ∀ (d : Nat) (c : F), P d fun _ => c
  | 0, c => ⟨c, fun _ => rfl⟩
  | d + 1, c => ⟨c, fun _ => z, P.const d z, fun x => by rw [mu_z, ad_z]⟩
theorem P.up : ∀ {d : Nat} {f : F → F}, P d f → P (d + 1) f
  | 0, f, ⟨c, hc⟩ => ⟨c, fun _ => z, P.const 0 z, fun x => by rw [hc x, mu_z, ad_z]⟩
  | _ + 1, _, ⟨c, g, hg, hc⟩ => ⟨c, g, P.up hg, hc⟩
theorem P.le {d e : Nat} {f : F → F} (h : P d f) (hde : d ≤ e) : P e f := by
  obtain ⟨m, rfl⟩ := Nat.le.dest hde
  clear hde
  induction m with
  | zero => exact h
  | succ m ih => exact P.up ih
theorem P.sum : ∀ {d : Nat} {f g : F → F}, P d f → P d g → P d fun x => ad (f x) (g x)
  | 0, f, g, ⟨c, hc⟩, ⟨e, he⟩ => ⟨ad c e, fun x => by show ad (f x) (g x) = _; rw [hc x, he x]⟩
  | _ + 1, f, g, ⟨c, k, hk, hc⟩, ⟨e, m, hm, he⟩ => ⟨ad c e, fun x => ad (k x) (m x), P.sum hk hm, fun x => by
      show ad (f x) (g x) = ad (ad c e) (mu x (ad (k x) (m x)))
      rw [hc x, he x, mu_ad, ad_assoc, ad_assoc, ad_left (mu x (k x)) e]⟩
theorem P.scale (a : F) : ∀ {d : Nat} {f : F → F}, P d f → P d fun x => mu a (f x)
  | 0, f, ⟨c, hc⟩ => ⟨mu a c, fun x => by show mu a (f x) = _; rw [hc x]⟩
  | _ + 1, f, ⟨c, k, hk, hc⟩ => ⟨mu a c, fun x => mu a (k x), P.scale a hk, fun x => by show mu a (f x) = ad (mu a c) (mu x (mu a (k x))); rw [hc x, mu_ad, mu_left a x]⟩
/-- Times x + a. -/
theorem P.step {d : Nat} {f : F → F} (h : P d f) (a : F) : P (d + 1) fun x => mu (f x) (ad x a) := by
  have h1 : P (d + 1) fun x => ad z (mu x (f x)) := ⟨z, f, h, fun _ => rfl⟩
  have h2 : P (d + 1) fun x => mu a (f x) := (P.scale a h).up
  refine (P.sum h1 h2).congr fun x => ?_
  rw [z_ad, mu_ad, mu_comm x, mu_comm a]
/-- What a polynomial is beside its value at r: x + r times one of degree less. -/
theorem P.split : ∀ {d : Nat} {f : F → F} (_ : P (d + 1) f) (r : F), ∃ g, P d g ∧ ∀ x, ad (f x) (f r) = mu (ad x r) (g x)
  | 0, f, ⟨c, k, ⟨e, he⟩, hc⟩, r => ⟨fun _ => e, P.const 0 e, fun x => by
      rw [hc x, hc r, he x, he r, ad_mu, ad_assoc, ad_left (mu x e) c, ad_back]⟩
  | d + 1, f, ⟨c, k, hk, hc⟩, r => by
    obtain ⟨g, hg, e⟩ := P.split hk r
    have h1 : P (d + 1) fun x => ad (k r) (mu x (g x)) := ⟨k r, g, hg, fun _ => rfl⟩
    refine ⟨_, h1, fun x => ?_⟩
    rw [hc x, hc r, ad_assoc, ad_left (mu x (k x)) c, ad_back, mu_ad, mu_left (ad x r) x, ← e x, mu_ad, ad_mu]
    rw [ad_comm (mu x (k x)) (mu x (k r)), ← ad_assoc, ad_comm (mu x (k r)) (mu r (k r)), ad_assoc (mu r (k r)), ad_self, ad_z, ad_comm]

/-- How many of the first n are so. -/
def cnt (p : Nat → Bool) : Nat → Nat
  | 0 => 0
  | n + 1 => cnt p n + (if p n = true then 1 else 0)
theorem cnt_le {p q : Nat → Bool} : ∀ {n : Nat}, (∀ i, i < n → p i = true → q i = true) → cnt p n ≤ cnt q n
  | 0, _ => Nat.le_refl _
  | n + 1, h => by
    have h1 := cnt_le (n := n) fun i hi => h i (by omega)
    have h2 := h n (by omega)
    simp only [cnt]
    by_cases hp : p n = true
    · rw [if_pos hp, if_pos (h2 hp)]; omega
    · rw [if_neg hp]; omega
theorem cnt_none {p : Nat → Bool} : ∀ {n : Nat}, (∀ i, i < n → ¬ p i = true) → cnt p n = 0
  | 0, _ => rfl
  | n + 1, h => by rw [cnt, cnt_none (n := n) fun i hi => h i (by omega), if_neg (h n (by omega))]
theorem cnt_all {p : Nat → Bool} : ∀ {n : Nat}, (∀ i, i < n → p i = true) → cnt p n = n
  | 0, _ => rfl
  | n + 1, h => by rw [cnt, cnt_all (n := n) fun i hi => h i (by omega), if_pos (h n (by omega))]
theorem cnt_or (p q : Nat → Bool) : ∀ n, cnt (fun i => p i || q i) n ≤ cnt p n + cnt q n
  | 0 => Nat.le_refl _
  | n + 1 => by
    have := cnt_or p q n
    simp only [cnt]
    by_cases h1 : p n = true <;> by_cases h2 : q n = true <;> simp [h1, h2] <;> omega
theorem cnt_one (m : Nat) : ∀ n, cnt (fun i => decide (i = m)) n ≤ 1
  | 0 => Nat.zero_le _
  | n + 1 => by
    simp only [cnt]
    by_cases h : n = m
    · have := cnt_none (p := fun i => decide (i = m)) (n := n) fun i hi => by simp; omega
      rw [this]; simp [h]
    · have := cnt_one m n
      simp [h]; omega
/-- Roots among elements that are all different: no more than the degree. -/
theorem roots (e : Nat → F) (N : Nat) (he : ∀ i j, i < N → j < N → e i = e j → i = j) : ∀ (d : Nat) (f : F → F), P d f → (∃ y, f y ≠ z) → ∀ p : Nat → Bool, (∀ i, i < N → p i = true → f (e i) = z) → cnt p N ≤ d
  | 0, f, ⟨c, hc⟩, ⟨y, hy⟩, p, hp => by
    rw [cnt_none fun i hi h => hy (by rw [hc y, ← hc (e i)]; exact hp i hi h)]; exact Nat.le_refl _
  | d + 1, f, hf, ⟨y, hy⟩, p, hp => by
    by_cases hn : ∃ i, i < N ∧ p i = true
    · obtain ⟨m, hm, hpm⟩ := hn
      obtain ⟨g, hg, hsp⟩ := P.split hf (e m)
      have h0 := hp m hm hpm
      have hx : ∀ x, f x = mu (ad x (e m)) (g x) := fun x => by rw [← hsp x, h0, ad_z]
      have hgy : g y ≠ z := fun h => hy (by rw [hx y, h, mu_z])
      have ih := roots e N he d g hg ⟨y, hgy⟩ (fun i => p i && !decide (i = m)) fun i hi h => by
        simp only [Bool.and_eq_true, Bool.not_eq_true', decide_eq_false_iff_not] at h
        have h1 := hp i hi h.1
        rw [hx] at h1
        refine Classical.byContradiction fun hne => mu_ne (fun h2 => h.2 ?_) hne h1
        exact he i m hi hm (ad_eq h2)
      have h1 := cnt_le (p := p) (q := fun i => decide (i = m) || (p i && !decide (i = m))) (n := N) fun i hi h => by
        by_cases hm : i = m <;> simp [hm, h]
      have h2 := cnt_or (fun i => decide (i = m)) (fun i => p i && !decide (i = m)) N
      have h3 := cnt_one m N
      omega
    · rw [cnt_none fun i hi h => hn ⟨i, hi, h⟩]; omega
/-- Two of degree at most d that agree at d + 1 elements agree everywhere. -/
theorem fixed (e : Nat → F) (d : Nat) (he : ∀ i j, i < d + 1 → j < d + 1 → e i = e j → i = j) {f g : F → F} (hf : P d f) (hg : P d g) (h : ∀ i, i < d + 1 → f (e i) = g (e i)) (x : F) : f x = g x := by
  refine Classical.byContradiction fun hne => ?_
  have := roots e (d + 1) he d _ (P.sum hf hg) ⟨x, fun h0 => hne (ad_eq h0)⟩ (fun _ => true) fun i hi _ => by show ad (f (e i)) (g (e i)) = z; rw [h i hi, ad_self]
  rw [cnt_all fun _ _ => rfl] at this
  omega

/-- Sums and products over the first n. -/
def sm (f : Nat → F) : Nat → F
  | 0 => z
  | n + 1 => ad (sm f n) (f n)
theorem sm_congr {f g : Nat → F} : ∀ {n : Nat}, (∀ i, i < n → f i = g i) → sm f n = sm g n
  | 0, _ => rfl
  | n + 1, h => by rw [sm, sm, sm_congr (n := n) fun i hi => h i (by omega), h n (by omega)]
theorem sm_only {f : Nat → F} (m : Nat) : ∀ {n : Nat}, (∀ i, i < n → i ≠ m → f i = z) → sm f n = if m < n then f m else z
  | 0, _ => by simp [sm]
  | n + 1, h => by
    rw [sm, sm_only m (n := n) fun i hi => h i (by omega)]
    by_cases h1 : m < n
    · rw [if_pos h1, if_pos (by omega), h n (by omega) (by omega), ad_z]
    · rw [if_neg h1, z_ad]
      by_cases h2 : n = m
      · subst h2; rw [if_pos (by omega)]
      · rw [if_neg (by omega), h n (by omega) h2]
/-- The product over the first n but one. -/
def ps (m : Nat) (g : Nat → F) : Nat → F
  | 0 => o
  | n + 1 => if n = m then ps m g n else mu (ps m g n) (g n)
theorem ps_ne {m : Nat} {g : Nat → F} : ∀ {n : Nat}, (∀ i, i < n → i ≠ m → g i ≠ z) → ps m g n ≠ z
  | 0, _ => o_ne
  | n + 1, h => by
    rw [ps]
    by_cases hm : n = m
    · rw [if_pos hm]; exact ps_ne (n := n) fun i hi => h i (by omega)
    · rw [if_neg hm]; exact mu_ne (ps_ne (n := n) fun i hi => h i (by omega)) (h n (by omega) hm)
theorem ps_zero {m : Nat} {g : Nat → F} {j : Nat} (hj : j ≠ m) (h0 : g j = z) : ∀ {n : Nat}, j < n → ps m g n = z
  | n + 1, h => by
    rw [ps]
    by_cases hm : n = m
    · rw [if_pos hm]; exact ps_zero hj h0 (by omega)
    · rw [if_neg hm]
      by_cases hn : j = n
      · subst hn; rw [h0, mu_z]
      · rw [ps_zero hj h0 (by omega), z_mu]
theorem ps_poly (m : Nat) (a : Nat → F) : ∀ n, P (if m < n then n - 1 else n) fun x => ps m (fun j => ad x (a j)) n
  | 0 => by
    rw [if_neg (by omega)]
    exact (P.const 0 o).congr fun x => rfl
  | n + 1 => by
    have ih := ps_poly m a n
    by_cases hm : n = m
    · subst hm
      rw [if_pos (by omega)]
      rw [if_neg (by omega)] at ih
      exact ih.congr fun x => by show _ = ps n _ (n + 1); rw [ps, if_pos rfl]
    · by_cases h1 : m < n
      · rw [if_pos h1] at ih
        rw [if_pos (by omega)]
        refine ((ih.step (a n)).le (by omega)).congr fun x => ?_
        show _ = ps m _ (n + 1); rw [ps, if_neg hm]
      · rw [if_neg h1] at ih
        rw [if_neg (by omega)]
        refine (ih.step (a n)).congr fun x => ?_
        show _ = ps m _ (n + 1); rw [ps, if_neg hm]
/-- The factor of the value number i of n at x. -/
def fc (a : Nat → F) (n i : Nat) (x : F) : F := mu (ps i (fun j => ad x (a j)) n) (inv 7 (ps i (fun j => ad (a i) (a j)) n))
/-- The polynomial with these values. -/
def lag (a v : Nat → F) (n : Nat) (x : F) : F := sm (fun i => mu (v i) (fc a n i x)) n
theorem fc_own {a : Nat → F} {n i : Nat} (ha : ∀ j, j < n → j ≠ i → a i ≠ a j) : fc a n i (a i) = o :=
  field 7 _ (ps_ne fun j hj hne h => ha j hj hne (ad_eq h))
theorem fc_other {a : Nat → F} {n i j : Nat} (hj : j < n) (hne : j ≠ i) : fc a n i (a j) = z := by
  rw [fc, ps_zero hne (ad_self (a j)) hj, z_mu]
theorem lag_at {a v : Nat → F} {n i : Nat} (hi : i < n) (ha : ∀ i j, i < n → j < n → a i = a j → i = j) : lag a v n (a i) = v i := by
  rw [lag, sm_only i fun j hj hne => by rw [fc_other hi (fun h => hne h.symm), mu_z], if_pos hi, fc_own fun j hj hne h => hne (ha i j hi hj h).symm, mu_o]
theorem sm_poly {d : Nat} {f : Nat → F → F} : ∀ {n : Nat}, (∀ i, i < n → P d (f i)) → P d fun x => sm (fun i => f i x) n
  | 0, _ => P.const d z
  | n + 1, h => (P.sum (sm_poly (n := n) fun i hi => h i (by omega)) (h n (by omega))).congr fun _ => rfl
theorem lag_poly (a v : Nat → F) (n : Nat) : P (n - 1) (lag a v n) :=
  sm_poly fun i hi => by
    have := ps_poly i a n
    rw [if_pos hi] at this
    exact (P.scale (v i) (P.scale _ this)).congr fun x => by rw [fc, mu_comm (inv 7 _)]
theorem sm_ad (f g : Nat → F) : ∀ n, sm (fun i => ad (f i) (g i)) n = ad (sm f n) (sm g n)
  | 0 => by simp only [sm, ad_z]
  | n + 1 => by rw [sm, sm, sm, sm_ad f g n, ad_assoc, ad_assoc, ad_left (sm g n)]
theorem sm_mu (c : F) (f : Nat → F) : ∀ n, sm (fun i => mu c (f i)) n = mu c (sm f n)
  | 0 => by simp only [sm, mu_z]
  | n + 1 => by rw [sm, sm, sm_mu c f n, mu_ad]
theorem lag_sum (a v w : Nat → F) (c : F) (n : Nat) (x : F) : lag a (fun i => ad (v i) (mu c (w i))) n x = ad (lag a v n x) (mu c (lag a w n x)) := by
  rw [lag, lag, lag, ← sm_mu, ← sm_ad]
  exact sm_congr fun i _ => by rw [ad_mu, mu_assoc]
/-- Lines between polynomials of one value less. -/
def nv (a v : Nat → F) (x : F) : Nat → Nat → F
  | 0, i => v i
  | n + 1, i => mu (ad (mu (ad x (a (i + (n + 1)))) (nv a v x n i)) (mu (ad x (a i)) (nv a v x n (i + 1)))) (inv 7 (ad (a i) (a (i + (n + 1)))))
theorem nv_poly (a v : Nat → F) : ∀ n i, P n fun x => nv a v x n i
  | 0, i => P.const 0 (v i)
  | n + 1, i => by
    have h1 := (nv_poly a v n i).step (a (i + (n + 1)))
    have h2 := (nv_poly a v n (i + 1)).step (a i)
    refine (P.scale (inv 7 (ad (a i) (a (i + (n + 1))))) (P.sum h1 h2)).congr fun x => ?_
    show _ = mu _ _
    rw [mu_comm (inv 7 _), mu_comm (nv a v x n i), mu_comm (nv a v x n (i + 1))]
theorem nv_at (a v : Nat → F) (N : Nat) (ha : ∀ i j, i < N → j < N → a i = a j → i = j) : ∀ n i j, i + n < N → i ≤ j → j ≤ i + n → nv a v (a j) n i = v j
  | 0, i, j, _, h1, h2 => by rw [show j = i by omega]; rfl
  | n + 1, i, j, hN, h1, h2 => by
    have hne : ad (a i) (a (i + (n + 1))) ≠ z := fun h => by
      have := ha _ _ (by omega) (by omega) (ad_eq h); omega
    have hf : mu (ad (a i) (a (i + (n + 1)))) (inv 7 (ad (a i) (a (i + (n + 1))))) = o := field 7 _ hne
    rw [nv]
    by_cases hi : j = i
    · subst hi
      rw [ad_self (a j), z_mu, ad_z, nv_at a v N ha n j j (by omega) (by omega) (by omega), mu_comm _ (v j), mu_assoc, hf, mu_o]
    · by_cases hl : j = i + (n + 1)
      · rw [← hl] at hf ⊢
        rw [ad_self (a j), z_mu, z_ad, nv_at a v N ha n (i + 1) j (by omega) (by omega) (by omega), ad_comm (a j) (a i), mu_comm _ (v j), mu_assoc, hf, mu_o]
      · rw [nv_at a v N ha n i j (by omega) (by omega) (by omega), nv_at a v N ha n (i + 1) j (by omega) (by omega) (by omega), ← ad_mu, ad_assoc, ad_left (a (i + (n + 1))), ad_back, ad_comm (a (i + (n + 1))), mu_comm _ (v j), mu_assoc, hf, mu_o]
theorem nv_lag (a v : Nat → F) (n : Nat) (ha : ∀ i j, i < n + 1 → j < n + 1 → a i = a j → i = j) (x : F) : nv a v x n 0 = lag a v (n + 1) x :=
  fixed a n ha (nv_poly a v n 0) (lag_poly a v (n + 1)) (fun i hi => by rw [nv_at a v (n + 1) ha n 0 i (by omega) (by omega) (by omega), lag_at hi ha]) x
end Ln
end Go.Proofs.Ytejoombhcnldmaa
