/- Sums of an expression over all corners of tables, no Go in sight: a round's values, their polynomial, what a round splits, what two rounds count. -/
import Derived.Test.YtfhojakhoobnhaaPLnA
import Derived.Test.YtfhojakhoobnhaaExK
namespace Go.Proofs.Ytfhojakhoobnhaa
namespace Sc
open Cb Ln
open Tw (pm)

def tb (ts : List (List (Nat × Nat))) (k : Nat) : List (Nat × Nat) := ts.getD k []
theorem tb_map (f : List (Nat × Nat) → List (Nat × Nat)) (ts : List (List (Nat × Nat))) (k : Nat) (h : k < ts.length) : tb (ts.map f) k = f (tb ts k) := by
  simp [tb, List.getD, h]
theorem tb_mem {ts : List (List (Nat × Nat))} {k : Nat} (h : k < ts.length) : tb ts k ∈ ts := by
  simp [tb, List.getD, h]
theorem tb_out {ts : List (List (Nat × Nat))} {k : Nat} (h : ¬ k < ts.length) : tb ts k = [] := by
  simp [tb, List.getD, List.getElem?_eq_none (Nat.not_lt.1 h)]
/-- What tables have at a corner. -/
def cor (ts : List (List (Nat × Nat))) (i : Nat) : List (Nat × Nat) := ts.map fun t => el t i
theorem cor_len (ts : List (List (Nat × Nat))) (i : Nat) : (cor ts i).length = ts.length := by simp [cor]
theorem cor_el (ts : List (List (Nat × Nat))) (i k : Nat) : el (cor ts i) k = el (tb ts k) i := by
  by_cases h : k < ts.length
  · simp [cor, el, tb, List.getD, h]
  · rw [tb_out h]
    simp [cor, el, List.getD, List.getElem?_eq_none (Nat.not_lt.1 h)]
/-- An expression's value. -/
def lv (l : List Stp) (vs : List (Nat × Nat)) : Nat × Nat := vfun vs l (l.length - 1)
/-- The sum over so many corners. -/
def sv (l : List Stp) (ts : List (List (Nat × Nat))) (n : Nat) : Nat × Nat := xs n fun i => lv l (cor ts i)
/-- Bound in the first variable. -/
def bnd (ts : List (List (Nat × Nat))) (r : Nat × Nat) : List (List (Nat × Nat)) := ts.map fun t => fst1 t r
theorem bnd_len (ts : List (List (Nat × Nat))) (r : Nat × Nat) : (bnd ts r).length = ts.length := by simp [bnd]
theorem bnd_tb (ts : List (List (Nat × Nat))) (r : Nat × Nat) (k : Nat) (h : k < ts.length) : tb (bnd ts r) k = fst1 (tb ts k) r := tb_map _ ts k h
/-- The degree of rounds. -/
def dgm (l : List Stp) : Nat := max 1 (dfun l (l.length - 1))
/-- A round's values, of tables of twice m elements. -/
def rnd (l : List Stp) (ts : List (List (Nat × Nat))) (m : Nat) : List (Nat × Nat) := (List.range (dgm l + 1)).map fun i => sv l (bnd ts (pl i)) m
theorem rnd_len (l : List Stp) (ts : List (List (Nat × Nat))) (m : Nat) : (rnd l ts m).length = dgm l + 1 := by simp [rnd]
theorem rnd_el (l : List Stp) (ts : List (List (Nat × Nat))) (m : Nat) {i : Nat} (h : i < dgm l + 1) : el (rnd l ts m) i = sv l (bnd ts (pl i)) m := by simp [el, rnd, List.getD, h]

theorem getD_out {α : Type} (l : List α) (p : Nat) (d : α) (h : l.length ≤ p) : l.getD p d = d := by
  rw [List.getD_eq_getElem?_getD, List.getElem?_eq_none h]; rfl
theorem getD_new {α : Type} (l : List α) (a d : α) (p : Nat) (h : l.length = p) : (l ++ [a]).getD p d = a := by
  subst h
  rw [List.getD_eq_getElem?_getD]; simp
theorem getD_old {α : Type} (l : List α) (a d : α) (p : Nat) (h : p < l.length) : (l ++ [a]).getD p d = l.getD p d := by
  rw [List.getD_eq_getElem?_getD, List.getD_eq_getElem?_getD, List.getElem?_append_left h]
/-- The values of all steps, in the field. -/
def vaF (o : Stp) (d v : Nat → F) : F := if o.k = 2 then v o.a.toNat else if o.k = 3 then ad (d o.a.toNat) (d o.b.toNat) else if o.k = 4 then mu (d o.a.toNat) (d o.b.toNat) else D o.v
def vlsF (v : Nat → F) (l : List Stp) : List F := l.foldl (fun ds o => ds ++ [vaF o (fun p => ds.getD p z) v]) []
theorem vlsF_snoc (v : Nat → F) (l : List Stp) (o : Stp) : vlsF v (l ++ [o]) = vlsF v l ++ [vaF o (fun p => (vlsF v l).getD p z) v] := by simp [vlsF]
theorem snoc_ind {α : Type} {C : List α → Prop} (h0 : C []) (h1 : ∀ l a, C l → C (l ++ [a])) (l : List α) : C l := by
  have : ∀ n (l : List α), l.length = n → C l := by
    intro n
    induction n with
    | zero => intro l hl; rw [List.length_eq_zero_iff.1 hl]; exact h0
    | succ n ih =>
      intro l hl
      have hne : l ≠ [] := fun e => by rw [e] at hl; simp at hl
      rw [← List.dropLast_concat_getLast hne]
      exact h1 _ _ (ih _ (by simp [hl]))
  exact this _ l rfl
theorem vlsF_len (v : Nat → F) (l : List Stp) : (vlsF v l).length = l.length := by
  refine snoc_ind (C := fun l => (vlsF v l).length = l.length) rfl (fun l a ih => ?_) l
  rw [vlsF_snoc]; simp [ih]
theorem D_vls (vs : List (Nat × Nat)) (l : List Stp) : ∀ p, D (vfun vs l p) = (vlsF (fun k => D (el vs k)) l).getD p z := by
  refine snoc_ind (C := fun l => ∀ p, D (vfun vs l p) = (vlsF (fun k => D (el vs k)) l).getD p z) (fun p => ?_) (fun l o ih p => ?_) l
  · show D (el [] p) = ([] : List F).getD p z
    simp [el, List.getD, D_zero]
  · unfold vfun
    rw [vls_snoc, vlsF_snoc]
    have hl : (vls vs l).length = l.length := vls_len vs l
    have hl2 := vlsF_len (fun k => D (el vs k)) l
    by_cases h1 : p < l.length
    · have e1 : el (vls vs l ++ [va o (el (vls vs l)) vs]) p = el (vls vs l) p := by
        exact getD_old _ _ _ _ (by omega)
      have e2 : (vlsF (fun k => D (el vs k)) l ++ [vaF o (fun p => (vlsF (fun k => D (el vs k)) l).getD p z) (fun k => D (el vs k))]).getD p z = (vlsF (fun k => D (el vs k)) l).getD p z := by
        exact getD_old _ _ _ _ (by omega)
      rw [e1, e2]; exact ih p
    · by_cases h2 : p = l.length
      · subst h2
        have e1 : el (vls vs l ++ [va o (el (vls vs l)) vs]) l.length = va o (el (vls vs l)) vs := by
          exact getD_new _ _ _ _ hl
        have e2 : (vlsF (fun k => D (el vs k)) l ++ [vaF o (fun p => (vlsF (fun k => D (el vs k)) l).getD p z) (fun k => D (el vs k))]).getD l.length z = vaF o (fun p => (vlsF (fun k => D (el vs k)) l).getD p z) (fun k => D (el vs k)) := by
          exact getD_new _ _ _ _ hl2
        rw [e1, e2]
        unfold va vaF
        have ih' : ∀ p, D (el (vls vs l) p) = (vlsF (fun k => D (el vs k)) l).getD p z := ih
        by_cases k2 : o.k = 2
        · rw [if_pos k2, if_pos k2]
        · rw [if_neg k2, if_neg k2]
          by_cases k3 : o.k = 3
          · rw [if_pos k3, if_pos k3, D_xa, ih', ih']
          · rw [if_neg k3, if_neg k3]
            by_cases k4 : o.k = 4
            · rw [if_pos k4, if_pos k4, D_pm, ih', ih']
            · rw [if_neg k4, if_neg k4]
      · have e1 : el (vls vs l ++ [va o (el (vls vs l)) vs]) p = (0, 0) := by
          exact getD_out _ _ _ (by simp [hl]; omega)
        have e2 : (vlsF (fun k => D (el vs k)) l ++ [vaF o (fun p => (vlsF (fun k => D (el vs k)) l).getD p z) (fun k => D (el vs k))]).getD p z = z := by
          exact getD_out _ _ _ (by simp [hl2]; omega)
        rw [e1, e2, D_zero]
/-- Products of polynomials. -/
theorem P_mul : ∀ {d e : Nat} {f g : F → F}, P d f → P e g → P (d + e) fun x => mu (f x) (g x)
  | 0, e, f, g, ⟨c, hc⟩, hg => by
    rw [Nat.zero_add]
    exact (P.scale c hg).congr fun x => by rw [hc x]
  | d + 1, e, f, g, ⟨c, k, hk, hc⟩, hg => by
    have h1 : P (d + 1 + e) fun x => mu c (g x) := (P.scale c hg).le (by omega)
    have h2 := P_mul hk hg
    have h3 : P (d + e + 1) fun x => ad z (mu x (mu (k x) (g x))) := ⟨z, _, h2, fun _ => rfl⟩
    have h3' : P (d + 1 + e) fun x => ad z (mu x (mu (k x) (g x))) := by rw [show d + 1 + e = d + e + 1 by omega]; exact h3
    refine (P.sum h1 h3').congr fun x => ?_
    rw [hc x, z_ad, ad_mu, mu_assoc]
/-- The value of each step is a polynomial of no more than its degree, where those of the variables are lines. -/
theorem vls_poly (v : F → Nat → F) (hv : ∀ k, P 1 fun x => v x k) (l : List Stp) : ∀ p, P (dfun l p) fun x => (vlsF (v x) l).getD p z := by
  refine snoc_ind (C := fun l => ∀ p, P (dfun l p) fun x => (vlsF (v x) l).getD p z) (fun p => ?_) (fun l o ih p => ?_) l
  · refine (P.const _ z).congr fun x => ?_
    show z = ([] : List F).getD p z
    simp [List.getD]
  · have hl : (dgs l).length = l.length := dgs_len l
    by_cases h1 : p < l.length
    · have e1 : dfun (l ++ [o]) p = dfun l p := by
        unfold dfun; rw [dgs_snoc]
        exact getD_old _ _ _ _ (by omega)
      rw [e1]
      refine (ih p).congr fun x => ?_
      rw [vlsF_snoc]
      exact (getD_old _ _ _ _ (by rw [vlsF_len]; omega)).symm
    · by_cases h2 : p = l.length
      · subst h2
        have e1 : dfun (l ++ [o]) l.length = dg o (dfun l) := by
          unfold dfun; rw [dgs_snoc]
          exact getD_new _ _ _ _ hl
        rw [e1]
        refine P.congr (f := fun x => vaF o (fun p => (vlsF (v x) l).getD p z) (v x)) (fun x => ?_) ?_
        · rw [vlsF_snoc]
          exact (getD_new _ _ _ _ (vlsF_len (v x) l)).symm
        · unfold vaF dg
          by_cases k2 : o.k = 2
          · rw [if_pos k2]
            exact (hv _).congr fun x => by rw [if_pos k2]
          · rw [if_neg k2]
            by_cases k3 : o.k = 3
            · rw [if_pos k3]
              exact (P.sum ((ih o.a.toNat).le (Nat.le_max_left _ _)) ((ih o.b.toNat).le (Nat.le_max_right _ _))).congr fun x => by rw [if_neg k2, if_pos k3]
            · rw [if_neg k3]
              by_cases k4 : o.k = 4
              · rw [if_pos k4]
                exact (P_mul (ih o.a.toNat) (ih o.b.toNat)).congr fun x => by rw [if_neg k2, if_neg k3, if_pos k4]
              · rw [if_neg k4]
                exact (P.const 0 (D o.v)).congr fun x => by rw [if_neg k2, if_neg k3, if_neg k4]
      · have e1 : dfun (l ++ [o]) p = 0 := by
          unfold dfun; rw [dgs_snoc]
          exact getD_out _ _ _ (by simp [hl]; omega)
        rw [e1]
        refine (P.const 0 z).congr fun x => ?_
        rw [vlsF_snoc]
        exact (getD_out _ _ _ (by simp [vlsF_len]; omega)).symm
theorem D_xs (f : Nat → Nat × Nat) : ∀ n, D (xs n f) = sm (fun i => D (f i)) n
  | 0 => D_zero
  | n + 1 => by rw [xs, sm, D_xa, D_xs f n]
/-- Tables of one length. -/
def lenT (ts : List (List (Nat × Nat))) (n : Nat) : Prop := ∀ t ∈ ts, t.length = n
def ltT (ts : List (List (Nat × Nat))) : Prop := ∀ t ∈ ts, ltE t
def ofTs (k : Nat) (ts : List (List (Nat × Nat))) : Prop := ∀ t ∈ ts, ofT k t
theorem lenT.at {ts : List (List (Nat × Nat))} {n : Nat} (h : lenT ts n) {k : Nat} (hk : k < ts.length) : (tb ts k).length = n := h _ (tb_mem hk)
theorem ltT.at {ts : List (List (Nat × Nat))} (h : ltT ts) (k : Nat) : ltE (tb ts k) := by
  by_cases hk : k < ts.length
  · exact h _ (tb_mem hk)
  · rw [tb_out hk]; intro e he; simp at he
theorem ofTs.at {m : Nat} {ts : List (List (Nat × Nat))} (h : ofTs m ts) (k : Nat) : ofT m (tb ts k) := by
  by_cases hk : k < ts.length
  · exact h _ (tb_mem hk)
  · rw [tb_out hk]; intro e he; simp at he
theorem lenT_bnd {ts : List (List (Nat × Nat))} {m : Nat} (h : lenT ts (2 * m)) (r : Nat × Nat) : lenT (bnd ts r) m := fun t ht => by
  obtain ⟨s, hs, rfl⟩ := List.mem_map.1 ht
  rw [fst1, half_len, h s hs]; omega
theorem ltT_bnd {ts : List (List (Nat × Nat))} (h : ltT ts) (r : Nat × Nat) : ltT (bnd ts r) := fun t ht => by
  obtain ⟨s, hs, rfl⟩ := List.mem_map.1 ht
  exact lt_half (h s hs) 2 1 r
theorem ofTs_bnd {k : Nat} (hk : k < 8) {ts : List (List (Nat × Nat))} (h : ofTs k ts) {r : Nat × Nat} (hr : ofE k r) : ofTs k (bnd ts r) := fun t ht => by
  obtain ⟨s, hs, rfl⟩ := List.mem_map.1 ht
  exact of_half hk (h s hs) hr 2 1
theorem ltE_cor {ts : List (List (Nat × Nat))} (h : ltT ts) (i : Nat) : ltE (cor ts i) := fun e he => by
  obtain ⟨s, hs, rfl⟩ := List.mem_map.1 he
  exact ltE_el (h s hs) i
theorem ofT_cor {k : Nat} (hk : k < 8) {ts : List (List (Nat × Nat))} (h : ofTs k ts) (i : Nat) : ofT k (cor ts i) := fun e he => by
  obtain ⟨s, hs, rfl⟩ := List.mem_map.1 he
  exact (h s hs).el hk i
/-- The line of a variable at a corner of bound tables. -/
def ln (ts : List (List (Nat × Nat))) (i : Nat) (x : F) (k : Nat) : F := ad (D (el (tb ts k) (2 * i))) (mu x (ad (D (el (tb ts k) (2 * i))) (D (el (tb ts k) (2 * i + 1)))))
theorem ln_poly (ts : List (List (Nat × Nat))) (i k : Nat) : P 1 fun x => ln ts i x k := ⟨_, fun _ => _, P.const 0 _, fun _ => rfl⟩
theorem D_bnd {ts : List (List (Nat × Nat))} {m i : Nat} (h : lenT ts (2 * m)) (hi : i < m) (r : Nat × Nat) (k : Nat) : D (el (cor (bnd ts r) i) k) = ln ts i (D r) k := by
  rw [cor_el]
  by_cases hk : k < ts.length
  · rw [bnd_tb ts r k hk, fst1, half_at 2 1 _ r (by rw [h.at hk]; omega), hv, D_xa, D_pm, D_xa]
    rfl
  · rw [tb_out (by rw [bnd_len]; exact hk)]
    unfold ln
    rw [tb_out hk]
    simp only [el, List.getD, List.getElem?_nil, Option.getD_none]
    rw [D_zero, ad_self, mu_z, ad_z]
/-- The sum of bound tables, as a polynomial of what they are bound to. -/
def gs (l : List Stp) (ts : List (List (Nat × Nat))) (m : Nat) (x : F) : F := sm (fun i => (vlsF (ln ts i x) l).getD (l.length - 1) z) m
theorem gs_poly (l : List Stp) (ts : List (List (Nat × Nat))) (m : Nat) : P (dgm l) (gs l ts m) :=
  (sm_poly (f := fun i x => (vlsF (ln ts i x) l).getD (l.length - 1) z) fun i _ => vls_poly (fun x => ln ts i x) (ln_poly ts i) l (l.length - 1)).le (Nat.le_max_right _ _)
theorem gs_at (l : List Stp) {ts : List (List (Nat × Nat))} {m : Nat} (h : lenT ts (2 * m)) (r : Nat × Nat) : gs l ts m (D r) = D (sv l (bnd ts r) m) := by
  rw [sv, D_xs]
  refine sm_congr fun i hi => ?_
  rw [lv, D_vls]
  congr 2
  funext k
  exact (D_bnd h hi r k).symm
theorem lt_sv {l : List Stp} {ts : List (List (Nat × Nat))} {k : Nat} (hk : k < 8) (hl : ∀ o ∈ l, o.ok) {vr : Int} (hc : chkF (k : Int) vr l l.length = 0) (ht : ltT ts) (ot : ofTs k ts) (n : Nat) : lt2 (sv l ts n) ∧ ofE k (sv l ts n) := by
  have hv : ∀ i, lt2 (lv l (cor ts i)) ∧ ofE k (lv l (cor ts i)) := fun i => by
    have := vfun_of hk (ltE_cor ht i) (ofT_cor hk ot i) hl (Nat.le_refl _) hc (l.length - 1)
    rw [List.take_of_length_le (Nat.le_refl _)] at this
    exact this
  refine ⟨lt_xs (fun i => (hv i).1) n, ?_⟩
  unfold sv
  induction n with
  | zero => exact of_zero k hk
  | succ n ih => rw [xs]; exact of_xor hk ih (hv n).2
/-- The value of a round's values is the sum of the tables bound there. -/
theorem rnd_at {l : List Stp} {ts : List (List (Nat × Nat))} {m k : Nat} (hk : k < 8) (hl : ∀ o ∈ l, o.ok) {vr : Int} (hc : chkF (k : Int) vr l l.length = 0) (h : lenT ts (2 * m)) (ht : ltT ts) (ot : ofTs k ts) (hd : dgm l ≤ 8) {r : Nat × Nat} (hr : ofE k r) : atv (rnd l ts m) r = sv l (bnd ts r) m := by
  refine D_inj (lt_atv _ _) (lt_sv hk hl hc (ltT_bnd ht r) (ofTs_bnd hk ot hr) m).1 ?_
  rw [D_atv, rnd_len, ← gs_at l h r]
  refine fixed A (dgm l) (A_inj (by omega)) (lag_poly A _ (dgm l + 1)) (gs_poly l ts m) (fun i hi => ?_) (D r)
  rw [lag_at hi (A_inj (by omega)), rnd_el l ts m hi, ← gs_at l h (pl i)]
theorem cor_bit {ts : List (List (Nat × Nat))} {m i b : Nat} (h : lenT ts (2 * m)) (ht : ltT ts) (hi : i < m) (hb : b < 2) : cor (bnd ts (0, b)) i = cor ts (2 * i + b) := by
  refine list_ext (by rw [cor_len, cor_len, bnd_len]) fun k hk => ?_
  rw [cor_len, bnd_len] at hk
  rw [cor_el, cor_el, bnd_tb ts _ k hk, fst_bit _ b hb (ht.at k)]
  have : i < (tb ts k).length / 2 := by rw [h.at hk]; omega
  simp [el, List.getD, this]
theorem sx_two (f g : Nat → Nat × Nat) : ∀ n, xs n (fun i => xa (f i) (g i)) = xa (xs n f) (xs n g)
  | 0 => (xa_self (0, 0)).symm
  | n + 1 => by rw [xs, xs, xs, sx_two f g n, xa_assoc, xa_assoc, xa_left (xs n g)]
/-- A round's values at 0 and 1 are the sum. -/
theorem rnd_split {l : List Stp} {ts : List (List (Nat × Nat))} {m : Nat} (h : lenT ts (2 * m)) (ht : ltT ts) : xa (el (rnd l ts m) 0) (el (rnd l ts m) 1) = sv l ts (2 * m) := by
  rw [rnd_el l ts m (by omega), rnd_el l ts m (by unfold dgm; omega)]
  unfold sv
  rw [xs_pair, sx_two]
  congr 1
  · refine xs_congr m fun i hi => ?_
    rw [show pl 0 = (0, 0) from rfl, cor_bit h ht hi (by decide), Nat.add_zero]
  · refine xs_congr m fun i hi => ?_
    rw [show pl 1 = (0, 1) from rfl, cor_bit h ht hi (by decide)]
end Sc
end Go.Proofs.Ytfhojakhoobnhaa
