/- The polynomial of values at places, in words as the program has them, no Go in sight: factors, values, and what they are among polynomials. -/
import Derived.Test.YtcnbaoijgfaljaaLnP
import Derived.Test.YtcnbaoijgfaljaaCbA
import Derived.Test.YtcnbaoijgfaljaaSlD
import Derived.Test.YtcnbaoijgfaljaaTwIn
namespace Go.Proofs.Ytcnbaoijgfaljaa
theorem lof_iv {k ah al : Nat} (hk : k < 8) (ha : ofB (k : Int) (ah : Int) (al : Int) = true) : ofB (k : Int) (Tw.ivh ah al : Nat) (Tw.ivl ah al : Nat) = true := by
  rw [ofB_iff _ _ _ hk] at *
  rcases ha with h | ⟨rfl, h1⟩
  · exact .inl h
  · by_cases h7 : k = 7
    · exact .inl h7
    · right
      obtain ⟨e1, e0⟩ := Tw.iv_low k al (by omega) h1
      rw [e1, e0]
      exact ⟨rfl, Tw.ik_lt k al⟩
namespace Ln
open Cb (xa lt2 el ofE ofT lt_xa lt_pm lt_one lt_zero)
open Tw (pm)

def pl (i : Nat) : Nat × Nat := (0, i)
def iv (a : Nat × Nat) : Nat × Nat := (Tw.ivh a.1 a.2, Tw.ivl a.1 a.2)
def D (a : Nat × Nat) : F := Tw.d7 a.1 a.2
theorem D_pm (a b : Nat × Nat) : D (pm a b) = mu (D a) (D b) := Tw.d7_mul _ _ _ _
theorem D_xa (a b : Nat × Nat) : D (xa a b) = ad (D a) (D b) := Tw.d7_add _ _ _ _
theorem D_one : D (0, 1) = o := Tw.d7_one'
theorem D_zero : D (0, 0) = z := by
  show (Tw.dec 6 0, Tw.dec 6 0) = _
  rw [Tw.dec_zero]; rfl
theorem D_iv (a : Nat × Nat) : D (iv a) = Tw.inv 7 (D a) := Tw.d7_iv _ _
theorem D_inj {a b : Nat × Nat} (ha : lt2 a) (hb : lt2 b) (h : D a = D b) : a = b := by
  have := Tw.d7_inj ha.1 ha.2 hb.1 hb.2 h
  exact Prod.ext this.1 this.2
theorem lt_iv (a : Nat × Nat) : lt2 (iv a) := ⟨Tw.ivh_lt _ _, Tw.ivl_lt _ _⟩
theorem lt_pl {i : Nat} (h : i < 2 ^ 64) : lt2 (pl i) := ⟨Nat.two_pow_pos 64, h⟩
theorem pl_ne {i j : Nat} (hi : i < 2 ^ 64) (hj : j < 2 ^ 64) (h : D (pl i) = D (pl j)) : i = j := by
  have := D_inj (lt_pl hi) (lt_pl hj) h
  exact (Prod.mk.inj this).2
/-- The product over the first n but one. -/
def psv (m : Nat) (g : Nat → Nat × Nat) : Nat → Nat × Nat
  | 0 => (0, 1)
  | n + 1 => if n = m then psv m g n else pm (psv m g n) (g n)
theorem lt_psv (m : Nat) (g : Nat → Nat × Nat) : ∀ n, lt2 (psv m g n)
  | 0 => lt_one
  | n + 1 => by rw [psv]; split; exact lt_psv m g n; exact lt_pm _ _
theorem D_psv (m : Nat) (g : Nat → Nat × Nat) : ∀ n, D (psv m g n) = ps m (fun j => D (g j)) n
  | 0 => D_one
  | n + 1 => by
    rw [psv, ps]
    split
    · exact D_psv m g n
    · rw [D_pm, D_psv m g n]
theorem of_psv {k : Nat} (hk : k < 8) {m : Nat} {g : Nat → Nat × Nat} : ∀ {n : Nat}, (∀ j, j < n → ofE k (g j)) → ofE k (psv m g n)
  | 0, _ => of_one k hk
  | n + 1, h => by
    rw [psv]
    split
    · exact of_psv hk fun j hj => h j (by omega)
    · exact of_pm hk (of_psv hk fun j hj => h j (by omega)) (h n (by omega))
/-- What is above and below in the factor of the value number i at x. -/
def ov (i : Nat) (x : Nat × Nat) (n : Nat) : Nat × Nat := psv i (fun j => xa x (pl j)) n
def un (i : Nat) (n : Nat) : Nat × Nat := psv i (fun j => xa (pl i) (pl j)) n
def fcv (n i : Nat) (x : Nat × Nat) : Nat × Nat := pm (ov i x n) (iv (un i n))
theorem lt_fcv (n i : Nat) (x : Nat × Nat) : lt2 (fcv n i x) := lt_pm _ _
theorem D_fcv (n i : Nat) (x : Nat × Nat) : D (fcv n i x) = fc (fun j => D (pl j)) n i (D x) := by
  rw [fcv, D_pm, D_iv, ov, un, D_psv, D_psv, fc]
  congr 1
  · congr 1; funext j; exact D_xa _ _
  · congr 2; funext j; exact D_xa _ _
/-- The places 0 to n - 1 are of the level. -/
def plk (k n : Nat) : Prop := ∀ j, j < n → ofE k (pl j)
theorem of_ov {k n i : Nat} (hk : k < 8) (hp : plk k n) {x : Nat × Nat} (hx : ofE k x) {m : Nat} (hm : m ≤ n) : ofE k (ov i x m) := of_psv hk fun j hj => of_xor hk hx (hp j (by omega))
theorem of_un {k n i : Nat} (hk : k < 8) (hp : plk k n) (hi : i < n) {m : Nat} (hm : m ≤ n) : ofE k (un i m) := of_psv hk fun j hj => of_xor hk (hp i hi) (hp j (by omega))
theorem of_fcv {k n i : Nat} (hk : k < 8) (hp : plk k n) {x : Nat × Nat} (hx : ofE k x) (hi : i < n) : ofE k (fcv n i x) :=
  of_pm hk (of_ov hk hp hx (Nat.le_refl _)) (lof_iv hk (of_un hk hp hi (Nat.le_refl _)))
/-- The factors of all values, and the value at x. -/
def fcs (n : Nat) (x : Nat × Nat) : List (Nat × Nat) := (List.range n).map fun i => fcv n i x
theorem fcs_len (n : Nat) (x : Nat × Nat) : (fcs n x).length = n := by simp [fcs]
theorem fcs_el {n i : Nat} (x : Nat × Nat) (h : i < n) : el (fcs n x) i = fcv n i x := by simp [el, fcs, List.getD, h]
def atv (v : List (Nat × Nat)) (x : Nat × Nat) : Nat × Nat := dots v (fcs v.length x) v.length
theorem lt_atv (v : List (Nat × Nat)) (x : Nat × Nat) : lt2 (atv v x) := dots_lt _ _ _
theorem D_dots (es fs : List (Nat × Nat)) : ∀ n, D (dots es fs n) = sm (fun i => mu (D (el es i)) (D (el fs i))) n
  | 0 => D_zero
  | n + 1 => by
    rw [dots_succ, sm, ← D_dots es fs n, ← D_pm]
    exact D_xa (dots es fs n) (pm (es.getD n (0, 0)) (fs.getD n (0, 0)))
theorem of_dots {k : Nat} (hk : k < 8) {es fs : List (Nat × Nat)} (he : ∀ i, ofE k (el es i)) (hf : ∀ i, ofE k (el fs i)) : ∀ n, ofE k (dots es fs n)
  | 0 => of_zero k hk
  | n + 1 => by
    rw [dots_succ]
    exact of_xor hk (of_dots hk he hf n) (of_pm hk (he n) (hf n))
abbrev A (j : Nat) : F := D (pl j)
theorem A_inj {n : Nat} (h : n ≤ 2 ^ 64) : ∀ i j, i < n → j < n → A i = A j → i = j := fun i j hi hj => pl_ne (by omega) (by omega)
theorem D_atv (v : List (Nat × Nat)) (x : Nat × Nat) : D (atv v x) = lag A (fun i => D (el v i)) v.length (D x) := by
  rw [atv, D_dots, lag]
  exact sm_congr fun i hi => by rw [fcs_el x hi, D_fcv]
theorem of_fcs {k n : Nat} (hk : k < 8) (hp : plk k n) {x : Nat × Nat} (hx : ofE k x) (i : Nat) : ofE k (el (fcs n x) i) := by
  by_cases h : i < n
  · rw [fcs_el x h]; exact of_fcv hk hp hx h
  · have : el (fcs n x) i = (0, 0) := by simp [el, List.getD, List.getElem?_eq_none (show (fcs n x).length ≤ i by rw [fcs_len]; omega)]
    rw [this]; exact of_zero k hk
theorem of_atv {k : Nat} (hk : k < 8) {v : List (Nat × Nat)} {x : Nat × Nat} (hv : ofT k v) (hx : ofE k x) (hp : plk k v.length) : ofE k (atv v x) :=
  of_dots hk (fun i => hv.el hk i) (of_fcs hk hp hx) _
theorem ltE_fcs (n : Nat) (x : Nat × Nat) : ltE (fcs n x) := by
  intro e he
  simp only [fcs, List.mem_map, List.mem_range] at he
  obtain ⟨i, _, rfl⟩ := he
  exact lt_fcv n i x
/-- At each place the value is the one that was given. -/
theorem atv_place {v : List (Nat × Nat)} (hv : ltE v) {i : Nat} (hi : i < v.length) (hl : v.length ≤ 2 ^ 64) : atv v (pl i) = el v i := by
  refine D_inj (lt_atv _ _) (hv.at i) ?_
  rw [D_atv]
  exact lag_at hi (A_inj hl)
/-- Values go over sums and factors. -/
def comb (c : Nat × Nat) (v w : List (Nat × Nat)) : List (Nat × Nat) := (List.range v.length).map fun i => xa (el v i) (pm c (el w i))
theorem comb_len (c : Nat × Nat) (v w : List (Nat × Nat)) : (comb c v w).length = v.length := by simp [comb]
theorem comb_el {c : Nat × Nat} {v w : List (Nat × Nat)} {i : Nat} (h : i < v.length) : el (comb c v w) i = xa (el v i) (pm c (el w i)) := by simp [el, comb, List.getD, h]
theorem atv_comb {c : Nat × Nat} {v w : List (Nat × Nat)} (x : Nat × Nat) (h : w.length = v.length) : atv (comb c v w) x = xa (atv v x) (pm c (atv w x)) := by
  refine D_inj (lt_atv _ _) (lt_xa (lt_atv _ _) (lt_pm _ _)) ?_
  rw [D_xa, D_pm, D_atv, D_atv, D_atv, comb_len, h, ← lag_sum]
  rw [lag, lag]
  exact sm_congr fun i hi => by rw [comb_el hi, D_xa, D_pm]
/-- Two that differ agree at no more elements than their degree. -/
theorem atv_apart {v w : List (Nat × Nat)} (hv : ltE v) (hw : ltE w) (h : w.length = v.length) (hne : v ≠ w) (N : Nat) (hN : N ≤ 2 ^ 64) (hl : v.length ≤ 2 ^ 64) : cnt (fun i => decide (atv v (pl i) = atv w (pl i))) N ≤ v.length - 1 := by
  have hp := P.sum (lag_poly A (fun i => D (el v i)) v.length) (lag_poly A (fun i => D (el w i)) v.length)
  refine roots A N (A_inj hN) _ _ hp ?_ _ fun i hi hpi => ?_
  · refine Classical.byContradiction fun hno => hne (Cb.list_ext h.symm fun i hi => ?_)
    have h1 : ad (lag A (fun i => D (el v i)) v.length (A i)) (lag A (fun i => D (el w i)) v.length (A i)) = z := Classical.byContradiction fun hc => hno ⟨A i, hc⟩
    rw [lag_at hi (A_inj hl), lag_at hi (A_inj hl)] at h1
    exact D_inj (hv.at i) (hw.at i) (ad_eq h1)
  · have e := of_decide_eq_true hpi
    have := congrArg D e
    rw [D_atv, D_atv, h] at this
    show ad (lag A (fun i => D (el v i)) v.length (A i)) (lag A (fun i => D (el w i)) v.length (A i)) = z
    rw [this, ad_self]
theorem atv_cnt_same (v : List (Nat × Nat)) (N : Nat) : cnt (fun i => decide (atv v (pl i) = atv v (pl i))) N = N := cnt_all fun i _ => by simp
/-- The document's lines between polynomials of one value less. -/
def nvv (v : List (Nat × Nat)) (x : Nat × Nat) : Nat → Nat → Nat × Nat
  | 0, i => el v i
  | n + 1, i => pm (xa (pm (xa x (pl (i + (n + 1)))) (nvv v x n i)) (pm (xa x (pl i)) (nvv v x n (i + 1)))) (iv (xa (pl i) (pl (i + (n + 1)))))
theorem D_nvv (v : List (Nat × Nat)) (x : Nat × Nat) : ∀ n i, D (nvv v x n i) = nv A (fun i => D (el v i)) (D x) n i
  | 0, i => rfl
  | n + 1, i => by rw [nvv, nv, D_pm, D_xa, D_pm, D_pm, D_xa, D_xa, D_iv, D_xa, D_nvv v x n i, D_nvv v x n (i + 1)]
theorem lt_nvv {v : List (Nat × Nat)} (hv : ltE v) (x : Nat × Nat) : ∀ n i, lt2 (nvv v x n i)
  | 0, i => hv.at i
  | _ + 1, _ => lt_pm _ _
theorem nvv_atv {v : List (Nat × Nat)} (hv : ltE v) (x : Nat × Nat) {n : Nat} (h : v.length = n + 1) (hn : n < 2 ^ 64) : nvv v x n 0 = atv v x := by
  refine D_inj (lt_nvv hv x n 0) (lt_atv _ _) ?_
  rw [D_nvv, D_atv, h]
  exact nv_lag A _ n (A_inj (by omega)) (D x)
end Ln
end Go.Proofs.Ytcnbaoijgfaljaa
