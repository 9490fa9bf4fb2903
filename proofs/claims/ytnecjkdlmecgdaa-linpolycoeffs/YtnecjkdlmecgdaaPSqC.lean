/- The polynomials of a space, no Go in sight: points, values by products and by tops, zeros, coefficients. -/
import Derived.Test.YtnecjkdlmecgdaaPSqG
import Derived.Test.YtnecjkdlmecgdaaLpL
import Derived.Test.YtnecjkdlmecgdaaPLpO
namespace Go.Proofs.Ytnecjkdlmecgdaa
open Go.RowKit
open Cb Rg Sq
open Tw (pm)
namespace Lq

/-- The points of the first so many of a basis, with a shift. -/
def pts (bs : List (Nat × Nat)) (s : Nat × Nat) : Nat → List (Nat × Nat)
  | 0 => [s]
  | i + 1 => pts bs s i ++ (pts bs s i).map fun p => xa p (el bs i)
theorem pts_len (bs : List (Nat × Nat)) (s : Nat × Nat) : ∀ i, (pts bs s i).length = 2 ^ i
  | 0 => rfl
  | i + 1 => by
    show (pts bs s i ++ _).length = _
    rw [List.length_append, List.length_map, pts_len bs s i, Nat.pow_succ]; omega
theorem lt_pts {bs : List (Nat × Nat)} (hb : ltE bs) {s : Nat × Nat} (hs' : lt2 s) : ∀ i, ltE (pts bs s i)
  | 0 => fun e he => by rw [List.mem_singleton.1 he]; exact hs'
  | i + 1 => fun e he => by
    rcases List.mem_append.1 he with h | h
    · exact lt_pts hb hs' i e h
    · obtain ⟨p, hp, rfl⟩ := List.mem_map.1 h
      exact lt_xa (lt_pts hb hs' i p hp) (ltE_el hb i)
theorem el_app1 {a b : List (Nat × Nat)} {j : Nat} (h : j < a.length) : el (a ++ b) j = el a j := by
  simp [el, List.getD, List.getElem?_append_left h]
theorem el_app2 {a b : List (Nat × Nat)} {j : Nat} (h : a.length ≤ j) : el (a ++ b) j = el b (j - a.length) := by
  simp [el, List.getD, List.getElem?_append_right h]
theorem el_map {a : List (Nat × Nat)} {f : Nat × Nat → Nat × Nat} {j : Nat} (h : j < a.length) : el (a.map f) j = f (el a j) := by
  simp [el, List.getD, h]
theorem ptv_high (bs : List (Nat × Nat)) (j n : Nat) (h : j < 2 ^ n) : ∀ d, ptv bs j (n + d) = ptv bs j n
  | 0 => rfl
  | d + 1 => by
    have e : j / 2 ^ (n + d) = 0 := Nat.div_eq_of_lt (Nat.lt_of_lt_of_le h (Nat.pow_le_pow_right (by decide) (by omega)))
    show (if (j / 2 ^ (n + d) % 2 == 1) = true then _ else ptv bs j (n + d)) = _
    rw [e, if_neg (by decide), ptv_high bs j n h d]
theorem ptv_low (bs : List (Nat × Nat)) (j n : Nat) : ∀ m, m ≤ n → ptv bs (j + 2 ^ n) m = ptv bs j m
  | 0, _ => rfl
  | m + 1, h => by
    have e : (j + 2 ^ n) / 2 ^ m % 2 = j / 2 ^ m % 2 := by
      obtain ⟨d, rfl⟩ : ∃ d, n = m + (d + 1) := ⟨n - (m + 1), by omega⟩
      rw [Nat.pow_add, Nat.add_mul_div_left _ _ (Nat.two_pow_pos m), Nat.pow_succ, Nat.add_mul_mod_self_right]
    unfold ptv
    rw [e, ptv_low bs j n m (by omega)]
/-- A point is the sum of those whose bit its number has. -/
theorem pts_at (bs : List (Nat × Nat)) (s : Nat × Nat) : ∀ i j, j < 2 ^ i → el (pts bs s i) j = xa (ptv bs j i) s
  | 0, j, h => by
    obtain rfl : j = 0 := by simpa using h
    show s = xa (0, 0) s
    exact (zero_xa s).symm
  | i + 1, j, h => by
    show el (pts bs s i ++ _) j = _
    have hl := pts_len bs s i
    by_cases hj : j < 2 ^ i
    · rw [el_app1 (by omega), pts_at bs s i j hj, ptv_high bs j i hj 1]
    · obtain ⟨q, rfl⟩ : ∃ q, j = q + 2 ^ i := ⟨j - 2 ^ i, by omega⟩
      have hq : q < 2 ^ i := by rw [Nat.pow_succ] at h; omega
      rw [el_app2 (by omega), hl, Nat.add_sub_cancel, el_map (by omega), pts_at bs s i q hq]
      have e : (q + 2 ^ i) / 2 ^ i % 2 = 1 := by
        rw [Nat.add_div_right _ (Nat.two_pow_pos i), Nat.div_eq_of_lt hq]
      have e2 : ptv bs (q + 2 ^ i) (i + 1) = xa (ptv bs (q + 2 ^ i) i) (el bs i) := by
        show (if ((q + 2 ^ i) / 2 ^ i % 2 == 1) = true then _ else _) = _
        rw [e, if_pos (by decide)]; rfl
      rw [e2, ptv_low bs q i i (Nat.le_refl _), xa_assoc, xa_assoc, xa_comm s]
/-- A product of factors, from a first one. -/
def fp (g : Nat × Nat → Nat × Nat) (l : List (Nat × Nat)) (o : Nat × Nat) : Nat × Nat := l.foldl (fun o u => pm o (g u)) o
theorem fp_out (g : Nat × Nat → Nat × Nat) : ∀ (l : List (Nat × Nat)) (o : Nat × Nat), lt2 o → fp g l o = pm o (fp g l (0, 1))
  | [], o, h => (pm_one h).symm
  | a :: l, o, h => by
    show fp g l (pm o (g a)) = pm o (fp g l (pm (0, 1) (g a)))
    rw [fp_out g l _ (lt_pm _ _), fp_out g l (pm (0, 1) (g a)) (lt_pm _ _), ← Tw.pm_assoc', ← Tw.pm_assoc', pm_one h]
theorem fp_lt (g : Nat × Nat → Nat × Nat) : ∀ (l : List (Nat × Nat)) (o : Nat × Nat), lt2 o → lt2 (fp g l o)
  | [], _, h => h
  | _ :: l, _, _ => fp_lt g l _ (lt_pm _ _)
/-- W: the product over all points. -/
def vw (bs : List (Nat × Nat)) (i : Nat) (x : Nat × Nat) : Nat × Nat := fp (xa x) (pts bs (0, 0) i) (0, 1)
theorem lt_vw (bs : List (Nat × Nat)) (i : Nat) (x : Nat × Nat) : lt2 (vw bs i x) := fp_lt _ _ _ lt_one
theorem vw_zero0 (bs : List (Nat × Nat)) {x : Nat × Nat} (h : lt2 x) : vw bs 0 x = x := by
  show pm (0, 1) (xa x (0, 0)) = x
  rw [xa_zero, one_pm h]
theorem fp_map (f g : Nat × Nat → Nat × Nat) (l : List (Nat × Nat)) (o : Nat × Nat) : fp g (l.map f) o = fp (fun u => g (f u)) l o := by
  unfold fp; rw [List.foldl_map]
theorem vw_split (bs : List (Nat × Nat)) (i : Nat) (x : Nat × Nat) : vw bs (i + 1) x = pm (vw bs i x) (vw bs i (xa x (el bs i))) := by
  have e : vw bs (i + 1) x = fp (xa x) ((pts bs (0, 0) i).map fun p => xa p (el bs i)) (vw bs i x) := List.foldl_append ..
  rw [e, fp_map, fp_out _ _ _ (lt_vw bs i x)]
  have e2 : (fun u => xa x (xa u (el bs i))) = xa (xa x (el bs i)) := funext fun u => by rw [xa_assoc, xa_comm u]
  rw [e2]; rfl
theorem sq_xa (a b : Nat × Nat) : pm (xa a b) (xa a b) = xa (pm a a) (pm b b) := Prod.ext (Tw.pm_sq_add _ _ _ _).1 (Tw.pm_sq_add _ _ _ _).2
theorem vw_add {bs : List (Nat × Nat)} (hb : ltE bs) : ∀ i {x y : Nat × Nat}, lt2 x → lt2 y → vw bs i (xa x y) = xa (vw bs i x) (vw bs i y)
  | 0, x, y, hx, hy => by rw [vw_zero0 bs (lt_xa hx hy), vw_zero0 bs hx, vw_zero0 bs hy]
  | i + 1, x, y, hx, hy => by
    have hl := ltE_el hb i
    rw [vw_split, vw_split, vw_split, vw_add hb i (lt_xa hx hy) hl, vw_add hb i hx hl, vw_add hb i hy hl, vw_add hb i hx hy]
    generalize vw bs i x = a
    generalize vw bs i y = b
    generalize vw bs i (el bs i) = t
    rw [pm_xa (xa a b) (xa a b) t, sq_xa, xa_pm t a b, pm_xa a a t, pm_xa b b t]
    simp only [xa_assoc, xa_left]
theorem vw_step {bs : List (Nat × Nat)} (hb : ltE bs) (i : Nat) {x : Nat × Nat} (hx : lt2 x) : vw bs (i + 1) x = pm (vw bs i x) (xa (vw bs i x) (vw bs i (el bs i))) := by
  rw [vw_split, vw_add hb i hx (ltE_el hb i)]
theorem pm_none2 {z y : Nat × Nat} (lz : lt2 z) (ly : lt2 y) (h : pm z y = (0, 0)) : z = (0, 0) ∨ y = (0, 0) := by
  by_cases hz : z = (0, 0)
  · exact .inl hz
  · refine .inr ?_
    have ext : ∀ {a b : Nat × Nat}, lt2 a → lt2 b → Tw.d7 a.1 a.2 = Tw.d7 b.1 b.2 → a = b := fun ha hb h => Prod.ext (Tw.d7_inj ha.1 ha.2 hb.1 hb.2 h).1 (Tw.d7_inj ha.1 ha.2 hb.1 hb.2 h).2
    have hz' : Tw.d7 z.1 z.2 ≠ Tw.zero 7 := fun e => hz (ext lz lt_zero (e.trans Tw.d7_zero.symm))
    have e : Tw.mul 7 (Tw.d7 z.1 z.2) (Tw.d7 y.1 y.2) = Tw.mul 7 (Tw.d7 z.1 z.2) (Tw.zero 7) := by
      rw [Tw.mul_zero, ← Tw.d7_mul]
      have : Tw.d7 (pm z y).1 (pm z y).2 = Tw.zero 7 := by rw [h]; exact Tw.d7_zero
      exact this
    exact ext ly lt_zero ((Tw.cancel hz' e).trans Tw.d7_zero.symm)
theorem xa_none {a b : Nat × Nat} (h : xa a b = (0, 0)) : a = b := by
  have := xa_back b a
  rw [xa_comm b a, h, xa_zero] at this
  exact this.symm
/-- W is zero just on its space. -/
theorem vw_none {bs : List (Nat × Nat)} (hb : ltE bs) : ∀ i, i ≤ bs.length → ∀ {x : Nat × Nat}, lt2 x → (vw bs i x = (0, 0) ↔ Sp (bs.take i) x)
  | 0, _, x, hx => by rw [vw_zero0 bs hx]; exact Iff.rfl
  | i + 1, h, x, hx => by
    have hl := ltE_el hb i
    rw [vw_split, take_el (by omega), sp_snoc, ← vw_none hb i (by omega) hx, ← vw_none hb i (by omega) (lt_xa hx hl)]
    refine ⟨pm_none2 (lt_vw _ _ _) (lt_vw _ _ _), fun e => ?_⟩
    rcases e with e | e <;> rw [e]
    · exact zero_pm _
    · exact pm_zero _
/-- One that is in the span of those ahead of it: not new. -/
def Free (bs : List (Nat × Nat)) (n : Nat) : Prop := ∀ i, i < n → ¬ Sp (bs.take i) (el bs i)
theorem elm_free {l : List (Nat × Nat)} (hl : ltE l) : ∀ i, i ≤ l.length → (elm l i).1.length ≤ i ∧ ((elm l i).1.length = i ↔ Free l i)
  | 0, _ => ⟨Nat.le_refl _, ⟨fun _ i h => by omega, fun _ => rfl⟩⟩
  | i + 1, h => by
    have ih := elm_free hl i (by omega)
    have E := elm_ei hl i (by omega)
    have er := redv_all (elm l i).1 (el l i)
    show (stp (elm l i) i (el l i)).1.length ≤ _ ∧ ((stp (elm l i) i (el l i)).1.length = _ ↔ _)
    unfold stp
    simp only
    by_cases c : (redv (elm l i).1 (el l i) (elm l i).1.length).1 = (0, 0)
    · rw [if_pos c]
      have : Sp (l.take i) (el l i) := (E.eqs _).1 ((red_iff E.rr _).2 (er ▸ c))
      exact ⟨by omega, ⟨fun e => by omega, fun f => absurd this (f i (by omega))⟩⟩
    · rw [if_neg c]
      show (more _ _).length ≤ _ ∧ ((more _ _).length = _ ↔ _)
      rw [more_len]
      refine ⟨by omega, ⟨fun e j hj => ?_, fun f => ?_⟩⟩
      · by_cases hji : j < i
        · exact (ih.2.1 (by omega)) j hji
        · obtain rfl : j = i := by omega
          exact fun s => c (er ▸ (red_iff E.rr _).1 ((E.eqs _).2 s))
      · have := ih.2.2 fun j hj => f j (by omega)
        omega
theorem rb_free {l : List (Nat × Nat)} (hl : ltE l) : (rb l).length ≤ l.length ∧ ((rb l).length = l.length ↔ Free l l.length) := by
  rw [← elm_len hl]; exact elm_free hl _ (Nat.le_refl _)
/-- The tops and values of a space of elements of a level. -/
theorem of_vw {k : Nat} (hk : k < 8) {bs : List (Nat × Nat)} (ob : ofT k bs) (hb : ltE bs) : ∀ i {x : Nat × Nat}, lt2 x → ofE k x → ofE k (vw bs i x)
  | 0, x, hx, ox => by rw [vw_zero0 bs hx]; exact ox
  | i + 1, x, hx, ox => by
    rw [vw_step hb i hx]
    exact of_pm hk (of_vw hk ob hb i hx ox) (of_xor hk (of_vw hk ob hb i hx ox) (of_vw hk ob hb i (ltE_el hb i) (ob.el hk i)))
theorem wv_vw {k : Nat} (hk : k < 8) {bs ts : List (Nat × Nat)} (ob : ofT k bs) (hb : ltE bs) (hT : TopsOk (k : Int) ts bs) : ∀ i, i ≤ ts.length → ∀ {x : Nat × Nat}, lt2 x → ofE k x → wv (k : Int) ts x i = vw bs i x
  | 0, _, x, hx, _ => (vw_zero0 bs hx).symm
  | i + 1, h, x, hx, ox => by
    have e1 := wv_vw hk ob hb hT i (by omega) hx ox
    have e2 : el ts i = vw bs i (el bs i) := (hT i h).trans (wv_vw hk ob hb hT i (by omega) (ltE_el hb i) (ob.el hk i))
    have e3 : wv (k : Int) ts x (i + 1) = mulv (k : Int) (wv (k : Int) ts x i) (xa (wv (k : Int) ts x i) (el ts i)) := rfl
    rw [e3, e1, e2, vw_step hb i hx]
    have o1 := of_vw hk ob hb i hx ox
    have o2 := of_vw hk ob hb i (ltE_el hb i) (ob.el hk i)
    unfold mulv
    exact if_pos ⟨o1, of_xor hk o1 o2⟩
theorem top_vw {k : Nat} (hk : k < 8) {bs ts : List (Nat × Nat)} (ob : ofT k bs) (hb : ltE bs) (hT : TopsOk (k : Int) ts bs) {i : Nat} (h : i < ts.length) : el ts i = vw bs i (el bs i) :=
  (hT i h).trans (wv_vw hk ob hb hT i (by omega) (ltE_el hb i) (ob.el hk i))
/-- A sum of powers of powers of 2. -/
def sqn (x : Nat × Nat) : Nat → Nat × Nat
  | 0 => x
  | n + 1 => pm (sqn x n) (sqn x n)
theorem lt_sqn {x : Nat × Nat} (h : lt2 x) : ∀ n, lt2 (sqn x n)
  | 0 => h
  | _ + 1 => lt_pm _ _
theorem of_sqn {k : Nat} (hk : k < 8) {x : Nat × Nat} (h : ofE k x) : ∀ n, ofE k (sqn x n)
  | 0 => h
  | n + 1 => of_pm hk (of_sqn hk h n) (of_sqn hk h n)
def ev (c : List (Nat × Nat)) (x : Nat × Nat) (n : Nat) : Nat × Nat := xs n fun j => pm (el c j) (sqn x j)
/-- The next coefficients. -/
def nc (c : List (Nat × Nat)) (t : Nat × Nat) (j : Nat) : Nat × Nat := if j = 0 then pm (el c 0) t else xa (pm (el c j) t) (pm (el c (j - 1)) (el c (j - 1)))
def cf (ts : List (Nat × Nat)) : Nat → List (Nat × Nat)
  | 0 => [(0, 1)]
  | i + 1 => (List.range (i + 2)).map (nc (cf ts i) (el ts i))
theorem cf_len (ts : List (Nat × Nat)) : ∀ i, (cf ts i).length = i + 1
  | 0 => rfl
  | i + 1 => by simp [cf]
theorem cf_at (ts : List (Nat × Nat)) (i j : Nat) (h : j < i + 2) : el (cf ts (i + 1)) j = nc (cf ts i) (el ts i) j := by
  simp [el, List.getD, cf, h]
theorem lt_nc (c : List (Nat × Nat)) (t : Nat × Nat) (j : Nat) : lt2 (nc c t j) := by
  unfold nc; split
  · exact lt_pm _ _
  · exact lt_xa (lt_pm _ _) (lt_pm _ _)
theorem lt_cf (ts : List (Nat × Nat)) : ∀ i, ltE (cf ts i)
  | 0 => fun e he => by rw [List.mem_singleton.1 he]; exact lt_one
  | i + 1 => fun e he => by
    obtain ⟨j, _, rfl⟩ := List.mem_map.1 he
    exact lt_nc _ _ _
theorem of_nc {k : Nat} (hk : k < 8) {c : List (Nat × Nat)} (oc : ofT k c) {t : Nat × Nat} (ot : ofE k t) (j : Nat) : ofE k (nc c t j) := by
  unfold nc; split
  · exact of_pm hk (oc.el hk _) ot
  · exact of_xor hk (of_pm hk (oc.el hk _) ot) (of_pm hk (oc.el hk _) (oc.el hk _))
theorem of_cf {k : Nat} (hk : k < 8) {ts : List (Nat × Nat)} (ot : ofT k ts) : ∀ i, ofT k (cf ts i)
  | 0 => fun e he => by rw [List.mem_singleton.1 he]; exact of_one k hk
  | i + 1 => fun e he => by
    obtain ⟨j, _, rfl⟩ := List.mem_map.1 he
    exact of_nc hk (of_cf hk ot i) (ot.el hk i) j
/-- The last one is 1. -/
theorem cf_last (ts : List (Nat × Nat)) : ∀ i, el (cf ts i) i = (0, 1)
  | 0 => rfl
  | i + 1 => by
    rw [cf_at ts i (i + 1) (by omega)]
    unfold nc
    rw [if_neg (by omega), Nat.add_sub_cancel, cf_last ts i, el_ge (by rw [cf_len]; omega), zero_pm, zero_xa, pm_one lt_one]
theorem xs_first (f : Nat → Nat × Nat) : ∀ n, xs (n + 1) f = xa (f 0) (xs n fun i => f (i + 1))
  | 0 => by simp only [xs]; rw [zero_xa, xa_zero]
  | n + 1 => by
    show xa (xs (n + 1) f) (f (n + 1)) = _
    rw [xs_first f n, xa_assoc]; rfl
theorem xs_sq (f : Nat → Nat × Nat) : ∀ n, pm (xs n f) (xs n f) = xs n fun i => pm (f i) (f i)
  | 0 => zero_pm _
  | n + 1 => by simp only [xs]; rw [sq_xa, xs_sq f n]
theorem pm_sq (a b : Nat × Nat) : pm (pm a b) (pm a b) = pm (pm a a) (pm b b) := by
  rw [Tw.pm_assoc', Tw.pm_assoc', pm_left b a b]
theorem xs_last (f : Nat → Nat × Nat) (n : Nat) : xs (n + 1) f = xa (xs n f) (f n) := rfl
theorem ev_a {c : List (Nat × Nat)} {i : Nat} (h : c.length = i + 1) (t x : Nat × Nat) : (xs (i + 1 + 1) fun j => pm (pm (el c j) t) (sqn x j)) = pm (ev c x (i + 1)) t := by
  rw [xs_last, el_ge (l := c) (i := i + 1) (by omega), zero_pm, zero_pm, xa_zero]
  unfold ev
  rw [xs_pm]
  refine xs_congr _ fun j _ => ?_
  rw [Tw.pm_assoc', Tw.pm_assoc', Tw.pm_comm' t]
theorem ev_b (c : List (Nat × Nat)) (i : Nat) (x : Nat × Nat) : (xs (i + 1 + 1) fun j => if j = 0 then (0, 0) else pm (pm (el c (j - 1)) (el c (j - 1))) (sqn x j)) = pm (ev c x (i + 1)) (ev c x (i + 1)) := by
  rw [xs_first, if_pos rfl, zero_xa]
  unfold ev
  rw [xs_sq]
  refine xs_congr _ fun j _ => ?_
  rw [if_neg (by omega), Nat.add_sub_cancel, pm_sq]
  rfl
theorem ev_next (ts : List (Nat × Nat)) (i : Nat) (x : Nat × Nat) : ev (cf ts (i + 1)) x (i + 1 + 1) = xa (pm (ev (cf ts i) x (i + 1)) (el ts i)) (pm (ev (cf ts i) x (i + 1)) (ev (cf ts i) x (i + 1))) := by
  rw [← ev_a (cf_len ts i), ← ev_b, ← xs_two]
  unfold ev
  refine xs_congr _ fun j hj => ?_
  rw [cf_at ts i j hj]
  unfold nc
  by_cases h0 : j = 0
  · rw [if_pos h0, if_pos h0, xa_zero, h0]
  · rw [if_neg h0, if_neg h0, xa_pm]
theorem ev_cf {k : Nat} (hk : k < 8) {bs ts : List (Nat × Nat)} (ob : ofT k bs) (hb : ltE bs) (hT : TopsOk (k : Int) ts bs) : ∀ i, i ≤ ts.length → ∀ {x : Nat × Nat}, lt2 x → ev (cf ts i) x (i + 1) = vw bs i x
  | 0, _, x, hx => by
    rw [vw_zero0 bs hx]
    show xa (0, 0) (pm (0, 1) x) = x
    rw [zero_xa, one_pm hx]
  | i + 1, h, x, hx => by
    rw [vw_step hb i hx, pm_xa, xa_comm, ← top_vw hk ob hb hT h, ← ev_cf hk ob hb hT i (by omega) hx]
    exact ev_next ts i x
end Lq
end Go.Proofs.Ytnecjkdlmecgdaa

/- The contract of span's add over any rows, over the seat's translation. -/
namespace Go.Proofs.Ytnecjkdlmecgdaa
open Go.RowKit
open Sq

set_option maxHeartbeats 8000000 in
set_option maxRecDepth 100000 in
theorem sadd_none (B sh sl oh ol : Nat) (L : Int) (v : Value) (W : World) (hB : B < W.heap.size) (c0 : W.cell? ⟨B, 0, none⟩ = some (.slice none 0 0)) (f0 : W.frozen? ⟨B, 0, none⟩ = false) (c1 : W.cell? ⟨B, 1, none⟩ = some v) (f1 : W.frozen? ⟨B, 1, none⟩ = false)
    (HL : Ret 75 #[.agg #[.int .u64 (sh : Int), .int .u64 (sl : Int)]] (.int .i64 L)) :
    Calls Try.prog 72 #[.pointer (some ⟨B, 0, none⟩), .agg #[.int .u64 (sh : Int), .int .u64 (sl : Int), .int .u64 (oh : Int), .int .u64 (ol : Int)]] W fun e w' => ∃ v', e = .returned (.tuple #[]) ∧ w'.cell? ⟨B, 0, none⟩ = some v' ∧ w'.frozen? ⟨B, 0, none⟩ = false ∧ w'.cell? ⟨B, 1, none⟩ = some v ∧ w'.frozen? ⟨B, 1, none⟩ = false ∧ w'.ownsRow (B + 1) 103 4 v' 1 (flatR [((sh, sl), (oh, ol))]) ∧ (∃ g', v'.ownBlock = some g' ∧ W.heap.size ≤ g') ∧ Below B W w' ∧ ∀ k, k < W.heap.size → k ≠ B → w'.heap[k]? = W.heap[k]? := by
  have hne : ¬ W.heap.size = B ∧ ¬ B = W.heap.size := by omega
  have HK : Hid (W.cell? ⟨B, 0, none⟩ = some (.slice none 0 0) ∧ W.frozen? ⟨B, 0, none⟩ = false ∧ W.cell? ⟨B, 1, none⟩ = some v ∧ W.frozen? ⟨B, 1, none⟩ = false) := ⟨c0, f0, c1, f1⟩
  obtain ⟨i0, hi, hz0, hz1, hz2⟩ := info_srow
  have HN : Hid (Try.prog.info? 103 = some i0 ∧ i0.zero = some (.agg #[.int .u64 0, .int .u64 0, .int .u64 0, .int .u64 0]) ∧ i0.size = 4 ∧ i0.bytes = 32) := ⟨hi, hz0, hz1, hz2⟩
  clear c0 f0 c1 f1 hi hz0 hz1 hz2
  go_enter Try.func72, Try.ntmps72
  go_wp2_with fail
  refine (HL.go _).mono ?_
  rintro e w1 ⟨rfl, hb1⟩
  have D1 : Below W.heap.size W w1 := ((Below.refl _ _).alloc (Nat.le_refl _) _).trans (hb1.mono (by simp <;> omega))
  have r0 : w1.cell? ⟨W.heap.size, 0, none⟩ = some (.int .u64 (sh : Int)) := keepc hb1 (by simp [go_sem])
  have r1 : w1.cell? ⟨W.heap.size, 1, none⟩ = some (.int .u64 (sl : Int)) := keepc hb1 (by simp [go_sem])
  have r2 : w1.cell? ⟨W.heap.size, 2, none⟩ = some (.int .u64 (oh : Int)) := keepc hb1 (by simp [go_sem])
  have r3 : w1.cell? ⟨W.heap.size, 3, none⟩ = some (.int .u64 (ol : Int)) := keepc hb1 (by simp [go_sem])
  have e0 : w1.cell? ⟨B, 0, none⟩ = some (.slice none 0 0) := keepc D1 HK.out.1
  have hw1 : W.heap.size < w1.heap.size := cell_lt r0
  clear hb1
  go_wp2_with fail
  go_rounds 1
  go_upto_region 9 with fail
  refine wp_region_noPanic ?_
  refine wp_region_peel (S := fun w => w.cell? ⟨B, 0, none⟩ = some (.slice none 0 0) ∧ w.cell? ⟨W.heap.size, 0, none⟩ = some (.int .u64 (sh : Int)) ∧ w.cell? ⟨W.heap.size, 1, none⟩ = some (.int .u64 (sl : Int)) ∧ w.cell? ⟨W.heap.size, 2, none⟩ = some (.int .u64 (oh : Int)) ∧ w.cell? ⟨W.heap.size, 3, none⟩ = some (.int .u64 (ol : Int))) 10 (by kernel_rfl) rfl (by kernel_rfl) ?_ (fun hHeld => ?_)
  · exact ⟨e0, r0, r1, r2, r3⟩
  refine wpAnyH_take (i := 0) (oi := _) (v := ?_) rfl (by kernel_rfl) (by kernel_rfl) (by kernel_rfl) (fun _ _ _ h => h) (Or.inl ⟨by rfl, ?_⟩) (by assumption) ?_
  rotate_left
  · ((intro w hSw; (try dsimp only at hSw); go_simp) <;> (try with_reducible rfl))
  try simp only [Act.put]
  refine wpAnyH_take (i := 1) (oi := _) (v := ?_) rfl (by kernel_rfl) (by kernel_rfl) (by kernel_rfl) (fun _ _ _ h => h) (Or.inl ⟨by rfl, ?_⟩) (by assumption) ?_
  rotate_left
  · ((intro w hSw; (try dsimp only at hSw); go_simp) <;> (try with_reducible rfl))
  try simp only [Act.put]
  refine wpAnyH_take (i := 2) (oi := _) (v := ?_) rfl (by kernel_rfl) (by kernel_rfl) (by kernel_rfl) (fun _ _ _ h => h) (Or.inl ⟨by rfl, ?_⟩) (by assumption) ?_
  rotate_left
  · ((intro w hSw; (try dsimp only at hSw); go_simp) <;> (try with_reducible rfl))
  try simp only [Act.put]
  refine wpAnyH_take (i := 3) (oi := _) (v := ?_) rfl (by kernel_rfl) (by kernel_rfl) (by kernel_rfl) (fun _ _ _ h => h) (Or.inl ⟨by rfl, ?_⟩) (by assumption) ?_
  rotate_left
  · ((intro w hSw; (try dsimp only at hSw); go_simp) <;> (try with_reducible rfl))
  try simp only [Act.put]
  refine wpAnyH_take (i := 4) (oi := _) (v := ?_) rfl (by kernel_rfl) (by kernel_rfl) (by kernel_rfl) (fun _ _ _ h => h) (Or.inl ⟨by rfl, ?_⟩) (by assumption) ?_
  rotate_left
  · ((intro w hSw; (try dsimp only at hSw); go_simp) <;> (try with_reducible rfl))
  try simp only [Act.put]
  refine wpAnyH_take (i := 5) (oi := _) (v := ?_) rfl (by kernel_rfl) (by kernel_rfl) (by kernel_rfl) (fun _ _ _ h => h) (Or.inl ⟨by rfl, ?_⟩) (by assumption) ?_
  rotate_left
  · ((intro w hSw; (try dsimp only at hSw); go_simp) <;> (try with_reducible rfl))
  try simp only [Act.put]
  refine wpAnyH_ready (rs := [6]) (by kernel_rfl) (by simp) ?_
  refine AllReadyH.cons (o := _) rfl (fun KK hKK => ?_) AllReadyH.nil
  go_simp
  refine hKK.out _ _ ?_ (fun hHeld => ?_)
  · go_keep
  clear hKK KK
  try simp only [Act.put]
  refine wpAnyH_ready (rs := [7]) (by kernel_rfl) (by simp) ?_
  refine AllReadyH.cons (o := _) rfl (fun KK hKK => ?_) AllReadyH.nil
  simp only [Array.getElem_pop, List.getElem_toArray, List.getElem_cons_succ, List.getElem_cons_zero]
  rw [if_pos (by rfl)]
  refine wp_append_own _ _ _ 86 rfl (W.heap.size + 1) 103 i0 (.agg #[.int .u64 0, .int .u64 0, .int .u64 0, .int .u64 0]) 4 32 Try.underlying86 HN.out.1 HN.out.2.1 HN.out.2.2.1 HN.out.2.2.2 rfl (by decide) (.slice none 0 0) 0 [] rfl (World.ownsRow_nil _ _ _ _) ⟨w1.heap.size, 0, none⟩ 1 1 [.int .u64 (sh : Int), .int .u64 (sl : Int), .int .u64 (oh : Int), .int .u64 (ol : Int)] rfl rfl ?_ ?_ (by decide) (by decide) ?_ ?_
  · exact fun p u hu => by rcases p with _ | _ | _ | _ | p <;> simp at hu <;> subst hu <;> simp [go_sem]
  · intro u hu; simp at hu; rcases hu with rfl | rfl | rfl | rfl <;> rfl
  · simp; omega
  intro v' w' hown hgr _
  have BB : Below w1.heap.size w1 w' := ((Below.refl _ _).drew.alloc (Nat.le_refl _) _).grown hgr (by simp) (fun k hk => by simp [Value.ownBlock] at hk)
  obtain ⟨a2, c2, rfl, HG⟩ : ∃ a c, v' = .slice a 1 c ∧ ∃ g', v'.ownBlock = some g' ∧ W.heap.size ≤ g' := by
    rcases hown.2 with ⟨_, h0⟩ | ⟨g, cap, cur, rfl, hbb, _⟩
    · omega
    · exact ⟨_, _, rfl, g, rfl, by omega⟩
  refine hKK.out _ _ ?_ (fun hHeld => ?_)
  · exact ⟨keepc BB e0, keepc BB r0, keepc BB r1, keepc BB r2, keepc BB r3⟩
  clear hKK KK
  try simp only [Act.put]
  refine wpAnyH_take (i := 8) (oi := _) (v := ?_) rfl (by kernel_rfl) (by kernel_rfl) (by kernel_rfl) (fun _ _ _ h => h) (Or.inl ⟨by rfl, ?_⟩) (by assumption) ?_
  rotate_left
  · ((intro w hSw; (try dsimp only at hSw); go_simp) <;> (try with_reducible rfl))
  try simp only [Act.put]
  refine wpAnyH_take (i := 9) (oi := _) (v := ?_) rfl (by kernel_rfl) (by kernel_rfl) (by kernel_rfl) (fun _ _ _ h => h) (Or.inl ⟨by rfl, ?_⟩) (by assumption) ?_
  rotate_left
  · ((intro w hSw; (try dsimp only at hSw); go_simp) <;> (try with_reducible rfl))
  try simp only [Act.put]
  refine wpAnyH_done (by kernel_rfl) ?_ _
  refine peel_last rfl (fun KK hKK => ?_)
  have BW : Below W.heap.size W w' := D1.trans (BB.mono D1.size)
  have e0' := keepc BW HK.out.1
  have g0' := keepf BW HK.out.1 HK.out.2.1
  have e1' := keepc BW HK.out.2.2.1
  have g1' := keepf BW HK.out.2.2.1 HK.out.2.2.2
  have y0 : w'.frozen? ⟨B, 0, none⟩ = false := keepf BW HK.out.1 HK.out.2.1
  have hown2 := own_base hown (show B + 1 ≤ W.heap.size + 1 by omega)
  have F : Hid ((w'.setCell ⟨B, 0, none⟩ (.slice a2 1 c2)).cell? ⟨B, 0, none⟩ = some (.slice a2 1 c2) ∧ (w'.setCell ⟨B, 0, none⟩ (.slice a2 1 c2)).frozen? ⟨B, 0, none⟩ = false ∧ (w'.setCell ⟨B, 0, none⟩ (.slice a2 1 c2)).cell? ⟨B, 1, none⟩ = some v ∧ (w'.setCell ⟨B, 0, none⟩ (.slice a2 1 c2)).frozen? ⟨B, 1, none⟩ = false ∧ (w'.setCell ⟨B, 0, none⟩ (.slice a2 1 c2)).ownsRow (B + 1) 103 4 (.slice a2 1 c2) 1 (flatR [((sh, sl), (oh, ol))]) ∧ (∃ g', (Value.slice a2 1 c2).ownBlock = some g' ∧ W.heap.size ≤ g') ∧ Below B W (w'.setCell ⟨B, 0, none⟩ (.slice a2 1 c2)) ∧ ∀ k, k < W.heap.size → k ≠ B → (w'.setCell ⟨B, 0, none⟩ (.slice a2 1 c2)).heap[k]? = W.heap[k]?) := ⟨by simp [go_sem, e0'], by simp [go_sem, y0], by simp [go_sem, e1'], by simp [go_sem, g1'], ownsRow_setCell_below hown2 (by show B < B + 1; omega) _, HG, (BW.mono (Nat.le_of_lt hB)).setCell (Nat.le_refl _) _, fun k h1 h2 => (Below.heap_setCell _ _ _ _ h2).trans (BW.block k h1)⟩
  clear hHeld r0 r1 r2 r3 e0 hown hown2 hgr BB BW D1 e1' g1' y0 HG
  go_simp
  refine hKK _ _ ?_
  refine NoPanic.normal ?_
  clear hKK KK e0' g0'
  generalize w'.setCell ⟨B, 0, none⟩ (.slice a2 1 c2) = w9 at *
  go_wp2
  go_end0
  exact ⟨rfl, _, F.out⟩

/-- What the rows are while elements come: their two slices, and the struct that holds these. -/
theorem sadd_any (B : Nat) (v0 v : Value) (rs : List Row) (r : Row) (W : World) (hB : B < W.heap.size) (c0 : W.cell? ⟨B, 0, none⟩ = some v0) (f0 : W.frozen? ⟨B, 0, none⟩ = false) (c1 : W.cell? ⟨B, 1, none⟩ = some v) (f1 : W.frozen? ⟨B, 1, none⟩ = false)
    (own : W.ownsRow (B + 1) 103 4 v0 rs.length (flatR rs)) (hn : rs.length ≤ 1000) (ht : ltR rs) (h1 : Cb.lt2 r.1) (h2 : Cb.lt2 r.2) (h0 : r.1 ≠ (0, 0)) :
    Calls Try.prog 72 #[.pointer (some ⟨B, 0, none⟩), .agg #[.int .u64 (r.1.1 : Int), .int .u64 (r.1.2 : Int), .int .u64 (r.2.1 : Int), .int .u64 (r.2.2 : Int)]] W fun e w' => ∃ v', e = .returned (.tuple #[]) ∧ w'.cell? ⟨B, 0, none⟩ = some v' ∧ w'.frozen? ⟨B, 0, none⟩ = false ∧ w'.cell? ⟨B, 1, none⟩ = some v ∧ w'.frozen? ⟨B, 1, none⟩ = false ∧ w'.ownsRow (B + 1) 103 4 v' (more rs r).length (flatR (more rs r)) ∧ Below B W w' ∧ (∀ k, k < W.heap.size → k ≠ B → v0.ownBlock ≠ some k → w'.heap[k]? = W.heap[k]?) := by
  have HL : Ret 75 #[.agg #[.int .u64 (r.1.1 : Int), .int .u64 (r.1.2 : Int)]] (.int .i64 ((ld r.1 + 1 : Nat) : Int)) := by
    have := long_any r.1 h1.1 h1.2
    rwa [lng_ld h1 h0] at this
  rcases own.2 with ⟨hv, hz⟩ | ⟨g, cap, cur, hv, hb, hg, hnc, hm, hsz, htk⟩
  · have e : rs = [] := List.eq_nil_of_length_eq_zero hz
    subst e
    rw [hv] at c0
    refine (sadd_none B r.1.1 r.1.2 r.2.1 r.2.2 _ v W hB c0 f0 c1 f1 HL).mono ?_
    rintro e w' ⟨v', q1, q2, q3, q4, q5, q6, _, q8, q9⟩
    exact ⟨v', q1, q2, q3, q4, q5, q6, q8, fun k k1 k2 _ => q9 k k1 k2⟩
  · subst hv
    have hgW : g < W.heap.size := (own.lt g rfl).2
    have hA : Ast W (W.alloc (Obj.cells #[.int .u64 (r.1.1 : Int), .int .u64 (r.1.2 : Int), .int .u64 (r.2.1 : Int), .int .u64 (r.2.2 : Int)] 103)) B g rs.length cap v rs r := by
      have BA : Below W.heap.size W (W.alloc (Obj.cells #[.int .u64 (r.1.1 : Int), .int .u64 (r.1.2 : Int), .int .u64 (r.2.1 : Int), .int .u64 (r.2.2 : Int)] 103)) := (Below.refl _ _).alloc (Nat.le_refl _) _
      exact ⟨keepc BA c0, keepf BA c0 f0, keepc BA c1, keepf BA c1 f1, rfl, own_below own BA, by simp [go_sem], by simp [go_sem], by simp [go_sem], by simp [go_sem], hgW, hB, BA.mono (Nat.le_of_lt hB), fun k k1 _ _ => BA.block k k1⟩
    refine (sadd_core B g rs.length cap v rs r (ld r.1) W (ld_lt h1 h0) hn hA HL (outs rs r (ld r.1)) (fun m => hasE (rs.getD m ((0, 0), (0, 0))).1 (ld r.1)) rfl (fun m hm => ?_) (fun m hm hbm => ?_) (fun m hm hbm => ?_)).mono ?_
    · have t := ht.at hm
      rw [outs_get rs r _ m hm]
      exact shas_any _ _ t.1.1 t.1.2 (ld_lt h1 h0)
    · show (outs rs r (ld r.1) m).set m _ = _
      have e : outv (ld r.1) r (rs.getD m ((0, 0), (0, 0))) = rs.getD m ((0, 0), (0, 0)) := if_neg (by rw [hbm]; decide)
      rw [e]
      refine List.ext_getElem? fun j => ?_
      rw [List.getElem?_set]
      split
      · rename_i e2; subst e2
        rw [outs_len, if_pos hm, outs_at rs r _ m m hm, if_neg (by omega)]
      · rfl
    · have t := ht.at hm
      refine ⟨outv (ld r.1) r (rs.getD m ((0, 0), (0, 0))), ?_, ?_, rfl⟩
      · rw [outs_get rs r _ m hm, show outv (ld r.1) r (rs.getD m ((0, 0), (0, 0))) = _ from if_pos hbm]
        exact fun W => add_any _ _ _ _ t.1.1 t.1.2 h1.1 h1.2 W
      · rw [outs_get rs r _ m hm, show outv (ld r.1) r (rs.getD m ((0, 0), (0, 0))) = _ from if_pos hbm]
        exact fun W => add_any _ _ _ _ t.2.1.1 t.2.1.2 h2.1 h2.2 W
    · rintro e w' ⟨v', q1, q2, q3, q4, q5, q6, _, q8, q9⟩
      rw [outs_all] at q6
      exact ⟨v', q1, q2, q3, q4, q5, by rw [more_len]; exact q6, q8, fun k k1 k2 k3 => q9 k k1 k2 fun e => k3 (by rw [e]; rfl)⟩
end Go.Proofs.Ytnecjkdlmecgdaa
