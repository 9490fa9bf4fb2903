/- Norms of a space, pure: what is normal at its own basis element; which level. -/
import Derived.Test.YtnecjkdlmecgdaaPRowSp
import Derived.Test.YtnecjkdlmecgdaaLqG
namespace Go.Proofs.Ytnecjkdlmecgdaa
open Go.RowKit
open Cb Rg Sq Lq
open Tw (pm)

theorem of_ivv {k : Nat} (hk : k < 8) {y : Nat × Nat} (oy : ofE k y) : ofE k (ivv (k : Int) y) := by
  unfold ivv
  have oy' : ofB (k : Int) (y.1 : Int) (y.2 : Int) = true := oy
  rw [if_pos oy']
  show ofB (k : Int) ((Tw.ivh y.1 y.2 : Nat) : Int) ((Tw.ivl y.1 y.2 : Nat) : Int) = true
  rw [ofB_iff k _ _ hk]
  rcases (ofB_iff k y.1 y.2 hk).1 oy' with h | ⟨h1, h2⟩
  · exact .inl h
  · by_cases h7 : k = 7
    · exact .inl h7
    · refine .inr ?_
      rw [h1]
      obtain ⟨e1, e2⟩ := Tw.iv_low k y.2 (by omega) h2
      rw [e1, e2]
      exact ⟨rfl, Tw.ik_lt k y.2⟩
theorem pm_ivv {k : Nat} {y : Nat × Nat} (ly : lt2 y) (oy : ofE k y) (hy : ¬ y = (0, 0)) : pm y (ivv (k : Int) y) = (0, 1) := by
  unfold ivv
  have oy' : ofB (k : Int) (y.1 : Int) (y.2 : Int) = true := oy
  rw [if_pos oy']
  have ext : ∀ {a b : Nat × Nat}, lt2 a → lt2 b → Tw.d7 a.1 a.2 = Tw.d7 b.1 b.2 → a = b := fun ha hb h => Prod.ext (Tw.d7_inj ha.1 ha.2 hb.1 hb.2 h).1 (Tw.d7_inj ha.1 ha.2 hb.1 hb.2 h).2
  have hz : Tw.d7 y.1 y.2 ≠ Tw.zero 7 := fun e => hy (ext ly lt_zero (e.trans Tw.d7_zero.symm))
  refine ext (lt_pm _ _) lt_one ?_
  have e1 : Tw.d7 (pm y (Tw.ivh y.1 y.2, Tw.ivl y.1 y.2)).1 (pm y (Tw.ivh y.1 y.2, Tw.ivl y.1 y.2)).2 = Tw.mul 7 (Tw.d7 y.1 y.2) (Tw.d7 (Tw.ivh y.1 y.2) (Tw.ivl y.1 y.2)) := Tw.d7_mul _ _ _ _
  rw [e1, Tw.d7_iv, Tw.field 7 _ hz]
  exact Tw.d7_one'.symm
/-- The top of a dimension is not 0. -/
theorem top_some {es : List (Nat × Nat)} (hes : ltE es) (hf : Free es es.length) {i : Nat} (hi : i < es.length) : ¬ vw es i (el es i) = (0, 0) := fun e =>
  hf i hi ((vw_none hes i (by omega) (ltE_el hes i)).1 e)
/-- The normal value, where there is one. -/
theorem snn_at {k : Nat} (hk : k < 8) {es : List (Nat × Nat)} (hes : ltE es) (ot : ofT k es) {i : Nat} (hi : i < es.length) {x : Nat × Nat} (lx : lt2 x) (ox : ofE k x) : snn k es (i : Int) x = pm (vw es i x) (ivv (k : Int) (vw es i (el es i))) := by
  unfold snn
  rw [if_pos ⟨hsv_yes (by omega) ox, by omega⟩]
  show mulv (k : Int) (vw es i x) (ivv (k : Int) (vw es i (el es i))) = _
  unfold mulv
  exact if_pos ⟨of_vw hk ot hes i lx ox, of_ivv hk (of_vw hk ot hes i (ltE_el hes i) (ot.el hk i))⟩
theorem snn_one {k : Nat} (hk : k < 8) {es : List (Nat × Nat)} (hes : ltE es) (ot : ofT k es) (hf : Free es es.length) {i : Nat} (hi : i < es.length) : snn k es (i : Int) (el es i) = (0, 1) := by
  rw [snn_at hk hes ot hi (ltE_el hes i) (ot.el hk i)]
  exact pm_ivv (lt_vw _ _ _) (of_vw hk ot hes i (ltE_el hes i) (ot.el hk i)) (top_some hes hf hi)
theorem svv_at {k : Nat} {es : List (Nat × Nat)} {i : Nat} (hi : i ≤ es.length) {x : Nat × Nat} (ox : ofE k x) : svv k es (i : Int) x = vw es i x := by
  unfold svv
  rw [if_pos (hsv_yes hi ox)]; rfl
theorem svv_none {k : Nat} {es : List (Nat × Nat)} {i : Int} {x : Nat × Nat} (h : hsv k es.length i x = false) : svv k es i x = (0, 0) ∧ snn k es i x = (0, 0) := by
  unfold svv snn
  rw [h]
  exact ⟨if_neg (by decide), if_neg (fun h => by cases h.1)⟩
theorem snn_last {k : Nat} {es : List (Nat × Nat)} {x : Nat × Nat} : snn k es (es.length : Int) x = (0, 0) := if_neg fun h => h.2 rfl
end Go.Proofs.Ytnecjkdlmecgdaa
