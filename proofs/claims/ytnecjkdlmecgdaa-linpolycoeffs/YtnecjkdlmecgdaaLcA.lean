/- The contract of a space's Coeffs over the seat's translation. -/
import Derived.Test.YtnecjkdlmecgdaaPRowSp
import Derived.Test.YtnecjkdlmecgdaaLvP
namespace Go.Proofs.Ytnecjkdlmecgdaa
open Go.RowKit
open Cb Rg Sq Lq
open Tw (pm)

/-- The row of coefficients, a top in a box beside it, and the level. -/
structure Cq (W w : World) (k p g q N M : Nat) (R : List (Nat × Nat)) (t : Nat × Nat) : Prop where
  own : w.ownsRow W.heap.size 27 2 (.slice (some ⟨g, 0, none⟩) N M) N (flat R)
  len : R.length = N
  e : El w q t.1 t.2
  ne : g ≠ q
  lv : w.cell? ⟨p, 0, none⟩ = some (.int .i64 (k : Int))
  hp : p < W.heap.size
  d : Below W.heap.size W w
theorem Cq.low {W w : World} {k p g q N M : Nat} {R : List (Nat × Nat)} {t : Nat × Nat} (h : Cq W w k p g q N M R t) : W.heap.size ≤ g ∧ g < w.heap.size := h.own.lt g rfl
theorem Cq.below {W w w' : World} {k p g q N M : Nat} {R : List (Nat × Nat)} {t : Nat × Nat} (h : Cq W w k p g q N M R t) (hb : Below w.heap.size w w') : Cq W w' k p g q N M R t :=
  ⟨own_below h.own hb, h.len, h.e.below hb, h.ne, keepc hb h.lv, h.hp, h.d.trans (hb.mono h.d.size)⟩
theorem Cq.drew {W w : World} {k p g q N M : Nat} {R : List (Nat × Nat)} {t : Nat × Nat} (h : Cq W w k p g q N M R t) : Cq W w.drew k p g q N M R t := h.below (Below.refl _ _).drew
theorem El.otherC {w : World} {b c h l : Nat} (e : El w c h l) (hn : b ≠ c) (o o' : Nat) (u v : Value) : El ((w.setCell ⟨b, o, none⟩ u).setCell ⟨b, o', none⟩ v) c h l := by
  obtain ⟨e1, e0⟩ := e
  have hn' : c ≠ b := fun h => hn h.symm
  exact ⟨by simp [go_sem, *], by simp [go_sem, *]⟩
/-- One is set. -/
theorem Cq.put {W w : World} {k p g q N M : Nat} {R : List (Nat × Nat)} {t : Nat × Nat} (h : Cq W w k p g q N M R t) {j : Nat} (hj : j < N) (z : Nat × Nat) : Cq W ((w.setCell ⟨g, j * 2, none⟩ (.int .u64 (z.1 : Int))).setCell ⟨g, j * 2 + 1, none⟩ (.int .u64 (z.2 : Int))) k p g q N M (R.set j z) t :=
  ⟨by rw [← flat_put R z j (by rw [h.len]; exact hj)]; exact own_setR (own_setR h.own _ _) _ _, by rw [List.length_set]; exact h.len, h.e.otherC h.ne _ _ _ _, h.ne, by
    have hn : ¬ p = g := by have := h.low; have := h.hp; omega
    have hn' : ¬ g = p := fun e => hn e.symm
    have := h.lv
    simp [go_sem, *], h.hp, (h.d.setCell h.low.1 _).setCell h.low.1 _⟩
theorem Cq.cells {W w : World} {k p g q N M : Nat} {R : List (Nat × Nat)} {t : Nat × Nat} (h : Cq W w k p g q N M R t) {j : Nat} (hj : j < N) : w.cell? ⟨g, j * 2, none⟩ = some (.int .u64 ((el R j).1 : Int)) ∧ w.cell? ⟨g, j * 2 + 1, none⟩ = some (.int .u64 ((el R j).2 : Int)) := own_el h.own h.len hj
theorem Cq.room {W w : World} {k p g q N M : Nat} {R : List (Nat × Nat)} {t : Nat × Nat} (h : Cq W w k p g q N M R t) {j : Nat} (hj : j < N) : w.frozen? ⟨g, j * 2, none⟩ = false ∧ w.frozen? ⟨g, j * 2 + 1, none⟩ = false := ⟨(own_cellR h.own (j * 2) (by omega)).2, (own_cellR h.own (j * 2 + 1) (by omega)).2⟩
/-- The next coefficients, so far: those above j are new. -/
def Hf (C : List (Nat × Nat)) (t : Nat × Nat) (N j : Nat) (R : List (Nat × Nat)) : Prop := R.length = N ∧ ∀ m, m < N → el R m = if j < m then nc C t m else el C m
theorem hf_start (C : List (Nat × Nat)) (t : Nat × Nat) {m : Nat} (h : C.length = m + 1) : Hf C t (m + 2) (m + 1) (C ++ [(0, 0)]) :=
  ⟨by simp [h], fun x hx => by
    rw [if_neg (by omega), el_end h]
    by_cases e : x = m + 1
    · rw [if_pos e, e, el_ge (by omega)]
    · rw [if_neg e]⟩
theorem hf_step {C R : List (Nat × Nat)} {t : Nat × Nat} {N j : Nat} (h : Hf C t N (j + 1) R) (hj : j + 1 < N) : Hf C t N j (R.set (j + 1) (xa (pm (el R (j + 1)) t) (pm (el R j) (el R j)))) :=
  ⟨by rw [List.length_set]; exact h.1, fun x hx => by
    have e1 : el R (j + 1) = el C (j + 1) := by rw [h.2 (j + 1) hj, if_neg (by omega)]
    have e2 : el R j = el C j := by rw [h.2 j (by omega), if_neg (by omega)]
    rw [el_set (by rw [h.1]; exact hj), e1, e2]
    by_cases e : x = j + 1
    · rw [if_pos e, if_pos (by omega), e]
      unfold nc
      rw [if_neg (by omega), Nat.add_sub_cancel]
    · rw [if_neg e, h.2 x hx]
      by_cases e2 : j < x
      · rw [if_pos (by omega), if_pos e2]
      · rw [if_neg (by omega), if_neg e2]⟩
theorem hf_end {C R : List (Nat × Nat)} {t : Nat × Nat} {m : Nat} {ts : List (Nat × Nat)} (h : Hf C t (m + 2) 0 R) (hC : C = cf ts m) (ht : t = el ts m) : R.set 0 (pm (el R 0) t) = cf ts (m + 1) := by
  refine list_ext (by rw [List.length_set, cf_len]; exact h.1) fun x hx => ?_
  rw [List.length_set, h.1] at hx
  have e1 : el R 0 = el C 0 := by rw [h.2 0 (by omega), if_neg (by omega)]
  rw [el_set (by rw [h.1]; omega), e1, cf_at ts m x hx, ← hC, ← ht]
  by_cases e : x = 0
  · rw [if_pos e, e]; unfold nc; rw [if_pos rfl]
  · rw [if_neg e, h.2 x hx, if_pos (by omega)]
theorem of_hf {k : Nat} (hk : k < 8) {C R : List (Nat × Nat)} {t : Nat × Nat} {N j : Nat} (h : Hf C t N j R) (oC : ofT k C) (ot : ofE k t) {m : Nat} (hm : m < N) : ofE k (el R m) := by
  rw [h.2 m hm]; split
  · exact of_nc hk oC ot m
  · exact oC.el hk m
theorem lt_hf {C R : List (Nat × Nat)} {t : Nat × Nat} {N j : Nat} (h : Hf C t N j R) (lC : ltE C) {m : Nat} (hm : m < N) : lt2 (el R m) := by
  rw [h.2 m hm]; split
  · exact lt_nc _ _ _
  · exact ltE_el lC m
set_option linter.unusedSimpArgs false in
set_option maxHeartbeats 16000000 in
set_option maxRecDepth 100000 in
theorem scoef_ok {W : World} {p k : Nat} {es ts : List (Nat × Nat)} {a aT aB : Option Addr} {c cT cB : Nat} (hS : Spa W p k es ts a aT aB c cT cB) (hu : Spu k es ts c cT) (n : Nat) (hn : n ≤ es.length) :
    Calls Try.prog 29 #[.pointer (some ⟨p, 0, none⟩), .int .i64 (n : Int)] W fun e w' => ∃ g, e = .returned (.slice (some ⟨g, 0, none⟩) (n + 1) (n + 1)) ∧ ERow w' (some ⟨g, 0, none⟩) (cf ts n) ∧ Below W.heap.size W w' := by
  have HH0 := hidT (fun w (hb : Below W.heap.size W w) => has_all (hS.below hb) (n : Int) (0, 0) lt_zero)
  rw [hsv_yes hn (show ofE k (0, 0) from ofT.el hu.hk (t := []) (fun e he => by simp at he) 0)] at HH0
  have HH : Hid (∀ w, Below W.heap.size W w → Calls Try.prog 46 #[.pointer (some ⟨p, 0, none⟩), .int .i64 (n : Int), .agg #[.int .u64 0, .int .u64 0]] w fun e w' => e = .returned (.bool true) ∧ Below w.heap.size w w') := HH0.out
  clear HH0
  have HO := hidT one_any
  have HR := hidT hS.r2
  have c2 := hS.c2
  have HC2 := hidT hS.c2
  have HC0 := hidT hS.c0
  have hp := cell_lt hS.c0
  have hcT := hu.hcT
  have h10 := hu.h10
  have HU := hidT hu
  have htl := hu.tl
  obtain ⟨i0, hi, hz0, hz1, hz2⟩ := info_elem
  have HI : Hid (Try.prog.info? 27 = some i0 ∧ i0.zero = some (.agg #[.int .u64 0, .int .u64 0]) ∧ i0.size = 2 ∧ i0.bytes = 16) := ⟨hi, hz0, hz1, hz2⟩
  have HT : Hid (∀ m, m < n → lt2 (el ts m) ∧ ofE k (el ts m)) := fun m hm => ⟨ltE_el hu.lts m, by
    rw [top_vw hu.hk hu.of hu.lt hu.tops (by rw [hu.tl]; omega)]
    exact of_vw hu.hk hu.of hu.lt m (ltE_el hu.lt m) (hu.of.el hu.hk m)⟩
  have hk8 := hu.hk
  have hlT : Hid (es.length = ts.length) := htl.symm
  have hnc : (n : Int) ≤ (cT : Int) := by omega
  have hnl : n ≤ ts.length := by omega
  have hM : IntKind.i64.wrap ((n : Int) + 1) = ((n + 1 : Nat) : Int) := by rw [IntKind.wrap_i64]; omega
  clear hS hu hi hz0 hz1 hz2 htl
  go_enter Try.func29, Try.ntmps29
  go_upto_region 3 with (go_at_call 46; refine (HH.out _ (Below.refl _ _)).mono ?_; rintro e w1 ⟨rfl, hb1⟩)
  have HD1 := hidT hb1
  clear hb1 HH c2
  obtain ⟨M, hMM⟩ : ∃ M, M = n + 1 := ⟨_, rfl⟩
  rw [← hMM] at hM
  have HMM := hidT hMM
  have M0 : 1 ≤ M := by omega
  have M1 : M ≤ 100 := by omega
  clear hMM
  have hz1 := HD1.out.size
  go_upto_region 4 with (at_make; refine wpList_make_oneL _ rfl _ _ 22 rfl W.heap.size 27 i0 (.agg #[.int .u64 0, .int .u64 0]) 2 Try.underlying22 HI.out.1 HI.out.2.1 HI.out.2.2.1 .i64 .i64 _ M rfl rfl (by first | rfl | omega | (have := HMM.out; omega)) M0 (by rw [HI.out.2.2.2]; omega) (by simp only [maxLen]; omega) hz1 ?_; intro w2 xs2 own2 hgr2)
  have hb2 : Below w1.heap.size w1 w2 := (Below.refl _ _).grown hgr2 (Nat.le_refl _) (fun g hg => by cases hg)
  have HD2 : Hid (Below W.heap.size W w2) := HD1.out.trans (hb2.mono HD1.out.size)
  clear hb2 hgr2 HD1
  generalize hg : w1.heap.size = g at *
  obtain ⟨v0, v1, rfl⟩ : ∃ v0 v1, xs2 = [v0, v1] := by
    have := own2.1
    match xs2, this with
    | [v0, v1], _ => exact ⟨v0, v1, rfl⟩
  have HO2 := hidT own2
  clear hg own2 hM
  go_upto_region 5 with (go_at_call 26; refine (HO.out _).mono ?_; rintro e w3 ⟨rfl, hb3⟩; have HO3 := hidT (own_below HO2.out hb3); have HD3 := hidT (HD2.out.trans (hb3.mono HD2.out.size)); clear hb3 HO2 HD2; obtain ⟨k0, f0⟩ := own_cellR HO3.out 0 (by decide); obtain ⟨k1, f1⟩ := own_cellR HO3.out 1 (by decide); replace k0 : w3.cell? ⟨g, 0, none⟩ = some v0 := k0; replace k1 : w3.cell? ⟨g, 1, none⟩ = some v1 := k1)
  have O4 : ((w3.setCell ⟨g, 0, none⟩ (.int .u64 0)).setCell ⟨g, 1, none⟩ (.int .u64 1)).ownsRow W.heap.size 27 2 (.slice (some ⟨g, 0, none⟩) 1 M) 1 (flat (cf ts 0)) := own_setR (own_setR HO3.out 0 _) 1 _
  have D4 : Below W.heap.size W ((w3.setCell ⟨g, 0, none⟩ (.int .u64 0)).setCell ⟨g, 1, none⟩ (.int .u64 1)) := (HD3.out.setCell (HO3.out.lt g rfl).1 _).setCell (HO3.out.lt g rfl).1 _
  have K4 := hidT (And.intro O4 D4)
  have c2 := keepc D4 HC2.out
  have c0 := keepc D4 HC0.out
  clear O4 D4 k0 k1 f0 f1 HO3 HD3
  generalize (w3.setCell ⟨g, 0, none⟩ (.int .u64 0)).setCell ⟨g, 1, none⟩ (.int .u64 1) = w4 at *
  go_wp2_with fail
  go_loopw [5, 27] (fun v u wr => ∃ m : Nat, m ≤ n ∧ u = .int .i64 m ∧ v = .slice (some ⟨g, 0, none⟩) (m + 1) M ∧ Hid (wr.ownsRow W.heap.size 27 2 (.slice (some ⟨g, 0, none⟩) (m + 1) M) (m + 1) (flat (cf ts m)) ∧ Below W.heap.size W wr)) (fun _ u _ => n - (intOf u).toNat)
  case atStart => exact ⟨0, Nat.zero_le _, rfl, rfl, K4⟩
  case round =>
    clear K4 c2 c0
    obtain ⟨m, hmn, rfl, rfl, K5⟩ := hrel
    by_cases hlt : m < n
    · obtain ⟨b, off, rfl, _, x1, x0⟩ := HR.out.cells m (by omega)
      replace x1 : W.cell? ⟨b, off + m * 2, none⟩ = some (.int .u64 ((el ts m).1 : Int)) := x1
      replace x0 : W.cell? ⟨b, off + m * 2 + 1, none⟩ = some (.int .u64 ((el ts m).2 : Int)) := x0
      have y1 := keepc K5.out.2 x1
      have y0 := keepc K5.out.2 x0
      have c0 := keepc K5.out.2 HC0.out
      have m1 : (m : Int) < (n : Int) := by omega
      have m0 : (0 : Int) ≤ (m : Int) := by omega
      have HTm := hidT (HT.out m hlt)
      obtain ⟨t, ht⟩ : ∃ t, t = el ts m := ⟨_, rfl⟩
      rw [← ht] at y1 y0 HTm
      have Ht := hidT ht
      obtain ⟨C, hC⟩ : ∃ C, C = cf ts m := ⟨_, rfl⟩
      have HCC := hidT hC
      have HlC : Hid (C.length = m + 1) := by show _ = _; rw [hC]; exact cf_len ts m
      have HoC : Hid (ltE C ∧ ofT k C) := ⟨by rw [hC]; exact lt_cf ts m, by
        rw [hC]
        refine of_cf (ts := ts) hk8 ?_ m
        intro e he
        obtain ⟨i, hi, rfl⟩ := List.getElem_of_mem he
        have := top_vw HU.out.hk HU.out.of HU.out.lt HU.out.tops (i := i) hi
        have e2 : el ts i = ts[i] := by simp [el, hi]
        rw [← e2, this]
        exact of_vw HU.out.hk HU.out.of HU.out.lt i (ltE_el HU.out.lt i) (HU.out.of.el HU.out.hk i)⟩
      rw [← hC] at K5
      clear hC ht x1 x0 HR HT HU
      go_upto_region 8 with fail
      have P5 : Hid (Cq W (wr.alloc (Obj.cells #[.int .u64 (t.1 : Int), .int .u64 (t.2 : Int)] 27)) k p g wr.heap.size (m + 1) M C t) := ⟨K5.out.1.alloc _, HlC.out, ⟨by simp [go_sem], by simp [go_sem]⟩, Nat.ne_of_lt (K5.out.1.lt g rfl).2, keepc ((Below.refl _ _).alloc (Nat.le_refl _) _) c0, hp, K5.out.2.alloc K5.out.2.size _⟩
      clear K5 y1 y0 c0
      generalize wr.alloc (Obj.cells #[.int .u64 (t.1 : Int), .int .u64 (t.2 : Int)] 27) = w5 at *
      generalize wr.heap.size = q at *
      have hroom : m + 1 + 1 ≤ M := by have := HMM.out; omega
      go_upto_region 9 with (at_builtin; refine wpList_append_own_spare _ rfl _ _ 22 rfl W.heap.size 27 i0 2 Try.underlying22 HI.out.1 HI.out.2.2.1 g (m + 1) M _ rfl (own_below P5.out.own (by go_grown)) ⟨w5.heap.size, 0, none⟩ 1 1 [.int .u64 0, .int .u64 0] rfl rfl (fun p u hu => by rcases p with _ | _ | p <;> simp at hu <;> subst hu <;> simp [go_sem]) (by intro u hu; simp at hu; subst hu; rfl) hroom ?_; intro w6 hown6 hgr6; have P6 : Hid (Cq W w6 k p g q (m + 2) M (C ++ [(0, 0)]) t) := (by have B5 : Below w5.heap.size w5 (w5.alloc (Obj.cells #[.int .u64 0, .int .u64 0] 27)) := (Below.refl _ _).alloc (Nat.le_refl _) _; have P5' := P5.out.below B5; exact ⟨by rw [flat_snoc]; exact hown6, by simp [HlC.out], ⟨(hgr6.cell_far ⟨q, 0, none⟩ (cell_lt P5'.e.hi) (fun e => P5'.ne (by injection e with e; exact e.symm))).trans P5'.e.hi, (hgr6.cell_far ⟨q, 1, none⟩ (cell_lt P5'.e.hi) (fun e => P5'.ne (by injection e with e; exact e.symm))).trans P5'.e.lo⟩, P5'.ne, (hgr6.cell_far ⟨p, 0, none⟩ (cell_lt P5'.lv) (fun e => by have := P5'.low; injection e with e; have hpg : p = g := e; omega)).trans P5'.lv, hp, P5'.d.grown hgr6 P5'.d.size fun k hk => by injection hk with hk; subst hk; exact P5'.low.1⟩); clear hown6 hgr6)
      clear P5
      have hF0 : Hid (Hf C t (m + 2) (m + 1) (C ++ [(0, 0)])) := hf_start C t HlC.out
      go_wp2_with fail
      go_loopw [8] (fun u wq => ∃ (j : Nat) (R : List (Nat × Nat)), j ≤ m + 1 ∧ u = .int .i64 j ∧ Hid (Hf C t (m + 2) j R ∧ Cq W wq k p g q (m + 2) M R t)) (fun u _ => (intOf u).toNat)
      case atStart => exact ⟨m + 1, _, Nat.le_refl _, by simp, ⟨hF0.out, P6.out⟩⟩
      case round =>
        clear P6 hF0
        obtain ⟨j', R, hj, rfl, K0⟩ := hrel
        by_cases hjl : 0 < j'
        · obtain ⟨j0, rfl⟩ : ∃ j0, j' = j0 + 1 := ⟨j' - 1, by omega⟩
          have HKf := hidT K0.out.1
          have K := hidT K0.out.2
          clear K0
          have hjN : j0 + 1 < m + 2 := by omega
          have lu := lt_hf HKf.out HoC.out.1 hjN
          have ou := of_hf hk8 HKf.out HoC.out.2 HTm.out.2 hjN
          have lv := lt_hf HKf.out HoC.out.1 (show j0 < m + 2 by omega)
          have ov := of_hf hk8 HKf.out HoC.out.2 HTm.out.2 (show j0 < m + 2 by omega)
          have HM0 := mul_any (k : Int) (el R (j0 + 1)) t lu.1 lu.2 HTm.out.1.1 HTm.out.1.2
          rw [show mulv (k : Int) (el R (j0 + 1)) t = pm (el R (j0 + 1)) t from if_pos ⟨ou, HTm.out.2⟩] at HM0
          have HM := hidT HM0
          have HQ0 := square_ret (k : Int) (el R j0) lv.1 lv.2
          rw [show mulv (k : Int) (el R j0) (el R j0) = pm (el R j0) (el R j0) from if_pos ⟨ov, ov⟩] at HQ0
          have HQ := hidT HQ0
          have HD : Hid (Ret 20 #[.agg #[.int .u64 ((pm (el R (j0 + 1)) t).1 : Int), .int .u64 ((pm (el R (j0 + 1)) t).2 : Int)], .agg #[.int .u64 ((pm (el R j0) (el R j0)).1 : Int), .int .u64 ((pm (el R j0) (el R j0)).2 : Int)]] (.agg #[.int .u64 ((xa (pm (el R (j0 + 1)) t) (pm (el R j0) (el R j0))).1 : Int), .int .u64 ((xa (pm (el R (j0 + 1)) t) (pm (el R j0) (el R j0))).2 : Int)])) := add_any _ _ _ _ (lt_pm _ _).1 (lt_pm _ _).2 (lt_pm _ _).1 (lt_pm _ _).2
          have HN : Hid (Hf C t (m + 2) j0 (R.set (j0 + 1) (xa (pm (el R (j0 + 1)) t) (pm (el R j0) (el R j0))))) := hf_step HKf.out hjN
          have KC : ∀ w, Cq W w k p g q (m + 2) M R t → w.cell? ⟨p, 0, none⟩ = some (.int .i64 (k : Int)) ∧ w.cell? ⟨g, (j0 + 1) * 2, none⟩ = some (.int .u64 ((el R (j0 + 1)).1 : Int)) ∧ w.cell? ⟨g, (j0 + 1) * 2 + 1, none⟩ = some (.int .u64 ((el R (j0 + 1)).2 : Int)) ∧ w.cell? ⟨g, j0 * 2, none⟩ = some (.int .u64 ((el R j0).1 : Int)) ∧ w.cell? ⟨g, j0 * 2 + 1, none⟩ = some (.int .u64 ((el R j0).2 : Int)) ∧ w.cell? ⟨q, 0, none⟩ = some (.int .u64 (t.1 : Int)) ∧ w.cell? ⟨q, 1, none⟩ = some (.int .u64 (t.2 : Int)) := fun w h => ⟨h.lv, (h.cells hjN).1, (h.cells hjN).2, (h.cells (show j0 < m + 2 by omega)).1, (h.cells (show j0 < m + 2 by omega)).2, h.e.hi, h.e.lo⟩
          have KF : ∀ w, Cq W w k p g q (m + 2) M R t → w.frozen? ⟨g, (j0 + 1) * 2, none⟩ = false ∧ w.frozen? ⟨g, (j0 + 1) * 2 + 1, none⟩ = false := fun w h => h.room hjN
          obtain ⟨j, hjj⟩ : ∃ j, j = j0 + 1 := ⟨_, rfl⟩
          have Hjj := hidT hjj
          rw [← hjj] at KC KF HM HD HN
          have jI : ((j0 : Int) + 1) = (j : Int) := by omega
          have jc : ((j0 + 1 : Nat) : Int) = (j : Int) := by omega
          rw [jc]
          have j1 : (j : Int) < ((m + 2 : Nat) : Int) := by omega
          have j1' : (j : Int) < (m : Int) + 1 + 1 := by omega
          have j1b : (j0 : Int) < (m : Int) + 1 + 1 := by omega
          have j1a : (j0 : Int) < ((m + 2 : Nat) : Int) := by omega
          have jp : (0 : Int) < (j : Int) := by omega
          have jm : IntKind.i64.wrap ((j : Int) - 1) = (j0 : Int) := by rw [IntKind.wrap_i64]; omega
          have j00 : (0 : Int) ≤ (j0 : Int) := by omega
          have jj0 : (0 : Int) ≤ (j : Int) := by omega
          have hjN2 : j < m + 2 := by omega
          clear HKf lu ou lv ov HM0 HQ0 jI jc hjN hjj
          generalize xa (pm (el R j) t) (pm (el R j0) (el R j0)) = z at *
          generalize pm (el R j) t = z1 at *
          generalize pm (el R j0) (el R j0) = z2 at *
          generalize el R j = u at *
          generalize el R j0 = v at *
          go_upto_region 12 with fail
          refine wp_region_noPanic ?_
          refine wp_region_peel (S := fun w => w.cell? ⟨p, 0, none⟩ = some (.int .i64 (k : Int)) ∧ w.cell? ⟨g, j * 2, none⟩ = some (.int .u64 (u.1 : Int)) ∧ w.cell? ⟨g, j * 2 + 1, none⟩ = some (.int .u64 (u.2 : Int)) ∧ w.cell? ⟨g, j0 * 2, none⟩ = some (.int .u64 (v.1 : Int)) ∧ w.cell? ⟨g, j0 * 2 + 1, none⟩ = some (.int .u64 (v.2 : Int)) ∧ w.cell? ⟨q, 0, none⟩ = some (.int .u64 (t.1 : Int)) ∧ w.cell? ⟨q, 1, none⟩ = some (.int .u64 (t.2 : Int))) 24 (by kernel_rfl) rfl (by kernel_rfl) ?_ (fun hHeld => ?_)
          · exact (by first | exact KC _ K.out | exact KC _ K.out.drew)
          refine wpAnyH_take (i := 0) (oi := _) (v := ?_) rfl (by kernel_rfl) (by kernel_rfl) (by kernel_rfl) (fun _ _ _ h => h) (Or.inl ⟨by rfl, ?_⟩) (by assumption) ?_
          rotate_left
          · ((intro w hSw; (try dsimp only at hSw); go_simp) <;> (try with_reducible rfl))
          show wpAnyH _ _ _ _ _ _ _ (Act.put _ (some 42) _) _
          simp only [Act.put, List.setIfInBounds_toArray, List.set_cons_succ, List.set_cons_zero]
          refine wpAnyH_take (i := 1) (oi := _) (v := ?_) rfl (by kernel_rfl) (by kernel_rfl) (by kernel_rfl) (fun _ _ _ h => h) (Or.inl ⟨by rfl, ?_⟩) (by assumption) ?_
          rotate_left
          · ((intro w hSw; (try dsimp only at hSw); go_simp) <;> (try with_reducible rfl))
          show wpAnyH _ _ _ _ _ _ _ (Act.put _ (some 43) _) _
          simp only [Act.put, List.setIfInBounds_toArray, List.set_cons_succ, List.set_cons_zero]
          refine wpAnyH_take (i := 2) (oi := _) (v := ?_) rfl (by kernel_rfl) (by kernel_rfl) (by kernel_rfl) (fun _ _ _ h => h) (Or.inl ⟨by rfl, ?_⟩) (by assumption) ?_
          rotate_left
          · ((intro w hSw; (try dsimp only at hSw); go_simp) <;> (try with_reducible rfl))
          show wpAnyH _ _ _ _ _ _ _ (Act.put _ (some 44) _) _
          simp only [Act.put, List.setIfInBounds_toArray, List.set_cons_succ, List.set_cons_zero]
          refine wpAnyH_take (i := 3) (oi := _) (v := ?_) rfl (by kernel_rfl) (by kernel_rfl) (by kernel_rfl) (fun _ _ _ h => h) (Or.inl ⟨by rfl, ?_⟩) (by assumption) ?_
          rotate_left
          · ((intro w hSw; (try dsimp only at hSw); go_simp) <;> (try with_reducible rfl))
          show wpAnyH _ _ _ _ _ _ _ (Act.put _ (some 45) _) _
          simp only [Act.put, List.setIfInBounds_toArray, List.set_cons_succ, List.set_cons_zero]
          refine wpAnyH_take (i := 4) (oi := _) (v := ?_) rfl (by kernel_rfl) (by kernel_rfl) (by kernel_rfl) (fun _ _ _ h => h) (Or.inl ⟨by rfl, ?_⟩) (by assumption) ?_
          rotate_left
          · ((intro w hSw; (try dsimp only at hSw); go_simp) <;> (try with_reducible rfl))
          show wpAnyH _ _ _ _ _ _ _ (Act.put _ (some 46) _) _
          simp only [Act.put, List.setIfInBounds_toArray, List.set_cons_succ, List.set_cons_zero]
          refine wpAnyH_take (i := 5) (oi := _) (v := ?_) rfl (by kernel_rfl) (by kernel_rfl) (by kernel_rfl) (fun _ _ _ h => h) (Or.inl ⟨by rfl, ?_⟩) (by assumption) ?_
          rotate_left
          · ((intro w hSw; (try dsimp only at hSw); go_simp) <;> (try with_reducible rfl))
          show wpAnyH _ _ _ _ _ _ _ (Act.put _ (some 47) _) _
          simp only [Act.put, List.setIfInBounds_toArray, List.set_cons_succ, List.set_cons_zero]
          refine wpAnyH_take (i := 6) (oi := _) (v := ?_) rfl (by kernel_rfl) (by kernel_rfl) (by kernel_rfl) (fun _ _ _ h => h) (Or.inl ⟨by rfl, ?_⟩) (by assumption) ?_
          rotate_left
          · ((intro w hSw; (try dsimp only at hSw); go_simp) <;> (try with_reducible rfl))
          show wpAnyH _ _ _ _ _ _ _ (Act.put _ (some 48) _) _
          simp only [Act.put, List.setIfInBounds_toArray, List.set_cons_succ, List.set_cons_zero]
          refine wpAnyH_take (i := 7) (oi := _) (v := ?_) rfl (by kernel_rfl) (by kernel_rfl) (by kernel_rfl) (fun _ _ _ h => h) (Or.inl ⟨by rfl, ?_⟩) (by assumption) ?_
          rotate_left
          · ((intro w hSw; (try dsimp only at hSw); go_simp) <;> (try with_reducible rfl))
          show wpAnyH _ _ _ _ _ _ _ (Act.put _ (some 49) _) _
          simp only [Act.put, List.setIfInBounds_toArray, List.set_cons_succ, List.set_cons_zero]
          refine wpAnyH_take (i := 8) (oi := _) (v := ?_) rfl (by kernel_rfl) (by kernel_rfl) (by kernel_rfl) (fun _ _ _ h => h) (Or.inl ⟨by rfl, ?_⟩) (by assumption) ?_
          rotate_left
          · ((intro w hSw; (try dsimp only at hSw); go_simp) <;> (try with_reducible rfl))
          show wpAnyH _ _ _ _ _ _ _ (Act.put _ (some 50) _) _
          simp only [Act.put, List.setIfInBounds_toArray, List.set_cons_succ, List.set_cons_zero]
          refine wpAnyH_take (i := 9) (oi := _) (v := ?_) rfl (by kernel_rfl) (by kernel_rfl) (by kernel_rfl) (fun _ _ _ h => h) (Or.inl ⟨by rfl, ?_⟩) (by assumption) ?_
          rotate_left
          · ((intro w hSw; (try dsimp only at hSw); go_simp) <;> (try with_reducible rfl))
          show wpAnyH _ _ _ _ _ _ _ (Act.put _ (some 51) _) _
          simp only [Act.put, List.setIfInBounds_toArray, List.set_cons_succ, List.set_cons_zero]
          refine wpAnyH_take (i := 10) (oi := _) (v := ?_) rfl (by kernel_rfl) (by kernel_rfl) (by kernel_rfl) (fun _ _ _ h => h) (Or.inl ⟨by rfl, ?_⟩) (by assumption) ?_
          rotate_left
          · ((intro w hSw; (try dsimp only at hSw); go_simp) <;> (try with_reducible rfl))
          show wpAnyH _ _ _ _ _ _ _ (Act.put _ (some 52) _) _
          simp only [Act.put, List.setIfInBounds_toArray, List.set_cons_succ, List.set_cons_zero]
          refine wpAnyH_take (i := 12) (oi := _) (v := ?_) rfl (by kernel_rfl) (by kernel_rfl) (by kernel_rfl) (fun _ _ _ h => h) (Or.inl ⟨by rfl, ?_⟩) (by assumption) ?_
          rotate_left
          · ((intro w hSw; (try dsimp only at hSw); go_simp) <;> (try with_reducible rfl))
          show wpAnyH _ _ _ _ _ _ _ (Act.put _ (some 54) _) _
          simp only [Act.put, List.setIfInBounds_toArray, List.set_cons_succ, List.set_cons_zero]
          refine wpAnyH_take (i := 13) (oi := _) (v := ?_) rfl (by kernel_rfl) (by kernel_rfl) (by kernel_rfl) (fun _ _ _ h => h) (Or.inl ⟨by rfl, ?_⟩) (by assumption) ?_
          rotate_left
          · ((intro w hSw; (try dsimp only at hSw); go_simp) <;> (try with_reducible rfl))
          show wpAnyH _ _ _ _ _ _ _ (Act.put _ (some 55) _) _
          simp only [Act.put, List.setIfInBounds_toArray, List.set_cons_succ, List.set_cons_zero]
          refine wpAnyH_take (i := 14) (oi := _) (v := ?_) rfl (by kernel_rfl) (by kernel_rfl) (by kernel_rfl) (fun _ _ _ h => h) (Or.inl ⟨by rfl, ?_⟩) (by assumption) ?_
          rotate_left
          · ((intro w hSw; (try dsimp only at hSw); go_simp) <;> (try with_reducible rfl))
          show wpAnyH _ _ _ _ _ _ _ (Act.put _ (some 56) _) _
          simp only [Act.put, List.setIfInBounds_toArray, List.set_cons_succ, List.set_cons_zero]
          refine wpAnyH_take (i := 15) (oi := _) (v := ?_) rfl (by kernel_rfl) (by kernel_rfl) (by kernel_rfl) (fun _ _ _ h => h) (Or.inl ⟨by rfl, ?_⟩) (by assumption) ?_
          rotate_left
          · ((intro w hSw; (try dsimp only at hSw); go_simp) <;> (try with_reducible rfl))
          show wpAnyH _ _ _ _ _ _ _ (Act.put _ (some 57) _) _
          simp only [Act.put, List.setIfInBounds_toArray, List.set_cons_succ, List.set_cons_zero]
          refine wpAnyH_take (i := 16) (oi := _) (v := ?_) rfl (by kernel_rfl) (by kernel_rfl) (by kernel_rfl) (fun _ _ _ h => h) (Or.inl ⟨by rfl, ?_⟩) (by assumption) ?_
          rotate_left
          · ((intro w hSw; (try dsimp only at hSw); go_simp) <;> (try with_reducible rfl))
          show wpAnyH _ _ _ _ _ _ _ (Act.put _ (some 58) _) _
          simp only [Act.put, List.setIfInBounds_toArray, List.set_cons_succ, List.set_cons_zero]
          refine wpAnyH_take (i := 17) (oi := _) (v := ?_) rfl (by kernel_rfl) (by kernel_rfl) (by kernel_rfl) (fun _ _ _ h => h) (Or.inl ⟨by rfl, ?_⟩) (by assumption) ?_
          rotate_left
          · ((intro w hSw; (try dsimp only at hSw); go_simp) <;> (try with_reducible rfl))
          show wpAnyH _ _ _ _ _ _ _ (Act.put _ (some 59) _) _
          simp only [Act.put, List.setIfInBounds_toArray, List.set_cons_succ, List.set_cons_zero]
          refine wpAnyH_take (i := 18) (oi := _) (v := ?_) rfl (by kernel_rfl) (by kernel_rfl) (by kernel_rfl) (fun _ _ _ h => h) (Or.inl ⟨by rfl, ?_⟩) (by assumption) ?_
          rotate_left
          · ((intro w hSw; (try dsimp only at hSw); go_simp) <;> (try with_reducible rfl))
          show wpAnyH _ _ _ _ _ _ _ (Act.put _ (some 60) _) _
          simp only [Act.put, List.setIfInBounds_toArray, List.set_cons_succ, List.set_cons_zero]
          refine wpAnyH_take (i := 19) (oi := _) (v := ?_) rfl (by kernel_rfl) (by kernel_rfl) (by kernel_rfl) (fun _ _ _ h => h) (Or.inl ⟨by rfl, ?_⟩) (by assumption) ?_
          rotate_left
          · ((intro w hSw; (try dsimp only at hSw); go_simp) <;> (try with_reducible rfl))
          show wpAnyH _ _ _ _ _ _ _ (Act.put _ (some 61) _) _
          simp only [Act.put, List.setIfInBounds_toArray, List.set_cons_succ, List.set_cons_zero]
          refine wpAnyH_take (i := 20) (oi := _) (v := ?_) rfl (by kernel_rfl) (by kernel_rfl) (by kernel_rfl) (fun _ _ _ h => h) (Or.inl ⟨by rfl, ?_⟩) (by assumption) ?_
          rotate_left
          · ((intro w hSw; (try dsimp only at hSw); go_simp) <;> (try with_reducible rfl))
          show wpAnyH _ _ _ _ _ _ _ (Act.put _ (some 62) _) _
          simp only [Act.put, List.setIfInBounds_toArray, List.set_cons_succ, List.set_cons_zero]
          refine wpAnyH_ready (rs := [11]) (by kernel_rfl) (by simp) ?_
          refine AllReadyH.cons (o := _) rfl (fun KK hKK => ?_) AllReadyH.nil
          go_simp
          (go_at_call 51; refine (HM.out.go _).mono ?_; rintro e w9 ⟨rfl, hb⟩)
          have K'' := hidT (Cq.below (w' := w9) (by first | exact K.out | exact K.out.drew) hb); clear K hb; have K := K''; clear K''
          refine hKK.out _ _ ?_ (fun hHeld => ?_)
          · exact (by first | exact KC _ K.out | exact KC _ K.out.drew)
          clear hKK KK
          try simp only [Act.put]
          refine wpAnyH_ready (rs := [21]) (by kernel_rfl) (by simp) ?_
          refine AllReadyH.cons (o := _) rfl (fun KK hKK => ?_) AllReadyH.nil
          go_simp
          (go_at_call 55; refine (HQ.out.go _).mono ?_; rintro e w9 ⟨rfl, hb⟩)
          have K'' := hidT (Cq.below (w' := w9) (by first | exact K.out | exact K.out.drew) hb); clear K hb; have K := K''; clear K''
          refine hKK.out _ _ ?_ (fun hHeld => ?_)
          · exact (by first | exact KC _ K.out | exact KC _ K.out.drew)
          clear hKK KK
          try simp only [Act.put]
          refine wpAnyH_ready (rs := [22]) (by kernel_rfl) (by simp) ?_
          refine AllReadyH.cons (o := _) rfl (fun KK hKK => ?_) AllReadyH.nil
          go_simp
          (go_at_call 20; refine (HD.out.go _).mono ?_; rintro e w9 ⟨rfl, hb⟩)
          have K'' := hidT (Cq.below (w' := w9) (by first | exact K.out | exact K.out.drew) hb); clear K hb; have K := K''; clear K''
          refine hKK.out _ _ ?_ (fun hHeld => ?_)
          · exact (by first | exact KC _ K.out | exact KC _ K.out.drew)
          clear hKK KK
          try simp only [Act.put]
          refine wpAnyH_take (i := 23) (oi := _) (v := ?_) rfl (by kernel_rfl) (by kernel_rfl) (by kernel_rfl) (fun _ _ _ h => h) (Or.inl ⟨by rfl, ?_⟩) (by assumption) ?_
          rotate_left
          · ((intro w hSw; (try dsimp only at hSw); go_simp) <;> (try with_reducible rfl))
          show wpAnyH _ _ _ _ _ _ _ (Act.put _ (some 65) _) _
          simp only [Act.put, List.setIfInBounds_toArray, List.set_cons_succ, List.set_cons_zero]
          refine wpAnyH_done (by kernel_rfl) ?_ _
          refine peel_last rfl (fun KK hKK => ?_)
          clear hHeld
          obtain ⟨f1, f0⟩ := KF _ K.out
          obtain ⟨_, u1, u0, _⟩ := KC _ K.out
          go_simp
          refine hKK _ _ ?_
          refine NoPanic.normal ?_
          clear hKK KK
          have KP := hidT (K.out.put hjN2 z)
          clear K KC KF HM HQ HD f1 f0 u1 u0
          generalize (w9.setCell ⟨g, j * 2, none⟩ (.int .u64 (z.1 : Int))).setCell ⟨g, j * 2 + 1, none⟩ (.int .u64 (z.2 : Int)) = w10 at *
          have hjm : j0 ≤ m + 1 := by omega
          go_wp2
          exact ⟨⟨j0, _, hjm, by first | rfl | rw [jm], ⟨HN.out, KP.out⟩⟩, by simp [intOf]; have := Hjj.out; omega⟩
        · obtain rfl : j' = 0 := by omega
          have HKf := hidT K0.out.1
          have K := hidT K0.out.2
          clear K0
          have lu := lt_hf HKf.out HoC.out.1 (show 0 < m + 2 by omega)
          have ou := of_hf hk8 HKf.out HoC.out.2 HTm.out.2 (show 0 < m + 2 by omega)
          have HM0 := mul_any (k : Int) (el R 0) t lu.1 lu.2 HTm.out.1.1 HTm.out.1.2
          rw [show mulv (k : Int) (el R 0) t = pm (el R 0) t from if_pos ⟨ou, HTm.out.2⟩] at HM0
          have HM := hidT HM0
          have HN : Hid (R.set 0 (pm (el R 0) t) = cf ts (m + 1)) := hf_end HKf.out HCC.out Ht.out
          have KC : ∀ w, Cq W w k p g q (m + 2) M R t → w.cell? ⟨p, 0, none⟩ = some (.int .i64 (k : Int)) ∧ w.cell? ⟨g, 0, none⟩ = some (.int .u64 ((el R 0).1 : Int)) ∧ w.cell? ⟨g, 1, none⟩ = some (.int .u64 ((el R 0).2 : Int)) ∧ w.cell? ⟨q, 0, none⟩ = some (.int .u64 (t.1 : Int)) ∧ w.cell? ⟨q, 1, none⟩ = some (.int .u64 (t.2 : Int)) := fun w h => ⟨h.lv, by have := (h.cells (show 0 < m + 2 by omega)).1; simpa using this, by have := (h.cells (show 0 < m + 2 by omega)).2; simpa using this, h.e.hi, h.e.lo⟩
          have KF : ∀ w, Cq W w k p g q (m + 2) M R t → w.frozen? ⟨g, 0, none⟩ = false ∧ w.frozen? ⟨g, 1, none⟩ = false := fun w h => by have := h.room (show 0 < m + 2 by omega); simpa using this
          have KP0 : ∀ w, Cq W w k p g q (m + 2) M R t → Cq W ((w.setCell ⟨g, 0, none⟩ (.int .u64 ((pm (el R 0) t).1 : Int))).setCell ⟨g, 1, none⟩ (.int .u64 ((pm (el R 0) t).2 : Int))) k p g q (m + 2) M (R.set 0 (pm (el R 0) t)) t := fun w h => by have := h.put (show 0 < m + 2 by omega) (pm (el R 0) t); simpa using this
          rw [HN.out] at KP0
          have HKP := hidT KP0
          have m2 : (0 : Int) < (m : Int) + 1 + 1 := by omega
          clear HKf lu ou HM0 HN KP0
          generalize pm (el R 0) t = z at *
          generalize el R 0 = u at *
          go_upto_region 13 with fail
          refine wp_region_noPanic ?_
          refine wp_region_peel (S := fun w => w.cell? ⟨p, 0, none⟩ = some (.int .i64 (k : Int)) ∧ w.cell? ⟨g, 0, none⟩ = some (.int .u64 (u.1 : Int)) ∧ w.cell? ⟨g, 1, none⟩ = some (.int .u64 (u.2 : Int)) ∧ w.cell? ⟨q, 0, none⟩ = some (.int .u64 (t.1 : Int)) ∧ w.cell? ⟨q, 1, none⟩ = some (.int .u64 (t.2 : Int))) 11 (by kernel_rfl) rfl (by kernel_rfl) ?_ (fun hHeld => ?_)
          · exact (by first | exact KC _ K.out | exact KC _ K.out.drew)
          refine wpAnyH_take (i := 0) (oi := _) (v := ?_) rfl (by kernel_rfl) (by kernel_rfl) (by kernel_rfl) (fun _ _ _ h => h) (Or.inl ⟨by rfl, ?_⟩) (by assumption) ?_
          rotate_left
          · ((intro w hSw; (try dsimp only at hSw); go_simp) <;> (try with_reducible rfl))
          show wpAnyH _ _ _ _ _ _ _ (Act.put _ (some 66) _) _
          simp only [Act.put, List.setIfInBounds_toArray, List.set_cons_succ, List.set_cons_zero]
          refine wpAnyH_take (i := 1) (oi := _) (v := ?_) rfl (by kernel_rfl) (by kernel_rfl) (by kernel_rfl) (fun _ _ _ h => h) (Or.inl ⟨by rfl, ?_⟩) (by assumption) ?_
          rotate_left
          · ((intro w hSw; (try dsimp only at hSw); go_simp) <;> (try with_reducible rfl))
          show wpAnyH _ _ _ _ _ _ _ (Act.put _ (some 67) _) _
          simp only [Act.put, List.setIfInBounds_toArray, List.set_cons_succ, List.set_cons_zero]
          refine wpAnyH_take (i := 2) (oi := _) (v := ?_) rfl (by kernel_rfl) (by kernel_rfl) (by kernel_rfl) (fun _ _ _ h => h) (Or.inl ⟨by rfl, ?_⟩) (by assumption) ?_
          rotate_left
          · ((intro w hSw; (try dsimp only at hSw); go_simp) <;> (try with_reducible rfl))
          show wpAnyH _ _ _ _ _ _ _ (Act.put _ (some 68) _) _
          simp only [Act.put, List.setIfInBounds_toArray, List.set_cons_succ, List.set_cons_zero]
          refine wpAnyH_take (i := 3) (oi := _) (v := ?_) rfl (by kernel_rfl) (by kernel_rfl) (by kernel_rfl) (fun _ _ _ h => h) (Or.inl ⟨by rfl, ?_⟩) (by assumption) ?_
          rotate_left
          · ((intro w hSw; (try dsimp only at hSw); go_simp) <;> (try with_reducible rfl))
          show wpAnyH _ _ _ _ _ _ _ (Act.put _ (some 69) _) _
          simp only [Act.put, List.setIfInBounds_toArray, List.set_cons_succ, List.set_cons_zero]
          refine wpAnyH_take (i := 4) (oi := _) (v := ?_) rfl (by kernel_rfl) (by kernel_rfl) (by kernel_rfl) (fun _ _ _ h => h) (Or.inl ⟨by rfl, ?_⟩) (by assumption) ?_
          rotate_left
          · ((intro w hSw; (try dsimp only at hSw); go_simp) <;> (try with_reducible rfl))
          show wpAnyH _ _ _ _ _ _ _ (Act.put _ (some 70) _) _
          simp only [Act.put, List.setIfInBounds_toArray, List.set_cons_succ, List.set_cons_zero]
          refine wpAnyH_take (i := 5) (oi := _) (v := ?_) rfl (by kernel_rfl) (by kernel_rfl) (by kernel_rfl) (fun _ _ _ h => h) (Or.inl ⟨by rfl, ?_⟩) (by assumption) ?_
          rotate_left
          · ((intro w hSw; (try dsimp only at hSw); go_simp) <;> (try with_reducible rfl))
          show wpAnyH _ _ _ _ _ _ _ (Act.put _ (some 71) _) _
          simp only [Act.put, List.setIfInBounds_toArray, List.set_cons_succ, List.set_cons_zero]
          refine wpAnyH_take (i := 6) (oi := _) (v := ?_) rfl (by kernel_rfl) (by kernel_rfl) (by kernel_rfl) (fun _ _ _ h => h) (Or.inl ⟨by rfl, ?_⟩) (by assumption) ?_
          rotate_left
          · ((intro w hSw; (try dsimp only at hSw); go_simp) <;> (try with_reducible rfl))
          show wpAnyH _ _ _ _ _ _ _ (Act.put _ (some 72) _) _
          simp only [Act.put, List.setIfInBounds_toArray, List.set_cons_succ, List.set_cons_zero]
          refine wpAnyH_take (i := 7) (oi := _) (v := ?_) rfl (by kernel_rfl) (by kernel_rfl) (by kernel_rfl) (fun _ _ _ h => h) (Or.inl ⟨by rfl, ?_⟩) (by assumption) ?_
          rotate_left
          · ((intro w hSw; (try dsimp only at hSw); go_simp) <;> (try with_reducible rfl))
          show wpAnyH _ _ _ _ _ _ _ (Act.put _ (some 73) _) _
          simp only [Act.put, List.setIfInBounds_toArray, List.set_cons_succ, List.set_cons_zero]
          refine wpAnyH_take (i := 8) (oi := _) (v := ?_) rfl (by kernel_rfl) (by kernel_rfl) (by kernel_rfl) (fun _ _ _ h => h) (Or.inl ⟨by rfl, ?_⟩) (by assumption) ?_
          rotate_left
          · ((intro w hSw; (try dsimp only at hSw); go_simp) <;> (try with_reducible rfl))
          show wpAnyH _ _ _ _ _ _ _ (Act.put _ (some 74) _) _
          simp only [Act.put, List.setIfInBounds_toArray, List.set_cons_succ, List.set_cons_zero]
          refine wpAnyH_ready (rs := [9]) (by kernel_rfl) (by simp) ?_
          refine AllReadyH.cons (o := _) rfl (fun KK hKK => ?_) AllReadyH.nil
          go_simp
          (go_at_call 51; refine (HM.out.go _).mono ?_; rintro e w9 ⟨rfl, hb⟩)
          have K'' := hidT (Cq.below (w' := w9) (by first | exact K.out | exact K.out.drew) hb); clear K hb; have K := K''; clear K''
          refine hKK.out _ _ ?_ (fun hHeld => ?_)
          · exact (by first | exact KC _ K.out | exact KC _ K.out.drew)
          clear hKK KK
          try simp only [Act.put]
          refine wpAnyH_take (i := 10) (oi := _) (v := ?_) rfl (by kernel_rfl) (by kernel_rfl) (by kernel_rfl) (fun _ _ _ h => h) (Or.inl ⟨by rfl, ?_⟩) (by assumption) ?_
          rotate_left
          · ((intro w hSw; (try dsimp only at hSw); go_simp) <;> (try with_reducible rfl))
          show wpAnyH _ _ _ _ _ _ _ (Act.put _ (some 76) _) _
          simp only [Act.put, List.setIfInBounds_toArray, List.set_cons_succ, List.set_cons_zero]
          refine wpAnyH_done (by kernel_rfl) ?_ _
          refine peel_last rfl (fun KK hKK => ?_)
          clear hHeld
          obtain ⟨f1, f0⟩ := KF _ K.out
          obtain ⟨_, u1, u0, _⟩ := KC _ K.out
          go_simp
          refine hKK _ _ ?_
          refine NoPanic.normal ?_
          clear hKK KK
          have KP := hidT (HKP.out _ K.out)
          clear K KC KF HM f1 f0 u1 u0 HKP
          generalize (w9.setCell ⟨g, 0, none⟩ (.int .u64 (z.1 : Int))).setCell ⟨g, 1, none⟩ (.int .u64 (z.2 : Int)) = w10 at *
          go_wp2
          exact ⟨⟨m + 1, hlt, by simp, rfl, ⟨KP.out.own, KP.out.d⟩⟩, by simp [intOf]; omega⟩
    · obtain rfl : n = m := by omega
      obtain rfl : M = n + 1 := HMM.out
      have K8 : Hid (ERow wr (some ⟨g, 0, none⟩) (cf ts n) ∧ Below W.heap.size W wr) := ⟨by
        have := K5.out.1
        rw [show n + 1 = (cf ts n).length from (cf_len ts n).symm] at this
        exact own_erow this, K5.out.2⟩
      clear K5 HR HT HU
      go_wp2
      go_ret
      exact ⟨g, rfl, K8.out.1, K8.out.2⟩
set_option maxHeartbeats 2000000 in
theorem scoef_no {W : World} {p k : Nat} {es ts : List (Nat × Nat)} {a aT aB : Option Addr} {c cT cB : Nat} (hS : Spa W p k es ts a aT aB c cT cB) (n : Int) (h : n < 0 ∨ (es.length : Int) < n) :
    Calls Try.prog 29 #[.pointer (some ⟨p, 0, none⟩), .int .i64 n] W fun e w' => e = .returned (.slice none 0 0) ∧ Below W.heap.size W w' := by
  have HH0 := hidT (fun w (hb : Below W.heap.size W w) => has_all (hS.below hb) n (0, 0) lt_zero)
  rw [show hsv k es.length n (0, 0) = false by
    unfold hsv
    rcases h with h | h
    · rw [decide_eq_false (show ¬ 0 ≤ n by omega)]; rfl
    · rw [decide_eq_false (show ¬ n ≤ (es.length : Int) by omega)]; simp] at HH0
  have HH : Hid (∀ w, Below W.heap.size W w → Calls Try.prog 46 #[.pointer (some ⟨p, 0, none⟩), .int .i64 n, .agg #[.int .u64 0, .int .u64 0]] w fun e w' => e = .returned (.bool false) ∧ Below w.heap.size w w') := HH0.out
  clear hS h HH0
  go_enter Try.func29, Try.ntmps29
  go_wp2_with (go_at_call 46; refine (HH.out _ (Below.refl _ _)).mono ?_; rintro e w1 ⟨rfl, hb1⟩)
  go_ret
  exact ⟨rfl, hb1⟩
end Go.Proofs.Ytnecjkdlmecgdaa
