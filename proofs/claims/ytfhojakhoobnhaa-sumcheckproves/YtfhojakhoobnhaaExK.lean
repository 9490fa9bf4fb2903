/- The contract of expr.Eval over the seat's translation; values of all steps, no Go in sight. -/
import Derived.Test.YtfhojakhoobnhaaPExJ
import Derived.Test.YtfhojakhoobnhaaPExG
namespace Go.Proofs.Ytfhojakhoobnhaa
open Go.RowKit
open Cb
open Tw (pm)

/-- The values of all steps. -/
def vls (vs : List (Nat × Nat)) (l : List Stp) : List (Nat × Nat) := l.foldl (fun ds o => ds ++ [va o (el ds) vs]) []
theorem vls_snoc (vs : List (Nat × Nat)) (l : List Stp) (o : Stp) : vls vs (l ++ [o]) = vls vs l ++ [va o (el (vls vs l)) vs] := by simp [vls]
theorem vls_len (vs : List (Nat × Nat)) (l : List Stp) : (vls vs l).length = l.length := by
  have : ∀ (r : List Stp) (ds : List (Nat × Nat)), (r.foldl (fun ds o => ds ++ [va o (el ds) vs]) ds).length = ds.length + r.length := by
    intro r
    induction r with
    | nil => intro ds; rfl
    | cons o r ih => intro ds; rw [List.foldl_cons, ih]; simp; omega
  have h := this l []
  simpa [vls] using h
def vfun (vs : List (Nat × Nat)) (l : List Stp) (p : Nat) : Nat × Nat := el (vls vs l) p
theorem vfun_old {vs : List (Nat × Nat)} {l : List Stp} {i p : Nat} (h : i < l.length) (hp : p < i) : vfun vs (l.take (i + 1)) p = vfun vs (l.take i) p := by
  unfold vfun el
  rw [take_st l i h, vls_snoc]
  have : p < (vls vs (l.take i)).length := by rw [vls_len, List.length_take]; omega
  simp [List.getD, List.getElem?_append_left this]
theorem vfun_new {vs : List (Nat × Nat)} {l : List Stp} {i : Nat} (h : i < l.length) : vfun vs (l.take (i + 1)) i = va (l.getD i zst) (vfun vs (l.take i)) vs := by
  unfold vfun
  rw [take_st l i h, vls_snoc]
  have e : (vls vs (l.take i)).length = i := by rw [vls_len, List.length_take]; omega
  show (vls vs (l.take i) ++ [va (l.getD i zst) (el (vls vs (l.take i))) vs]).getD i (0, 0) = _
  rw [List.getD_eq_getElem?_getD, List.getElem?_append_right (by omega), e, Nat.sub_self]
  rfl
theorem vfun_out {vs : List (Nat × Nat)} {l : List Stp} {i p : Nat} (hp : ¬ p < i) : vfun vs (l.take i) p = (0, 0) := by
  unfold vfun el
  have : (vls vs (l.take i)).length ≤ p := by rw [vls_len, List.length_take]; omega
  simp [List.getD, List.getElem?_eq_none this]
theorem hnI_of {lv vr n : Int} {o : Stp} (h : hnI lv vr n o = 0) : ofB lv (o.v.1 : Int) (o.v.2 : Int) = true ∧ (o.k = 2 → 0 ≤ o.a ∧ o.a < vr) := by
  have hf := hnI_frm h
  unfold hnI at h
  rw [if_pos hf] at h
  by_cases h1 : ofB lv (o.v.1 : Int) (o.v.2 : Int) = true
  · rw [if_pos h1] at h
    refine ⟨h1, fun hk => Classical.byContradiction fun hc => ?_⟩
    rw [if_pos ⟨hk, hc⟩] at h
    exact absurd h (by decide)
  · rw [if_neg h1] at h; exact absurd h (by decide)
theorem vfun_of {m : Nat} (hm : m < 8) {vs : List (Nat × Nat)} (hv : ltE vs) (ov : ofT m vs) {l : List Stp} (hl : ∀ o ∈ l, o.ok) {vr : Int} : ∀ {i : Nat}, i ≤ l.length → chkF (m : Int) vr l i = 0 → ∀ p, lt2 (vfun vs (l.take i) p) ∧ ofE m (vfun vs (l.take i) p)
  | 0, _, _, p => by rw [vfun_out (by omega)]; exact ⟨lt_zero, ofT.el hm (t := []) (fun e he => by simp at he) 0⟩
  | i + 1, hi, h, p => by
    have h0 := chkF_zero h i (by omega)
    have ih := vfun_of hm hv ov hl (vr := vr) (i := i) (by omega) h0.1
    by_cases hp : p < i
    · rw [vfun_old (by omega) hp]; exact ih p
    · by_cases hq : p = i
      · subst hq
        rw [vfun_new (by omega)]
        have ho := hnI_of (er_hnI h0.2)
        have hok : (l.getD p zst).ok := hl _ (by rw [show l.getD p zst = l[p] by simp [show p < l.length by omega]]; exact List.getElem_mem (by omega))
        generalize l.getD p zst = o at *
        unfold va
        by_cases k2 : o.k = 2
        · rw [if_pos k2]; exact ⟨ltE_el hv _, ov.el hm _⟩
        · rw [if_neg k2]
          by_cases k3 : o.k = 3
          · rw [if_pos k3]; exact ⟨lt_xa (ih _).1 (ih _).1, of_xor hm (ih _).2 (ih _).2⟩
          · rw [if_neg k3]
            by_cases k4 : o.k = 4
            · rw [if_pos k4]; exact ⟨lt_pm _ _, of_pm hm (ih _).2 (ih _).2⟩
            · rw [if_neg k4]; exact ⟨hok, ho.1⟩
      · rw [vfun_out (by omega)]; exact ⟨lt_zero, ofT.el hm (t := []) (fun e he => by simp at he) 0⟩
/-- The cell number p of a row of elements. -/
def xcell (f : Nat → Nat × Nat) (p : Nat) : Value := if p % 2 = 0 then .int .u64 ((f (p / 2)).1 : Int) else .int .u64 ((f (p / 2)).2 : Int)
theorem xcell_hi (f : Nat → Nat × Nat) (p : Nat) : xcell f (p * 2) = .int .u64 ((f p).1 : Int) := by unfold xcell; rw [if_pos (by omega), show p * 2 / 2 = p by omega]
theorem xcell_lo (f : Nat → Nat × Nat) (p : Nat) : xcell f (p * 2 + 1) = .int .u64 ((f p).2 : Int) := by unfold xcell; rw [if_neg (by omega), show (p * 2 + 1) / 2 = p by omega]
theorem Ew.offx {w : World} {b c h l : Nat} (e : Ew w c h l) (hn : b ≠ c) (o o' : Nat) (u v : Value) : Ew ((w.setCell ⟨b, o, none⟩ u).setCell ⟨b, o', none⟩ v) c h l := by
  obtain ⟨⟨h1, h2⟩, h3, h4⟩ := e
  have hn' : c ≠ b := fun h => hn h.symm
  exact ⟨⟨by simp [go_sem, *], by simp [go_sem, *]⟩, by simp [go_sem, *], by simp [go_sem, *]⟩
theorem own_rowX {w : World} {base : Nat} {T : TypeId} {g n c : Nat} {xs : List Value} (h : w.ownsRow base T 2 (.slice (some ⟨g, 0, none⟩) n n) n xs) (hc : c = n * 2) : ∃ f, w.rowIs g T c f := by
  subst hc
  rcases h.2 with ⟨h1, _⟩ | ⟨g', cap, cur, e, _, hg, _, _, hs, _⟩
  · injection h1 with h2; cases h2
  · injection e with e1 e2 e3
    obtain rfl : g = g' := by injection e1 with e4; injection e4
    subst e3
    exact ⟨fun i => cur.getD i undef, cur, hg, hs, fun i hi => by
      show cur[i]? = some (cur.getD i undef)
      rw [Array.getD_eq_getD_getElem?, Array.getElem?_eq_getElem (by omega)]; rfl⟩
theorem info_elemX : ∃ i, Try.prog.info? 24 = some i ∧ i.zero = some (.agg #[.int .u64 0, .int .u64 0]) ∧ i.size = 2 ∧ i.bytes = 16 := by
  have h : (Try.prog.info? 24).map (fun i => (i.zero, i.size, i.bytes)) = some (some (.agg #[.int .u64 0, .int .u64 0]), 2, 16) := by kernel_rfl
  obtain ⟨i, hi, he⟩ := Option.map_eq_some_iff.1 h
  simp only [Prod.mk.injEq] at he
  exact ⟨i, hi, he.1, he.2.1, he.2.2⟩
/-- The row of values, a step in its box, room for the answer. -/
structure Ez (W w : World) (g L : Nat) (f : Nat → Value) (q : Nat) (k a b : Int) (v : Nat × Nat) : Prop where
  row : w.rowIs g 24 (L * 2) f
  k : w.cell? ⟨q, 0, none⟩ = some (.int .i64 k)
  a : w.cell? ⟨q, 1, none⟩ = some (.int .i64 a)
  b : w.cell? ⟨q, 2, none⟩ = some (.int .i64 b)
  h : w.cell? ⟨q, 3, none⟩ = some (.int .u64 (v.1 : Int))
  l : w.cell? ⟨q, 4, none⟩ = some (.int .u64 (v.2 : Int))
  r : Ew w W.heap.size 0 0
  d : Below W.heap.size W w
theorem Ez.below {W w w' : World} {g L : Nat} {f : Nat → Value} {q : Nat} {k a b : Int} {v : Nat × Nat} (h : Ez W w g L f q k a b v) (hb : Below w.heap.size w w') : Ez W w' g L f q k a b v :=
  ⟨h.row.of_block (hb.block _ h.row.lt), keepc hb h.k, keepc hb h.a, keepc hb h.b, keepc hb h.h, keepc hb h.l, h.r.below hb, h.d.trans (hb.mono h.d.size)⟩
/-- What Eval answers where something hinders. -/
theorem xeval_err (lv c : Int) (sa ea : Option Addr) (cap cap2 : Nat) (l : List Stp) (vs : List (Nat × Nat)) (hl : ∀ o ∈ l, o.ok) (hm : l.length ≤ 100000) (W : World) (hR : ORow W sa l) (hc : chk lv (vs.length : Int) l = c) (h0 : ¬ c = 0) :
    Calls Try.prog 23 #[.int .i64 lv, .slice sa l.length cap, .slice ea vs.length cap2] W fun e w' => e = .returned (.tuple #[.agg #[.int .u64 0, .int .u64 0], .int .i64 c]) ∧ Below W.heap.size W w' := by
  have HC : Hid (∀ w, Below W.heap.size W w → Calls Try.prog 54 #[.int .i64 lv, .int .i64 (vs.length : Int), .slice sa l.length cap] w fun e w' => e = .returned (.int .i64 c) ∧ Below w.heap.size w w') := fun w hb => by
    have := xcheck lv (vs.length : Int) sa cap l hl hm w (hR.below hb)
    rw [hc] at this; exact this
  have h0' : (c != 0) = true := by simp [h0]
  clear hl hR hc hm
  go_enter Try.func23, Try.ntmps23
  go_wp2_with (go_at_call 54; refine (HC.out _ (by go_grown)).mono ?_; rintro e w1 ⟨rfl, hb1⟩; have E1 : Ew w1 W.heap.size 0 0 := Ew.below ⟨⟨by simp [go_sem], by simp [go_sem]⟩, by simp [go_sem], by simp [go_sem]⟩ hb1; have D1 : Hid (Below W.heap.size W w1) := ((Below.refl _ _).alloc (Nat.le_refl _) _).trans (hb1.mono (by simp)); obtain ⟨⟨z1, z2⟩, z3, z4⟩ := E1; clear hb1)
  refine bodyPost_ret (v := .tuple #[.agg #[.int .u64 0, .int .u64 0], .int .i64 c]) (by simp [results, Try.results23, go_sem, *]) rfl ⟨rfl, ?_⟩
  first | exact D1.out | exact (D1.out.setCell (by simp) _).setCell (by simp) _
theorem xeval_of (lv : Int) (sa ea : Option Addr) (cap cap2 : Nat) (l : List Stp) (vs : List (Nat × Nat)) (hl : ∀ o ∈ l, o.ok) (hv : ltE vs) (hm : l.length ≤ 100000) (hn : vs.length ≤ 1000) (W : World) (hR : ORow W sa l) (hV : ERow W ea vs) (hc : chk lv (vs.length : Int) l = 0) (ho : (vs.all fun e => ofB lv (e.1 : Int) (e.2 : Int)) = false) :
    Calls Try.prog 23 #[.int .i64 lv, .slice sa l.length cap, .slice ea vs.length cap2] W fun e w' => e = .returned (.tuple #[.agg #[.int .u64 0, .int .u64 0], .int .i64 5]) ∧ Below W.heap.size W w' := by
  have HC : Hid (∀ w, Below W.heap.size W w → Calls Try.prog 54 #[.int .i64 lv, .int .i64 (vs.length : Int), .slice sa l.length cap] w fun e w' => e = .returned (.int .i64 0) ∧ Below w.heap.size w w') := fun w hb => by
    have := xcheck lv (vs.length : Int) sa cap l hl hm w (hR.below hb)
    rw [hc] at this; exact this
  have HA : Hid (∀ w, Below W.heap.size W w → Calls Try.prog 55 #[.int .i64 lv, .slice ea vs.length cap2] w fun e w' => e = .returned (.bool false) ∧ Below w.heap.size w w') := fun w hb => by
    have := xall lv ea cap2 vs hv w (hV.below hb) (by omega)
    rw [ho] at this; exact this
  clear hl hR hc hm hV hv ho
  go_enter Try.func23, Try.ntmps23
  go_wp2_with (first | (go_at_call 54; refine (HC.out _ (by go_grown)).mono ?_; rintro e w1 ⟨rfl, hb1⟩; have E1 : Hid (Ew w1 W.heap.size 0 0) := Ew.below ⟨⟨by simp [go_sem], by simp [go_sem]⟩, by simp [go_sem], by simp [go_sem]⟩ hb1; have D1 : Hid (Below W.heap.size W w1) := ((Below.refl _ _).alloc (Nat.le_refl _) _).trans (hb1.mono (by simp)); clear hb1) | (go_at_call 55; refine (HA.out _ D1.out).mono ?_; rintro e w2 ⟨rfl, hb2⟩; have E2 := E1.out.below hb2; have D2 : Hid (Below W.heap.size W w2) := D1.out.trans (hb2.mono D1.out.size); obtain ⟨⟨z1, z2⟩, z3, z4⟩ := E2; clear hb2 E1 D1))
  refine bodyPost_ret (v := .tuple #[.agg #[.int .u64 0, .int .u64 0], .int .i64 5]) (by simp [results, Try.results23, go_sem, *]) rfl ⟨rfl, ?_⟩
  first | exact D2.out | exact (D2.out.setCell (by simp) _).setCell (by simp) _
set_option maxHeartbeats 20000000 in
set_option maxRecDepth 100000 in
theorem xeval_ok (m : Nat) (hm8 : m < 8) (sa ea : Option Addr) (cap cap2 : Nat) (l : List Stp) (vs : List (Nat × Nat)) (hl : ∀ o ∈ l, o.ok) (hv : ltE vs) (hn : vs.length ≤ 1000) (W : World) (hR : ORow W sa l) (hV : ERow W ea vs) (hm : l.length ≤ 100000) (hc : chk (m : Int) (vs.length : Int) l = 0) (ov : ofT m vs) :
    Calls Try.prog 23 #[.int .i64 (m : Int), .slice sa l.length cap, .slice ea vs.length cap2] W fun e w' => e = .returned (.tuple #[.agg #[.int .u64 ((vfun vs l (l.length - 1)).1 : Int), .int .u64 ((vfun vs l (l.length - 1)).2 : Int)], .int .i64 0]) ∧ Below W.heap.size W w' := by
  have HC : Hid (∀ w, Below W.heap.size W w → Calls Try.prog 54 #[.int .i64 (m : Int), .int .i64 (vs.length : Int), .slice sa l.length cap] w fun e w' => e = .returned (.int .i64 0) ∧ Below w.heap.size w w') := fun w hb => by
    have := xcheck (m : Int) (vs.length : Int) sa cap l hl hm w (hR.below hb)
    rw [hc] at this; exact this
  have HA : Hid (∀ w, Below W.heap.size W w → Calls Try.prog 55 #[.int .i64 (m : Int), .slice ea vs.length cap2] w fun e w' => e = .returned (.bool true) ∧ Below w.heap.size w w') := fun w hb => by
    have := xall (m : Int) ea cap2 vs hv w (hV.below hb) (by omega)
    rw [List.all_eq_true.2 (fun e he => ov e he)] at this; exact this
  have hlen : 0 < l.length ∧ l.length ≤ 200 ∧ chkF (m : Int) (vs.length : Int) l l.length = 0 := by
    unfold chk at hc
    by_cases h1 : (0 ≤ (m : Int) ∧ (m : Int) ≤ 7) ∧ (0 : Int) ≤ (vs.length : Int)
    · rw [if_pos h1] at hc
      by_cases h2 : l.length = 0
      · rw [if_pos h2] at hc; exact absurd hc (by decide)
      · rw [if_neg h2] at hc
        by_cases h3 : 200 < l.length
        · rw [if_pos h3] at hc; exact absurd hc (by decide)
        · rw [if_neg h3] at hc; exact ⟨by omega, by omega, hc⟩
    · rw [if_neg h1] at hc; exact absurd hc (by decide)
  obtain ⟨h0, h200, hck⟩ := hlen
  have HS : Hid (∀ i, i < l.length → ∀ w g, (∀ p, p < i → w.cell? ⟨g, p * 2, none⟩ = some (.int .u64 ((vfun vs (l.take i) p).1 : Int)) ∧ w.cell? ⟨g, p * 2 + 1, none⟩ = some (.int .u64 ((vfun vs (l.take i) p).2 : Int))) → Below W.heap.size W w → Calls Try.prog 56 #[.int .i64 (m : Int), (l.getD i zst).val, .slice (some ⟨g, 0, none⟩) l.length l.length, .slice ea vs.length cap2] w fun e w' => e = .returned (.agg #[.int .u64 ((va (l.getD i zst) (vfun vs (l.take i)) vs).1 : Int), .int .u64 ((va (l.getD i zst) (vfun vs (l.take i)) vs).2 : Int)]) ∧ Below w.heap.size w w') := fun i hi w g hw hb => by
    have h1 := chkF_zero hck i hi
    have h2 := er_hnI h1.2
    exact xval m g l.length i (vfun vs (l.take i)) (vfun_of hm8 hv ov hl (by omega) h1.1) (l.getD i zst) (by omega) (fun hk => frm_ahead (hnI_frm h2) hk) ea cap2 vs (fun hk => by have := (hnI_of h2).2 hk; omega) w hw (hV.below hb)
  have HW : Hid (∀ i, i < l.length → vfun vs (l.take (i + 1)) i = va (l.getD i zst) (vfun vs (l.take i)) vs) := fun i hi => vfun_new hi
  have HRO : Hid (ORow W sa l) := hR
  obtain ⟨i0, hi, hz0, hz1, hz2⟩ := info_elemX
  have HN : Hid (Try.prog.info? 24 = some i0 ∧ i0.zero = some (.agg #[.int .u64 0, .int .u64 0]) ∧ i0.size = 2 ∧ i0.bytes = 16) := ⟨hi, hz0, hz1, hz2⟩
  obtain ⟨yy, hyy⟩ : ∃ y, y = vfun vs l (l.length - 1) := ⟨_, rfl⟩
  rw [← hyy]
  have HY : Hid (yy = vfun vs l (l.length - 1)) := hyy
  clear hi hz0 hz1 hz2 hl hR hV hc hck ov hv hm hyy
  go_enter Try.func23, Try.ntmps23
  go_wp2_with (first | (go_at_call 54; refine (HC.out _ (by go_grown)).mono ?_; rintro e w1 ⟨rfl, hb1⟩; have E1 : Hid (Ew w1 W.heap.size 0 0) := Ew.below ⟨⟨by simp [go_sem], by simp [go_sem]⟩, by simp [go_sem], by simp [go_sem]⟩ hb1; have D1 : Hid (Below W.heap.size W w1) := ((Below.refl _ _).alloc (Nat.le_refl _) _).trans (hb1.mono (by simp)); clear hb1) | (go_at_call 55; refine (HA.out _ D1.out).mono ?_; rintro e w2 ⟨rfl, hb2⟩; have E2 : Hid (Ew w2 W.heap.size 0 0) := E1.out.below hb2; have D2 : Hid (Below W.heap.size W w2) := D1.out.trans (hb2.mono D1.out.size); clear hb2 E1 D1) | (at_make; refine wpList_make_full _ rfl _ _ 26 rfl 0 24 i0 (.agg #[.int .u64 0, .int .u64 0]) 2 Try.underlying26 HN.out.1 HN.out.2.1 HN.out.2.2.1 .i64 .i64 _ _ l.length rfl rfl rfl rfl (by rw [HN.out.2.2.2]; omega) (by simp only [maxLen]; omega) (Nat.zero_le _) ?_; intro w3 own3 hgr3))
  have D3 : Hid (Below W.heap.size W w3) := D2.out.grown hgr3 D2.out.size (fun k hk => by cases hk)
  have E3 : Hid (Ew w3 W.heap.size 0 0) := E2.out.below ((Below.refl _ _).grown hgr3 (Nat.le_refl _) (fun k hk => by cases hk))
  obtain ⟨f0, R0⟩ := own_rowX own3 (rfl : l.length * 2 = l.length * 2)
  have hg : W.heap.size < w2.heap.size := E2.out.toEl.lt
  clear own3 hgr3 HN D2 E2 HC HA
  generalize w2.heap.size = g at *
  go_loopw [31] (fun u wr => ∃ (i : Nat) (f : Nat → Value), i ≤ l.length ∧ u = .int .i64 i ∧ wr.rowIs g 24 (l.length * 2) f ∧ Hid (∀ p, p < i * 2 → f p = xcell (vfun vs (l.take i)) p) ∧ Ew wr W.heap.size 0 0 ∧ Below W.heap.size W wr) (fun u _ => l.length - (intOf u).toNat)
  case atStart => exact ⟨0, f0, Nat.zero_le _, rfl, R0, (fun p hp => by omega), E3.out, D3.out⟩
  case round =>
    obtain ⟨i, f, hil, rfl, hRr, HF, hE, hD⟩ := hrel
    clear R0 D3 E3
    by_cases hlt : i < l.length
    · obtain ⟨b0, off, rfl, hb0, c0, c1, c2, c3, c4⟩ := HRO.out.cells i hlt
      have C0 := keepc hD c0
      have C1 := keepc hD c1
      have C2 := keepc hD c2
      have C3 := keepc hD c3
      have C4 := keepc hD c4
      have HS1 := Hid.mkX (HS.out i hlt)
      have HW1 := Hid.mkX (HW.out i hlt)
      have HO : Hid (∀ p, p < i → vfun vs (l.take (i + 1)) p = vfun vs (l.take i) p) := fun p hp => vfun_old hlt hp
      have HDr : Hid (wr.rowIs g 24 (l.length * 2) f ∧ Ew wr W.heap.size 0 0 ∧ Below W.heap.size W wr) := ⟨hRr, hE, hD⟩
      clear c0 c1 c2 c3 c4 hRr hD hE hb0 HS HW HRO
      unfold Stp.val at HS1
      generalize l.getD i zst = o at *
      obtain ⟨k, a, b, v⟩ := o
      dsimp only at *
      have b1 : (i : Int) < (l.length : Int) := by omega
      have b2 : (0 : Int) ≤ (i : Int) := by omega
      have X1 : Hid (Ez W (wr.alloc (Obj.cells #[.int .i64 k, .int .i64 a, .int .i64 b, .int .u64 (v.1 : Int), .int .u64 (v.2 : Int)] 91)) g l.length f wr.heap.size k a b v) := by
        have hb := (Below.refl wr.heap.size wr).alloc (Nat.le_refl _) (Obj.cells #[.int .i64 k, .int .i64 a, .int .i64 b, .int .u64 (v.1 : Int), .int .u64 (v.2 : Int)] 91)
        exact ⟨HDr.out.1.of_block (hb.block _ HDr.out.1.lt), by simp [go_sem], by simp [go_sem], by simp [go_sem], by simp [go_sem], by simp [go_sem], HDr.out.2.1.below hb, HDr.out.2.2.trans (hb.mono HDr.out.2.2.size)⟩
      generalize va ⟨k, a, b, v⟩ (vfun vs (l.take i)) vs = r at *
      go_wp2_with (go_at_call 56; refine (HS1.out _ g (fun p hp => ⟨by rw [X1.out.row.cell (i := p * 2) (by omega), HF.out _ (by omega), xcell_hi], by rw [X1.out.row.cell (i := p * 2 + 1) (by omega), HF.out _ (by omega), xcell_lo]⟩) X1.out.d).mono ?_; rintro e w4 ⟨rfl, hb4⟩; have X2 : Hid (Ez W w4 g l.length f wr.heap.size k a b v) := X1.out.below hb4; clear hb4 X1 HDr C0 C1 C2 C3 C4; have y1 := X2.out.row.cell (i := i * 2) (by omega); have y0 := X2.out.row.frozen (i * 2); have y3 := X2.out.row.cell (i := i * 2 + 1) (by omega); have y2 := X2.out.row.frozen (i * 2 + 1))
      refine ⟨⟨i + 1, _, hlt, by simp, (X2.out.row.set (i * 2) _).set (i * 2 + 1) _, fun p hp => ?_, X2.out.r.offx (by omega) _ _ _ _, (X2.out.d.setCell (by simp; omega) _).setCell (by simp; omega) _⟩, by simp [intOf]; omega⟩
      by_cases q1 : p = i * 2 + 1
      · rw [if_pos q1, q1, xcell_lo, HW1.out]
      · rw [if_neg q1]
        by_cases q2 : p = i * 2
        · rw [if_pos q2, q2, xcell_hi, HW1.out]
        · rw [if_neg q2, HF.out p (by omega)]
          unfold xcell
          rw [HO.out (p / 2) (by omega)]
    · obtain rfl : i = l.length := by omega
      have r1 := hRr.cell (i := (l.length - 1) * 2) (by omega)
      have r0 := hRr.cell (i := (l.length - 1) * 2 + 1) (by omega)
      rw [HF.out _ (by omega), List.take_of_length_le (Nat.le_refl _), xcell_hi, ← HY.out] at r1
      rw [HF.out _ (by omega), List.take_of_length_le (Nat.le_refl _), xcell_lo, ← HY.out] at r0
      have e1 : IntKind.i64.wrap ((l.length : Int) - 1) = ((l.length - 1 : Nat) : Int) := by rw [IntKind.wrap_i64]; omega
      have e2 : (l.length : Int) - 1 = ((l.length - 1 : Nat) : Int) := by omega
      have hDD : Hid (Below W.heap.size W wr) := hD
      obtain ⟨⟨z1, z2⟩, z3, z4⟩ := hE
      obtain ⟨q, hq⟩ : ∃ q, q = l.length - 1 := ⟨_, rfl⟩
      rw [← hq] at r1 r0 e1 e2
      have b3 : (q : Int) < (l.length : Int) := by omega
      have b4 : (0 : Int) ≤ (q : Int) := by omega
      clear hRr HF hD HRO hq HS HW HY
      go_wp2_with fail
      refine bodyPost_ret (v := .tuple #[.agg #[.int .u64 (yy.1 : Int), .int .u64 (yy.2 : Int)], .int .i64 0]) (by simp [results, Try.results23, go_sem, *]) rfl ⟨rfl, ?_⟩
      exact (hDD.out.setCell (by simp) _).setCell (by simp) _
end Go.Proofs.Ytfhojakhoobnhaa
