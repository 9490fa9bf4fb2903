/- The contract of the document's Eval over the seat's translation. -/
import Derived.Test.YtnecjkdlmecgdaaLcB
namespace Go.Proofs.Ytnecjkdlmecgdaa
open Go.RowKit
open Cb Rg Sq Lq
open Tw (pm)

/-- The boxes of the document's Eval: the result, the sum, the power. -/
structure Es (W w : World) (z o : Nat × Nat) (q : Nat) : Prop where
  r : Ew w (W.heap.size + 1) 0 0
  o : Ew w (W.heap.size + 1 + 1) o.1 o.2
  z : Ew w q z.1 z.2
  hq : W.heap.size + 1 + 1 < q
  d : Below W.heap.size W w
theorem Es.below {W w w' : World} {z o : Nat × Nat} {q : Nat} (h : Es W w z o q) (hb : Below w.heap.size w w') : Es W w' z o q := ⟨h.r.below hb, h.o.below hb, h.z.below hb, h.hq, h.d.trans (hb.mono h.d.size)⟩
theorem Es.putO {W w : World} {z o : Nat × Nat} {q : Nat} (h : Es W w z o q) (v : Nat × Nat) : Es W ((w.setCell ⟨W.heap.size + 1 + 1, 0, none⟩ (.int .u64 (v.1 : Int))).setCell ⟨W.heap.size + 1 + 1, 1, none⟩ (.int .u64 (v.2 : Int))) z v q := ⟨h.r.other (by omega) _ _, h.o.set _ _, h.z.other (by have := h.hq; omega) _ _, h.hq, below2 h.d (by omega) _ _⟩
theorem Es.putZ {W w : World} {z o : Nat × Nat} {q : Nat} (h : Es W w z o q) (v : Nat × Nat) : Es W ((w.setCell ⟨q, 0, none⟩ (.int .u64 (v.1 : Int))).setCell ⟨q, 1, none⟩ (.int .u64 (v.2 : Int))) v o q := ⟨h.r.other (by have := h.hq; omega) _ _, h.o.other (by have := h.hq; omega) _ _, h.z.set _ _, h.hq, below2 h.d (by have := h.hq; omega) _ _⟩
structure Er (W w : World) (z o : Nat × Nat) (q : Nat) (g off i : Nat) (u : Nat × Nat) : Prop where
  s : Es W w z o q
  u1 : w.cell? ⟨g, off + i * 2, none⟩ = some (.int .u64 (u.1 : Int))
  u0 : w.cell? ⟨g, off + i * 2 + 1, none⟩ = some (.int .u64 (u.2 : Int))
theorem Er.below {W w w' : World} {z o u : Nat × Nat} {q g off i : Nat} (h : Er W w z o q g off i u) (hb : Below w.heap.size w w') : Er W w' z o q g off i u := ⟨h.s.below hb, keepc hb h.u1, keepc hb h.u0⟩
theorem Er.drew {W w : World} {z o u : Nat × Nat} {q g off i : Nat} (h : Er W w z o q g off i u) : Er W w.drew z o q g off i u := h.below (Below.refl _ _).drew
theorem Er.facts {W w : World} {z o u : Nat × Nat} {q g off i : Nat} (h : Er W w z o q g off i u) : w.cell? ⟨(W.heap.size + 1 + 1), 0, none⟩ = some (.int .u64 (o.1 : Int)) ∧ w.cell? ⟨(W.heap.size + 1 + 1), 1, none⟩ = some (.int .u64 (o.2 : Int)) ∧ w.cell? ⟨q, 0, none⟩ = some (.int .u64 (z.1 : Int)) ∧ w.cell? ⟨q, 1, none⟩ = some (.int .u64 (z.2 : Int)) ∧ w.cell? ⟨g, off + i * 2, none⟩ = some (.int .u64 (u.1 : Int)) ∧ w.cell? ⟨g, off + i * 2 + 1, none⟩ = some (.int .u64 (u.2 : Int)) := ⟨h.s.o.hi, h.s.o.lo, h.s.z.hi, h.s.z.lo, h.u1, h.u0⟩
set_option maxHeartbeats 4000000 in
theorem reval_no (l : Int) (a : Option Addr) (n cap : Nat) (x : Nat × Nat) (lx : lt2 x) (h : ofB l (x.1 : Int) (x.2 : Int) = false) : Ret 28 #[.int .i64 l, .slice a n cap, .agg #[.int .u64 (x.1 : Int), .int .u64 (x.2 : Int)]] (.agg #[.int .u64 0, .int .u64 0]) := by
  intro W
  have HO := hidT (rof_any l x.1 x.2 lx.1 lx.2)
  rw [h] at HO
  have D0 : Below W.heap.size W (((W.alloc (Obj.cells #[.int .u64 (x.1 : Int), .int .u64 (x.2 : Int)] 39)).alloc (Obj.cells #[.int .u64 0, .int .u64 0] 39)).alloc (Obj.cells #[.int .u64 0, .int .u64 0] 39)) := (((Below.refl _ _).alloc (Nat.le_refl _) _).alloc (by simp) _).alloc (by simp; omega) _
  go_enter Try.func28, Try.ntmps28
  go_wp2_with (go_at_call 16; refine (HO.out.go _).mono ?_; rintro e w1 ⟨rfl, hb1⟩; have K1 := hidT (D0.trans (hb1.mono (by simp; omega))); have Kr : Ew w1 (W.heap.size + 1) 0 0 := Ew.below ⟨⟨by simp [go_sem], by simp [go_sem]⟩, by simp [go_sem], by simp [go_sem]⟩ hb1; have Ko : Ew w1 (W.heap.size + 1 + 1) 0 0 := Ew.below ⟨⟨by simp [go_sem], by simp [go_sem]⟩, by simp [go_sem], by simp [go_sem]⟩ hb1; obtain ⟨⟨r1, r0⟩, f1, f0⟩ := Kr; obtain ⟨⟨o1, o0⟩, _, _⟩ := Ko; clear hb1)
  refine bodyPost_ret (v := .agg #[.int .u64 0, .int .u64 0]) (by simp [results, Try.results28, go_sem, *]) rfl ⟨rfl, ?_⟩
  exact below2 (p := W.heap.size + 1) K1.out (by omega) _ _
set_option linter.unusedSimpArgs false in
set_option maxHeartbeats 8000000 in
set_option maxRecDepth 100000 in
theorem reval_ok (l : Int) (a : Option Addr) (cap : Nat) (c : List (Nat × Nat)) (hc : ltE c) (h1 : c.length ≤ 1000) (x : Nat × Nat) (lx : lt2 x) (ox : ofB l (x.1 : Int) (x.2 : Int) = true) (W : World) (hr : ERow W a c) :
    Calls Try.prog 28 #[.int .i64 l, .slice a c.length cap, .agg #[.int .u64 (x.1 : Int), .int .u64 (x.2 : Int)]] W fun e w' => e = .returned (.agg #[.int .u64 ((evl l c x).1 : Int), .int .u64 ((evl l c x).2 : Int)]) ∧ Below W.heap.size W w' := by
  have HO0 := hidT (rof_any l x.1 x.2 lx.1 lx.2)
  rw [ox] at HO0
  have HR := hidT hr
  have HOO : Hid (∀ i, i < c.length → ∀ b, ofB l ((el c i).1 : Int) ((el c i).2 : Int) = b → Ret 16 #[.int .i64 l, .agg #[.int .u64 ((el c i).1 : Int), .int .u64 ((el c i).2 : Int)]] (.bool b)) := fun i hi b hb => by
    have := rof_any l (el c i).1 (el c i).2 (ltE_el hc i).1 (ltE_el hc i).2
    rw [hb] at this
    exact this
  have HMM : Hid (∀ i, Ret 52 #[.agg #[.int .u64 ((el c i).1 : Int), .int .u64 ((el c i).2 : Int)], .agg #[.int .u64 ((sqn x i).1 : Int), .int .u64 ((sqn x i).2 : Int)]] (.agg #[.int .u64 ((pm (el c i) (sqn x i)).1 : Int), .int .u64 ((pm (el c i) (sqn x i)).2 : Int)])) := fun i => rprod _ _ (ltE_el hc i) (lt_sqn lx i)
  have HDD : Hid (∀ i, Ret 49 #[.agg #[.int .u64 ((ev c x i).1 : Int), .int .u64 ((ev c x i).2 : Int)], .agg #[.int .u64 ((pm (el c i) (sqn x i)).1 : Int), .int .u64 ((pm (el c i) (sqn x i)).2 : Int)]] (.agg #[.int .u64 ((ev c x (i + 1)).1 : Int), .int .u64 ((ev c x (i + 1)).2 : Int)])) := fun i => rsum _ _ (lt_ev c x i) (lt_pm _ _)
  have HQQ : Hid (∀ i, Ret 52 #[.agg #[.int .u64 ((sqn x i).1 : Int), .int .u64 ((sqn x i).2 : Int)], .agg #[.int .u64 ((sqn x i).1 : Int), .int .u64 ((sqn x i).2 : Int)]] (.agg #[.int .u64 ((sqn x (i + 1)).1 : Int), .int .u64 ((sqn x (i + 1)).2 : Int)])) := fun i => rprod _ _ (lt_sqn lx i) (lt_sqn lx i)
  have HE0 : Hid (ev c x 0 = (0, 0) ∧ sqn x 0 = x) := ⟨rfl, rfl⟩
  have HEV : Hid ((∀ i, i < c.length → ofB l ((el c i).1 : Int) ((el c i).2 : Int) = true) → evl l c x = ev c x c.length) := fun h => if_pos ⟨ox, List.all_eq_true.2 fun e he => by
    obtain ⟨i, hi, rfl⟩ := List.getElem_of_mem he
    have := h i hi
    rwa [show el c i = c[i] from by simp [el, hi]] at this⟩
  have HEN : Hid (∀ i, i < c.length → ofB l ((el c i).1 : Int) ((el c i).2 : Int) = false → evl l c x = (0, 0)) := fun i hi hf => if_neg fun h => by
    have := all_el h.2 hi
    rw [hf] at this
    cases this
  have D0 : Below W.heap.size W (((W.alloc (Obj.cells #[.int .u64 (x.1 : Int), .int .u64 (x.2 : Int)] 39)).alloc (Obj.cells #[.int .u64 0, .int .u64 0] 39)).alloc (Obj.cells #[.int .u64 0, .int .u64 0] 39)) := (((Below.refl _ _).alloc (Nat.le_refl _) _).alloc (by simp) _).alloc (by simp; omega) _
  clear hr hc lx ox
  go_enter Try.func28, Try.ntmps28
  go_upto_region 5 with (go_at_call 16; refine (HO0.out.go _).mono ?_; rintro e w1 ⟨rfl, hb1⟩; have K1 : Hid (Ew w1 (W.heap.size + 1) 0 0 ∧ Ew w1 (W.heap.size + 1 + 1) 0 0 ∧ Below W.heap.size W w1) := ⟨Ew.below ⟨⟨by simp [go_sem], by simp [go_sem]⟩, by simp [go_sem], by simp [go_sem]⟩ hb1, Ew.below ⟨⟨by simp [go_sem], by simp [go_sem]⟩, by simp [go_sem], by simp [go_sem]⟩ hb1, D0.trans (hb1.mono (by simp; omega))⟩; have x1 : w1.cell? ⟨W.heap.size, 0, none⟩ = some (.int .u64 (x.1 : Int)) := keepc hb1 (by simp [go_sem]); have x0 : w1.cell? ⟨W.heap.size, 1, none⟩ = some (.int .u64 (x.2 : Int)) := keepc hb1 (by simp [go_sem]); clear hb1)
  have K3 : Hid (Es W (w1.alloc (Obj.cells #[.int .u64 (x.1 : Int), .int .u64 (x.2 : Int)] 39)) (sqn x 0) (ev c x 0) w1.heap.size) := ⟨K1.out.1.below ((Below.refl _ _).alloc (Nat.le_refl _) _), by rw [HE0.out.1]; exact K1.out.2.1.below ((Below.refl _ _).alloc (Nat.le_refl _) _), by rw [HE0.out.2]; exact ⟨⟨by simp [go_sem], by simp [go_sem]⟩, by simp [go_sem], by simp [go_sem]⟩, K1.out.2.1.lt, K1.out.2.2.alloc K1.out.2.2.size _⟩
  clear K1 HO0 HE0 D0 x1 x0
  generalize w1.alloc (Obj.cells #[.int .u64 (x.1 : Int), .int .u64 (x.2 : Int)] 39) = w3 at *
  generalize w1.heap.size = q at *
  go_wp2_with fail
  go_loopw [9] (fun u wr => ∃ i : Nat, i ≤ c.length ∧ Hid (∀ j, j < i → ofB l ((el c j).1 : Int) ((el c j).2 : Int) = true) ∧ u = .int .i64 i ∧ Hid (Es W wr (sqn x i) (ev c x i) q)) (fun u _ => c.length - (intOf u).toNat)
  case atStart => exact ⟨0, Nat.zero_le _, (fun j hj => absurd hj (Nat.not_lt_zero _)), rfl, K3⟩
  case round =>
    obtain ⟨i, hi, HB, rfl, K0⟩ := hrel
    clear K3
    by_cases hlt : i < c.length
    · obtain ⟨g, off, rfl, _, y1', y0'⟩ := HR.out.cells i hlt
      have y1 := keepc K0.out.d y1'
      have y0 := keepc K0.out.d y0'
      replace y1 : wr.cell? ⟨g, off + i * 2, none⟩ = some (.int .u64 ((el c i).1 : Int)) := y1
      replace y0 : wr.cell? ⟨g, off + i * 2 + 1, none⟩ = some (.int .u64 ((el c i).2 : Int)) := y0
      have i1 : (i : Int) < (c.length : Int) := by omega
      have i0' : (0 : Int) ≤ (i : Int) := by omega
      cases hb : ofB l ((el c i).1 : Int) ((el c i).2 : Int)
      · have HO1 := hidT (HOO.out i hlt _ hb)
        have HZ := hidT (HEN.out i hlt hb)
        clear HOO HMM HDD HQQ HR y1' y0' HEV HEN hb HB
        generalize el c i = u at *
        go_wp2_with (go_at_call 16; refine (HO1.out.go _).mono ?_; rintro e w9 ⟨rfl, hb⟩; have K9 := hidT (K0.out.below hb); clear K0 hb y1 y0; obtain ⟨⟨r1, r0⟩, f1, f0⟩ := K9.out.r)
        refine bodyPost_ret (v := .agg #[.int .u64 0, .int .u64 0]) (by simp [results, Try.results28, go_sem, *]) rfl ⟨by rw [HZ.out]; rfl, ?_⟩
        exact below2 (p := W.heap.size + 1) K9.out.d (by omega) _ _
      · have HO1 := hidT (HOO.out i hlt _ hb)
        have HM := hidT (HMM.out i)
        have HD := hidT (HDD.out i)
        have HQ := hidT (HQQ.out i)
        have HB1 : Hid (∀ j, j < i + 1 → ofB l ((el c j).1 : Int) ((el c j).2 : Int) = true) := fun j hj => by
          by_cases h : j < i
          · exact HB.out j h
          · obtain rfl : j = i := by omega
            exact hb
        clear HOO HMM HDD HQQ HR y1' y0' HEV HEN hb HB
        generalize pm (el c i) (sqn x i) = v at *
        generalize hu : el c i = u at *
        obtain ⟨z2, hz2⟩ : ∃ z2, z2 = sqn x (i + 1) := ⟨_, rfl⟩
        obtain ⟨o2, ho2⟩ : ∃ o2, o2 = ev c x (i + 1) := ⟨_, rfl⟩
        rw [← hz2] at HQ
        rw [← ho2] at HD
        have Hz2 := hidT hz2
        have Ho2 := hidT ho2
        clear hz2 ho2 hu
        generalize sqn x i = z at *
        generalize ev c x i = o at *
        go_upto_region 10 with (go_at_call 16; refine (HO1.out.go _).mono ?_; rintro e w8 ⟨rfl, hb⟩; have K : Hid (Er W w8 z o q g off i u) := ⟨K0.out.below hb, keepc hb y1, keepc hb y0⟩; clear K0 hb y1 y0)
        refine wp_region_noPanic ?_
        refine wp_region_peel (S := fun w => w.cell? ⟨(W.heap.size + 1 + 1), 0, none⟩ = some (.int .u64 (o.1 : Int)) ∧ w.cell? ⟨(W.heap.size + 1 + 1), 1, none⟩ = some (.int .u64 (o.2 : Int)) ∧ w.cell? ⟨q, 0, none⟩ = some (.int .u64 (z.1 : Int)) ∧ w.cell? ⟨q, 1, none⟩ = some (.int .u64 (z.2 : Int)) ∧ w.cell? ⟨g, off + i * 2, none⟩ = some (.int .u64 (u.1 : Int)) ∧ w.cell? ⟨g, off + i * 2 + 1, none⟩ = some (.int .u64 (u.2 : Int))) 8 (by kernel_rfl) rfl (by kernel_rfl) ?_ (fun hHeld => ?_)
        · exact (by first | exact K.out.facts | exact K.out.drew.facts)
        refine wpAnyH_take (i := 0) (oi := _) (v := ?_) rfl (by kernel_rfl) (by kernel_rfl) (by kernel_rfl) (fun _ _ _ h => h) (Or.inl ⟨by rfl, ?_⟩) (by assumption) ?_
        rotate_left
        · ((intro w hSw; (try dsimp only at hSw); go_simp) <;> (try with_reducible rfl))
        show wpAnyH _ _ _ _ _ _ _ (Act.put _ (some 30) _) _
        simp only [Act.put, List.setIfInBounds_toArray, List.set_cons_succ, List.set_cons_zero]
        refine wpAnyH_take (i := 1) (oi := _) (v := ?_) rfl (by kernel_rfl) (by kernel_rfl) (by kernel_rfl) (fun _ _ _ h => h) (Or.inl ⟨by rfl, ?_⟩) (by assumption) ?_
        rotate_left
        · ((intro w hSw; (try dsimp only at hSw); go_simp) <;> (try with_reducible rfl))
        show wpAnyH _ _ _ _ _ _ _ (Act.put _ (some 31) _) _
        simp only [Act.put, List.setIfInBounds_toArray, List.set_cons_succ, List.set_cons_zero]
        refine wpAnyH_take (i := 2) (oi := _) (v := ?_) rfl (by kernel_rfl) (by kernel_rfl) (by kernel_rfl) (fun _ _ _ h => h) (Or.inl ⟨by rfl, ?_⟩) (by assumption) ?_
        rotate_left
        · ((intro w hSw; (try dsimp only at hSw); go_simp) <;> (try with_reducible rfl))
        show wpAnyH _ _ _ _ _ _ _ (Act.put _ (some 32) _) _
        simp only [Act.put, List.setIfInBounds_toArray, List.set_cons_succ, List.set_cons_zero]
        refine wpAnyH_take (i := 3) (oi := _) (v := ?_) rfl (by kernel_rfl) (by kernel_rfl) (by kernel_rfl) (fun _ _ _ h => h) (Or.inl ⟨by rfl, ?_⟩) (by assumption) ?_
        rotate_left
        · ((intro w hSw; (try dsimp only at hSw); go_simp) <;> (try with_reducible rfl))
        show wpAnyH _ _ _ _ _ _ _ (Act.put _ (some 33) _) _
        simp only [Act.put, List.setIfInBounds_toArray, List.set_cons_succ, List.set_cons_zero]
        refine wpAnyH_take (i := 4) (oi := _) (v := ?_) rfl (by kernel_rfl) (by kernel_rfl) (by kernel_rfl) (fun _ _ _ h => h) (Or.inl ⟨by rfl, ?_⟩) (by assumption) ?_
        rotate_left
        · ((intro w hSw; (try dsimp only at hSw); go_simp) <;> (try with_reducible rfl))
        show wpAnyH _ _ _ _ _ _ _ (Act.put _ (some 34) _) _
        simp only [Act.put, List.setIfInBounds_toArray, List.set_cons_succ, List.set_cons_zero]
        refine wpAnyH_take (i := 5) (oi := _) (v := ?_) rfl (by kernel_rfl) (by kernel_rfl) (by kernel_rfl) (fun _ _ _ h => h) (Or.inl ⟨by rfl, ?_⟩) (by assumption) ?_
        rotate_left
        · ((intro w hSw; (try dsimp only at hSw); go_simp) <;> (try with_reducible rfl))
        show wpAnyH _ _ _ _ _ _ _ (Act.put _ (some 35) _) _
        simp only [Act.put, List.setIfInBounds_toArray, List.set_cons_succ, List.set_cons_zero]
        refine wpAnyH_ready (rs := [6]) (by kernel_rfl) (by simp) ?_
        refine AllReadyH.cons (o := _) rfl (fun KK hKK => ?_) AllReadyH.nil
        go_simp
        (go_at_call 52; refine (HM.out.go _).mono ?_; rintro e w9 ⟨rfl, hb⟩)
        have K'' := hidT (Er.below (w' := w9) (by first | exact K.out | exact K.out.drew) hb); clear K hb; have K := K''; clear K''
        refine hKK.out _ _ ?_ (fun hHeld => ?_)
        · exact (by first | exact K.out.facts | exact K.out.drew.facts)
        clear hKK KK
        try simp only [Act.put]
        refine wpAnyH_ready (rs := [7]) (by kernel_rfl) (by simp) ?_
        refine AllReadyH.cons (o := _) rfl (fun KK hKK => ?_) AllReadyH.nil
        go_simp
        (go_at_call 49; refine (HD.out.go _).mono ?_; rintro e w9 ⟨rfl, hb⟩)
        have K'' := hidT (Er.below (w' := w9) (by first | exact K.out | exact K.out.drew) hb); clear K hb; have K := K''; clear K''
        refine hKK.out _ _ ?_ (fun hHeld => ?_)
        · exact (by first | exact K.out.facts | exact K.out.drew.facts)
        clear hKK KK
        try simp only [Act.put]
        refine wpAnyH_done (by kernel_rfl) ?_ _
        refine peel_last rfl (fun KK hKK => ?_)
        clear hHeld
        obtain ⟨⟨o1, o0⟩, f1, f0⟩ := K.out.s.o
        go_simp
        refine hKK _ _ ?_
        refine NoPanic.normal ?_
        clear hKK KK
        have K8 := hidT (K.out.s.putO o2)
        clear K HM HD o1 o0 f1 f0 HO1
        generalize (w9.setCell ⟨W.heap.size + 1 + 1, 0, none⟩ (.int .u64 (o2.1 : Int))).setCell ⟨W.heap.size + 1 + 1, 1, none⟩ (.int .u64 (o2.2 : Int)) = w10 at *
        obtain ⟨⟨z1, z0⟩, f1, f0⟩ := K8.out.z
        go_wp2_with (go_at_call 52; refine (HQ.out.go _).mono ?_; rintro e w11 ⟨rfl, hb⟩; have K11 := hidT (K8.out.below hb); clear K8 hb z1 z0 f1 f0; obtain ⟨⟨z1, z0⟩, f1, f0⟩ := K11.out.z)
        refine ⟨⟨i + 1, hlt, HB1, by simp, ?_⟩, by simp [intOf]; omega⟩
        show Es _ _ _ _ _
        rw [← Hz2.out, ← Ho2.out]
        exact K11.out.putZ z2
    · obtain rfl : i = c.length := by omega
      have K9 := hidT K0.out
      obtain ⟨V, hV⟩ : ∃ V, V = evl l c x := ⟨_, rfl⟩
      have hV2 := hV
      rw [HEV.out HB.out] at hV2
      rw [← hV2] at K9
      have HV := hidT hV
      clear K0 HMM HDD HQQ HR HOO HEV HEN hV hV2
      generalize sqn x c.length = Z at *
      obtain ⟨⟨o1, o0⟩, _, _⟩ := K9.out.o
      obtain ⟨⟨r1, r0⟩, f1, f0⟩ := K9.out.r
      go_wp2
      refine bodyPost_ret (v := .agg #[.int .u64 (V.1 : Int), .int .u64 (V.2 : Int)]) (by simp [results, Try.results28, go_sem, *]) rfl ⟨by rw [HV.out], ?_⟩
      exact below2 (p := W.heap.size + 1) K9.out.d (by omega) _ _
theorem reval_any (l : Int) (a : Option Addr) (cap : Nat) (c : List (Nat × Nat)) (hc : ltE c) (h1 : c.length ≤ 1000) (x : Nat × Nat) (lx : lt2 x) (W : World) (hr : ERow W a c) :
    Calls Try.prog 28 #[.int .i64 l, .slice a c.length cap, .agg #[.int .u64 (x.1 : Int), .int .u64 (x.2 : Int)]] W fun e w' => e = .returned (.agg #[.int .u64 ((evl l c x).1 : Int), .int .u64 ((evl l c x).2 : Int)]) ∧ Below W.heap.size W w' := by
  cases ox : ofB l (x.1 : Int) (x.2 : Int)
  · rw [show evl l c x = (0, 0) from if_neg fun h => by rw [ox] at h; cases h.1]
    exact (reval_no l a c.length cap x lx ox).go W
  · exact reval_ok l a cap c hc h1 x lx ox W hr
end Go.Proofs.Ytnecjkdlmecgdaa
