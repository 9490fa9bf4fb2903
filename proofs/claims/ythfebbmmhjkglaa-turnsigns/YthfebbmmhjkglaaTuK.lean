/- The contract of turn.At over the seat's translation. -/
import Derived.Test.YthfebbmmhjkglaaTuJ
namespace Go.Proofs.Ythfebbmmhjkglaa
open Go.RowKit
open Cb
open Tw (pm)

theorem acm_congr (sg : Nat) {c c' : Nat → Nat × Nat} (f t : Nat → Nat × Nat) (h : ∀ b, b < 2 → c b = c' b) : ∀ m, m ≤ 4 → ∀ d, acm sg c f t m d = acm sg c' f t m d
  | 0, _, _ => rfl
  | m + 1, hm, d => by
    simp only [acm]
    rw [acm_congr sg f t h m (by omega) d, h (m / 2) (by omega)]
theorem Ew.offT {w : World} {b c h l : Nat} (e : Ew w c h l) (hn : b ≠ c) (o o' : Nat) (u v : Value) : Ew ((w.setCell ⟨b, o, none⟩ u).setCell ⟨b, o', none⟩ v) c h l := by
  obtain ⟨⟨h1, h2⟩, h3, h4⟩ := e
  have hn' : c ≠ b := fun h => hn h.symm
  exact ⟨⟨by simp [go_sem, *], by simp [go_sem, *]⟩, by simp [go_sem, *], by simp [go_sem, *]⟩
structure Ta (W w : World) (qc : Nat) (C : (Nat × Nat) × (Nat × Nat)) : Prop where
  c : E2 w qc (cf C)
  fc : F2 w qc
  r : Ew w W.heap.size 0 0
  q : W.heap.size < qc
  d : Below W.heap.size W w
theorem Ta.below {W w w' : World} {qc : Nat} {C : (Nat × Nat) × (Nat × Nat)} (h : Ta W w qc C) (hb : Below w.heap.size w w') : Ta W w' qc C := ⟨h.c.below hb, h.fc.below h.c hb, h.r.below hb, h.q, h.d.trans (hb.mono h.d.size)⟩
theorem Ta.drew {W w : World} {qc : Nat} {C : (Nat × Nat) × (Nat × Nat)} (h : Ta W w qc C) : Ta W w.drew qc C := h.below (Below.refl _ _).drew
theorem Ta.some8 {W w : World} {qc : Nat} {C : (Nat × Nat) × (Nat × Nat)} (h : Ta W w qc C) {b0 i0 b1 i1 : Nat} {x y : Nat × Nat} (e : W.cell? ⟨b0, i0, none⟩ = some (.int .u64 (x.1 : Int)) ∧ W.cell? ⟨b0, i0 + 1, none⟩ = some (.int .u64 (x.2 : Int)) ∧ W.cell? ⟨b1, i1, none⟩ = some (.int .u64 (y.1 : Int)) ∧ W.cell? ⟨b1, i1 + 1, none⟩ = some (.int .u64 (y.2 : Int))) :
    (w.cell? ⟨qc, 0, none⟩ = some (.int .u64 (C.1.1 : Int)) ∧ w.cell? ⟨qc, 1, none⟩ = some (.int .u64 (C.1.2 : Int)) ∧ w.cell? ⟨qc, 2, none⟩ = some (.int .u64 (C.2.1 : Int)) ∧ w.cell? ⟨qc, 3, none⟩ = some (.int .u64 (C.2.2 : Int))) ∧ w.cell? ⟨b0, i0, none⟩ = some (.int .u64 (x.1 : Int)) ∧ w.cell? ⟨b0, i0 + 1, none⟩ = some (.int .u64 (x.2 : Int)) ∧ w.cell? ⟨b1, i1, none⟩ = some (.int .u64 (y.1 : Int)) ∧ w.cell? ⟨b1, i1 + 1, none⟩ = some (.int .u64 (y.2 : Int)) :=
  ⟨⟨h.c.a1, h.c.a0, h.c.b1, h.c.b0⟩, keepc h.d e.1, keepc h.d e.2.1, keepc h.d e.2.2.1, keepc h.d e.2.2.2⟩
theorem E2.put4 {w : World} {q : Nat} {o : Nat → Nat × Nat} (h : E2 w q o) (g : F2 w q) (f : Nat → Nat × Nat) : E2 ((((w.setCell ⟨q, 0, none⟩ (.int .u64 ((f 0).1 : Int))).setCell ⟨q, 1, none⟩ (.int .u64 ((f 0).2 : Int))).setCell ⟨q, 2, none⟩ (.int .u64 ((f 1).1 : Int))).setCell ⟨q, 3, none⟩ (.int .u64 ((f 1).2 : Int))) q f ∧ F2 ((((w.setCell ⟨q, 0, none⟩ (.int .u64 ((f 0).1 : Int))).setCell ⟨q, 1, none⟩ (.int .u64 ((f 0).2 : Int))).setCell ⟨q, 2, none⟩ (.int .u64 ((f 1).1 : Int))).setCell ⟨q, 3, none⟩ (.int .u64 ((f 1).2 : Int))) q :=
  ⟨h.set4 f, (g.other _ _ _ _).other _ _ _ _⟩
theorem Ta.put {W w : World} {qc : Nat} {C : (Nat × Nat) × (Nat × Nat)} (h : Ta W w qc C) (R : (Nat × Nat) × (Nat × Nat)) : Ta W ((((w.setCell ⟨qc, 0, none⟩ (.int .u64 (R.1.1 : Int))).setCell ⟨qc, 1, none⟩ (.int .u64 (R.1.2 : Int))).setCell ⟨qc, 2, none⟩ (.int .u64 (R.2.1 : Int))).setCell ⟨qc, 3, none⟩ (.int .u64 (R.2.2 : Int))) qc R := by
  have hq := h.q
  have hp := h.c.put4 h.fc (cf R)
  exact ⟨hp.1, hp.2, (h.r.offT (by omega) _ _ _ _).offT (by omega) _ _ _ _, hq, (((h.d.setCell (by show _ ≤ qc; omega) _).setCell (by show _ ≤ qc; omega) _).setCell (by show _ ≤ qc; omega) _).setCell (by show _ ≤ qc; omega) _⟩
theorem Cy_of {m : Nat} (hm : m < 8) (rt : Bool) (p r : List (Nat × Nat)) (op : ofT m p) (or : ofT m r) (t c : Nat) : lt2 (cy rt p r t c) ∧ ofE m (cy rt p r t c) :=
  ⟨lt_xs (fun _ => lt_pm _ _) _, of_xs hm (f := fun y => pm (cr rt p t c y) (wt r y)) (fun y => of_pm hm (of_cr hm rt op t c y) (of_wtf hm r (0, 1) y or (ofe_one hm))) _⟩
set_option maxHeartbeats 20000000 in
set_option maxRecDepth 100000 in
theorem tat_ok (m : Nat) (hm : m < 8) (k : Int) (q t n : Nat) (hq : q ≤ 6) (hn : pw (q : Int) = n) (hf : ftB k (q : Int) (t : Int) = true) (a c : Option Addr) (cap cap2 : Nat) (p r : List (Nat × Nat)) (hp : ltE p) (hr : ltE r) (hl : p.length = q) (hl2 : r.length = q) (op : ofT m p) (or : ofT m r) (W : World) (ha : ERow W a p) (hc : ERow W c r) :
    Calls Try.prog 17 #[.int .i64 (m : Int), .int .i64 k, .int .i64 (q : Int), .int .i64 (t : Int), .slice a q cap, .slice c q cap2] W fun e w' => e = .returned (.tuple #[.agg #[.int .u64 ((sgn2 k p r t).1 : Int), .int .u64 ((sgn2 k p r t).2 : Int)], .int .i64 0]) ∧ Below W.heap.size W w' := by
  have hn1 := pw_le (w := (q : Int)) (by omega)
  rw [hn] at hn1
  obtain ⟨_, ⟨_, htn⟩, _⟩ := ftB_true hf
  rw [hn] at htn
  have HH : Hid (∀ w b, Below W.heap.size W w → w.cell? ⟨b, 0, none⟩ = some (.slice a q cap) → w.cell? ⟨b, 1, none⟩ = some (.slice c q cap2) → Calls Try.prog 42 #[.int .i64 (m : Int), .int .i64 k, .int .i64 (q : Int), .int .i64 (t : Int), .slice (some ⟨b, 0, none⟩) 2 2] w fun e w' => e = .returned (.int .i64 0) ∧ Below w.heap.size w w') := fun w b hb hc0 hc1 => by
    have := thind2 (m : Int) k q t hf b a c cap cap2 p r hp hr (by omega) (by omega) w (ha.below hb) (hc.below hb) (by rw [hl]; exact hc0) (by rw [hl2]; exact hc1)
    rw [show hd2 (m : Int) q p r = 0 by unfold hd2; rw [if_pos (by omega), if_pos hl, if_pos hl2, if_pos (List.all_eq_true.2 (fun e he => op e he)), if_pos (List.all_eq_true.2 (fun e he => or e he))]] at this
    exact this
  have H0 := Hid.mkT tstart
  obtain ⟨zz, hzz⟩ : ∃ z, z = sgn2 k p r t := ⟨_, rfl⟩
  rw [← hzz]
  have HZZ : Hid (zz = sgn2 k p r t) := hzz
  obtain ⟨rt, hrt⟩ : ∃ rt, rt = decide (k = 2) := ⟨_, rfl⟩
  have HRT : Hid (rt = decide (k = 2)) := hrt
  have HP : Hid (ltE p ∧ ltE r ∧ p.length = q ∧ r.length = q ∧ ofT m p ∧ ofT m r ∧ ERow W a p ∧ ERow W c r) := ⟨hp, hr, hl, hl2, op, or, ha, hc⟩
  clear hp hr hl hl2 op or ha hc hf hn hzz hrt
  go_enter Try.func17, Try.ntmps17
  go_wp2_with (first
    | (go_at_call 42; refine (HH.out _ _ (by go_grown) (by simp [go_sem]) (by simp [go_sem])).mono ?_; rintro e w1 ⟨rfl, hb1⟩; have D1 : Hid (Ew w1 W.heap.size 0 0 ∧ Below W.heap.size W w1) := ⟨Ew.below ⟨⟨by simp [go_sem], by simp [go_sem]⟩, by simp [go_sem], by simp [go_sem]⟩ hb1, (((Below.refl _ _).alloc (Nat.le_refl _) _).alloc (by simp) _).trans (hb1.mono (by simp; omega))⟩; clear hb1)
    | (go_at_call 43; refine (H0.out.go _).mono ?_; rintro e w2 ⟨rfl, hb2⟩; have D2 : Hid (Ew w2 W.heap.size 0 0 ∧ Below W.heap.size W w2) := ⟨D1.out.1.below hb2, D1.out.2.trans (hb2.mono D1.out.2.size)⟩; clear hb2 D1))
  have hqc : W.heap.size < w2.heap.size := D2.out.1.toEl.lt
  have K0 : Hid (Ta W (w2.alloc (Obj.cells #[.int .u64 0, .int .u64 1, .int .u64 0, .int .u64 0] 79)) w2.heap.size ((0, 1), (0, 0))) := ⟨E2.new w2 (cf ((0, 1), (0, 0))) _, F2.new w2 (cf ((0, 1), (0, 0))) _, D2.out.1.below ((Below.refl _ _).alloc (Nat.le_refl _) _), hqc, D2.out.2.alloc D2.out.2.size _⟩
  clear D2 HH H0 hqc
  generalize w2.heap.size = qc at *
  go_loopw [31] (fun u wr => ∃ (j : Nat) (C : (Nat × Nat) × (Nat × Nat)), j ≤ q ∧ u = .int .i64 j ∧ Hid (C = (cy rt (p.take j) (r.take j) t 0, cy rt (p.take j) (r.take j) t 1)) ∧ Hid (Ta W wr qc C)) (fun u _ => q - (intOf u).toNat)
  case atStart =>
    refine ⟨0, ((0, 1), (0, 0)), Nat.zero_le _, rfl, ?_, K0⟩
    show _ = _
    have h := cr_start rt t
    simp [cy, xs, h.1, h.2, zero_pm, zero_xa, wt, wtf, pm_one lt_one]
  case round =>
    obtain ⟨j, C, hj, rfl, HC, K⟩ := hrel
    clear K0
    by_cases hlt : j < q
    · obtain ⟨b0, off, rfl, hb0, d1, d0⟩ := HP.out.2.2.2.2.2.2.1.cells j (by rw [HP.out.2.2.1]; exact hlt)
      obtain ⟨b1, off1, rfl, hb1, g1, g0⟩ := HP.out.2.2.2.2.2.2.2.cells j (by rw [HP.out.2.2.2.1]; exact hlt)
      have HCE : Hid (W.cell? ⟨b0, off + j * 2, none⟩ = some (.int .u64 ((p.getD j (0, 0)).1 : Int)) ∧ W.cell? ⟨b0, off + j * 2 + 1, none⟩ = some (.int .u64 ((p.getD j (0, 0)).2 : Int)) ∧ W.cell? ⟨b1, off1 + j * 2, none⟩ = some (.int .u64 ((r.getD j (0, 0)).1 : Int)) ∧ W.cell? ⟨b1, off1 + j * 2 + 1, none⟩ = some (.int .u64 ((r.getD j (0, 0)).2 : Int))) := ⟨d1, d0, g1, g0⟩
      have hx : lt2 (p.getD j (0, 0)) ∧ ofE m (p.getD j (0, 0)) := ⟨HP.out.1.at j, HP.out.2.2.2.2.1.el hm j⟩
      have hy : lt2 (r.getD j (0, 0)) ∧ ofE m (r.getD j (0, 0)) := ⟨HP.out.2.1.at j, HP.out.2.2.2.2.2.1.el hm j⟩
      have HTP : Hid (p.take (j + 1) = p.take j ++ [p.getD j (0, 0)] ∧ r.take (j + 1) = r.take j ++ [r.getD j (0, 0)]) := ⟨take_sn p j (by rw [HP.out.2.2.1]; exact hlt), take_sn r j (by rw [HP.out.2.2.2.1]; exact hlt)⟩
      have hC2 : (lt2 C.1 ∧ ofE m C.1) ∧ lt2 C.2 ∧ ofE m C.2 := by
        rw [HC.out]
        exact ⟨Cy_of hm rt _ _ (fun e he => HP.out.2.2.2.2.1 e (List.mem_of_mem_take he)) (fun e he => HP.out.2.2.2.2.2.1 e (List.mem_of_mem_take he)) t 0, Cy_of hm rt _ _ (fun e he => HP.out.2.2.2.2.1 e (List.mem_of_mem_take he)) (fun e he => HP.out.2.2.2.2.2.1 e (List.mem_of_mem_take he)) t 1⟩
      obtain ⟨sg, hsg⟩ : ∃ sg, sg = t / 2 ^ j % 2 := ⟨_, rfl⟩
      have hsg2 : sg < 2 := by rw [hsg]; exact Nat.mod_lt _ (by decide)
      have HSG : Hid (sg = t / 2 ^ j % 2) := hsg
      have j1 : (j : Int) < (q : Int) := by omega
      have j0 : (0 : Int) ≤ (j : Int) := by omega
      obtain ⟨tj, htj⟩ : ∃ tj, tj = t / 2 ^ j := ⟨_, rfl⟩
      have htj2 : tj < 1000 := by rw [htj]; exact Nat.lt_of_le_of_lt (Nat.div_le_self _ _) (by omega)
      have e1 : (t : Int) / 2 ^ j = (tj : Int) := by rw [htj, show (2 : Int) ^ j = ((2 ^ j : Nat) : Int) by simp]; simp
      have e2 : bits .and .i64 (tj : Int) 1 = (sg : Int) := by rw [nand tj htj2, htj, HSG.out]
      clear d1 d0 g1 g0 hb0 hb1 hsg htj
      generalize p.getD j (0, 0) = x at *
      generalize r.getD j (0, 0) = y at *
      have SX := Hid.mkT (tsides x hx.1)
      have SY := Hid.mkT (tsides y hy.1)
      obtain ⟨R, hR⟩ : ∃ R : (Nat × Nat) × (Nat × Nat), R = ((if k = 2 then acm sg (cf C) (sd x) (sd y) 4 else acm sg (cf C) (sd y) (sd x) 4) 0, (if k = 2 then acm sg (cf C) (sd x) (sd y) 4 else acm sg (cf C) (sd y) (sd x) 4) 1) := ⟨_, rfl⟩
      have NX0 := nxt2_ok hm k sg hsg2 C hC2 x y hx hy
      have HR : Hid (R = (cy rt (p.take (j + 1)) (r.take (j + 1)) t 0, cy rt (p.take (j + 1)) (r.take (j + 1)) t 1)) := by
        show _ = _
        have hlen : (p.take j).length = j := by rw [List.length_take, HP.out.2.2.1]; omega
        have hlen2 : (p.take j).length = (r.take j).length := by rw [hlen, List.length_take, HP.out.2.2.2.1]; omega
        have hc0 : ∀ d, d < 2 → cy rt (p.take (j + 1)) (r.take (j + 1)) t d = (if k = 2 then acm sg (cf C) (sd x) (sd y) 4 else acm sg (cf C) (sd y) (sd x) 4) d := fun d hd => by
          rw [HTP.out.1, HTP.out.2, HRT.out, cy_next k (p.take j) (r.take j) x y hlen2 t d sg hd (by rw [hlen, HSG.out])]
          have ec : ∀ b, b < 2 → cf C b = cy rt (p.take j) (r.take j) t b := fun b hb => by
            rw [HC.out]
            obtain rfl | rfl : b = 0 ∨ b = 1 := by omega
            · rfl
            · rfl
          by_cases hk : k = 2
          · rw [if_pos hk, if_pos hk]
            rw [HRT.out, decide_eq_true hk] at ec
            exact acm_congr sg (sd x) (sd y) (fun b hb => (ec b hb).symm) 4 (by decide) d
          · rw [if_neg hk, if_neg hk]
            rw [HRT.out, decide_eq_false hk] at ec
            exact acm_congr sg (sd y) (sd x) (fun b hb => (ec b hb).symm) 4 (by decide) d
        rw [hR, hc0 0 (by decide), hc0 1 (by decide)]
      have NX : Hid (Ret 44 #[.agg #[.int .u64 (C.1.1 : Int), .int .u64 (C.1.2 : Int), .int .u64 (C.2.1 : Int), .int .u64 (C.2.2 : Int)], .int .i64 (m : Int), .int .i64 k, .int .i64 (sg : Int), .agg #[.int .u64 ((sd x 0).1 : Int), .int .u64 ((sd x 0).2 : Int), .int .u64 ((sd x 1).1 : Int), .int .u64 ((sd x 1).2 : Int)], .agg #[.int .u64 ((sd y 0).1 : Int), .int .u64 ((sd y 0).2 : Int), .int .u64 ((sd y 1).1 : Int), .int .u64 ((sd y 1).2 : Int)]] (.agg #[.int .u64 (R.1.1 : Int), .int .u64 (R.1.2 : Int), .int .u64 (R.2.1 : Int), .int .u64 (R.2.2 : Int)])) := by
        rw [hR]
        exact NX0
      unfold ag2 at SX SY
      clear NX0 hR hC2 hx hy
      generalize sd x = fx at *
      generalize sd y = fy at *
      go_upto_region 8 with fail
      refine wp_region_noPanic ?_
      refine wp_region_peel (S := fun w => (w.cell? ⟨qc, 0, none⟩ = some (.int .u64 (C.1.1 : Int)) ∧ w.cell? ⟨qc, 1, none⟩ = some (.int .u64 (C.1.2 : Int)) ∧ w.cell? ⟨qc, 2, none⟩ = some (.int .u64 (C.2.1 : Int)) ∧ w.cell? ⟨qc, 3, none⟩ = some (.int .u64 (C.2.2 : Int))) ∧ w.cell? ⟨b0, off + j * 2, none⟩ = some (.int .u64 (x.1 : Int)) ∧ w.cell? ⟨b0, off + j * 2 + 1, none⟩ = some (.int .u64 (x.2 : Int)) ∧ w.cell? ⟨b1, off1 + j * 2, none⟩ = some (.int .u64 (y.1 : Int)) ∧ w.cell? ⟨b1, off1 + j * 2 + 1, none⟩ = some (.int .u64 (y.2 : Int))) 18 (by kernel_rfl) rfl (by kernel_rfl) ?_ (fun hHeld => ?_)
      · exact K.out.some8 HCE.out
      refine wpAnyH_take (i := 0) (oi := _) (v := ?_) rfl (by kernel_rfl) (by kernel_rfl) (by kernel_rfl) (fun _ _ _ h => h) (Or.inl ⟨by rfl, ?_⟩) (by assumption) ?_
      rotate_left
      · ((intro w hSw; (try dsimp only at hSw); go_simp) <;> (try with_reducible rfl))
      try simp only [Act.put]
      refine wpAnyH_take (i := 1) (oi := _) (v := ?_) rfl (by kernel_rfl) (by kernel_rfl) (by kernel_rfl) (fun _ _ _ h => h) (Or.inl ⟨by rfl, ?_⟩) (by assumption) ?_
      rotate_left
      · ((intro w hSw; (try dsimp only at hSw); go_simp) <;> (try with_reducible rfl))
      try simp only [Act.put]
      refine wpAnyH_take (i := 2) (oi := _) (v := ?_) rfl (by kernel_rfl) (by kernel_rfl) (by kernel_rfl) (fun _ _ _ h => h) (Or.inl ⟨by rfl, ?_⟩) (by assumption) ?_
      rotate_left
      · ((intro w hSw; (try dsimp only at hSw); go_simp) <;> (try with_reducible rfl))
      try simp only [Act.put]
      refine wpAnyH_take (i := 3) (oi := _) (v := ?_) rfl (by kernel_rfl) (by kernel_rfl) (by kernel_rfl) (fun _ _ _ h => h) (Or.inl ⟨by rfl, ?_⟩) (by assumption) ?_
      rotate_left
      · ((intro w hSw; (try dsimp only at hSw); go_simp) <;> (try with_reducible rfl))
      try simp only [Act.put]
      refine wpAnyH_take (i := 4) (oi := _) (v := ?_) rfl (by kernel_rfl) (by kernel_rfl) (by kernel_rfl) (fun _ _ _ h => h) (Or.inl ⟨by rfl, ?_⟩) (by assumption) ?_
      rotate_left
      · ((intro w hSw; (try dsimp only at hSw); go_simp) <;> (try with_reducible rfl))
      try simp only [Act.put]
      refine wpAnyH_take (i := 5) (oi := _) (v := ?_) rfl (by kernel_rfl) (by kernel_rfl) (by kernel_rfl) (fun _ _ _ h => h) (Or.inl ⟨by rfl, ?_⟩) (by assumption) ?_
      rotate_left
      · ((intro w hSw; (try dsimp only at hSw); go_simp) <;> (try with_reducible rfl))
      try simp only [Act.put]
      refine wpAnyH_take (i := 6) (oi := _) (v := ?_) rfl (by kernel_rfl) (by kernel_rfl) (by kernel_rfl) (fun _ _ _ h => h) (Or.inl ⟨by rfl, ?_⟩) (by assumption) ?_
      rotate_left
      · ((intro w hSw; (try dsimp only at hSw); go_simp) <;> (try with_reducible rfl))
      try simp only [Act.put]
      refine wpAnyH_take (i := 7) (oi := _) (v := ?_) rfl (by kernel_rfl) (by kernel_rfl) (by kernel_rfl) (fun _ _ _ h => h) (Or.inl ⟨by rfl, ?_⟩) (by assumption) ?_
      rotate_left
      · ((intro w hSw; (try dsimp only at hSw); go_simp) <;> (try with_reducible rfl))
      try simp only [Act.put]
      refine wpAnyH_take (i := 8) (oi := _) (v := ?_) rfl (by kernel_rfl) (by kernel_rfl) (by kernel_rfl) (fun _ _ _ h => h) (Or.inl ⟨by rfl, ?_⟩) (by assumption) ?_
      rotate_left
      · ((intro w hSw; (try dsimp only at hSw); go_simp) <;> (try with_reducible rfl))
      try simp only [Act.put]
      refine wpAnyH_take (i := 9) (oi := _) (v := ?_) rfl (by kernel_rfl) (by kernel_rfl) (by kernel_rfl) (fun _ _ _ h => h) (Or.inl ⟨by rfl, ?_⟩) (by assumption) ?_
      rotate_left
      · ((intro w hSw; (try dsimp only at hSw); go_simp) <;> (try with_reducible rfl))
      try simp only [Act.put]
      refine wpAnyH_take (i := 10) (oi := _) (v := ?_) rfl (by kernel_rfl) (by kernel_rfl) (by kernel_rfl) (fun _ _ _ h => h) (Or.inl ⟨by rfl, ?_⟩) (by assumption) ?_
      rotate_left
      · ((intro w hSw; (try dsimp only at hSw); go_simp) <;> (try with_reducible rfl))
      try simp only [Act.put]
      refine wpAnyH_take (i := 12) (oi := _) (v := ?_) rfl (by kernel_rfl) (by kernel_rfl) (by kernel_rfl) (fun _ _ _ h => h) (Or.inl ⟨by rfl, ?_⟩) (by assumption) ?_
      rotate_left
      · ((intro w hSw; (try dsimp only at hSw); go_simp) <;> (try with_reducible rfl))
      try simp only [Act.put]
      refine wpAnyH_take (i := 13) (oi := _) (v := ?_) rfl (by kernel_rfl) (by kernel_rfl) (by kernel_rfl) (fun _ _ _ h => h) (Or.inl ⟨by rfl, ?_⟩) (by assumption) ?_
      rotate_left
      · ((intro w hSw; (try dsimp only at hSw); go_simp) <;> (try with_reducible rfl))
      try simp only [Act.put]
      refine wpAnyH_take (i := 14) (oi := _) (v := ?_) rfl (by kernel_rfl) (by kernel_rfl) (by kernel_rfl) (fun _ _ _ h => h) (Or.inl ⟨by rfl, ?_⟩) (by assumption) ?_
      rotate_left
      · ((intro w hSw; (try dsimp only at hSw); go_simp) <;> (try with_reducible rfl))
      try simp only [Act.put]
      refine wpAnyH_take (i := 15) (oi := _) (v := ?_) rfl (by kernel_rfl) (by kernel_rfl) (by kernel_rfl) (fun _ _ _ h => h) (Or.inl ⟨by rfl, ?_⟩) (by assumption) ?_
      rotate_left
      · ((intro w hSw; (try dsimp only at hSw); go_simp) <;> (try with_reducible rfl))
      try simp only [Act.put]
      refine wpAnyH_ready (rs := [11]) (by kernel_rfl) (by simp) ?_
      refine AllReadyH.cons (o := _) rfl (fun KK hKK => ?_) AllReadyH.nil
      go_simp
      ((go_at_call_of 45 (Value.int .u64 (x.1 : Int)); refine (SX.out.go _).mono ?_; rintro e w' ⟨rfl, hb'⟩))
      have K'' : Hid (Ta W w' qc C) := (by first | exact K.out.below hb' | exact K.out.drew.below hb')
      clear K hb'
      have K := K''
      clear K''
      refine hKK.out _ _ ?_ (fun hHeld => ?_)
      · exact K.out.some8 HCE.out
      clear hKK KK
      try simp only [Act.put]
      refine wpAnyH_ready (rs := [16]) (by kernel_rfl) (by simp) ?_
      refine AllReadyH.cons (o := _) rfl (fun KK hKK => ?_) AllReadyH.nil
      go_simp
      ((go_at_call 45; refine (SY.out.go _).mono ?_; rintro e w' ⟨rfl, hb'⟩))
      have K'' : Hid (Ta W w' qc C) := (by first | exact K.out.below hb' | exact K.out.drew.below hb')
      clear K hb'
      have K := K''
      clear K''
      refine hKK.out _ _ ?_ (fun hHeld => ?_)
      · exact K.out.some8 HCE.out
      clear hKK KK
      try simp only [Act.put]
      refine wpAnyH_ready (rs := [17]) (by kernel_rfl) (by simp) ?_
      refine AllReadyH.cons (o := _) rfl (fun KK hKK => ?_) AllReadyH.nil
      go_simp
      ((go_at_call 44; refine (NX.out.go _).mono ?_; rintro e w' ⟨rfl, hb'⟩))
      have K'' : Hid (Ta W w' qc C) := (by first | exact K.out.below hb' | exact K.out.drew.below hb')
      clear K hb'
      have K := K''
      clear K''
      refine hKK.out _ _ ?_ (fun hHeld => ?_)
      · exact K.out.some8 HCE.out
      clear hKK KK
      try simp only [Act.put]
      refine wpAnyH_done (by kernel_rfl) ?_ _
      refine peel_last rfl (fun KK hKK => ?_)
      clear hHeld
      obtain ⟨⟨k1, k2, k3, k4⟩, _, _, _, _⟩ := K.out.some8 HCE.out
      obtain ⟨y1, y2, y3, y4⟩ := K.out.fc
      go_simp
      refine hKK _ _ ?_
      refine NoPanic.normal ?_
      clear hKK KK
      clear k1 k2 k3 k4 y1 y2 y3 y4
      have K2 := Hid.mkT (K.out.put R)
      clear K
      go_wp2_with fail
      exact ⟨⟨j + 1, R, hlt, by simp, HR, K2⟩, by simp [intOf]; omega⟩
    · obtain rfl : j = q := by omega
      rw [List.take_of_length_le (by rw [HP.out.2.2.1]; exact Nat.le_refl _), List.take_of_length_le (by rw [HP.out.2.2.2.1]; exact Nat.le_refl _)] at HC
      have hlt2 : lt2 C.1 ∧ lt2 C.2 := by rw [HC.out]; exact ⟨lt_xs (fun _ => lt_pm _ _) _, lt_xs (fun _ => lt_pm _ _) _⟩
      have SG : Hid (Ret 46 #[.agg #[.int .u64 (C.1.1 : Int), .int .u64 (C.1.2 : Int), .int .u64 (C.2.1 : Int), .int .u64 (C.2.2 : Int)], .int .i64 k] (.agg #[.int .u64 (zz.1 : Int), .int .u64 (zz.2 : Int)])) := by
        have h := tsign k (cf C) hlt2.1 hlt2.2
        rw [show (if k = 3 then xa (cf C 0) (cf C 1) else cf C 0) = zz from by
          rw [HZZ.out, HC.out]
          unfold sgn2
          by_cases h3 : k = 3
          · rw [if_pos h3, if_pos h3, HRT.out, show decide (k = 2) = false from decide_eq_false (by omega)]
            rfl
          · rw [if_neg h3, if_neg h3, HRT.out]
            rfl] at h
        exact h
      obtain ⟨k1, k2, k3, k4⟩ : wr.cell? ⟨qc, 0, none⟩ = some (.int .u64 (C.1.1 : Int)) ∧ wr.cell? ⟨qc, 1, none⟩ = some (.int .u64 (C.1.2 : Int)) ∧ wr.cell? ⟨qc, 2, none⟩ = some (.int .u64 (C.2.1 : Int)) ∧ wr.cell? ⟨qc, 3, none⟩ = some (.int .u64 (C.2.2 : Int)) := ⟨K.out.c.a1, K.out.c.a0, K.out.c.b1, K.out.c.b0⟩
      clear HC hlt2 HZZ HRT HP
      go_wp2_with (go_at_call 46; refine (SG.out.go _).mono ?_; rintro e w9 ⟨rfl, hb9⟩; have K9 := Hid.mkT (K.out.below hb9); clear hb9 k1 k2 k3 k4; obtain ⟨⟨z1, z2⟩, z3, z4⟩ := K9.out.r)
      refine bodyPost_ret (v := .tuple #[.agg #[.int .u64 (zz.1 : Int), .int .u64 (zz.2 : Int)], .int .i64 0]) (by simp [results, Try.results17, go_sem, *]) rfl ⟨rfl, ?_⟩
      exact (K9.out.d.setCell (by simp) _).setCell (by simp) _
end Go.Proofs.Ythfebbmmhjkglaa
