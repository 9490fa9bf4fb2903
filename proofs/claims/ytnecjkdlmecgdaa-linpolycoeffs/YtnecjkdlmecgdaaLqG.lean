/- The document's Value and Norm of layer 5 over the seat's translation. -/
import Derived.Test.YtnecjkdlmecgdaaPTwIn
namespace Go.Proofs.Ytnecjkdlmecgdaa
open Go.RowKit
open Cb Rg Sq Lq
open Tw (pm)

theorem fp_step (f : Nat × Nat → Nat × Nat) (l : List (Nat × Nat)) (o : Nat × Nat) {j : Nat} (h : j < l.length) : fp f (l.take (j + 1)) o = pm (fp f (l.take j) o) (f (el l j)) := by
  unfold fp
  rw [take_el h, List.foldl_append]
  rfl
theorem El.otherG {w : World} {b c h l : Nat} (e : El w c h l) (hn : b ≠ c) (u v : Value) : El ((w.setCell ⟨b, 0, none⟩ u).setCell ⟨b, 1, none⟩ v) c h l := by
  obtain ⟨e1, e0⟩ := e
  have hn' : c ≠ b := fun h => hn h.symm
  exact ⟨by simp [go_sem, *], by simp [go_sem, *]⟩
/-- What Value holds. -/
structure Vq (W w : World) (q : Nat) (x o : Nat × Nat) (au : Option Addr) (U : List (Nat × Nat)) : Prop where
  x : El w W.heap.size x.1 x.2
  r : Ew w (W.heap.size + 1) 0 0
  o : Ew w q o.1 o.2
  row : ERow w au U
  far : 0 < U.length → ∀ g off, au = some ⟨g, off, none⟩ → g ≠ q
  hq : W.heap.size + 1 < q
  d : Below W.heap.size W w
theorem Vq.below {W w w' : World} {q : Nat} {x o : Nat × Nat} {au : Option Addr} {U : List (Nat × Nat)} (h : Vq W w q x o au U) (hb : Below w.heap.size w w') : Vq W w' q x o au U :=
  ⟨h.x.below hb, h.r.below hb, h.o.below hb, h.row.below hb, h.far, h.hq, h.d.trans (hb.mono h.d.size)⟩
theorem Vq.drew {W w : World} {q : Nat} {x o : Nat × Nat} {au : Option Addr} {U : List (Nat × Nat)} (h : Vq W w q x o au U) : Vq W w.drew q x o au U := h.below (Below.refl _ _).drew
theorem Vq.put {W w : World} {q : Nat} {x o : Nat × Nat} {au : Option Addr} {U : List (Nat × Nat)} (h : Vq W w q x o au U) (z : Nat × Nat) : Vq W ((w.setCell ⟨q, 0, none⟩ (.int .u64 (z.1 : Int))).setCell ⟨q, 1, none⟩ (.int .u64 (z.2 : Int))) q x z au U :=
  ⟨h.x.otherG (by have := h.hq; omega) _ _, h.r.other (by have := h.hq; omega) _ _, h.o.set _ _, h.row.offV h.far _ _ _ _, h.far, h.hq, below2 h.d (by have := h.hq; omega) _ _⟩
theorem Vq.facts {W w : World} {q : Nat} {x o : Nat × Nat} {g off : Nat} {U : List (Nat × Nat)} (h : Vq W w q x o (some ⟨g, off, none⟩) U) {i : Nat} (hi : i < U.length) : w.cell? ⟨q, 0, none⟩ = some (.int .u64 (o.1 : Int)) ∧ w.cell? ⟨q, 1, none⟩ = some (.int .u64 (o.2 : Int)) ∧ w.cell? ⟨W.heap.size, 0, none⟩ = some (.int .u64 (x.1 : Int)) ∧ w.cell? ⟨W.heap.size, 1, none⟩ = some (.int .u64 (x.2 : Int)) ∧ w.cell? ⟨g, off + i * 2, none⟩ = some (.int .u64 ((el U i).1 : Int)) ∧ w.cell? ⟨g, off + i * 2 + 1, none⟩ = some (.int .u64 ((el U i).2 : Int)) := by
  obtain ⟨g', o', e, _, h1, h2⟩ := h.row.cells i hi
  injection e with e; injection e with e1 e2; subst e1 e2
  exact ⟨h.o.hi, h.o.lo, h.x.hi, h.x.lo, h1, h2⟩
set_option maxHeartbeats 8000000 in
set_option maxRecDepth 100000 in
theorem rvalue05 (a : Option Addr) (cap n : Nat) (es : List (Nat × Nat)) (hes : ltE es) (hn : n ≤ es.length) (h6 : n ≤ 10) (x : Nat × Nat) (lx : lt2 x) (W : World) (hr : ERow W a es) :
    Calls Try.prog 24 #[.slice a es.length cap, .int .i64 (n : Int), .agg #[.int .u64 (x.1 : Int), .int .u64 (x.2 : Int)]] W fun e w' => e = .returned (.agg #[.int .u64 ((vw es n x).1 : Int), .int .u64 ((vw es n x).2 : Int)]) ∧ Below W.heap.size W w' := by
  have HPt := hidT (fun w (hb : Below W.heap.size W w) => rpoints05 a cap n es hes hn h6 (0, 0) lt_zero w (hr.below hb))
  have HU := hidT (lt_pts hes lt_zero n)
  have hU := pts_len es (0, 0) n
  have HV : Hid (fp (xa x) (pts es (0, 0) n) (0, 1) = vw es n x) := by show _ = _; rfl
  have HAd : Hid (∀ u : Nat × Nat, lt2 u → Ret 49 #[.agg #[.int .u64 (x.1 : Int), .int .u64 (x.2 : Int)], .agg #[.int .u64 (u.1 : Int), .int .u64 (u.2 : Int)]] (.agg #[.int .u64 ((xa x u).1 : Int), .int .u64 ((xa x u).2 : Int)])) := fun u lu => rsum x u lx lu
  have HPr : Hid (∀ o u : Nat × Nat, lt2 o → lt2 u → Ret 52 #[.agg #[.int .u64 (o.1 : Int), .int .u64 (o.2 : Int)], .agg #[.int .u64 (u.1 : Int), .int .u64 (u.2 : Int)]] (.agg #[.int .u64 ((pm o u).1 : Int), .int .u64 ((pm o u).2 : Int)])) := fun o u lo lu => rprod o u lo lu
  have HX : Hid (∀ u : Nat × Nat, lt2 u → lt2 (xa x u)) := fun u lu => lt_xa lx lu
  have h210 : 2 ^ n ≤ 1024 := Nat.pow_le_pow_right (by decide) (show n ≤ 10 by omega)
  clear hr hes lx
  generalize vw es n x = V at *
  generalize pts es (0, 0) n = U at *
  generalize 2 ^ n = M at *
  go_enter Try.func24, Try.ntmps24
  go_wp2_with fail
  have D0 : Below W.heap.size W (((W.alloc (Obj.cells #[.int .u64 (x.1 : Int), .int .u64 (x.2 : Int)] 39)).alloc (Obj.cells #[.int .u64 0, .int .u64 0] 39)).alloc (Obj.cells #[.int .u64 0, .int .u64 0] 39)) := (((Below.refl _ _).alloc (Nat.le_refl _) _).alloc (by simp) _).alloc (by simp; omega) _
  refine (HPt.out _ D0).mono ?_
  rintro e w1 ⟨au, cu, rfl, hrow, hb1⟩
  have K1 : Hid (El w1 W.heap.size x.1 x.2 ∧ Ew w1 (W.heap.size + 1) 0 0 ∧ ERow w1 au U ∧ Below W.heap.size W w1 ∧ W.heap.size + 1 < w1.heap.size) := ⟨El.below ⟨by simp [go_sem], by simp [go_sem]⟩ hb1, Ew.below ⟨⟨by simp [go_sem], by simp [go_sem]⟩, by simp [go_sem], by simp [go_sem]⟩ hb1, hrow, D0.trans (hb1.mono (by simp; omega)), by have := hb1.size; simp at this; omega⟩
  clear hrow hb1 D0 HPt
  go_wp2_with fail
  have K2 : Hid (Vq W (w1.alloc (Obj.cells #[.int .u64 0, .int .u64 1] 39)) w1.heap.size x (fp (xa x) (U.take 0) (0, 1)) au U) := ⟨K1.out.1.below ((Below.refl _ _).alloc (Nat.le_refl _) _), K1.out.2.1.below ((Below.refl _ _).alloc (Nat.le_refl _) _), ⟨⟨by simp [go_sem, fp], by simp [go_sem, fp]⟩, by simp [go_sem], by simp [go_sem]⟩, K1.out.2.2.1.below ((Below.refl _ _).alloc (Nat.le_refl _) _), fun h0 g off e => by
      obtain ⟨g', o', e', h1, _⟩ := K1.out.2.2.1.cells 0 h0
      rw [e] at e'
      injection e' with e'; injection e' with e1 e2; subst e1
      exact Nat.ne_of_lt h1, K1.out.2.2.2.2, K1.out.2.2.2.1.alloc K1.out.2.2.2.1.size _⟩
  clear K1
  generalize w1.alloc (Obj.cells #[.int .u64 0, .int .u64 1] 39) = w2 at *
  generalize w1.heap.size = q at *
  go_loopw [10] (fun u wr => ∃ i : Nat, i ≤ M ∧ u = .int .i64 i ∧ Hid (Vq W wr q x (fp (xa x) (U.take i) (0, 1)) au U)) (fun u _ => M - (intOf u).toNat)
  case atStart => exact ⟨0, Nat.zero_le _, rfl, K2⟩
  case round =>
    obtain ⟨i, hi, rfl, K⟩ := hrel
    clear K2
    by_cases hlt : i < M
    · obtain ⟨g, off, rfl, _, _, _⟩ := K.out.row.cells i (by omega)
      have i1 : (i : Int) < (M : Int) := by omega
      have i0' : (0 : Int) ≤ (i : Int) := by omega
      have hiU : i < U.length := by omega
      have HN : Hid (fp (xa x) (U.take (i + 1)) (0, 1) = pm (fp (xa x) (U.take i) (0, 1)) (xa x (el U i))) := fp_step _ _ _ hiU
      have HA := hidT (HAd.out _ (ltE_el HU.out i))
      have HP := hidT (HPr.out (fp (xa x) (U.take i) (0, 1)) _ (fp_lt _ _ _ lt_one) (HX.out _ (ltE_el HU.out i)))
      have KC : ∀ w, Vq W w q x (fp (xa x) (U.take i) (0, 1)) (some ⟨g, off, none⟩) U → w.cell? ⟨q, 0, none⟩ = some (.int .u64 ((fp (xa x) (U.take i) (0, 1)).1 : Int)) ∧ w.cell? ⟨q, 1, none⟩ = some (.int .u64 ((fp (xa x) (U.take i) (0, 1)).2 : Int)) ∧ w.cell? ⟨W.heap.size, 0, none⟩ = some (.int .u64 (x.1 : Int)) ∧ w.cell? ⟨W.heap.size, 1, none⟩ = some (.int .u64 (x.2 : Int)) ∧ w.cell? ⟨g, off + i * 2, none⟩ = some (.int .u64 ((el U i).1 : Int)) ∧ w.cell? ⟨g, off + i * 2 + 1, none⟩ = some (.int .u64 ((el U i).2 : Int)) := fun w h => h.facts hiU
      clear HAd HPr HX HU HV hU hiU
      generalize fp (xa x) (U.take i) (0, 1) = o at *
      generalize el U i = u at *
      generalize xa x u = A at *
      generalize pm o A = P at *
      go_upto_region 7 with fail
      refine wp_region_noPanic ?_
      refine wp_region_peel (S := fun w => w.cell? ⟨q, 0, none⟩ = some (.int .u64 (o.1 : Int)) ∧ w.cell? ⟨q, 1, none⟩ = some (.int .u64 (o.2 : Int)) ∧ w.cell? ⟨W.heap.size, 0, none⟩ = some (.int .u64 (x.1 : Int)) ∧ w.cell? ⟨W.heap.size, 1, none⟩ = some (.int .u64 (x.2 : Int)) ∧ w.cell? ⟨g, off + i * 2, none⟩ = some (.int .u64 (u.1 : Int)) ∧ w.cell? ⟨g, off + i * 2 + 1, none⟩ = some (.int .u64 (u.2 : Int))) 8 (by kernel_rfl) rfl (by kernel_rfl) ?_ (fun hHeld => ?_)
      · exact (by first | exact KC _ K.out | exact KC _ K.out.drew)
      refine wpAnyH_take (i := 0) (oi := _) (v := ?_) rfl (by kernel_rfl) (by kernel_rfl) (by kernel_rfl) (fun _ _ _ h => h) (Or.inl ⟨by rfl, ?_⟩) (by assumption) ?_
      rotate_left
      · ((intro w hSw; (try dsimp only at hSw); go_simp) <;> (try with_reducible rfl))
      show wpAnyH _ _ _ _ _ _ _ (Act.put _ (some 22) _) _
      simp only [Act.put, List.setIfInBounds_toArray, List.set_cons_succ, List.set_cons_zero]
      refine wpAnyH_take (i := 1) (oi := _) (v := ?_) rfl (by kernel_rfl) (by kernel_rfl) (by kernel_rfl) (fun _ _ _ h => h) (Or.inl ⟨by rfl, ?_⟩) (by assumption) ?_
      rotate_left
      · ((intro w hSw; (try dsimp only at hSw); go_simp) <;> (try with_reducible rfl))
      show wpAnyH _ _ _ _ _ _ _ (Act.put _ (some 23) _) _
      simp only [Act.put, List.setIfInBounds_toArray, List.set_cons_succ, List.set_cons_zero]
      refine wpAnyH_take (i := 2) (oi := _) (v := ?_) rfl (by kernel_rfl) (by kernel_rfl) (by kernel_rfl) (fun _ _ _ h => h) (Or.inl ⟨by rfl, ?_⟩) (by assumption) ?_
      rotate_left
      · ((intro w hSw; (try dsimp only at hSw); go_simp) <;> (try with_reducible rfl))
      show wpAnyH _ _ _ _ _ _ _ (Act.put _ (some 24) _) _
      simp only [Act.put, List.setIfInBounds_toArray, List.set_cons_succ, List.set_cons_zero]
      refine wpAnyH_take (i := 3) (oi := _) (v := ?_) rfl (by kernel_rfl) (by kernel_rfl) (by kernel_rfl) (fun _ _ _ h => h) (Or.inl ⟨by rfl, ?_⟩) (by assumption) ?_
      rotate_left
      · ((intro w hSw; (try dsimp only at hSw); go_simp) <;> (try with_reducible rfl))
      show wpAnyH _ _ _ _ _ _ _ (Act.put _ (some 25) _) _
      simp only [Act.put, List.setIfInBounds_toArray, List.set_cons_succ, List.set_cons_zero]
      refine wpAnyH_take (i := 4) (oi := _) (v := ?_) rfl (by kernel_rfl) (by kernel_rfl) (by kernel_rfl) (fun _ _ _ h => h) (Or.inl ⟨by rfl, ?_⟩) (by assumption) ?_
      rotate_left
      · ((intro w hSw; (try dsimp only at hSw); go_simp) <;> (try with_reducible rfl))
      show wpAnyH _ _ _ _ _ _ _ (Act.put _ (some 26) _) _
      simp only [Act.put, List.setIfInBounds_toArray, List.set_cons_succ, List.set_cons_zero]
      refine wpAnyH_take (i := 5) (oi := _) (v := ?_) rfl (by kernel_rfl) (by kernel_rfl) (by kernel_rfl) (fun _ _ _ h => h) (Or.inl ⟨by rfl, ?_⟩) (by assumption) ?_
      rotate_left
      · ((intro w hSw; (try dsimp only at hSw); go_simp) <;> (try with_reducible rfl))
      show wpAnyH _ _ _ _ _ _ _ (Act.put _ (some 27) _) _
      simp only [Act.put, List.setIfInBounds_toArray, List.set_cons_succ, List.set_cons_zero]
      refine wpAnyH_ready (rs := [6]) (by kernel_rfl) (by simp) ?_
      refine AllReadyH.cons (o := _) rfl (fun KK hKK => ?_) AllReadyH.nil
      go_simp
      (go_at_call 49; refine (HA.out.go _).mono ?_; rintro e w9 ⟨rfl, hb⟩)
      have K'' := hidT (Vq.below (w' := w9) (by first | exact K.out | exact K.out.drew) hb); clear K hb; have K := K''; clear K''
      refine hKK.out _ _ ?_ (fun hHeld => ?_)
      · exact (by first | exact KC _ K.out | exact KC _ K.out.drew)
      clear hKK KK
      try simp only [Act.put]
      refine wpAnyH_ready (rs := [7]) (by kernel_rfl) (by simp) ?_
      refine AllReadyH.cons (o := _) rfl (fun KK hKK => ?_) AllReadyH.nil
      go_simp
      (go_at_call 52; refine (HP.out.go _).mono ?_; rintro e w9 ⟨rfl, hb⟩)
      have K'' := hidT (Vq.below (w' := w9) (by first | exact K.out | exact K.out.drew) hb); clear K hb; have K := K''; clear K''
      refine hKK.out _ _ ?_ (fun hHeld => ?_)
      · exact (by first | exact KC _ K.out | exact KC _ K.out.drew)
      clear hKK KK
      try simp only [Act.put]
      refine wpAnyH_done (by kernel_rfl) ?_ _
      refine peel_last rfl (fun KK hKK => ?_)
      clear hHeld
      obtain ⟨⟨o1, o0⟩, f1, f0⟩ := K.out.o
      go_simp
      refine hKK _ _ ?_
      refine NoPanic.normal ?_
      clear hKK KK
      have HK := hidT (K.out.put P)
      clear K KC HA HP o1 o0 f1 f0
      generalize (w9.setCell ⟨q, 0, none⟩ (.int .u64 (P.1 : Int))).setCell ⟨q, 1, none⟩ (.int .u64 (P.2 : Int)) = w10 at *
      go_wp2
      refine ⟨⟨i + 1, hlt, by simp, ?_⟩, by simp [intOf]; omega⟩
      show Vq _ _ _ _ _ _ _
      rw [HN.out]
      exact HK.out
    · obtain rfl : M = i := by omega
      have K9 : Hid (Vq W wr q x V au U) := by
        have := K.out
        rw [List.take_of_length_le (by omega), HV.out] at this
        exact this
      clear K HAd HPr HX HU HV
      obtain ⟨⟨o1, o0⟩, _, _⟩ := K9.out.o
      obtain ⟨⟨r1, r0⟩, f1, f0⟩ := K9.out.r
      go_wp2
      refine bodyPost_ret (v := .agg #[.int .u64 (V.1 : Int), .int .u64 (V.2 : Int)]) (by simp [results, Try.results24, go_sem, *]) rfl ⟨rfl, ?_⟩
      exact below2 (p := W.heap.size + 1) K9.out.d (by omega) _ _
/-- What Norm holds. -/
structure Nq (W w : World) (x y : Nat × Nat) (g off n : Nat) : Prop where
  x : El w W.heap.size x.1 x.2
  r : Ew w (W.heap.size + 1) 0 0
  y1 : w.cell? ⟨g, off + n * 2, none⟩ = some (.int .u64 (y.1 : Int))
  y0 : w.cell? ⟨g, off + n * 2 + 1, none⟩ = some (.int .u64 (y.2 : Int))
  d : Below W.heap.size W w
theorem Nq.below {W w w' : World} {x y : Nat × Nat} {g off n : Nat} (h : Nq W w x y g off n) (hb : Below w.heap.size w w') : Nq W w' x y g off n :=
  ⟨h.x.below hb, h.r.below hb, keepc hb h.y1, keepc hb h.y0, h.d.trans (hb.mono h.d.size)⟩
theorem Nq.drew {W w : World} {x y : Nat × Nat} {g off n : Nat} (h : Nq W w x y g off n) : Nq W w.drew x y g off n := h.below (Below.refl _ _).drew
theorem Nq.facts {W w : World} {x y : Nat × Nat} {g off n : Nat} (h : Nq W w x y g off n) : w.cell? ⟨W.heap.size, 0, none⟩ = some (.int .u64 (x.1 : Int)) ∧ w.cell? ⟨W.heap.size, 1, none⟩ = some (.int .u64 (x.2 : Int)) ∧ w.cell? ⟨g, off + n * 2, none⟩ = some (.int .u64 (y.1 : Int)) ∧ w.cell? ⟨g, off + n * 2 + 1, none⟩ = some (.int .u64 (y.2 : Int)) := ⟨h.x.hi, h.x.lo, h.y1, h.y0⟩
theorem ivv_invv (l : Int) (y : Nat × Nat) : invv l y = ivv l y := by
  unfold ivv invv
  cases ofB l y.1 y.2 <;> rfl
theorem lt_ivv (l : Int) (y : Nat × Nat) : lt2 (ivv l y) := by
  unfold ivv; split
  · exact ⟨Tw.ivh_lt _ _, Tw.ivl_lt _ _⟩
  · exact lt_zero
set_option maxHeartbeats 8000000 in
set_option maxRecDepth 100000 in
theorem rnorm05 (l : Int) (a : Option Addr) (cap n : Nat) (es : List (Nat × Nat)) (hes : ltE es) (hn : n < es.length) (h6 : n ≤ 10) (x : Nat × Nat) (lx : lt2 x) (W : World) (hr : ERow W a es) :
    Calls Try.prog 25 #[.int .i64 l, .slice a es.length cap, .int .i64 (n : Int), .agg #[.int .u64 (x.1 : Int), .int .u64 (x.2 : Int)]] W fun e w' => e = .returned (.agg #[.int .u64 ((pm (vw es n x) (ivv l (vw es n (el es n)))).1 : Int), .int .u64 ((pm (vw es n x) (ivv l (vw es n (el es n)))).2 : Int)]) ∧ Below W.heap.size W w' := by
  have HX := hidT (fun w (hb : Below W.heap.size W w) => rvalue05 a cap n es hes (Nat.le_of_lt hn) h6 x lx w (hr.below hb))
  have HY := hidT (fun w (hb : Below W.heap.size W w) => rvalue05 a cap n es hes (Nat.le_of_lt hn) h6 (el es n) (ltE_el hes n) w (hr.below hb))
  have HI := hidT (rinv_any l (vw es n (el es n)) (lt_vw _ _ _).1 (lt_vw _ _ _).2)
  rw [ivv_invv] at HI
  have HP := hidT (rprod (vw es n x) (ivv l (vw es n (el es n))) (lt_vw _ _ _) (lt_ivv _ _))
  obtain ⟨g, off, rfl, _, d1, d0⟩ := hr.cells n hn
  replace d1 : W.cell? ⟨g, off + n * 2, none⟩ = some (.int .u64 ((el es n).1 : Int)) := d1
  replace d0 : W.cell? ⟨g, off + n * 2 + 1, none⟩ = some (.int .u64 ((el es n).2 : Int)) := d0
  have n1 : (n : Int) < (es.length : Int) := by omega
  have n0 : (0 : Int) ≤ (n : Int) := by omega
  clear hr hes lx
  generalize vw es n x = v at *
  generalize ivv l (vw es n (el es n)) = z at *
  generalize vw es n (el es n) = t at *
  generalize hyy : el es n = y at *
  generalize pm v z = P at *
  clear hyy
  go_enter Try.func25, Try.ntmps25
  go_upto_region 1 with fail
  have D0 : Below W.heap.size W ((W.alloc (Obj.cells #[.int .u64 (x.1 : Int), .int .u64 (x.2 : Int)] 39)).alloc (Obj.cells #[.int .u64 0, .int .u64 0] 39)) := ((Below.refl _ _).alloc (Nat.le_refl _) _).alloc (by simp) _
  have K : Hid (Nq W ((W.alloc (Obj.cells #[.int .u64 (x.1 : Int), .int .u64 (x.2 : Int)] 39)).alloc (Obj.cells #[.int .u64 0, .int .u64 0] 39)) x y g off n) := ⟨⟨by simp [go_sem], by simp [go_sem]⟩, ⟨⟨by simp [go_sem], by simp [go_sem]⟩, by simp [go_sem], by simp [go_sem]⟩, keepc D0 d1, keepc D0 d0, D0⟩
  clear D0 d1 d0
  generalize ((W.alloc (Obj.cells #[.int .u64 (x.1 : Int), .int .u64 (x.2 : Int)] 39)).alloc (Obj.cells #[.int .u64 0, .int .u64 0] 39)) = w0 at *
  refine wp_region_noPanic ?_
  refine wp_region_peel (S := fun w => w.cell? ⟨W.heap.size, 0, none⟩ = some (.int .u64 (x.1 : Int)) ∧ w.cell? ⟨W.heap.size, 1, none⟩ = some (.int .u64 (x.2 : Int)) ∧ w.cell? ⟨g, off + n * 2, none⟩ = some (.int .u64 (y.1 : Int)) ∧ w.cell? ⟨g, off + n * 2 + 1, none⟩ = some (.int .u64 (y.2 : Int))) 14 (by kernel_rfl) rfl (by kernel_rfl) ?_ (fun hHeld => ?_)
  · exact (by first | exact K.out.facts | exact K.out.drew.facts)
  refine wpAnyH_take (i := 0) (oi := _) (v := ?_) rfl (by kernel_rfl) (by kernel_rfl) (by kernel_rfl) (fun _ _ _ h => h) (Or.inl ⟨by rfl, ?_⟩) (by assumption) ?_
  rotate_left
  · ((intro w hSw; (try dsimp only at hSw); go_simp) <;> (try with_reducible rfl))
  show wpAnyH _ _ _ _ _ _ _ (Act.put _ (some 9) _) _
  simp only [Act.put, List.setIfInBounds_toArray, List.set_cons_succ, List.set_cons_zero]
  refine wpAnyH_take (i := 1) (oi := _) (v := ?_) rfl (by kernel_rfl) (by kernel_rfl) (by kernel_rfl) (fun _ _ _ h => h) (Or.inl ⟨by rfl, ?_⟩) (by assumption) ?_
  rotate_left
  · ((intro w hSw; (try dsimp only at hSw); go_simp) <;> (try with_reducible rfl))
  show wpAnyH _ _ _ _ _ _ _ (Act.put _ (some 10) _) _
  simp only [Act.put, List.setIfInBounds_toArray, List.set_cons_succ, List.set_cons_zero]
  refine wpAnyH_take (i := 2) (oi := _) (v := ?_) rfl (by kernel_rfl) (by kernel_rfl) (by kernel_rfl) (fun _ _ _ h => h) (Or.inl ⟨by rfl, ?_⟩) (by assumption) ?_
  rotate_left
  · ((intro w hSw; (try dsimp only at hSw); go_simp) <;> (try with_reducible rfl))
  show wpAnyH _ _ _ _ _ _ _ (Act.put _ (some 11) _) _
  simp only [Act.put, List.setIfInBounds_toArray, List.set_cons_succ, List.set_cons_zero]
  refine wpAnyH_take (i := 4) (oi := _) (v := ?_) rfl (by kernel_rfl) (by kernel_rfl) (by kernel_rfl) (fun _ _ _ h => h) (Or.inl ⟨by rfl, ?_⟩) (by assumption) ?_
  rotate_left
  · ((intro w hSw; (try dsimp only at hSw); go_simp) <;> (try with_reducible rfl))
  show wpAnyH _ _ _ _ _ _ _ (Act.put _ (some 13) _) _
  simp only [Act.put, List.setIfInBounds_toArray, List.set_cons_succ, List.set_cons_zero]
  refine wpAnyH_take (i := 5) (oi := _) (v := ?_) rfl (by kernel_rfl) (by kernel_rfl) (by kernel_rfl) (fun _ _ _ h => h) (Or.inl ⟨by rfl, ?_⟩) (by assumption) ?_
  rotate_left
  · ((intro w hSw; (try dsimp only at hSw); go_simp) <;> (try with_reducible rfl))
  show wpAnyH _ _ _ _ _ _ _ (Act.put _ (some 14) _) _
  simp only [Act.put, List.setIfInBounds_toArray, List.set_cons_succ, List.set_cons_zero]
  refine wpAnyH_take (i := 6) (oi := _) (v := ?_) rfl (by kernel_rfl) (by kernel_rfl) (by kernel_rfl) (fun _ _ _ h => h) (Or.inl ⟨by rfl, ?_⟩) (by assumption) ?_
  rotate_left
  · ((intro w hSw; (try dsimp only at hSw); go_simp) <;> (try with_reducible rfl))
  show wpAnyH _ _ _ _ _ _ _ (Act.put _ (some 15) _) _
  simp only [Act.put, List.setIfInBounds_toArray, List.set_cons_succ, List.set_cons_zero]
  refine wpAnyH_take (i := 7) (oi := _) (v := ?_) rfl (by kernel_rfl) (by kernel_rfl) (by kernel_rfl) (fun _ _ _ h => h) (Or.inl ⟨by rfl, ?_⟩) (by assumption) ?_
  rotate_left
  · ((intro w hSw; (try dsimp only at hSw); go_simp) <;> (try with_reducible rfl))
  show wpAnyH _ _ _ _ _ _ _ (Act.put _ (some 16) _) _
  simp only [Act.put, List.setIfInBounds_toArray, List.set_cons_succ, List.set_cons_zero]
  refine wpAnyH_take (i := 8) (oi := _) (v := ?_) rfl (by kernel_rfl) (by kernel_rfl) (by kernel_rfl) (fun _ _ _ h => h) (Or.inl ⟨by rfl, ?_⟩) (by assumption) ?_
  rotate_left
  · ((intro w hSw; (try dsimp only at hSw); go_simp) <;> (try with_reducible rfl))
  show wpAnyH _ _ _ _ _ _ _ (Act.put _ (some 17) _) _
  simp only [Act.put, List.setIfInBounds_toArray, List.set_cons_succ, List.set_cons_zero]
  refine wpAnyH_take (i := 9) (oi := _) (v := ?_) rfl (by kernel_rfl) (by kernel_rfl) (by kernel_rfl) (fun _ _ _ h => h) (Or.inl ⟨by rfl, ?_⟩) (by assumption) ?_
  rotate_left
  · ((intro w hSw; (try dsimp only at hSw); go_simp) <;> (try with_reducible rfl))
  show wpAnyH _ _ _ _ _ _ _ (Act.put _ (some 18) _) _
  simp only [Act.put, List.setIfInBounds_toArray, List.set_cons_succ, List.set_cons_zero]
  refine wpAnyH_take (i := 10) (oi := _) (v := ?_) rfl (by kernel_rfl) (by kernel_rfl) (by kernel_rfl) (fun _ _ _ h => h) (Or.inl ⟨by rfl, ?_⟩) (by assumption) ?_
  rotate_left
  · ((intro w hSw; (try dsimp only at hSw); go_simp) <;> (try with_reducible rfl))
  show wpAnyH _ _ _ _ _ _ _ (Act.put _ (some 19) _) _
  simp only [Act.put, List.setIfInBounds_toArray, List.set_cons_succ, List.set_cons_zero]
  refine wpAnyH_ready (rs := [3]) (by kernel_rfl) (by simp) ?_
  refine AllReadyH.cons (o := _) rfl (fun KK hKK => ?_) AllReadyH.nil
  go_simp
  (go_at_call 24; refine (HX.out _ (by first | exact K.out.d | exact K.out.drew.d)).mono ?_; rintro e w9 ⟨rfl, hb⟩)
  have K'' := hidT (Nq.below (w' := w9) (by first | exact K.out | exact K.out.drew) hb); clear K hb; have K := K''; clear K''
  refine hKK.out _ _ ?_ (fun hHeld => ?_)
  · exact (by first | exact K.out.facts | exact K.out.drew.facts)
  clear hKK KK
  try simp only [Act.put]
  refine wpAnyH_ready (rs := [11]) (by kernel_rfl) (by simp) ?_
  refine AllReadyH.cons (o := _) rfl (fun KK hKK => ?_) AllReadyH.nil
  go_simp
  (go_at_call 24; refine (HY.out _ (by first | exact K.out.d | exact K.out.drew.d)).mono ?_; rintro e w9 ⟨rfl, hb⟩)
  have K'' := hidT (Nq.below (w' := w9) (by first | exact K.out | exact K.out.drew) hb); clear K hb; have K := K''; clear K''
  refine hKK.out _ _ ?_ (fun hHeld => ?_)
  · exact (by first | exact K.out.facts | exact K.out.drew.facts)
  clear hKK KK
  try simp only [Act.put]
  refine wpAnyH_ready (rs := [12]) (by kernel_rfl) (by simp) ?_
  refine AllReadyH.cons (o := _) rfl (fun KK hKK => ?_) AllReadyH.nil
  go_simp
  (go_at_call 53; refine (HI.out.go _).mono ?_; rintro e w9 ⟨rfl, hb⟩)
  have K'' := hidT (Nq.below (w' := w9) (by first | exact K.out | exact K.out.drew) hb); clear K hb; have K := K''; clear K''
  refine hKK.out _ _ ?_ (fun hHeld => ?_)
  · exact (by first | exact K.out.facts | exact K.out.drew.facts)
  clear hKK KK
  try simp only [Act.put]
  refine wpAnyH_ready (rs := [13]) (by kernel_rfl) (by simp) ?_
  refine AllReadyH.cons (o := _) rfl (fun KK hKK => ?_) AllReadyH.nil
  go_simp
  (go_at_call 52; refine (HP.out.go _).mono ?_; rintro e w9 ⟨rfl, hb⟩)
  have K'' := hidT (Nq.below (w' := w9) (by first | exact K.out | exact K.out.drew) hb); clear K hb; have K := K''; clear K''
  refine hKK.out _ _ ?_ (fun hHeld => ?_)
  · exact (by first | exact K.out.facts | exact K.out.drew.facts)
  clear hKK KK
  try simp only [Act.put]
  refine wpAnyH_done (by kernel_rfl) ?_ _
  refine peel_last rfl (fun KK hKK => ?_)
  clear hHeld
  obtain ⟨⟨r1, r0⟩, f1, f0⟩ := K.out.r
  go_simp
  refine hKK _ _ ?_
  refine NoPanic.normal ?_
  clear hKK KK
  go_wp2
  refine bodyPost_ret (v := .agg #[.int .u64 (P.1 : Int), .int .u64 (P.2 : Int)]) (by simp [results, Try.results25, go_sem, *]) rfl ⟨rfl, ?_⟩
  exact below2 (p := W.heap.size + 1) K.out.d (by omega) _ _
end Go.Proofs.Ytnecjkdlmecgdaa
