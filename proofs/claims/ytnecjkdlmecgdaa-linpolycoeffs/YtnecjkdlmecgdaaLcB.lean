/- The contracts of linpoly.Eval and of the document's Eval over the seat's translation. -/
import Derived.Test.YtnecjkdlmecgdaaLcA
namespace Go.Proofs.Ytnecjkdlmecgdaa
open Go.RowKit
open Cb Rg Sq Lq
open Tw (pm)

/-- The value of a sum of powers of powers of 2, for any arguments. -/
def evl (l : Int) (c : List (Nat × Nat)) (x : Nat × Nat) : Nat × Nat := if ofB l (x.1 : Int) (x.2 : Int) = true ∧ (c.all fun e => ofB l (e.1 : Int) (e.2 : Int)) = true then ev c x c.length else (0, 0)
theorem ev_last (c : List (Nat × Nat)) (x : Nat × Nat) (i : Nat) : ev c x (i + 1) = xa (ev c x i) (pm (el c i) (sqn x i)) := rfl
theorem lt_ev (c : List (Nat × Nat)) (x : Nat × Nat) : ∀ n, lt2 (ev c x n) := fun n => lt_xs (fun _ => lt_pm _ _) n
theorem all_el {l : Int} {c : List (Nat × Nat)} (h : (c.all fun e => ofB l (e.1 : Int) (e.2 : Int)) = true) {i : Nat} (hi : i < c.length) : ofB l ((el c i).1 : Int) ((el c i).2 : Int) = true :=
  List.all_eq_true.1 h _ (by rw [show el c i = c[i] from by simp [el, hi]]; exact List.getElem_mem hi)
/-- The boxes of Eval: the power, the result, the sum; the factor. -/
structure Eg (W w : World) (s : Nat) (z o : Nat × Nat) (q : Nat) (u : Nat × Nat) : Prop where
  z : Ew w W.heap.size z.1 z.2
  r : Ew w (W.heap.size + 1) 0 0
  o : Ew w s o.1 o.2
  u : El w q u.1 u.2
  hs : W.heap.size + 1 < s
  hq : s < q
  d : Below W.heap.size W w
theorem Eg.below {W w w' : World} {s : Nat} {z o u : Nat × Nat} {q : Nat} (h : Eg W w s z o q u) (hb : Below w.heap.size w w') : Eg W w' s z o q u := ⟨h.z.below hb, h.r.below hb, h.o.below hb, h.u.below hb, h.hs, h.hq, h.d.trans (hb.mono h.d.size)⟩
theorem Eg.drew {W w : World} {s : Nat} {z o u : Nat × Nat} {q : Nat} (h : Eg W w s z o q u) : Eg W w.drew s z o q u := h.below (Below.refl _ _).drew
theorem Eg.facts {W w : World} {s : Nat} {z o u : Nat × Nat} {q : Nat} (h : Eg W w s z o q u) : w.cell? ⟨s, 0, none⟩ = some (.int .u64 (o.1 : Int)) ∧ w.cell? ⟨s, 1, none⟩ = some (.int .u64 (o.2 : Int)) ∧ w.cell? ⟨W.heap.size, 0, none⟩ = some (.int .u64 (z.1 : Int)) ∧ w.cell? ⟨W.heap.size, 1, none⟩ = some (.int .u64 (z.2 : Int)) ∧ w.cell? ⟨q, 0, none⟩ = some (.int .u64 (u.1 : Int)) ∧ w.cell? ⟨q, 1, none⟩ = some (.int .u64 (u.2 : Int)) := ⟨h.o.hi, h.o.lo, h.z.hi, h.z.lo, h.u.hi, h.u.lo⟩
/-- Between two rounds. -/
structure Eb (W w : World) (s : Nat) (z o : Nat × Nat) : Prop where
  z : Ew w W.heap.size z.1 z.2
  r : Ew w (W.heap.size + 1) 0 0
  o : Ew w s o.1 o.2
  hs : W.heap.size + 1 < s
  d : Below W.heap.size W w
theorem Eb.below {W w w' : World} {s : Nat} {z o : Nat × Nat} (h : Eb W w s z o) (hb : Below w.heap.size w w') : Eb W w' s z o := ⟨h.z.below hb, h.r.below hb, h.o.below hb, h.hs, h.d.trans (hb.mono h.d.size)⟩
theorem Eb.putO {W w : World} {s : Nat} {z o : Nat × Nat} (h : Eb W w s z o) (v : Nat × Nat) : Eb W ((w.setCell ⟨s, 0, none⟩ (.int .u64 (v.1 : Int))).setCell ⟨s, 1, none⟩ (.int .u64 (v.2 : Int))) s z v := ⟨h.z.other (by have := h.hs; omega) _ _, h.r.other (by have := h.hs; omega) _ _, h.o.set _ _, h.hs, below2 h.d (by have := h.hs; omega) _ _⟩
theorem Eb.putZ {W w : World} {s : Nat} {z o : Nat × Nat} (h : Eb W w s z o) (v : Nat × Nat) : Eb W ((w.setCell ⟨W.heap.size, 0, none⟩ (.int .u64 (v.1 : Int))).setCell ⟨W.heap.size, 1, none⟩ (.int .u64 (v.2 : Int))) s v o := ⟨h.z.set _ _, h.r.other (by omega) _ _, h.o.other (by have := h.hs; omega) _ _, h.hs, below2 h.d (by omega) _ _⟩
theorem Eg.b {W w : World} {s : Nat} {z o u : Nat × Nat} {q : Nat} (h : Eg W w s z o q u) : Eb W w s z o := ⟨h.z, h.r, h.o, h.hs, h.d⟩
set_option linter.unusedSimpArgs false in
set_option maxHeartbeats 8000000 in
set_option maxRecDepth 100000 in
theorem eval_ok (k : Nat) (hk : k < 8) (a : Option Addr) (cap : Nat) (c : List (Nat × Nat)) (hc : ltE c) (h1 : c.length ≤ 1000) (x : Nat × Nat) (lx : lt2 x) (ox : ofB (k : Int) (x.1 : Int) (x.2 : Int) = true) (oc : (c.all fun e => ofB (k : Int) (e.1 : Int) (e.2 : Int)) = true) (W : World) (hr : ERow W a c) :
    Calls Try.prog 27 #[.int .i64 (k : Int), .slice a c.length cap, .agg #[.int .u64 (x.1 : Int), .int .u64 (x.2 : Int)]] W fun e w' => e = .returned (.agg #[.int .u64 ((ev c x c.length).1 : Int), .int .u64 ((ev c x c.length).2 : Int)]) ∧ Below W.heap.size W w' := by
  have HO := hidT (of_ret (k : Int) x.1 x.2 lx.2)
  rw [ox] at HO
  have HA := hidT (fun w (hb : Below W.heap.size W w) => linall (k : Int) a cap c hc w (hr.below hb) (by omega))
  rw [oc] at HA
  have HR := hidT hr
  have HMM : Hid (∀ i, i < c.length → Ret 51 #[.int .i64 (k : Int), .agg #[.int .u64 ((el c i).1 : Int), .int .u64 ((el c i).2 : Int)], .agg #[.int .u64 ((sqn x i).1 : Int), .int .u64 ((sqn x i).2 : Int)]] (.agg #[.int .u64 ((pm (el c i) (sqn x i)).1 : Int), .int .u64 ((pm (el c i) (sqn x i)).2 : Int)])) := fun i hi => by
    have := mul_any (k : Int) (el c i) (sqn x i) (ltE_el hc i).1 (ltE_el hc i).2 (lt_sqn lx i).1 (lt_sqn lx i).2
    rw [show mulv (k : Int) (el c i) (sqn x i) = pm (el c i) (sqn x i) from if_pos ⟨all_el oc hi, of_sqn hk ox i⟩] at this
    exact this
  have HDD : Hid (∀ i, Ret 20 #[.agg #[.int .u64 ((ev c x i).1 : Int), .int .u64 ((ev c x i).2 : Int)], .agg #[.int .u64 ((pm (el c i) (sqn x i)).1 : Int), .int .u64 ((pm (el c i) (sqn x i)).2 : Int)]] (.agg #[.int .u64 ((ev c x (i + 1)).1 : Int), .int .u64 ((ev c x (i + 1)).2 : Int)])) := fun i => add_any _ _ _ _ (lt_ev c x i).1 (lt_ev c x i).2 (lt_pm _ _).1 (lt_pm _ _).2
  have HQQ : Hid (∀ i, Ret 55 #[.int .i64 (k : Int), .agg #[.int .u64 ((sqn x i).1 : Int), .int .u64 ((sqn x i).2 : Int)]] (.agg #[.int .u64 ((sqn x (i + 1)).1 : Int), .int .u64 ((sqn x (i + 1)).2 : Int)])) := fun i => by
    have := square_ret (k : Int) (sqn x i) (lt_sqn lx i).1 (lt_sqn lx i).2
    rw [show mulv (k : Int) (sqn x i) (sqn x i) = sqn x (i + 1) from if_pos ⟨of_sqn hk ox i, of_sqn hk ox i⟩] at this
    exact this
  have HE0 : Hid (ev c x 0 = (0, 0) ∧ sqn x 0 = x) := ⟨rfl, rfl⟩
  clear hr hc ox oc lx
  go_enter Try.func27, Try.ntmps27
  have D0 : Below W.heap.size W ((W.alloc (Obj.cells #[.int .u64 (x.1 : Int), .int .u64 (x.2 : Int)] 27)).alloc (Obj.cells #[.int .u64 0, .int .u64 0] 27)) := ((Below.refl _ _).alloc (Nat.le_refl _) _).alloc (by simp) _
  go_upto_region 3 with (first
    | (go_at_call 54; refine (HO.out.go _).mono ?_; rintro e w1 ⟨rfl, hb1⟩; have K1 : Hid (Ew w1 W.heap.size x.1 x.2 ∧ Ew w1 (W.heap.size + 1) 0 0 ∧ Below W.heap.size W w1 ∧ w1.heap.size = w1.heap.size) := ⟨Ew.below ⟨⟨by simp [go_sem], by simp [go_sem]⟩, by simp [go_sem], by simp [go_sem]⟩ hb1, Ew.below ⟨⟨by simp [go_sem], by simp [go_sem]⟩, by simp [go_sem], by simp [go_sem]⟩ hb1, D0.trans (hb1.mono (by simp; omega)), rfl⟩; clear hb1)
    | (go_at_call 41; refine (HA.out _ K1.out.2.2.1).mono ?_; rintro e w2 ⟨rfl, hb2⟩; have K2 : Hid (Ew w2 W.heap.size x.1 x.2 ∧ Ew w2 (W.heap.size + 1) 0 0 ∧ Below W.heap.size W w2) := ⟨K1.out.1.below hb2, K1.out.2.1.below hb2, K1.out.2.2.1.trans (hb2.mono K1.out.2.2.1.size)⟩; clear hb2 K1))
  go_wp2_with fail
  have K3 : Hid (Eb W (w2.alloc (Obj.cells #[.int .u64 0, .int .u64 0] 27)) w2.heap.size (sqn x 0) (ev c x 0)) := ⟨K2.out.1.below ((Below.refl _ _).alloc (Nat.le_refl _) _), K2.out.2.1.below ((Below.refl _ _).alloc (Nat.le_refl _) _), ⟨⟨by simp [go_sem, HE0.out], by simp [go_sem, HE0.out]⟩, by simp [go_sem], by simp [go_sem]⟩, K2.out.2.1.lt, K2.out.2.2.alloc K2.out.2.2.size _⟩
  clear K2 HO HA HE0 D0
  generalize w2.alloc (Obj.cells #[.int .u64 0, .int .u64 0] 27) = w3 at *
  generalize w2.heap.size = s at *
  go_loopw [23] (fun u wr => ∃ i : Nat, i ≤ c.length ∧ u = .int .i64 i ∧ Hid (Eb W wr s (sqn x i) (ev c x i))) (fun u _ => c.length - (intOf u).toNat)
  case atStart => exact ⟨0, Nat.zero_le _, rfl, K3⟩
  case round =>
    obtain ⟨i, hi, rfl, K0⟩ := hrel
    clear K3
    by_cases hlt : i < c.length
    · obtain ⟨b, off, rfl, _, y1', y0'⟩ := HR.out.cells i hlt
      have y1 := keepc K0.out.d y1'
      have y0 := keepc K0.out.d y0'
      replace y1 : wr.cell? ⟨b, off + i * 2, none⟩ = some (.int .u64 ((el c i).1 : Int)) := y1
      replace y0 : wr.cell? ⟨b, off + i * 2 + 1, none⟩ = some (.int .u64 ((el c i).2 : Int)) := y0
      have i1 : (i : Int) < (c.length : Int) := by omega
      have i0' : (0 : Int) ≤ (i : Int) := by omega
      have HM := hidT (HMM.out i hlt)
      have HD := hidT (HDD.out i)
      have HQ := hidT (HQQ.out i)
      clear HMM HDD HQQ HR y1' y0'
      generalize pm (el c i) (sqn x i) = v at *
      generalize el c i = u at *
      obtain ⟨z2, hz2⟩ : ∃ z2, z2 = sqn x (i + 1) := ⟨_, rfl⟩
      obtain ⟨o2, ho2⟩ : ∃ o2, o2 = ev c x (i + 1) := ⟨_, rfl⟩
      rw [← hz2] at HQ
      rw [← ho2] at HD
      have Hz2 := hidT hz2
      have Ho2 := hidT ho2
      clear hz2 ho2
      generalize sqn x i = z at *
      generalize ev c x i = o at *
      go_upto_region 7 with fail
      have K : Hid (Eg W (wr.alloc (Obj.cells #[.int .u64 (u.1 : Int), .int .u64 (u.2 : Int)] 27)) s z o wr.heap.size u) := ⟨K0.out.z.below ((Below.refl _ _).alloc (Nat.le_refl _) _), K0.out.r.below ((Below.refl _ _).alloc (Nat.le_refl _) _), K0.out.o.below ((Below.refl _ _).alloc (Nat.le_refl _) _), ⟨by simp [go_sem], by simp [go_sem]⟩, K0.out.hs, K0.out.o.lt, K0.out.d.alloc K0.out.d.size _⟩
      clear K0 y1 y0
      generalize wr.alloc (Obj.cells #[.int .u64 (u.1 : Int), .int .u64 (u.2 : Int)] 27) = w5 at *
      generalize wr.heap.size = q at *
      refine wp_region_noPanic ?_
      refine wp_region_peel (S := fun w => w.cell? ⟨s, 0, none⟩ = some (.int .u64 (o.1 : Int)) ∧ w.cell? ⟨s, 1, none⟩ = some (.int .u64 (o.2 : Int)) ∧ w.cell? ⟨W.heap.size, 0, none⟩ = some (.int .u64 (z.1 : Int)) ∧ w.cell? ⟨W.heap.size, 1, none⟩ = some (.int .u64 (z.2 : Int)) ∧ w.cell? ⟨q, 0, none⟩ = some (.int .u64 (u.1 : Int)) ∧ w.cell? ⟨q, 1, none⟩ = some (.int .u64 (u.2 : Int))) 6 (by kernel_rfl) rfl (by kernel_rfl) ?_ (fun hHeld => ?_)
      · exact (by first | exact K.out.facts | exact K.out.drew.facts)
      refine wpAnyH_take (i := 0) (oi := _) (v := ?_) rfl (by kernel_rfl) (by kernel_rfl) (by kernel_rfl) (fun _ _ _ h => h) (Or.inl ⟨by rfl, ?_⟩) (by assumption) ?_
      rotate_left
      · ((intro w hSw; (try dsimp only at hSw); go_simp) <;> (try with_reducible rfl))
      show wpAnyH _ _ _ _ _ _ _ (Act.put _ (some 27) _) _
      simp only [Act.put, List.setIfInBounds_toArray, List.set_cons_succ, List.set_cons_zero]
      refine wpAnyH_take (i := 1) (oi := _) (v := ?_) rfl (by kernel_rfl) (by kernel_rfl) (by kernel_rfl) (fun _ _ _ h => h) (Or.inl ⟨by rfl, ?_⟩) (by assumption) ?_
      rotate_left
      · ((intro w hSw; (try dsimp only at hSw); go_simp) <;> (try with_reducible rfl))
      show wpAnyH _ _ _ _ _ _ _ (Act.put _ (some 28) _) _
      simp only [Act.put, List.setIfInBounds_toArray, List.set_cons_succ, List.set_cons_zero]
      refine wpAnyH_take (i := 2) (oi := _) (v := ?_) rfl (by kernel_rfl) (by kernel_rfl) (by kernel_rfl) (fun _ _ _ h => h) (Or.inl ⟨by rfl, ?_⟩) (by assumption) ?_
      rotate_left
      · ((intro w hSw; (try dsimp only at hSw); go_simp) <;> (try with_reducible rfl))
      show wpAnyH _ _ _ _ _ _ _ (Act.put _ (some 29) _) _
      simp only [Act.put, List.setIfInBounds_toArray, List.set_cons_succ, List.set_cons_zero]
      refine wpAnyH_take (i := 3) (oi := _) (v := ?_) rfl (by kernel_rfl) (by kernel_rfl) (by kernel_rfl) (fun _ _ _ h => h) (Or.inl ⟨by rfl, ?_⟩) (by assumption) ?_
      rotate_left
      · ((intro w hSw; (try dsimp only at hSw); go_simp) <;> (try with_reducible rfl))
      show wpAnyH _ _ _ _ _ _ _ (Act.put _ (some 30) _) _
      simp only [Act.put, List.setIfInBounds_toArray, List.set_cons_succ, List.set_cons_zero]
      refine wpAnyH_ready (rs := [4]) (by kernel_rfl) (by simp) ?_
      refine AllReadyH.cons (o := _) rfl (fun KK hKK => ?_) AllReadyH.nil
      go_simp
      (go_at_call 51; refine (HM.out.go _).mono ?_; rintro e w9 ⟨rfl, hb⟩)
      have K'' := hidT (Eg.below (w' := w9) (by first | exact K.out | exact K.out.drew) hb); clear K hb; have K := K''; clear K''
      refine hKK.out _ _ ?_ (fun hHeld => ?_)
      · exact (by first | exact K.out.facts | exact K.out.drew.facts)
      clear hKK KK
      try simp only [Act.put]
      refine wpAnyH_ready (rs := [5]) (by kernel_rfl) (by simp) ?_
      refine AllReadyH.cons (o := _) rfl (fun KK hKK => ?_) AllReadyH.nil
      go_simp
      (go_at_call 20; refine (HD.out.go _).mono ?_; rintro e w9 ⟨rfl, hb⟩)
      have K'' := hidT (Eg.below (w' := w9) (by first | exact K.out | exact K.out.drew) hb); clear K hb; have K := K''; clear K''
      refine hKK.out _ _ ?_ (fun hHeld => ?_)
      · exact (by first | exact K.out.facts | exact K.out.drew.facts)
      clear hKK KK
      try simp only [Act.put]
      refine wpAnyH_done (by kernel_rfl) ?_ _
      refine peel_last rfl (fun KK hKK => ?_)
      clear hHeld
      obtain ⟨⟨o1, o0⟩, f1, f0⟩ := K.out.o
      go_simp
      refine hKK _ _ ?_
      refine NoPanic.normal ?_
      clear hKK KK
      have K8 := hidT (K.out.b.putO o2)
      clear K HM HD o1 o0 f1 f0
      generalize (w9.setCell ⟨s, 0, none⟩ (.int .u64 (o2.1 : Int))).setCell ⟨s, 1, none⟩ (.int .u64 (o2.2 : Int)) = w10 at *
      obtain ⟨⟨z1, z0⟩, f1, f0⟩ := K8.out.z
      go_wp2_with (go_at_call 55; refine (HQ.out.go _).mono ?_; rintro e w11 ⟨rfl, hb⟩; have K11 := hidT (K8.out.below hb); clear K8 hb z1 z0 f1 f0; obtain ⟨⟨z1, z0⟩, f1, f0⟩ := K11.out.z)
      refine ⟨⟨i + 1, hlt, by simp, ?_⟩, by simp [intOf]; omega⟩
      show Eb _ _ _ _ _
      rw [← Hz2.out, ← Ho2.out]
      exact K11.out.putZ z2
    · obtain rfl : i = c.length := by omega
      have K9 := hidT K0.out
      clear K0 HMM HDD HQQ HR
      obtain ⟨V, hV⟩ : ∃ V, V = ev c x c.length := ⟨_, rfl⟩
      rw [← hV] at K9
      have HV := hidT hV
      clear hV
      generalize sqn x c.length = Z at *
      obtain ⟨⟨o1, o0⟩, _, _⟩ := K9.out.o
      obtain ⟨⟨r1, r0⟩, f1, f0⟩ := K9.out.r
      go_wp2
      refine bodyPost_ret (v := .agg #[.int .u64 (V.1 : Int), .int .u64 (V.2 : Int)]) (by simp [results, Try.results27, go_sem, *]) rfl ⟨by rw [HV.out], ?_⟩
      exact below2 (p := W.heap.size + 1) K9.out.d (by omega) _ _
set_option maxHeartbeats 4000000 in
theorem eval_no (l : Int) (a : Option Addr) (cap : Nat) (c : List (Nat × Nat)) (hc : ltE c) (h1 : c.length ≤ 1000) (x : Nat × Nat) (lx : lt2 x) (h : ¬ (ofB l (x.1 : Int) (x.2 : Int) = true ∧ (c.all fun e => ofB l (e.1 : Int) (e.2 : Int)) = true)) (W : World) (hr : ERow W a c) :
    Calls Try.prog 27 #[.int .i64 l, .slice a c.length cap, .agg #[.int .u64 (x.1 : Int), .int .u64 (x.2 : Int)]] W fun e w' => e = .returned (.agg #[.int .u64 0, .int .u64 0]) ∧ Below W.heap.size W w' := by
  have HO := hidT (of_ret l x.1 x.2 lx.2)
  have HA := hidT (fun w (hb : Below W.heap.size W w) => linall l a cap c hc w (hr.below hb) (by omega))
  have D0 : Below W.heap.size W ((W.alloc (Obj.cells #[.int .u64 (x.1 : Int), .int .u64 (x.2 : Int)] 27)).alloc (Obj.cells #[.int .u64 0, .int .u64 0] 27)) := ((Below.refl _ _).alloc (Nat.le_refl _) _).alloc (by simp) _
  have D0z : W.heap.size + 1 + 1 ≤ (((W.alloc (Obj.cells #[.int .u64 (x.1 : Int), .int .u64 (x.2 : Int)] 27)).alloc (Obj.cells #[.int .u64 0, .int .u64 0] 27))).heap.size := by simp
  cases ox : ofB l (x.1 : Int) (x.2 : Int)
  · rw [ox] at HO
    clear h hr hc HA ox
    generalize c.length = n at *
    go_enter Try.func27, Try.ntmps27
    go_wp2_with (go_at_call 54; refine (HO.out.go _).mono ?_; rintro e w1 ⟨rfl, hb1⟩; have K1 := hidT (D0.trans (hb1.mono (by simp; omega))); have Kr : Ew w1 (W.heap.size + 1) 0 0 := Ew.below ⟨⟨by simp [go_sem], by simp [go_sem]⟩, by simp [go_sem], by simp [go_sem]⟩ hb1; obtain ⟨⟨r1, r0⟩, f1, f0⟩ := Kr; clear hb1)
    refine bodyPost_ret (v := .agg #[.int .u64 0, .int .u64 0]) (by simp [results, Try.results27, go_sem, *]) rfl ⟨rfl, ?_⟩
    exact below2 (p := W.heap.size + 1) K1.out (by omega) _ _
  · have hal : (c.all fun e => ofB l (e.1 : Int) (e.2 : Int)) = false := by
      cases hq : (c.all fun e => ofB l (e.1 : Int) (e.2 : Int))
      · rfl
      · exact absurd ⟨ox, hq⟩ h
    rw [ox] at HO
    rw [hal] at HA
    clear h hr hc ox hal
    generalize c.length = n at *
    go_enter Try.func27, Try.ntmps27
    go_wp2_with (first
      | (go_at_call 54; refine (HO.out.go _).mono ?_; rintro e w1 ⟨rfl, hb1⟩; have K1 : Hid (Ew w1 (W.heap.size + 1) 0 0 ∧ Below W.heap.size W w1) := ⟨Ew.below ⟨⟨by simp [go_sem], by simp [go_sem]⟩, by simp [go_sem], by simp [go_sem]⟩ hb1, D0.trans (hb1.mono (by simp; omega))⟩; clear hb1)
      | (go_at_call 41; refine (HA.out _ K1.out.2).mono ?_; rintro e w2 ⟨rfl, hb2⟩; have K2 : Hid (Ew w2 (W.heap.size + 1) 0 0 ∧ Below W.heap.size W w2) := ⟨K1.out.1.below hb2, K1.out.2.trans (hb2.mono K1.out.2.size)⟩; obtain ⟨⟨r1, r0⟩, f1, f0⟩ := K2.out.1; clear hb2 K1))
    refine bodyPost_ret (v := .agg #[.int .u64 0, .int .u64 0]) (by simp [results, Try.results27, go_sem, *]) rfl ⟨rfl, ?_⟩
    exact below2 (p := W.heap.size + 1) K2.out.2 (by omega) _ _
theorem ofB_lvl {l h v : Int} (hx : ofB l h v = true) : 0 ≤ l ∧ l ≤ 7 := by
  unfold ofB at hx
  cases hl : levelB l
  · rw [hl] at hx; simp at hx
  · unfold levelB at hl
    simp at hl
    exact hl
theorem eval_any (l : Int) (a : Option Addr) (cap : Nat) (c : List (Nat × Nat)) (hc : ltE c) (h1 : c.length ≤ 1000) (x : Nat × Nat) (lx : lt2 x) (W : World) (hr : ERow W a c) :
    Calls Try.prog 27 #[.int .i64 l, .slice a c.length cap, .agg #[.int .u64 (x.1 : Int), .int .u64 (x.2 : Int)]] W fun e w' => e = .returned (.agg #[.int .u64 ((evl l c x).1 : Int), .int .u64 ((evl l c x).2 : Int)]) ∧ Below W.heap.size W w' := by
  unfold evl
  by_cases h : ofB l (x.1 : Int) (x.2 : Int) = true ∧ (c.all fun e => ofB l (e.1 : Int) (e.2 : Int)) = true
  · rw [if_pos h]
    obtain ⟨h0, h7⟩ := ofB_lvl h.1
    obtain ⟨k, rfl⟩ : ∃ k : Nat, l = (k : Int) := ⟨l.toNat, by omega⟩
    exact eval_ok k (by omega) a cap c hc h1 x lx h.1 h.2 W hr
  · rw [if_neg h]
    exact eval_no l a cap c hc h1 x lx h W hr
end Go.Proofs.Ytnecjkdlmecgdaa
