/- The contract of packv.product over the seat's translation. -/
import Derived.Test.YtcejppibcemdeaaPvG
namespace Go.Proofs.Ytcejppibcemdeaa
open Go.RowKit
open Cb Rg
open Tw (pm)
namespace Pv

set_option linter.unusedSimpArgs false in
set_option linter.unusedVariables false in
set_option maxHeartbeats 8000000 in
set_option maxRecDepth 100000 in
theorem pr_zero (m : Nat) (hm : m < 8) (bs os cs bt ot ct : Nat) (s t : List (Nat × Nat)) (hs : s.length = 1) (ht : t.length = 1) (ls : ltE s) (lt : ltE t) (op : ofT m s) (oq : ofT m t) (h1 : 1 ≤ cs) (h2 : 1 ≤ ct) (W : World) (rs : ERow W (some ⟨bs, os, none⟩) s) (rt : ERow W (some ⟨bt, ot, none⟩) t) :
    Calls Try.prog 41 #[.int .i64 (m : Int), .slice (some ⟨bs, os, none⟩) 1 cs, .slice (some ⟨bt, ot, none⟩) 1 ct] W fun e w' => ∃ b2 off2 cap2 : Nat, e = .returned (.slice (some ⟨b2, off2, none⟩) 1 cap2) ∧ 1 ≤ cap2 ∧ ERow w' (some ⟨b2, off2, none⟩) [pm (el s 0) (el t 0)] ∧ Below W.heap.size W w' := by
  have MU : Hid (Ret 57 #[.int .i64 (m : Int), .agg #[.int .u64 ((el s 0).1 : Int), .int .u64 ((el s 0).2 : Int)], .agg #[.int .u64 ((el t 0).1 : Int), .int .u64 ((el t 0).2 : Int)]] (.agg #[.int .u64 ((pm (el s 0) (el t 0)).1 : Int), .int .u64 ((pm (el s 0) (el t 0)).2 : Int)])) := by
    have := mul_any (m : Int) (el s 0) (el t 0) (ltE_el ls 0).1 (ltE_el ls 0).2 (ltE_el lt 0).1 (ltE_el lt 0).2
    rw [mulv_of (op.el hm 0) (oq.el hm 0)] at this
    exact this
  obtain ⟨b', o', e, hb1, c1, c0⟩ := rs.cells 0 (by omega)
  injection e with e
  injection e with e1 e2
  subst e1
  subst e2
  obtain ⟨b', o', e, hb2, d1, d0⟩ := rt.cells 0 (by omega)
  injection e with e
  injection e with e1 e2
  subst e1
  subst e2
  rw [Nat.zero_mul, Nat.add_zero] at c1 c0 d1 d0
  have CC := hidT (fun (w : World) (hb : Below W.heap.size W w) => show w.cell? ⟨bs, os, none⟩ = some (.int .u64 ((el s 0).1 : Int)) ∧ w.cell? ⟨bs, os + 1, none⟩ = some (.int .u64 ((el s 0).2 : Int)) ∧ w.cell? ⟨bt, ot, none⟩ = some (.int .u64 ((el t 0).1 : Int)) ∧ w.cell? ⟨bt, ot + 1, none⟩ = some (.int .u64 ((el t 0).2 : Int)) from ⟨keepc hb c1, keepc hb c0, keepc hb d1, keepc hb d0⟩)
  clear c1 c0 d1 d0 hb1 hb2 rs rt ls lt op oq hs ht
  generalize pm (el s 0) (el t 0) = z at *
  generalize el s 0 = x at *
  generalize el t 0 = y at *
  go_enter Try.func41, Try.ntmps41
  go_upto_region 2 with fail
  refine wp_region_noPanic ?_
  refine wp_region_held_drew (S := fun w => w.cell? ⟨bs, os, none⟩ = some (.int .u64 (x.1 : Int)) ∧ w.cell? ⟨bs, os + 1, none⟩ = some (.int .u64 (x.2 : Int)) ∧ w.cell? ⟨bt, ot, none⟩ = some (.int .u64 (y.1 : Int)) ∧ w.cell? ⟨bt, ot + 1, none⟩ = some (.int .u64 (y.2 : Int))) (by kernel_rfl) (CC.out _ (Below.refl _ _).drew) (fun hHeld => ?_)
  refine wpAnyH_take (i := 0) (oi := _) (v := ?_) rfl (by kernel_rfl) (by kernel_rfl) (by kernel_rfl) (fun _ _ _ h => h) (Or.inl ⟨by rfl, ?_⟩) (by assumption) ?_
  rotate_left
  · ((intro w hSw; (try dsimp only at hSw); go_simp) <;> (try with_reducible rfl))
  show wpAnyH _ _ _ _ _ _ _ (Act.put _ (some 14) _) _
  simp only [Act.put, List.setIfInBounds_toArray, List.set_cons_succ, List.set_cons_zero]
  refine wpAnyH_take (i := 1) (oi := _) (v := ?_) rfl (by kernel_rfl) (by kernel_rfl) (by kernel_rfl) (fun _ _ _ h => h) (Or.inl ⟨by rfl, ?_⟩) (by assumption) ?_
  rotate_left
  · ((intro w hSw; (try dsimp only at hSw); go_simp) <;> (try with_reducible rfl))
  show wpAnyH _ _ _ _ _ _ _ (Act.put _ (some 15) _) _
  simp only [Act.put, List.setIfInBounds_toArray, List.set_cons_succ, List.set_cons_zero]
  refine wpAnyH_take (i := 2) (oi := _) (v := ?_) rfl (by kernel_rfl) (by kernel_rfl) (by kernel_rfl) (fun _ _ _ h => h) (Or.inl ⟨by rfl, ?_⟩) (by assumption) ?_
  rotate_left
  · ((intro w hSw; (try dsimp only at hSw); go_simp) <;> (try with_reducible rfl))
  show wpAnyH _ _ _ _ _ _ _ (Act.put _ (some 16) _) _
  simp only [Act.put, List.setIfInBounds_toArray, List.set_cons_succ, List.set_cons_zero]
  refine wpAnyH_take (i := 3) (oi := _) (v := ?_) rfl (by kernel_rfl) (by kernel_rfl) (by kernel_rfl) (fun _ _ _ h => h) (Or.inl ⟨by rfl, ?_⟩) (by assumption) ?_
  rotate_left
  · ((intro w hSw; (try dsimp only at hSw); go_simp) <;> (try with_reducible rfl))
  show wpAnyH _ _ _ _ _ _ _ (Act.put _ (some 17) _) _
  simp only [Act.put, List.setIfInBounds_toArray, List.set_cons_succ, List.set_cons_zero]
  refine wpAnyH_take (i := 4) (oi := _) (v := ?_) rfl (by kernel_rfl) (by kernel_rfl) (by kernel_rfl) (fun _ _ _ h => h) (Or.inl ⟨by rfl, ?_⟩) (by assumption) ?_
  rotate_left
  · ((intro w hSw; (try dsimp only at hSw); go_simp) <;> (try with_reducible rfl))
  show wpAnyH _ _ _ _ _ _ _ (Act.put _ (some 18) _) _
  simp only [Act.put, List.setIfInBounds_toArray, List.set_cons_succ, List.set_cons_zero]
  refine wpAnyH_take (i := 5) (oi := _) (v := ?_) rfl (by kernel_rfl) (by kernel_rfl) (by kernel_rfl) (fun _ _ _ h => h) (Or.inl ⟨by rfl, ?_⟩) (by assumption) ?_
  rotate_left
  · ((intro w hSw; (try dsimp only at hSw); go_simp) <;> (try with_reducible rfl))
  show wpAnyH _ _ _ _ _ _ _ (Act.put _ (some 19) _) _
  simp only [Act.put, List.setIfInBounds_toArray, List.set_cons_succ, List.set_cons_zero]
  refine wpAnyH_take (i := 6) (oi := _) (v := ?_) rfl (by kernel_rfl) (by kernel_rfl) (by kernel_rfl) (fun _ _ _ h => h) (Or.inl ⟨by rfl, ?_⟩) (by assumption) ?_
  rotate_left
  · ((intro w hSw; (try dsimp only at hSw); go_simp) <;> (try with_reducible rfl))
  show wpAnyH _ _ _ _ _ _ _ (Act.put _ (some 20) _) _
  simp only [Act.put, List.setIfInBounds_toArray, List.set_cons_succ, List.set_cons_zero]
  refine wpAnyH_ready (rs := [7]) (by kernel_rfl) (by simp) ?_
  refine AllReadyH.cons (o := _) rfl (fun KK hKK => ?_) AllReadyH.nil
  go_simp
  (go_at_call 57; refine (MU.out.go _).mono ?_; rintro e w1 ⟨rfl, hb1⟩)
  have K1 := hidT (show Below W.heap.size W w1 from ((Below.refl W.heap.size W).drew).trans hb1)
  clear hb1
  refine hKK.out _ _ ?_ (fun hHeld => ?_)
  · exact CC.out _ K1.out
  clear hKK KK
  try simp only [Act.put]
  refine wpAnyH_ready (rs := [8]) (by kernel_rfl) (by simp) ?_
  refine AllReadyH.cons (o := _) rfl (fun KK hKK => ?_) AllReadyH.nil
  go_simp
  (skip)
  skip
  refine hKK.out _ _ ?_ (fun hHeld => ?_)
  · exact CC.out _ (K1.out.alloc K1.out.size _)
  clear hKK KK
  try simp only [Act.put]
  refine wpAnyH_take (i := 9) (oi := _) (v := ?_) rfl (by kernel_rfl) (by kernel_rfl) (by kernel_rfl) (fun _ _ _ h => h) (Or.inl ⟨by rfl, ?_⟩) (by assumption) ?_
  rotate_left
  · ((intro w hSw; (try dsimp only at hSw); go_simp) <;> (try with_reducible rfl))
  show wpAnyH _ _ _ _ _ _ _ (Act.put _ (some 6) _) _
  simp only [Act.put, List.setIfInBounds_toArray, List.set_cons_succ, List.set_cons_zero]
  refine wpAnyH_done (by kernel_rfl) ?_ _
  refine NoPanic.normal ?_

  go_wp2
  go_ret
  refine ⟨_, 0, 1, rfl, Nat.le_refl _, ⟨fun i hi => ?_⟩, K1.out.alloc K1.out.size _⟩
  obtain rfl : i = 0 := by simpa using hi
  exact ⟨w1.heap.size, 0, rfl, by simp, by simp [go_sem], by simp [go_sem]⟩
set_option linter.unusedSimpArgs false in
set_option linter.unusedVariables false in
set_option maxHeartbeats 20000000 in
set_option maxRecDepth 100000 in
theorem pr_step (m h : Nat) (h0 : 0 < h) (n1 : h ≤ 64) (bs os cs bt ot ct : Nat) (hcs : h + h ≤ cs) (hct : h + h ≤ ct) (s t LO HI MI TH : List (Nat × Nat)) (hs : s.length = h + h) (ht : t.length = h + h) (ls : ltE s) (lt : ltE t)
    (hLO : LO.length = h ∧ ltE LO) (hHI : HI.length = h ∧ ltE HI) (hMI : MI.length = h ∧ ltE MI) (hTH : TH.length = h ∧ ltE TH) (W : World) (rs : ERow W (some ⟨bs, os, none⟩) s) (rt : ERow W (some ⟨bt, ot, none⟩) t)
    (P1 : Hid (∀ w, Below W.heap.size W w → Calls Try.prog 41 #[.int .i64 (m : Int), .slice (some ⟨bs, os, none⟩) h cs, .slice (some ⟨bt, ot, none⟩) h ct] w fun e w' => ∃ b2 off2 cap2 : Nat, e = .returned (.slice (some ⟨b2, off2, none⟩) h cap2) ∧ h ≤ cap2 ∧ ERow w' (some ⟨b2, off2, none⟩) LO ∧ Below w.heap.size w w'))
    (P2 : Hid (∀ w, Below W.heap.size W w → Calls Try.prog 41 #[.int .i64 (m : Int), .slice (some ⟨bs, os + h * 2, none⟩) h (cs - h), .slice (some ⟨bt, ot + h * 2, none⟩) h (ct - h)] w fun e w' => ∃ b2 off2 cap2 : Nat, e = .returned (.slice (some ⟨b2, off2, none⟩) h cap2) ∧ h ≤ cap2 ∧ ERow w' (some ⟨b2, off2, none⟩) HI ∧ Below w.heap.size w w'))
    (P3 : Hid (∀ w (p q : Nat), ERow w (some ⟨p, 0, none⟩) (addv 2 h [s.take h, s.drop h]) → ERow w (some ⟨q, 0, none⟩) (addv 2 h [t.take h, t.drop h]) → Calls Try.prog 41 #[.int .i64 (m : Int), .slice (some ⟨p, 0, none⟩) h h, .slice (some ⟨q, 0, none⟩) h h] w fun e w' => ∃ b2 off2 cap2 : Nat, e = .returned (.slice (some ⟨b2, off2, none⟩) h cap2) ∧ h ≤ cap2 ∧ ERow w' (some ⟨b2, off2, none⟩) MI ∧ Below w.heap.size w w'))
    (TX : Hid (∀ w (b off cap : Nat), h ≤ cap → ERow w (some ⟨b, off, none⟩) HI → Calls Try.prog 58 #[.slice (some ⟨b, off, none⟩) h cap] w fun e w' => ∃ b2 off2 cap2 : Nat, e = .returned (.slice (some ⟨b2, off2, none⟩) h cap2) ∧ h ≤ cap2 ∧ ERow w' (some ⟨b2, off2, none⟩) TH ∧ Below w.heap.size w w')) :
    Calls Try.prog 41 #[.int .i64 (m : Int), .slice (some ⟨bs, os, none⟩) (h + h) cs, .slice (some ⟨bt, ot, none⟩) (h + h) ct] W fun e w' => ∃ b2 off2 cap2 : Nat, e = .returned (.slice (some ⟨b2, off2, none⟩) (h + h) cap2) ∧ h + h ≤ cap2 ∧ ERow w' (some ⟨b2, off2, none⟩) (addv 2 h [HI, LO] ++ addv 4 h [MI, HI, LO, TH]) ∧ Below W.heap.size W w' := by
  have z1 : ¬ ((h : Int) + (h : Int)) = 1 := by omega
  have z2 : ((h : Int) + (h : Int)).tdiv 2 = (h : Int) := by rw [Int.tdiv_eq_ediv_of_nonneg (by omega)]; omega
  have z3 : (h : Int) ≤ (h : Int) + (h : Int) := by omega
  have z4 : ¬ cs = h := by omega
  have z5 : (h : Int) ≤ (cs : Int) := by omega
  have z6 : h ≤ cs := by omega
  have z7 : ¬ ct = h := by omega
  have z8 : (h : Int) ≤ (ct : Int) := by omega
  have z9 : h ≤ ct := by omega
  have HS := hidT (And.intro rs (And.intro ls (And.intro (show (s.drop h).length = h by rw [List.length_drop]; omega) (show (s.take h).length = h by rw [List.length_take]; omega))))
  have HT := hidT (And.intro rt (And.intro lt (And.intro (show (t.drop h).length = h by rw [List.length_drop]; omega) (show (t.take h).length = h by rw [List.length_take]; omega))))
  have HL := hidT (And.intro hLO (And.intro hHI (And.intro hMI hTH)))
  obtain ⟨i0, hi, hz0, hz1, hz2⟩ := info_elem
  have HI0 := hidT (show Try.prog.info? 24 = some i0 ∧ i0.zero = some (.agg #[.int .u64 0, .int .u64 0]) ∧ i0.size = 2 ∧ i0.bytes = 16 from ⟨hi, hz0, hz1, hz2⟩)
  clear hi hz0 hz1 hz2 rs rt ls lt hs ht hLO hHI hMI hTH
  go_enter Try.func41, Try.ntmps41
  go_upto_region 4 with fail
  refine wp_region_noPanic ?_
  refine wp_region_held_drew (S := fun _ => True) (by kernel_rfl) (trivial) (fun hHeld => ?_)
  refine wpAnyH_take (i := 0) (oi := _) (v := ?_) rfl (by kernel_rfl) (by kernel_rfl) (by kernel_rfl) (fun _ _ _ h => h) (Or.inl ⟨by rfl, ?_⟩) (by assumption) ?_
  rotate_left
  · ((intro w hSw; (try dsimp only at hSw); go_simp) <;> (try with_reducible rfl))
  show wpAnyH _ _ _ _ _ _ _ (Act.put _ (some 26) _) _
  simp only [Act.put, List.setIfInBounds_toArray, List.set_cons_succ, List.set_cons_zero]
  refine wpAnyH_take (i := 1) (oi := _) (v := ?_) rfl (by kernel_rfl) (by kernel_rfl) (by kernel_rfl) (fun _ _ _ h => h) (Or.inl ⟨by rfl, ?_⟩) (by assumption) ?_
  rotate_left
  · ((intro w hSw; (try dsimp only at hSw); go_simp) <;> (try with_reducible rfl))
  show wpAnyH _ _ _ _ _ _ _ (Act.put _ (some 27) _) _
  simp only [Act.put, List.setIfInBounds_toArray, List.set_cons_succ, List.set_cons_zero]
  refine wpAnyH_take (i := 2) (oi := _) (v := ?_) rfl (by kernel_rfl) (by kernel_rfl) (by kernel_rfl) (fun _ _ _ h => h) (Or.inl ⟨by rfl, ?_⟩) (by assumption) ?_
  rotate_left
  · ((intro w hSw; (try dsimp only at hSw); go_simp) <;> (try with_reducible rfl))
  show wpAnyH _ _ _ _ _ _ _ (Act.put _ (some 28) _) _
  simp only [Act.put, List.setIfInBounds_toArray, List.set_cons_succ, List.set_cons_zero]
  refine wpAnyH_take (i := 3) (oi := _) (v := ?_) rfl (by kernel_rfl) (by kernel_rfl) (by kernel_rfl) (fun _ _ _ h => h) (Or.inl ⟨by rfl, ?_⟩) (by assumption) ?_
  rotate_left
  · ((intro w hSw; (try dsimp only at hSw); go_simp) <;> (try with_reducible rfl))
  show wpAnyH _ _ _ _ _ _ _ (Act.put _ (some 29) _) _
  simp only [Act.put, List.setIfInBounds_toArray, List.set_cons_succ, List.set_cons_zero]
  refine wpAnyH_take (i := 4) (oi := _) (v := ?_) rfl (by kernel_rfl) (by kernel_rfl) (by kernel_rfl) (fun _ _ _ h => h) (Or.inl ⟨by rfl, ?_⟩) (by assumption) ?_
  rotate_left
  · ((intro w hSw; (try dsimp only at hSw); go_simp) <;> (try with_reducible rfl))
  show wpAnyH _ _ _ _ _ _ _ (Act.put _ (some 30) _) _
  simp only [Act.put, List.setIfInBounds_toArray, List.set_cons_succ, List.set_cons_zero]
  refine wpAnyH_take (i := 5) (oi := _) (v := ?_) rfl (by kernel_rfl) (by kernel_rfl) (by kernel_rfl) (fun _ _ _ h => h) (Or.inl ⟨by rfl, ?_⟩) (by assumption) ?_
  rotate_left
  · ((intro w hSw; (try dsimp only at hSw); go_simp) <;> (try with_reducible rfl))
  show wpAnyH _ _ _ _ _ _ _ (Act.put _ (some 31) _) _
  simp only [Act.put, List.setIfInBounds_toArray, List.set_cons_succ, List.set_cons_zero]
  refine wpAnyH_take (i := 6) (oi := _) (v := ?_) rfl (by kernel_rfl) (by kernel_rfl) (by kernel_rfl) (fun _ _ _ h => h) (Or.inl ⟨by rfl, ?_⟩) (by assumption) ?_
  rotate_left
  · ((intro w hSw; (try dsimp only at hSw); go_simp) <;> (try with_reducible rfl))
  show wpAnyH _ _ _ _ _ _ _ (Act.put _ (some 32) _) _
  simp only [Act.put, List.setIfInBounds_toArray, List.set_cons_succ, List.set_cons_zero]
  refine wpAnyH_ready (rs := [7]) (by kernel_rfl) (by simp) ?_
  refine AllReadyH.cons (o := _) rfl (fun KK hKK => ?_) AllReadyH.nil
  go_simp
  (go_at_call 41; refine (P1.out _ ((Below.refl W.heap.size W).drew)).mono ?_; rintro e w1 ⟨b1, o1, c1, rfl, hc1, hr1, hb1⟩)
  have K1 := hidT (show Below W.heap.size W w1 ∧ ERow w1 (some ⟨b1, o1, none⟩) LO ∧ h ≤ c1 from ⟨((Below.refl W.heap.size W).drew).trans hb1, hr1, hc1⟩)
  clear hr1 hb1 hc1
  refine hKK.out _ _ ?_ (fun hHeld => ?_)
  · exact trivial
  clear hKK KK
  try simp only [Act.put]
  refine wpAnyH_take (i := 8) (oi := _) (v := ?_) rfl (by kernel_rfl) (by kernel_rfl) (by kernel_rfl) (fun _ _ _ h => h) (Or.inl ⟨by rfl, ?_⟩) (by assumption) ?_
  rotate_left
  · ((intro w hSw; (try dsimp only at hSw); go_simp) <;> (try with_reducible rfl))
  show wpAnyH _ _ _ _ _ _ _ (Act.put _ (some 8) _) _
  simp only [Act.put, List.setIfInBounds_toArray, List.set_cons_succ, List.set_cons_zero]
  refine wpAnyH_done (by kernel_rfl) ?_ _
  refine NoPanic.normal ?_

  go_upto_region 5 with fail
  refine wp_region_noPanic ?_
  refine wp_region_held_drew (S := fun _ => True) (by kernel_rfl) (trivial) (fun hHeld => ?_)
  refine wpAnyH_take (i := 0) (oi := _) (v := ?_) rfl (by kernel_rfl) (by kernel_rfl) (by kernel_rfl) (fun _ _ _ h => h) (Or.inl ⟨by rfl, ?_⟩) (by assumption) ?_
  rotate_left
  · ((intro w hSw; (try dsimp only at hSw); go_simp) <;> (try with_reducible rfl))
  show wpAnyH _ _ _ _ _ _ _ (Act.put _ (some 34) _) _
  simp only [Act.put, List.setIfInBounds_toArray, List.set_cons_succ, List.set_cons_zero]
  refine wpAnyH_take (i := 1) (oi := _) (v := ?_) rfl (by kernel_rfl) (by kernel_rfl) (by kernel_rfl) (fun _ _ _ h => h) (Or.inl ⟨by rfl, ?_⟩) (by assumption) ?_
  rotate_left
  · ((intro w hSw; (try dsimp only at hSw); go_simp) <;> (try with_reducible rfl))
  show wpAnyH _ _ _ _ _ _ _ (Act.put _ (some 35) _) _
  simp only [Act.put, List.setIfInBounds_toArray, List.set_cons_succ, List.set_cons_zero]
  refine wpAnyH_take (i := 2) (oi := _) (v := ?_) rfl (by kernel_rfl) (by kernel_rfl) (by kernel_rfl) (fun _ _ _ h => h) (Or.inl ⟨by rfl, ?_⟩) (by assumption) ?_
  rotate_left
  · ((intro w hSw; (try dsimp only at hSw); go_simp) <;> (try with_reducible rfl))
  show wpAnyH _ _ _ _ _ _ _ (Act.put _ (some 36) _) _
  simp only [Act.put, List.setIfInBounds_toArray, List.set_cons_succ, List.set_cons_zero]
  refine wpAnyH_take (i := 3) (oi := _) (v := ?_) rfl (by kernel_rfl) (by kernel_rfl) (by kernel_rfl) (fun _ _ _ h => h) (Or.inl ⟨by rfl, ?_⟩) (by assumption) ?_
  rotate_left
  · ((intro w hSw; (try dsimp only at hSw); go_simp) <;> (try with_reducible rfl))
  show wpAnyH _ _ _ _ _ _ _ (Act.put _ (some 37) _) _
  simp only [Act.put, List.setIfInBounds_toArray, List.set_cons_succ, List.set_cons_zero]
  refine wpAnyH_take (i := 4) (oi := _) (v := ?_) rfl (by kernel_rfl) (by kernel_rfl) (by kernel_rfl) (fun _ _ _ h => h) (Or.inl ⟨by rfl, ?_⟩) (by assumption) ?_
  rotate_left
  · ((intro w hSw; (try dsimp only at hSw); go_simp) <;> (try with_reducible rfl))
  show wpAnyH _ _ _ _ _ _ _ (Act.put _ (some 38) _) _
  simp only [Act.put, List.setIfInBounds_toArray, List.set_cons_succ, List.set_cons_zero]
  refine wpAnyH_take (i := 5) (oi := _) (v := ?_) rfl (by kernel_rfl) (by kernel_rfl) (by kernel_rfl) (fun _ _ _ h => h) (Or.inl ⟨by rfl, ?_⟩) (by assumption) ?_
  rotate_left
  · ((intro w hSw; (try dsimp only at hSw); go_simp) <;> (try with_reducible rfl))
  show wpAnyH _ _ _ _ _ _ _ (Act.put _ (some 39) _) _
  simp only [Act.put, List.setIfInBounds_toArray, List.set_cons_succ, List.set_cons_zero]
  refine wpAnyH_take (i := 6) (oi := _) (v := ?_) rfl (by kernel_rfl) (by kernel_rfl) (by kernel_rfl) (fun _ _ _ h => h) (Or.inl ⟨by rfl, ?_⟩) (by assumption) ?_
  rotate_left
  · ((intro w hSw; (try dsimp only at hSw); go_simp) <;> (try with_reducible rfl))
  show wpAnyH _ _ _ _ _ _ _ (Act.put _ (some 40) _) _
  simp only [Act.put, List.setIfInBounds_toArray, List.set_cons_succ, List.set_cons_zero]
  refine wpAnyH_ready (rs := [7]) (by kernel_rfl) (by simp) ?_
  refine AllReadyH.cons (o := _) rfl (fun KK hKK => ?_) AllReadyH.nil
  go_simp
  (go_at_call 41; refine (P2.out _ K1.out.1.drew).mono ?_; rintro e w2 ⟨b2, o2, c2, rfl, hc2, hr2, hb2⟩)
  have FD := hidT (show Below W.heap.size W w2 from K1.out.1.drew.trans (hb2.mono K1.out.1.drew.size))
  have FL := hidT (show ERow w2 (some ⟨b1, o1, none⟩) LO from K1.out.2.1.drew.below hb2)
  have FH := hidT hr2
  have HC := hidT (And.intro K1.out.2.2 hc2)
  clear hr2 hb2 hc2 K1
  refine hKK.out _ _ ?_ (fun hHeld => ?_)
  · exact trivial
  clear hKK KK
  try simp only [Act.put]
  refine wpAnyH_take (i := 8) (oi := _) (v := ?_) rfl (by kernel_rfl) (by kernel_rfl) (by kernel_rfl) (fun _ _ _ h => h) (Or.inl ⟨by rfl, ?_⟩) (by assumption) ?_
  rotate_left
  · ((intro w hSw; (try dsimp only at hSw); go_simp) <;> (try with_reducible rfl))
  show wpAnyH _ _ _ _ _ _ _ (Act.put _ (some 9) _) _
  simp only [Act.put, List.setIfInBounds_toArray, List.set_cons_succ, List.set_cons_zero]
  refine wpAnyH_done (by kernel_rfl) ?_ _
  refine NoPanic.normal ?_

  go_upto_region 6 with fail
  refine wp_region_noPanic ?_
  refine wp_region_held_drew (S := fun _ => True) (by kernel_rfl) trivial (fun hHeld => ?_)
  refine wpAnyH_take (i := 0) (oi := _) (v := ?_) rfl (by kernel_rfl) (by kernel_rfl) (by kernel_rfl) (fun _ _ _ h => h) (Or.inl ⟨by rfl, ?_⟩) (by assumption) ?_
  rotate_left
  · ((intro w hSw; (try dsimp only at hSw); go_simp) <;> (try with_reducible rfl))
  show wpAnyH _ _ _ _ _ _ _ (Act.put _ (some 42) _) _
  simp only [Act.put, List.setIfInBounds_toArray, List.set_cons_succ, List.set_cons_zero]
  refine wpAnyH_take (i := 1) (oi := _) (v := ?_) rfl (by kernel_rfl) (by kernel_rfl) (by kernel_rfl) (fun _ _ _ h => h) (Or.inl ⟨by rfl, ?_⟩) (by assumption) ?_
  rotate_left
  · ((intro w hSw; (try dsimp only at hSw); go_simp) <;> (try with_reducible rfl))
  show wpAnyH _ _ _ _ _ _ _ (Act.put _ (some 43) _) _
  simp only [Act.put, List.setIfInBounds_toArray, List.set_cons_succ, List.set_cons_zero]
  refine wpAnyH_take (i := 2) (oi := _) (v := ?_) rfl (by kernel_rfl) (by kernel_rfl) (by kernel_rfl) (fun _ _ _ h => h) (Or.inl ⟨by rfl, ?_⟩) (by assumption) ?_
  rotate_left
  · ((intro w hSw; (try dsimp only at hSw); go_simp) <;> (try with_reducible rfl))
  show wpAnyH _ _ _ _ _ _ _ (Act.put _ (some 44) _) _
  simp only [Act.put, List.setIfInBounds_toArray, List.set_cons_succ, List.set_cons_zero]
  refine wpAnyH_take (i := 3) (oi := _) (v := ?_) rfl (by kernel_rfl) (by kernel_rfl) (by kernel_rfl) (fun _ _ _ h => h) (Or.inl ⟨by rfl, ?_⟩) (by assumption) ?_
  rotate_left
  · ((intro w hSw; (try dsimp only at hSw); go_simp) <;> (try with_reducible rfl))
  show wpAnyH _ _ _ _ _ _ _ (Act.put _ (some 45) _) _
  simp only [Act.put, List.setIfInBounds_toArray, List.set_cons_succ, List.set_cons_zero]
  refine wpAnyH_take (i := 4) (oi := _) (v := ?_) rfl (by kernel_rfl) (by kernel_rfl) (by kernel_rfl) (fun _ _ _ h => h) (Or.inl ⟨by rfl, ?_⟩) (by assumption) ?_
  rotate_left
  · ((intro w hSw; (try dsimp only at hSw); go_simp) <;> (try with_reducible rfl))
  show wpAnyH _ _ _ _ _ _ _ (Act.put _ (some 46) _) _
  simp only [Act.put, List.setIfInBounds_toArray, List.set_cons_succ, List.set_cons_zero]
  refine wpAnyH_take (i := 5) (oi := _) (v := ?_) rfl (by kernel_rfl) (by kernel_rfl) (by kernel_rfl) (fun _ _ _ h => h) (Or.inl ⟨by rfl, ?_⟩) (by assumption) ?_
  rotate_left
  · ((intro w hSw; (try dsimp only at hSw); go_simp) <;> (try with_reducible rfl))
  show wpAnyH _ _ _ _ _ _ _ (Act.put _ (some 47) _) _
  simp only [Act.put, List.setIfInBounds_toArray, List.set_cons_succ, List.set_cons_zero]
  refine wpAnyH_take (i := 6) (oi := _) (v := ?_) rfl (by kernel_rfl) (by kernel_rfl) (by kernel_rfl) (fun _ _ _ h => h) (Or.inl ⟨by rfl, ?_⟩) (by assumption) ?_
  rotate_left
  · ((intro w hSw; (try dsimp only at hSw); go_simp) <;> (try with_reducible rfl))
  show wpAnyH _ _ _ _ _ _ _ (Act.put _ (some 48) _) _
  simp only [Act.put, List.setIfInBounds_toArray, List.set_cons_succ, List.set_cons_zero]
  refine wpAnyH_take (i := 9) (oi := _) (v := ?_) rfl (by kernel_rfl) (by kernel_rfl) (by kernel_rfl) (fun _ _ _ h => h) (Or.inl ⟨by rfl, ?_⟩) (by assumption) ?_
  rotate_left
  · ((intro w hSw; (try dsimp only at hSw); go_simp) <;> (try with_reducible rfl))
  show wpAnyH _ _ _ _ _ _ _ (Act.put _ (some 51) _) _
  simp only [Act.put, List.setIfInBounds_toArray, List.set_cons_succ, List.set_cons_zero]
  refine wpAnyH_take (i := 10) (oi := _) (v := ?_) rfl (by kernel_rfl) (by kernel_rfl) (by kernel_rfl) (fun _ _ _ h => h) (Or.inl ⟨by rfl, ?_⟩) (by assumption) ?_
  rotate_left
  · ((intro w hSw; (try dsimp only at hSw); go_simp) <;> (try with_reducible rfl))
  show wpAnyH _ _ _ _ _ _ _ (Act.put _ (some 52) _) _
  simp only [Act.put, List.setIfInBounds_toArray, List.set_cons_succ, List.set_cons_zero]
  refine wpAnyH_take (i := 11) (oi := _) (v := ?_) rfl (by kernel_rfl) (by kernel_rfl) (by kernel_rfl) (fun _ _ _ h => h) (Or.inl ⟨by rfl, ?_⟩) (by assumption) ?_
  rotate_left
  · ((intro w hSw; (try dsimp only at hSw); go_simp) <;> (try with_reducible rfl))
  show wpAnyH _ _ _ _ _ _ _ (Act.put _ (some 53) _) _
  simp only [Act.put, List.setIfInBounds_toArray, List.set_cons_succ, List.set_cons_zero]
  refine wpAnyH_take (i := 12) (oi := _) (v := ?_) rfl (by kernel_rfl) (by kernel_rfl) (by kernel_rfl) (fun _ _ _ h => h) (Or.inl ⟨by rfl, ?_⟩) (by assumption) ?_
  rotate_left
  · ((intro w hSw; (try dsimp only at hSw); go_simp) <;> (try with_reducible rfl))
  show wpAnyH _ _ _ _ _ _ _ (Act.put _ (some 54) _) _
  simp only [Act.put, List.setIfInBounds_toArray, List.set_cons_succ, List.set_cons_zero]
  refine wpAnyH_take (i := 13) (oi := _) (v := ?_) rfl (by kernel_rfl) (by kernel_rfl) (by kernel_rfl) (fun _ _ _ h => h) (Or.inl ⟨by rfl, ?_⟩) (by assumption) ?_
  rotate_left
  · ((intro w hSw; (try dsimp only at hSw); go_simp) <;> (try with_reducible rfl))
  show wpAnyH _ _ _ _ _ _ _ (Act.put _ (some 55) _) _
  simp only [Act.put, List.setIfInBounds_toArray, List.set_cons_succ, List.set_cons_zero]
  refine wpAnyH_take (i := 14) (oi := _) (v := ?_) rfl (by kernel_rfl) (by kernel_rfl) (by kernel_rfl) (fun _ _ _ h => h) (Or.inl ⟨by rfl, ?_⟩) (by assumption) ?_
  rotate_left
  · ((intro w hSw; (try dsimp only at hSw); go_simp) <;> (try with_reducible rfl))
  show wpAnyH _ _ _ _ _ _ _ (Act.put _ (some 56) _) _
  simp only [Act.put, List.setIfInBounds_toArray, List.set_cons_succ, List.set_cons_zero]
  refine wpAnyH_ready (rs := [7, 15]) (by kernel_rfl) (by simp) ?_
  refine AllReadyH.cons (o := _) rfl (fun KK hKK => ?_) (AllReadyH.cons (o := _) rfl (fun KK hKK => ?_) AllReadyH.nil)
  ·
    go_simp
    refine hKK.out _ _ trivial (fun hHeld => ?_)
    clear hKK KK
    try simp only [Act.put]
    obtain ⟨ww1, hww1⟩ : ∃ x, x = (World.alloc w2 (Obj.cells #[.slice (some ⟨bs, os, none⟩) h cs, .slice (some ⟨bs, os + h * 2, none⟩) h (cs - h)] 26)).drew := ⟨_, rfl⟩
    rw [← hww1]
    have hb : Below w2.heap.size w2 ww1 := hww1 ▸ ((Below.refl _ _).alloc (Nat.le_refl _) _).drew
    have FDn := hidT (show Below W.heap.size W ww1 from FD.out.trans (hb.mono FD.out.size))
    have FLn := hidT (show ERow ww1 (some ⟨b1, o1, none⟩) LO from FL.out.below hb)
    have FHn := hidT (show ERow ww1 (some ⟨b2, o2, none⟩) HI from FH.out.below hb)
    clear FD
    have FD := FDn
    clear FDn
    clear FL
    have FL := FLn
    clear FLn
    clear FH
    have FH := FHn
    clear FHn
    have G1 := hidT (show Grid ww1 (some ⟨w2.heap.size, 0, none⟩) [(some ⟨bs, os, none⟩, h, cs), (some ⟨bs, os + h * 2, none⟩, h, cs - h)] from hww1 ▸ (grid_new w2 _ [(some ⟨bs, os, none⟩, h, cs), (some ⟨bs, os + h * 2, none⟩, h, cs - h)] _ rfl).below (Below.refl _ _).drew)
    clear hb hww1
    refine wpAnyH_ready (rs := [8, 15]) (by kernel_rfl) (by simp) ?_
    refine AllReadyH.cons (o := _) rfl (fun KK hKK => ?_) (AllReadyH.cons (o := _) rfl (fun KK hKK => ?_) AllReadyH.nil)
    ·
      go_simp
      (go_at_call 40; refine (added_row (some ⟨w2.heap.size, 0, none⟩) 2 2 h [(some ⟨bs, os, none⟩, h, cs), (some ⟨bs, os + h * 2, none⟩, h, cs - h)] [s.take h, s.drop h] rfl (by decide) (by decide) rfl (by omega) (fun i hi => by
        match i, hi with
        | 0, _ => exact Nat.le_of_eq HS.out.2.2.2.symm
        | 1, _ => exact Nat.le_of_eq HS.out.2.2.1.symm) ww1 G1.out (fun i hi => by
        match i, hi with
        | 0, _ => exact ⟨HS.out.2.2.2.symm, lt_take HS.out.2.1 h, erow_take h (HS.out.1.below FD.out)⟩
        | 1, _ => exact ⟨HS.out.2.2.1.symm, lt_drop HS.out.2.1 h, erow_drop h (HS.out.1.below FD.out)⟩)).mono ?_; rintro e ww2 ⟨q1, rfl, ⟨hr, _, _⟩, _, hb⟩)
      clear G1
      have FDn := hidT (show Below W.heap.size W ww2 from FD.out.trans (hb.mono FD.out.size))
      have FLn := hidT (show ERow ww2 (some ⟨b1, o1, none⟩) LO from FL.out.below hb)
      have FHn := hidT (show ERow ww2 (some ⟨b2, o2, none⟩) HI from FH.out.below hb)
      clear FD
      have FD := FDn
      clear FDn
      clear FL
      have FL := FLn
      clear FLn
      clear FH
      have FH := FHn
      clear FHn
      have R1 := hidT hr
      clear hr hb
      refine hKK.out _ _ trivial (fun hHeld => ?_)
      clear hKK KK
      try simp only [Act.put]
      refine wpAnyH_ready (rs := [15]) (by kernel_rfl) (by simp) ?_
      refine AllReadyH.cons (o := _) rfl (fun KK hKK => ?_) AllReadyH.nil
      go_simp
      refine hKK.out _ _ trivial (fun hHeld => ?_)
      clear hKK KK
      try simp only [Act.put]
      obtain ⟨ww3, hww3⟩ : ∃ x, x = World.alloc ww2 (Obj.cells #[.slice (some ⟨bt, ot, none⟩) h ct, .slice (some ⟨bt, ot + h * 2, none⟩) h (ct - h)] 26) := ⟨_, rfl⟩
      rw [← hww3]
      have hb : Below ww2.heap.size ww2 ww3 := hww3 ▸ ((Below.refl _ _).alloc (Nat.le_refl _) _)
      have FDn := hidT (show Below W.heap.size W ww3 from FD.out.trans (hb.mono FD.out.size))
      have FLn := hidT (show ERow ww3 (some ⟨b1, o1, none⟩) LO from FL.out.below hb)
      have FHn := hidT (show ERow ww3 (some ⟨b2, o2, none⟩) HI from FH.out.below hb)
      have R1n := hidT (show ERow ww3 (some ⟨q1, 0, none⟩) (addv 2 h [s.take h, s.drop h]) from R1.out.below hb)
      clear FD
      have FD := FDn
      clear FDn
      clear FL
      have FL := FLn
      clear FLn
      clear FH
      have FH := FHn
      clear FHn
      clear R1
      have R1 := R1n
      clear R1n
      have G2 := hidT (show Grid ww3 (some ⟨ww2.heap.size, 0, none⟩) [(some ⟨bt, ot, none⟩, h, ct), (some ⟨bt, ot + h * 2, none⟩, h, ct - h)] from hww3 ▸ grid_new ww2 _ [(some ⟨bt, ot, none⟩, h, ct), (some ⟨bt, ot + h * 2, none⟩, h, ct - h)] _ rfl)
      clear hb hww3
      refine wpAnyH_ready (rs := [16]) (by kernel_rfl) (by simp) ?_
      refine AllReadyH.cons (o := _) rfl (fun KK hKK => ?_) AllReadyH.nil
      go_simp
      (go_at_call 40; refine (added_row (some ⟨ww2.heap.size, 0, none⟩) 2 2 h [(some ⟨bt, ot, none⟩, h, ct), (some ⟨bt, ot + h * 2, none⟩, h, ct - h)] [t.take h, t.drop h] rfl (by decide) (by decide) rfl (by omega) (fun i hi => by
        match i, hi with
        | 0, _ => exact Nat.le_of_eq HT.out.2.2.2.symm
        | 1, _ => exact Nat.le_of_eq HT.out.2.2.1.symm) ww3 G2.out (fun i hi => by
        match i, hi with
        | 0, _ => exact ⟨HT.out.2.2.2.symm, lt_take HT.out.2.1 h, erow_take h (HT.out.1.below FD.out)⟩
        | 1, _ => exact ⟨HT.out.2.2.1.symm, lt_drop HT.out.2.1 h, erow_drop h (HT.out.1.below FD.out)⟩)).mono ?_; rintro e ww4 ⟨q2, rfl, ⟨hr, _, _⟩, _, hb⟩)
      clear G2
      have FDn := hidT (show Below W.heap.size W ww4 from FD.out.trans (hb.mono FD.out.size))
      have FLn := hidT (show ERow ww4 (some ⟨b1, o1, none⟩) LO from FL.out.below hb)
      have FHn := hidT (show ERow ww4 (some ⟨b2, o2, none⟩) HI from FH.out.below hb)
      have R1n := hidT (show ERow ww4 (some ⟨q1, 0, none⟩) (addv 2 h [s.take h, s.drop h]) from R1.out.below hb)
      clear FD
      have FD := FDn
      clear FDn
      clear FL
      have FL := FLn
      clear FLn
      clear FH
      have FH := FHn
      clear FHn
      clear R1
      have R1 := R1n
      clear R1n
      have R2 := hidT hr
      clear hr hb
      refine hKK.out _ _ trivial (fun hHeld => ?_)
      clear hKK KK
      try simp only [Act.put]
      refine wpAnyH_ready (rs := [17]) (by kernel_rfl) (by simp) ?_
      refine AllReadyH.cons (o := _) rfl (fun KK hKK => ?_) AllReadyH.nil
      go_simp
      (go_at_call 41; refine (P3.out ww4 q1 q2 R1.out R2.out).mono ?_; rintro e ww5 ⟨b3, o3, c3, rfl, hc3, hr, hb⟩)
      clear R1 R2
      have FDn := hidT (show Below W.heap.size W ww5 from FD.out.trans (hb.mono FD.out.size))
      have FLn := hidT (show ERow ww5 (some ⟨b1, o1, none⟩) LO from FL.out.below hb)
      have FHn := hidT (show ERow ww5 (some ⟨b2, o2, none⟩) HI from FH.out.below hb)
      clear FD
      have FD := FDn
      clear FDn
      clear FL
      have FL := FLn
      clear FLn
      clear FH
      have FH := FHn
      clear FHn
      have FM := hidT hr
      clear hr hb hc3
      refine hKK.out _ _ trivial (fun hHeld => ?_)
      clear hKK KK
      try simp only [Act.put]
      refine wpAnyH_take (i := 18) (oi := _) (v := ?_) rfl (by kernel_rfl) (by kernel_rfl) (by kernel_rfl) (fun _ _ _ h => h) (Or.inl ⟨by rfl, ?_⟩) (by assumption) ?_
      rotate_left
      · ((intro w hSw; (try dsimp only at hSw); go_simp) <;> (try with_reducible rfl))
      show wpAnyH _ _ _ _ _ _ _ (Act.put _ (some 10) _) _
      simp only [Act.put, List.setIfInBounds_toArray, List.set_cons_succ, List.set_cons_zero]
      have w5e : ∃ w5, w5 = ww5 := ⟨_, rfl⟩
      clear w5e
      refine wpAnyH_done (by kernel_rfl) ?_ _
      refine NoPanic.normal ?_
      have E := hidT (show Below W.heap.size W ww5 ∧ ERow ww5 (some ⟨b1, o1, none⟩) LO ∧ ERow ww5 (some ⟨b2, o2, none⟩) HI ∧ ERow ww5 (some ⟨b3, o3, none⟩) MI from ⟨FD.out, FL.out, FH.out, FM.out⟩)
      clear FD FL FH FM
      go_wp2_with (first
        | (at_builtin; refine wpList_append_own _ rfl _ _ 26 rfl W.heap.size 24 i0 (.agg #[.int .u64 0, .int .u64 0]) 2 16 Try.underlying26 HI0.out.1 HI0.out.2.1 HI0.out.2.2.1 HI0.out.2.2.2 rfl (by decide) (.slice (some ⟨p1, 0, none⟩) h h) h (flat (addv 2 h [HI, LO])) rfl K8.out.2.1 ⟨p4, 0, none⟩ h h (flat (addv 4 h [MI, HI, LO, TH])) rfl (by rw [flat_lenP, addv_len]) (row_newsP K8.out.2.2) (one_flatP _) (by simp only [maxLen]; omega) (by omega) K8.out.1.size ?_; intro v9 w9 hown9 hgr9 _; have K9 := hidT (show Below W.heap.size W w9 ∧ w9.ownsRow W.heap.size 24 2 v9 (h + h) (flat (addv 2 h [HI, LO]) ++ flat (addv 4 h [MI, HI, LO, TH])) from ⟨K8.out.1.grown hgr9 K8.out.1.size (fun g hg => (K8.out.2.1.lt g hg).1), hown9⟩); clear hown9 hgr9)
        | (go_at_call_of 40 (#[.slice (some ⟨w7.heap.size, 0, none⟩) 4 4] : Array Value); refine (added_row (some ⟨w7.heap.size, 0, none⟩) 4 4 h [(some ⟨b3, o3, none⟩, h, c3), (some ⟨b2, o2, none⟩, h, c2), (some ⟨b1, o1, none⟩, h, c1), (some ⟨b4, o4, none⟩, h, c4)] [MI, HI, LO, TH] rfl (by decide) (by decide) rfl (by omega) (fun i hi => by
            match i, hi with
            | 0, _ => exact Nat.le_of_eq HL.out.2.2.1.1.symm
            | 1, _ => exact Nat.le_of_eq HL.out.2.1.1.symm
            | 2, _ => exact Nat.le_of_eq HL.out.1.1.symm
            | 3, _ => exact Nat.le_of_eq HL.out.2.2.2.1.symm) _ (grid_new w7 _ [(some ⟨b3, o3, none⟩, h, c3), (some ⟨b2, o2, none⟩, h, c2), (some ⟨b1, o1, none⟩, h, c1), (some ⟨b4, o4, none⟩, h, c4)] _ rfl) (fun i hi => by
            have DB : Below w7.heap.size w7 (w7.alloc (Obj.cells #[.slice (some ⟨b3, o3, none⟩) h c3, .slice (some ⟨b2, o2, none⟩) h c2, .slice (some ⟨b1, o1, none⟩) h c1, .slice (some ⟨b4, o4, none⟩) h c4] 26)) := (Below.refl _ _).alloc (Nat.le_refl _) _
            match i, hi with
            | 0, _ => exact ⟨HL.out.2.2.1.1.symm, HL.out.2.2.1.2, K7.out.2.2.2.2.1.below DB⟩
            | 1, _ => exact ⟨HL.out.2.1.1.symm, HL.out.2.1.2, K7.out.2.2.2.1.below DB⟩
            | 2, _ => exact ⟨HL.out.1.1.symm, HL.out.1.2, K7.out.2.2.1.below DB⟩
            | 3, _ => exact ⟨HL.out.2.2.2.1.symm, HL.out.2.2.2.2, K7.out.2.2.2.2.2.below DB⟩)).mono ?_; rintro e w8 ⟨p4, rfl, ⟨hr8, F8, hF8⟩, hp8, hb8⟩; have DB := hidT (((Below.refl w7.heap.size w7).alloc (Nat.le_refl _) (Obj.cells #[.slice (some ⟨b3, o3, none⟩) h c3, .slice (some ⟨b2, o2, none⟩) h c2, .slice (some ⟨b1, o1, none⟩) h c1, .slice (some ⟨b4, o4, none⟩) h c4] 26)).trans (hb8.mono (by simp))); have K8 := hidT (show Below W.heap.size W w8 ∧ w8.ownsRow W.heap.size 24 2 (.slice (some ⟨p1, 0, none⟩) h h) h (flat (addv 2 h [HI, LO])) ∧ ERow w8 (some ⟨p4, 0, none⟩) (addv 4 h [MI, HI, LO, TH]) from ⟨K7.out.1.trans (DB.out.mono K7.out.1.size), own_below K7.out.2.1 DB.out, hr8⟩); clear hr8 hF8 hp8 hb8 DB K7)
        | (go_at_call 58; refine (TX.out _ b2 o2 c2 HC.out.2 K6.out.2.2.2.1).mono ?_; rintro e w7 ⟨b4, o4, c4, rfl, hc4, hr7, hb7⟩; have K7 := hidT (show Below W.heap.size W w7 ∧ w7.ownsRow W.heap.size 24 2 (.slice (some ⟨p1, 0, none⟩) h h) h (flat (addv 2 h [HI, LO])) ∧ ERow w7 (some ⟨b1, o1, none⟩) LO ∧ ERow w7 (some ⟨b2, o2, none⟩) HI ∧ ERow w7 (some ⟨b3, o3, none⟩) MI ∧ ERow w7 (some ⟨b4, o4, none⟩) TH from ⟨K6.out.1.trans (hb7.mono K6.out.1.size), own_below K6.out.2.1 hb7, K6.out.2.2.1.below hb7, K6.out.2.2.2.1.below hb7, K6.out.2.2.2.2.below hb7, hr7⟩); clear hr7 hb7 hc4 K6)
        | (go_at_call 40; refine (added_row (some ⟨ww5.heap.size, 0, none⟩) 2 2 h [(some ⟨b2, o2, none⟩, h, c2), (some ⟨b1, o1, none⟩, h, c1)] [HI, LO] rfl (by decide) (by decide) rfl (by omega) (fun i hi => by
            match i, hi with
            | 0, _ => exact Nat.le_of_eq HL.out.2.1.1.symm
            | 1, _ => exact Nat.le_of_eq HL.out.1.1.symm) _ (grid_new ww5 _ [(some ⟨b2, o2, none⟩, h, c2), (some ⟨b1, o1, none⟩, h, c1)] _ rfl) (fun i hi => by
            have DB : Below ww5.heap.size ww5 (ww5.alloc (Obj.cells #[.slice (some ⟨b2, o2, none⟩) h c2, .slice (some ⟨b1, o1, none⟩) h c1] 26)) := (Below.refl _ _).alloc (Nat.le_refl _) _
            match i, hi with
            | 0, _ => exact ⟨HL.out.2.1.1.symm, HL.out.2.1.2, E.out.2.2.1.below DB⟩
            | 1, _ => exact ⟨HL.out.1.1.symm, HL.out.1.2, E.out.2.1.below DB⟩)).mono ?_; rintro e w6 ⟨p1, rfl, ⟨hr6, F6, hF6⟩, hp6, hb6⟩; have DB := hidT (((Below.refl ww5.heap.size ww5).alloc (Nat.le_refl _) (Obj.cells #[.slice (some ⟨b2, o2, none⟩) h c2, .slice (some ⟨b1, o1, none⟩) h c1] 26)).trans (hb6.mono (by simp))); have K6 := hidT (show Below W.heap.size W w6 ∧ w6.ownsRow W.heap.size 24 2 (.slice (some ⟨p1, 0, none⟩) h h) h (flat (addv 2 h [HI, LO])) ∧ ERow w6 (some ⟨b1, o1, none⟩) LO ∧ ERow w6 (some ⟨b2, o2, none⟩) HI ∧ ERow w6 (some ⟨b3, o3, none⟩) MI from ⟨E.out.1.trans (DB.out.mono E.out.1.size), own_erow (Nat.le_trans E.out.1.size (Nat.le_trans (by simp) hp6)) (by simp only [maxLen]; omega) (addv_len _ _ _) hF6 hr6, E.out.2.1.below DB.out, E.out.2.2.1.below DB.out, E.out.2.2.2.below DB.out⟩); clear hr6 hF6 hp6 hb6 DB E))
      go_ret
      obtain ⟨g, cap', e, hcp, hE, _⟩ := own_join h0 (addv_len _ _ _) (addv_len _ _ _) K9.out.2
      exact ⟨g, 0, cap', by rw [e]; rfl, hcp, hE, K9.out.1⟩
    ·
      go_simp
      refine hKK.out _ _ trivial (fun hHeld => ?_)
      clear hKK KK
      try simp only [Act.put]
      obtain ⟨ww6, hww6⟩ : ∃ x, x = World.alloc ww1 (Obj.cells #[.slice (some ⟨bt, ot, none⟩) h ct, .slice (some ⟨bt, ot + h * 2, none⟩) h (ct - h)] 26) := ⟨_, rfl⟩
      rw [← hww6]
      have hb : Below ww1.heap.size ww1 ww6 := hww6 ▸ ((Below.refl _ _).alloc (Nat.le_refl _) _)
      have FDn := hidT (show Below W.heap.size W ww6 from FD.out.trans (hb.mono FD.out.size))
      have FLn := hidT (show ERow ww6 (some ⟨b1, o1, none⟩) LO from FL.out.below hb)
      have FHn := hidT (show ERow ww6 (some ⟨b2, o2, none⟩) HI from FH.out.below hb)
      have G1n := hidT (show Grid ww6 (some ⟨w2.heap.size, 0, none⟩) [(some ⟨bs, os, none⟩, h, cs), (some ⟨bs, os + h * 2, none⟩, h, cs - h)] from G1.out.below hb)
      clear FD
      have FD := FDn
      clear FDn
      clear FL
      have FL := FLn
      clear FLn
      clear FH
      have FH := FHn
      clear FHn
      clear G1
      have G1 := G1n
      clear G1n
      have G2 := hidT (show Grid ww6 (some ⟨ww1.heap.size, 0, none⟩) [(some ⟨bt, ot, none⟩, h, ct), (some ⟨bt, ot + h * 2, none⟩, h, ct - h)] from hww6 ▸ grid_new ww1 _ [(some ⟨bt, ot, none⟩, h, ct), (some ⟨bt, ot + h * 2, none⟩, h, ct - h)] _ rfl)
      clear hb hww6
      refine wpAnyH_ready (rs := [8]) (by kernel_rfl) (by simp) ?_
      refine AllReadyH.cons (o := _) rfl (fun KK hKK => ?_) AllReadyH.nil
      go_simp
      (go_at_call 40; refine (added_row (some ⟨w2.heap.size, 0, none⟩) 2 2 h [(some ⟨bs, os, none⟩, h, cs), (some ⟨bs, os + h * 2, none⟩, h, cs - h)] [s.take h, s.drop h] rfl (by decide) (by decide) rfl (by omega) (fun i hi => by
        match i, hi with
        | 0, _ => exact Nat.le_of_eq HS.out.2.2.2.symm
        | 1, _ => exact Nat.le_of_eq HS.out.2.2.1.symm) ww6 G1.out (fun i hi => by
        match i, hi with
        | 0, _ => exact ⟨HS.out.2.2.2.symm, lt_take HS.out.2.1 h, erow_take h (HS.out.1.below FD.out)⟩
        | 1, _ => exact ⟨HS.out.2.2.1.symm, lt_drop HS.out.2.1 h, erow_drop h (HS.out.1.below FD.out)⟩)).mono ?_; rintro e ww7 ⟨q1, rfl, ⟨hr, _, _⟩, _, hb⟩)
      clear G1
      have FDn := hidT (show Below W.heap.size W ww7 from FD.out.trans (hb.mono FD.out.size))
      have FLn := hidT (show ERow ww7 (some ⟨b1, o1, none⟩) LO from FL.out.below hb)
      have FHn := hidT (show ERow ww7 (some ⟨b2, o2, none⟩) HI from FH.out.below hb)
      have G2n := hidT (show Grid ww7 (some ⟨ww1.heap.size, 0, none⟩) [(some ⟨bt, ot, none⟩, h, ct), (some ⟨bt, ot + h * 2, none⟩, h, ct - h)] from G2.out.below hb)
      clear FD
      have FD := FDn
      clear FDn
      clear FL
      have FL := FLn
      clear FLn
      clear FH
      have FH := FHn
      clear FHn
      clear G2
      have G2 := G2n
      clear G2n
      have R1 := hidT hr
      clear hr hb
      refine hKK.out _ _ trivial (fun hHeld => ?_)
      clear hKK KK
      try simp only [Act.put]
      refine wpAnyH_ready (rs := [16]) (by kernel_rfl) (by simp) ?_
      refine AllReadyH.cons (o := _) rfl (fun KK hKK => ?_) AllReadyH.nil
      go_simp
      (go_at_call 40; refine (added_row (some ⟨ww1.heap.size, 0, none⟩) 2 2 h [(some ⟨bt, ot, none⟩, h, ct), (some ⟨bt, ot + h * 2, none⟩, h, ct - h)] [t.take h, t.drop h] rfl (by decide) (by decide) rfl (by omega) (fun i hi => by
        match i, hi with
        | 0, _ => exact Nat.le_of_eq HT.out.2.2.2.symm
        | 1, _ => exact Nat.le_of_eq HT.out.2.2.1.symm) ww7 G2.out (fun i hi => by
        match i, hi with
        | 0, _ => exact ⟨HT.out.2.2.2.symm, lt_take HT.out.2.1 h, erow_take h (HT.out.1.below FD.out)⟩
        | 1, _ => exact ⟨HT.out.2.2.1.symm, lt_drop HT.out.2.1 h, erow_drop h (HT.out.1.below FD.out)⟩)).mono ?_; rintro e ww8 ⟨q2, rfl, ⟨hr, _, _⟩, _, hb⟩)
      clear G2
      have FDn := hidT (show Below W.heap.size W ww8 from FD.out.trans (hb.mono FD.out.size))
      have FLn := hidT (show ERow ww8 (some ⟨b1, o1, none⟩) LO from FL.out.below hb)
      have FHn := hidT (show ERow ww8 (some ⟨b2, o2, none⟩) HI from FH.out.below hb)
      have R1n := hidT (show ERow ww8 (some ⟨q1, 0, none⟩) (addv 2 h [s.take h, s.drop h]) from R1.out.below hb)
      clear FD
      have FD := FDn
      clear FDn
      clear FL
      have FL := FLn
      clear FLn
      clear FH
      have FH := FHn
      clear FHn
      clear R1
      have R1 := R1n
      clear R1n
      have R2 := hidT hr
      clear hr hb
      refine hKK.out _ _ trivial (fun hHeld => ?_)
      clear hKK KK
      try simp only [Act.put]
      refine wpAnyH_ready (rs := [17]) (by kernel_rfl) (by simp) ?_
      refine AllReadyH.cons (o := _) rfl (fun KK hKK => ?_) AllReadyH.nil
      go_simp
      (go_at_call 41; refine (P3.out ww8 q1 q2 R1.out R2.out).mono ?_; rintro e ww9 ⟨b3, o3, c3, rfl, hc3, hr, hb⟩)
      clear R1 R2
      have FDn := hidT (show Below W.heap.size W ww9 from FD.out.trans (hb.mono FD.out.size))
      have FLn := hidT (show ERow ww9 (some ⟨b1, o1, none⟩) LO from FL.out.below hb)
      have FHn := hidT (show ERow ww9 (some ⟨b2, o2, none⟩) HI from FH.out.below hb)
      clear FD
      have FD := FDn
      clear FDn
      clear FL
      have FL := FLn
      clear FLn
      clear FH
      have FH := FHn
      clear FHn
      have FM := hidT hr
      clear hr hb hc3
      refine hKK.out _ _ trivial (fun hHeld => ?_)
      clear hKK KK
      try simp only [Act.put]
      refine wpAnyH_take (i := 18) (oi := _) (v := ?_) rfl (by kernel_rfl) (by kernel_rfl) (by kernel_rfl) (fun _ _ _ h => h) (Or.inl ⟨by rfl, ?_⟩) (by assumption) ?_
      rotate_left
      · ((intro w hSw; (try dsimp only at hSw); go_simp) <;> (try with_reducible rfl))
      show wpAnyH _ _ _ _ _ _ _ (Act.put _ (some 10) _) _
      simp only [Act.put, List.setIfInBounds_toArray, List.set_cons_succ, List.set_cons_zero]
      have w5e : ∃ w5, w5 = ww9 := ⟨_, rfl⟩
      clear w5e
      refine wpAnyH_done (by kernel_rfl) ?_ _
      refine NoPanic.normal ?_
      have E := hidT (show Below W.heap.size W ww9 ∧ ERow ww9 (some ⟨b1, o1, none⟩) LO ∧ ERow ww9 (some ⟨b2, o2, none⟩) HI ∧ ERow ww9 (some ⟨b3, o3, none⟩) MI from ⟨FD.out, FL.out, FH.out, FM.out⟩)
      clear FD FL FH FM
      go_wp2_with (first
        | (at_builtin; refine wpList_append_own _ rfl _ _ 26 rfl W.heap.size 24 i0 (.agg #[.int .u64 0, .int .u64 0]) 2 16 Try.underlying26 HI0.out.1 HI0.out.2.1 HI0.out.2.2.1 HI0.out.2.2.2 rfl (by decide) (.slice (some ⟨p1, 0, none⟩) h h) h (flat (addv 2 h [HI, LO])) rfl K8.out.2.1 ⟨p4, 0, none⟩ h h (flat (addv 4 h [MI, HI, LO, TH])) rfl (by rw [flat_lenP, addv_len]) (row_newsP K8.out.2.2) (one_flatP _) (by simp only [maxLen]; omega) (by omega) K8.out.1.size ?_; intro v9 w9 hown9 hgr9 _; have K9 := hidT (show Below W.heap.size W w9 ∧ w9.ownsRow W.heap.size 24 2 v9 (h + h) (flat (addv 2 h [HI, LO]) ++ flat (addv 4 h [MI, HI, LO, TH])) from ⟨K8.out.1.grown hgr9 K8.out.1.size (fun g hg => (K8.out.2.1.lt g hg).1), hown9⟩); clear hown9 hgr9)
        | (go_at_call_of 40 (#[.slice (some ⟨w7.heap.size, 0, none⟩) 4 4] : Array Value); refine (added_row (some ⟨w7.heap.size, 0, none⟩) 4 4 h [(some ⟨b3, o3, none⟩, h, c3), (some ⟨b2, o2, none⟩, h, c2), (some ⟨b1, o1, none⟩, h, c1), (some ⟨b4, o4, none⟩, h, c4)] [MI, HI, LO, TH] rfl (by decide) (by decide) rfl (by omega) (fun i hi => by
            match i, hi with
            | 0, _ => exact Nat.le_of_eq HL.out.2.2.1.1.symm
            | 1, _ => exact Nat.le_of_eq HL.out.2.1.1.symm
            | 2, _ => exact Nat.le_of_eq HL.out.1.1.symm
            | 3, _ => exact Nat.le_of_eq HL.out.2.2.2.1.symm) _ (grid_new w7 _ [(some ⟨b3, o3, none⟩, h, c3), (some ⟨b2, o2, none⟩, h, c2), (some ⟨b1, o1, none⟩, h, c1), (some ⟨b4, o4, none⟩, h, c4)] _ rfl) (fun i hi => by
            have DB : Below w7.heap.size w7 (w7.alloc (Obj.cells #[.slice (some ⟨b3, o3, none⟩) h c3, .slice (some ⟨b2, o2, none⟩) h c2, .slice (some ⟨b1, o1, none⟩) h c1, .slice (some ⟨b4, o4, none⟩) h c4] 26)) := (Below.refl _ _).alloc (Nat.le_refl _) _
            match i, hi with
            | 0, _ => exact ⟨HL.out.2.2.1.1.symm, HL.out.2.2.1.2, K7.out.2.2.2.2.1.below DB⟩
            | 1, _ => exact ⟨HL.out.2.1.1.symm, HL.out.2.1.2, K7.out.2.2.2.1.below DB⟩
            | 2, _ => exact ⟨HL.out.1.1.symm, HL.out.1.2, K7.out.2.2.1.below DB⟩
            | 3, _ => exact ⟨HL.out.2.2.2.1.symm, HL.out.2.2.2.2, K7.out.2.2.2.2.2.below DB⟩)).mono ?_; rintro e w8 ⟨p4, rfl, ⟨hr8, F8, hF8⟩, hp8, hb8⟩; have DB := hidT (((Below.refl w7.heap.size w7).alloc (Nat.le_refl _) (Obj.cells #[.slice (some ⟨b3, o3, none⟩) h c3, .slice (some ⟨b2, o2, none⟩) h c2, .slice (some ⟨b1, o1, none⟩) h c1, .slice (some ⟨b4, o4, none⟩) h c4] 26)).trans (hb8.mono (by simp))); have K8 := hidT (show Below W.heap.size W w8 ∧ w8.ownsRow W.heap.size 24 2 (.slice (some ⟨p1, 0, none⟩) h h) h (flat (addv 2 h [HI, LO])) ∧ ERow w8 (some ⟨p4, 0, none⟩) (addv 4 h [MI, HI, LO, TH]) from ⟨K7.out.1.trans (DB.out.mono K7.out.1.size), own_below K7.out.2.1 DB.out, hr8⟩); clear hr8 hF8 hp8 hb8 DB K7)
        | (go_at_call 58; refine (TX.out _ b2 o2 c2 HC.out.2 K6.out.2.2.2.1).mono ?_; rintro e w7 ⟨b4, o4, c4, rfl, hc4, hr7, hb7⟩; have K7 := hidT (show Below W.heap.size W w7 ∧ w7.ownsRow W.heap.size 24 2 (.slice (some ⟨p1, 0, none⟩) h h) h (flat (addv 2 h [HI, LO])) ∧ ERow w7 (some ⟨b1, o1, none⟩) LO ∧ ERow w7 (some ⟨b2, o2, none⟩) HI ∧ ERow w7 (some ⟨b3, o3, none⟩) MI ∧ ERow w7 (some ⟨b4, o4, none⟩) TH from ⟨K6.out.1.trans (hb7.mono K6.out.1.size), own_below K6.out.2.1 hb7, K6.out.2.2.1.below hb7, K6.out.2.2.2.1.below hb7, K6.out.2.2.2.2.below hb7, hr7⟩); clear hr7 hb7 hc4 K6)
        | (go_at_call 40; refine (added_row (some ⟨ww9.heap.size, 0, none⟩) 2 2 h [(some ⟨b2, o2, none⟩, h, c2), (some ⟨b1, o1, none⟩, h, c1)] [HI, LO] rfl (by decide) (by decide) rfl (by omega) (fun i hi => by
            match i, hi with
            | 0, _ => exact Nat.le_of_eq HL.out.2.1.1.symm
            | 1, _ => exact Nat.le_of_eq HL.out.1.1.symm) _ (grid_new ww9 _ [(some ⟨b2, o2, none⟩, h, c2), (some ⟨b1, o1, none⟩, h, c1)] _ rfl) (fun i hi => by
            have DB : Below ww9.heap.size ww9 (ww9.alloc (Obj.cells #[.slice (some ⟨b2, o2, none⟩) h c2, .slice (some ⟨b1, o1, none⟩) h c1] 26)) := (Below.refl _ _).alloc (Nat.le_refl _) _
            match i, hi with
            | 0, _ => exact ⟨HL.out.2.1.1.symm, HL.out.2.1.2, E.out.2.2.1.below DB⟩
            | 1, _ => exact ⟨HL.out.1.1.symm, HL.out.1.2, E.out.2.1.below DB⟩)).mono ?_; rintro e w6 ⟨p1, rfl, ⟨hr6, F6, hF6⟩, hp6, hb6⟩; have DB := hidT (((Below.refl ww9.heap.size ww9).alloc (Nat.le_refl _) (Obj.cells #[.slice (some ⟨b2, o2, none⟩) h c2, .slice (some ⟨b1, o1, none⟩) h c1] 26)).trans (hb6.mono (by simp))); have K6 := hidT (show Below W.heap.size W w6 ∧ w6.ownsRow W.heap.size 24 2 (.slice (some ⟨p1, 0, none⟩) h h) h (flat (addv 2 h [HI, LO])) ∧ ERow w6 (some ⟨b1, o1, none⟩) LO ∧ ERow w6 (some ⟨b2, o2, none⟩) HI ∧ ERow w6 (some ⟨b3, o3, none⟩) MI from ⟨E.out.1.trans (DB.out.mono E.out.1.size), own_erow (Nat.le_trans E.out.1.size (Nat.le_trans (by simp) hp6)) (by simp only [maxLen]; omega) (addv_len _ _ _) hF6 hr6, E.out.2.1.below DB.out, E.out.2.2.1.below DB.out, E.out.2.2.2.below DB.out⟩); clear hr6 hF6 hp6 hb6 DB E))
      go_ret
      obtain ⟨g, cap', e, hcp, hE, _⟩ := own_join h0 (addv_len _ _ _) (addv_len _ _ _) K9.out.2
      exact ⟨g, 0, cap', by rw [e]; rfl, hcp, hE, K9.out.1⟩
  ·
    go_simp
    refine hKK.out _ _ trivial (fun hHeld => ?_)
    clear hKK KK
    try simp only [Act.put]
    obtain ⟨ww10, hww10⟩ : ∃ x, x = (World.alloc w2 (Obj.cells #[.slice (some ⟨bt, ot, none⟩) h ct, .slice (some ⟨bt, ot + h * 2, none⟩) h (ct - h)] 26)).drew := ⟨_, rfl⟩
    rw [← hww10]
    have hb : Below w2.heap.size w2 ww10 := hww10 ▸ ((Below.refl _ _).alloc (Nat.le_refl _) _).drew
    have FDn := hidT (show Below W.heap.size W ww10 from FD.out.trans (hb.mono FD.out.size))
    have FLn := hidT (show ERow ww10 (some ⟨b1, o1, none⟩) LO from FL.out.below hb)
    have FHn := hidT (show ERow ww10 (some ⟨b2, o2, none⟩) HI from FH.out.below hb)
    clear FD
    have FD := FDn
    clear FDn
    clear FL
    have FL := FLn
    clear FLn
    clear FH
    have FH := FHn
    clear FHn
    have G2 := hidT (show Grid ww10 (some ⟨w2.heap.size, 0, none⟩) [(some ⟨bt, ot, none⟩, h, ct), (some ⟨bt, ot + h * 2, none⟩, h, ct - h)] from hww10 ▸ (grid_new w2 _ [(some ⟨bt, ot, none⟩, h, ct), (some ⟨bt, ot + h * 2, none⟩, h, ct - h)] _ rfl).below (Below.refl _ _).drew)
    clear hb hww10
    refine wpAnyH_ready (rs := [7]) (by kernel_rfl) (by simp) ?_
    refine AllReadyH.cons (o := _) rfl (fun KK hKK => ?_) AllReadyH.nil
    go_simp
    refine hKK.out _ _ trivial (fun hHeld => ?_)
    clear hKK KK
    try simp only [Act.put]
    obtain ⟨ww11, hww11⟩ : ∃ x, x = World.alloc ww10 (Obj.cells #[.slice (some ⟨bs, os, none⟩) h cs, .slice (some ⟨bs, os + h * 2, none⟩) h (cs - h)] 26) := ⟨_, rfl⟩
    rw [← hww11]
    have hb : Below ww10.heap.size ww10 ww11 := hww11 ▸ ((Below.refl _ _).alloc (Nat.le_refl _) _)
    have FDn := hidT (show Below W.heap.size W ww11 from FD.out.trans (hb.mono FD.out.size))
    have FLn := hidT (show ERow ww11 (some ⟨b1, o1, none⟩) LO from FL.out.below hb)
    have FHn := hidT (show ERow ww11 (some ⟨b2, o2, none⟩) HI from FH.out.below hb)
    have G2n := hidT (show Grid ww11 (some ⟨w2.heap.size, 0, none⟩) [(some ⟨bt, ot, none⟩, h, ct), (some ⟨bt, ot + h * 2, none⟩, h, ct - h)] from G2.out.below hb)
    clear FD
    have FD := FDn
    clear FDn
    clear FL
    have FL := FLn
    clear FLn
    clear FH
    have FH := FHn
    clear FHn
    clear G2
    have G2 := G2n
    clear G2n
    have G1 := hidT (show Grid ww11 (some ⟨ww10.heap.size, 0, none⟩) [(some ⟨bs, os, none⟩, h, cs), (some ⟨bs, os + h * 2, none⟩, h, cs - h)] from hww11 ▸ grid_new ww10 _ [(some ⟨bs, os, none⟩, h, cs), (some ⟨bs, os + h * 2, none⟩, h, cs - h)] _ rfl)
    clear hb hww11
    refine wpAnyH_ready (rs := [8]) (by kernel_rfl) (by simp) ?_
    refine AllReadyH.cons (o := _) rfl (fun KK hKK => ?_) AllReadyH.nil
    go_simp
    (go_at_call 40; refine (added_row (some ⟨ww10.heap.size, 0, none⟩) 2 2 h [(some ⟨bs, os, none⟩, h, cs), (some ⟨bs, os + h * 2, none⟩, h, cs - h)] [s.take h, s.drop h] rfl (by decide) (by decide) rfl (by omega) (fun i hi => by
      match i, hi with
      | 0, _ => exact Nat.le_of_eq HS.out.2.2.2.symm
      | 1, _ => exact Nat.le_of_eq HS.out.2.2.1.symm) ww11 G1.out (fun i hi => by
      match i, hi with
      | 0, _ => exact ⟨HS.out.2.2.2.symm, lt_take HS.out.2.1 h, erow_take h (HS.out.1.below FD.out)⟩
      | 1, _ => exact ⟨HS.out.2.2.1.symm, lt_drop HS.out.2.1 h, erow_drop h (HS.out.1.below FD.out)⟩)).mono ?_; rintro e ww12 ⟨q1, rfl, ⟨hr, _, _⟩, _, hb⟩)
    clear G1
    have FDn := hidT (show Below W.heap.size W ww12 from FD.out.trans (hb.mono FD.out.size))
    have FLn := hidT (show ERow ww12 (some ⟨b1, o1, none⟩) LO from FL.out.below hb)
    have FHn := hidT (show ERow ww12 (some ⟨b2, o2, none⟩) HI from FH.out.below hb)
    have G2n := hidT (show Grid ww12 (some ⟨w2.heap.size, 0, none⟩) [(some ⟨bt, ot, none⟩, h, ct), (some ⟨bt, ot + h * 2, none⟩, h, ct - h)] from G2.out.below hb)
    clear FD
    have FD := FDn
    clear FDn
    clear FL
    have FL := FLn
    clear FLn
    clear FH
    have FH := FHn
    clear FHn
    clear G2
    have G2 := G2n
    clear G2n
    have R1 := hidT hr
    clear hr hb
    refine hKK.out _ _ trivial (fun hHeld => ?_)
    clear hKK KK
    try simp only [Act.put]
    refine wpAnyH_ready (rs := [16]) (by kernel_rfl) (by simp) ?_
    refine AllReadyH.cons (o := _) rfl (fun KK hKK => ?_) AllReadyH.nil
    go_simp
    (go_at_call 40; refine (added_row (some ⟨w2.heap.size, 0, none⟩) 2 2 h [(some ⟨bt, ot, none⟩, h, ct), (some ⟨bt, ot + h * 2, none⟩, h, ct - h)] [t.take h, t.drop h] rfl (by decide) (by decide) rfl (by omega) (fun i hi => by
      match i, hi with
      | 0, _ => exact Nat.le_of_eq HT.out.2.2.2.symm
      | 1, _ => exact Nat.le_of_eq HT.out.2.2.1.symm) ww12 G2.out (fun i hi => by
      match i, hi with
      | 0, _ => exact ⟨HT.out.2.2.2.symm, lt_take HT.out.2.1 h, erow_take h (HT.out.1.below FD.out)⟩
      | 1, _ => exact ⟨HT.out.2.2.1.symm, lt_drop HT.out.2.1 h, erow_drop h (HT.out.1.below FD.out)⟩)).mono ?_; rintro e ww13 ⟨q2, rfl, ⟨hr, _, _⟩, _, hb⟩)
    clear G2
    have FDn := hidT (show Below W.heap.size W ww13 from FD.out.trans (hb.mono FD.out.size))
    have FLn := hidT (show ERow ww13 (some ⟨b1, o1, none⟩) LO from FL.out.below hb)
    have FHn := hidT (show ERow ww13 (some ⟨b2, o2, none⟩) HI from FH.out.below hb)
    have R1n := hidT (show ERow ww13 (some ⟨q1, 0, none⟩) (addv 2 h [s.take h, s.drop h]) from R1.out.below hb)
    clear FD
    have FD := FDn
    clear FDn
    clear FL
    have FL := FLn
    clear FLn
    clear FH
    have FH := FHn
    clear FHn
    clear R1
    have R1 := R1n
    clear R1n
    have R2 := hidT hr
    clear hr hb
    refine hKK.out _ _ trivial (fun hHeld => ?_)
    clear hKK KK
    try simp only [Act.put]
    refine wpAnyH_ready (rs := [17]) (by kernel_rfl) (by simp) ?_
    refine AllReadyH.cons (o := _) rfl (fun KK hKK => ?_) AllReadyH.nil
    go_simp
    (go_at_call 41; refine (P3.out ww13 q1 q2 R1.out R2.out).mono ?_; rintro e ww14 ⟨b3, o3, c3, rfl, hc3, hr, hb⟩)
    clear R1 R2
    have FDn := hidT (show Below W.heap.size W ww14 from FD.out.trans (hb.mono FD.out.size))
    have FLn := hidT (show ERow ww14 (some ⟨b1, o1, none⟩) LO from FL.out.below hb)
    have FHn := hidT (show ERow ww14 (some ⟨b2, o2, none⟩) HI from FH.out.below hb)
    clear FD
    have FD := FDn
    clear FDn
    clear FL
    have FL := FLn
    clear FLn
    clear FH
    have FH := FHn
    clear FHn
    have FM := hidT hr
    clear hr hb hc3
    refine hKK.out _ _ trivial (fun hHeld => ?_)
    clear hKK KK
    try simp only [Act.put]
    refine wpAnyH_take (i := 18) (oi := _) (v := ?_) rfl (by kernel_rfl) (by kernel_rfl) (by kernel_rfl) (fun _ _ _ h => h) (Or.inl ⟨by rfl, ?_⟩) (by assumption) ?_
    rotate_left
    · ((intro w hSw; (try dsimp only at hSw); go_simp) <;> (try with_reducible rfl))
    show wpAnyH _ _ _ _ _ _ _ (Act.put _ (some 10) _) _
    simp only [Act.put, List.setIfInBounds_toArray, List.set_cons_succ, List.set_cons_zero]
    have w5e : ∃ w5, w5 = ww14 := ⟨_, rfl⟩
    clear w5e
    refine wpAnyH_done (by kernel_rfl) ?_ _
    refine NoPanic.normal ?_
    have E := hidT (show Below W.heap.size W ww14 ∧ ERow ww14 (some ⟨b1, o1, none⟩) LO ∧ ERow ww14 (some ⟨b2, o2, none⟩) HI ∧ ERow ww14 (some ⟨b3, o3, none⟩) MI from ⟨FD.out, FL.out, FH.out, FM.out⟩)
    clear FD FL FH FM
    go_wp2_with (first
      | (at_builtin; refine wpList_append_own _ rfl _ _ 26 rfl W.heap.size 24 i0 (.agg #[.int .u64 0, .int .u64 0]) 2 16 Try.underlying26 HI0.out.1 HI0.out.2.1 HI0.out.2.2.1 HI0.out.2.2.2 rfl (by decide) (.slice (some ⟨p1, 0, none⟩) h h) h (flat (addv 2 h [HI, LO])) rfl K8.out.2.1 ⟨p4, 0, none⟩ h h (flat (addv 4 h [MI, HI, LO, TH])) rfl (by rw [flat_lenP, addv_len]) (row_newsP K8.out.2.2) (one_flatP _) (by simp only [maxLen]; omega) (by omega) K8.out.1.size ?_; intro v9 w9 hown9 hgr9 _; have K9 := hidT (show Below W.heap.size W w9 ∧ w9.ownsRow W.heap.size 24 2 v9 (h + h) (flat (addv 2 h [HI, LO]) ++ flat (addv 4 h [MI, HI, LO, TH])) from ⟨K8.out.1.grown hgr9 K8.out.1.size (fun g hg => (K8.out.2.1.lt g hg).1), hown9⟩); clear hown9 hgr9)
      | (go_at_call_of 40 (#[.slice (some ⟨w7.heap.size, 0, none⟩) 4 4] : Array Value); refine (added_row (some ⟨w7.heap.size, 0, none⟩) 4 4 h [(some ⟨b3, o3, none⟩, h, c3), (some ⟨b2, o2, none⟩, h, c2), (some ⟨b1, o1, none⟩, h, c1), (some ⟨b4, o4, none⟩, h, c4)] [MI, HI, LO, TH] rfl (by decide) (by decide) rfl (by omega) (fun i hi => by
          match i, hi with
          | 0, _ => exact Nat.le_of_eq HL.out.2.2.1.1.symm
          | 1, _ => exact Nat.le_of_eq HL.out.2.1.1.symm
          | 2, _ => exact Nat.le_of_eq HL.out.1.1.symm
          | 3, _ => exact Nat.le_of_eq HL.out.2.2.2.1.symm) _ (grid_new w7 _ [(some ⟨b3, o3, none⟩, h, c3), (some ⟨b2, o2, none⟩, h, c2), (some ⟨b1, o1, none⟩, h, c1), (some ⟨b4, o4, none⟩, h, c4)] _ rfl) (fun i hi => by
          have DB : Below w7.heap.size w7 (w7.alloc (Obj.cells #[.slice (some ⟨b3, o3, none⟩) h c3, .slice (some ⟨b2, o2, none⟩) h c2, .slice (some ⟨b1, o1, none⟩) h c1, .slice (some ⟨b4, o4, none⟩) h c4] 26)) := (Below.refl _ _).alloc (Nat.le_refl _) _
          match i, hi with
          | 0, _ => exact ⟨HL.out.2.2.1.1.symm, HL.out.2.2.1.2, K7.out.2.2.2.2.1.below DB⟩
          | 1, _ => exact ⟨HL.out.2.1.1.symm, HL.out.2.1.2, K7.out.2.2.2.1.below DB⟩
          | 2, _ => exact ⟨HL.out.1.1.symm, HL.out.1.2, K7.out.2.2.1.below DB⟩
          | 3, _ => exact ⟨HL.out.2.2.2.1.symm, HL.out.2.2.2.2, K7.out.2.2.2.2.2.below DB⟩)).mono ?_; rintro e w8 ⟨p4, rfl, ⟨hr8, F8, hF8⟩, hp8, hb8⟩; have DB := hidT (((Below.refl w7.heap.size w7).alloc (Nat.le_refl _) (Obj.cells #[.slice (some ⟨b3, o3, none⟩) h c3, .slice (some ⟨b2, o2, none⟩) h c2, .slice (some ⟨b1, o1, none⟩) h c1, .slice (some ⟨b4, o4, none⟩) h c4] 26)).trans (hb8.mono (by simp))); have K8 := hidT (show Below W.heap.size W w8 ∧ w8.ownsRow W.heap.size 24 2 (.slice (some ⟨p1, 0, none⟩) h h) h (flat (addv 2 h [HI, LO])) ∧ ERow w8 (some ⟨p4, 0, none⟩) (addv 4 h [MI, HI, LO, TH]) from ⟨K7.out.1.trans (DB.out.mono K7.out.1.size), own_below K7.out.2.1 DB.out, hr8⟩); clear hr8 hF8 hp8 hb8 DB K7)
      | (go_at_call 58; refine (TX.out _ b2 o2 c2 HC.out.2 K6.out.2.2.2.1).mono ?_; rintro e w7 ⟨b4, o4, c4, rfl, hc4, hr7, hb7⟩; have K7 := hidT (show Below W.heap.size W w7 ∧ w7.ownsRow W.heap.size 24 2 (.slice (some ⟨p1, 0, none⟩) h h) h (flat (addv 2 h [HI, LO])) ∧ ERow w7 (some ⟨b1, o1, none⟩) LO ∧ ERow w7 (some ⟨b2, o2, none⟩) HI ∧ ERow w7 (some ⟨b3, o3, none⟩) MI ∧ ERow w7 (some ⟨b4, o4, none⟩) TH from ⟨K6.out.1.trans (hb7.mono K6.out.1.size), own_below K6.out.2.1 hb7, K6.out.2.2.1.below hb7, K6.out.2.2.2.1.below hb7, K6.out.2.2.2.2.below hb7, hr7⟩); clear hr7 hb7 hc4 K6)
      | (go_at_call 40; refine (added_row (some ⟨ww14.heap.size, 0, none⟩) 2 2 h [(some ⟨b2, o2, none⟩, h, c2), (some ⟨b1, o1, none⟩, h, c1)] [HI, LO] rfl (by decide) (by decide) rfl (by omega) (fun i hi => by
          match i, hi with
          | 0, _ => exact Nat.le_of_eq HL.out.2.1.1.symm
          | 1, _ => exact Nat.le_of_eq HL.out.1.1.symm) _ (grid_new ww14 _ [(some ⟨b2, o2, none⟩, h, c2), (some ⟨b1, o1, none⟩, h, c1)] _ rfl) (fun i hi => by
          have DB : Below ww14.heap.size ww14 (ww14.alloc (Obj.cells #[.slice (some ⟨b2, o2, none⟩) h c2, .slice (some ⟨b1, o1, none⟩) h c1] 26)) := (Below.refl _ _).alloc (Nat.le_refl _) _
          match i, hi with
          | 0, _ => exact ⟨HL.out.2.1.1.symm, HL.out.2.1.2, E.out.2.2.1.below DB⟩
          | 1, _ => exact ⟨HL.out.1.1.symm, HL.out.1.2, E.out.2.1.below DB⟩)).mono ?_; rintro e w6 ⟨p1, rfl, ⟨hr6, F6, hF6⟩, hp6, hb6⟩; have DB := hidT (((Below.refl ww14.heap.size ww14).alloc (Nat.le_refl _) (Obj.cells #[.slice (some ⟨b2, o2, none⟩) h c2, .slice (some ⟨b1, o1, none⟩) h c1] 26)).trans (hb6.mono (by simp))); have K6 := hidT (show Below W.heap.size W w6 ∧ w6.ownsRow W.heap.size 24 2 (.slice (some ⟨p1, 0, none⟩) h h) h (flat (addv 2 h [HI, LO])) ∧ ERow w6 (some ⟨b1, o1, none⟩) LO ∧ ERow w6 (some ⟨b2, o2, none⟩) HI ∧ ERow w6 (some ⟨b3, o3, none⟩) MI from ⟨E.out.1.trans (DB.out.mono E.out.1.size), own_erow (Nat.le_trans E.out.1.size (Nat.le_trans (by simp) hp6)) (by simp only [maxLen]; omega) (addv_len _ _ _) hF6 hr6, E.out.2.1.below DB.out, E.out.2.2.1.below DB.out, E.out.2.2.2.below DB.out⟩); clear hr6 hF6 hp6 hb6 DB E))
    go_ret
    obtain ⟨g, cap', e, hcp, hE, _⟩ := own_join h0 (addv_len _ _ _) (addv_len _ _ _) K9.out.2
    exact ⟨g, 0, cap', by rw [e]; rfl, hcp, hE, K9.out.1⟩
theorem pr_any (m : Nat) (hm : m < 8) : ∀ (k : Nat), k ≤ 7 → ∀ (s t : List (Nat × Nat)) (bs os cs bt ot ct : Nat) (W : World), s.length = 2 ^ k → t.length = 2 ^ k → ltE s → ltE t → ofT m s → ofT m t → 2 ^ k ≤ cs → 2 ^ k ≤ ct → ERow W (some ⟨bs, os, none⟩) s → ERow W (some ⟨bt, ot, none⟩) t →
    Calls Try.prog 41 #[.int .i64 (m : Int), .slice (some ⟨bs, os, none⟩) (2 ^ k) cs, .slice (some ⟨bt, ot, none⟩) (2 ^ k) ct] W fun e w' => ∃ b2 off2 cap2 : Nat, e = .returned (.slice (some ⟨b2, off2, none⟩) (2 ^ k) cap2) ∧ 2 ^ k ≤ cap2 ∧ ERow w' (some ⟨b2, off2, none⟩) (prL k s t) ∧ Below W.heap.size W w'
  | 0, _, s, t, bs, os, cs, bt, ot, ct, W, hs, ht, ls, lt, op, oq, h1, h2, rs, rt => pr_zero m hm bs os cs bt ot ct s t hs ht ls lt op oq h1 h2 W rs rt
  | k + 1, hk, s, t, bs, os, cs, bt, ot, ct, W, hs, ht, ls, lt, op, oq, h1, h2, rs, rt => by
    have e : 2 ^ (k + 1) = 2 ^ k + 2 ^ k := by rw [Nat.pow_succ]; omega
    have h64 : 2 ^ k ≤ 64 := Nat.le_trans (Nat.pow_le_pow_right (by decide) (show k ≤ 6 by omega)) (by decide)
    have l1 := len_drop hs
    have l2 := len_drop ht
    have l3 := len_take hs
    have l4 := len_take ht
    rw [e] at hs ht h1 h2 ⊢
    exact pr_step m (2 ^ k) (Nat.two_pow_pos k) h64 bs os cs bt ot ct h1 h2 s t (prL k (s.take (2 ^ k)) (t.take (2 ^ k))) (prL k (s.drop (2 ^ k)) (t.drop (2 ^ k))) (prL k (addv 2 (2 ^ k) [s.take (2 ^ k), s.drop (2 ^ k)]) (addv 2 (2 ^ k) [t.take (2 ^ k), t.drop (2 ^ k)])) (txL k (prL k (s.drop (2 ^ k)) (t.drop (2 ^ k)))) hs ht ls lt
      ⟨prL_len _ _ _, lt_prL _ _ _⟩ ⟨prL_len _ _ _, lt_prL _ _ _⟩ ⟨prL_len _ _ _, lt_prL _ _ _⟩ ⟨txL_len _ _ (prL_len _ _ _), lt_txL _ _ (lt_prL _ _ _)⟩ W rs rt
      (hidT fun w hb => pr_any m hm k (by omega) (s.take (2 ^ k)) (t.take (2 ^ k)) bs os cs bt ot ct w l3 l4 (lt_take ls _) (lt_take lt _) (of_take op _) (of_take oq _) (by omega) (by omega) (erow_take _ (rs.below hb)) (erow_take _ (rt.below hb)))
      (hidT fun w hb => pr_any m hm k (by omega) (s.drop (2 ^ k)) (t.drop (2 ^ k)) bs (os + 2 ^ k * 2) (cs - 2 ^ k) bt (ot + 2 ^ k * 2) (ct - 2 ^ k) w l1 l2 (lt_drop ls _) (lt_drop lt _) (of_drop op _) (of_drop oq _) (by omega) (by omega) (erow_drop _ (rs.below hb)) (erow_drop _ (rt.below hb)))
      (hidT fun w p q hp hq => pr_any m hm k (by omega) _ _ p 0 (2 ^ k) q 0 (2 ^ k) w (addv_len _ _ _) (addv_len _ _ _) (lt_two (lt_take ls _) (lt_drop ls _)) (lt_two (lt_take lt _) (lt_drop lt _)) (of_two hm (of_take op _) (of_drop op _)) (of_two hm (of_take oq _) (of_drop oq _)) (Nat.le_refl _) (Nat.le_refl _) hp hq)
      (hidT fun w b off cap hc hr => tx_any k (by omega) _ b off cap w (prL_len _ _ _) (lt_prL _ _ _) hc hr)
end Pv
end Go.Proofs.Ytcejppibcemdeaa
