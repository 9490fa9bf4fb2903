/- The contract of packv.timesX over the seat's translation. -/
import Derived.Test.YtcejppibcemdeaaPPvG0
import Derived.RangeFuncBox
import Derived.Deep.AppendLies
namespace Go.Proofs.Ytcejppibcemdeaa
open Go.RowKit
open Cb Rg
open Tw (pm)
namespace Pv

theorem row_newsP {w : World} {g : Nat} {es : List (Nat × Nat)} (h : ERow w (some ⟨g, 0, none⟩) es) : ∀ j u, (flat es)[j]? = some u → w.cell? ((⟨g, 0, none⟩ : Addr).add j) = some u := fun j u hu => by
  have hj : j < es.length * 2 := by
    have := (List.getElem?_eq_some_iff.1 hu).1
    rw [flat_lenP] at this
    exact this
  obtain ⟨b, off, e, _, c1, c0⟩ := h.cells (j / 2) (by omega)
  injection e with e
  injection e with e1 e2
  subst e1
  subst e2
  have hat := flat_at es (j / 2) (by omega)
  rw [Nat.zero_add] at c1 c0
  have ea : ((⟨g, 0, none⟩ : Addr).add j) = ⟨g, j, none⟩ := by unfold Addr.add; split <;> simp_all
  rw [ea]
  rcases Nat.mod_two_eq_zero_or_one j with hm2 | hm2
  · have hi2 : j / 2 * 2 = j := by omega
    rw [hi2] at c1 hat
    rw [c1, ← hat.1, hu]
  · have hi2 : j / 2 * 2 + 1 = j := by omega
    rw [hi2] at c0 hat
    rw [c0, ← hat.2, hu]
theorem one_flatP (es : List (Nat × Nat)) : ∀ u ∈ flat es, u.oneCell' = true := fun u hu => by
  induction es with
  | nil => simp [flat] at hu
  | cons e l ih =>
    have : flat (e :: l) = [.int .u64 (e.1 : Nat), .int .u64 (e.2 : Nat)] ++ flat l := by simp [flat]
    rw [this] at hu
    rcases List.mem_append.1 hu with h | h
    · simp at h
      rcases h with rfl | rfl <;> rfl
    · exact ih h
set_option linter.unusedSimpArgs false in
set_option linter.unusedVariables false in
set_option maxHeartbeats 8000000 in
set_option maxRecDepth 100000 in
theorem tx_step (h : Nat) (h0 : 0 < h) (n1 : h ≤ 64) (b off cap : Nat) (hc : h + h ≤ cap) (t X : List (Nat × Nat)) (hl : t.length = h + h) (ht : ltE t) (hX : X.length = h) (lX : ltE X) (W : World) (hr : ERow W (some ⟨b, off, none⟩) t)
    (IH : Hid (∀ w, Below W.heap.size W w → Calls Try.prog 58 #[.slice (some ⟨b, off + h * 2, none⟩) h (cap - h)] w fun e w' => ∃ b2 off2 cap2 : Nat, e = .returned (.slice (some ⟨b2, off2, none⟩) h cap2) ∧ h ≤ cap2 ∧ ERow w' (some ⟨b2, off2, none⟩) X ∧ Below w.heap.size w w')) :
    Calls Try.prog 58 #[.slice (some ⟨b, off, none⟩) (h + h) cap] W fun e w' => ∃ b2 off2 cap2 : Nat, e = .returned (.slice (some ⟨b2, off2, none⟩) (h + h) cap2) ∧ h + h ≤ cap2 ∧ ERow w' (some ⟨b2, off2, none⟩) (addv 1 h [t.drop h] ++ addv 2 h [t.take h, X]) ∧ Below W.heap.size W w' := by
  have q1 : ¬ ((h : Int) + (h : Int)) = 1 := by omega
  have q2 : ((h : Int) + (h : Int)).tdiv 2 = (h : Int) := by rw [Int.tdiv_eq_ediv_of_nonneg (by omega)]; omega
  have q3 : (h : Int) ≤ (h : Int) + (h : Int) := by omega
  have q4 : ¬ cap = h := by omega
  have q5 : (h : Int) ≤ (cap : Int) := by omega
  have q6 : h ≤ cap := by omega
  have HT := hidT (And.intro hr (And.intro ht (And.intro (show (t.drop h).length = h by rw [List.length_drop]; omega) (show (t.take h).length = h by rw [List.length_take]; omega))))
  have HX := hidT (And.intro hX lX)
  obtain ⟨i0, hi, hz0, hz1, hz2⟩ := info_elem
  have HI := hidT (show Try.prog.info? 24 = some i0 ∧ i0.zero = some (.agg #[.int .u64 0, .int .u64 0]) ∧ i0.size = 2 ∧ i0.bytes = 16 from ⟨hi, hz0, hz1, hz2⟩)
  clear hi hz0 hz1 hz2 hr hl ht hX lX
  go_enter Try.func58, Try.ntmps58
  go_upto_region 4 with fail
  refine wp_region_noPanic ?_
  refine wp_region_held_drew (S := fun _ => True) (by kernel_rfl) trivial (fun hHeld => ?_)
  refine wpAnyH_take (i := 0) (oi := _) (v := ?_) rfl (by kernel_rfl) (by kernel_rfl) (by kernel_rfl) (fun _ _ _ h => h) (Or.inl ⟨by rfl, ?_⟩) (by assumption) ?_
  rotate_left
  · ((intro w hSw; (try dsimp only at hSw); go_simp) <;> (try with_reducible rfl))
  show wpAnyH _ _ _ _ _ _ _ (Act.put _ (some 11) _) _
  simp only [Act.put, List.setIfInBounds_toArray, List.set_cons_succ, List.set_cons_zero]
  refine wpAnyH_take (i := 1) (oi := _) (v := ?_) rfl (by kernel_rfl) (by kernel_rfl) (by kernel_rfl) (fun _ _ _ h => h) (Or.inl ⟨by rfl, ?_⟩) (by assumption) ?_
  rotate_left
  · ((intro w hSw; (try dsimp only at hSw); go_simp) <;> (try with_reducible rfl))
  show wpAnyH _ _ _ _ _ _ _ (Act.put _ (some 12) _) _
  simp only [Act.put, List.setIfInBounds_toArray, List.set_cons_succ, List.set_cons_zero]
  refine wpAnyH_take (i := 2) (oi := _) (v := ?_) rfl (by kernel_rfl) (by kernel_rfl) (by kernel_rfl) (fun _ _ _ h => h) (Or.inl ⟨by rfl, ?_⟩) (by assumption) ?_
  rotate_left
  · ((intro w hSw; (try dsimp only at hSw); go_simp) <;> (try with_reducible rfl))
  show wpAnyH _ _ _ _ _ _ _ (Act.put _ (some 13) _) _
  simp only [Act.put, List.setIfInBounds_toArray, List.set_cons_succ, List.set_cons_zero]
  refine wpAnyH_take (i := 5) (oi := _) (v := ?_) rfl (by kernel_rfl) (by kernel_rfl) (by kernel_rfl) (fun _ _ _ h => h) (Or.inl ⟨by rfl, ?_⟩) (by assumption) ?_
  rotate_left
  · ((intro w hSw; (try dsimp only at hSw); go_simp) <;> (try with_reducible rfl))
  show wpAnyH _ _ _ _ _ _ _ (Act.put _ (some 16) _) _
  simp only [Act.put, List.setIfInBounds_toArray, List.set_cons_succ, List.set_cons_zero]
  refine wpAnyH_take (i := 6) (oi := _) (v := ?_) rfl (by kernel_rfl) (by kernel_rfl) (by kernel_rfl) (fun _ _ _ h => h) (Or.inl ⟨by rfl, ?_⟩) (by assumption) ?_
  rotate_left
  · ((intro w hSw; (try dsimp only at hSw); go_simp) <;> (try with_reducible rfl))
  show wpAnyH _ _ _ _ _ _ _ (Act.put _ (some 17) _) _
  simp only [Act.put, List.setIfInBounds_toArray, List.set_cons_succ, List.set_cons_zero]
  refine wpAnyH_take (i := 7) (oi := _) (v := ?_) rfl (by kernel_rfl) (by kernel_rfl) (by kernel_rfl) (fun _ _ _ h => h) (Or.inl ⟨by rfl, ?_⟩) (by assumption) ?_
  rotate_left
  · ((intro w hSw; (try dsimp only at hSw); go_simp) <;> (try with_reducible rfl))
  show wpAnyH _ _ _ _ _ _ _ (Act.put _ (some 18) _) _
  simp only [Act.put, List.setIfInBounds_toArray, List.set_cons_succ, List.set_cons_zero]
  refine wpAnyH_take (i := 8) (oi := _) (v := ?_) rfl (by kernel_rfl) (by kernel_rfl) (by kernel_rfl) (fun _ _ _ h => h) (Or.inl ⟨by rfl, ?_⟩) (by assumption) ?_
  rotate_left
  · ((intro w hSw; (try dsimp only at hSw); go_simp) <;> (try with_reducible rfl))
  show wpAnyH _ _ _ _ _ _ _ (Act.put _ (some 19) _) _
  simp only [Act.put, List.setIfInBounds_toArray, List.set_cons_succ, List.set_cons_zero]
  refine wpAnyH_take (i := 9) (oi := _) (v := ?_) rfl (by kernel_rfl) (by kernel_rfl) (by kernel_rfl) (fun _ _ _ h => h) (Or.inl ⟨by rfl, ?_⟩) (by assumption) ?_
  rotate_left
  · ((intro w hSw; (try dsimp only at hSw); go_simp) <;> (try with_reducible rfl))
  show wpAnyH _ _ _ _ _ _ _ (Act.put _ (some 20) _) _
  simp only [Act.put, List.setIfInBounds_toArray, List.set_cons_succ, List.set_cons_zero]
  refine wpAnyH_take (i := 10) (oi := _) (v := ?_) rfl (by kernel_rfl) (by kernel_rfl) (by kernel_rfl) (fun _ _ _ h => h) (Or.inl ⟨by rfl, ?_⟩) (by assumption) ?_
  rotate_left
  · ((intro w hSw; (try dsimp only at hSw); go_simp) <;> (try with_reducible rfl))
  show wpAnyH _ _ _ _ _ _ _ (Act.put _ (some 21) _) _
  simp only [Act.put, List.setIfInBounds_toArray, List.set_cons_succ, List.set_cons_zero]
  refine wpAnyH_ready (rs := [3]) (by kernel_rfl) (by simp) ?_
  refine AllReadyH.cons (o := _) rfl (fun KK hKK => ?_) AllReadyH.nil
  go_simp
  refine hKK.out _ _ trivial (fun hHeld => ?_)
  clear hKK KK
  try simp only [Act.put]
  obtain ⟨wA, hwA⟩ : ∃ x, x = (World.alloc W (Obj.cells #[.slice (some ⟨b, off + h * 2, none⟩) h (cap - h)] 26)).drew := ⟨_, rfl⟩
  rw [← hwA]
  have DA : Below W.heap.size W wA := hwA ▸ ((Below.refl _ _).alloc (Nat.le_refl _) _).drew
  have GA : Grid wA (some ⟨W.heap.size, 0, none⟩) [(some ⟨b, off + h * 2, none⟩, h, cap - h)] := hwA ▸ (grid_new W _ [(some ⟨b, off + h * 2, none⟩, h, cap - h)] _ rfl).below (Below.refl _ _).drew
  have AD1 := hidT (added_row (some ⟨W.heap.size, 0, none⟩) 1 1 h [(some ⟨b, off + h * 2, none⟩, h, cap - h)] [t.drop h] rfl (by decide) (by decide) rfl (by omega) (fun i hi => by obtain rfl : i = 0 := (by omega); exact Nat.le_of_eq HT.out.2.2.1.symm) wA GA (fun i hi => by obtain rfl : i = 0 := (by simpa using hi); exact ⟨HT.out.2.2.1.symm, lt_drop HT.out.2.1 h, (erow_drop h HT.out.1).below DA⟩))
  have D1 := hidT DA
  clear DA GA hwA
  refine wpAnyH_ready (rs := [4]) (by kernel_rfl) (by simp) ?_
  refine AllReadyH.cons (o := _) rfl (fun KK hKK => ?_) AllReadyH.nil
  go_simp
  (go_at_call 40; refine AD1.out.mono ?_; rintro e w1 ⟨p1, rfl, ⟨hr1, F1, hF1⟩, hp1, hb1⟩)
  have K1 := hidT (show Below W.heap.size W w1 ∧ ERow w1 (some ⟨p1, 0, none⟩) (addv 1 h [t.drop h]) ∧ w1.rowIs p1 24 (h * 2) F1 ∧ W.heap.size ≤ p1 from ⟨D1.out.trans (hb1.mono D1.out.size), hr1, hF1, Nat.le_trans D1.out.size hp1⟩)
  clear hr1 hF1 hp1 hb1 AD1 D1
  refine hKK.out _ _ trivial (fun hHeld => ?_)
  clear hKK KK
  try simp only [Act.put]
  refine wpAnyH_ready (rs := [11]) (by kernel_rfl) (by simp) ?_
  refine AllReadyH.cons (o := _) rfl (fun KK hKK => ?_) AllReadyH.nil
  go_simp
  (go_at_call 58; refine (IH.out _ K1.out.1).mono ?_; rintro e w2 ⟨b2, off2, cap2, rfl, hc2, hr2, hb2⟩)
  have K2 := hidT (show Below W.heap.size W w2 ∧ ERow w2 (some ⟨p1, 0, none⟩) (addv 1 h [t.drop h]) ∧ w2.rowIs p1 24 (h * 2) F1 ∧ W.heap.size ≤ p1 from ⟨K1.out.1.trans (hb2.mono K1.out.1.size), K1.out.2.1.below hb2, K1.out.2.2.1.of_block (hb2.block _ K1.out.2.2.1.lt), K1.out.2.2.2⟩)
  have R2 := hidT hr2
  clear hr2 hb2 K1 hc2
  refine hKK.out _ _ trivial (fun hHeld => ?_)
  clear hKK KK
  try simp only [Act.put]
  refine wpAnyH_ready (rs := [12]) (by kernel_rfl) (by simp) ?_
  refine AllReadyH.cons (o := _) rfl (fun KK hKK => ?_) AllReadyH.nil
  go_simp
  refine hKK.out _ _ trivial (fun hHeld => ?_)
  clear hKK KK
  try simp only [Act.put]
  obtain ⟨wB, hwB⟩ : ∃ x, x = World.alloc w2 (Obj.cells #[.slice (some ⟨b, off, none⟩) h cap, .slice (some ⟨b2, off2, none⟩) h cap2] 26) := ⟨_, rfl⟩
  rw [← hwB]
  have DB : Below w2.heap.size w2 wB := hwB ▸ (Below.refl _ _).alloc (Nat.le_refl _) _
  have GB : Grid wB (some ⟨w2.heap.size, 0, none⟩) [(some ⟨b, off, none⟩, h, cap), (some ⟨b2, off2, none⟩, h, cap2)] := hwB ▸ grid_new w2 _ [(some ⟨b, off, none⟩, h, cap), (some ⟨b2, off2, none⟩, h, cap2)] _ rfl
  have hTk : ERow w2 (some ⟨b, off, none⟩) (t.take h) := erow_take h (HT.out.1.below K2.out.1)
  have AD2 := hidT (added_row (some ⟨w2.heap.size, 0, none⟩) 2 2 h [(some ⟨b, off, none⟩, h, cap), (some ⟨b2, off2, none⟩, h, cap2)] [t.take h, X] rfl (by decide) (by decide) rfl (by omega) (fun i hi => by
    match i, hi with
    | 0, _ => exact Nat.le_of_eq HT.out.2.2.2.symm
    | 1, _ => exact Nat.le_of_eq HX.out.1.symm) wB GB (fun i hi => by
    match i, hi with
    | 0, _ => exact ⟨HT.out.2.2.2.symm, lt_take HT.out.2.1 h, hTk.below DB⟩
    | 1, _ => exact ⟨HX.out.1.symm, HX.out.2, R2.out.below DB⟩))
  have K3 := hidT (show Below W.heap.size W wB ∧ ERow wB (some ⟨p1, 0, none⟩) (addv 1 h [t.drop h]) ∧ wB.rowIs p1 24 (h * 2) F1 ∧ W.heap.size ≤ p1 from ⟨K2.out.1.trans (DB.mono K2.out.1.size), K2.out.2.1.below DB, K2.out.2.2.1.of_block (DB.block _ K2.out.2.2.1.lt), K2.out.2.2.2⟩)
  clear DB GB hTk hwB R2 K2
  refine wpAnyH_ready (rs := [13]) (by kernel_rfl) (by simp) ?_
  refine AllReadyH.cons (o := _) rfl (fun KK hKK => ?_) AllReadyH.nil
  go_simp
  (go_at_call 40; refine AD2.out.mono ?_; rintro e w4 ⟨p2, rfl, ⟨hr4, F2, hF2⟩, hp4, hb4⟩)
  have K4 := hidT (show Below W.heap.size W w4 ∧ w4.ownsRow W.heap.size 24 2 (.slice (some ⟨p1, 0, none⟩) h h) h (flat (addv 1 h [t.drop h])) ∧ ERow w4 (some ⟨p2, 0, none⟩) (addv 2 h [t.take h, X]) from ⟨K3.out.1.trans (hb4.mono K3.out.1.size), own_erow K3.out.2.2.2 (by simp only [maxLen]; omega) (addv_len _ _ _) (K3.out.2.2.1.of_block (hb4.block _ K3.out.2.2.1.lt)) (K3.out.2.1.below hb4), hr4⟩)
  have NW := hidT (row_newsP K4.out.2.2)
  clear hr4 hF2 hp4 hb4 AD2 K3
  refine hKK.out _ _ trivial (fun hHeld => ?_)
  clear hKK KK
  try simp only [Act.put]
  refine wpAnyH_ready (rs := [14]) (by kernel_rfl) (by simp) ?_
  refine AllReadyH.cons (o := _) rfl (fun KK hKK => ?_) AllReadyH.nil
  refine step_append_lies _ (by rfl) _ _ _ (by rfl) W.heap.size 24 i0 _ 2 16 Try.underlying26 HI.out.1 HI.out.2.1 HI.out.2.2.1 HI.out.2.2.2 rfl (by omega) (.slice (some ⟨p1, 0, none⟩) h h) h _ (by rfl) K4.out.2.1 ⟨p2, 0, none⟩ h h (flat (addv 2 h [t.take h, X])) (by rfl) (by rw [flat_lenP, addv_len]) (NW.out) (one_flatP _) (by omega) (by simp only [maxLen]; omega) (by omega) K4.out.1.size w4.heap.size rfl ?_
  intro gg cp w5 hown5 hgrow hat hlt5
  have K5 := hidT (show Below W.heap.size W w5 ∧ w5.ownsRow W.heap.size 24 2 (.slice (some ⟨gg, 0, none⟩) (h + h) cp) (h + h) (flat (addv 1 h [t.drop h]) ++ flat (addv 2 h [t.take h, X])) from ⟨K4.out.1.grown hgrow K4.out.1.size (fun g hg => (K4.out.2.1.lt g hg).1), hown5⟩)
  clear hown5 hgrow hat hlt5 K4 NW
  refine hKK.out _ _ trivial (fun hHeld => ?_)
  clear hKK KK
  show wpAnyH _ _ _ _ _ _ _ (Act.put _ (some 25) _) _
  simp only [Act.put, List.setIfInBounds_toArray, List.set_cons_succ, List.set_cons_zero]
  refine wpAnyH_take (i := 15) (oi := _) (v := ?_) rfl (by kernel_rfl) (by kernel_rfl) (by kernel_rfl) (fun _ _ _ h => h) (Or.inl ⟨by rfl, ?_⟩) (by assumption) ?_
  rotate_left
  · ((intro w hSw; (try dsimp only at hSw); go_simp) <;> (try with_reducible rfl))
  show wpAnyH _ _ _ _ _ _ _ (Act.put _ (some 2) _) _
  simp only [Act.put, List.setIfInBounds_toArray, List.set_cons_succ, List.set_cons_zero]
  refine wpAnyH_done (by kernel_rfl) ?_ _
  refine NoPanic.normal ?_
  go_wp2
  go_ret
  obtain ⟨g, cap', e, hcp, hE, _⟩ := own_join h0 (addv_len _ _ _) (addv_len _ _ _) K5.out.2
  injection e with e1 e2 e3
  injection e1 with e1
  injection e1 with e1
  subst e1
  exact ⟨gg, 0, cp, rfl, e3 ▸ hcp, hE, K5.out.1⟩
theorem tx_any : ∀ (k : Nat), k ≤ 7 → ∀ (t : List (Nat × Nat)) (b off cap : Nat) (W : World), t.length = 2 ^ k → ltE t → 2 ^ k ≤ cap → ERow W (some ⟨b, off, none⟩) t →
    Calls Try.prog 58 #[.slice (some ⟨b, off, none⟩) (2 ^ k) cap] W fun e w' => ∃ b2 off2 cap2 : Nat, e = .returned (.slice (some ⟨b2, off2, none⟩) (2 ^ k) cap2) ∧ 2 ^ k ≤ cap2 ∧ ERow w' (some ⟨b2, off2, none⟩) (txL k t) ∧ Below W.heap.size W w'
  | 0, _, t, b, off, cap, W, hl, ht, hc, hr => by
    show Calls Try.prog 58 #[.slice (some ⟨b, off, none⟩) 1 cap] W fun e w' => ∃ b2 off2 cap2 : Nat, e = .returned (.slice (some ⟨b2, off2, none⟩) 1 cap2) ∧ 1 ≤ cap2 ∧ ERow w' (some ⟨b2, off2, none⟩) t ∧ Below W.heap.size W w'
    have HR := hidT (And.intro hc hr)
    clear hl ht hc hr
    go_enter Try.func58, Try.ntmps58
    go_wp2
    go_ret
    exact ⟨b, off, cap, rfl, HR.out.1, HR.out.2, Below.refl _ _⟩
  | k + 1, hk, t, b, off, cap, W, hl, ht, hc, hr => by
    have e : 2 ^ (k + 1) = 2 ^ k + 2 ^ k := by rw [Nat.pow_succ]; omega
    have h64 : 2 ^ k ≤ 64 := Nat.le_trans (Nat.pow_le_pow_right (by decide) (show k ≤ 6 by omega)) (by decide)
    have ld := len_drop hl
    rw [e] at hl hc ⊢
    exact tx_step (2 ^ k) (Nat.two_pow_pos k) h64 b off cap hc t (txL k (t.drop (2 ^ k))) hl ht (txL_len k _ ld) (lt_txL k _ (lt_drop ht _)) W hr
      (hidT fun w hb => tx_any k (by omega) (t.drop (2 ^ k)) b (off + 2 ^ k * 2) (cap - 2 ^ k) w ld (lt_drop ht _) (by omega) ((erow_drop _ hr).below hb))
end Pv
end Go.Proofs.Ytcejppibcemdeaa
