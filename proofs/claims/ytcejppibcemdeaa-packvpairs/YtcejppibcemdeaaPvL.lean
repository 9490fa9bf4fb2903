/- PackvPairs over the seat's translation. -/
import Derived.Test.YtcejppibcemdeaaPvK
import Derived.Test.YtcejppibcemdeaaSmA
namespace Go.Proofs.Ytcejppibcemdeaa
open Go.RowKit
open Cb Rg
open Tw (pm)
namespace Pv

theorem right_pair (N : Nat) (hN : N ≤ 128) (a : Nat × Nat) : rightv N a = pairv N (0, 1) a := list_ext (by rw [rightv_len, pairv_len]) fun c hc => by
  rw [rightv_len] at hc
  rw [rightv_at N a c hc, pairv_at N (0, 1) a c hc]
  have h : hs (0, 1) c = decide (c = 0) := bv_has 0 c (by decide) (by omega)
  rw [h]
  by_cases e : c = 0
  · rw [if_pos e, e]; rfl
  · rw [if_neg e, decide_eq_false e]; rfl
set_option linter.unusedSimpArgs false in
set_option linter.unusedVariables false in
set_option maxHeartbeats 8000000 in
set_option maxRecDepth 100000 in
theorem pp_far (l : Int) (hl : ¬ (0 ≤ l ∧ l ≤ 7)) (a : Nat × Nat) (la : lt2 a) (W : World) :
    Calls Try.prog 3 #[.int .i64 l, .agg #[.int .u64 (a.1 : Int), .int .u64 (a.2 : Int)]] W fun e w' => e = .returned (.bool true) ∧ Below W.heap.size W w' := by
  have hof : ofB l (a.1 : Int) (a.2 : Int) = false := by
    unfold ofB
    have : levelB l = false := by unfold levelB; simp; omega
    rw [this]
    rfl
  have HL := hidT (left_no l a la hof)
  have HR := hidT (right_no l a la hof)
  have HO := hidT (one_no l hl)
  have AW := hidT awake19
  have lt0 : l < 0 ∨ 7 < l := by omega
  clear hof
  obtain ⟨W1, hW1⟩ : ∃ x, x = W.alloc (Obj.cells #[.int .u64 (a.1 : Int), .int .u64 (a.2 : Int)] 24) := ⟨_, rfl⟩
  have D0 := hidT (show Below W.heap.size W W1 from hW1 ▸ (Below.refl _ _).alloc (Nat.le_refl _) _)
  have A0 : El W1 W.heap.size a.1 a.2 := hW1 ▸ El.newP W a _
  have CA := hidT (fun w (hb : Below W1.heap.size W1 w) => show w.cell? ⟨W.heap.size, 0, none⟩ = some (.int .u64 (a.1 : Int)) ∧ w.cell? ⟨W.heap.size, 1, none⟩ = some (.int .u64 (a.2 : Int)) from ⟨(A0.below hb).hi, (A0.below hb).lo⟩)
  clear A0
  go_enter Try.func3, Try.ntmps3
  go_upto_region 1 with fail
  rw [← hW1]
  clear hW1
  refine wp_region_noPanic ?_
  refine wp_region_held_drew (S := fun w => w.cell? ⟨W.heap.size, 0, none⟩ = some (.int .u64 (a.1 : Int)) ∧ w.cell? ⟨W.heap.size, 1, none⟩ = some (.int .u64 (a.2 : Int))) (by kernel_rfl) (CA.out _ (Below.refl _ _).drew) (fun hHeld => ?_)
  refine wpAnyH_take (i := 0) (oi := _) (v := ?_) rfl (by kernel_rfl) (by kernel_rfl) (by kernel_rfl) (fun _ _ _ h => h) (Or.inl ⟨by rfl, ?_⟩) (by assumption) ?_
  rotate_left
  · ((intro w hSw; (try dsimp only at hSw); go_simp) <;> (try with_reducible rfl))
  show wpAnyH _ _ _ _ _ _ _ (Act.put _ (some 9) _) _
  simp only [Act.put, List.setIfInBounds_toArray, List.set_cons_succ, List.set_cons_zero]
  refine wpAnyH_take (i := 1) (oi := _) (v := ?_) rfl (by kernel_rfl) (by kernel_rfl) (by kernel_rfl) (fun _ _ _ h => h) (Or.inl ⟨by rfl, ?_⟩) (by assumption) ?_
  rotate_left
  · ((intro w hSw; (try dsimp only at hSw); go_simp) <;> (try with_reducible rfl))
  show wpAnyH _ _ _ _ _ _ _ (Act.put _ (some 10) _) _
  simp only [Act.put, List.setIfInBounds_toArray, List.set_cons_succ, List.set_cons_zero]
  refine wpAnyH_take (i := 3) (oi := _) (v := ?_) rfl (by kernel_rfl) (by kernel_rfl) (by kernel_rfl) (fun _ _ _ h => h) (Or.inl ⟨by rfl, ?_⟩) (by assumption) ?_
  rotate_left
  · ((intro w hSw; (try dsimp only at hSw); go_simp) <;> (try with_reducible rfl))
  show wpAnyH _ _ _ _ _ _ _ (Act.put _ (some 12) _) _
  simp only [Act.put, List.setIfInBounds_toArray, List.set_cons_succ, List.set_cons_zero]
  refine wpAnyH_take (i := 4) (oi := _) (v := ?_) rfl (by kernel_rfl) (by kernel_rfl) (by kernel_rfl) (fun _ _ _ h => h) (Or.inl ⟨by rfl, ?_⟩) (by assumption) ?_
  rotate_left
  · ((intro w hSw; (try dsimp only at hSw); go_simp) <;> (try with_reducible rfl))
  show wpAnyH _ _ _ _ _ _ _ (Act.put _ (some 13) _) _
  simp only [Act.put, List.setIfInBounds_toArray, List.set_cons_succ, List.set_cons_zero]
  refine wpAnyH_ready (rs := [2]) (by kernel_rfl) (by simp) ?_
  refine AllReadyH.cons (o := _) rfl (fun KK hKK => ?_) AllReadyH.nil
  go_simp
  (go_at_call 8; refine (HL.out.go _).mono ?_; rintro e w9 ⟨rfl, hb⟩)
  have K1 := hidT (show Below W1.heap.size W1 w9 from (Below.refl _ _).drew.trans hb)
  clear hb
  refine hKK.out _ _ ?_ (fun hHeld => ?_)
  · exact CA.out _ K1.out
  clear hKK KK
  try simp only [Act.put]
  refine wpAnyH_ready (rs := [5]) (by kernel_rfl) (by simp) ?_
  refine AllReadyH.cons (o := _) rfl (fun KK hKK => ?_) AllReadyH.nil
  go_simp
  (go_at_call 9; refine (HR.out.go _).mono ?_; rintro e w8 ⟨rfl, hb⟩)
  have K2 := hidT (show Below W1.heap.size W1 w8 from K1.out.trans (hb.mono K1.out.size))
  clear hb K1
  refine hKK.out _ _ ?_ (fun hHeld => ?_)
  · exact CA.out _ K2.out
  clear hKK KK
  try simp only [Act.put]
  refine wpAnyH_take (i := 6) (oi := _) (v := ?_) rfl (by kernel_rfl) (by kernel_rfl) (by kernel_rfl) (fun _ _ _ h => h) (Or.inl ⟨by rfl, ?_⟩) (by assumption) ?_
  rotate_left
  · ((intro w hSw; (try dsimp only at hSw); go_simp) <;> (try with_reducible rfl))
  show wpAnyH _ _ _ _ _ _ _ (Act.put _ (some 5) _) _
  simp only [Act.put, List.setIfInBounds_toArray, List.set_cons_succ, List.set_cons_zero]
  refine wpAnyH_take (i := 7) (oi := _) (v := ?_) rfl (by kernel_rfl) (by kernel_rfl) (by kernel_rfl) (fun _ _ _ h => h) (Or.inl ⟨by rfl, ?_⟩) (by assumption) ?_
  rotate_left
  · ((intro w hSw; (try dsimp only at hSw); go_simp) <;> (try with_reducible rfl))
  show wpAnyH _ _ _ _ _ _ _ (Act.put _ (some 6) _) _
  simp only [Act.put, List.setIfInBounds_toArray, List.set_cons_succ, List.set_cons_zero]
  refine wpAnyH_done (by kernel_rfl) ?_ _
  refine NoPanic.normal ?_
  obtain ⟨f1, f0⟩ := CA.out _ K2.out
  have hlt8 := hidT (show W.heap.size < w8.heap.size from cell_lt f1)
  obtain ⟨f1', f0'⟩ := CA.out _ (K2.out.alloc K2.out.size (Obj.cells #[.int .u64 0, .int .u64 1] 28))
  go_upto_region 4 with fail
  obtain ⟨wb, hwb⟩ : ∃ x, x = (w8.alloc (Obj.cells #[.int .u64 0, .int .u64 1] 28)).alloc (Obj.cells #[.int .u64 (a.1 : Int), .int .u64 (a.2 : Int)] 28) := ⟨_, rfl⟩
  have D8 := hidT (show Below w8.heap.size w8 wb from hwb ▸ ((Below.refl _ _).alloc (Nat.le_refl _) _).alloc (by simp) _)
  have B7 : El wb w8.heap.size 0 1 := by
    subst hwb
    exact (El.newP w8 (0, 1) _).below ((Below.refl _ _).alloc (Nat.le_refl _) _)
  have B8 : El wb (w8.heap.size + 1) a.1 a.2 := by
    subst hwb
    have := El.newP (w8.alloc (Obj.cells #[.int .u64 0, .int .u64 1] 28)) a 28
    simpa using this
  rw [← hwb]
  clear hwb f1 f0 f1' f0'
  generalize w8.heap.size = q7 at B7 B8 ⊢
  have EE := hidT (fun w (hb : Below wb.heap.size wb w) => show El w q7 0 1 ∧ El w (q7 + 1) a.1 a.2 from ⟨B7.below hb, B8.below hb⟩)
  have K := hidT (Below.refl wb.heap.size wb)
  have DW := hidT (show Below W.heap.size W wb from (D0.out.trans (K2.out.mono D0.out.size)).trans (D8.out.mono (Nat.le_of_lt hlt8.out)))
  obtain ⟨⟨g1, g0⟩, ⟨h1, h0⟩⟩ := EE.out _ K.out
  clear K2 D8 hlt8 B7 B8
  rcases lt0 with lt0 | lt0
  · go_wp2_with (first
      | (go_at_call 10; refine (AW.out.go _).mono ?_; rintro e w9 ⟨rfl, hb⟩; have K5 := hidT (K.out.trans (hb.mono K.out.size)); clear hb K)
      | (go_at_call 11; refine (HO.out.go _).mono ?_; rintro e w7 ⟨rfl, hb⟩; have K6 := hidT (K5.out.trans (hb.mono K5.out.size)); clear hb))
    go_ret
    exact ⟨by first | rfl | simp, DW.out.trans (K6.out.mono DW.out.size)⟩
  · have lt1 : ¬ l < 0 := by omega
    go_wp2_with (first
      | (go_at_call 10; refine (AW.out.go _).mono ?_; rintro e w9 ⟨rfl, hb⟩; have K5 := hidT (K.out.trans (hb.mono K.out.size)); clear hb K)
      | (go_at_call 11; refine (HO.out.go _).mono ?_; rintro e w7 ⟨rfl, hb⟩; have K6 := hidT (K5.out.trans (hb.mono K5.out.size)); clear hb))
    go_ret
    exact ⟨by first | rfl | simp, DW.out.trans (K6.out.mono DW.out.size)⟩
set_option linter.unusedSimpArgs false in
set_option linter.unusedVariables false in
set_option maxHeartbeats 8000000 in
set_option maxRecDepth 100000 in
theorem pp_not (k : Nat) (hk : k < 8) (a : Nat × Nat) (la : lt2 a) (hof : ofB (k : Int) (a.1 : Int) (a.2 : Int) = false) (W : World) :
    Calls Try.prog 3 #[.int .i64 (k : Int), .agg #[.int .u64 (a.1 : Int), .int .u64 (a.2 : Int)]] W fun e w' => e = .returned (.bool true) ∧ Below W.heap.size W w' := by
  have HL := hidT (left_no (k : Int) a la hof)
  have HR := hidT (right_no (k : Int) a la hof)
  have OF := hidT (rof_any (k : Int) a.1 a.2 la.1 la.2)
  rw [hof] at OF
  obtain ⟨N, hN⟩ : ∃ N, N = 2 ^ k := ⟨_, rfl⟩
  have n1 : N ≤ 128 := by rw [hN]; exact Nat.le_trans (Nat.pow_le_pow_right (by decide) (show k ≤ 7 by omega)) (by decide)
  have HO := hidT (fun w => one_ok k hk N hN w)
  have PO := hidT (fun w => rpair k hk N hN (0, 1) (0, 1) lt_one lt_one w)
  have SM := hidT (fun (p o q c1 c2 : Nat) (w : World) (es : List (Nat × Nat)) (h1 : ERow w (some ⟨p, o, none⟩) (pairv N (0, 1) (0, 1))) (h2 : ERow w (some ⟨q, 0, none⟩) (pairv N (0, 1) (0, 1))) => same_rows (some ⟨p, o, none⟩) (some ⟨q, 0, none⟩) c1 c2 (pairv N (0, 1) (0, 1)) (by rw [pairv_len]; omega) w h1 h2)
  simp only [pairv_len] at SM
  have AW := hidT awake19
  have lt0 : ¬ (k : Int) < 0 := by omega
  have lt7 : ¬ (7 : Int) < (k : Int) := by omega
  clear hof hN
  obtain ⟨W1, hW1⟩ : ∃ x, x = W.alloc (Obj.cells #[.int .u64 (a.1 : Int), .int .u64 (a.2 : Int)] 24) := ⟨_, rfl⟩
  have D0 := hidT (show Below W.heap.size W W1 from hW1 ▸ (Below.refl _ _).alloc (Nat.le_refl _) _)
  have A0 : El W1 W.heap.size a.1 a.2 := hW1 ▸ El.newP W a _
  have CA := hidT (fun w (hb : Below W1.heap.size W1 w) => show w.cell? ⟨W.heap.size, 0, none⟩ = some (.int .u64 (a.1 : Int)) ∧ w.cell? ⟨W.heap.size, 1, none⟩ = some (.int .u64 (a.2 : Int)) from ⟨(A0.below hb).hi, (A0.below hb).lo⟩)
  clear A0
  go_enter Try.func3, Try.ntmps3
  go_upto_region 1 with fail
  rw [← hW1]
  clear hW1
  refine wp_region_noPanic ?_
  refine wp_region_held_drew (S := fun w => w.cell? ⟨W.heap.size, 0, none⟩ = some (.int .u64 (a.1 : Int)) ∧ w.cell? ⟨W.heap.size, 1, none⟩ = some (.int .u64 (a.2 : Int))) (by kernel_rfl) (CA.out _ (Below.refl _ _).drew) (fun hHeld => ?_)
  refine wpAnyH_take (i := 0) (oi := _) (v := ?_) rfl (by kernel_rfl) (by kernel_rfl) (by kernel_rfl) (fun _ _ _ h => h) (Or.inl ⟨by rfl, ?_⟩) (by assumption) ?_
  rotate_left
  · ((intro w hSw; (try dsimp only at hSw); go_simp) <;> (try with_reducible rfl))
  show wpAnyH _ _ _ _ _ _ _ (Act.put _ (some 9) _) _
  simp only [Act.put, List.setIfInBounds_toArray, List.set_cons_succ, List.set_cons_zero]
  refine wpAnyH_take (i := 1) (oi := _) (v := ?_) rfl (by kernel_rfl) (by kernel_rfl) (by kernel_rfl) (fun _ _ _ h => h) (Or.inl ⟨by rfl, ?_⟩) (by assumption) ?_
  rotate_left
  · ((intro w hSw; (try dsimp only at hSw); go_simp) <;> (try with_reducible rfl))
  show wpAnyH _ _ _ _ _ _ _ (Act.put _ (some 10) _) _
  simp only [Act.put, List.setIfInBounds_toArray, List.set_cons_succ, List.set_cons_zero]
  refine wpAnyH_take (i := 3) (oi := _) (v := ?_) rfl (by kernel_rfl) (by kernel_rfl) (by kernel_rfl) (fun _ _ _ h => h) (Or.inl ⟨by rfl, ?_⟩) (by assumption) ?_
  rotate_left
  · ((intro w hSw; (try dsimp only at hSw); go_simp) <;> (try with_reducible rfl))
  show wpAnyH _ _ _ _ _ _ _ (Act.put _ (some 12) _) _
  simp only [Act.put, List.setIfInBounds_toArray, List.set_cons_succ, List.set_cons_zero]
  refine wpAnyH_take (i := 4) (oi := _) (v := ?_) rfl (by kernel_rfl) (by kernel_rfl) (by kernel_rfl) (fun _ _ _ h => h) (Or.inl ⟨by rfl, ?_⟩) (by assumption) ?_
  rotate_left
  · ((intro w hSw; (try dsimp only at hSw); go_simp) <;> (try with_reducible rfl))
  show wpAnyH _ _ _ _ _ _ _ (Act.put _ (some 13) _) _
  simp only [Act.put, List.setIfInBounds_toArray, List.set_cons_succ, List.set_cons_zero]
  refine wpAnyH_ready (rs := [2]) (by kernel_rfl) (by simp) ?_
  refine AllReadyH.cons (o := _) rfl (fun KK hKK => ?_) AllReadyH.nil
  go_simp
  (go_at_call 8; refine (HL.out.go _).mono ?_; rintro e w9 ⟨rfl, hb⟩)
  have K1 := hidT (show Below W1.heap.size W1 w9 from (Below.refl _ _).drew.trans hb)
  clear hb
  refine hKK.out _ _ ?_ (fun hHeld => ?_)
  · exact CA.out _ K1.out
  clear hKK KK
  try simp only [Act.put]
  refine wpAnyH_ready (rs := [5]) (by kernel_rfl) (by simp) ?_
  refine AllReadyH.cons (o := _) rfl (fun KK hKK => ?_) AllReadyH.nil
  go_simp
  (go_at_call 9; refine (HR.out.go _).mono ?_; rintro e w8 ⟨rfl, hb⟩)
  have K2 := hidT (show Below W1.heap.size W1 w8 from K1.out.trans (hb.mono K1.out.size))
  clear hb K1
  refine hKK.out _ _ ?_ (fun hHeld => ?_)
  · exact CA.out _ K2.out
  clear hKK KK
  try simp only [Act.put]
  refine wpAnyH_take (i := 6) (oi := _) (v := ?_) rfl (by kernel_rfl) (by kernel_rfl) (by kernel_rfl) (fun _ _ _ h => h) (Or.inl ⟨by rfl, ?_⟩) (by assumption) ?_
  rotate_left
  · ((intro w hSw; (try dsimp only at hSw); go_simp) <;> (try with_reducible rfl))
  show wpAnyH _ _ _ _ _ _ _ (Act.put _ (some 5) _) _
  simp only [Act.put, List.setIfInBounds_toArray, List.set_cons_succ, List.set_cons_zero]
  refine wpAnyH_take (i := 7) (oi := _) (v := ?_) rfl (by kernel_rfl) (by kernel_rfl) (by kernel_rfl) (fun _ _ _ h => h) (Or.inl ⟨by rfl, ?_⟩) (by assumption) ?_
  rotate_left
  · ((intro w hSw; (try dsimp only at hSw); go_simp) <;> (try with_reducible rfl))
  show wpAnyH _ _ _ _ _ _ _ (Act.put _ (some 6) _) _
  simp only [Act.put, List.setIfInBounds_toArray, List.set_cons_succ, List.set_cons_zero]
  refine wpAnyH_done (by kernel_rfl) ?_ _
  refine NoPanic.normal ?_
  obtain ⟨f1, f0⟩ := CA.out _ K2.out
  have hlt8 := hidT (show W.heap.size < w8.heap.size from cell_lt f1)
  obtain ⟨f1', f0'⟩ := CA.out _ (K2.out.alloc K2.out.size (Obj.cells #[.int .u64 0, .int .u64 1] 28))
  go_upto_region 6 with fail
  obtain ⟨wb, hwb⟩ : ∃ x, x = (w8.alloc (Obj.cells #[.int .u64 0, .int .u64 1] 28)).alloc (Obj.cells #[.int .u64 (a.1 : Int), .int .u64 (a.2 : Int)] 28) := ⟨_, rfl⟩
  have D8 := hidT (show Below w8.heap.size w8 wb from hwb ▸ ((Below.refl _ _).alloc (Nat.le_refl _) _).alloc (by simp) _)
  have B7 : El wb w8.heap.size 0 1 := by
    subst hwb
    exact (El.newP w8 (0, 1) _).below ((Below.refl _ _).alloc (Nat.le_refl _) _)
  have B8 : El wb (w8.heap.size + 1) a.1 a.2 := by
    subst hwb
    have := El.newP (w8.alloc (Obj.cells #[.int .u64 0, .int .u64 1] 28)) a 28
    simpa using this
  rw [← hwb]
  clear hwb f1 f0 f1' f0'
  generalize w8.heap.size = q7 at B7 B8 ⊢
  have EE := hidT (fun w (hb : Below wb.heap.size wb w) => show El w q7 0 1 ∧ El w (q7 + 1) a.1 a.2 from ⟨B7.below hb, B8.below hb⟩)
  have K := hidT (Below.refl wb.heap.size wb)
  have DW := hidT (show Below W.heap.size W wb from (D0.out.trans (K2.out.mono D0.out.size)).trans (D8.out.mono (Nat.le_of_lt hlt8.out)))
  obtain ⟨⟨g1, g0⟩, ⟨h1, h0⟩⟩ := EE.out _ K.out
  clear K2 D8 hlt8 B7 B8
  refine wp_region_noPanic ?_
  refine wp_region_held_drew (S := fun w => w.cell? ⟨q7, 0, none⟩ = some (.int .u64 0) ∧ w.cell? ⟨q7, 1, none⟩ = some (.int .u64 1)) (by kernel_rfl) (by first | exact ⟨(EE.out _ K.out).1.hi, (EE.out _ K.out).1.lo⟩ | exact ⟨(EE.out _ K.out.drew).1.hi, (EE.out _ K.out.drew).1.lo⟩) (fun hHeld => ?_)
  refine wpAnyH_take (i := 0) (oi := _) (v := ?_) rfl (by kernel_rfl) (by kernel_rfl) (by kernel_rfl) (fun _ _ _ h => h) (Or.inl ⟨by rfl, ?_⟩) (by assumption) ?_
  rotate_left
  · ((intro w hSw; (try dsimp only at hSw); go_simp) <;> (try with_reducible rfl))
  show wpAnyH _ _ _ _ _ _ _ (Act.put _ (some 36) _) _
  simp only [Act.put, List.setIfInBounds_toArray, List.set_cons_succ, List.set_cons_zero]
  refine wpAnyH_take (i := 2) (oi := _) (v := ?_) rfl (by kernel_rfl) (by kernel_rfl) (by kernel_rfl) (fun _ _ _ h => h) (Or.inl ⟨by rfl, ?_⟩) (by assumption) ?_
  rotate_left
  · ((intro w hSw; (try dsimp only at hSw); go_simp) <;> (try with_reducible rfl))
  show wpAnyH _ _ _ _ _ _ _ (Act.put _ (some 38) _) _
  simp only [Act.put, List.setIfInBounds_toArray, List.set_cons_succ, List.set_cons_zero]
  refine wpAnyH_take (i := 3) (oi := _) (v := ?_) rfl (by kernel_rfl) (by kernel_rfl) (by kernel_rfl) (fun _ _ _ h => h) (Or.inl ⟨by rfl, ?_⟩) (by assumption) ?_
  rotate_left
  · ((intro w hSw; (try dsimp only at hSw); go_simp) <;> (try with_reducible rfl))
  show wpAnyH _ _ _ _ _ _ _ (Act.put _ (some 39) _) _
  simp only [Act.put, List.setIfInBounds_toArray, List.set_cons_succ, List.set_cons_zero]
  refine wpAnyH_take (i := 4) (oi := _) (v := ?_) rfl (by kernel_rfl) (by kernel_rfl) (by kernel_rfl) (fun _ _ _ h => h) (Or.inl ⟨by rfl, ?_⟩) (by assumption) ?_
  rotate_left
  · ((intro w hSw; (try dsimp only at hSw); go_simp) <;> (try with_reducible rfl))
  show wpAnyH _ _ _ _ _ _ _ (Act.put _ (some 40) _) _
  simp only [Act.put, List.setIfInBounds_toArray, List.set_cons_succ, List.set_cons_zero]
  refine wpAnyH_ready (rs := [1]) (by kernel_rfl) (by simp) ?_
  refine AllReadyH.cons (o := _) rfl (fun KK hKK => ?_) AllReadyH.nil
  go_simp
  (go_at_call 11; refine (HO.out _).mono ?_; rintro e w6 ⟨po, rfl, ⟨hro, _⟩, _, hb⟩)
  have RO := hidT hro
  clear hro
  have K'' := hidT (by first | exact K.out.trans (hb.mono K.out.size) | exact K.out.drew.trans (hb.mono K.out.drew.size) : Below wb.heap.size wb w6)
  clear K hb
  have K := K''
  clear K''
  refine hKK.out _ _ ?_ (fun hHeld => ?_)
  · exact by first | exact ⟨(EE.out _ K.out).1.hi, (EE.out _ K.out).1.lo⟩ | exact ⟨(EE.out _ K.out.drew).1.hi, (EE.out _ K.out.drew).1.lo⟩
  clear hKK KK
  try simp only [Act.put]
  refine wpAnyH_ready (rs := [5]) (by kernel_rfl) (by simp) ?_
  refine AllReadyH.cons (o := _) rfl (fun KK hKK => ?_) AllReadyH.nil
  go_simp
  (go_at_call 13; refine (PO.out _).mono ?_; rintro e w7 ⟨pp, cpp, rfl, _, hrp, _, hb⟩)
  have RO' := hidT (And.intro (RO.out.below hb) hrp)
  clear RO hrp
  have RO := RO'
  clear RO'
  have K'' := hidT (by first | exact K.out.trans (hb.mono K.out.size) | exact K.out.drew.trans (hb.mono K.out.drew.size) : Below wb.heap.size wb w7)
  clear K hb
  have K := K''
  clear K''
  refine hKK.out _ _ ?_ (fun hHeld => ?_)
  · exact by first | exact ⟨(EE.out _ K.out).1.hi, (EE.out _ K.out).1.lo⟩ | exact ⟨(EE.out _ K.out.drew).1.hi, (EE.out _ K.out.drew).1.lo⟩
  clear hKK KK
  try simp only [Act.put]
  refine wpAnyH_ready (rs := [6]) (by kernel_rfl) (by simp) ?_
  refine AllReadyH.cons (o := _) rfl (fun KK hKK => ?_) AllReadyH.nil
  go_simp
  (go_at_call 12; refine (SM.out po 0 pp N cpp _ [] RO.out.1 RO.out.2).mono ?_; rintro e w5 ⟨rfl, hb⟩)
  clear RO
  have K'' := hidT (by first | exact K.out.trans (hb.mono K.out.size) | exact K.out.drew.trans (hb.mono K.out.drew.size) : Below wb.heap.size wb w5)
  clear K hb
  have K := K''
  clear K''
  refine hKK.out _ _ ?_ (fun hHeld => ?_)
  · exact by first | exact ⟨(EE.out _ K.out).1.hi, (EE.out _ K.out).1.lo⟩ | exact ⟨(EE.out _ K.out.drew).1.hi, (EE.out _ K.out.drew).1.lo⟩
  clear hKK KK
  try simp only [Act.put]
  refine wpAnyH_take (i := 7) (oi := _) (v := ?_) rfl (by kernel_rfl) (by kernel_rfl) (by kernel_rfl) (fun _ _ _ h => h) (Or.inl ⟨by rfl, ?_⟩) (by assumption) ?_
  rotate_left
  · ((intro w hSw; (try dsimp only at hSw); go_simp) <;> (try with_reducible rfl))
  show wpAnyH _ _ _ _ _ _ _ (Act.put _ (some 43) _) _
  simp only [Act.put, List.setIfInBounds_toArray, List.set_cons_succ, List.set_cons_zero]
  refine wpAnyH_done (by kernel_rfl) ?_ _
  refine NoPanic.normal ?_
  obtain ⟨_, ⟨h1, h0⟩⟩ := EE.out _ K.out
  go_wp2_with (first
    | (go_at_call 14; refine (OF.out.go _).mono ?_; rintro e w4 ⟨rfl, hb⟩; have K5 := hidT (K.out.trans (hb.mono K.out.size)); clear hb K)
    | (go_at_call 10; refine (AW.out.go _).mono ?_; rintro e w3 ⟨rfl, hb⟩; have K6 := hidT (K5.out.trans (hb.mono K5.out.size)); clear hb))
  go_ret
  exact ⟨by first | rfl | simp, DW.out.trans (K6.out.mono DW.out.size)⟩
set_option linter.unusedSimpArgs false in
set_option linter.unusedVariables false in
set_option maxHeartbeats 8000000 in
set_option maxRecDepth 100000 in
theorem pp_ok (k : Nat) (hk : k < 8) (a : Nat × Nat) (la : lt2 a) (hof : ofB (k : Int) (a.1 : Int) (a.2 : Int) = true) (W : World) :
    Calls Try.prog 3 #[.int .i64 (k : Int), .agg #[.int .u64 (a.1 : Int), .int .u64 (a.2 : Int)]] W fun e w' => e = .returned (.bool true) ∧ Below W.heap.size W w' := by
  obtain ⟨N, hN⟩ : ∃ N, N = 2 ^ k := ⟨_, rfl⟩
  have n1 : N ≤ 128 := by rw [hN]; exact Nat.le_trans (Nat.pow_le_pow_right (by decide) (show k ≤ 7 by omega)) (by decide)
  have HL := hidT (fun w => left_ok k hk N hN a la hof w)
  have HR := hidT (fun w => right_ok k hk N hN a la hof w)
  have OF := hidT (rof_any (k : Int) a.1 a.2 la.1 la.2)
  rw [hof] at OF
  have HO := hidT (fun w => one_ok k hk N hN w)
  have PO := hidT (fun w => rpair k hk N hN (0, 1) (0, 1) lt_one lt_one w)
  have PA := hidT (fun w => rpair k hk N hN a (0, 1) la lt_one w)
  have PB := hidT (fun w => rpair k hk N hN (0, 1) a lt_one la w)
  have SM := hidT (fun (p o q c1 c2 : Nat) (w : World) (x y : Nat × Nat) (h1 : ERow w (some ⟨p, o, none⟩) (pairv N x y)) (h2 : ERow w (some ⟨q, 0, none⟩) (pairv N x y)) => same_rows (some ⟨p, o, none⟩) (some ⟨q, 0, none⟩) c1 c2 (pairv N x y) (by rw [pairv_len]; omega) w h1 h2)
  simp only [pairv_len] at SM
  have RP := hidT (right_pair N n1 a)
  have AW := hidT awake19
  have lt0 : ¬ (k : Int) < 0 := by omega
  have lt7 : ¬ (7 : Int) < (k : Int) := by omega
  clear hof hN
  obtain ⟨W1, hW1⟩ : ∃ x, x = W.alloc (Obj.cells #[.int .u64 (a.1 : Int), .int .u64 (a.2 : Int)] 24) := ⟨_, rfl⟩
  have D0 := hidT (show Below W.heap.size W W1 from hW1 ▸ (Below.refl _ _).alloc (Nat.le_refl _) _)
  have A0 : El W1 W.heap.size a.1 a.2 := hW1 ▸ El.newP W a _
  have CA := hidT (fun w (hb : Below W1.heap.size W1 w) => show w.cell? ⟨W.heap.size, 0, none⟩ = some (.int .u64 (a.1 : Int)) ∧ w.cell? ⟨W.heap.size, 1, none⟩ = some (.int .u64 (a.2 : Int)) from ⟨(A0.below hb).hi, (A0.below hb).lo⟩)
  clear A0
  go_enter Try.func3, Try.ntmps3
  go_upto_region 1 with fail
  rw [← hW1]
  clear hW1
  refine wp_region_noPanic ?_
  refine wp_region_held_drew (S := fun w => w.cell? ⟨W.heap.size, 0, none⟩ = some (.int .u64 (a.1 : Int)) ∧ w.cell? ⟨W.heap.size, 1, none⟩ = some (.int .u64 (a.2 : Int))) (by kernel_rfl) (CA.out _ (Below.refl _ _).drew) (fun hHeld => ?_)
  refine wpAnyH_take (i := 0) (oi := _) (v := ?_) rfl (by kernel_rfl) (by kernel_rfl) (by kernel_rfl) (fun _ _ _ h => h) (Or.inl ⟨by rfl, ?_⟩) (by assumption) ?_
  rotate_left
  · ((intro w hSw; (try dsimp only at hSw); go_simp) <;> (try with_reducible rfl))
  show wpAnyH _ _ _ _ _ _ _ (Act.put _ (some 9) _) _
  simp only [Act.put, List.setIfInBounds_toArray, List.set_cons_succ, List.set_cons_zero]
  refine wpAnyH_take (i := 1) (oi := _) (v := ?_) rfl (by kernel_rfl) (by kernel_rfl) (by kernel_rfl) (fun _ _ _ h => h) (Or.inl ⟨by rfl, ?_⟩) (by assumption) ?_
  rotate_left
  · ((intro w hSw; (try dsimp only at hSw); go_simp) <;> (try with_reducible rfl))
  show wpAnyH _ _ _ _ _ _ _ (Act.put _ (some 10) _) _
  simp only [Act.put, List.setIfInBounds_toArray, List.set_cons_succ, List.set_cons_zero]
  refine wpAnyH_take (i := 3) (oi := _) (v := ?_) rfl (by kernel_rfl) (by kernel_rfl) (by kernel_rfl) (fun _ _ _ h => h) (Or.inl ⟨by rfl, ?_⟩) (by assumption) ?_
  rotate_left
  · ((intro w hSw; (try dsimp only at hSw); go_simp) <;> (try with_reducible rfl))
  show wpAnyH _ _ _ _ _ _ _ (Act.put _ (some 12) _) _
  simp only [Act.put, List.setIfInBounds_toArray, List.set_cons_succ, List.set_cons_zero]
  refine wpAnyH_take (i := 4) (oi := _) (v := ?_) rfl (by kernel_rfl) (by kernel_rfl) (by kernel_rfl) (fun _ _ _ h => h) (Or.inl ⟨by rfl, ?_⟩) (by assumption) ?_
  rotate_left
  · ((intro w hSw; (try dsimp only at hSw); go_simp) <;> (try with_reducible rfl))
  show wpAnyH _ _ _ _ _ _ _ (Act.put _ (some 13) _) _
  simp only [Act.put, List.setIfInBounds_toArray, List.set_cons_succ, List.set_cons_zero]
  refine wpAnyH_ready (rs := [2]) (by kernel_rfl) (by simp) ?_
  refine AllReadyH.cons (o := _) rfl (fun KK hKK => ?_) AllReadyH.nil
  go_simp
  (go_at_call 8; refine (HL.out _).mono ?_; rintro e w9 ⟨pl, rfl, ⟨hrl, _⟩, _, hb⟩)
  have K1 := hidT (show Below W1.heap.size W1 w9 from (Below.refl _ _).drew.trans hb)
  have RL := hidT hrl
  clear hb hrl
  refine hKK.out _ _ ?_ (fun hHeld => ?_)
  · exact CA.out _ K1.out
  clear hKK KK
  try simp only [Act.put]
  refine wpAnyH_ready (rs := [5]) (by kernel_rfl) (by simp) ?_
  refine AllReadyH.cons (o := _) rfl (fun KK hKK => ?_) AllReadyH.nil
  go_simp
  (go_at_call 9; refine (HR.out _).mono ?_; rintro e w8 ⟨pr, rfl, hrr, _, hb⟩)
  have K2 := hidT (show Below W1.heap.size W1 w8 ∧ ERow w8 (some ⟨pl, 0, none⟩) (pairv N a (0, 1)) ∧ ERow w8 (some ⟨pr, 0, none⟩) (rightv N a) from ⟨K1.out.trans (hb.mono K1.out.size), RL.out.below hb, hrr⟩)
  clear hb K1 RL hrr
  refine hKK.out _ _ ?_ (fun hHeld => ?_)
  · exact CA.out _ K2.out.1
  clear hKK KK
  try simp only [Act.put]
  refine wpAnyH_take (i := 6) (oi := _) (v := ?_) rfl (by kernel_rfl) (by kernel_rfl) (by kernel_rfl) (fun _ _ _ h => h) (Or.inl ⟨by rfl, ?_⟩) (by assumption) ?_
  rotate_left
  · ((intro w hSw; (try dsimp only at hSw); go_simp) <;> (try with_reducible rfl))
  show wpAnyH _ _ _ _ _ _ _ (Act.put _ (some 5) _) _
  simp only [Act.put, List.setIfInBounds_toArray, List.set_cons_succ, List.set_cons_zero]
  refine wpAnyH_take (i := 7) (oi := _) (v := ?_) rfl (by kernel_rfl) (by kernel_rfl) (by kernel_rfl) (fun _ _ _ h => h) (Or.inl ⟨by rfl, ?_⟩) (by assumption) ?_
  rotate_left
  · ((intro w hSw; (try dsimp only at hSw); go_simp) <;> (try with_reducible rfl))
  show wpAnyH _ _ _ _ _ _ _ (Act.put _ (some 6) _) _
  simp only [Act.put, List.setIfInBounds_toArray, List.set_cons_succ, List.set_cons_zero]
  refine wpAnyH_done (by kernel_rfl) ?_ _
  refine NoPanic.normal ?_
  obtain ⟨f1, f0⟩ := CA.out _ K2.out.1
  have hlt8 := hidT (show W.heap.size < w8.heap.size from cell_lt f1)
  obtain ⟨f1', f0'⟩ := CA.out _ (K2.out.1.alloc K2.out.1.size (Obj.cells #[.int .u64 0, .int .u64 1] 28))
  go_upto_region 6 with fail
  obtain ⟨wb, hwb⟩ : ∃ x, x = (w8.alloc (Obj.cells #[.int .u64 0, .int .u64 1] 28)).alloc (Obj.cells #[.int .u64 (a.1 : Int), .int .u64 (a.2 : Int)] 28) := ⟨_, rfl⟩
  have D8 := hidT (show Below w8.heap.size w8 wb from hwb ▸ ((Below.refl _ _).alloc (Nat.le_refl _) _).alloc (by simp) _)
  have B7 : El wb w8.heap.size 0 1 := by
    subst hwb
    exact (El.newP w8 (0, 1) _).below ((Below.refl _ _).alloc (Nat.le_refl _) _)
  have B8 : El wb (w8.heap.size + 1) a.1 a.2 := by
    subst hwb
    have := El.newP (w8.alloc (Obj.cells #[.int .u64 0, .int .u64 1] 28)) a 28
    simpa using this
  rw [← hwb]
  clear hwb f1 f0 f1' f0'
  generalize w8.heap.size = q7 at B7 B8 ⊢
  have EE := hidT (fun w (hb : Below wb.heap.size wb w) => show El w q7 0 1 ∧ El w (q7 + 1) a.1 a.2 ∧ ERow w (some ⟨pl, 0, none⟩) (pairv N a (0, 1)) ∧ ERow w (some ⟨pr, 0, none⟩) (rightv N a) from ⟨B7.below hb, B8.below hb, (K2.out.2.1.below D8.out).below hb, (K2.out.2.2.below D8.out).below hb⟩)
  have K := hidT (Below.refl wb.heap.size wb)
  have DW := hidT (show Below W.heap.size W wb from (D0.out.trans (K2.out.1.mono D0.out.size)).trans (D8.out.mono (Nat.le_of_lt hlt8.out)))
  obtain ⟨⟨g1, g0⟩, ⟨h1, h0⟩, _, _⟩ := EE.out _ K.out
  clear K2 D8 hlt8 B7 B8
  refine wp_region_noPanic ?_
  refine wp_region_held_drew (S := fun w => w.cell? ⟨q7, 0, none⟩ = some (.int .u64 0) ∧ w.cell? ⟨q7, 1, none⟩ = some (.int .u64 1)) (by kernel_rfl) (by first | exact ⟨(EE.out _ K.out).1.hi, (EE.out _ K.out).1.lo⟩ | exact ⟨(EE.out _ K.out.drew).1.hi, (EE.out _ K.out.drew).1.lo⟩) (fun hHeld => ?_)
  refine wpAnyH_take (i := 0) (oi := _) (v := ?_) rfl (by kernel_rfl) (by kernel_rfl) (by kernel_rfl) (fun _ _ _ h => h) (Or.inl ⟨by rfl, ?_⟩) (by assumption) ?_
  rotate_left
  · ((intro w hSw; (try dsimp only at hSw); go_simp) <;> (try with_reducible rfl))
  show wpAnyH _ _ _ _ _ _ _ (Act.put _ (some 36) _) _
  simp only [Act.put, List.setIfInBounds_toArray, List.set_cons_succ, List.set_cons_zero]
  refine wpAnyH_take (i := 2) (oi := _) (v := ?_) rfl (by kernel_rfl) (by kernel_rfl) (by kernel_rfl) (fun _ _ _ h => h) (Or.inl ⟨by rfl, ?_⟩) (by assumption) ?_
  rotate_left
  · ((intro w hSw; (try dsimp only at hSw); go_simp) <;> (try with_reducible rfl))
  show wpAnyH _ _ _ _ _ _ _ (Act.put _ (some 38) _) _
  simp only [Act.put, List.setIfInBounds_toArray, List.set_cons_succ, List.set_cons_zero]
  refine wpAnyH_take (i := 3) (oi := _) (v := ?_) rfl (by kernel_rfl) (by kernel_rfl) (by kernel_rfl) (fun _ _ _ h => h) (Or.inl ⟨by rfl, ?_⟩) (by assumption) ?_
  rotate_left
  · ((intro w hSw; (try dsimp only at hSw); go_simp) <;> (try with_reducible rfl))
  show wpAnyH _ _ _ _ _ _ _ (Act.put _ (some 39) _) _
  simp only [Act.put, List.setIfInBounds_toArray, List.set_cons_succ, List.set_cons_zero]
  refine wpAnyH_take (i := 4) (oi := _) (v := ?_) rfl (by kernel_rfl) (by kernel_rfl) (by kernel_rfl) (fun _ _ _ h => h) (Or.inl ⟨by rfl, ?_⟩) (by assumption) ?_
  rotate_left
  · ((intro w hSw; (try dsimp only at hSw); go_simp) <;> (try with_reducible rfl))
  show wpAnyH _ _ _ _ _ _ _ (Act.put _ (some 40) _) _
  simp only [Act.put, List.setIfInBounds_toArray, List.set_cons_succ, List.set_cons_zero]
  refine wpAnyH_ready (rs := [1]) (by kernel_rfl) (by simp) ?_
  refine AllReadyH.cons (o := _) rfl (fun KK hKK => ?_) AllReadyH.nil
  go_simp
  (go_at_call 11; refine (HO.out _).mono ?_; rintro e w6 ⟨po, rfl, ⟨hro, _⟩, _, hb⟩)
  have RO := hidT hro
  clear hro
  have K'' := hidT (by first | exact K.out.trans (hb.mono K.out.size) | exact K.out.drew.trans (hb.mono K.out.drew.size) : Below wb.heap.size wb w6)
  clear K hb
  have K := K''
  clear K''
  refine hKK.out _ _ ?_ (fun hHeld => ?_)
  · exact by first | exact ⟨(EE.out _ K.out).1.hi, (EE.out _ K.out).1.lo⟩ | exact ⟨(EE.out _ K.out.drew).1.hi, (EE.out _ K.out.drew).1.lo⟩
  clear hKK KK
  try simp only [Act.put]
  refine wpAnyH_ready (rs := [5]) (by kernel_rfl) (by simp) ?_
  refine AllReadyH.cons (o := _) rfl (fun KK hKK => ?_) AllReadyH.nil
  go_simp
  (go_at_call 13; refine (PO.out _).mono ?_; rintro e w7 ⟨pp, cpp, rfl, _, hrp, _, hb⟩)
  have RO' := hidT (And.intro (RO.out.below hb) hrp)
  clear RO hrp
  have RO := RO'
  clear RO'
  have K'' := hidT (by first | exact K.out.trans (hb.mono K.out.size) | exact K.out.drew.trans (hb.mono K.out.drew.size) : Below wb.heap.size wb w7)
  clear K hb
  have K := K''
  clear K''
  refine hKK.out _ _ ?_ (fun hHeld => ?_)
  · exact by first | exact ⟨(EE.out _ K.out).1.hi, (EE.out _ K.out).1.lo⟩ | exact ⟨(EE.out _ K.out.drew).1.hi, (EE.out _ K.out.drew).1.lo⟩
  clear hKK KK
  try simp only [Act.put]
  refine wpAnyH_ready (rs := [6]) (by kernel_rfl) (by simp) ?_
  refine AllReadyH.cons (o := _) rfl (fun KK hKK => ?_) AllReadyH.nil
  go_simp
  (go_at_call 12; refine (SM.out po 0 pp N cpp _ (0, 1) (0, 1) RO.out.1 RO.out.2).mono ?_; rintro e w5 ⟨rfl, hb⟩)
  clear RO
  have K'' := hidT (by first | exact K.out.trans (hb.mono K.out.size) | exact K.out.drew.trans (hb.mono K.out.drew.size) : Below wb.heap.size wb w5)
  clear K hb
  have K := K''
  clear K''
  refine hKK.out _ _ ?_ (fun hHeld => ?_)
  · exact by first | exact ⟨(EE.out _ K.out).1.hi, (EE.out _ K.out).1.lo⟩ | exact ⟨(EE.out _ K.out.drew).1.hi, (EE.out _ K.out.drew).1.lo⟩
  clear hKK KK
  try simp only [Act.put]
  refine wpAnyH_take (i := 7) (oi := _) (v := ?_) rfl (by kernel_rfl) (by kernel_rfl) (by kernel_rfl) (fun _ _ _ h => h) (Or.inl ⟨by rfl, ?_⟩) (by assumption) ?_
  rotate_left
  · ((intro w hSw; (try dsimp only at hSw); go_simp) <;> (try with_reducible rfl))
  show wpAnyH _ _ _ _ _ _ _ (Act.put _ (some 43) _) _
  simp only [Act.put, List.setIfInBounds_toArray, List.set_cons_succ, List.set_cons_zero]
  refine wpAnyH_done (by kernel_rfl) ?_ _
  refine NoPanic.normal ?_
  obtain ⟨_, ⟨h1, h0⟩, _, _⟩ := EE.out _ K.out
  go_wp2_with (first
    | (go_at_call 14; refine (OF.out.go _).mono ?_; rintro e w4 ⟨rfl, hb⟩; have K5 := hidT (K.out.trans (hb.mono K.out.size)); clear hb K)
    | (go_at_call 10; refine (AW.out.go _).mono ?_; rintro e w3 ⟨rfl, hb⟩; have K6 := hidT (K5.out.trans (hb.mono K5.out.size)); clear hb K5 h1 h0 g1 g0; obtain ⟨⟨g1, g0⟩, ⟨h1, h0⟩, _, _⟩ := EE.out _ K6.out)
    | (go_at_call 12; refine (SM.out pr 0 pb N cb _ (0, 1) a RB.out.1 RB.out.2).mono ?_; rintro e v4 ⟨rfl, hb⟩; have K10 := hidT (K9.out.trans (hb.mono K9.out.size)); clear hb)
    | (go_at_call_of 13 (#[.int .i64 (k : Int), .agg #[.int .u64 0, .int .u64 1], .agg #[.int .u64 (a.1 : Int), .int .u64 (a.2 : Int)]] : Array Value); refine (PB.out _).mono ?_; rintro e v3 ⟨pb, cb, rfl, _, hrb, _, hb⟩; have K9 := hidT (K8.out.trans (hb.mono K8.out.size)); have RB := hidT (And.intro (show ERow v3 (some ⟨pr, 0, none⟩) (pairv N (0, 1) a) from RP.out ▸ (EE.out _ K9.out).2.2.2) hrb); clear hb hrb)
    | (go_at_call 12; refine (SM.out pl 0 pa N ca _ a (0, 1) RA.out.1 RA.out.2).mono ?_; rintro e v2 ⟨rfl, hb⟩; have K8 := hidT (K7.out.trans (hb.mono K7.out.size)); clear hb RA h1 h0 g1 g0; obtain ⟨⟨g1, g0⟩, ⟨h1, h0⟩, _, _⟩ := EE.out _ K8.out)
    | (go_at_call 13; refine (PA.out _).mono ?_; rintro e v1 ⟨pa, ca, rfl, _, hra, _, hb⟩; have K7 := hidT (K6.out.trans (hb.mono K6.out.size)); have RA := hidT (And.intro (EE.out _ K7.out).2.2.1 hra); clear hb hra))
  go_ret
  exact ⟨by first | rfl | simp, DW.out.trans (K10.out.mono DW.out.size)⟩
theorem pp_all (l : Int) (a : Nat × Nat) (la : lt2 a) (W : World) :
    Calls Try.prog 3 #[.int .i64 l, .agg #[.int .u64 (a.1 : Int), .int .u64 (a.2 : Int)]] W fun e w' => e = .returned (.bool true) ∧ Below W.heap.size W w' := by
  by_cases hl : 0 ≤ l ∧ l ≤ 7
  · obtain ⟨k, rfl⟩ : ∃ k : Nat, l = (k : Int) := ⟨l.toNat, by omega⟩
    rcases hof : ofB (k : Int) (a.1 : Int) (a.2 : Int) with _ | _
    · exact pp_not k (by omega) a la hof W
    · exact pp_ok k (by omega) a la hof W
  · exact pp_far l hl a la W
end Pv
end Go.Proofs.Ytcejppibcemdeaa
