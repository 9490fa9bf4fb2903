/- ClaimTrue over the seat's translation: where the columns do not fit; all cases. -/
import Derived.Test.YtejoombhcnldmaaCnE
namespace Go.Proofs.Ytejoombhcnldmaa
open Go.RowKit
open Cb
open Tw (pm)

set_option maxHeartbeats 20000000 in
set_option maxRecDepth 100000 in
theorem tr_e2 (l C w : Int) (a z a3 : Option Addr) (cap zcap cap3 L Z N : Nat) (cl : List Stp) (zs cs : List (Nat × Nat)) (b : Nat × Nat) (hL : cl.length = L) (hZ : zs.length = Z) (hN : cs.length = N) (hf : fwB C w L Z) (h40 : N ≤ 40) (lz : ltE zs) (lc : ltE cs) (hE : chE l C w cl zs (0, 0) = 0) (hCF : ¬ (cs.length : Int) = ((2 ^ (w.toNat + C.toNat) : Nat) : Int)) (W : World) (hr : ORow W a cl) (hz : ERow W z zs) (hc : ERow W a3 cs) :
    Calls Try.prog 5 #[.int .i64 l, .agg #[.int .i64 C, .int .i64 w, .slice a L cap, .slice z Z zcap, .int .u64 (b.1 : Int), .int .u64 (b.2 : Int)], .slice a3 N cap3] W fun e w' => e = .returned (.bool true) ∧ Below W.heap.size W w' := by
  have HF := hidC (few22 C w a z L Z cap zcap b)
  rw [decide_eq_true hf] at HF
  have AW := hidC awake22
  have q40 : ¬ (40 : Int) < (N : Int) := by omega
  have h210 : L ≤ 210 ∧ Z ≤ 8 := by unfold fwB at hf; omega
  have HR := hidC (fun (v : World) (hb : Below W.heap.size W v) => rref22 a cap cl (by omega) v (hr.below hb))
  have HZ := hidC (fun (v : World) (hb : Below W.heap.size W v) => ref_row z zcap zs (by omega) v (hz.below hb))
  have HC := hidC (fun (v : World) (hb : Below W.heap.size W v) => ref_row a3 cap3 cs (by omega) v (hc.below hb))
  have HM := hidC (fun (v : World) (la za : Option Addr) (lc1 zc1 : Nat) (hO : ORow v la cl) (hz' : ERow v za zs) => rmay22 l C w la za lc1 zc1 cl zs (by omega) (by omega) lz v hO hz')
  rw [hL] at HR HM
  rw [hZ] at HZ HM
  rw [hN] at HC
  have K0 : Hid (Kd W (W.alloc (Obj.cells #[.int .i64 C, .int .i64 w, .slice a L cap, .slice z Z zcap, .int .u64 (b.1 : Int), .int .u64 (b.2 : Int)] 28)) C w a z L cap Z zcap b) := ⟨by simp [go_sem], by simp [go_sem], by simp [go_sem], by simp [go_sem], by simp [go_sem], by simp [go_sem], (Below.refl W.heap.size W).alloc (Nat.le_refl _) _⟩
  obtain ⟨m, cn, wn, hm, hl, hcn, hC, hwn, hw, h200, hcl, hzl, oz, _⟩ := ch_zero hE
  obtain ⟨n, hn⟩ : ∃ n, n = 2 ^ wn := ⟨_, rfl⟩
  obtain ⟨P, hP⟩ : ∃ P, P = 2 ^ cn := ⟨_, rfl⟩
  obtain ⟨M, hM⟩ : ∃ M, M = 2 ^ (wn + cn) := ⟨_, rfl⟩
  have hM1 : M ≤ 4096 := by rw [hM]; exact Nat.le_trans (Nat.pow_le_pow_right (by decide) (show wn + cn ≤ 12 by omega)) (by decide)
  have hnP : n * P = M := by rw [hn, hP, hM, Nat.pow_add]
  have hMw : 2 ^ (w.toNat + C.toNat) = M := by rw [hw, hC, Int.toNat_natCast, Int.toNat_natCast, hM]
  rw [hMw] at hCF
  have hV : cfE l (M : Int) cs = 6 := by unfold cfE; rw [if_neg hCF]
  have hd0 : ¬ (N : Int) = (M : Int) := by rw [← hN]; exact hCF
  have hd1 : decide ((N : Int) = (M : Int)) = false := decide_eq_false hd0
  have hd2 : ((N : Int) == (M : Int)) = false := by rw [beq_eq_false_iff_ne]; exact hd0
  have HT := hidC (fun (v : World) (hb : Below W.heap.size W v) => cmtrue_err l C w a z a3 cap zcap cap3 cl zs cs (by omega) (by omega) (by omega) lz lc (by unfold tuE; rw [if_pos hE, hMw, hV]; decide) v (hr.below hb) (hz.below hb) (hc.below hb))
  rw [show tuE l C w cl zs cs = cfE l (M : Int) cs by unfold tuE; rw [if_pos hE, hMw], hV, hL, hZ, hN] at HT
  have HT1 := hidC (rtwoS wn (by omega))
  rw [← hn, ← hw] at HT1
  have HT2 := hidC (rtwoS cn (by omega))
  rw [← hP, ← hC] at HT2
  have e6 : IntKind.i64.wrap ((n : Int) * (P : Int)) = (M : Int) := by rw [IntKind.wrap_i64, ← Int.natCast_mul, hnP]; omega
  rw [hE] at HM
  clear hf h40 h210 lz lc hr hz hc hL hZ hN hl hC hw h200 hcl hzl oz hn hP hnP hm hcn hwn hE hM hM1 hMw hCF hV
  go_enter Try.func5, Try.ntmps5
  go_upto_region 3 with (go_at_call 9; refine (HF.out.go _).mono ?_; rintro e w1 ⟨rfl, hb1⟩; have K1 : Hid (Kd W w1 C w a z L cap Z zcap b) := K0.out.below hb1; clear hb1 K0)
  go_cut [7, 8, 9] (fun s7 s8 s9 wx => ∃ (la za ta : Option Addr) (lc zc tc : Nat), s7 = .slice la L lc ∧ s8 = .slice za Z zc ∧ s9 = .slice ta N tc ∧ Hid (Ke W wx C w a z L cap Z zcap b la za ta cl zs cs))
  case first =>
    have K := K1.out
    clear K1
    refine wp_region_noPanic ?_
    refine wp_region_peel (S := fun v => v.cell? ⟨W.heap.size, 2, none⟩ = some (.slice a L cap) ∧ v.cell? ⟨W.heap.size, 3, none⟩ = some (.slice z Z zcap)) 10 (by kernel_rfl) rfl (by kernel_rfl) ?_ (fun hHeld => ?_)
    · exact ⟨K.c2, K.c3⟩
    refine wpAnyH_take (i := 0) (oi := _) (v := ?_) rfl (by kernel_rfl) (by kernel_rfl) (by kernel_rfl) (fun _ _ _ h => h) (Or.inl ⟨by rfl, ?_⟩) (by assumption) ?_
    rotate_left
    · ((intro w hSw; (try dsimp only at hSw); go_simp) <;> (try with_reducible rfl))
    show wpAnyH _ _ _ _ _ _ _ (Act.put _ (some 29) _) _
    simp only [Act.put, List.setIfInBounds_toArray, List.set_cons_succ, List.set_cons_zero]
    refine wpAnyH_take (i := 1) (oi := _) (v := ?_) rfl (by kernel_rfl) (by kernel_rfl) (by kernel_rfl) (fun _ _ _ h => h) (Or.inl ⟨by rfl, ?_⟩) (by assumption) ?_
    rotate_left
    · ((intro w hSw; (try dsimp only at hSw); go_simp) <;> (try with_reducible rfl))
    show wpAnyH _ _ _ _ _ _ _ (Act.put _ (some 30) _) _
    simp only [Act.put, List.setIfInBounds_toArray, List.set_cons_succ, List.set_cons_zero]
    refine wpAnyH_take (i := 3) (oi := _) (v := ?_) rfl (by kernel_rfl) (by kernel_rfl) (by kernel_rfl) (fun _ _ _ h => h) (Or.inl ⟨by rfl, ?_⟩) (by assumption) ?_
    rotate_left
    · ((intro w hSw; (try dsimp only at hSw); go_simp) <;> (try with_reducible rfl))
    show wpAnyH _ _ _ _ _ _ _ (Act.put _ (some 32) _) _
    simp only [Act.put, List.setIfInBounds_toArray, List.set_cons_succ, List.set_cons_zero]
    refine wpAnyH_take (i := 4) (oi := _) (v := ?_) rfl (by kernel_rfl) (by kernel_rfl) (by kernel_rfl) (fun _ _ _ h => h) (Or.inl ⟨by rfl, ?_⟩) (by assumption) ?_
    rotate_left
    · ((intro w hSw; (try dsimp only at hSw); go_simp) <;> (try with_reducible rfl))
    show wpAnyH _ _ _ _ _ _ _ (Act.put _ (some 33) _) _
    simp only [Act.put, List.setIfInBounds_toArray, List.set_cons_succ, List.set_cons_zero]
    refine wpAnyH_take (i := 6) (oi := _) (v := ?_) rfl (by kernel_rfl) (by kernel_rfl) (by kernel_rfl) (fun _ _ _ h => h) (Or.inl ⟨by rfl, ?_⟩) (by assumption) ?_
    rotate_left
    · ((intro w hSw; (try dsimp only at hSw); go_simp) <;> (try with_reducible rfl))
    show wpAnyH _ _ _ _ _ _ _ (Act.put _ (some 35) _) _
    simp only [Act.put, List.setIfInBounds_toArray, List.set_cons_succ, List.set_cons_zero]
    have K' := K.drew
    clear K
    have K := K'
    clear K'
    generalize w1.drew = wb at *
    refine wpAnyH_ready (rs := [2]) (by kernel_rfl) (by simp) ?_
    refine (AllReadyH.cons (o := _) rfl (fun KK hKK => ?_) AllReadyH.nil)
    · skip
      go_simp
      (go_at_call 13; refine (HR.out _ (by first | exact K.d | exact K.drew.d)).mono ?_; rintro e w' ⟨la, lc, rfl, L7, hb'⟩)
      have K' := Kd.below (w' := w') (by first | exact K | exact K.drew) hb'
      clear hb' K 
      have K := K'
      clear K' 
      refine hKK.out _ _ ?_ (fun hHeld => ?_)
      · exact ⟨K.c2, K.c3⟩
      clear hKK KK
      try simp only [Act.put]
      refine wpAnyH_ready (rs := [5]) (by kernel_rfl) (by simp) ?_
      refine (AllReadyH.cons (o := _) rfl (fun KK hKK => ?_) AllReadyH.nil)
      · skip
        go_simp
        (go_at_call 16; refine (HZ.out _ (by first | exact K.d | exact K.drew.d)).mono ?_; rintro e w' ⟨za, zc, rfl, Z8, hb'⟩)
        have K' := Kd.below (w' := w') (by first | exact K | exact K.drew) hb'
        have L7' := ORow.below (w' := w') (by first | exact L7 | exact L7.below (Below.refl _ _).drew) hb'
        clear hb' K L7
        have K := K'
        have L7 := L7'
        clear K' L7'
        refine hKK.out _ _ ?_ (fun hHeld => ?_)
        · exact ⟨K.c2, K.c3⟩
        clear hKK KK
        try simp only [Act.put]
        refine wpAnyH_ready (rs := [7]) (by kernel_rfl) (by simp) ?_
        refine (AllReadyH.cons (o := _) rfl (fun KK hKK => ?_) AllReadyH.nil)
        · skip
          go_simp
          (go_at_call 16; refine (HC.out _ (by first | exact K.d | exact K.drew.d)).mono ?_; rintro e w' ⟨ta, tc, rfl, T9, hb'⟩)
          have K' := Kd.below (w' := w') (by first | exact K | exact K.drew) hb'
          have L7' := ORow.below (w' := w') (by first | exact L7 | exact L7.below (Below.refl _ _).drew) hb'
          have Z8' := ERow.below (w' := w') (by first | exact Z8 | exact Z8.below (Below.refl _ _).drew) hb'
          clear hb' K L7 Z8
          have K := K'
          have L7 := L7'
          have Z8 := Z8'
          clear K' L7' Z8'
          refine hKK.out _ _ ?_ (fun hHeld => ?_)
          · exact ⟨K.c2, K.c3⟩
          clear hKK KK
          try simp only [Act.put]
          refine wpAnyH_take (i := 8) (oi := _) (v := ?_) rfl (by kernel_rfl) (by kernel_rfl) (by kernel_rfl) (fun _ _ _ h => h) (Or.inl ⟨by rfl, ?_⟩) (by assumption) ?_
          rotate_left
          · ((intro w hSw; (try dsimp only at hSw); go_simp) <;> (try with_reducible rfl))
          show wpAnyH _ _ _ _ _ _ _ (Act.put _ (some 7) _) _
          simp only [Act.put, List.setIfInBounds_toArray, List.set_cons_succ, List.set_cons_zero]
          refine wpAnyH_take (i := 9) (oi := _) (v := ?_) rfl (by kernel_rfl) (by kernel_rfl) (by kernel_rfl) (fun _ _ _ h => h) (Or.inl ⟨by rfl, ?_⟩) (by assumption) ?_
          rotate_left
          · ((intro w hSw; (try dsimp only at hSw); go_simp) <;> (try with_reducible rfl))
          show wpAnyH _ _ _ _ _ _ _ (Act.put _ (some 8) _) _
          simp only [Act.put, List.setIfInBounds_toArray, List.set_cons_succ, List.set_cons_zero]
          refine wpAnyH_done (by kernel_rfl) ?_ _
          refine peel_last rfl (fun KK hKK => ?_)
          clear hHeld
          go_simp
          refine hKK _ _ ?_
          refine NoPanic.normal ?_
          go_wp2_with fail
          go_meet
          exact ⟨la, za, ta, lc, zc, tc, rfl, rfl, rfl, ⟨K, L7, Z8, T9⟩⟩
  case rest =>
    obtain ⟨la, za, ta, lc, zc, tc, rfl, rfl, rfl, K⟩ := hcut
    clear K1 HF HR HZ HC
    obtain ⟨c0, c1, c2, c3, _, _, _⟩ := K.out.k
    go_upto_region 6 with (first
      | (go_at_call 25; refine (HT.out _ K.out.k.d).mono ?_; rintro e w2 ⟨rfl, hb2⟩; have K2 : Hid (Ke W w2 C w a z L cap Z zcap b la za ta cl zs cs) := K.out.below hb2; clear hb2 K c0 c1 c2 c3 HT; obtain ⟨c0, c1, c2, c3, _, _, _⟩ := K2.out.k)
      | (go_at_call 19; refine (HM.out _ _ _ _ _ K2.out.l K2.out.z).mono ?_; rintro e w3 ⟨rfl, hb3⟩; have K3 : Hid (Ke W w3 C w a z L cap Z zcap b la za ta cl zs cs) := K2.out.below hb3; clear hb3 K2 c0 c1 c2 c3 HM))
    obtain ⟨c0, c1, _, _, _, _, _⟩ := K3.out.k
    go_quiet ((first | (go_at_call_of 26 (#[.int .i64 w] : Array Value); exact Calls.quiet_of_same (HT1.out _)) | (go_at_call_of 26 (#[.int .i64 C] : Array Value); exact Calls.quiet_of_same (HT2.out _))))
    clear c0 c1
    have K4 : Hid (Ke W (w3.drewN nq) C w a z L cap Z zcap b la za ta cl zs cs) := K3.out.below (below_drewC (Below.refl _ _) _)
    generalize w3.drewN nq = wq at *
    clear K3 HT1 HT2
    have D4 : Hid (Below W.heap.size W wq) := K4.out.k.d
    go_wp2_with (go_at_call 10; refine (AW.out.go _).mono ?_; rintro e w4 ⟨rfl, hb4⟩; have D5 : Hid (Below W.heap.size W w4) := D4.out.trans (hb4.mono D4.out.size); clear hb4)
    go_ret
    refine ⟨?_, D5.out⟩
    simp
set_option maxHeartbeats 20000000 in
set_option maxRecDepth 100000 in
theorem tr_e3 (l C w : Int) (a z a3 : Option Addr) (cap zcap cap3 L Z N : Nat) (cl : List Stp) (zs cs : List (Nat × Nat)) (b : Nat × Nat) (hL : cl.length = L) (hZ : zs.length = Z) (hN : cs.length = N) (hf : fwB C w L Z) (h40 : N ≤ 40) (lz : ltE zs) (lc : ltE cs) (hE : chE l C w cl zs (0, 0) = 0) (hCF : (cs.length : Int) = ((2 ^ (w.toNat + C.toNat) : Nat) : Int)) (hA : ¬ (cs.all fun e => ofB l (e.1 : Int) (e.2 : Int)) = true) (W : World) (hr : ORow W a cl) (hz : ERow W z zs) (hc : ERow W a3 cs) :
    Calls Try.prog 5 #[.int .i64 l, .agg #[.int .i64 C, .int .i64 w, .slice a L cap, .slice z Z zcap, .int .u64 (b.1 : Int), .int .u64 (b.2 : Int)], .slice a3 N cap3] W fun e w' => e = .returned (.bool true) ∧ Below W.heap.size W w' := by
  have HF := hidC (few22 C w a z L Z cap zcap b)
  rw [decide_eq_true hf] at HF
  have AW := hidC awake22
  have q40 : ¬ (40 : Int) < (N : Int) := by omega
  have h210 : L ≤ 210 ∧ Z ≤ 8 := by unfold fwB at hf; omega
  have HR := hidC (fun (v : World) (hb : Below W.heap.size W v) => rref22 a cap cl (by omega) v (hr.below hb))
  have HZ := hidC (fun (v : World) (hb : Below W.heap.size W v) => ref_row z zcap zs (by omega) v (hz.below hb))
  have HC := hidC (fun (v : World) (hb : Below W.heap.size W v) => ref_row a3 cap3 cs (by omega) v (hc.below hb))
  have HM := hidC (fun (v : World) (la za : Option Addr) (lc1 zc1 : Nat) (hO : ORow v la cl) (hz' : ERow v za zs) => rmay22 l C w la za lc1 zc1 cl zs (by omega) (by omega) lz v hO hz')
  rw [hL] at HR HM
  rw [hZ] at HZ HM
  rw [hN] at HC
  have K0 : Hid (Kd W (W.alloc (Obj.cells #[.int .i64 C, .int .i64 w, .slice a L cap, .slice z Z zcap, .int .u64 (b.1 : Int), .int .u64 (b.2 : Int)] 28)) C w a z L cap Z zcap b) := ⟨by simp [go_sem], by simp [go_sem], by simp [go_sem], by simp [go_sem], by simp [go_sem], by simp [go_sem], (Below.refl W.heap.size W).alloc (Nat.le_refl _) _⟩
  obtain ⟨m, cn, wn, hm, hl, hcn, hC, hwn, hw, h200, hcl, hzl, oz, _⟩ := ch_zero hE
  obtain ⟨n, hn⟩ : ∃ n, n = 2 ^ wn := ⟨_, rfl⟩
  obtain ⟨P, hP⟩ : ∃ P, P = 2 ^ cn := ⟨_, rfl⟩
  obtain ⟨M, hM⟩ : ∃ M, M = 2 ^ (wn + cn) := ⟨_, rfl⟩
  have hM1 : M ≤ 4096 := by rw [hM]; exact Nat.le_trans (Nat.pow_le_pow_right (by decide) (show wn + cn ≤ 12 by omega)) (by decide)
  have hnP : n * P = M := by rw [hn, hP, hM, Nat.pow_add]
  have hMw : 2 ^ (w.toNat + C.toNat) = M := by rw [hw, hC, Int.toNat_natCast, Int.toNat_natCast, hM]
  rw [hMw] at hCF
  have hV : cfE l (M : Int) cs = 5 := by unfold cfE; rw [if_pos hCF, if_neg hA]
  have hd1 : decide ((N : Int) = (M : Int)) = true := by rw [decide_eq_true_iff, ← hN]; exact hCF
  have hd2 : ((N : Int) == (M : Int)) = true := by rw [beq_iff_eq, ← hN]; exact hCF
  have HAl := hidC (fun (v : World) (ta : Option Addr) (tc : Nat) (hO : ERow v ta cs) => trall l ta tc cs lc v hO (by omega))
  rw [Bool.eq_false_iff.2 hA, hN] at HAl
  clear hA
  have HT := hidC (fun (v : World) (hb : Below W.heap.size W v) => cmtrue_err l C w a z a3 cap zcap cap3 cl zs cs (by omega) (by omega) (by omega) lz lc (by unfold tuE; rw [if_pos hE, hMw, hV]; decide) v (hr.below hb) (hz.below hb) (hc.below hb))
  rw [show tuE l C w cl zs cs = cfE l (M : Int) cs by unfold tuE; rw [if_pos hE, hMw], hV, hL, hZ, hN] at HT
  have HT1 := hidC (rtwoS wn (by omega))
  rw [← hn, ← hw] at HT1
  have HT2 := hidC (rtwoS cn (by omega))
  rw [← hP, ← hC] at HT2
  have e6 : IntKind.i64.wrap ((n : Int) * (P : Int)) = (M : Int) := by rw [IntKind.wrap_i64, ← Int.natCast_mul, hnP]; omega
  rw [hE] at HM
  clear hf h40 h210 lz lc hr hz hc hL hZ hN hl hC hw h200 hcl hzl oz hn hP hnP hm hcn hwn hE hM hM1 hMw hCF hV
  go_enter Try.func5, Try.ntmps5
  go_upto_region 3 with (go_at_call 9; refine (HF.out.go _).mono ?_; rintro e w1 ⟨rfl, hb1⟩; have K1 : Hid (Kd W w1 C w a z L cap Z zcap b) := K0.out.below hb1; clear hb1 K0)
  go_cut [7, 8, 9] (fun s7 s8 s9 wx => ∃ (la za ta : Option Addr) (lc zc tc : Nat), s7 = .slice la L lc ∧ s8 = .slice za Z zc ∧ s9 = .slice ta N tc ∧ Hid (Ke W wx C w a z L cap Z zcap b la za ta cl zs cs))
  case first =>
    have K := K1.out
    clear K1
    refine wp_region_noPanic ?_
    refine wp_region_peel (S := fun v => v.cell? ⟨W.heap.size, 2, none⟩ = some (.slice a L cap) ∧ v.cell? ⟨W.heap.size, 3, none⟩ = some (.slice z Z zcap)) 10 (by kernel_rfl) rfl (by kernel_rfl) ?_ (fun hHeld => ?_)
    · exact ⟨K.c2, K.c3⟩
    refine wpAnyH_take (i := 0) (oi := _) (v := ?_) rfl (by kernel_rfl) (by kernel_rfl) (by kernel_rfl) (fun _ _ _ h => h) (Or.inl ⟨by rfl, ?_⟩) (by assumption) ?_
    rotate_left
    · ((intro w hSw; (try dsimp only at hSw); go_simp) <;> (try with_reducible rfl))
    show wpAnyH _ _ _ _ _ _ _ (Act.put _ (some 29) _) _
    simp only [Act.put, List.setIfInBounds_toArray, List.set_cons_succ, List.set_cons_zero]
    refine wpAnyH_take (i := 1) (oi := _) (v := ?_) rfl (by kernel_rfl) (by kernel_rfl) (by kernel_rfl) (fun _ _ _ h => h) (Or.inl ⟨by rfl, ?_⟩) (by assumption) ?_
    rotate_left
    · ((intro w hSw; (try dsimp only at hSw); go_simp) <;> (try with_reducible rfl))
    show wpAnyH _ _ _ _ _ _ _ (Act.put _ (some 30) _) _
    simp only [Act.put, List.setIfInBounds_toArray, List.set_cons_succ, List.set_cons_zero]
    refine wpAnyH_take (i := 3) (oi := _) (v := ?_) rfl (by kernel_rfl) (by kernel_rfl) (by kernel_rfl) (fun _ _ _ h => h) (Or.inl ⟨by rfl, ?_⟩) (by assumption) ?_
    rotate_left
    · ((intro w hSw; (try dsimp only at hSw); go_simp) <;> (try with_reducible rfl))
    show wpAnyH _ _ _ _ _ _ _ (Act.put _ (some 32) _) _
    simp only [Act.put, List.setIfInBounds_toArray, List.set_cons_succ, List.set_cons_zero]
    refine wpAnyH_take (i := 4) (oi := _) (v := ?_) rfl (by kernel_rfl) (by kernel_rfl) (by kernel_rfl) (fun _ _ _ h => h) (Or.inl ⟨by rfl, ?_⟩) (by assumption) ?_
    rotate_left
    · ((intro w hSw; (try dsimp only at hSw); go_simp) <;> (try with_reducible rfl))
    show wpAnyH _ _ _ _ _ _ _ (Act.put _ (some 33) _) _
    simp only [Act.put, List.setIfInBounds_toArray, List.set_cons_succ, List.set_cons_zero]
    refine wpAnyH_take (i := 6) (oi := _) (v := ?_) rfl (by kernel_rfl) (by kernel_rfl) (by kernel_rfl) (fun _ _ _ h => h) (Or.inl ⟨by rfl, ?_⟩) (by assumption) ?_
    rotate_left
    · ((intro w hSw; (try dsimp only at hSw); go_simp) <;> (try with_reducible rfl))
    show wpAnyH _ _ _ _ _ _ _ (Act.put _ (some 35) _) _
    simp only [Act.put, List.setIfInBounds_toArray, List.set_cons_succ, List.set_cons_zero]
    have K' := K.drew
    clear K
    have K := K'
    clear K'
    generalize w1.drew = wb at *
    refine wpAnyH_ready (rs := [2]) (by kernel_rfl) (by simp) ?_
    refine (AllReadyH.cons (o := _) rfl (fun KK hKK => ?_) AllReadyH.nil)
    · skip
      go_simp
      (go_at_call 13; refine (HR.out _ (by first | exact K.d | exact K.drew.d)).mono ?_; rintro e w' ⟨la, lc, rfl, L7, hb'⟩)
      have K' := Kd.below (w' := w') (by first | exact K | exact K.drew) hb'
      clear hb' K 
      have K := K'
      clear K' 
      refine hKK.out _ _ ?_ (fun hHeld => ?_)
      · exact ⟨K.c2, K.c3⟩
      clear hKK KK
      try simp only [Act.put]
      refine wpAnyH_ready (rs := [5]) (by kernel_rfl) (by simp) ?_
      refine (AllReadyH.cons (o := _) rfl (fun KK hKK => ?_) AllReadyH.nil)
      · skip
        go_simp
        (go_at_call 16; refine (HZ.out _ (by first | exact K.d | exact K.drew.d)).mono ?_; rintro e w' ⟨za, zc, rfl, Z8, hb'⟩)
        have K' := Kd.below (w' := w') (by first | exact K | exact K.drew) hb'
        have L7' := ORow.below (w' := w') (by first | exact L7 | exact L7.below (Below.refl _ _).drew) hb'
        clear hb' K L7
        have K := K'
        have L7 := L7'
        clear K' L7'
        refine hKK.out _ _ ?_ (fun hHeld => ?_)
        · exact ⟨K.c2, K.c3⟩
        clear hKK KK
        try simp only [Act.put]
        refine wpAnyH_ready (rs := [7]) (by kernel_rfl) (by simp) ?_
        refine (AllReadyH.cons (o := _) rfl (fun KK hKK => ?_) AllReadyH.nil)
        · skip
          go_simp
          (go_at_call 16; refine (HC.out _ (by first | exact K.d | exact K.drew.d)).mono ?_; rintro e w' ⟨ta, tc, rfl, T9, hb'⟩)
          have K' := Kd.below (w' := w') (by first | exact K | exact K.drew) hb'
          have L7' := ORow.below (w' := w') (by first | exact L7 | exact L7.below (Below.refl _ _).drew) hb'
          have Z8' := ERow.below (w' := w') (by first | exact Z8 | exact Z8.below (Below.refl _ _).drew) hb'
          clear hb' K L7 Z8
          have K := K'
          have L7 := L7'
          have Z8 := Z8'
          clear K' L7' Z8'
          refine hKK.out _ _ ?_ (fun hHeld => ?_)
          · exact ⟨K.c2, K.c3⟩
          clear hKK KK
          try simp only [Act.put]
          refine wpAnyH_take (i := 8) (oi := _) (v := ?_) rfl (by kernel_rfl) (by kernel_rfl) (by kernel_rfl) (fun _ _ _ h => h) (Or.inl ⟨by rfl, ?_⟩) (by assumption) ?_
          rotate_left
          · ((intro w hSw; (try dsimp only at hSw); go_simp) <;> (try with_reducible rfl))
          show wpAnyH _ _ _ _ _ _ _ (Act.put _ (some 7) _) _
          simp only [Act.put, List.setIfInBounds_toArray, List.set_cons_succ, List.set_cons_zero]
          refine wpAnyH_take (i := 9) (oi := _) (v := ?_) rfl (by kernel_rfl) (by kernel_rfl) (by kernel_rfl) (fun _ _ _ h => h) (Or.inl ⟨by rfl, ?_⟩) (by assumption) ?_
          rotate_left
          · ((intro w hSw; (try dsimp only at hSw); go_simp) <;> (try with_reducible rfl))
          show wpAnyH _ _ _ _ _ _ _ (Act.put _ (some 8) _) _
          simp only [Act.put, List.setIfInBounds_toArray, List.set_cons_succ, List.set_cons_zero]
          refine wpAnyH_done (by kernel_rfl) ?_ _
          refine peel_last rfl (fun KK hKK => ?_)
          clear hHeld
          go_simp
          refine hKK _ _ ?_
          refine NoPanic.normal ?_
          go_wp2_with fail
          go_meet
          exact ⟨la, za, ta, lc, zc, tc, rfl, rfl, rfl, ⟨K, L7, Z8, T9⟩⟩
  case rest =>
    obtain ⟨la, za, ta, lc, zc, tc, rfl, rfl, rfl, K⟩ := hcut
    clear K1 HF HR HZ HC
    obtain ⟨c0, c1, c2, c3, _, _, _⟩ := K.out.k
    go_upto_region 6 with (first
      | (go_at_call 25; refine (HT.out _ K.out.k.d).mono ?_; rintro e w2 ⟨rfl, hb2⟩; have K2 : Hid (Ke W w2 C w a z L cap Z zcap b la za ta cl zs cs) := K.out.below hb2; clear hb2 K c0 c1 c2 c3 HT; obtain ⟨c0, c1, c2, c3, _, _, _⟩ := K2.out.k)
      | (go_at_call 19; refine (HM.out _ _ _ _ _ K2.out.l K2.out.z).mono ?_; rintro e w3 ⟨rfl, hb3⟩; have K3 : Hid (Ke W w3 C w a z L cap Z zcap b la za ta cl zs cs) := K2.out.below hb3; clear hb3 K2 c0 c1 c2 c3 HM))
    obtain ⟨c0, c1, _, _, _, _, _⟩ := K3.out.k
    go_quiet ((first | (go_at_call_of 26 (#[.int .i64 w] : Array Value); exact Calls.quiet_of_same (HT1.out _)) | (go_at_call_of 26 (#[.int .i64 C] : Array Value); exact Calls.quiet_of_same (HT2.out _))))
    clear c0 c1
    have K4 : Hid (Ke W (w3.drewN nq) C w a z L cap Z zcap b la za ta cl zs cs) := K3.out.below (below_drewC (Below.refl _ _) _)
    generalize w3.drewN nq = wq at *
    clear K3 HT1 HT2
    have D4 : Hid (Below W.heap.size W wq) := K4.out.k.d
    go_wp2_with (first
      | (go_at_call 23; refine (HAl.out _ _ _ K4.out.t).mono ?_; rintro e w5 ⟨rfl, hb5⟩; have K5 : Hid (Below W.heap.size W w5) := (K4.out.below hb5).k.d; clear hb5 K4 HAl)
      | (go_at_call 10; refine (AW.out.go _).mono ?_; rintro e w6 ⟨rfl, hb6⟩; have D6 : Hid (Below W.heap.size W w6) := K5.out.trans (hb6.mono K5.out.size); clear hb6))
    go_ret
    refine ⟨?_, D6.out⟩
    simp
theorem tr_any (l C w : Int) (a z a3 : Option Addr) (cap zcap cap3 : Nat) (cl : List Stp) (zs cs : List (Nat × Nat)) (b : Nat × Nat) (lz : ltE zs) (lc : ltE cs) (lb : lt2 b) (hcap : cs.length ≤ cap3) (W : World) (hr : ORow W a cl) (hz : ERow W z zs) (hc : ERow W a3 cs) :
    Calls Try.prog 5 #[.int .i64 l, .agg #[.int .i64 C, .int .i64 w, .slice a cl.length cap, .slice z zs.length zcap, .int .u64 (b.1 : Int), .int .u64 (b.2 : Int)], .slice a3 cs.length cap3] W fun e w' => e = .returned (.bool true) ∧ Below W.heap.size W w' := by
  by_cases h : fwB C w cl.length zs.length ∧ cs.length ≤ 40
  · obtain ⟨hf, h40⟩ := h
    by_cases hE : chE l C w cl zs (0, 0) = 0
    · by_cases h1 : (cs.length : Int) = ((2 ^ (w.toNat + C.toNat) : Nat) : Int)
      · by_cases h2 : (cs.all fun e => ofB l (e.1 : Int) (e.2 : Int)) = true
        · exact tr_main l C w a z a3 cap zcap cap3 _ _ _ cl zs cs b rfl rfl rfl hf h40 lz lc hcap lb hE (by unfold cfE; rw [if_pos h1, if_pos h2]) W hr hz hc
        · exact tr_e3 l C w a z a3 cap zcap cap3 _ _ _ cl zs cs b rfl rfl rfl hf h40 lz lc hE h1 h2 W hr hz hc
      · exact tr_e2 l C w a z a3 cap zcap cap3 _ _ _ cl zs cs b rfl rfl rfl hf h40 lz lc hE h1 W hr hz hc
    · exact tr_e1 l C w a z a3 cap zcap cap3 _ _ _ cl zs cs b rfl rfl rfl hf h40 lz lc hE W hr hz hc
  · exact tr_far l C w a z a3 cap zcap cap3 cl zs cs b h W
end Go.Proofs.Ytejoombhcnldmaa
