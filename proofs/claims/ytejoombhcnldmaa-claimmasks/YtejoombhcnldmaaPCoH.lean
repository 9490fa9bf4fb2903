/- ClaimMasks over the seat's translation: where the point does not fit. -/
import Derived.Test.YtejoombhcnldmaaPCoF
namespace Go.Proofs.Ytejoombhcnldmaa
open Go.RowKit
open Cb
open Tw (pm)

set_option maxHeartbeats 40000000 in
set_option maxRecDepth 100000 in
theorem ms_a (l C w : Int) (a z a3 : Option Addr) (cap zcap cap3 L Z Q : Nat) (cl : List Stp) (zs qs : List (Nat × Nat)) (b : Nat × Nat) (hL : cl.length = L) (hZ : zs.length = Z) (hQ : qs.length = Q) (hf : fwB C w L Z) (h8 : Q ≤ 8) (lz : ltE zs) (lq : ltE qs) (lb : lt2 b) (hE : chE l C w cl zs b = 0) (hS : ¬ (Q : Int) = w + C) (W : World) (hr : ORow W a cl) (hz : ERow W z zs) (hq : ERow W a3 qs) :
    Calls Try.prog 4 #[.int .i64 l, .agg #[.int .i64 C, .int .i64 w, .slice a L cap, .slice z Z zcap, .int .u64 (b.1 : Int), .int .u64 (b.2 : Int)], .slice a3 Q cap3] W fun e w' => e = .returned (.bool true) ∧ Below W.heap.size W w' := by
  have HF := hidC (few22 C w a z L Z cap zcap b)
  rw [decide_eq_true hf] at HF
  have AW := hidC awake22
  have q8 : ¬ (8 : Int) < (Q : Int) := by omega
  have h210 : L ≤ 210 ∧ Z ≤ 8 := by unfold fwB at hf; omega
  have HR := hidC (fun (v : World) (hb : Below W.heap.size W v) => rref22 a cap cl (by omega) v (hr.below hb))
  have HZ := hidC (fun (v : World) (hb : Below W.heap.size W v) => ref_row z zcap zs (by omega) v (hz.below hb))
  have HM := hidC (fun (v : World) (la za : Option Addr) (lc1 zc1 : Nat) (hO : ORow v la cl) (hz' : ERow v za zs) => rmay22 l C w la za lc1 zc1 cl zs (by omega) (by omega) lz v hO hz')
  rw [hL] at HR HM
  rw [hZ] at HZ HM
  have HOf := hidC (rof_any l b.1 b.2 lb.1 lb.2)
  have K0 : Hid (Kd W (W.alloc (Obj.cells #[.int .i64 C, .int .i64 w, .slice a L cap, .slice z Z zcap, .int .u64 (b.1 : Int), .int .u64 (b.2 : Int)] 28)) C w a z L cap Z zcap b) := ⟨by simp [go_sem], by simp [go_sem], by simp [go_sem], by simp [go_sem], by simp [go_sem], by simp [go_sem], (Below.refl W.heap.size W).alloc (Nat.le_refl _) _⟩
  obtain ⟨m, cn, wn, hm, hl, hcn, hC, hwn, hw, h200, hcl, hzl, oz, ob⟩ := ch_zero hE
  obtain ⟨n, hn⟩ : ∃ n, n = 2 ^ wn := ⟨_, rfl⟩
  obtain ⟨P, hP⟩ : ∃ P, P = 2 ^ cn := ⟨_, rfl⟩
  obtain ⟨N, hN⟩ : ∃ N, N = 2 ^ (wn + cn) := ⟨_, rfl⟩
  have hN1 : N ≤ 4096 := by rw [hN]; exact Nat.le_trans (Nat.pow_le_pow_right (by decide) (show wn + cn ≤ 12 by omega)) (by decide)
  have hpw : pw (wn : Int) = (n : Int) := by rw [hn]; rfl
  have hE00 : chE l C w cl zs (0, 0) = 0 := by
    by_cases h : chE l C w cl zs (0, 0) = 0
    · exact h
    · rw [chE_no b h] at hE; exact hE
  obtain ⟨M, hM⟩ : ∃ M, M = (List.range N).map (mkI n zs b cl L) := ⟨_, rfl⟩
  have hMl : M.length = N := by rw [hM]; simp
  have hMlt : ltE M := by
    rw [hM]
    intro e he
    obtain ⟨c, _, rfl⟩ := List.mem_map.1 he
    exact lt_mkI n zs b cl L c
  have HMk : Hid (∀ (v : World), Below W.heap.size W v → Calls Try.prog 17 #[.int .i64 l, .int .i64 C, .int .i64 w, .slice a L cap, .slice z Z zcap, .agg #[.int .u64 (b.1 : Int), .int .u64 (b.2 : Int)]] v fun e w' => ∃ g, e = .returned (.tuple #[.slice (some ⟨g, 0, none⟩) N N, .int .i64 0]) ∧ ERow w' (some ⟨g, 0, none⟩) M ∧ Below v.heap.size v w') := fun v hb => by
    have t := cmmask m cn wn n N a z cap zcap cl zs b hn hN lz lb (by rw [← hl, ← hC, ← hw]; exact hE) v (hr.below hb) (hz.below hb)
    rw [← hl, ← hC, ← hw, hL, hZ, ← hM] at t
    exact t
  have HDM : Hid (∀ (v : World) (la za : Option Addr) (lc zc : Nat), ORow v la cl → ERow v za zs → Calls Try.prog 22 #[.int .i64 C, .int .i64 w, .slice la L lc, .slice za Z zc, .agg #[.int .u64 (b.1 : Int), .int .u64 (b.2 : Int)]] v fun e w' => ∃ a' cap', e = .returned (.slice a' N cap') ∧ ERow w' a' M ∧ Below v.heap.size v w') := fun v la za lc zc h1 h2 => by
    have t := rmask22 wn cn n P N L la za lc zc cl zs b hwn hcn hn hP hN hL (by omega) hzl lz lb (fun i hi => by
      obtain ⟨⟨k0, _⟩, ft⟩ := hcl i (by omega)
      have fs := (ftB_true ft).2.1
      rw [hpw] at fs
      exact ⟨k0, fs.1, fs.2⟩) v h1 h2
    rw [← hC, ← hw, ← hzl, hZ, ← hM] at t
    exact t
  have HSm := hidC (fun (v : World) (xv1 xv2 : Option Addr) (yv1 yv2 : Nat) (h1 : ERow v xv1 M) (h2 : ERow v xv2 M) => same_rows xv1 xv2 yv1 yv2 M (by omega) v h1 h2)
  rw [hMl] at HSm
  rw [hE00] at HM
  have obb : ofB l (b.1 : Int) (b.2 : Int) = true := by rw [hl]; exact ob
  rw [obb] at HOf
  have e9 : IntKind.i64.wrap (w + C) = w + C := by rw [IntKind.wrap_i64]; omega
  have hV : cfE l (w + C) qs = 6 := by unfold cfE; rw [if_neg (by rw [hQ]; exact hS)]
  have HAt := hidC (fun (v : World) (hb : Below W.heap.size W v) => cmat_err l C w a z a3 cap zcap cap3 cl zs qs b (by omega) (by omega) (by omega) lz lq lb (by unfold taE; rw [if_pos hE, hV]; decide) v (hr.below hb) (hz.below hb) (hq.below hb))
  rw [show taE l C w cl zs qs b = 6 by unfold taE; rw [if_pos hE, hV], hL, hZ, hQ] at HAt
  have hS1 : decide ((Q : Int) = w + C) = false := decide_eq_false hS
  have hS2 : ((Q : Int) == w + C) = false := by rw [beq_eq_false_iff_ne]; exact hS
  clear hf h8 h210 lz lq lb hr hz hl hC hw h200 hcl hzl oz ob hn hP hN hN1 hpw hE00 hM hMl hMlt hE obb hm hcn hwn hL hZ hq hQ hV
  go_enter Try.func4, Try.ntmps4
  go_upto_region 3 with (go_at_call 9; refine (HF.out.go _).mono ?_; rintro e w1 ⟨rfl, hb1⟩; have K1 : Hid (Kd W w1 C w a z L cap Z zcap b) := K0.out.below hb1; clear hb1 K0)
  go_cut [7, 8] (fun s7 s8 wx => ∃ (la za : Option Addr) (lc zc : Nat), s7 = .slice la L lc ∧ s8 = .slice za Z zc ∧ Hid (Kf W wx C w a z L cap Z zcap b la za cl zs))
  case first =>
    have K := K1.out
    clear K1
    refine wp_region_noPanic ?_
    refine wp_region_peel (S := fun v => v.cell? ⟨W.heap.size, 2, none⟩ = some (.slice a L cap) ∧ v.cell? ⟨W.heap.size, 3, none⟩ = some (.slice z Z zcap)) 7 (by kernel_rfl) rfl (by kernel_rfl) ?_ (fun hHeld => ?_)
    · exact ⟨K.c2, K.c3⟩
    refine wpAnyH_take (i := 0) (oi := _) (v := ?_) rfl (by kernel_rfl) (by kernel_rfl) (by kernel_rfl) (fun _ _ _ h => h) (Or.inl ⟨by rfl, ?_⟩) (by assumption) ?_
    rotate_left
    · ((intro w hSw; (try dsimp only at hSw); go_simp) <;> (try with_reducible rfl))
    show wpAnyH _ _ _ _ _ _ _ (Act.put _ (some 23) _) _
    simp only [Act.put, List.setIfInBounds_toArray, List.set_cons_succ, List.set_cons_zero]
    refine wpAnyH_take (i := 1) (oi := _) (v := ?_) rfl (by kernel_rfl) (by kernel_rfl) (by kernel_rfl) (fun _ _ _ h => h) (Or.inl ⟨by rfl, ?_⟩) (by assumption) ?_
    rotate_left
    · ((intro w hSw; (try dsimp only at hSw); go_simp) <;> (try with_reducible rfl))
    show wpAnyH _ _ _ _ _ _ _ (Act.put _ (some 24) _) _
    simp only [Act.put, List.setIfInBounds_toArray, List.set_cons_succ, List.set_cons_zero]
    refine wpAnyH_take (i := 3) (oi := _) (v := ?_) rfl (by kernel_rfl) (by kernel_rfl) (by kernel_rfl) (fun _ _ _ h => h) (Or.inl ⟨by rfl, ?_⟩) (by assumption) ?_
    rotate_left
    · ((intro w hSw; (try dsimp only at hSw); go_simp) <;> (try with_reducible rfl))
    show wpAnyH _ _ _ _ _ _ _ (Act.put _ (some 26) _) _
    simp only [Act.put, List.setIfInBounds_toArray, List.set_cons_succ, List.set_cons_zero]
    refine wpAnyH_take (i := 4) (oi := _) (v := ?_) rfl (by kernel_rfl) (by kernel_rfl) (by kernel_rfl) (fun _ _ _ h => h) (Or.inl ⟨by rfl, ?_⟩) (by assumption) ?_
    rotate_left
    · ((intro w hSw; (try dsimp only at hSw); go_simp) <;> (try with_reducible rfl))
    show wpAnyH _ _ _ _ _ _ _ (Act.put _ (some 27) _) _
    simp only [Act.put, List.setIfInBounds_toArray, List.set_cons_succ, List.set_cons_zero]
    have K' := K.drew
    clear K
    have K := K'
    clear K'
    generalize w1.drew = wb at *
    refine wpAnyH_ready (rs := [2]) (by kernel_rfl) (by simp) ?_
    refine AllReadyH.cons (o := _) rfl (fun KK hKK => ?_) AllReadyH.nil
    go_simp
    (go_at_call 13; refine (HR.out _ K.d).mono ?_; rintro e w' ⟨la, lc, rfl, L7, hb'⟩)
    have K' := K.below hb'
    clear hb' K
    have K := K'
    clear K'
    refine hKK.out _ _ ?_ (fun hHeld => ?_)
    · exact ⟨K.c2, K.c3⟩
    clear hKK KK
    try simp only [Act.put]
    refine wpAnyH_ready (rs := [5]) (by kernel_rfl) (by simp) ?_
    refine AllReadyH.cons (o := _) rfl (fun KK hKK => ?_) AllReadyH.nil
    go_simp
    (go_at_call 16; refine (HZ.out _ K.d).mono ?_; rintro e w' ⟨za, zc, rfl, Z8, hb'⟩)
    have K' := K.below hb'
    have L7' := L7.below hb'
    clear hb' K L7
    have K := K'
    have L7 := L7'
    clear K' L7'
    refine hKK.out _ _ ?_ (fun hHeld => ?_)
    · exact ⟨K.c2, K.c3⟩
    clear hKK KK
    try simp only [Act.put]
    refine wpAnyH_take (i := 6) (oi := _) (v := ?_) rfl (by kernel_rfl) (by kernel_rfl) (by kernel_rfl) (fun _ _ _ h => h) (Or.inl ⟨by rfl, ?_⟩) (by assumption) ?_
    rotate_left
    · ((intro w hSw; (try dsimp only at hSw); go_simp) <;> (try with_reducible rfl))
    show wpAnyH _ _ _ _ _ _ _ (Act.put _ (some 7) _) _
    simp only [Act.put, List.setIfInBounds_toArray, List.set_cons_succ, List.set_cons_zero]
    refine wpAnyH_done (by kernel_rfl) ?_ _
    refine peel_last rfl (fun KK hKK => ?_)
    clear hHeld
    go_simp
    refine hKK _ _ ?_
    refine NoPanic.normal ?_
    go_wp2_with fail
    go_meet
    exact ⟨la, za, lc, zc, rfl, rfl, ⟨K, L7, Z8⟩⟩
  case rest =>
    obtain ⟨la, za, lc, zc, rfl, rfl, K⟩ := hcut
    clear K1 HF HR HZ
    obtain ⟨c0, c1, c2, c3, c4, c5, _⟩ := K.out.k
    go_upto_region 15 with (first
      | (go_at_call 17; refine (HMk.out _ K.out.k.d).mono ?_; rintro e w2 ⟨g, rfl, M2, hb2⟩; have K2 : Hid (Kf W w2 C w a z L cap Z zcap b la za cl zs ∧ ERow w2 (some ⟨g, 0, none⟩) M) := ⟨K.out.below hb2, M2⟩; clear hb2 K HMk M2; clear c0 c1 c2 c3 c4 c5; obtain ⟨c0, c1, c2, c3, c4, c5, _⟩ := K2.out.1.k)
      | (go_at_call 18; refine (HAt.out _ K2.out.1.k.d).mono ?_; rintro e w3 ⟨rfl, hb3⟩; have K3 : Hid (Kf W (w3.alloc (Obj.cells #[.int .u64 0, .int .u64 0] 26)) C w a z L cap Z zcap b la za cl zs ∧ ERow (w3.alloc (Obj.cells #[.int .u64 0, .int .u64 0] 26)) (some ⟨g, 0, none⟩) M ∧ El (w3.alloc (Obj.cells #[.int .u64 0, .int .u64 0] 26)) w3.heap.size (0 : Nat) (0 : Nat)) := ⟨(K2.out.1.below hb3).below ((Below.refl _ _).alloc (Nat.le_refl _) _), (K2.out.2.below hb3).below ((Below.refl _ _).alloc (Nat.le_refl _) _), by simp [go_sem], by simp [go_sem]⟩; clear hb3 K2 HAt; clear c0 c1 c2 c3 c4 c5; obtain ⟨c0, c1, c2, c3, c4, c5, _⟩ := K3.out.1.k)
      | (go_at_call 19; refine (HM.out _ _ _ _ _ K3.out.1.l K3.out.1.z).mono ?_; rintro e w4 ⟨rfl, hb4⟩; have K4 : Hid (Kf W w4 C w a z L cap Z zcap b la za cl zs ∧ ERow w4 (some ⟨g, 0, none⟩) M ∧ El w4 w3.heap.size (0 : Nat) (0 : Nat)) := ⟨K3.out.1.below hb4, K3.out.2.1.below hb4, K3.out.2.2.below hb4⟩; clear hb4 K3 HM; clear c0 c1 c2 c3 c4 c5; obtain ⟨c0, c1, c2, c3, c4, c5, _⟩ := K4.out.1.k)
      | (go_at_call 20; refine (HOf.out.go _).mono ?_; rintro e w5 ⟨rfl, hb5⟩; have K5 : Hid (Kf W w5 C w a z L cap Z zcap b la za cl zs ∧ ERow w5 (some ⟨g, 0, none⟩) M ∧ El w5 w3.heap.size (0 : Nat) (0 : Nat)) := ⟨K4.out.1.below hb5, K4.out.2.1.below hb5, K4.out.2.2.below hb5⟩; clear hb5 K4 HOf; clear c0 c1 c2 c3 c4 c5; obtain ⟨c0, c1, c2, c3, c4, c5, _⟩ := K5.out.1.k)
      | (go_at_call 22; refine (HDM.out _ _ _ _ _ K5.out.1.l K5.out.1.z).mono ?_; rintro e w6 ⟨a6, c6', rfl, M6, hb6⟩; have K6 : Hid (Kf W w6 C w a z L cap Z zcap b la za cl zs ∧ ERow w6 (some ⟨g, 0, none⟩) M ∧ El w6 w3.heap.size (0 : Nat) (0 : Nat) ∧ ERow w6 a6 M) := ⟨K5.out.1.below hb6, K5.out.2.1.below hb6, K5.out.2.2.below hb6, M6⟩; clear hb6 K5 HDM M6; clear c0 c1 c2 c3 c4 c5)
      | (go_at_call 21; refine (HSm.out _ _ _ _ _ K6.out.2.1 K6.out.2.2.2).mono ?_; rintro e w7 ⟨rfl, hb7⟩; have K7 : Hid (Kf W w7 C w a z L cap Z zcap b la za cl zs ∧ ERow w7 (some ⟨g, 0, none⟩) M ∧ El w7 w3.heap.size (0 : Nat) (0 : Nat)) := ⟨K6.out.1.below hb7, K6.out.2.1.below hb7, K6.out.2.2.1.below hb7⟩; clear hb7 K6 HSm; obtain ⟨c0, c1, c2, c3, c4, c5, _⟩ := K7.out.1.k))
    generalize w3.heap.size = q11 at *
    go_wp2_with (go_at_call 10; refine (AW.out.go _).mono ?_; rintro e w8 ⟨rfl, hb8⟩; have K8 : Hid (Below W.heap.size W w8 ∧ El w8 q11 0 0) := ⟨K7.out.1.k.d.trans (hb8.mono K7.out.1.k.d.size), K7.out.2.2.below hb8⟩; clear hb8 AW; obtain ⟨xv1, xv0⟩ := K8.out.2)
    go_ret
    refine ⟨?_, K8.out.1⟩
    simp
set_option maxHeartbeats 40000000 in
set_option maxRecDepth 100000 in
theorem ms_b (l C w : Int) (a z a3 : Option Addr) (cap zcap cap3 L Z Q : Nat) (cl : List Stp) (zs qs : List (Nat × Nat)) (b : Nat × Nat) (hL : cl.length = L) (hZ : zs.length = Z) (hQ : qs.length = Q) (hf : fwB C w L Z) (h8 : Q ≤ 8) (lz : ltE zs) (lq : ltE qs) (lb : lt2 b) (hE : chE l C w cl zs b = 0) (hS : (Q : Int) = w + C) (hA : ¬ (qs.all fun e => ofB l (e.1 : Int) (e.2 : Int)) = true) (W : World) (hr : ORow W a cl) (hz : ERow W z zs) (hq : ERow W a3 qs) :
    Calls Try.prog 4 #[.int .i64 l, .agg #[.int .i64 C, .int .i64 w, .slice a L cap, .slice z Z zcap, .int .u64 (b.1 : Int), .int .u64 (b.2 : Int)], .slice a3 Q cap3] W fun e w' => e = .returned (.bool true) ∧ Below W.heap.size W w' := by
  have HF := hidC (few22 C w a z L Z cap zcap b)
  rw [decide_eq_true hf] at HF
  have AW := hidC awake22
  have q8 : ¬ (8 : Int) < (Q : Int) := by omega
  have h210 : L ≤ 210 ∧ Z ≤ 8 := by unfold fwB at hf; omega
  have HR := hidC (fun (v : World) (hb : Below W.heap.size W v) => rref22 a cap cl (by omega) v (hr.below hb))
  have HZ := hidC (fun (v : World) (hb : Below W.heap.size W v) => ref_row z zcap zs (by omega) v (hz.below hb))
  have HM := hidC (fun (v : World) (la za : Option Addr) (lc1 zc1 : Nat) (hO : ORow v la cl) (hz' : ERow v za zs) => rmay22 l C w la za lc1 zc1 cl zs (by omega) (by omega) lz v hO hz')
  rw [hL] at HR HM
  rw [hZ] at HZ HM
  have HOf := hidC (rof_any l b.1 b.2 lb.1 lb.2)
  have K0 : Hid (Kd W (W.alloc (Obj.cells #[.int .i64 C, .int .i64 w, .slice a L cap, .slice z Z zcap, .int .u64 (b.1 : Int), .int .u64 (b.2 : Int)] 28)) C w a z L cap Z zcap b) := ⟨by simp [go_sem], by simp [go_sem], by simp [go_sem], by simp [go_sem], by simp [go_sem], by simp [go_sem], (Below.refl W.heap.size W).alloc (Nat.le_refl _) _⟩
  obtain ⟨m, cn, wn, hm, hl, hcn, hC, hwn, hw, h200, hcl, hzl, oz, ob⟩ := ch_zero hE
  obtain ⟨n, hn⟩ : ∃ n, n = 2 ^ wn := ⟨_, rfl⟩
  obtain ⟨P, hP⟩ : ∃ P, P = 2 ^ cn := ⟨_, rfl⟩
  obtain ⟨N, hN⟩ : ∃ N, N = 2 ^ (wn + cn) := ⟨_, rfl⟩
  have hN1 : N ≤ 4096 := by rw [hN]; exact Nat.le_trans (Nat.pow_le_pow_right (by decide) (show wn + cn ≤ 12 by omega)) (by decide)
  have hpw : pw (wn : Int) = (n : Int) := by rw [hn]; rfl
  have hE00 : chE l C w cl zs (0, 0) = 0 := by
    by_cases h : chE l C w cl zs (0, 0) = 0
    · exact h
    · rw [chE_no b h] at hE; exact hE
  obtain ⟨M, hM⟩ : ∃ M, M = (List.range N).map (mkI n zs b cl L) := ⟨_, rfl⟩
  have hMl : M.length = N := by rw [hM]; simp
  have hMlt : ltE M := by
    rw [hM]
    intro e he
    obtain ⟨c, _, rfl⟩ := List.mem_map.1 he
    exact lt_mkI n zs b cl L c
  have HMk : Hid (∀ (v : World), Below W.heap.size W v → Calls Try.prog 17 #[.int .i64 l, .int .i64 C, .int .i64 w, .slice a L cap, .slice z Z zcap, .agg #[.int .u64 (b.1 : Int), .int .u64 (b.2 : Int)]] v fun e w' => ∃ g, e = .returned (.tuple #[.slice (some ⟨g, 0, none⟩) N N, .int .i64 0]) ∧ ERow w' (some ⟨g, 0, none⟩) M ∧ Below v.heap.size v w') := fun v hb => by
    have t := cmmask m cn wn n N a z cap zcap cl zs b hn hN lz lb (by rw [← hl, ← hC, ← hw]; exact hE) v (hr.below hb) (hz.below hb)
    rw [← hl, ← hC, ← hw, hL, hZ, ← hM] at t
    exact t
  have HDM : Hid (∀ (v : World) (la za : Option Addr) (lc zc : Nat), ORow v la cl → ERow v za zs → Calls Try.prog 22 #[.int .i64 C, .int .i64 w, .slice la L lc, .slice za Z zc, .agg #[.int .u64 (b.1 : Int), .int .u64 (b.2 : Int)]] v fun e w' => ∃ a' cap', e = .returned (.slice a' N cap') ∧ ERow w' a' M ∧ Below v.heap.size v w') := fun v la za lc zc h1 h2 => by
    have t := rmask22 wn cn n P N L la za lc zc cl zs b hwn hcn hn hP hN hL (by omega) hzl lz lb (fun i hi => by
      obtain ⟨⟨k0, _⟩, ft⟩ := hcl i (by omega)
      have fs := (ftB_true ft).2.1
      rw [hpw] at fs
      exact ⟨k0, fs.1, fs.2⟩) v h1 h2
    rw [← hC, ← hw, ← hzl, hZ, ← hM] at t
    exact t
  have HSm := hidC (fun (v : World) (xv1 xv2 : Option Addr) (yv1 yv2 : Nat) (h1 : ERow v xv1 M) (h2 : ERow v xv2 M) => same_rows xv1 xv2 yv1 yv2 M (by omega) v h1 h2)
  rw [hMl] at HSm
  rw [hE00] at HM
  have obb : ofB l (b.1 : Int) (b.2 : Int) = true := by rw [hl]; exact ob
  rw [obb] at HOf
  have e9 : IntKind.i64.wrap (w + C) = w + C := by rw [IntKind.wrap_i64]; omega
  have hV : cfE l (w + C) qs = 5 := by unfold cfE; rw [if_pos (by rw [hQ]; exact hS), if_neg hA]
  have HAt := hidC (fun (v : World) (hb : Below W.heap.size W v) => cmat_err l C w a z a3 cap zcap cap3 cl zs qs b (by omega) (by omega) (by omega) lz lq lb (by unfold taE; rw [if_pos hE, hV]; decide) v (hr.below hb) (hz.below hb) (hq.below hb))
  rw [show taE l C w cl zs qs b = 5 by unfold taE; rw [if_pos hE, hV], hL, hZ, hQ] at HAt
  have HRq := hidC (fun (v : World) (hb : Below W.heap.size W v) => ref_row a3 cap3 qs (by omega) v (hq.below hb))
  have HAl := hidC (fun (v : World) (ta : Option Addr) (tc : Nat) (hO : ERow v ta qs) => trall l ta tc qs lq v hO (by omega))
  rw [Bool.eq_false_iff.2 hA, hQ] at HAl
  rw [hQ] at HRq
  have hS1 : decide ((Q : Int) = w + C) = true := decide_eq_true hS
  have hS2 : ((Q : Int) == w + C) = true := by rw [beq_iff_eq]; exact hS
  clear hf h8 h210 lz lq lb hr hz hl hC hw h200 hcl hzl oz ob hn hP hN hN1 hpw hE00 hM hMl hMlt hE obb hm hcn hwn hL hZ hq hQ hV hA hS
  go_enter Try.func4, Try.ntmps4
  go_upto_region 3 with (go_at_call 9; refine (HF.out.go _).mono ?_; rintro e w1 ⟨rfl, hb1⟩; have K1 : Hid (Kd W w1 C w a z L cap Z zcap b) := K0.out.below hb1; clear hb1 K0)
  go_cut [7, 8] (fun s7 s8 wx => ∃ (la za : Option Addr) (lc zc : Nat), s7 = .slice la L lc ∧ s8 = .slice za Z zc ∧ Hid (Kf W wx C w a z L cap Z zcap b la za cl zs))
  case first =>
    have K := K1.out
    clear K1
    refine wp_region_noPanic ?_
    refine wp_region_peel (S := fun v => v.cell? ⟨W.heap.size, 2, none⟩ = some (.slice a L cap) ∧ v.cell? ⟨W.heap.size, 3, none⟩ = some (.slice z Z zcap)) 7 (by kernel_rfl) rfl (by kernel_rfl) ?_ (fun hHeld => ?_)
    · exact ⟨K.c2, K.c3⟩
    refine wpAnyH_take (i := 0) (oi := _) (v := ?_) rfl (by kernel_rfl) (by kernel_rfl) (by kernel_rfl) (fun _ _ _ h => h) (Or.inl ⟨by rfl, ?_⟩) (by assumption) ?_
    rotate_left
    · ((intro w hSw; (try dsimp only at hSw); go_simp) <;> (try with_reducible rfl))
    show wpAnyH _ _ _ _ _ _ _ (Act.put _ (some 23) _) _
    simp only [Act.put, List.setIfInBounds_toArray, List.set_cons_succ, List.set_cons_zero]
    refine wpAnyH_take (i := 1) (oi := _) (v := ?_) rfl (by kernel_rfl) (by kernel_rfl) (by kernel_rfl) (fun _ _ _ h => h) (Or.inl ⟨by rfl, ?_⟩) (by assumption) ?_
    rotate_left
    · ((intro w hSw; (try dsimp only at hSw); go_simp) <;> (try with_reducible rfl))
    show wpAnyH _ _ _ _ _ _ _ (Act.put _ (some 24) _) _
    simp only [Act.put, List.setIfInBounds_toArray, List.set_cons_succ, List.set_cons_zero]
    refine wpAnyH_take (i := 3) (oi := _) (v := ?_) rfl (by kernel_rfl) (by kernel_rfl) (by kernel_rfl) (fun _ _ _ h => h) (Or.inl ⟨by rfl, ?_⟩) (by assumption) ?_
    rotate_left
    · ((intro w hSw; (try dsimp only at hSw); go_simp) <;> (try with_reducible rfl))
    show wpAnyH _ _ _ _ _ _ _ (Act.put _ (some 26) _) _
    simp only [Act.put, List.setIfInBounds_toArray, List.set_cons_succ, List.set_cons_zero]
    refine wpAnyH_take (i := 4) (oi := _) (v := ?_) rfl (by kernel_rfl) (by kernel_rfl) (by kernel_rfl) (fun _ _ _ h => h) (Or.inl ⟨by rfl, ?_⟩) (by assumption) ?_
    rotate_left
    · ((intro w hSw; (try dsimp only at hSw); go_simp) <;> (try with_reducible rfl))
    show wpAnyH _ _ _ _ _ _ _ (Act.put _ (some 27) _) _
    simp only [Act.put, List.setIfInBounds_toArray, List.set_cons_succ, List.set_cons_zero]
    have K' := K.drew
    clear K
    have K := K'
    clear K'
    generalize w1.drew = wb at *
    refine wpAnyH_ready (rs := [2]) (by kernel_rfl) (by simp) ?_
    refine AllReadyH.cons (o := _) rfl (fun KK hKK => ?_) AllReadyH.nil
    go_simp
    (go_at_call 13; refine (HR.out _ K.d).mono ?_; rintro e w' ⟨la, lc, rfl, L7, hb'⟩)
    have K' := K.below hb'
    clear hb' K
    have K := K'
    clear K'
    refine hKK.out _ _ ?_ (fun hHeld => ?_)
    · exact ⟨K.c2, K.c3⟩
    clear hKK KK
    try simp only [Act.put]
    refine wpAnyH_ready (rs := [5]) (by kernel_rfl) (by simp) ?_
    refine AllReadyH.cons (o := _) rfl (fun KK hKK => ?_) AllReadyH.nil
    go_simp
    (go_at_call 16; refine (HZ.out _ K.d).mono ?_; rintro e w' ⟨za, zc, rfl, Z8, hb'⟩)
    have K' := K.below hb'
    have L7' := L7.below hb'
    clear hb' K L7
    have K := K'
    have L7 := L7'
    clear K' L7'
    refine hKK.out _ _ ?_ (fun hHeld => ?_)
    · exact ⟨K.c2, K.c3⟩
    clear hKK KK
    try simp only [Act.put]
    refine wpAnyH_take (i := 6) (oi := _) (v := ?_) rfl (by kernel_rfl) (by kernel_rfl) (by kernel_rfl) (fun _ _ _ h => h) (Or.inl ⟨by rfl, ?_⟩) (by assumption) ?_
    rotate_left
    · ((intro w hSw; (try dsimp only at hSw); go_simp) <;> (try with_reducible rfl))
    show wpAnyH _ _ _ _ _ _ _ (Act.put _ (some 7) _) _
    simp only [Act.put, List.setIfInBounds_toArray, List.set_cons_succ, List.set_cons_zero]
    refine wpAnyH_done (by kernel_rfl) ?_ _
    refine peel_last rfl (fun KK hKK => ?_)
    clear hHeld
    go_simp
    refine hKK _ _ ?_
    refine NoPanic.normal ?_
    go_wp2_with fail
    go_meet
    exact ⟨la, za, lc, zc, rfl, rfl, ⟨K, L7, Z8⟩⟩
  case rest =>
    obtain ⟨la, za, lc, zc, rfl, rfl, K⟩ := hcut
    clear K1 HF HR HZ
    obtain ⟨c0, c1, c2, c3, c4, c5, _⟩ := K.out.k
    go_upto_region 15 with (first
      | (go_at_call 17; refine (HMk.out _ K.out.k.d).mono ?_; rintro e w2 ⟨g, rfl, M2, hb2⟩; have K2 : Hid (Kf W w2 C w a z L cap Z zcap b la za cl zs ∧ ERow w2 (some ⟨g, 0, none⟩) M) := ⟨K.out.below hb2, M2⟩; clear hb2 K HMk M2; clear c0 c1 c2 c3 c4 c5; obtain ⟨c0, c1, c2, c3, c4, c5, _⟩ := K2.out.1.k)
      | (go_at_call 18; refine (HAt.out _ K2.out.1.k.d).mono ?_; rintro e w3 ⟨rfl, hb3⟩; have K3 : Hid (Kf W (w3.alloc (Obj.cells #[.int .u64 0, .int .u64 0] 26)) C w a z L cap Z zcap b la za cl zs ∧ ERow (w3.alloc (Obj.cells #[.int .u64 0, .int .u64 0] 26)) (some ⟨g, 0, none⟩) M ∧ El (w3.alloc (Obj.cells #[.int .u64 0, .int .u64 0] 26)) w3.heap.size (0 : Nat) (0 : Nat)) := ⟨(K2.out.1.below hb3).below ((Below.refl _ _).alloc (Nat.le_refl _) _), (K2.out.2.below hb3).below ((Below.refl _ _).alloc (Nat.le_refl _) _), by simp [go_sem], by simp [go_sem]⟩; clear hb3 K2 HAt; clear c0 c1 c2 c3 c4 c5; obtain ⟨c0, c1, c2, c3, c4, c5, _⟩ := K3.out.1.k)
      | (go_at_call 19; refine (HM.out _ _ _ _ _ K3.out.1.l K3.out.1.z).mono ?_; rintro e w4 ⟨rfl, hb4⟩; have K4 : Hid (Kf W w4 C w a z L cap Z zcap b la za cl zs ∧ ERow w4 (some ⟨g, 0, none⟩) M ∧ El w4 w3.heap.size (0 : Nat) (0 : Nat)) := ⟨K3.out.1.below hb4, K3.out.2.1.below hb4, K3.out.2.2.below hb4⟩; clear hb4 K3 HM; clear c0 c1 c2 c3 c4 c5; obtain ⟨c0, c1, c2, c3, c4, c5, _⟩ := K4.out.1.k)
      | (go_at_call 20; refine (HOf.out.go _).mono ?_; rintro e w5 ⟨rfl, hb5⟩; have K5 : Hid (Kf W w5 C w a z L cap Z zcap b la za cl zs ∧ ERow w5 (some ⟨g, 0, none⟩) M ∧ El w5 w3.heap.size (0 : Nat) (0 : Nat)) := ⟨K4.out.1.below hb5, K4.out.2.1.below hb5, K4.out.2.2.below hb5⟩; clear hb5 K4 HOf; clear c0 c1 c2 c3 c4 c5; obtain ⟨c0, c1, c2, c3, c4, c5, _⟩ := K5.out.1.k)
      | (go_at_call 22; refine (HDM.out _ _ _ _ _ K5.out.1.l K5.out.1.z).mono ?_; rintro e w6 ⟨a6, c6', rfl, M6, hb6⟩; have K6 : Hid (Kf W w6 C w a z L cap Z zcap b la za cl zs ∧ ERow w6 (some ⟨g, 0, none⟩) M ∧ El w6 w3.heap.size (0 : Nat) (0 : Nat) ∧ ERow w6 a6 M) := ⟨K5.out.1.below hb6, K5.out.2.1.below hb6, K5.out.2.2.below hb6, M6⟩; clear hb6 K5 HDM M6; clear c0 c1 c2 c3 c4 c5)
      | (go_at_call 21; refine (HSm.out _ _ _ _ _ K6.out.2.1 K6.out.2.2.2).mono ?_; rintro e w7 ⟨rfl, hb7⟩; have K7 : Hid (Kf W w7 C w a z L cap Z zcap b la za cl zs ∧ ERow w7 (some ⟨g, 0, none⟩) M ∧ El w7 w3.heap.size (0 : Nat) (0 : Nat)) := ⟨K6.out.1.below hb7, K6.out.2.1.below hb7, K6.out.2.2.1.below hb7⟩; clear hb7 K6 HSm; obtain ⟨c0, c1, c2, c3, c4, c5, _⟩ := K7.out.1.k))
    generalize w3.heap.size = q11 at *
    go_wp2_with (first
      | (go_at_call 16; refine (HRq.out _ K7.out.1.k.d).mono ?_; rintro e w9 ⟨t9, c9, rfl, T9, hb9⟩; have K9 : Hid (Below W.heap.size W w9 ∧ El w9 q11 0 0 ∧ ERow w9 t9 qs) := ⟨K7.out.1.k.d.trans (hb9.mono K7.out.1.k.d.size), K7.out.2.2.below hb9, T9⟩; clear hb9 K7 T9; clear c0 c1 c2 c3 c4 c5)
      | (go_at_call 23; refine (HAl.out _ _ _ K9.out.2.2).mono ?_; rintro e w10 ⟨rfl, hb10⟩; have K10 : Hid (Below W.heap.size W w10 ∧ El w10 q11 0 0) := ⟨K9.out.1.trans (hb10.mono K9.out.1.size), K9.out.2.1.below hb10⟩; clear hb10 K9)
      | (go_at_call 10; refine (AW.out.go _).mono ?_; rintro e w8 ⟨rfl, hb8⟩; have K8 : Hid (Below W.heap.size W w8 ∧ El w8 q11 0 0) := ⟨K10.out.1.trans (hb8.mono K10.out.1.size), K10.out.2.below hb8⟩; clear hb8 AW; obtain ⟨xv1, xv0⟩ := K8.out.2))
    go_ret
    refine ⟨?_, K8.out.1⟩
    simp
end Go.Proofs.Ytejoombhcnldmaa

/- ClaimMasks over the seat's translation: the value; all cases. -/
namespace Go.Proofs.Ytejoombhcnldmaa
open Go.RowKit
open Cb
open Tw (pm)

set_option maxHeartbeats 40000000 in
set_option maxRecDepth 100000 in
theorem ms_c (l C w : Int) (a z a3 : Option Addr) (cap zcap cap3 L Z Q : Nat) (cl : List Stp) (zs qs : List (Nat × Nat)) (b : Nat × Nat) (hL : cl.length = L) (hZ : zs.length = Z) (hQ : qs.length = Q) (hf : fwB C w L Z) (h8 : Q ≤ 8) (lz : ltE zs) (lq : ltE qs) (lb : lt2 b) (hE : chE l C w cl zs b = 0) (hS : (Q : Int) = w + C) (hA : (qs.all fun e => ofB l (e.1 : Int) (e.2 : Int)) = true) (hcap : Q ≤ cap3) (hnil : a3 = none → cap3 = 0) (W : World) (hr : ORow W a cl) (hz : ERow W z zs) (hq : ERow W a3 qs) :
    Calls Try.prog 4 #[.int .i64 l, .agg #[.int .i64 C, .int .i64 w, .slice a L cap, .slice z Z zcap, .int .u64 (b.1 : Int), .int .u64 (b.2 : Int)], .slice a3 Q cap3] W fun e w' => e = .returned (.bool true) ∧ Below W.heap.size W w' := by
  have HF := hidC (few22 C w a z L Z cap zcap b)
  rw [decide_eq_true hf] at HF
  have AW := hidC awake22
  have q8 : ¬ (8 : Int) < (Q : Int) := by omega
  have h210 : L ≤ 210 ∧ Z ≤ 8 := by unfold fwB at hf; omega
  have HR := hidC (fun (v : World) (hb : Below W.heap.size W v) => rref22 a cap cl (by omega) v (hr.below hb))
  have HZ := hidC (fun (v : World) (hb : Below W.heap.size W v) => ref_row z zcap zs (by omega) v (hz.below hb))
  have HM := hidC (fun (v : World) (la za : Option Addr) (lc1 zc1 : Nat) (hO : ORow v la cl) (hz' : ERow v za zs) => rmay22 l C w la za lc1 zc1 cl zs (by omega) (by omega) lz v hO hz')
  rw [hL] at HR HM
  rw [hZ] at HZ HM
  have HOf := hidC (rof_any l b.1 b.2 lb.1 lb.2)
  have K0 : Hid (Kd W (W.alloc (Obj.cells #[.int .i64 C, .int .i64 w, .slice a L cap, .slice z Z zcap, .int .u64 (b.1 : Int), .int .u64 (b.2 : Int)] 28)) C w a z L cap Z zcap b) := ⟨by simp [go_sem], by simp [go_sem], by simp [go_sem], by simp [go_sem], by simp [go_sem], by simp [go_sem], (Below.refl W.heap.size W).alloc (Nat.le_refl _) _⟩
  obtain ⟨m, cn, wn, hm, hl, hcn, hC, hwn, hw, h200, hcl, hzl, oz, ob⟩ := ch_zero hE
  obtain ⟨n, hn⟩ : ∃ n, n = 2 ^ wn := ⟨_, rfl⟩
  obtain ⟨P, hP⟩ : ∃ P, P = 2 ^ cn := ⟨_, rfl⟩
  obtain ⟨N, hN⟩ : ∃ N, N = 2 ^ (wn + cn) := ⟨_, rfl⟩
  have hN1 : N ≤ 4096 := by rw [hN]; exact Nat.le_trans (Nat.pow_le_pow_right (by decide) (show wn + cn ≤ 12 by omega)) (by decide)
  have hpw : pw (wn : Int) = (n : Int) := by rw [hn]; rfl
  have hE00 : chE l C w cl zs (0, 0) = 0 := by
    by_cases h : chE l C w cl zs (0, 0) = 0
    · exact h
    · rw [chE_no b h] at hE; exact hE
  obtain ⟨M, hM⟩ : ∃ M, M = (List.range N).map (mkI n zs b cl L) := ⟨_, rfl⟩
  have hMl : M.length = N := by rw [hM]; simp
  have hMlt : ltE M := by
    rw [hM]
    intro e he
    obtain ⟨c, _, rfl⟩ := List.mem_map.1 he
    exact lt_mkI n zs b cl L c
  have HMk : Hid (∀ (v : World), Below W.heap.size W v → Calls Try.prog 17 #[.int .i64 l, .int .i64 C, .int .i64 w, .slice a L cap, .slice z Z zcap, .agg #[.int .u64 (b.1 : Int), .int .u64 (b.2 : Int)]] v fun e w' => ∃ g, e = .returned (.tuple #[.slice (some ⟨g, 0, none⟩) N N, .int .i64 0]) ∧ ERow w' (some ⟨g, 0, none⟩) M ∧ Below v.heap.size v w') := fun v hb => by
    have t := cmmask m cn wn n N a z cap zcap cl zs b hn hN lz lb (by rw [← hl, ← hC, ← hw]; exact hE) v (hr.below hb) (hz.below hb)
    rw [← hl, ← hC, ← hw, hL, hZ, ← hM] at t
    exact t
  have HDM : Hid (∀ (v : World) (la za : Option Addr) (lc zc : Nat), ORow v la cl → ERow v za zs → Calls Try.prog 22 #[.int .i64 C, .int .i64 w, .slice la L lc, .slice za Z zc, .agg #[.int .u64 (b.1 : Int), .int .u64 (b.2 : Int)]] v fun e w' => ∃ a' cap', e = .returned (.slice a' N cap') ∧ ERow w' a' M ∧ Below v.heap.size v w') := fun v la za lc zc h1 h2 => by
    have t := rmask22 wn cn n P N L la za lc zc cl zs b hwn hcn hn hP hN hL (by omega) hzl lz lb (fun i hi => by
      obtain ⟨⟨k0, _⟩, ft⟩ := hcl i (by omega)
      have fs := (ftB_true ft).2.1
      rw [hpw] at fs
      exact ⟨k0, fs.1, fs.2⟩) v h1 h2
    rw [← hC, ← hw, ← hzl, hZ, ← hM] at t
    exact t
  have HSm := hidC (fun (v : World) (xv1 xv2 : Option Addr) (yv1 yv2 : Nat) (h1 : ERow v xv1 M) (h2 : ERow v xv2 M) => same_rows xv1 xv2 yv1 yv2 M (by omega) v h1 h2)
  rw [hMl] at HSm
  rw [hE00] at HM
  have obb : ofB l (b.1 : Int) (b.2 : Int) = true := by rw [hl]; exact ob
  rw [obb] at HOf
  have e9 : IntKind.i64.wrap (w + C) = w + C := by rw [IntKind.wrap_i64]; omega
  have oq : ofT m qs := fun e he => by
    have := List.all_eq_true.1 hA e he
    rw [hl] at this
    exact this
  have hQ2 : Q = wn + cn := by omega
  obtain ⟨vv, hvv⟩ : ∃ vv, vv = ceS b zs (qs.take wn) (qs.drop wn) cl L := ⟨_, rfl⟩
  have HAt : Hid (∀ (v : World), Below W.heap.size W v → Calls Try.prog 18 #[.int .i64 l, .int .i64 C, .int .i64 w, .slice a L cap, .slice z Z zcap, .agg #[.int .u64 (b.1 : Int), .int .u64 (b.2 : Int)], .slice a3 Q cap3] v fun e w' => e = .returned (.tuple #[.agg #[.int .u64 (vv.1 : Int), .int .u64 (vv.2 : Int)], .int .i64 0]) ∧ Below v.heap.size v w') := fun v hb => by
    have t := cmat m cn wn n P L a z a3 cap zcap cap3 cl zs qs b hn hP hL lz lq lb (by omega) oq (by omega) hnil (by rw [← hl, ← hC, ← hw]; exact hE) v (hr.below hb) (hz.below hb) (hq.below hb)
    rw [← hvv, ← hl, ← hC, ← hw, ← hQ2, ← hzl, hZ] at t
    exact t
  have hval : vl M qs = vv := by
    rw [hM, hvv, ← hL]
    exact mask_value hm hn hN hzl (by omega) lq oz oq b cl (fun i hi => by
      obtain ⟨⟨k0, k1⟩, _⟩ := hcl i hi
      omega)
  have HRq := hidC (fun (v : World) (hb : Below W.heap.size W v) => ref_row a3 cap3 qs (by omega) v (hq.below hb))
  have HAl := hidC (fun (v : World) (ta : Option Addr) (tc : Nat) (hO : ERow v ta qs) => trall l ta tc qs lq v hO (by omega))
  rw [hA, hQ] at HAl
  have hN32 : N ≤ 1000 := by
    rw [hN]
    have : wn + cn ≤ 8 := by omega
    exact Nat.le_trans (Nat.pow_le_pow_right (by decide) this) (by decide)
  have HRm : Hid (∀ (v : World) (g : Nat), ERow v (some ⟨g, 0, none⟩) M → Calls Try.prog 16 #[.slice (some ⟨g, 0, none⟩) N N] v fun e w' => ∃ a' cap', e = .returned (.slice a' N cap') ∧ ERow w' a' M ∧ Below v.heap.size v w') := fun v g h => by
    have t := ref_row (some ⟨g, 0, none⟩) N M (by omega) v h
    rw [hMl] at t
    exact t
  have HVl := hidC (fun (v : World) (xv1 xv2 : Option Addr) (yv1 yv2 : Nat) (h1 : ERow v xv1 M) (h2 : ERow v xv2 qs) => rvalue_any xv1 xv2 yv1 yv2 M qs hMlt lq (by omega) (by omega) v h1 h2)
  rw [hval, hMl, hQ] at HVl
  rw [hQ] at HRq
  have hS1 : decide ((Q : Int) = w + C) = true := decide_eq_true hS
  have hS2 : ((Q : Int) == w + C) = true := by rw [beq_iff_eq]; exact hS
  clear hf h8 h210 lz lq lb hr hz hl hC hw h200 hcl hzl oz ob hn hP hN hN1 hpw hE00 hM hMl hMlt hE obb hm hcn hwn hL hZ hq hQ hA hS oq hQ2 hvv hval hN32 hcap hnil
  go_enter Try.func4, Try.ntmps4
  go_upto_region 3 with (go_at_call 9; refine (HF.out.go _).mono ?_; rintro e w1 ⟨rfl, hb1⟩; have K1 : Hid (Kd W w1 C w a z L cap Z zcap b) := K0.out.below hb1; clear hb1 K0)
  go_cut [7, 8] (fun s7 s8 wx => ∃ (la za : Option Addr) (lc zc : Nat), s7 = .slice la L lc ∧ s8 = .slice za Z zc ∧ Hid (Kf W wx C w a z L cap Z zcap b la za cl zs))
  case first =>
    have K := K1.out
    clear K1
    refine wp_region_noPanic ?_
    refine wp_region_peel (S := fun v => v.cell? ⟨W.heap.size, 2, none⟩ = some (.slice a L cap) ∧ v.cell? ⟨W.heap.size, 3, none⟩ = some (.slice z Z zcap)) 7 (by kernel_rfl) rfl (by kernel_rfl) ?_ (fun hHeld => ?_)
    · exact ⟨K.c2, K.c3⟩
    refine wpAnyH_take (i := 0) (oi := _) (v := ?_) rfl (by kernel_rfl) (by kernel_rfl) (by kernel_rfl) (fun _ _ _ h => h) (Or.inl ⟨by rfl, ?_⟩) (by assumption) ?_
    rotate_left
    · ((intro w hSw; (try dsimp only at hSw); go_simp) <;> (try with_reducible rfl))
    show wpAnyH _ _ _ _ _ _ _ (Act.put _ (some 23) _) _
    simp only [Act.put, List.setIfInBounds_toArray, List.set_cons_succ, List.set_cons_zero]
    refine wpAnyH_take (i := 1) (oi := _) (v := ?_) rfl (by kernel_rfl) (by kernel_rfl) (by kernel_rfl) (fun _ _ _ h => h) (Or.inl ⟨by rfl, ?_⟩) (by assumption) ?_
    rotate_left
    · ((intro w hSw; (try dsimp only at hSw); go_simp) <;> (try with_reducible rfl))
    show wpAnyH _ _ _ _ _ _ _ (Act.put _ (some 24) _) _
    simp only [Act.put, List.setIfInBounds_toArray, List.set_cons_succ, List.set_cons_zero]
    refine wpAnyH_take (i := 3) (oi := _) (v := ?_) rfl (by kernel_rfl) (by kernel_rfl) (by kernel_rfl) (fun _ _ _ h => h) (Or.inl ⟨by rfl, ?_⟩) (by assumption) ?_
    rotate_left
    · ((intro w hSw; (try dsimp only at hSw); go_simp) <;> (try with_reducible rfl))
    show wpAnyH _ _ _ _ _ _ _ (Act.put _ (some 26) _) _
    simp only [Act.put, List.setIfInBounds_toArray, List.set_cons_succ, List.set_cons_zero]
    refine wpAnyH_take (i := 4) (oi := _) (v := ?_) rfl (by kernel_rfl) (by kernel_rfl) (by kernel_rfl) (fun _ _ _ h => h) (Or.inl ⟨by rfl, ?_⟩) (by assumption) ?_
    rotate_left
    · ((intro w hSw; (try dsimp only at hSw); go_simp) <;> (try with_reducible rfl))
    show wpAnyH _ _ _ _ _ _ _ (Act.put _ (some 27) _) _
    simp only [Act.put, List.setIfInBounds_toArray, List.set_cons_succ, List.set_cons_zero]
    have K' := K.drew
    clear K
    have K := K'
    clear K'
    generalize w1.drew = wb at *
    refine wpAnyH_ready (rs := [2]) (by kernel_rfl) (by simp) ?_
    refine AllReadyH.cons (o := _) rfl (fun KK hKK => ?_) AllReadyH.nil
    go_simp
    (go_at_call 13; refine (HR.out _ K.d).mono ?_; rintro e w' ⟨la, lc, rfl, L7, hb'⟩)
    have K' := K.below hb'
    clear hb' K
    have K := K'
    clear K'
    refine hKK.out _ _ ?_ (fun hHeld => ?_)
    · exact ⟨K.c2, K.c3⟩
    clear hKK KK
    try simp only [Act.put]
    refine wpAnyH_ready (rs := [5]) (by kernel_rfl) (by simp) ?_
    refine AllReadyH.cons (o := _) rfl (fun KK hKK => ?_) AllReadyH.nil
    go_simp
    (go_at_call 16; refine (HZ.out _ K.d).mono ?_; rintro e w' ⟨za, zc, rfl, Z8, hb'⟩)
    have K' := K.below hb'
    have L7' := L7.below hb'
    clear hb' K L7
    have K := K'
    have L7 := L7'
    clear K' L7'
    refine hKK.out _ _ ?_ (fun hHeld => ?_)
    · exact ⟨K.c2, K.c3⟩
    clear hKK KK
    try simp only [Act.put]
    refine wpAnyH_take (i := 6) (oi := _) (v := ?_) rfl (by kernel_rfl) (by kernel_rfl) (by kernel_rfl) (fun _ _ _ h => h) (Or.inl ⟨by rfl, ?_⟩) (by assumption) ?_
    rotate_left
    · ((intro w hSw; (try dsimp only at hSw); go_simp) <;> (try with_reducible rfl))
    show wpAnyH _ _ _ _ _ _ _ (Act.put _ (some 7) _) _
    simp only [Act.put, List.setIfInBounds_toArray, List.set_cons_succ, List.set_cons_zero]
    refine wpAnyH_done (by kernel_rfl) ?_ _
    refine peel_last rfl (fun KK hKK => ?_)
    clear hHeld
    go_simp
    refine hKK _ _ ?_
    refine NoPanic.normal ?_
    go_wp2_with fail
    go_meet
    exact ⟨la, za, lc, zc, rfl, rfl, ⟨K, L7, Z8⟩⟩
  case rest =>
    obtain ⟨la, za, lc, zc, rfl, rfl, K⟩ := hcut
    clear K1 HF HR HZ
    obtain ⟨c0, c1, c2, c3, c4, c5, _⟩ := K.out.k
    go_upto_region 15 with (first
      | (go_at_call 17; refine (HMk.out _ K.out.k.d).mono ?_; rintro e w2 ⟨g, rfl, M2, hb2⟩; have K2 : Hid (Kf W w2 C w a z L cap Z zcap b la za cl zs ∧ ERow w2 (some ⟨g, 0, none⟩) M) := ⟨K.out.below hb2, M2⟩; clear hb2 K HMk M2; clear c0 c1 c2 c3 c4 c5; obtain ⟨c0, c1, c2, c3, c4, c5, _⟩ := K2.out.1.k)
      | (go_at_call 18; refine (HAt.out _ K2.out.1.k.d).mono ?_; rintro e w3 ⟨rfl, hb3⟩; have K3 : Hid (Kf W (w3.alloc (Obj.cells #[.int .u64 (vv.1 : Int), .int .u64 (vv.2 : Int)] 26)) C w a z L cap Z zcap b la za cl zs ∧ ERow (w3.alloc (Obj.cells #[.int .u64 (vv.1 : Int), .int .u64 (vv.2 : Int)] 26)) (some ⟨g, 0, none⟩) M ∧ El (w3.alloc (Obj.cells #[.int .u64 (vv.1 : Int), .int .u64 (vv.2 : Int)] 26)) w3.heap.size vv.1 vv.2) := ⟨(K2.out.1.below hb3).below ((Below.refl _ _).alloc (Nat.le_refl _) _), (K2.out.2.below hb3).below ((Below.refl _ _).alloc (Nat.le_refl _) _), by simp [go_sem], by simp [go_sem]⟩; clear hb3 K2 HAt; clear c0 c1 c2 c3 c4 c5; obtain ⟨c0, c1, c2, c3, c4, c5, _⟩ := K3.out.1.k)
      | (go_at_call 19; refine (HM.out _ _ _ _ _ K3.out.1.l K3.out.1.z).mono ?_; rintro e w4 ⟨rfl, hb4⟩; have K4 : Hid (Kf W w4 C w a z L cap Z zcap b la za cl zs ∧ ERow w4 (some ⟨g, 0, none⟩) M ∧ El w4 w3.heap.size vv.1 vv.2) := ⟨K3.out.1.below hb4, K3.out.2.1.below hb4, K3.out.2.2.below hb4⟩; clear hb4 K3 HM; clear c0 c1 c2 c3 c4 c5; obtain ⟨c0, c1, c2, c3, c4, c5, _⟩ := K4.out.1.k)
      | (go_at_call 20; refine (HOf.out.go _).mono ?_; rintro e w5 ⟨rfl, hb5⟩; have K5 : Hid (Kf W w5 C w a z L cap Z zcap b la za cl zs ∧ ERow w5 (some ⟨g, 0, none⟩) M ∧ El w5 w3.heap.size vv.1 vv.2) := ⟨K4.out.1.below hb5, K4.out.2.1.below hb5, K4.out.2.2.below hb5⟩; clear hb5 K4 HOf; clear c0 c1 c2 c3 c4 c5; obtain ⟨c0, c1, c2, c3, c4, c5, _⟩ := K5.out.1.k)
      | (go_at_call 22; refine (HDM.out _ _ _ _ _ K5.out.1.l K5.out.1.z).mono ?_; rintro e w6 ⟨a6, c6', rfl, M6, hb6⟩; have K6 : Hid (Kf W w6 C w a z L cap Z zcap b la za cl zs ∧ ERow w6 (some ⟨g, 0, none⟩) M ∧ El w6 w3.heap.size vv.1 vv.2 ∧ ERow w6 a6 M) := ⟨K5.out.1.below hb6, K5.out.2.1.below hb6, K5.out.2.2.below hb6, M6⟩; clear hb6 K5 HDM M6; clear c0 c1 c2 c3 c4 c5)
      | (go_at_call 21; refine (HSm.out _ _ _ _ _ K6.out.2.1 K6.out.2.2.2).mono ?_; rintro e w7 ⟨rfl, hb7⟩; have K7 : Hid (Kf W w7 C w a z L cap Z zcap b la za cl zs ∧ ERow w7 (some ⟨g, 0, none⟩) M ∧ El w7 w3.heap.size vv.1 vv.2) := ⟨K6.out.1.below hb7, K6.out.2.1.below hb7, K6.out.2.2.1.below hb7⟩; clear hb7 K6 HSm; obtain ⟨c0, c1, c2, c3, c4, c5, _⟩ := K7.out.1.k))
    generalize w3.heap.size = q11 at *
    go_upto_region 19 with (first
      | (go_at_call 16; refine (HRq.out _ K7.out.1.k.d).mono ?_; rintro e w9 ⟨t9, c9, rfl, T9, hb9⟩; have K9 : Hid (Below W.heap.size W w9 ∧ ERow w9 (some ⟨g, 0, none⟩) M ∧ El w9 q11 vv.1 vv.2 ∧ ERow w9 t9 qs) := ⟨K7.out.1.k.d.trans (hb9.mono K7.out.1.k.d.size), K7.out.2.1.below hb9, K7.out.2.2.below hb9, T9⟩; clear hb9 K7 T9; clear c0 c1 c2 c3 c4 c5)
      | (go_at_call 23; refine (HAl.out _ _ _ K9.out.2.2.2).mono ?_; rintro e w10 ⟨rfl, hb10⟩; have K10 : Hid (Below W.heap.size W w10 ∧ ERow w10 (some ⟨g, 0, none⟩) M ∧ El w10 q11 vv.1 vv.2) := ⟨K9.out.1.trans (hb10.mono K9.out.1.size), K9.out.2.1.below hb10, K9.out.2.2.1.below hb10⟩; clear hb10 K9))
    have KE := K10.out
    clear K10 HAl
    refine wp_region_noPanic ?_
    refine wp_region_peel (S := fun x => x.cell? ⟨q11, 0, none⟩ = some (.int .u64 (vv.1 : Int)) ∧ x.cell? ⟨q11, 1, none⟩ = some (.int .u64 (vv.2 : Int))) 14 (by kernel_rfl) rfl (by kernel_rfl) ?_ (fun hHeld => ?_)
    · exact ⟨KE.2.2.hi, KE.2.2.lo⟩
    refine wpAnyH_ready (rs := [0]) (by kernel_rfl) (by simp) ?_
    refine AllReadyH.cons (o := _) rfl (fun KK hKK => ?_) AllReadyH.nil
    go_simp
    (go_at_call 10; refine (AW.out.go _).mono ?_; rintro e w11 ⟨rfl, hb'⟩)
    have KF : Below W.heap.size W w11 ∧ ERow w11 (some ⟨g, 0, none⟩) M ∧ El w11 q11 vv.1 vv.2 := by
      first
        | exact ⟨KE.1.trans (hb'.mono KE.1.size), KE.2.1.below hb', KE.2.2.below hb'⟩
        | exact ⟨KE.1.drew.trans (hb'.mono KE.1.drew.size), (KE.2.1.below (Below.refl _ _).drew).below hb', KE.2.2.drew.below hb'⟩
    clear KE hb'
    refine hKK.out _ _ ?_ (fun hHeld => ?_)
    · exact ⟨KF.2.2.hi, KF.2.2.lo⟩
    clear hKK KK
    try simp only [Act.put]
    refine wpAnyH_take (i := 1) (oi := _) (v := ?_) rfl (by kernel_rfl) (by kernel_rfl) (by kernel_rfl) (fun _ _ _ h => h) (Or.inl ⟨by rfl, ?_⟩) (by assumption) ?_
    rotate_left
    · ((intro w hSw; (try dsimp only at hSw); go_simp) <;> (try with_reducible rfl))
    show wpAnyH _ _ _ _ _ _ _ (Act.put _ (some 144) _) _
    simp only [Act.put, List.setIfInBounds_toArray, List.set_cons_succ, List.set_cons_zero]
    refine wpAnyH_take (i := 2) (oi := _) (v := ?_) rfl (by kernel_rfl) (by kernel_rfl) (by kernel_rfl) (fun _ _ _ h => h) (Or.inl ⟨by rfl, ?_⟩) (by assumption) ?_
    rotate_left
    · ((intro w hSw; (try dsimp only at hSw); go_simp) <;> (try with_reducible rfl))
    show wpAnyH _ _ _ _ _ _ _ (Act.put _ (some 145) _) _
    simp only [Act.put, List.setIfInBounds_toArray, List.set_cons_succ, List.set_cons_zero]
    refine wpAnyH_take (i := 3) (oi := _) (v := ?_) rfl (by kernel_rfl) (by kernel_rfl) (by kernel_rfl) (fun _ _ _ h => h) (Or.inl ⟨by rfl, ?_⟩) (by assumption) ?_
    rotate_left
    · ((intro w hSw; (try dsimp only at hSw); go_simp) <;> (try with_reducible rfl))
    show wpAnyH _ _ _ _ _ _ _ (Act.put _ (some 146) _) _
    simp only [Act.put, List.setIfInBounds_toArray, List.set_cons_succ, List.set_cons_zero]
    refine wpAnyH_take (i := 4) (oi := _) (v := ?_) rfl (by kernel_rfl) (by kernel_rfl) (by kernel_rfl) (fun _ _ _ h => h) (Or.inl ⟨by rfl, ?_⟩) (by assumption) ?_
    rotate_left
    · ((intro w hSw; (try dsimp only at hSw); go_simp) <;> (try with_reducible rfl))
    show wpAnyH _ _ _ _ _ _ _ (Act.put _ (some 147) _) _
    simp only [Act.put, List.setIfInBounds_toArray, List.set_cons_succ, List.set_cons_zero]
    refine wpAnyH_take (i := 5) (oi := _) (v := ?_) rfl (by kernel_rfl) (by kernel_rfl) (by kernel_rfl) (fun _ _ _ h => h) (Or.inl ⟨by rfl, ?_⟩) (by assumption) ?_
    rotate_left
    · ((intro w hSw; (try dsimp only at hSw); go_simp) <;> (try with_reducible rfl))
    show wpAnyH _ _ _ _ _ _ _ (Act.put _ (some 148) _) _
    simp only [Act.put, List.setIfInBounds_toArray, List.set_cons_succ, List.set_cons_zero]
    refine wpAnyH_take (i := 6) (oi := _) (v := ?_) rfl (by kernel_rfl) (by kernel_rfl) (by kernel_rfl) (fun _ _ _ h => h) (Or.inl ⟨by rfl, ?_⟩) (by assumption) ?_
    rotate_left
    · ((intro w hSw; (try dsimp only at hSw); go_simp) <;> (try with_reducible rfl))
    show wpAnyH _ _ _ _ _ _ _ (Act.put _ (some 149) _) _
    simp only [Act.put, List.setIfInBounds_toArray, List.set_cons_succ, List.set_cons_zero]
    refine wpAnyH_take (i := 7) (oi := _) (v := ?_) rfl (by kernel_rfl) (by kernel_rfl) (by kernel_rfl) (fun _ _ _ h => h) (Or.inl ⟨by rfl, ?_⟩) (by assumption) ?_
    rotate_left
    · ((intro w hSw; (try dsimp only at hSw); go_simp) <;> (try with_reducible rfl))
    show wpAnyH _ _ _ _ _ _ _ (Act.put _ (some 150) _) _
    simp only [Act.put, List.setIfInBounds_toArray, List.set_cons_succ, List.set_cons_zero]
    refine wpAnyH_take (i := 9) (oi := _) (v := ?_) rfl (by kernel_rfl) (by kernel_rfl) (by kernel_rfl) (fun _ _ _ h => h) (Or.inl ⟨by rfl, ?_⟩) (by assumption) ?_
    rotate_left
    · ((intro w hSw; (try dsimp only at hSw); go_simp) <;> (try with_reducible rfl))
    show wpAnyH _ _ _ _ _ _ _ (Act.put _ (some 152) _) _
    simp only [Act.put, List.setIfInBounds_toArray, List.set_cons_succ, List.set_cons_zero]
    obtain ⟨GD, GM, EQ⟩ := KF
    refine wpAnyH_ready (rs := [8]) (by kernel_rfl) (by simp) ?_
    refine AllReadyH.cons (o := _) rfl (fun KK hKK => ?_) AllReadyH.nil
    go_simp
    (go_at_call 16; refine (HRm.out _ _ GM).mono ?_; rintro e w12 ⟨ma, mc, rfl, RM, hb'⟩)
    have GD2 := GD.trans (hb'.mono GD.size)
    have EQ2 := EQ.below hb'
    clear GD GM EQ hb'
    have GD := GD2
    have EQ := EQ2
    clear GD2 EQ2
    refine hKK.out _ _ ?_ (fun hHeld => ?_)
    · exact ⟨EQ.hi, EQ.lo⟩
    clear hKK KK
    try simp only [Act.put]
    refine wpAnyH_ready (rs := [10]) (by kernel_rfl) (by simp) ?_
    refine AllReadyH.cons (o := _) rfl (fun KK hKK => ?_) AllReadyH.nil
    go_simp
    (go_at_call 16; refine (HRq.out _ GD).mono ?_; rintro e w13 ⟨qa, qc, rfl, RQ, hb'⟩)
    have GD2 := GD.trans (hb'.mono GD.size)
    have EQ2 := EQ.below hb'
    have RM2 := RM.below hb'
    clear GD RM EQ hb'
    have GD := GD2
    have EQ := EQ2
    have RM := RM2
    clear GD2 EQ2 RM2
    refine hKK.out _ _ ?_ (fun hHeld => ?_)
    · exact ⟨EQ.hi, EQ.lo⟩
    clear hKK KK
    try simp only [Act.put]
    refine wpAnyH_ready (rs := [11]) (by kernel_rfl) (by simp) ?_
    refine AllReadyH.cons (o := _) rfl (fun KK hKK => ?_) AllReadyH.nil
    go_simp
    (go_at_call 24; refine (HVl.out _ _ _ _ _ RM RQ).mono ?_; rintro e w14 ⟨rfl, hb'⟩)
    have GD2 := GD.trans (hb'.mono GD.size)
    have EQ2 := EQ.below hb'
    clear GD RM RQ EQ hb'
    have GD := GD2
    have EQ := EQ2
    clear GD2 EQ2
    refine hKK.out _ _ ?_ (fun hHeld => ?_)
    · exact ⟨EQ.hi, EQ.lo⟩
    clear hKK KK
    try simp only [Act.put]
    refine wpAnyH_take (i := 12) (oi := _) (v := ?_) rfl (by kernel_rfl) (by kernel_rfl) (by kernel_rfl) (fun _ _ _ h => h) (Or.inl ⟨by rfl, ?_⟩) (by assumption) ?_
    rotate_left
    · ((intro w hSw; (try dsimp only at hSw); go_simp) <;> (try with_reducible rfl))
    show wpAnyH _ _ _ _ _ _ _ (Act.put _ (some 155) _) _
    simp only [Act.put, List.setIfInBounds_toArray, List.set_cons_succ, List.set_cons_zero]
    refine wpAnyH_take (i := 13) (oi := _) (v := ?_) rfl (by kernel_rfl) (by kernel_rfl) (by kernel_rfl) (fun _ _ _ h => h) (Or.inl ⟨by rfl, ?_⟩) (by assumption) ?_
    rotate_left
    · ((intro w hSw; (try dsimp only at hSw); go_simp) <;> (try with_reducible rfl))
    show wpAnyH _ _ _ _ _ _ _ (Act.put _ (some 156) _) _
    simp only [Act.put, List.setIfInBounds_toArray, List.set_cons_succ, List.set_cons_zero]
    refine wpAnyH_done (by kernel_rfl) ?_ _
    refine peel_last rfl (fun KK hKK => ?_)
    clear hHeld
    go_simp
    refine hKK _ _ ?_
    refine NoPanic.normal ?_
    clear hKK KK
    have D14 : Hid (Below W.heap.size W w14) := GD
    clear GD EQ
    go_wp2
    go_ret
    exact ⟨by first | rfl | simp, by first | exact D14.out | exact D14.out.drew⟩
theorem ms_any (l C w : Int) (a z a3 : Option Addr) (cap zcap cap3 : Nat) (cl : List Stp) (zs qs : List (Nat × Nat)) (b : Nat × Nat) (lz : ltE zs) (lq : ltE qs) (lb : lt2 b) (hcap : qs.length ≤ cap3) (hnil : a3 = none → cap3 = 0) (W : World) (hr : ORow W a cl) (hz : ERow W z zs) (hq : ERow W a3 qs) :
    Calls Try.prog 4 #[.int .i64 l, .agg #[.int .i64 C, .int .i64 w, .slice a cl.length cap, .slice z zs.length zcap, .int .u64 (b.1 : Int), .int .u64 (b.2 : Int)], .slice a3 qs.length cap3] W fun e w' => e = .returned (.bool true) ∧ Below W.heap.size W w' := by
  by_cases h : fwB C w cl.length zs.length ∧ qs.length ≤ 8
  · obtain ⟨hf, h8⟩ := h
    by_cases hE : chE l C w cl zs (0, 0) = 0
    · by_cases ob : ofB l (b.1 : Int) (b.2 : Int) = true
      · have hB : chE l C w cl zs b = 0 := by rw [chE_b b hE, if_pos ob]
        by_cases h1 : (qs.length : Int) = w + C
        · by_cases h2 : (qs.all fun e => ofB l (e.1 : Int) (e.2 : Int)) = true
          · exact ms_c l C w a z a3 cap zcap cap3 _ _ _ cl zs qs b rfl rfl rfl hf h8 lz lq lb hB h1 h2 hcap hnil W hr hz hq
          · exact ms_b l C w a z a3 cap zcap cap3 _ _ _ cl zs qs b rfl rfl rfl hf h8 lz lq lb hB h1 h2 W hr hz hq
        · exact ms_a l C w a z a3 cap zcap cap3 _ _ _ cl zs qs b rfl rfl rfl hf h8 lz lq lb hB h1 W hr hz hq
      · exact ms_e2 l C w a z a3 cap zcap cap3 _ _ _ cl zs qs b rfl rfl rfl hf h8 lz lq lb hE ob W hr hz hq
    · exact ms_e1 l C w a z a3 cap zcap cap3 _ _ _ cl zs qs b rfl rfl rfl hf h8 lz lq lb hE W hr hz hq
  · exact ms_far l C w a z a3 cap zcap cap3 cl zs qs b h W
end Go.Proofs.Ytejoombhcnldmaa
