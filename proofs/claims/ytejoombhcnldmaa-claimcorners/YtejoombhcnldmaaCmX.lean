/- ClaimCorners over the seat's translation: where True has no error. -/
import Derived.Test.YtejoombhcnldmaaPCmW
namespace Go.Proofs.Ytejoombhcnldmaa
open Go.RowKit
open Cb
open Tw (pm)

set_option maxHeartbeats 8000000 in
set_option maxRecDepth 100000 in
theorem co_ok (m cn wn n P N at' gc offc : Nat) (xa1 xz : Option Addr) (xn xc zn zc cap3 : Nat) (b : Nat × Nat) (cs : List (Nat × Nat)) (hm : m < 8) (h0 : cn ≤ 2) (h1 : 1 ≤ wn) (h2 : wn ≤ 3) (hn : n = 2 ^ wn) (hP : P = 2 ^ cn) (hN : N = 2 ^ (wn + cn)) (hat : at' = b.2 % n) (lb : lt2 b) (hl : cs.length = N) (hcp : N ≤ cap3) (lc : ltE cs) (oc : ofT m cs) (hE : chE (m : Int) (cn : Int) (wn : Int) (mkC P) (crn wn at') (0, 0) = 0) (W : World) (hc : ERow W (some ⟨gc, offc, none⟩) cs) :
    Calls Try.prog 7 #[.int .i64 (m : Int), .agg #[.int .i64 (cn : Int), .int .i64 (wn : Int), .slice xa1 xn xc, .slice xz zn zc, .int .u64 (b.1 : Int), .int .u64 (b.2 : Int)], .slice (some ⟨gc, offc, none⟩) N cap3] W fun e w' => e = .returned (.bool true) ∧ Below W.heap.size W w' := by
  have lb2 := lb.2
  have hNP : N = P * n := by rw [hN, hP, hn, ← Nat.pow_add, Nat.add_comm]
  have AW := hidC awake22
  have HT1 := hidC (rtwoS wn (by omega))
  have HT2 := hidC (rtwoS cn (by omega))
  rw [← hn] at HT1
  rw [← hP] at HT2
  have hn1 : n ≤ 8 ∧ 0 < n := by rw [hn]; exact ⟨Nat.le_trans (Nat.pow_le_pow_right (by decide) h2) (by decide), Nat.two_pow_pos _⟩
  have hP1 : P ≤ 4 := by rw [hP]; exact Nat.le_trans (Nat.pow_le_pow_right (by decide) h0) (by decide)
  have hat2 : at' < n := by rw [hat]; exact Nat.mod_lt _ hn1.2
  have f1 : IntKind.u64.wrap (n : Int) = (n : Int) := by rw [IntKind.wrap_u64]; omega
  have f2 : Int.tmod (b.2 : Int) (n : Int) = (at' : Int) := by rw [hat, Int.tmod_eq_emod_of_nonneg (by omega)]; simp
  have f3 : IntKind.i64.wrap (at' : Int) = (at' : Int) := by rw [IntKind.wrap_i64]; omega
  have f4 : IntKind.u64.wrap (at' : Int) = (at' : Int) := by rw [IntKind.wrap_u64]; omega
  have f5 : ¬ (n : Int) = 0 := by omega
  have f6 : (b.2 : Int) % (n : Int) = (at' : Int) := by rw [hat]; simp
  have K0 : Hid (Kc W (W.alloc (Obj.cells #[.int .i64 (cn : Int), .int .i64 (wn : Int), .slice xa1 xn xc, .slice xz zn zc, .int .u64 (b.1 : Int), .int .u64 (b.2 : Int)] 28)) W.heap.size (cn : Int) (wn : Int) xa1 xn xc b) := ⟨by simp [go_sem], by simp [go_sem], by simp [go_sem], by simp [go_sem], by simp [go_sem], (Below.refl W.heap.size W).alloc (Nat.le_refl _) _⟩
  obtain ⟨i0, hi0, hz0, hz1, hz2⟩ := info_clm
  have HI : Hid (Try.prog.info? 60 = some i0 ∧ i0.zero = some (.agg #[.int .i64 0, .int .i64 0, .int .i64 0, .int .u64 0, .int .u64 0]) ∧ i0.size = 5 ∧ i0.bytes = 40) := ⟨hi0, hz0, hz1, hz2⟩
  clear hi0 hz0 hz1 hz2
  have hN1 : N ≤ 32 := by rw [hNP]; exact Nat.le_trans (Nat.mul_le_mul hP1 hn1.1) (by decide)
  have hcs : ¬ 40 < (N : Int) := by omega
  have HCO := hidC (fun (v : World) => cor_ok wn at' h1 (by omega) (by rw [← hn]; exact hat2) v)
  have HTR := hidC (fun (v : World) (ca : Option Addr) (cc g : Nat) (hd : Below W.heap.size W v) (hO : ORow v ca (mkC P)) (hz : ERow v (some ⟨g, 0, none⟩) (crn wn at')) => cmtrue m cn wn n N P ca (some ⟨g, 0, none⟩) gc offc cc wn cap3 (mkC P) (crn wn at') cs hn hN (mkC_len P) (crn_lt wn at') lc hl oc hcp hE v hO hz (hc.below hd))
  rw [crn_len] at HTR
  obtain ⟨vals, hvals⟩ : ∃ vals, vals = (mkC P).map (tvv m n (crn wn at') cs) := ⟨_, rfl⟩
  rw [← hvals] at HTR
  have HX : Hid (vals.length = P ∧ ∀ k, k < P → vals.getD k (0, 0) = cs.getD (n * k + at') (0, 0) ∧ n * k + at' < N) := by
    refine ⟨by rw [hvals, List.length_map, mkC_len], fun k hk => ?_⟩
    have h3 : k * n + n ≤ P * n := by
      have := Nat.mul_le_mul_right n (show k + 1 ≤ P from hk)
      rwa [Nat.add_mul, Nat.one_mul] at this
    have h4 := tvv_corner hm hn hat2 lc oc (k := k) (by rw [hl, hNP]; exact h3) (0, 0)
    refine ⟨?_, by rw [hNP, Nat.mul_comm n k]; omega⟩
    rw [hvals, Nat.mul_comm n k]
    rw [show cs.getD (k * n + at') (0, 0) = el cs (k * n + at') from rfl, ← h4]
    simp [mkC, List.getD, hk]
  have HCS : Hid (ERow W (some ⟨gc, offc, none⟩) cs ∧ cs.length = N) := ⟨hc, hl⟩
  clear hn hP hN hNP hat lb lb2 lc hc hl oc hE hvals hcp hm
  go_enter Try.func7, Try.ntmps7
  obtain ⟨c0, c1, c2, c4, c5, _⟩ := K0.out
  go_wp2_with (go_at_call 26; refine (HT1.out _).mono ?_; rintro e w1 ⟨rfl, rfl⟩)
  clear c0 c1 c2 c4 c5 f1 f2 f4 f5 f6 HT1
  generalize (W.alloc (Obj.cells #[.int .i64 (cn : Int), .int .i64 (wn : Int), .slice xa1 xn xc, .slice xz zn zc, .int .u64 (b.1 : Int), .int .u64 (b.2 : Int)] 28)) = wb at *
  go_loopw [9, 10] (fun s u wr => ∃ k : Nat, k ≤ P ∧ u = .int .i64 k ∧ Hid (wr.ownsRow wb.heap.size 60 5 s k (sflC (mkC k)) ∧ Below wb.heap.size wb wr)) (fun _ u _ => P - (intOf u).toNat)
  case atStart => exact ⟨0, Nat.zero_le _, rfl, ⟨⟨by simp [sflC, mkC], .inl ⟨rfl, rfl⟩⟩, Below.refl _ _⟩⟩
  case round =>
    obtain ⟨k, hk, rfl, HO⟩ := hrel
    have c0 := (K0.out.below HO.out.2).c0
    by_cases hlt : k < P
    · have k1 : (k : Int) < (P : Int) := by omega
      have hsz : wb.heap.size ≤ wr.heap.size := HO.out.2.size
      have HS : Hid (sflC (mkC (k + 1)) = sflC (mkC k) ++ [.int .i64 (k : Int), .int .i64 0, .int .i64 0, .int .u64 0, .int .u64 0]) := by show _ = _; rw [mkC_snoc, sflC_snoc]; rfl
      go_wp2_with (first | (go_at_call 26; refine (HT2.out _).mono ?_; rintro e w1 ⟨rfl, rfl⟩) | (at_builtin; go_loud (refine wpList_append_own _ rfl _ _ 22 rfl wb.heap.size 60 i0 (.agg #[.int .i64 0, .int .i64 0, .int .i64 0, .int .u64 0, .int .u64 0]) 5 40 Try.underlying22 HI.out.1 HI.out.2.1 HI.out.2.2.1 HI.out.2.2.2 rfl (by decide) _ _ _ rfl (own_below HO.out.1 (by go_grown)) ⟨w1.heap.size, 0, none⟩ 1 1 [.int .i64 (k : Int), .int .i64 0, .int .i64 0, .int .u64 0, .int .u64 0] (by first | rfl | (simp [go_sem]; done)) rfl (fun p u hu => by rcases p with _ | _ | _ | _ | _ | p <;> simp at hu <;> subst hu <;> simp [go_sem]) (by intro u hu; simp at hu; rcases hu with rfl | rfl | rfl | rfl | rfl <;> rfl) (by simp only [maxLen]; omega) (by omega) (by simp; omega) ?_); intro v' w5 hown' hgr _))
      refine ⟨⟨k + 1, hlt, by simp, ⟨by rw [HS.out]; exact hown', ?_⟩⟩, by simp [intOf]; omega⟩
      exact (HO.out.2.alloc HO.out.2.size _).grown hgr (by have := HO.out.2.size; simp; omega) (fun g hg => (HO.out.1.lt g hg).1)
    · obtain rfl : k = P := by omega
      have HQ : Hid (Kc W wr W.heap.size (cn : Int) (wn : Int) xa1 xn xc b) := K0.out.below HO.out.2
      obtain ⟨ca, cc, rfl, OR0⟩ := own_clm (mkC_len k) HO.out.1
      have HOR : Hid (ORow wr ca (mkC k)) := OR0
      clear HO OR0 K0 HI
      go_upto_region 10 with (go_at_call 26; refine (HT2.out _).mono ?_; rintro e w1 ⟨rfl, rfl⟩)
      have K := HQ.out
      have OR := HOR.out
      clear HQ HOR c0
      generalize hPk : k = P at *
      refine wp_region_noPanic ?_
      refine wp_region_peel (S := fun v => v.cell? ⟨W.heap.size, 0, none⟩ = some (.int .i64 (cn : Int)) ∧ v.cell? ⟨W.heap.size, 1, none⟩ = some (.int .i64 (wn : Int))) 16 (by kernel_rfl) rfl (by kernel_rfl) ?_ (fun hHeld => ?_)
      · exact ⟨K.c0, K.c1⟩
      refine wpAnyH_take (i := 0) (oi := _) (v := ?_) rfl (by kernel_rfl) (by kernel_rfl) (by kernel_rfl) (fun _ _ _ h => h) (Or.inl ⟨by rfl, ?_⟩) (by assumption) ?_
      rotate_left
      · ((intro w hSw; (try dsimp only at hSw); go_simp) <;> (try with_reducible rfl))
      show wpAnyH _ _ _ _ _ _ _ (Act.put _ (some 61) _) _
      simp only [Act.put, List.setIfInBounds_toArray, List.set_cons_succ, List.set_cons_zero]
      refine wpAnyH_take (i := 1) (oi := _) (v := ?_) rfl (by kernel_rfl) (by kernel_rfl) (by kernel_rfl) (fun _ _ _ h => h) (Or.inl ⟨by rfl, ?_⟩) (by assumption) ?_
      rotate_left
      · ((intro w hSw; (try dsimp only at hSw); go_simp) <;> (try with_reducible rfl))
      show wpAnyH _ _ _ _ _ _ _ (Act.put _ (some 62) _) _
      simp only [Act.put, List.setIfInBounds_toArray, List.set_cons_succ, List.set_cons_zero]
      refine wpAnyH_take (i := 2) (oi := _) (v := ?_) rfl (by kernel_rfl) (by kernel_rfl) (by kernel_rfl) (fun _ _ _ h => h) (Or.inl ⟨by rfl, ?_⟩) (by assumption) ?_
      rotate_left
      · ((intro w hSw; (try dsimp only at hSw); go_simp) <;> (try with_reducible rfl))
      show wpAnyH _ _ _ _ _ _ _ (Act.put _ (some 63) _) _
      simp only [Act.put, List.setIfInBounds_toArray, List.set_cons_succ, List.set_cons_zero]
      refine wpAnyH_take (i := 3) (oi := _) (v := ?_) rfl (by kernel_rfl) (by kernel_rfl) (by kernel_rfl) (fun _ _ _ h => h) (Or.inl ⟨by rfl, ?_⟩) (by assumption) ?_
      rotate_left
      · ((intro w hSw; (try dsimp only at hSw); go_simp) <;> (try with_reducible rfl))
      show wpAnyH _ _ _ _ _ _ _ (Act.put _ (some 64) _) _
      simp only [Act.put, List.setIfInBounds_toArray, List.set_cons_succ, List.set_cons_zero]
      refine wpAnyH_take (i := 4) (oi := _) (v := ?_) rfl (by kernel_rfl) (by kernel_rfl) (by kernel_rfl) (fun _ _ _ h => h) (Or.inl ⟨by rfl, ?_⟩) (by assumption) ?_
      rotate_left
      · ((intro w hSw; (try dsimp only at hSw); go_simp) <;> (try with_reducible rfl))
      show wpAnyH _ _ _ _ _ _ _ (Act.put _ (some 65) _) _
      simp only [Act.put, List.setIfInBounds_toArray, List.set_cons_succ, List.set_cons_zero]
      refine wpAnyH_take (i := 5) (oi := _) (v := ?_) rfl (by kernel_rfl) (by kernel_rfl) (by kernel_rfl) (fun _ _ _ h => h) (Or.inl ⟨by rfl, ?_⟩) (by assumption) ?_
      rotate_left
      · ((intro w hSw; (try dsimp only at hSw); go_simp) <;> (try with_reducible rfl))
      show wpAnyH _ _ _ _ _ _ _ (Act.put _ (some 66) _) _
      simp only [Act.put, List.setIfInBounds_toArray, List.set_cons_succ, List.set_cons_zero]
      refine wpAnyH_take (i := 6) (oi := _) (v := ?_) rfl (by kernel_rfl) (by kernel_rfl) (by kernel_rfl) (fun _ _ _ h => h) (Or.inl ⟨by rfl, ?_⟩) (by assumption) ?_
      rotate_left
      · ((intro w hSw; (try dsimp only at hSw); go_simp) <;> (try with_reducible rfl))
      show wpAnyH _ _ _ _ _ _ _ (Act.put _ (some 67) _) _
      simp only [Act.put, List.setIfInBounds_toArray, List.set_cons_succ, List.set_cons_zero]
      refine wpAnyH_take (i := 7) (oi := _) (v := ?_) rfl (by kernel_rfl) (by kernel_rfl) (by kernel_rfl) (fun _ _ _ h => h) (Or.inl ⟨by rfl, ?_⟩) (by assumption) ?_
      rotate_left
      · ((intro w hSw; (try dsimp only at hSw); go_simp) <;> (try with_reducible rfl))
      show wpAnyH _ _ _ _ _ _ _ (Act.put _ (some 68) _) _
      simp only [Act.put, List.setIfInBounds_toArray, List.set_cons_succ, List.set_cons_zero]
      refine wpAnyH_take (i := 8) (oi := _) (v := ?_) rfl (by kernel_rfl) (by kernel_rfl) (by kernel_rfl) (fun _ _ _ h => h) (Or.inl ⟨by rfl, ?_⟩) (by assumption) ?_
      rotate_left
      · ((intro w hSw; (try dsimp only at hSw); go_simp) <;> (try with_reducible rfl))
      show wpAnyH _ _ _ _ _ _ _ (Act.put _ (some 69) _) _
      simp only [Act.put, List.setIfInBounds_toArray, List.set_cons_succ, List.set_cons_zero]
      refine wpAnyH_take (i := 10) (oi := _) (v := ?_) rfl (by kernel_rfl) (by kernel_rfl) (by kernel_rfl) (fun _ _ _ h => h) (Or.inl ⟨by rfl, ?_⟩) (by assumption) ?_
      rotate_left
      · ((intro w hSw; (try dsimp only at hSw); go_simp) <;> (try with_reducible rfl))
      show wpAnyH _ _ _ _ _ _ _ (Act.put _ (some 71) _) _
      simp only [Act.put, List.setIfInBounds_toArray, List.set_cons_succ, List.set_cons_zero]
      refine wpAnyH_ready (rs := [9]) (by kernel_rfl) (by simp) ?_
      refine AllReadyH.cons (o := _) rfl (fun KK hKK => ?_) AllReadyH.nil
      go_simp
      (go_at_call 29; refine (HCO.out _).mono ?_; rintro e w' ⟨gz, rfl, HZR, hb'⟩)
      have K'' := Kc.below (w' := w') (by first | exact K | exact K.drew) hb'
      have O' : ORow w' ca (mkC P) := OR.below (by first | exact hb' | exact (Below.refl _ _).drew.trans (hb'.mono (by simp)))
      clear K hb' OR
      have K := K''
      have OR := O'
      clear K'' O'
      refine hKK.out _ _ ?_ (fun hHeld => ?_)
      · exact ⟨K.c0, K.c1⟩
      clear hKK KK
      try simp only [Act.put]
      refine wpAnyH_ready (rs := [11]) (by kernel_rfl) (by simp) ?_
      refine AllReadyH.cons (o := _) rfl (fun KK hKK => ?_) AllReadyH.nil
      go_simp
      (go_at_call 25; refine (HTR.out _ _ _ _ K.d OR HZR).mono ?_; rintro e w' ⟨g7, rfl, hv7, hb', _⟩)
      have K'' := Kc.below (w' := w') (by first | exact K | exact K.drew) hb'
      clear K hb'
      have K := K''
      clear K''
      refine hKK.out _ _ ?_ (fun hHeld => ?_)
      · exact ⟨K.c0, K.c1⟩
      clear hKK KK
      try simp only [Act.put]
      refine wpAnyH_take (i := 12) (oi := _) (v := ?_) rfl (by kernel_rfl) (by kernel_rfl) (by kernel_rfl) (fun _ _ _ h => h) (Or.inl ⟨by rfl, ?_⟩) (by assumption) ?_
      rotate_left
      · ((intro w hSw; (try dsimp only at hSw); go_simp) <;> (try with_reducible rfl))
      show wpAnyH _ _ _ _ _ _ _ (Act.put _ (some 60) _) _
      simp only [Act.put, List.setIfInBounds_toArray, List.set_cons_succ, List.set_cons_zero]
      refine wpAnyH_take (i := 13) (oi := _) (v := ?_) rfl (by kernel_rfl) (by kernel_rfl) (by kernel_rfl) (fun _ _ _ h => h) (Or.inl ⟨by rfl, ?_⟩) (by assumption) ?_
      rotate_left
      · ((intro w hSw; (try dsimp only at hSw); go_simp) <;> (try with_reducible rfl))
      show wpAnyH _ _ _ _ _ _ _ (Act.put _ (some 73) _) _
      simp only [Act.put, List.setIfInBounds_toArray, List.set_cons_succ, List.set_cons_zero]
      refine wpAnyH_take (i := 14) (oi := _) (v := ?_) rfl (by kernel_rfl) (by kernel_rfl) (by kernel_rfl) (fun _ _ _ h => h) (Or.inl ⟨by rfl, ?_⟩) (by assumption) ?_
      rotate_left
      · ((intro w hSw; (try dsimp only at hSw); go_simp) <;> (try with_reducible rfl))
      show wpAnyH _ _ _ _ _ _ _ (Act.put _ (some 74) _) _
      simp only [Act.put, List.setIfInBounds_toArray, List.set_cons_succ, List.set_cons_zero]
      refine wpAnyH_take (i := 15) (oi := _) (v := ?_) rfl (by kernel_rfl) (by kernel_rfl) (by kernel_rfl) (fun _ _ _ h => h) (Or.inl ⟨by rfl, ?_⟩) (by assumption) ?_
      rotate_left
      · ((intro w hSw; (try dsimp only at hSw); go_simp) <;> (try with_reducible rfl))
      show wpAnyH _ _ _ _ _ _ _ (Act.put _ (some 11) _) _
      simp only [Act.put, List.setIfInBounds_toArray, List.set_cons_succ, List.set_cons_zero]
      refine wpAnyH_done (by kernel_rfl) ?_ _
      refine peel_last rfl (fun KK hKK => ?_)
      clear hHeld
      go_simp
      refine hKK _ _ ?_
      refine NoPanic.normal ?_
      clear hKK KK
      clear HTR HCO HT2
      have HV : Hid (ERow w' (some ⟨g7, 0, none⟩) vals ∧ Below W.heap.size W w') := ⟨hv7, K.d⟩
      clear K hv7 HZR
      go_wp2_with fail
      go_loopw [13] (fun u wr2 => ∃ j : Nat, j ≤ P ∧ u = .int .i64 j ∧ Hid (Below w'.heap.size w' wr2)) (fun u _ => P - (intOf u).toNat)
      case atStart => exact ⟨0, Nat.zero_le _, rfl, Below.refl _ _⟩
      case round =>

        obtain ⟨j, hj, rfl, HB⟩ := hrel
        by_cases hjl : j < P
        · have j1 : (j : Int) < (P : Int) := by omega
          have j0 : (0 : Int) ≤ (j : Int) := by omega
          have jd : decide ((P : Int) ≤ (j : Int)) = false := decide_eq_false (by omega)
          obtain ⟨hx1, hx2⟩ := HX.out.2 j hjl
          obtain ⟨b7, o7, e7, hb7, v1, v0⟩ := HV.out.1.cells j (by rw [HX.out.1]; exact hjl)
          obtain ⟨b8, o8, e8, hb8, y1, y0⟩ := HCS.out.1.cells (n * j + at') (by rw [HCS.out.2]; exact hx2)
          injection e7 with e7
          injection e7 with e7 e7'
          injection e8 with e8
          injection e8 with e8 e8'
          subst e7 e7' e8 e8'
          rw [hx1] at v1 v0
          obtain ⟨x, hx⟩ : ∃ x, x = cs.getD (n * j + at') (0, 0) := ⟨_, rfl⟩
          obtain ⟨ix, hix⟩ : ∃ ix, ix = n * j + at' := ⟨_, rfl⟩
          rw [← hix] at hx hx2
          rw [← hix, ← hx] at v1 v0 y1 y0
          have V1 := keepc HB.out v1
          have V0 := keepc HB.out v0
          have Y1 := keepc HB.out (keepc HV.out.2 y1)
          have Y0 := keepc HB.out (keepc HV.out.2 y0)
          have hnj : n * j ≤ 32 := by omega
          have m1 : IntKind.i64.wrap ((n : Int) * (j : Int)) = ((n * j : Nat) : Int) := by rw [show (n : Int) * (j : Int) = ((n * j : Nat) : Int) by simp, IntKind.wrap_i64]; omega
          have m2 : IntKind.i64.wrap (((n * j : Nat) : Int) + (at' : Int)) = (ix : Int) := by rw [IntKind.wrap_i64, hix]; omega
          have m3 : IntKind.i64.wrap ((n : Int) * (j : Int) + (at' : Int)) = (ix : Int) := by rw [show (n : Int) * (j : Int) = ((n * j : Nat) : Int) by simp]; exact m2
          have m4 : (ix : Int) < (N : Int) := by omega
          have m5 : (0 : Int) ≤ (ix : Int) := by omega
          clear v1 v0 y1 y0 hx1 hx hix hb7 hb8
          simp only [Nat.zero_add] at V1 V0
          go_upto_region 16 with fail
          go_quiet (fail)
          go_wp2
          exact ⟨⟨j + 1, hjl, by simp, below_drewC HB.out _⟩, by simp [intOf]; omega⟩
        · obtain rfl : j = P := by omega
          have HQ2 : Hid (Below W.heap.size W wr) := HV.out.2.trans (HB.out.mono HV.out.2.size)
          clear HV HB HX HCS
          go_wp2_with (go_at_call 10; refine (AW.out.go _).mono ?_; rintro e w2 ⟨rfl, hb2⟩; have D2 : Hid (Below W.heap.size W w2) := HQ2.out.trans (hb2.mono HQ2.out.size); clear hb2)
          go_ret
          exact ⟨rfl, D2.out⟩
end Go.Proofs.Ytejoombhcnldmaa
