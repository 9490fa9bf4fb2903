/- ClaimTrue over the seat's translation: what it does not ask about, and where there is an error. -/
import Derived.Test.YtejoombhcnldmaaPCnC
import Derived.BigQuiet
namespace Go.Proofs.Ytejoombhcnldmaa
open Go.RowKit
open Cb
open Tw (pm)

/-- The case in its box, and what lay there. -/
structure Kd (W w : World) (C ww : Int) (a z : Option Addr) (n cap zn zc : Nat) (b : Nat × Nat) : Prop where
  c0 : w.cell? ⟨W.heap.size, 0, none⟩ = some (.int .i64 C)
  c1 : w.cell? ⟨W.heap.size, 1, none⟩ = some (.int .i64 ww)
  c2 : w.cell? ⟨W.heap.size, 2, none⟩ = some (.slice a n cap)
  c3 : w.cell? ⟨W.heap.size, 3, none⟩ = some (.slice z zn zc)
  c4 : w.cell? ⟨W.heap.size, 4, none⟩ = some (.int .u64 (b.1 : Int))
  c5 : w.cell? ⟨W.heap.size, 5, none⟩ = some (.int .u64 (b.2 : Int))
  d : Below W.heap.size W w
theorem Kd.below {W w w' : World} {C ww : Int} {a z : Option Addr} {n cap zn zc : Nat} {b : Nat × Nat} (h : Kd W w C ww a z n cap zn zc b) (hb : Below w.heap.size w w') : Kd W w' C ww a z n cap zn zc b := ⟨keepc hb h.c0, keepc hb h.c1, keepc hb h.c2, keepc hb h.c3, keepc hb h.c4, keepc hb h.c5, h.d.trans (hb.mono h.d.size)⟩
theorem Kd.drew {W w : World} {C ww : Int} {a z : Option Addr} {n cap zn zc : Nat} {b : Nat × Nat} (h : Kd W w C ww a z n cap zn zc b) : Kd W w.drew C ww a z n cap zn zc b := h.below (Below.refl _ _).drew
/-- The document's own copies beside it. -/
structure Ke (W w : World) (C ww : Int) (a z : Option Addr) (n cap zn zc : Nat) (b : Nat × Nat) (la za ta : Option Addr) (cl : List Stp) (zs cs : List (Nat × Nat)) : Prop where
  k : Kd W w C ww a z n cap zn zc b
  l : ORow w la cl
  z : ERow w za zs
  t : ERow w ta cs
theorem Ke.below {W w w' : World} {C ww : Int} {a z la za ta : Option Addr} {n cap zn zc : Nat} {b : Nat × Nat} {cl : List Stp} {zs cs : List (Nat × Nat)} (h : Ke W w C ww a z n cap zn zc b la za ta cl zs cs) (hb : Below w.heap.size w w') : Ke W w' C ww a z n cap zn zc b la za ta cl zs cs := ⟨h.k.below hb, h.l.below hb, h.z.below hb, h.t.below hb⟩
theorem Ke.drew {W w : World} {C ww : Int} {a z la za ta : Option Addr} {n cap zn zc : Nat} {b : Nat × Nat} {cl : List Stp} {zs cs : List (Nat × Nat)} (h : Ke W w C ww a z n cap zn zc b la za ta cl zs cs) : Ke W w.drew C ww a z n cap zn zc b la za ta cl zs cs := h.below (Below.refl _ _).drew
set_option maxHeartbeats 2000000 in
set_option maxRecDepth 100000 in
theorem cmmask_err (l c w : Int) (a a2 : Option Addr) (cap cap2 : Nat) (cl : List Stp) (z : List (Nat × Nat)) (b : Nat × Nat) (h10 : cl.length ≤ 100000) (h11 : z.length ≤ 100000) (lz : ltE z) (lb : lt2 b) (hE : ¬ chE l c w cl z b = 0) (W : World) (hr : ORow W a cl) (hz : ERow W a2 z) :
    Calls Try.prog 17 #[.int .i64 l, .int .i64 c, .int .i64 w, .slice a cl.length cap, .slice a2 z.length cap2, .agg #[.int .u64 (b.1 : Int), .int .u64 (b.2 : Int)]] W fun e w' => e = .returned (.tuple #[.slice none 0 0, .int .i64 (chE l c w cl z b)]) ∧ Below W.heap.size W w' := by
  have HH := hidC (fun (v : World) (hb : Below W.heap.size W v) => cmhind l c w a a2 cap cap2 cl z b h10 h11 lz lb v (hr.below hb) (hz.below hb))
  have D0 : Hid (Below W.heap.size W (W.alloc (Obj.cells #[.int .u64 (b.1 : Int), .int .u64 (b.2 : Int)] 26))) := (Below.refl W.heap.size W).alloc (Nat.le_refl _) _
  generalize chE l c w cl z b = E at *
  have hE' : (E == 0) = false := by rw [beq_eq_false_iff_ne]; exact hE
  clear hr hz lz lb h10 h11
  go_enter Try.func17, Try.ntmps17
  go_wp2_with (go_at_call 42; refine (HH.out _ D0.out).mono ?_; rintro e w1 ⟨rfl, hb1⟩; have K1 : Hid (Below W.heap.size W w1) := D0.out.trans (hb1.mono D0.out.size); clear hb1 HH)
  refine bodyPost_ret (v := .tuple #[.slice none 0 0, .int .i64 E]) (by simp [results, Try.results17, go_sem, *]) rfl ⟨rfl, K1.out⟩
set_option maxHeartbeats 8000000 in
set_option maxRecDepth 100000 in
theorem tr_far (l C w : Int) (a z a3 : Option Addr) (cap zcap cap3 : Nat) (cl : List Stp) (zs cs : List (Nat × Nat)) (b : Nat × Nat) (h : ¬ (fwB C w cl.length zs.length ∧ cs.length ≤ 40)) (W : World) :
    Calls Try.prog 5 #[.int .i64 l, .agg #[.int .i64 C, .int .i64 w, .slice a cl.length cap, .slice z zs.length zcap, .int .u64 (b.1 : Int), .int .u64 (b.2 : Int)], .slice a3 cs.length cap3] W fun e w' => e = .returned (.bool true) ∧ Below W.heap.size W w' := by
  have HF := hidC (few22 C w a z cl.length zs.length cap zcap b)
  have AW := hidC awake22
  by_cases hf : fwB C w cl.length zs.length
  · rw [decide_eq_true hf] at HF
    have q4 : 40 < (cs.length : Int) := by
      have : ¬ cs.length ≤ 40 := fun h' => h ⟨hf, h'⟩
      omega
    clear h hf
    go_enter Try.func5, Try.ntmps5
    go_wp2_with (first | (go_at_call 9; refine (HF.out.go _).mono ?_; rintro e w1 ⟨rfl, hb1⟩; have D1 : Hid (Below W.heap.size W w1) := ((Below.refl W.heap.size W).alloc (Nat.le_refl _) _).trans (hb1.mono (by simp)); clear hb1) | (go_at_call 10; refine (AW.out.go _).mono ?_; rintro e w2 ⟨rfl, hb2⟩; have D2 : Hid (Below W.heap.size W w2) := D1.out.trans (hb2.mono D1.out.size); clear hb2))
    go_ret
    exact ⟨rfl, D2.out⟩
  · rw [decide_eq_false hf] at HF
    clear h hf
    go_enter Try.func5, Try.ntmps5
    go_wp2_with (first | (go_at_call 9; refine (HF.out.go _).mono ?_; rintro e w1 ⟨rfl, hb1⟩; have D1 : Hid (Below W.heap.size W w1) := ((Below.refl W.heap.size W).alloc (Nat.le_refl _) _).trans (hb1.mono (by simp)); clear hb1) | (go_at_call 10; refine (AW.out.go _).mono ?_; rintro e w2 ⟨rfl, hb2⟩; have D2 : Hid (Below W.heap.size W w2) := D1.out.trans (hb2.mono D1.out.size); clear hb2))
    go_ret
    exact ⟨rfl, D2.out⟩
set_option maxHeartbeats 20000000 in
set_option maxRecDepth 100000 in
theorem tr_e1 (l C w : Int) (a z a3 : Option Addr) (cap zcap cap3 L Z N : Nat) (cl : List Stp) (zs cs : List (Nat × Nat)) (b : Nat × Nat) (hL : cl.length = L) (hZ : zs.length = Z) (hN : cs.length = N) (hf : fwB C w L Z) (h40 : N ≤ 40) (lz : ltE zs) (lc : ltE cs) (hE : ¬ chE l C w cl zs (0, 0) = 0) (W : World) (hr : ORow W a cl) (hz : ERow W z zs) (hc : ERow W a3 cs) :
    Calls Try.prog 5 #[.int .i64 l, .agg #[.int .i64 C, .int .i64 w, .slice a L cap, .slice z Z zcap, .int .u64 (b.1 : Int), .int .u64 (b.2 : Int)], .slice a3 N cap3] W fun e w' => e = .returned (.bool true) ∧ Below W.heap.size W w' := by
  have HF := hidC (few22 C w a z L Z cap zcap b)
  rw [decide_eq_true hf] at HF
  have AW := hidC awake22
  have q40 : ¬ (40 : Int) < (N : Int) := by omega
  have h210 : L ≤ 210 ∧ Z ≤ 8 := by unfold fwB at hf; omega
  have HR := hidC (fun (v : World) (hb : Below W.heap.size W v) => rref22 a cap cl (by omega) v (hr.below hb))
  have HZ := hidC (fun (v : World) (hb : Below W.heap.size W v) => ref_row z zcap zs (by omega) v (hz.below hb))
  have HC := hidC (fun (v : World) (hb : Below W.heap.size W v) => ref_row a3 cap3 cs (by omega) v (hc.below hb))
  have HM := hidC (fun (v : World) (la za : Option Addr) (lc1 zc1 : Nat) (hO : ORow v la cl) (hz' : ERow v za zs) => rmay22 l C w la za lc1 zc1 cl zs (by omega) (by omega) lz v hO hz')
  rw [hL] at HR HM
  rw [hZ] at HZ HM
  rw [hN] at HC
  have K0 : Hid (Kd W (W.alloc (Obj.cells #[.int .i64 C, .int .i64 w, .slice a L cap, .slice z Z zcap, .int .u64 (b.1 : Int), .int .u64 (b.2 : Int)] 28)) C w a z L cap Z zcap b) := ⟨by simp [go_sem], by simp [go_sem], by simp [go_sem], by simp [go_sem], by simp [go_sem], by simp [go_sem], (Below.refl W.heap.size W).alloc (Nat.le_refl _) _⟩
  have HT := hidC (fun (v : World) (hb : Below W.heap.size W v) => cmtrue_err l C w a z a3 cap zcap cap3 cl zs cs (by omega) (by omega) (by omega) lz lc (by unfold tuE; rw [if_neg hE]; exact hE) v (hr.below hb) (hz.below hb) (hc.below hb))
  rw [show tuE l C w cl zs cs = chE l C w cl zs (0, 0) by unfold tuE; rw [if_neg hE], hL, hZ, hN] at HT
  generalize chE l C w cl zs (0, 0) = E at *
  have hE' : (E == 0) = false := by rw [beq_eq_false_iff_ne]; exact hE
  clear hf h40 h210 lz lc hr hz hc hL hZ hN
  go_enter Try.func5, Try.ntmps5
  go_upto_region 3 with (go_at_call 9; refine (HF.out.go _).mono ?_; rintro e w1 ⟨rfl, hb1⟩; have K1 : Hid (Kd W w1 C w a z L cap Z zcap b) := K0.out.below hb1; clear hb1 K0)
  go_cut [7, 8, 9] (fun s7 s8 s9 wx => ∃ (la za ta : Option Addr) (lc zc tc : Nat), s7 = .slice la L lc ∧ s8 = .slice za Z zc ∧ s9 = .slice ta N tc ∧ Hid (Ke W wx C w a z L cap Z zcap b la za ta cl zs cs))
  case first =>
    have K := K1.out
    clear K1
    refine wp_region_noPanic ?_
    refine wp_region_peel (S := fun v => v.cell? ⟨W.heap.size, 2, none⟩ = some (.slice a L cap) ∧ v.cell? ⟨W.heap.size, 3, none⟩ = some (.slice z Z zcap)) 10 (by kernel_rfl) rfl (by kernel_rfl) ?_ (fun hHeld => ?_)
    · exact ⟨K.c2, K.c3⟩
    refine wpAnyH_take (i := 0) (oi := _) (v := ?_) rfl (by kernel_rfl) (by kernel_rfl) (by kernel_rfl) (fun _ _ _ h => h) (Or.inl ⟨by rfl, ?_⟩) (by assumption) ?_
    rotate_left
    · ((intro w hSw; (try dsimp only at hSw); go_simp) <;> (try with_reducible rfl))
    show wpAnyH _ _ _ _ _ _ _ (Act.put _ (some 29) _) _
    simp only [Act.put, List.setIfInBounds_toArray, List.set_cons_succ, List.set_cons_zero]
    refine wpAnyH_take (i := 1) (oi := _) (v := ?_) rfl (by kernel_rfl) (by kernel_rfl) (by kernel_rfl) (fun _ _ _ h => h) (Or.inl ⟨by rfl, ?_⟩) (by assumption) ?_
    rotate_left
    · ((intro w hSw; (try dsimp only at hSw); go_simp) <;> (try with_reducible rfl))
    show wpAnyH _ _ _ _ _ _ _ (Act.put _ (some 30) _) _
    simp only [Act.put, List.setIfInBounds_toArray, List.set_cons_succ, List.set_cons_zero]
    refine wpAnyH_take (i := 3) (oi := _) (v := ?_) rfl (by kernel_rfl) (by kernel_rfl) (by kernel_rfl) (fun _ _ _ h => h) (Or.inl ⟨by rfl, ?_⟩) (by assumption) ?_
    rotate_left
    · ((intro w hSw; (try dsimp only at hSw); go_simp) <;> (try with_reducible rfl))
    show wpAnyH _ _ _ _ _ _ _ (Act.put _ (some 32) _) _
    simp only [Act.put, List.setIfInBounds_toArray, List.set_cons_succ, List.set_cons_zero]
    refine wpAnyH_take (i := 4) (oi := _) (v := ?_) rfl (by kernel_rfl) (by kernel_rfl) (by kernel_rfl) (fun _ _ _ h => h) (Or.inl ⟨by rfl, ?_⟩) (by assumption) ?_
    rotate_left
    · ((intro w hSw; (try dsimp only at hSw); go_simp) <;> (try with_reducible rfl))
    show wpAnyH _ _ _ _ _ _ _ (Act.put _ (some 33) _) _
    simp only [Act.put, List.setIfInBounds_toArray, List.set_cons_succ, List.set_cons_zero]
    refine wpAnyH_take (i := 6) (oi := _) (v := ?_) rfl (by kernel_rfl) (by kernel_rfl) (by kernel_rfl) (fun _ _ _ h => h) (Or.inl ⟨by rfl, ?_⟩) (by assumption) ?_
    rotate_left
    · ((intro w hSw; (try dsimp only at hSw); go_simp) <;> (try with_reducible rfl))
    show wpAnyH _ _ _ _ _ _ _ (Act.put _ (some 35) _) _
    simp only [Act.put, List.setIfInBounds_toArray, List.set_cons_succ, List.set_cons_zero]
    have K' := K.drew
    clear K
    have K := K'
    clear K'
    generalize w1.drew = wb at *
    refine wpAnyH_ready (rs := [2]) (by kernel_rfl) (by simp) ?_
    refine (AllReadyH.cons (o := _) rfl (fun KK hKK => ?_) AllReadyH.nil)
    · skip
      go_simp
      (go_at_call 13; refine (HR.out _ (by first | exact K.d | exact K.drew.d)).mono ?_; rintro e w' ⟨la, lc, rfl, L7, hb'⟩)
      have K' := Kd.below (w' := w') (by first | exact K | exact K.drew) hb'
      clear hb' K 
      have K := K'
      clear K' 
      refine hKK.out _ _ ?_ (fun hHeld => ?_)
      · exact ⟨K.c2, K.c3⟩
      clear hKK KK
      try simp only [Act.put]
      refine wpAnyH_ready (rs := [5]) (by kernel_rfl) (by simp) ?_
      refine (AllReadyH.cons (o := _) rfl (fun KK hKK => ?_) AllReadyH.nil)
      · skip
        go_simp
        (go_at_call 16; refine (HZ.out _ (by first | exact K.d | exact K.drew.d)).mono ?_; rintro e w' ⟨za, zc, rfl, Z8, hb'⟩)
        have K' := Kd.below (w' := w') (by first | exact K | exact K.drew) hb'
        have L7' := ORow.below (w' := w') (by first | exact L7 | exact L7.below (Below.refl _ _).drew) hb'
        clear hb' K L7
        have K := K'
        have L7 := L7'
        clear K' L7'
        refine hKK.out _ _ ?_ (fun hHeld => ?_)
        · exact ⟨K.c2, K.c3⟩
        clear hKK KK
        try simp only [Act.put]
        refine wpAnyH_ready (rs := [7]) (by kernel_rfl) (by simp) ?_
        refine (AllReadyH.cons (o := _) rfl (fun KK hKK => ?_) AllReadyH.nil)
        · skip
          go_simp
          (go_at_call 16; refine (HC.out _ (by first | exact K.d | exact K.drew.d)).mono ?_; rintro e w' ⟨ta, tc, rfl, T9, hb'⟩)
          have K' := Kd.below (w' := w') (by first | exact K | exact K.drew) hb'
          have L7' := ORow.below (w' := w') (by first | exact L7 | exact L7.below (Below.refl _ _).drew) hb'
          have Z8' := ERow.below (w' := w') (by first | exact Z8 | exact Z8.below (Below.refl _ _).drew) hb'
          clear hb' K L7 Z8
          have K := K'
          have L7 := L7'
          have Z8 := Z8'
          clear K' L7' Z8'
          refine hKK.out _ _ ?_ (fun hHeld => ?_)
          · exact ⟨K.c2, K.c3⟩
          clear hKK KK
          try simp only [Act.put]
          refine wpAnyH_take (i := 8) (oi := _) (v := ?_) rfl (by kernel_rfl) (by kernel_rfl) (by kernel_rfl) (fun _ _ _ h => h) (Or.inl ⟨by rfl, ?_⟩) (by assumption) ?_
          rotate_left
          · ((intro w hSw; (try dsimp only at hSw); go_simp) <;> (try with_reducible rfl))
          show wpAnyH _ _ _ _ _ _ _ (Act.put _ (some 7) _) _
          simp only [Act.put, List.setIfInBounds_toArray, List.set_cons_succ, List.set_cons_zero]
          refine wpAnyH_take (i := 9) (oi := _) (v := ?_) rfl (by kernel_rfl) (by kernel_rfl) (by kernel_rfl) (fun _ _ _ h => h) (Or.inl ⟨by rfl, ?_⟩) (by assumption) ?_
          rotate_left
          · ((intro w hSw; (try dsimp only at hSw); go_simp) <;> (try with_reducible rfl))
          show wpAnyH _ _ _ _ _ _ _ (Act.put _ (some 8) _) _
          simp only [Act.put, List.setIfInBounds_toArray, List.set_cons_succ, List.set_cons_zero]
          refine wpAnyH_done (by kernel_rfl) ?_ _
          refine peel_last rfl (fun KK hKK => ?_)
          clear hHeld
          go_simp
          refine hKK _ _ ?_
          refine NoPanic.normal ?_
          go_wp2_with fail
          go_meet
          exact ⟨la, za, ta, lc, zc, tc, rfl, rfl, rfl, ⟨K, L7, Z8, T9⟩⟩
  case rest =>
    obtain ⟨la, za, ta, lc, zc, tc, rfl, rfl, rfl, K⟩ := hcut
    clear K1 HF HR HZ HC
    obtain ⟨c0, c1, c2, c3, _, _, _⟩ := K.out.k
    go_upto_region 6 with (first
      | (go_at_call 25; refine (HT.out _ K.out.k.d).mono ?_; rintro e w2 ⟨rfl, hb2⟩; have K2 : Hid (Ke W w2 C w a z L cap Z zcap b la za ta cl zs cs) := K.out.below hb2; clear hb2 K c0 c1 c2 c3 HT; obtain ⟨c0, c1, c2, c3, _, _, _⟩ := K2.out.k)
      | (go_at_call 19; refine (HM.out _ _ _ _ _ K2.out.l K2.out.z).mono ?_; rintro e w3 ⟨rfl, hb3⟩; have K3 : Hid (Below W.heap.size W w3) := (K2.out.below hb3).k.d; clear hb3 K2 c0 c1 c2 c3 HM))
    have hd : decide (E = 0) = false := decide_eq_false hE
    go_quiet (fail)
    have D3 : Hid (Below W.heap.size W (w3.drewN nq)) := below_drewC K3.out _
    generalize w3.drewN nq = wq at *
    clear K3
    go_wp2_with (go_at_call 10; refine (AW.out.go _).mono ?_; rintro e w4 ⟨rfl, hb4⟩; have D4 : Hid (Below W.heap.size W w4) := D3.out.trans (hb4.mono D3.out.size); clear hb4)
    go_ret
    refine ⟨?_, D4.out⟩
    simp
end Go.Proofs.Ytejoombhcnldmaa
