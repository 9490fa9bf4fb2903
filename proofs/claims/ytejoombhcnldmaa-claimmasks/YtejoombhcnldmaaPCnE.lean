/- ClaimTrue over the seat's translation: what it does not ask about, and where there is an error. -/
import Derived.Test.YtejoombhcnldmaaPCnC
import Derived.BigQuiet
namespace Go.Proofs.Ytejoombhcnldmaa
open Go.RowKit
open Cb
open Tw (pm)

/-- The case in its box, and what lay there. -/
structure Kd (W w : World) (C ww : Int) (a z : Option Addr) (n cap zn zc : Nat) (b : Nat × Nat) : Prop where
  c0 : w.cell? ⟨W.heap.size, 0, none⟩ = some (.int .i64 C)
  c1 : w.cell? ⟨W.heap.size, 1, none⟩ = some (.int .i64 ww)
  c2 : w.cell? ⟨W.heap.size, 2, none⟩ = some (.slice a n cap)
  c3 : w.cell? ⟨W.heap.size, 3, none⟩ = some (.slice z zn zc)
  c4 : w.cell? ⟨W.heap.size, 4, none⟩ = some (.int .u64 (b.1 : Int))
  c5 : w.cell? ⟨W.heap.size, 5, none⟩ = some (.int .u64 (b.2 : Int))
  d : Below W.heap.size W w
theorem Kd.below {W w w' : World} {C ww : Int} {a z : Option Addr} {n cap zn zc : Nat} {b : Nat × Nat} (h : Kd W w C ww a z n cap zn zc b) (hb : Below w.heap.size w w') : Kd W w' C ww a z n cap zn zc b := ⟨keepc hb h.c0, keepc hb h.c1, keepc hb h.c2, keepc hb h.c3, keepc hb h.c4, keepc hb h.c5, h.d.trans (hb.mono h.d.size)⟩
theorem Kd.drew {W w : World} {C ww : Int} {a z : Option Addr} {n cap zn zc : Nat} {b : Nat × Nat} (h : Kd W w C ww a z n cap zn zc b) : Kd W w.drew C ww a z n cap zn zc b := h.below (Below.refl _ _).drew
/-- The document's own copies beside it. -/
structure Ke (W w : World) (C ww : Int) (a z : Option Addr) (n cap zn zc : Nat) (b : Nat × Nat) (la za ta : Option Addr) (cl : List Stp) (zs cs : List (Nat × Nat)) : Prop where
  k : Kd W w C ww a z n cap zn zc b
  l : ORow w la cl
  z : ERow w za zs
  t : ERow w ta cs
theorem Ke.below {W w w' : World} {C ww : Int} {a z la za ta : Option Addr} {n cap zn zc : Nat} {b : Nat × Nat} {cl : List Stp} {zs cs : List (Nat × Nat)} (h : Ke W w C ww a z n cap zn zc b la za ta cl zs cs) (hb : Below w.heap.size w w') : Ke W w' C ww a z n cap zn zc b la za ta cl zs cs := ⟨h.k.below hb, h.l.below hb, h.z.below hb, h.t.below hb⟩
theorem Ke.drew {W w : World} {C ww : Int} {a z la za ta : Option Addr} {n cap zn zc : Nat} {b : Nat × Nat} {cl : List Stp} {zs cs : List (Nat × Nat)} (h : Ke W w C ww a z n cap zn zc b la za ta cl zs cs) : Ke W w.drew C ww a z n cap zn zc b la za ta cl zs cs := h.below (Below.refl _ _).drew
set_option maxHeartbeats 2000000 in
set_option maxRecDepth 100000 in
theorem cmmask_err (l c w : Int) (a a2 : Option Addr) (cap cap2 : Nat) (cl : List Stp) (z : List (Nat × Nat)) (b : Nat × Nat) (h10 : cl.length ≤ 100000) (h11 : z.length ≤ 100000) (lz : ltE z) (lb : lt2 b) (hE : ¬ chE l c w cl z b = 0) (W : World) (hr : ORow W a cl) (hz : ERow W a2 z) :
    Calls Try.prog 17 #[.int .i64 l, .int .i64 c, .int .i64 w, .slice a cl.length cap, .slice a2 z.length cap2, .agg #[.int .u64 (b.1 : Int), .int .u64 (b.2 : Int)]] W fun e w' => e = .returned (.tuple #[.slice none 0 0, .int .i64 (chE l c w cl z b)]) ∧ Below W.heap.size W w' := by
  have HH := hidC (fun (v : World) (hb : Below W.heap.size W v) => cmhind l c w a a2 cap cap2 cl z b h10 h11 lz lb v (hr.below hb) (hz.below hb))
  have D0 : Hid (Below W.heap.size W (W.alloc (Obj.cells #[.int .u64 (b.1 : Int), .int .u64 (b.2 : Int)] 26))) := (Below.refl W.heap.size W).alloc (Nat.le_refl _) _
  generalize chE l c w cl z b = E at *
  have hE' : (E == 0) = false := by rw [beq_eq_false_iff_ne]; exact hE
  clear hr hz lz lb h10 h11
  go_enter Try.func17, Try.ntmps17
  go_wp2_with (go_at_call 42; refine (HH.out _ D0.out).mono ?_; rintro e w1 ⟨rfl, hb1⟩; have K1 : Hid (Below W.heap.size W w1) := D0.out.trans (hb1.mono D0.out.size); clear hb1 HH)
  refine bodyPost_ret (v := .tuple #[.slice none 0 0, .int .i64 E]) (by simp [results, Try.results17, go_sem, *]) rfl ⟨rfl, K1.out⟩
set_option maxHeartbeats 8000000 in
set_option maxRecDepth 100000 in
theorem tr_far (l C w : Int) (a z a3 : Option Addr) (cap zcap cap3 : Nat) (cl : List Stp) (zs cs : List (Nat × Nat)) (b : Nat × Nat) (h : ¬ (fwB C w cl.length zs.length ∧ cs.length ≤ 40)) (W : World) :
    Calls Try.prog 5 #[.int .i64 l, .agg #[.int .i64 C, .int .i64 w, .slice a cl.length cap, .slice z zs.length zcap, .int .u64 (b.1 : Int), .int .u64 (b.2 : Int)], .slice a3 cs.length cap3] W fun e w' => e = .returned (.bool true) ∧ Below W.heap.size W w' := by
  have HF := hidC (few22 C w a z cl.length zs.length cap zcap b)
  have AW := hidC awake22
  by_cases hf : fwB C w cl.length zs.length
  · rw [decide_eq_true hf] at HF
    have q4 : 40 < (cs.length : Int) := by
      have : ¬ cs.length ≤ 40 := fun h' => h ⟨hf, h'⟩
      omega
    clear h hf
    go_enter Try.func5, Try.ntmps5
    go_wp2_with (first | (go_at_call 9; refine (HF.out.go _).mono ?_; rintro e w1 ⟨rfl, hb1⟩; have D1 : Hid (Below W.heap.size W w1) := ((Below.refl W.heap.size W).alloc (Nat.le_refl _) _).trans (hb1.mono (by simp)); clear hb1) | (go_at_call 10; refine (AW.out.go _).mono ?_; rintro e w2 ⟨rfl, hb2⟩; have D2 : Hid (Below W.heap.size W w2) := D1.out.trans (hb2.mono D1.out.size); clear hb2))
    go_ret
    exact ⟨rfl, D2.out⟩
  · rw [decide_eq_false hf] at HF
    clear h hf
    go_enter Try.func5, Try.ntmps5
    go_wp2_with (first | (go_at_call 9; refine (HF.out.go _).mono ?_; rintro e w1 ⟨rfl, hb1⟩; have D1 : Hid (Below W.heap.size W w1) := ((Below.refl W.heap.size W).alloc (Nat.le_refl _) _).trans (hb1.mono (by simp)); clear hb1) | (go_at_call 10; refine (AW.out.go _).mono ?_; rintro e w2 ⟨rfl, hb2⟩; have D2 : Hid (Below W.heap.size W w2) := D1.out.trans (hb2.mono D1.out.size); clear hb2))
    go_ret
    exact ⟨rfl, D2.out⟩
set_option maxHeartbeats 20000000 in
set_option maxRecDepth 100000 in
theorem tr_e1 (l C w : Int) (a z a3 : Option Addr) (cap zcap cap3 L Z N : Nat) (cl : List Stp) (zs cs : List (Nat × Nat)) (b : Nat × Nat) (hL : cl.length = L) (hZ : zs.length = Z) (hN : cs.length = N) (hf : fwB C w L Z) (h40 : N ≤ 40) (lz : ltE zs) (lc : ltE cs) (hE : ¬ chE l C w cl zs (0, 0) = 0) (W : World) (hr : ORow W a cl) (hz : ERow W z zs) (hc : ERow W a3 cs) :
    Calls Try.prog 5 #[.int .i64 l, .agg #[.int .i64 C, .int .i64 w, .slice a L cap, .slice z Z zcap, .int .u64 (b.1 : Int), .int .u64 (b.2 : Int)], .slice a3 N cap3] W fun e w' => e = .returned (.bool true) ∧ Below W.heap.size W w' := by
  have HF := hidC (few22 C w a z L Z cap zcap b)
  rw [decide_eq_true hf] at HF
  have AW := hidC awake22
  have q40 : ¬ (40 : Int) < (N : Int) := by omega
  have h210 : L ≤ 210 ∧ Z ≤ 8 := by unfold fwB at hf; omega
  have HR := hidC (fun (v : World) (hb : Below W.heap.size W v) => rref22 a cap cl (by omega) v (hr.below hb))
  have HZ := hidC (fun (v : World) (hb : Below W.heap.size W v) => ref_row z zcap zs (by omega) v (hz.below hb))
  have HC := hidC (fun (v : World) (hb : Below W.heap.size W v) => ref_row a3 cap3 cs (by omega) v (hc.below hb))
  have HM := hidC (fun (v : World) (la za : Option Addr) (lc1 zc1 : Nat) (hO : ORow v la cl) (hz' : ERow v za zs) => rmay22 l C w la za lc1 zc1 cl zs (by omega) (by omega) lz v hO hz')
  rw [hL] at HR HM
  rw [hZ] at HZ HM
  rw [hN] at HC
  have K0 : Hid (Kd W (W.alloc (Obj.cells #[.int .i64 C, .int .i64 w, .slice a L cap, .slice z Z zcap, .int .u64 (b.1 : Int), .int .u64 (b.2 : Int)] 28)) C w a z L cap Z zcap b) := ⟨by simp [go_sem], by simp [go_sem], by simp [go_sem], by simp [go_sem], by simp [go_sem], by simp [go_sem], (Below.refl W.heap.size W).alloc (Nat.le_refl _) _⟩
  have HT := hidC (fun (v : World) (hb : Below W.heap.size W v) => cmtrue_err l C w a z a3 cap zcap cap3 cl zs cs (by omega) (by omega) (by omega) lz lc (by unfold tuE; rw [if_neg hE]; exact hE) v (hr.below hb) (hz.below hb) (hc.below hb))
  rw [show tuE l C w cl zs cs = chE l C w cl zs (0, 0) by unfold tuE; rw [if_neg hE], hL, hZ, hN] at HT
  generalize chE l C w cl zs (0, 0) = E at *
  have hE' : (E == 0) = false := by rw [beq_eq_false_iff_ne]; exact hE
  clear hf h40 h210 lz lc hr hz hc hL hZ hN
  go_enter Try.func5, Try.ntmps5
  go_upto_region 3 with (go_at_call 9; refine (HF.out.go _).mono ?_; rintro e w1 ⟨rfl, hb1⟩; have K1 : Hid (Kd W w1 C w a z L cap Z zcap b) := K0.out.below hb1; clear hb1 K0)
  go_cut [7, 8, 9] (fun s7 s8 s9 wx => ∃ (la za ta : Option Addr) (lc zc tc : Nat), s7 = .slice la L lc ∧ s8 = .slice za Z zc ∧ s9 = .slice ta N tc ∧ Hid (Ke W wx C w a z L cap Z zcap b la za ta cl zs cs))
  case first =>
    have K := K1.out
    clear K1
    refine wp_region_noPanic ?_
    refine wp_region_peel (S := fun v => v.cell? ⟨W.heap.size, 2, none⟩ = some (.slice a L cap) ∧ v.cell? ⟨W.heap.size, 3, none⟩ = some (.slice z Z zcap)) 10 (by kernel_rfl) rfl (by kernel_rfl) ?_ (fun hHeld => ?_)
    · exact ⟨K.c2, K.c3⟩
    refine wpAnyH_take (i := 0) (oi := _) (v := ?_) rfl (by kernel_rfl) (by kernel_rfl) (by kernel_rfl) (fun _ _ _ h => h) (Or.inl ⟨by rfl, ?_⟩) (by assumption) ?_
    rotate_left
    · ((intro w hSw; (try dsimp only at hSw); go_simp) <;> (try with_reducible rfl))
    show wpAnyH _ _ _ _ _ _ _ (Act.put _ (some 29) _) _
    simp only [Act.put, List.setIfInBounds_toArray, List.set_cons_succ, List.set_cons_zero]
    refine wpAnyH_take (i := 1) (oi := _) (v := ?_) rfl (by kernel_rfl) (by kernel_rfl) (by kernel_rfl) (fun _ _ _ h => h) (Or.inl ⟨by rfl, ?_⟩) (by assumption) ?_
    rotate_left
    · ((intro w hSw; (try dsimp only at hSw); go_simp) <;> (try with_reducible rfl))
    show wpAnyH _ _ _ _ _ _ _ (Act.put _ (some 30) _) _
    simp only [Act.put, List.setIfInBounds_toArray, List.set_cons_succ, List.set_cons_zero]
    refine wpAnyH_take (i := 3) (oi := _) (v := ?_) rfl (by kernel_rfl) (by kernel_rfl) (by kernel_rfl) (fun _ _ _ h => h) (Or.inl ⟨by rfl, ?_⟩) (by assumption) ?_
    rotate_left
    · ((intro w hSw; (try dsimp only at hSw); go_simp) <;> (try with_reducible rfl))
    show wpAnyH _ _ _ _ _ _ _ (Act.put _ (some 32) _) _
    simp only [Act.put, List.setIfInBounds_toArray, List.set_cons_succ, List.set_cons_zero]
    refine wpAnyH_take (i := 4) (oi := _) (v := ?_) rfl (by kernel_rfl) (by kernel_rfl) (by kernel_rfl) (fun _ _ _ h => h) (Or.inl ⟨by rfl, ?_⟩) (by assumption) ?_
    rotate_left
    · ((intro w hSw; (try dsimp only at hSw); go_simp) <;> (try with_reducible rfl))
    show wpAnyH _ _ _ _ _ _ _ (Act.put _ (some 33) _) _
    simp only [Act.put, List.setIfInBounds_toArray, List.set_cons_succ, List.set_cons_zero]
    refine wpAnyH_take (i := 6) (oi := _) (v := ?_) rfl (by kernel_rfl) (by kernel_rfl) (by kernel_rfl) (fun _ _ _ h => h) (Or.inl ⟨by rfl, ?_⟩) (by assumption) ?_
    rotate_left
    · ((intro w hSw; (try dsimp only at hSw); go_simp) <;> (try with_reducible rfl))
    show wpAnyH _ _ _ _ _ _ _ (Act.put _ (some 35) _) _
    simp only [Act.put, List.setIfInBounds_toArray, List.set_cons_succ, List.set_cons_zero]
    have K' := K.drew
    clear K
    have K := K'
    clear K'
    generalize w1.drew = wb at *
    refine wpAnyH_ready (rs := [2]) (by kernel_rfl) (by simp) ?_
    refine (AllReadyH.cons (o := _) rfl (fun KK hKK => ?_) AllReadyH.nil)
    · skip
      go_simp
      (go_at_call 13; refine (HR.out _ (by first | exact K.d | exact K.drew.d)).mono ?_; rintro e w' ⟨la, lc, rfl, L7, hb'⟩)
      have K' := Kd.below (w' := w') (by first | exact K | exact K.drew) hb'
      clear hb' K 
      have K := K'
      clear K' 
      refine hKK.out _ _ ?_ (fun hHeld => ?_)
      · exact ⟨K.c2, K.c3⟩
      clear hKK KK
      try simp only [Act.put]
      refine wpAnyH_ready (rs := [5]) (by kernel_rfl) (by simp) ?_
      refine (AllReadyH.cons (o := _) rfl (fun KK hKK => ?_) AllReadyH.nil)
      · skip
        go_simp
        (go_at_call 16; refine (HZ.out _ (by first | exact K.d | exact K.drew.d)).mono ?_; rintro e w' ⟨za, zc, rfl, Z8, hb'⟩)
        have K' := Kd.below (w' := w') (by first | exact K | exact K.drew) hb'
        have L7' := ORow.below (w' := w') (by first | exact L7 | exact L7.below (Below.refl _ _).drew) hb'
        clear hb' K L7
        have K := K'
        have L7 := L7'
        clear K' L7'
        refine hKK.out _ _ ?_ (fun hHeld => ?_)
        · exact ⟨K.c2, K.c3⟩
        clear hKK KK
        try simp only [Act.put]
        refine wpAnyH_ready (rs := [7]) (by kernel_rfl) (by simp) ?_
        refine (AllReadyH.cons (o := _) rfl (fun KK hKK => ?_) AllReadyH.nil)
        · skip
          go_simp
          (go_at_call 16; refine (HC.out _ (by first | exact K.d | exact K.drew.d)).mono ?_; rintro e w' ⟨ta, tc, rfl, T9, hb'⟩)
          have K' := Kd.below (w' := w') (by first | exact K | exact K.drew) hb'
          have L7' := ORow.below (w' := w') (by first | exact L7 | exact L7.below (Below.refl _ _).drew) hb'
          have Z8' := ERow.below (w' := w') (by first | exact Z8 | exact Z8.below (Below.refl _ _).drew) hb'
          clear hb' K L7 Z8
          have K := K'
          have L7 := L7'
          have Z8 := Z8'
          clear K' L7' Z8'
          refine hKK.out _ _ ?_ (fun hHeld => ?_)
          · exact ⟨K.c2, K.c3⟩
          clear hKK KK
          try simp only [Act.put]
          refine wpAnyH_take (i := 8) (oi := _) (v := ?_) rfl (by kernel_rfl) (by kernel_rfl) (by kernel_rfl) (fun _ _ _ h => h) (Or.inl ⟨by rfl, ?_⟩) (by assumption) ?_
          rotate_left
          · ((intro w hSw; (try dsimp only at hSw); go_simp) <;> (try with_reducible rfl))
          show wpAnyH _ _ _ _ _ _ _ (Act.put _ (some 7) _) _
          simp only [Act.put, List.setIfInBounds_toArray, List.set_cons_succ, List.set_cons_zero]
          refine wpAnyH_take (i := 9) (oi := _) (v := ?_) rfl (by kernel_rfl) (by kernel_rfl) (by kernel_rfl) (fun _ _ _ h => h) (Or.inl ⟨by rfl, ?_⟩) (by assumption) ?_
          rotate_left
          · ((intro w hSw; (try dsimp only at hSw); go_simp) <;> (try with_reducible rfl))
          show wpAnyH _ _ _ _ _ _ _ (Act.put _ (some 8) _) _
          simp only [Act.put, List.setIfInBounds_toArray, List.set_cons_succ, List.set_cons_zero]
          refine wpAnyH_done (by kernel_rfl) ?_ _
          refine peel_last rfl (fun KK hKK => ?_)
          clear hHeld
          go_simp
          refine hKK _ _ ?_
          refine NoPanic.normal ?_
          go_wp2_with fail
          go_meet
          exact ⟨la, za, ta, lc, zc, tc, rfl, rfl, rfl, ⟨K, L7, Z8, T9⟩⟩
  case rest =>
    obtain ⟨la, za, ta, lc, zc, tc, rfl, rfl, rfl, K⟩ := hcut
    clear K1 HF HR HZ HC
    obtain ⟨c0, c1, c2, c3, _, _, _⟩ := K.out.k
    go_upto_region 6 with (first
      | (go_at_call 25; refine (HT.out _ K.out.k.d).mono ?_; rintro e w2 ⟨rfl, hb2⟩; have K2 : Hid (Ke W w2 C w a z L cap Z zcap b la za ta cl zs cs) := K.out.below hb2; clear hb2 K c0 c1 c2 c3 HT; obtain ⟨c0, c1, c2, c3, _, _, _⟩ := K2.out.k)
      | (go_at_call 19; refine (HM.out _ _ _ _ _ K2.out.l K2.out.z).mono ?_; rintro e w3 ⟨rfl, hb3⟩; have K3 : Hid (Below W.heap.size W w3) := (K2.out.below hb3).k.d; clear hb3 K2 c0 c1 c2 c3 HM))
    have hd : decide (E = 0) = false := decide_eq_false hE
    go_quiet (fail)
    have D3 : Hid (Below W.heap.size W (w3.drewN nq)) := below_drewC K3.out _
    generalize w3.drewN nq = wq at *
    clear K3
    go_wp2_with (go_at_call 10; refine (AW.out.go _).mono ?_; rintro e w4 ⟨rfl, hb4⟩; have D4 : Hid (Below W.heap.size W w4) := D3.out.trans (hb4.mono D3.out.size); clear hb4)
    go_ret
    refine ⟨?_, D4.out⟩
    simp
end Go.Proofs.Ytejoombhcnldmaa

/- ClaimTrue over the seat's translation: where there is no error. -/
namespace Go.Proofs.Ytejoombhcnldmaa
open Go.RowKit
open Cb
open Tw (pm)

theorem chE_b {l c w : Int} {cl : List Stp} {z : List (Nat × Nat)} (b : Nat × Nat) (h : chE l c w cl z (0, 0) = 0) : chE l c w cl z b = if ofB l (b.1 : Int) (b.2 : Int) = true then 0 else 5 := by
  unfold chE at h ⊢
  split at h
  · rename_i h1
    rw [if_pos h1]
    split at h
    · rename_i h2
      rw [if_pos h2]
      split at h
      · rename_i h3
        rw [if_pos h3]
      · rename_i h3
        exact absurd h h3
    · rename_i h2
      exact absurd h h2
  · cases h
theorem cf_zero {l N : Int} {es : List (Nat × Nat)} (h : cfE l N es = 0) : (es.length : Int) = N ∧ (es.all fun e => ofB l (e.1 : Int) (e.2 : Int)) = true := by
  unfold cfE at h
  split at h
  · rename_i h1
    split at h
    · rename_i h2
      exact ⟨h1, h2⟩
    · cases h
  · cases h
set_option maxHeartbeats 40000000 in
set_option maxRecDepth 100000 in
theorem tr_main (l C w : Int) (a z a3 : Option Addr) (cap zcap cap3 L Z N : Nat) (cl : List Stp) (zs cs : List (Nat × Nat)) (b : Nat × Nat) (hL : cl.length = L) (hZ : zs.length = Z) (hN : cs.length = N) (hf : fwB C w L Z) (h40 : N ≤ 40) (lz : ltE zs) (lc : ltE cs) (hcap : N ≤ cap3) (lb : lt2 b) (hE : chE l C w cl zs (0, 0) = 0) (hCF : cfE l ((2 ^ (w.toNat + C.toNat) : Nat) : Int) cs = 0) (W : World) (hr : ORow W a cl) (hz : ERow W z zs) (hc : ERow W a3 cs) :
    Calls Try.prog 5 #[.int .i64 l, .agg #[.int .i64 C, .int .i64 w, .slice a L cap, .slice z Z zcap, .int .u64 (b.1 : Int), .int .u64 (b.2 : Int)], .slice a3 N cap3] W fun e w' => e = .returned (.bool true) ∧ Below W.heap.size W w' := by
  have HF := hidC (few22 C w a z L Z cap zcap b)
  rw [decide_eq_true hf] at HF
  have AW := hidC awake22
  have q40 : ¬ (40 : Int) < (N : Int) := by omega
  have h210 : L ≤ 210 ∧ Z ≤ 8 := by unfold fwB at hf; omega
  have HR := hidC (fun (v : World) (hb : Below W.heap.size W v) => rref22 a cap cl (by omega) v (hr.below hb))
  have HZ := hidC (fun (v : World) (hb : Below W.heap.size W v) => ref_row z zcap zs (by omega) v (hz.below hb))
  have HC := hidC (fun (v : World) (hb : Below W.heap.size W v) => ref_row a3 cap3 cs (by omega) v (hc.below hb))
  have HM := hidC (fun (v : World) (la za : Option Addr) (lc1 zc1 : Nat) (hO : ORow v la cl) (hz' : ERow v za zs) => rmay22 l C w la za lc1 zc1 cl zs (by omega) (by omega) lz v hO hz')
  rw [hL] at HR HM
  rw [hZ] at HZ HM
  rw [hN] at HC
  have K0 : Hid (Kd W (W.alloc (Obj.cells #[.int .i64 C, .int .i64 w, .slice a L cap, .slice z Z zcap, .int .u64 (b.1 : Int), .int .u64 (b.2 : Int)] 28)) C w a z L cap Z zcap b) := ⟨by simp [go_sem], by simp [go_sem], by simp [go_sem], by simp [go_sem], by simp [go_sem], by simp [go_sem], (Below.refl W.heap.size W).alloc (Nat.le_refl _) _⟩
  obtain ⟨m, cn, wn, hm, hl, hcn, hC, hwn, hw, h200, hcl, hzl, oz, _⟩ := ch_zero hE
  obtain ⟨n, hn⟩ : ∃ n, n = 2 ^ wn := ⟨_, rfl⟩
  obtain ⟨P, hP⟩ : ∃ P, P = 2 ^ cn := ⟨_, rfl⟩
  obtain ⟨hc1, hc2⟩ := cf_zero hCF
  have hNN : N = 2 ^ (wn + cn) := by
    rw [hw, hC, Int.toNat_natCast, Int.toNat_natCast] at hc1
    omega
  have oc : ofT m cs := fun e he => by
    have := List.all_eq_true.1 hc2 e he
    rw [hl] at this
    exact this
  have hnP : n * P = N := by rw [hn, hP, hNN, Nat.pow_add]
  have hn0 : 0 < n := by rw [hn]; exact Nat.two_pow_pos _
  have hN0 : 0 < N := by rw [hNN]; exact Nat.two_pow_pos _
  have hkk : ∀ i, i < cl.length → (cl.getD i zst).k.toNat * n + n ≤ N := fun i hi => by
    obtain ⟨⟨k0, k1⟩, _⟩ := hcl i hi
    have h1 : (cl.getD i zst).k.toNat + 1 ≤ P := by rw [← hP] at k1; omega
    have h2 := Nat.mul_le_mul_right n h1
    rw [Nat.add_mul, Nat.one_mul, Nat.mul_comm P n, hnP] at h2
    exact h2
  obtain ⟨gc, offc, ha3, _⟩ := hc.cells 0 (by omega)
  subst ha3
  have HT := hidC (fun (v : World) (hb : Below W.heap.size W v) => cmtrue m cn wn n N L a z gc offc cap zcap cap3 cl zs cs hn hNN hL lz lc hN oc hcap (by rw [← hl, ← hC, ← hw]; exact hE) v (hr.below hb) (hz.below hb) (hc.below hb))
  rw [← hl, ← hC, ← hw, hZ, show cl.map (tvv m n zs cs) = tvs m n zs cs cl from rfl] at HT
  have HT1 := hidC (rtwoS wn (by omega))
  rw [← hn, ← hw] at HT1
  have HT2 := hidC (rtwoS cn (by omega))
  rw [← hP, ← hC] at HT2
  have HAl := hidC (fun (v : World) (ta : Option Addr) (tc : Nat) (hO : ERow v ta cs) => trall l ta tc cs lc v hO (by omega))
  rw [hc2, hN] at HAl
  have HDt : Hid (∀ (i : Nat) (v : World) (za ta : Option Addr) (zc tc : Nat), i < L → ERow v za zs → ERow v ta cs → Calls Try.prog 27 #[.int .i64 w, .agg #[.int .i64 (cl.getD i zst).k, .int .i64 (cl.getD i zst).a, .int .i64 (cl.getD i zst).b, .int .u64 ((cl.getD i zst).v.1 : Int), .int .u64 ((cl.getD i zst).v.2 : Int)], .slice za Z zc, .slice ta N tc] v fun e w' => e = .returned (.agg #[.int .u64 (((tvs m n zs cs cl).getD i (0, 0)).1 : Int), .int .u64 (((tvs m n zs cs cl).getD i (0, 0)).2 : Int)]) ∧ Below v.heap.size v w') := by
    intro i v za ta zc tc hi h1 h2
    obtain ⟨⟨k0, k1⟩, ft⟩ := hcl i (by omega)
    have fs := (ftB_true ft).2.1
    have hpw : pw (wn : Int) = (n : Int) := by rw [hn]; rfl
    rw [hpw] at fs
    have hs : (cl.getD i zst).b.toNat < n := by omega
    have t := rtrue22 wn n (cl.getD i zst).k.toNat (cl.getD i zst).b.toNat N (cl.getD i zst).a (cl.getD i zst).v za ta zc tc zs cs hwn hn hN (by rw [Nat.mul_comm]; exact hkk i (by omega)) hs lz lc (by omega) (by omega) v h1 h2
    rw [← tvv_tru hm (by rw [hzl]; exact hn) oz oc _ hs (by rw [hN]; exact hkk i (by omega)), ← tvs_at m n zs cs cl (by omega), Int.toNat_of_nonneg k0, Int.toNat_of_nonneg fs.1, hZ, ← hw] at t
    exact t
  have HMk : ofE m b → Hid (∀ (v : World), Below W.heap.size W v → Calls Try.prog 17 #[.int .i64 l, .int .i64 C, .int .i64 w, .slice a L cap, .slice z Z zcap, .agg #[.int .u64 (b.1 : Int), .int .u64 (b.2 : Int)]] v fun e w' => ∃ g, e = .returned (.tuple #[.slice (some ⟨g, 0, none⟩) N N, .int .i64 0]) ∧ ERow w' (some ⟨g, 0, none⟩) ((List.range N).map (mkI n zs b cl cl.length)) ∧ Below v.heap.size v w') := fun ob v hb => by
    have t := cmmask m cn wn n N a z cap zcap cl zs b hn hNN lz lb (by rw [← hl, ← hC, ← hw, chE_b b hE, hl, if_pos (show ofB (m : Int) (b.1 : Int) (b.2 : Int) = true from ob)]) v (hr.below hb) (hz.below hb)
    rw [← hl, ← hC, ← hw, hL, hZ] at t
    rw [hL]
    exact t
  have HMe : ¬ ofE m b → Hid (∀ (v : World), Below W.heap.size W v → Calls Try.prog 17 #[.int .i64 l, .int .i64 C, .int .i64 w, .slice a L cap, .slice z Z zcap, .agg #[.int .u64 (b.1 : Int), .int .u64 (b.2 : Int)]] v fun e w' => e = .returned (.tuple #[.slice none 0 0, .int .i64 5]) ∧ Below v.heap.size v w') := fun ob v hb => by
    have h5 : chE l C w cl zs b = 5 := by rw [chE_b b hE, hl, if_neg (show ¬ ofB (m : Int) (b.1 : Int) (b.2 : Int) = true from ob)]
    have t := cmmask_err l C w a z cap zcap cl zs b (by omega) (by omega) lz lb (by rw [h5]; decide) v (hr.below hb) (hz.below hb)
    rw [h5, hL, hZ] at t
    exact t
  have hol : (otl cl (tvs m n zs cs cl)).length = L := by rw [otl_len, hL]
  have HTo := hidC (fun (v : World) (oa : Option Addr) (oc' : Nat) (hO : ORow v oa (otl cl (tvs m n zs cs cl))) => cmtot l oa oc' (otl cl (tvs m n zs cs cl)) b (by omega) (ok_otl cl _ (lt_tvs m n zs cs cl)) lb v hO)
  rw [hol] at HTo
  have oall := all_otl hm cl (tvs m n zs cs cl) (of_tvs hm hN oz oc cl hkk)
  have hte : ttE l (otl cl (tvs m n zs cs cl)) b = if ofB (m : Int) (b.1 : Int) (b.2 : Int) = true then 0 else 5 := by
    unfold ttE
    rw [if_pos (by omega), hl, oall]
    rfl
  have htv : ofE m b → ttv l (otl cl (tvs m n zs cs cl)) b = dotv l ((List.range N).map (mkI n zs b cl cl.length)) cs := fun ob => by
    unfold ttv
    rw [hte, if_pos (show ofB (m : Int) (b.1 : Int) (b.2 : Int) = true from ob), if_pos rfl, hl, mask_total hm hN oz oc ob cl hkk, otl_len]
  have HDo : Hid (∀ (v : World) (g : Nat), Below W.heap.size W v → ERow v (some ⟨g, 0, none⟩) ((List.range N).map (mkI n zs b cl cl.length)) → Calls Try.prog 28 #[.int .i64 l, .slice (some ⟨g, 0, none⟩) N N, .slice (some ⟨gc, offc, none⟩) N cap3] v fun e w' => e = .returned (.agg #[.int .u64 ((dotv l ((List.range N).map (mkI n zs b cl cl.length)) cs).1 : Int), .int .u64 ((dotv l ((List.range N).map (mkI n zs b cl cl.length)) cs).2 : Int)]) ∧ Below v.heap.size v w') := by
    intro v g hb hO
    have hlM : ((List.range N).map (mkI n zs b cl cl.length)).length = N := by simp
    have t := dot_any l (some ⟨g, 0, none⟩) (some ⟨gc, offc, none⟩) N cap3 ((List.range N).map (mkI n zs b cl cl.length)) cs (ltE_of fun c hc' => by rw [hlM] at hc'; show lt2 (((List.range N).map (mkI n zs b cl cl.length)).getD c (0, 0)); rw [show ((List.range N).map (mkI n zs b cl cl.length)).getD c (0, 0) = mkI n zs b cl cl.length c by simp [List.getD, hc']]; exact lt_mkI n zs b cl cl.length c) lc (by rw [hlM]; omega) v hO (hc.below hb)
    rw [hlM, hN] at t
    exact t
  have HOT : Hid ((otl cl (tvs m n zs cs cl)).length = L ∧ ∀ i, i < L → (otl cl (tvs m n zs cs cl)).getD i zst = ⟨(cl.getD i zst).k, (cl.getD i zst).a, (cl.getD i zst).b, (tvs m n zs cs cl).getD i (0, 0)⟩) := ⟨hol, fun i hi => otl_at cl _ (by omega)⟩
  have HRW : Hid (ORow W a cl ∧ cl.length = L ∧ (tvs m n zs cs cl).length = L) := ⟨hr, hL, by rw [← hL]; simp [tvs]⟩
  have e6 : IntKind.i64.wrap ((n : Int) * (P : Int)) = (N : Int) := by rw [IntKind.wrap_i64, ← Int.natCast_mul, hnP]; omega
  obtain ⟨i0, hi0, hz0, hz1, hz2⟩ := info_clm
  have HI : Hid (Try.prog.info? 60 = some i0 ∧ i0.zero = some (.agg #[.int .i64 0, .int .i64 0, .int .i64 0, .int .u64 0, .int .u64 0]) ∧ i0.size = 5 ∧ i0.bytes = 40) := ⟨hi0, hz0, hz1, hz2⟩
  rw [hE] at HM
  have HOB : Hid ((ofE m b → ttv l (otl cl (tvs m n zs cs cl)) b = dotv l ((List.range N).map (mkI n zs b cl cl.length)) cs) ∧ ttE l (otl cl (tvs m n zs cs cl)) b = if ofB (m : Int) (b.1 : Int) (b.2 : Int) = true then 0 else 5) := ⟨htv, hte⟩
  have HMM : Hid ((ofE m b → Hid (∀ (v : World), Below W.heap.size W v → Calls Try.prog 17 #[.int .i64 l, .int .i64 C, .int .i64 w, .slice a L cap, .slice z Z zcap, .agg #[.int .u64 (b.1 : Int), .int .u64 (b.2 : Int)]] v fun e w' => ∃ g, e = .returned (.tuple #[.slice (some ⟨g, 0, none⟩) N N, .int .i64 0]) ∧ ERow w' (some ⟨g, 0, none⟩) ((List.range N).map (mkI n zs b cl cl.length)) ∧ Below v.heap.size v w')) ∧ (¬ ofE m b → Hid (∀ (v : World), Below W.heap.size W v → Calls Try.prog 17 #[.int .i64 l, .int .i64 C, .int .i64 w, .slice a L cap, .slice z Z zcap, .agg #[.int .u64 (b.1 : Int), .int .u64 (b.2 : Int)]] v fun e w' => e = .returned (.tuple #[.slice none 0 0, .int .i64 5]) ∧ Below v.heap.size v w'))) := ⟨HMk, HMe⟩
  have hL2 : L ≤ 210 := h210.1
  clear hf h40 h210 lz lc hr hz hc hL hZ hN hl hC hw h200 hcl hzl oz hn hP hc1 hc2 hNN oc hnP hn0 hkk hcap lb hE hCF hm hcn hwn hol oall hte htv HMk HMe hi0 hz0 hz1 hz2 hN0
  generalize (List.range N).map (mkI n zs b cl cl.length) = mk at *
  obtain ⟨vs, hvs⟩ : ∃ vs, vs = tvs m n zs cs cl := ⟨_, rfl⟩
  rw [← hvs] at HT HDt HTo HOT HRW HOB
  clear hvs
  generalize dotv l mk cs = dv at *
  go_enter Try.func5, Try.ntmps5
  go_upto_region 3 with (go_at_call 9; refine (HF.out.go _).mono ?_; rintro e w1 ⟨rfl, hb1⟩; have K1 : Hid (Kd W w1 C w a z L cap Z zcap b) := K0.out.below hb1; clear hb1 K0)
  go_cut [7, 8, 9] (fun s7 s8 s9 wx => ∃ (la za ta : Option Addr) (lc zc tc : Nat), s7 = .slice la L lc ∧ s8 = .slice za Z zc ∧ s9 = .slice ta N tc ∧ Hid (Ke W wx C w a z L cap Z zcap b la za ta cl zs cs))
  case first =>
    have K := K1.out
    clear K1
    refine wp_region_noPanic ?_
    refine wp_region_peel (S := fun v => v.cell? ⟨W.heap.size, 2, none⟩ = some (.slice a L cap) ∧ v.cell? ⟨W.heap.size, 3, none⟩ = some (.slice z Z zcap)) 10 (by kernel_rfl) rfl (by kernel_rfl) ?_ (fun hHeld => ?_)
    · exact ⟨K.c2, K.c3⟩
    refine wpAnyH_take (i := 0) (oi := _) (v := ?_) rfl (by kernel_rfl) (by kernel_rfl) (by kernel_rfl) (fun _ _ _ h => h) (Or.inl ⟨by rfl, ?_⟩) (by assumption) ?_
    rotate_left
    · ((intro w hSw; (try dsimp only at hSw); go_simp) <;> (try with_reducible rfl))
    show wpAnyH _ _ _ _ _ _ _ (Act.put _ (some 29) _) _
    simp only [Act.put, List.setIfInBounds_toArray, List.set_cons_succ, List.set_cons_zero]
    refine wpAnyH_take (i := 1) (oi := _) (v := ?_) rfl (by kernel_rfl) (by kernel_rfl) (by kernel_rfl) (fun _ _ _ h => h) (Or.inl ⟨by rfl, ?_⟩) (by assumption) ?_
    rotate_left
    · ((intro w hSw; (try dsimp only at hSw); go_simp) <;> (try with_reducible rfl))
    show wpAnyH _ _ _ _ _ _ _ (Act.put _ (some 30) _) _
    simp only [Act.put, List.setIfInBounds_toArray, List.set_cons_succ, List.set_cons_zero]
    refine wpAnyH_take (i := 3) (oi := _) (v := ?_) rfl (by kernel_rfl) (by kernel_rfl) (by kernel_rfl) (fun _ _ _ h => h) (Or.inl ⟨by rfl, ?_⟩) (by assumption) ?_
    rotate_left
    · ((intro w hSw; (try dsimp only at hSw); go_simp) <;> (try with_reducible rfl))
    show wpAnyH _ _ _ _ _ _ _ (Act.put _ (some 32) _) _
    simp only [Act.put, List.setIfInBounds_toArray, List.set_cons_succ, List.set_cons_zero]
    refine wpAnyH_take (i := 4) (oi := _) (v := ?_) rfl (by kernel_rfl) (by kernel_rfl) (by kernel_rfl) (fun _ _ _ h => h) (Or.inl ⟨by rfl, ?_⟩) (by assumption) ?_
    rotate_left
    · ((intro w hSw; (try dsimp only at hSw); go_simp) <;> (try with_reducible rfl))
    show wpAnyH _ _ _ _ _ _ _ (Act.put _ (some 33) _) _
    simp only [Act.put, List.setIfInBounds_toArray, List.set_cons_succ, List.set_cons_zero]
    refine wpAnyH_take (i := 6) (oi := _) (v := ?_) rfl (by kernel_rfl) (by kernel_rfl) (by kernel_rfl) (fun _ _ _ h => h) (Or.inl ⟨by rfl, ?_⟩) (by assumption) ?_
    rotate_left
    · ((intro w hSw; (try dsimp only at hSw); go_simp) <;> (try with_reducible rfl))
    show wpAnyH _ _ _ _ _ _ _ (Act.put _ (some 35) _) _
    simp only [Act.put, List.setIfInBounds_toArray, List.set_cons_succ, List.set_cons_zero]
    have K' := K.drew
    clear K
    have K := K'
    clear K'
    generalize w1.drew = wb at *
    refine wpAnyH_ready (rs := [2]) (by kernel_rfl) (by simp) ?_
    refine (AllReadyH.cons (o := _) rfl (fun KK hKK => ?_) AllReadyH.nil)
    · skip
      go_simp
      (go_at_call 13; refine (HR.out _ (by first | exact K.d | exact K.drew.d)).mono ?_; rintro e w' ⟨la, lc, rfl, L7, hb'⟩)
      have K' := Kd.below (w' := w') (by first | exact K | exact K.drew) hb'
      clear hb' K 
      have K := K'
      clear K' 
      refine hKK.out _ _ ?_ (fun hHeld => ?_)
      · exact ⟨K.c2, K.c3⟩
      clear hKK KK
      try simp only [Act.put]
      refine wpAnyH_ready (rs := [5]) (by kernel_rfl) (by simp) ?_
      refine (AllReadyH.cons (o := _) rfl (fun KK hKK => ?_) AllReadyH.nil)
      · skip
        go_simp
        (go_at_call 16; refine (HZ.out _ (by first | exact K.d | exact K.drew.d)).mono ?_; rintro e w' ⟨za, zc, rfl, Z8, hb'⟩)
        have K' := Kd.below (w' := w') (by first | exact K | exact K.drew) hb'
        have L7' := ORow.below (w' := w') (by first | exact L7 | exact L7.below (Below.refl _ _).drew) hb'
        clear hb' K L7
        have K := K'
        have L7 := L7'
        clear K' L7'
        refine hKK.out _ _ ?_ (fun hHeld => ?_)
        · exact ⟨K.c2, K.c3⟩
        clear hKK KK
        try simp only [Act.put]
        refine wpAnyH_ready (rs := [7]) (by kernel_rfl) (by simp) ?_
        refine (AllReadyH.cons (o := _) rfl (fun KK hKK => ?_) AllReadyH.nil)
        · skip
          go_simp
          (go_at_call 16; refine (HC.out _ (by first | exact K.d | exact K.drew.d)).mono ?_; rintro e w' ⟨ta, tc, rfl, T9, hb'⟩)
          have K' := Kd.below (w' := w') (by first | exact K | exact K.drew) hb'
          have L7' := ORow.below (w' := w') (by first | exact L7 | exact L7.below (Below.refl _ _).drew) hb'
          have Z8' := ERow.below (w' := w') (by first | exact Z8 | exact Z8.below (Below.refl _ _).drew) hb'
          clear hb' K L7 Z8
          have K := K'
          have L7 := L7'
          have Z8 := Z8'
          clear K' L7' Z8'
          refine hKK.out _ _ ?_ (fun hHeld => ?_)
          · exact ⟨K.c2, K.c3⟩
          clear hKK KK
          try simp only [Act.put]
          refine wpAnyH_take (i := 8) (oi := _) (v := ?_) rfl (by kernel_rfl) (by kernel_rfl) (by kernel_rfl) (fun _ _ _ h => h) (Or.inl ⟨by rfl, ?_⟩) (by assumption) ?_
          rotate_left
          · ((intro w hSw; (try dsimp only at hSw); go_simp) <;> (try with_reducible rfl))
          show wpAnyH _ _ _ _ _ _ _ (Act.put _ (some 7) _) _
          simp only [Act.put, List.setIfInBounds_toArray, List.set_cons_succ, List.set_cons_zero]
          refine wpAnyH_take (i := 9) (oi := _) (v := ?_) rfl (by kernel_rfl) (by kernel_rfl) (by kernel_rfl) (fun _ _ _ h => h) (Or.inl ⟨by rfl, ?_⟩) (by assumption) ?_
          rotate_left
          · ((intro w hSw; (try dsimp only at hSw); go_simp) <;> (try with_reducible rfl))
          show wpAnyH _ _ _ _ _ _ _ (Act.put _ (some 8) _) _
          simp only [Act.put, List.setIfInBounds_toArray, List.set_cons_succ, List.set_cons_zero]
          refine wpAnyH_done (by kernel_rfl) ?_ _
          refine peel_last rfl (fun KK hKK => ?_)
          clear hHeld
          go_simp
          refine hKK _ _ ?_
          refine NoPanic.normal ?_
          go_wp2_with fail
          go_meet
          exact ⟨la, za, ta, lc, zc, tc, rfl, rfl, rfl, ⟨K, L7, Z8, T9⟩⟩
  case rest =>
    obtain ⟨la, za, ta, lc, zc, tc, rfl, rfl, rfl, K⟩ := hcut
    clear K1 HF HR HZ HC
    obtain ⟨c0, c1, c2, c3, _, _, _⟩ := K.out.k
    go_upto_region 6 with (first
      | (go_at_call 25; refine (HT.out _ K.out.k.d).mono ?_; rintro e w2 ⟨g, rfl, V2, hb2, hg2⟩; have K2 : Hid (Ke W w2 C w a z L cap Z zcap b la za ta cl zs cs ∧ ERow w2 (some ⟨g, 0, none⟩) vs) := ⟨K.out.below hb2, V2⟩; clear hb2 K c0 c1 c2 c3 HT V2 hg2; obtain ⟨c0, c1, c2, c3, _, _, _⟩ := K2.out.1.k)
      | (go_at_call 19; refine (HM.out _ _ _ _ _ K2.out.1.l K2.out.1.z).mono ?_; rintro e w3 ⟨rfl, hb3⟩; have K3 : Hid (Ke W w3 C w a z L cap Z zcap b la za ta cl zs cs ∧ ERow w3 (some ⟨g, 0, none⟩) vs) := ⟨K2.out.1.below hb3, K2.out.2.below hb3⟩; clear hb3 K2 c0 c1 c2 c3 HM))
    obtain ⟨c0, c1, _, _, _, _, _⟩ := K3.out.1.k
    go_quiet ((first | (go_at_call_of 26 (#[.int .i64 w] : Array Value); exact Calls.quiet_of_same (HT1.out _)) | (go_at_call_of 26 (#[.int .i64 C] : Array Value); exact Calls.quiet_of_same (HT2.out _))))
    clear c0 c1
    have K4 : Hid (Ke W (w3.drewN nq) C w a z L cap Z zcap b la za ta cl zs cs ∧ ERow (w3.drewN nq) (some ⟨g, 0, none⟩) vs) := ⟨K3.out.1.below (below_drewC (Below.refl _ _) _), K3.out.2.below (below_drewC (Below.refl _ _) _)⟩
    generalize w3.drewN nq = wq at *
    clear K3 HT1 HT2
    go_wp2_with (go_at_call 23; refine (HAl.out _ _ _ K4.out.1.t).mono ?_; rintro e w5 ⟨rfl, hb5⟩; have K5 : Hid (Ke W w5 C w a z L cap Z zcap b la za ta cl zs cs ∧ ERow w5 (some ⟨g, 0, none⟩) vs) := ⟨K4.out.1.below hb5, K4.out.2.below hb5⟩; clear hb5 K4 HAl)
    go_loopw [13, 14] (fun s u wr => ∃ i : Nat, i ≤ L ∧ u = .int .i64 i ∧ Hid (wr.ownsRow w5.heap.size 60 5 s i (sflC ((otl cl vs).take i)) ∧ Below w5.heap.size w5 wr)) (fun _ u _ => L - (intOf u).toNat)
    case atStart => exact ⟨0, Nat.zero_le _, rfl, ⟨⟨by simp [sflC], .inl ⟨rfl, rfl⟩⟩, Below.refl _ _⟩⟩
    case round =>
      obtain ⟨i, hi, rfl, HO⟩ := hrel
      by_cases hlt : i < L
      · have i1 : (i : Int) < (L : Int) := by omega
        have i2 : (0 : Int) ≤ (i : Int) := by omega
        have KK0 := K5.out.1.below HO.out.2
        have KV0 := K5.out.2.below HO.out.2
        have DW : Hid (Below W.heap.size W wr) := KK0.k.d
        have HS2 : Hid ((otl cl vs).take (i + 1) = (otl cl vs).take i ++ [⟨(cl.getD i zst).k, (cl.getD i zst).a, (cl.getD i zst).b, vs.getD i (0, 0)⟩]) := by
          show _ = _
          rw [take_sC _ i (by rw [HOT.out.1]; exact hlt), HOT.out.2 i hlt]
        have HDi := hidC (fun (v : World) => HDt.out i v za ta zc tc hlt)
        obtain ⟨b0, o0, ea, hb0, d0, d1, d2, d3, d4⟩ := HRW.out.1.cells i (by rw [HRW.out.2.1]; exact hlt)
        subst ea
        have A0 := keepc DW.out d0
        have A1 := keepc DW.out d1
        have A2 := keepc DW.out d2
        have A3 := keepc DW.out d3
        have A4 := keepc DW.out d4
        obtain ⟨b9, o9, e9, hb9, E1, E0⟩ := KV0.cells i (by rw [HRW.out.2.2]; exact hlt)
        injection e9 with e9
        injection e9 with e9a e9b
        subst e9a e9b
        rw [Nat.zero_add] at E1 E0
        obtain ⟨b7, o7, e7, hb7, L0, L1, L2, L3, L4⟩ := KK0.l.cells i (by rw [HRW.out.2.1]; exact hlt)
        subst e7
        have c1 := KK0.k.c1
        have c2 := KK0.k.c2
        clear d0 d1 d2 d3 d4 hb0
        have HK : Hid (Ke W wr C w (some ⟨b0, o0, none⟩) z L cap Z zcap b (some ⟨b7, o7, none⟩) za ta cl zs cs) := KK0
        have hB0 : w5.heap.size ≤ wr.heap.size := HO.out.2.size
        clear KK0 KV0
        generalize cl.getD i zst = p at *
        generalize vs.getD i (0, 0) = y at *
        obtain ⟨k, ki, s, v⟩ := p
        dsimp only at *
        go_upto_region 18 with fail
        refine wp_region_noPanic ?_
        refine wp_region_peel (S := fun x => (x.cell? ⟨W.heap.size, 1, none⟩ = some (.int .i64 w) ∧ x.cell? ⟨g, i * 2, none⟩ = some (.int .u64 (y.1 : Int)) ∧ x.cell? ⟨g, i * 2 + 1, none⟩ = some (.int .u64 (y.2 : Int))) ∧ x.cell? ⟨b7, o7 + i * 5, none⟩ = some (.int .i64 k) ∧ x.cell? ⟨b7, o7 + i * 5 + 1, none⟩ = some (.int .i64 ki) ∧ x.cell? ⟨b7, o7 + i * 5 + 2, none⟩ = some (.int .i64 s) ∧ x.cell? ⟨b7, o7 + i * 5 + 3, none⟩ = some (.int .u64 (v.1 : Int)) ∧ x.cell? ⟨b7, o7 + i * 5 + 4, none⟩ = some (.int .u64 (v.2 : Int))) 13 (by kernel_rfl) rfl (by kernel_rfl) ?_ (fun hHeld => ?_)
        · exact ⟨⟨c1, E1, E0⟩, L0, L1, L2, L3, L4⟩
        refine wpAnyH_take (i := 0) (oi := _) (v := ?_) rfl (by kernel_rfl) (by kernel_rfl) (by kernel_rfl) (fun _ _ _ h => h) (Or.inl ⟨by rfl, ?_⟩) (by assumption) ?_
        rotate_left
        · ((intro w hSw; (try dsimp only at hSw); go_simp) <;> (try with_reducible rfl))
        show wpAnyH _ _ _ _ _ _ _ (Act.put _ (some 109) _) _
        simp only [Act.put, List.setIfInBounds_toArray, List.set_cons_succ, List.set_cons_zero]
        refine wpAnyH_take (i := 1) (oi := _) (v := ?_) rfl (by kernel_rfl) (by kernel_rfl) (by kernel_rfl) (fun _ _ _ h => h) (Or.inl ⟨by rfl, ?_⟩) (by assumption) ?_
        rotate_left
        · ((intro w hSw; (try dsimp only at hSw); go_simp) <;> (try with_reducible rfl))
        show wpAnyH _ _ _ _ _ _ _ (Act.put _ (some 110) _) _
        simp only [Act.put, List.setIfInBounds_toArray, List.set_cons_succ, List.set_cons_zero]
        refine wpAnyH_take (i := 2) (oi := _) (v := ?_) rfl (by kernel_rfl) (by kernel_rfl) (by kernel_rfl) (fun _ _ _ h => h) (Or.inl ⟨by rfl, ?_⟩) (by assumption) ?_
        rotate_left
        · ((intro w hSw; (try dsimp only at hSw); go_simp) <;> (try with_reducible rfl))
        show wpAnyH _ _ _ _ _ _ _ (Act.put _ (some 111) _) _
        simp only [Act.put, List.setIfInBounds_toArray, List.set_cons_succ, List.set_cons_zero]
        refine wpAnyH_take (i := 3) (oi := _) (v := ?_) rfl (by kernel_rfl) (by kernel_rfl) (by kernel_rfl) (fun _ _ _ h => h) (Or.inl ⟨by rfl, ?_⟩) (by assumption) ?_
        rotate_left
        · ((intro w hSw; (try dsimp only at hSw); go_simp) <;> (try with_reducible rfl))
        show wpAnyH _ _ _ _ _ _ _ (Act.put _ (some 112) _) _
        simp only [Act.put, List.setIfInBounds_toArray, List.set_cons_succ, List.set_cons_zero]
        refine wpAnyH_take (i := 4) (oi := _) (v := ?_) rfl (by kernel_rfl) (by kernel_rfl) (by kernel_rfl) (fun _ _ _ h => h) (Or.inl ⟨by rfl, ?_⟩) (by assumption) ?_
        rotate_left
        · ((intro w hSw; (try dsimp only at hSw); go_simp) <;> (try with_reducible rfl))
        show wpAnyH _ _ _ _ _ _ _ (Act.put _ (some 113) _) _
        simp only [Act.put, List.setIfInBounds_toArray, List.set_cons_succ, List.set_cons_zero]
        refine wpAnyH_take (i := 5) (oi := _) (v := ?_) rfl (by kernel_rfl) (by kernel_rfl) (by kernel_rfl) (fun _ _ _ h => h) (Or.inl ⟨by rfl, ?_⟩) (by assumption) ?_
        rotate_left
        · ((intro w hSw; (try dsimp only at hSw); go_simp) <;> (try with_reducible rfl))
        show wpAnyH _ _ _ _ _ _ _ (Act.put _ (some 114) _) _
        simp only [Act.put, List.setIfInBounds_toArray, List.set_cons_succ, List.set_cons_zero]
        refine wpAnyH_take (i := 6) (oi := _) (v := ?_) rfl (by kernel_rfl) (by kernel_rfl) (by kernel_rfl) (fun _ _ _ h => h) (Or.inl ⟨by rfl, ?_⟩) (by assumption) ?_
        rotate_left
        · ((intro w hSw; (try dsimp only at hSw); go_simp) <;> (try with_reducible rfl))
        show wpAnyH _ _ _ _ _ _ _ (Act.put _ (some 115) _) _
        simp only [Act.put, List.setIfInBounds_toArray, List.set_cons_succ, List.set_cons_zero]
        refine wpAnyH_take (i := 7) (oi := _) (v := ?_) rfl (by kernel_rfl) (by kernel_rfl) (by kernel_rfl) (fun _ _ _ h => h) (Or.inl ⟨by rfl, ?_⟩) (by assumption) ?_
        rotate_left
        · ((intro w hSw; (try dsimp only at hSw); go_simp) <;> (try with_reducible rfl))
        show wpAnyH _ _ _ _ _ _ _ (Act.put _ (some 116) _) _
        simp only [Act.put, List.setIfInBounds_toArray, List.set_cons_succ, List.set_cons_zero]
        refine wpAnyH_take (i := 8) (oi := _) (v := ?_) rfl (by kernel_rfl) (by kernel_rfl) (by kernel_rfl) (fun _ _ _ h => h) (Or.inl ⟨by rfl, ?_⟩) (by assumption) ?_
        rotate_left
        · ((intro w hSw; (try dsimp only at hSw); go_simp) <;> (try with_reducible rfl))
        show wpAnyH _ _ _ _ _ _ _ (Act.put _ (some 117) _) _
        simp only [Act.put, List.setIfInBounds_toArray, List.set_cons_succ, List.set_cons_zero]
        refine wpAnyH_take (i := 9) (oi := _) (v := ?_) rfl (by kernel_rfl) (by kernel_rfl) (by kernel_rfl) (fun _ _ _ h => h) (Or.inl ⟨by rfl, ?_⟩) (by assumption) ?_
        rotate_left
        · ((intro w hSw; (try dsimp only at hSw); go_simp) <;> (try with_reducible rfl))
        show wpAnyH _ _ _ _ _ _ _ (Act.put _ (some 118) _) _
        simp only [Act.put, List.setIfInBounds_toArray, List.set_cons_succ, List.set_cons_zero]
        refine wpAnyH_take (i := 10) (oi := _) (v := ?_) rfl (by kernel_rfl) (by kernel_rfl) (by kernel_rfl) (fun _ _ _ h => h) (Or.inl ⟨by rfl, ?_⟩) (by assumption) ?_
        rotate_left
        · ((intro w hSw; (try dsimp only at hSw); go_simp) <;> (try with_reducible rfl))
        show wpAnyH _ _ _ _ _ _ _ (Act.put _ (some 119) _) _
        simp only [Act.put, List.setIfInBounds_toArray, List.set_cons_succ, List.set_cons_zero]
        refine wpAnyH_take (i := 11) (oi := _) (v := ?_) rfl (by kernel_rfl) (by kernel_rfl) (by kernel_rfl) (fun _ _ _ h => h) (Or.inl ⟨by rfl, ?_⟩) (by assumption) ?_
        rotate_left
        · ((intro w hSw; (try dsimp only at hSw); go_simp) <;> (try with_reducible rfl))
        show wpAnyH _ _ _ _ _ _ _ (Act.put _ (some 120) _) _
        simp only [Act.put, List.setIfInBounds_toArray, List.set_cons_succ, List.set_cons_zero]
        refine wpAnyH_ready (rs := [12]) (by kernel_rfl) (by simp) ?_
        refine AllReadyH.cons (o := _) rfl (fun KK hKK => ?_) AllReadyH.nil
        go_simp
        (go_at_call 27; refine (HDi.out _ (by first | exact HK.out.z | exact HK.out.drew.z) (by first | exact HK.out.t | exact HK.out.drew.t)).mono ?_; rintro e w6 ⟨rfl, hb6⟩)
        have hb6' : Below wr.heap.size wr w6 := by first | exact hb6 | exact (Below.refl _ _).drew.trans (hb6.mono (by simp))
        clear hb6
        have KQ : Hid (Below w5.heap.size w5 w6 ∧ w6.ownsRow w5.heap.size 60 5 u13 i (sflC ((otl cl vs).take i))) := ⟨HO.out.2.trans (hb6'.mono HO.out.2.size), own_below HO.out.1 hb6'⟩
        have A0' := keepc hb6' A0
        have A1' := keepc hb6' A1
        have A2' := keepc hb6' A2
        have A3' := keepc hb6' A3
        have A4' := keepc hb6' A4
        have E1' := keepc hb6' E1
        have E0' := keepc hb6' E0
        have c1' := keepc hb6' c1
        have c2' := keepc hb6' c2
        have L0' := keepc hb6' L0
        have L1' := keepc hb6' L1
        have L2' := keepc hb6' L2
        have L3' := keepc hb6' L3
        have L4' := keepc hb6' L4
        have hbx : b0 < w6.heap.size := cell_lt A0'
        have hbx3 : g < w6.heap.size := cell_lt E1'
        have hBx : w5.heap.size ≤ w6.heap.size := KQ.out.1.size
        have hWx : W.heap.size < w6.heap.size := cell_lt c1'
        clear A0 A1 A2 A3 A4 E1 E0 c1 c2 L0 L1 L2 L3 L4 hb6' HO HK hb9 hb7 hB0
        refine hKK.out _ _ ?_ (fun hHeld => ?_)
        · exact ⟨⟨c1', E1', E0'⟩, L0', L1', L2', L3', L4'⟩
        clear hKK KK L0' L1' L2' L3' L4' c1'
        try simp only [Act.put]
        refine wpAnyH_done (by kernel_rfl) ?_ _
        refine peel_last rfl (fun KK hKK => ?_)
        clear hHeld
        go_simp
        refine hKK _ _ ?_
        refine NoPanic.normal ?_
        clear hKK KK
        go_wp2_with (at_builtin; refine wpList_append_own _ rfl _ _ 22 rfl w5.heap.size 60 i0 (.agg #[.int .i64 0, .int .i64 0, .int .i64 0, .int .u64 0, .int .u64 0]) 5 40 Try.underlying22 HI.out.1 HI.out.2.1 HI.out.2.2.1 HI.out.2.2.2 rfl (by decide) _ _ _ rfl (own_below KQ.out.2 (by go_grown)) ⟨w6.heap.size + 1, 0, none⟩ 1 1 [.int .i64 k, .int .i64 ki, .int .i64 s, .int .u64 (y.1 : Int), .int .u64 (y.2 : Int)] (by first | rfl | (simp [go_sem]; done)) rfl (fun p u hu => by rcases p with _ | _ | _ | _ | _ | p <;> simp at hu <;> subst hu <;> simp [go_sem]) (by intro u hu; simp at hu; rcases hu with rfl | rfl | rfl | rfl | rfl <;> rfl) (by simp only [maxLen]; omega) (by omega) (by simp; omega) ?_; intro v' w7 hown' hgr _)
        refine ⟨⟨i + 1, hlt, by simp, ⟨?_, ?_⟩⟩, by simp [intOf]; omega⟩
        · rw [HS2.out, sflC_snoc]; exact hown'
        · exact Below.grown (by go_grown; exact KQ.out.1) hgr (by simp; omega) fun k hk => (KQ.out.2.lt k hk).1
      · obtain rfl : i = L := by omega
        have h := HO.out.1
        rw [List.take_of_length_le (by rw [HOT.out.1]; exact Nat.le_refl _)] at h
        obtain ⟨oa, oc, rfl, OR0⟩ := own_clm HOT.out.1 h
        have K6 : Hid (Kd W wr C w a z i cap Z zcap b ∧ ORow wr oa (otl cl vs)) := ⟨(K5.out.1.below HO.out.2).k, OR0⟩
        clear HO K5 HOT HRW HDt HI OR0 h hi hlt
        obtain ⟨c0, c1, c2, c3, c4, c5, _⟩ := K6.out.1
        by_cases ob : ofE m b
        · have HMk := HMM.out.1 ob
          have e1 := HOB.out.2
          have e2 := HOB.out.1 ob
          rw [if_pos (show ofB (m : Int) (b.1 : Int) (b.2 : Int) = true from ob)] at e1
          rw [e1, e2] at HTo
          clear HMM HOB e1 e2 ob
          go_upto_region 27 with (first
            | (go_at_call 17; refine (HMk.out _ K6.out.1.d).mono ?_; rintro e w7 ⟨g2, rfl, M7, hb7⟩; have K7 : Hid ((Kd W w7 C w a z i cap Z zcap b ∧ ORow w7 oa (otl cl vs)) ∧ ERow w7 (some ⟨g2, 0, none⟩) mk) := ⟨⟨K6.out.1.below hb7, K6.out.2.below hb7⟩, M7⟩; clear hb7 M7 K6 c0 c1 c2 c3 c4 c5 HMk; obtain ⟨c0, c1, c2, c3, c4, c5, _⟩ := K7.out.1.1)
            | (go_at_call 11; refine (HTo.out _ _ _ K7.out.1.2).mono ?_; rintro e w8 ⟨rfl, hb8⟩; have K8 : Hid (Below W.heap.size W w8 ∧ ERow w8 (some ⟨g2, 0, none⟩) mk) := ⟨(K7.out.1.1.below hb8).d, K7.out.2.below hb8⟩; clear hb8 K7 c0 c1 c2 c3 c4 c5 HTo))
          have hW8 := K8.out.1.size
          have K9 : Below W.heap.size W (w8.alloc (Obj.cells #[.int .u64 (dv.1 : Int), .int .u64 (dv.2 : Int)] 26)) ∧ ERow (w8.alloc (Obj.cells #[.int .u64 (dv.1 : Int), .int .u64 (dv.2 : Int)] 26)) (some ⟨g2, 0, none⟩) mk ∧ El (w8.alloc (Obj.cells #[.int .u64 (dv.1 : Int), .int .u64 (dv.2 : Int)] 26)) w8.heap.size dv.1 dv.2 := ⟨K8.out.1.alloc K8.out.1.size _, K8.out.2.below ((Below.refl _ _).alloc (Nat.le_refl _) _), by simp [go_sem], by simp [go_sem]⟩
          clear K8 hW8
          generalize w8.alloc (Obj.cells #[.int .u64 (dv.1 : Int), .int .u64 (dv.2 : Int)] 26) = v9 at *
          generalize w8.heap.size = q9 at *
          refine wp_region_noPanic ?_
          refine wp_region_peel (S := fun x => x.cell? ⟨q9, 0, none⟩ = some (.int .u64 (dv.1 : Int)) ∧ x.cell? ⟨q9, 1, none⟩ = some (.int .u64 (dv.2 : Int))) 9 (by kernel_rfl) rfl (by kernel_rfl) ?_ (fun hHeld => ?_)
          · exact ⟨K9.2.2.hi, K9.2.2.lo⟩
          refine wpAnyH_ready (rs := [0]) (by kernel_rfl) (by simp) ?_
          refine AllReadyH.cons (o := _) rfl (fun KK hKK => ?_) AllReadyH.nil
          go_simp
          (go_at_call 10; refine (AW.out.go _).mono ?_; rintro e w10 ⟨rfl, hb10⟩)
          have K10 : Below W.heap.size W w10 ∧ ERow w10 (some ⟨g2, 0, none⟩) mk ∧ El w10 q9 dv.1 dv.2 := by
            first
              | exact ⟨K9.1.trans (hb10.mono K9.1.size), K9.2.1.below hb10, K9.2.2.below hb10⟩
              | exact ⟨K9.1.drew.trans (hb10.mono K9.1.drew.size), (K9.2.1.below (Below.refl _ _).drew).below hb10, K9.2.2.drew.below hb10⟩
          clear K9 hb10
          refine hKK.out _ _ ?_ (fun hHeld => ?_)
          · exact ⟨K10.2.2.hi, K10.2.2.lo⟩
          clear hKK KK
          try simp only [Act.put]
          refine wpAnyH_take (i := 1) (oi := _) (v := ?_) rfl (by kernel_rfl) (by kernel_rfl) (by kernel_rfl) (fun _ _ _ h => h) (Or.inl ⟨by rfl, ?_⟩) (by assumption) ?_
          rotate_left
          · ((intro w hSw; (try dsimp only at hSw); go_simp) <;> (try with_reducible rfl))
          show wpAnyH _ _ _ _ _ _ _ (Act.put _ (some 173) _) _
          simp only [Act.put, List.setIfInBounds_toArray, List.set_cons_succ, List.set_cons_zero]
          refine wpAnyH_take (i := 2) (oi := _) (v := ?_) rfl (by kernel_rfl) (by kernel_rfl) (by kernel_rfl) (fun _ _ _ h => h) (Or.inl ⟨by rfl, ?_⟩) (by assumption) ?_
          rotate_left
          · ((intro w hSw; (try dsimp only at hSw); go_simp) <;> (try with_reducible rfl))
          show wpAnyH _ _ _ _ _ _ _ (Act.put _ (some 174) _) _
          simp only [Act.put, List.setIfInBounds_toArray, List.set_cons_succ, List.set_cons_zero]
          refine wpAnyH_take (i := 3) (oi := _) (v := ?_) rfl (by kernel_rfl) (by kernel_rfl) (by kernel_rfl) (fun _ _ _ h => h) (Or.inl ⟨by rfl, ?_⟩) (by assumption) ?_
          rotate_left
          · ((intro w hSw; (try dsimp only at hSw); go_simp) <;> (try with_reducible rfl))
          show wpAnyH _ _ _ _ _ _ _ (Act.put _ (some 175) _) _
          simp only [Act.put, List.setIfInBounds_toArray, List.set_cons_succ, List.set_cons_zero]
          refine wpAnyH_take (i := 4) (oi := _) (v := ?_) rfl (by kernel_rfl) (by kernel_rfl) (by kernel_rfl) (fun _ _ _ h => h) (Or.inl ⟨by rfl, ?_⟩) (by assumption) ?_
          rotate_left
          · ((intro w hSw; (try dsimp only at hSw); go_simp) <;> (try with_reducible rfl))
          show wpAnyH _ _ _ _ _ _ _ (Act.put _ (some 176) _) _
          simp only [Act.put, List.setIfInBounds_toArray, List.set_cons_succ, List.set_cons_zero]
          refine wpAnyH_take (i := 6) (oi := _) (v := ?_) rfl (by kernel_rfl) (by kernel_rfl) (by kernel_rfl) (fun _ _ _ h => h) (Or.inl ⟨by rfl, ?_⟩) (by assumption) ?_
          rotate_left
          · ((intro w hSw; (try dsimp only at hSw); go_simp) <;> (try with_reducible rfl))
          show wpAnyH _ _ _ _ _ _ _ (Act.put _ (some 178) _) _
          simp only [Act.put, List.setIfInBounds_toArray, List.set_cons_succ, List.set_cons_zero]
          refine wpAnyH_ready (rs := [5]) (by kernel_rfl) (by simp) ?_
          refine AllReadyH.cons (o := _) rfl (fun KK hKK => ?_) AllReadyH.nil
          go_simp
          (go_at_call 28; refine (HDo.out _ _ (by first | exact K10.1 | exact K10.1.drew) (by first | exact K10.2.1 | exact K10.2.1.below (Below.refl _ _).drew)).mono ?_; rintro e w11 ⟨rfl, hb11⟩)
          have K11 : Below W.heap.size W w11 ∧ El w11 q9 dv.1 dv.2 := by
            first
              | exact ⟨K10.1.trans (hb11.mono K10.1.size), K10.2.2.below hb11⟩
              | exact ⟨K10.1.drew.trans (hb11.mono K10.1.drew.size), K10.2.2.drew.below hb11⟩
          clear K10 hb11
          refine hKK.out _ _ ?_ (fun hHeld => ?_)
          · exact ⟨K11.2.hi, K11.2.lo⟩
          clear hKK KK
          try simp only [Act.put]
          refine wpAnyH_take (i := 7) (oi := _) (v := ?_) rfl (by kernel_rfl) (by kernel_rfl) (by kernel_rfl) (fun _ _ _ h => h) (Or.inl ⟨by rfl, ?_⟩) (by assumption) ?_
          rotate_left
          · ((intro w hSw; (try dsimp only at hSw); go_simp) <;> (try with_reducible rfl))
          show wpAnyH _ _ _ _ _ _ _ (Act.put _ (some 179) _) _
          simp only [Act.put, List.setIfInBounds_toArray, List.set_cons_succ, List.set_cons_zero]
          refine wpAnyH_take (i := 8) (oi := _) (v := ?_) rfl (by kernel_rfl) (by kernel_rfl) (by kernel_rfl) (fun _ _ _ h => h) (Or.inl ⟨by rfl, ?_⟩) (by assumption) ?_
          rotate_left
          · ((intro w hSw; (try dsimp only at hSw); go_simp) <;> (try with_reducible rfl))
          show wpAnyH _ _ _ _ _ _ _ (Act.put _ (some 180) _) _
          simp only [Act.put, List.setIfInBounds_toArray, List.set_cons_succ, List.set_cons_zero]
          refine wpAnyH_done (by kernel_rfl) ?_ _
          refine peel_last rfl (fun KK hKK => ?_)
          clear hHeld
          go_simp
          refine hKK _ _ ?_
          refine NoPanic.normal ?_
          clear hKK KK
          have D11 : Hid (Below W.heap.size W w11) := K11.1
          clear K11
          go_wp2
          go_ret
          exact ⟨by first | rfl | simp, by first | exact D11.out | exact D11.out.drew⟩
        · have HMe := HMM.out.2 ob
          have e1 := HOB.out.2
          rw [if_neg (show ¬ ofB (m : Int) (b.1 : Int) (b.2 : Int) = true from ob)] at e1
          rw [e1] at HTo
          clear HMM HOB e1 ob
          generalize ttv l (otl cl vs) b = tv at *
          go_wp2_with (first
            | (go_at_call 17; refine (HMe.out _ K6.out.1.d).mono ?_; rintro e w7 ⟨rfl, hb7⟩; have K7 : Hid (Kd W w7 C w a z i cap Z zcap b ∧ ORow w7 oa (otl cl vs)) := ⟨K6.out.1.below hb7, K6.out.2.below hb7⟩; clear hb7 K6 c0 c1 c2 c3 c4 c5 HMe; obtain ⟨c0, c1, c2, c3, c4, c5, _⟩ := K7.out.1)
            | (go_at_call 11; refine (HTo.out _ _ _ K7.out.2).mono ?_; rintro e w8 ⟨rfl, hb8⟩; have K8 : Hid (Below W.heap.size W w8) := (K7.out.1.below hb8).d; clear hb8 K7 c0 c1 c2 c3 c4 c5 HTo)
            | (go_at_call 10; refine (AW.out.go _).mono ?_; rintro e w9 ⟨rfl, hb9⟩; have K9 : Hid (Below W.heap.size W w9) := (K8.out.alloc K8.out.size _).trans (hb9.mono (K8.out.alloc K8.out.size _).size); clear hb9))
          go_ret
          exact ⟨by first | rfl | simp, K9.out⟩
end Go.Proofs.Ytejoombhcnldmaa
