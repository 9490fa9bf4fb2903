/- ClaimMasks, without the program: the mask's value at a point is what claim.At adds up; claim.At at any point, and its errors. -/
import Derived.Test.YtejoombhcnldmaaPCoD
import Derived.Test.YtejoombhcnldmaaPCnE
import Derived.Test.YtejoombhcnldmaaPCoB
namespace Go.Proofs.Ytejoombhcnldmaa
open Go.RowKit
open Cb
open Tw (pm)

theorem mask_value {m : Nat} (hm : m < 8) {wn cn n N : Nat} (hn : n = 2 ^ wn) (hN : N = 2 ^ (wn + cn)) {z qs : List (Nat × Nat)} (hz : z.length = wn) (hq : qs.length = wn + cn) (lq : ltE qs) (oz : ofT m z) (oq : ofT m qs) (b : Nat × Nat) (cl : List Stp) (hk : ∀ i, i < cl.length → (cl.getD i zst).k.toNat < 2 ^ cn) :
    vl ((List.range N).map (mkI n z b cl cl.length)) qs = ceS b z (qs.take wn) (qs.drop wn) cl cl.length := by
  have hl : ((List.range N).map (mkI n z b cl cl.length)).length = N := by simp
  have hnP : 2 ^ cn * n = N := by rw [hn, hN, Nat.pow_add, Nat.mul_comm]
  have hkk : ∀ i, i < cl.length → (cl.getD i zst).k.toNat * n + n ≤ N := fun i hi => by
    have h2 := Nat.mul_le_mul_right n (hk i hi)
    rw [Nat.succ_mul, hnP] at h2
    exact h2
  have hwl : (Rg.wts qs N).length = N := Rg.wts_len qs N
  unfold vl
  rw [hl]
  have h1 : (xs N fun i => pm (el ((List.range N).map (mkI n z b cl cl.length)) i) (wt qs i)) = xs N fun c => pm (mkI n z b cl cl.length c) (el (Rg.wts qs N) c) := xs_congr N fun c hc => by
    rw [Rg.wts_at qs N hc]
    show pm (((List.range N).map (mkI n z b cl cl.length)).getD c (0, 0)) _ = _
    rw [show ((List.range N).map (mkI n z b cl cl.length)).getD c (0, 0) = mkI n z b cl cl.length c by simp [List.getD, hc]]
  rw [h1, mask_sum hm hwl oz (Rg.of_wts hm oq N) b cl hkk cl.length (Nat.le_refl _)]
  unfold ceS
  refine xs_congr _ fun j hj => ?_
  congr 1
  rw [tvv_xs hm oz (Rg.of_wts hm oq N) _ (by rw [hwl]; exact hkk j hj)]
  unfold ceE
  have hpl : (qs.take wn).length = wn := by rw [List.length_take]; omega
  have h2 : ∀ i, i < n → el (Rg.wts qs N) ((cl.getD j zst).k.toNat * n + i) = pm (wt (qs.take wn) i) (wt (qs.drop wn) (cl.getD j zst).k.toNat) := fun i hi => by
    have hlt : (cl.getD j zst).k.toNat * n + i < N := by have := hkk j hj; omega
    rw [Rg.wts_at qs N hlt]
    have e := Rg.wt_app (qs.take wn) (qs.drop wn) (fun e he => lq e (List.mem_of_mem_drop he)) (x := i) (cl.getD j zst).k.toNat (by rw [hpl, ← hn]; exact hi)
    rw [List.take_append_drop, hpl, ← hn] at e
    rw [← e]
    congr 1
    rw [Nat.mul_comm, Nat.add_comm]
  have h3 : (xs n fun i => pm (sgn (cl.getD j zst).a z (cl.getD j zst).b.toNat i) (el (Rg.wts qs N) ((cl.getD j zst).k.toNat * n + i))) = xs n fun i => pm (pm (sgn (cl.getD j zst).a z (cl.getD j zst).b.toNat i) (wt (qs.take wn) i)) (wt (qs.drop wn) (cl.getD j zst).k.toNat) := xs_congr n fun i hi => by rw [h2 i hi, Tw.pm_assoc']
  rw [h3, ← xs_pm, sgn2_sum, hz, ← hn, Tw.pm_comm']
/-- claim.At, where nothing hinders it. -/
theorem cmat (m cn wn n P L : Nat) (a a2 a3 : Option Addr) (cap cap2 cap3 : Nat) (cl : List Stp) (z qs : List (Nat × Nat)) (b : Nat × Nat) (hn : n = 2 ^ wn) (hP : P = 2 ^ cn) (hL : cl.length = L) (lz : ltE z) (lq : ltE qs) (lb : lt2 b) (hql : qs.length = wn + cn) (oq : ofT m qs) (hcap : wn + cn ≤ cap3) (h0 : a3 = none → cap3 = 0) (hE : chE (m : Int) (cn : Int) (wn : Int) cl z b = 0) (W : World) (hr : ORow W a cl) (hz : ERow W a2 z) (hq : ERow W a3 qs) :
    Calls Try.prog 18 #[.int .i64 (m : Int), .int .i64 (cn : Int), .int .i64 (wn : Int), .slice a L cap, .slice a2 wn cap2, .agg #[.int .u64 (b.1 : Int), .int .u64 (b.2 : Int)], .slice a3 (wn + cn) cap3] W fun e w' => e = .returned (.tuple #[.agg #[.int .u64 ((ceS b z (qs.take wn) (qs.drop wn) cl L).1 : Int), .int .u64 ((ceS b z (qs.take wn) (qs.drop wn) cl L).2 : Int)], .int .i64 0]) ∧ Below W.heap.size W w' := by
  by_cases hcw : cap3 = wn
  · subst hcw
    exact cmat_b m cn cap3 n P L a a2 a3 cap cap2 cl z qs b hn hP hL lz lq lb hql oq hcap hE W hr hz hq
  · rcases a3 with _ | x
    · have := h0 rfl
      omega
    · by_cases hS : wn + cn = 0
      · exact cmat_z m cn wn n P L a a2 x cap cap2 cap3 cl z qs b hn hP hL lz lq lb hql oq hcap hE hcw (by omega) (by omega) W hr hz hq
      · obtain ⟨g, off, e, _⟩ := hq.cells 0 (by omega)
        injection e with e
        subst e
        exact cmat_c m cn wn n P L a a2 g off cap cap2 cap3 cl z qs b hn hP hL lz lq lb hql oq hcap hE hcw W hr hz hq
/-- What hinders claim.At. -/
def taE (l c w : Int) (cl : List Stp) (z qs : List (Nat × Nat)) (b : Nat × Nat) : Int := if chE l c w cl z b = 0 then cfE l (w + c) qs else chE l c w cl z b
set_option maxHeartbeats 2000000 in
set_option maxRecDepth 100000 in
theorem cmat_err (l c w : Int) (a a2 a3 : Option Addr) (cap cap2 cap3 : Nat) (cl : List Stp) (z qs : List (Nat × Nat)) (b : Nat × Nat) (h10 : cl.length ≤ 100000) (h11 : z.length ≤ 100000) (h12 : qs.length ≤ 100000) (lz : ltE z) (lq : ltE qs) (lb : lt2 b) (hE : ¬ taE l c w cl z qs b = 0) (W : World) (hr : ORow W a cl) (hz : ERow W a2 z) (hq : ERow W a3 qs) :
    Calls Try.prog 18 #[.int .i64 l, .int .i64 c, .int .i64 w, .slice a cl.length cap, .slice a2 z.length cap2, .agg #[.int .u64 (b.1 : Int), .int .u64 (b.2 : Int)], .slice a3 qs.length cap3] W fun e w' => e = .returned (.tuple #[.agg #[.int .u64 0, .int .u64 0], .int .i64 (taE l c w cl z qs b)]) ∧ Below W.heap.size W w' := by
  have HH := hidC (fun (v : World) (hb : Below W.heap.size W v) => cmhind l c w a a2 cap cap2 cl z b h10 h11 lz lb v (hr.below hb) (hz.below hb))
  have KB0 : Hid (Ew ((W.alloc (Obj.cells #[.int .u64 (b.1 : Int), .int .u64 (b.2 : Int)] 26)).alloc (Obj.cells #[.int .u64 0, .int .u64 0] 26)) (W.heap.size + 1) 0 0 ∧ Below W.heap.size W ((W.alloc (Obj.cells #[.int .u64 (b.1 : Int), .int .u64 (b.2 : Int)] 26)).alloc (Obj.cells #[.int .u64 0, .int .u64 0] 26))) := ⟨by have h := Ew.roomR (W.alloc (Obj.cells #[.int .u64 (b.1 : Int), .int .u64 (b.2 : Int)] 26)) 26; simpa using h, ((Below.refl W.heap.size W).alloc (Nat.le_refl _) _).alloc (by simp) _⟩
  by_cases h0 : chE l c w cl z b = 0
  · obtain ⟨m, cn, wn, hm, rfl, hcn, rfl, hwn, rfl, hrest⟩ := ch_zero h0
    have ee : taE (m : Int) (cn : Int) (wn : Int) cl z qs b = cfE (m : Int) ((wn : Int) + (cn : Int)) qs := by unfold taE; rw [if_pos h0]
    have e1 : IntKind.i64.wrap ((wn : Int) + (cn : Int)) = (wn : Int) + (cn : Int) := by rw [IntKind.wrap_i64]; omega
    have HF := hidC (fun (v : World) (hb : Below W.heap.size W v) => cmfit (m : Int) ((wn : Int) + (cn : Int)) a3 cap3 qs lq h12 v (hq.below hb))
    rw [ee] at hE ⊢
    rw [h0] at HH
    generalize cfE (m : Int) ((wn : Int) + (cn : Int)) qs = E at *
    have hE' : (E == 0) = false := by rw [beq_eq_false_iff_ne]; exact hE
    clear h0 ee hr hz hq lz lq lb h10 h11 h12 hrest
    go_enter Try.func18, Try.ntmps18
    go_wp2_with (first | (go_at_call 42; refine (HH.out _ KB0.out.2).mono ?_; rintro e w1 ⟨rfl, hb1⟩; have K1 : Hid (Ew w1 (W.heap.size + 1) 0 0 ∧ Below W.heap.size W w1) := ⟨KB0.out.1.below hb1, KB0.out.2.trans (hb1.mono KB0.out.2.size)⟩; clear hb1 HH KB0) | (go_at_call 46; refine (HF.out _ K1.out.2).mono ?_; rintro e w2 ⟨rfl, hb2⟩; have K2 : Hid (Ew w2 (W.heap.size + 1) 0 0 ∧ Below W.heap.size W w2) := ⟨K1.out.1.below hb2, K1.out.2.trans (hb2.mono K1.out.2.size)⟩; clear hb2 HF K1; obtain ⟨⟨r1, r0⟩, f1, f0⟩ := K2.out.1))
    refine bodyPost_ret (v := .tuple #[.agg #[.int .u64 0, .int .u64 0], .int .i64 E]) (by simp [results, Try.results18, go_sem, *]) rfl ⟨rfl, below2 (p := W.heap.size + 1) K2.out.2 (by omega) _ _⟩
  · have ee : taE l c w cl z qs b = chE l c w cl z b := by unfold taE; rw [if_neg h0]
    rw [ee]
    generalize chE l c w cl z b = E at *
    have hE' : (E == 0) = false := by rw [beq_eq_false_iff_ne]; exact h0
    clear ee hE hr hz hq lz lq lb h10 h11 h12
    go_enter Try.func18, Try.ntmps18
    go_wp2_with (go_at_call 42; refine (HH.out _ KB0.out.2).mono ?_; rintro e w1 ⟨rfl, hb1⟩; have K1 : Hid (Ew w1 (W.heap.size + 1) 0 0 ∧ Below W.heap.size W w1) := ⟨KB0.out.1.below hb1, KB0.out.2.trans (hb1.mono KB0.out.2.size)⟩; clear hb1 HH KB0; obtain ⟨⟨r1, r0⟩, f1, f0⟩ := K1.out.1)
    refine bodyPost_ret (v := .tuple #[.agg #[.int .u64 0, .int .u64 0], .int .i64 E]) (by simp [results, Try.results18, go_sem, *]) rfl ⟨rfl, below2 (p := W.heap.size + 1) K1.out.2 (by omega) _ _⟩
end Go.Proofs.Ytejoombhcnldmaa

/- ClaimMasks over the seat's translation: what it does not ask about, and where there is an error. -/
namespace Go.Proofs.Ytejoombhcnldmaa
open Go.RowKit
open Cb
open Tw (pm)

/-- The case, and the document's own copies beside it. -/
structure Kf (W w : World) (C ww : Int) (a z : Option Addr) (n cap zn zc : Nat) (b : Nat × Nat) (la za : Option Addr) (cl : List Stp) (zs : List (Nat × Nat)) : Prop where
  k : Kd W w C ww a z n cap zn zc b
  l : ORow w la cl
  z : ERow w za zs
theorem Kf.below {W w w' : World} {C ww : Int} {a z la za : Option Addr} {n cap zn zc : Nat} {b : Nat × Nat} {cl : List Stp} {zs : List (Nat × Nat)} (h : Kf W w C ww a z n cap zn zc b la za cl zs) (hb : Below w.heap.size w w') : Kf W w' C ww a z n cap zn zc b la za cl zs := ⟨h.k.below hb, h.l.below hb, h.z.below hb⟩
theorem chE_no {l c w : Int} {cl : List Stp} {z : List (Nat × Nat)} (b : Nat × Nat) (h : ¬ chE l c w cl z (0, 0) = 0) : chE l c w cl z b = chE l c w cl z (0, 0) := by
  unfold chE at h ⊢
  by_cases h1 : 0 ≤ l ∧ l ≤ 7
  · rw [if_pos h1] at h
    rw [if_pos h1, if_pos h1]
    by_cases h2 : ckE c w cl = 0
    · rw [if_pos h2] at h
      rw [if_pos h2, if_pos h2]
      by_cases h3 : cfE l w z = 0
      · rw [if_pos h3, if_pos (ofB_zero h1)] at h
        exact absurd rfl h
      · rw [if_neg h3, if_neg h3]
    · rw [if_neg h2, if_neg h2]
  · rw [if_neg h1, if_neg h1]
set_option maxHeartbeats 8000000 in
set_option maxRecDepth 100000 in
theorem ms_far (l C w : Int) (a z a3 : Option Addr) (cap zcap cap3 : Nat) (cl : List Stp) (zs qs : List (Nat × Nat)) (b : Nat × Nat) (h : ¬ (fwB C w cl.length zs.length ∧ qs.length ≤ 8)) (W : World) :
    Calls Try.prog 4 #[.int .i64 l, .agg #[.int .i64 C, .int .i64 w, .slice a cl.length cap, .slice z zs.length zcap, .int .u64 (b.1 : Int), .int .u64 (b.2 : Int)], .slice a3 qs.length cap3] W fun e w' => e = .returned (.bool true) ∧ Below W.heap.size W w' := by
  have HF := hidC (few22 C w a z cl.length zs.length cap zcap b)
  have AW := hidC awake22
  by_cases hf : fwB C w cl.length zs.length
  · rw [decide_eq_true hf] at HF
    have q4 : 8 < (qs.length : Int) := by
      have : ¬ qs.length ≤ 8 := fun h' => h ⟨hf, h'⟩
      omega
    clear h hf
    go_enter Try.func4, Try.ntmps4
    go_wp2_with (first | (go_at_call 9; refine (HF.out.go _).mono ?_; rintro e w1 ⟨rfl, hb1⟩; have D1 : Hid (Below W.heap.size W w1) := ((Below.refl W.heap.size W).alloc (Nat.le_refl _) _).trans (hb1.mono (by simp)); clear hb1) | (go_at_call 10; refine (AW.out.go _).mono ?_; rintro e w2 ⟨rfl, hb2⟩; have D2 : Hid (Below W.heap.size W w2) := D1.out.trans (hb2.mono D1.out.size); clear hb2))
    go_ret
    exact ⟨rfl, D2.out⟩
  · rw [decide_eq_false hf] at HF
    clear h hf
    go_enter Try.func4, Try.ntmps4
    go_wp2_with (first | (go_at_call 9; refine (HF.out.go _).mono ?_; rintro e w1 ⟨rfl, hb1⟩; have D1 : Hid (Below W.heap.size W w1) := ((Below.refl W.heap.size W).alloc (Nat.le_refl _) _).trans (hb1.mono (by simp)); clear hb1) | (go_at_call 10; refine (AW.out.go _).mono ?_; rintro e w2 ⟨rfl, hb2⟩; have D2 : Hid (Below W.heap.size W w2) := D1.out.trans (hb2.mono D1.out.size); clear hb2))
    go_ret
    exact ⟨rfl, D2.out⟩
set_option maxHeartbeats 20000000 in
set_option maxRecDepth 100000 in
theorem ms_e1 (l C w : Int) (a z a3 : Option Addr) (cap zcap cap3 L Z Q : Nat) (cl : List Stp) (zs qs : List (Nat × Nat)) (b : Nat × Nat) (hL : cl.length = L) (hZ : zs.length = Z) (hQ : qs.length = Q) (hf : fwB C w L Z) (h8 : Q ≤ 8) (lz : ltE zs) (lq : ltE qs) (lb : lt2 b) (hE : ¬ chE l C w cl zs (0, 0) = 0) (W : World) (hr : ORow W a cl) (hz : ERow W z zs) (hq : ERow W a3 qs) :
    Calls Try.prog 4 #[.int .i64 l, .agg #[.int .i64 C, .int .i64 w, .slice a L cap, .slice z Z zcap, .int .u64 (b.1 : Int), .int .u64 (b.2 : Int)], .slice a3 Q cap3] W fun e w' => e = .returned (.bool true) ∧ Below W.heap.size W w' := by
  have HF := hidC (few22 C w a z L Z cap zcap b)
  rw [decide_eq_true hf] at HF
  have AW := hidC awake22
  have q8 : ¬ (8 : Int) < (Q : Int) := by omega
  have h210 : L ≤ 210 ∧ Z ≤ 8 := by unfold fwB at hf; omega
  have HR := hidC (fun (v : World) (hb : Below W.heap.size W v) => rref22 a cap cl (by omega) v (hr.below hb))
  have HZ := hidC (fun (v : World) (hb : Below W.heap.size W v) => ref_row z zcap zs (by omega) v (hz.below hb))
  have HM := hidC (fun (v : World) (la za : Option Addr) (lc1 zc1 : Nat) (hO : ORow v la cl) (hz' : ERow v za zs) => rmay22 l C w la za lc1 zc1 cl zs (by omega) (by omega) lz v hO hz')
  rw [hL] at HR HM
  rw [hZ] at HZ HM
  have HOf := hidC (rof_any l b.1 b.2 lb.1 lb.2)
  have K0 : Hid (Kd W (W.alloc (Obj.cells #[.int .i64 C, .int .i64 w, .slice a L cap, .slice z Z zcap, .int .u64 (b.1 : Int), .int .u64 (b.2 : Int)] 28)) C w a z L cap Z zcap b) := ⟨by simp [go_sem], by simp [go_sem], by simp [go_sem], by simp [go_sem], by simp [go_sem], by simp [go_sem], (Below.refl W.heap.size W).alloc (Nat.le_refl _) _⟩
  have hB : chE l C w cl zs b = chE l C w cl zs (0, 0) := chE_no b hE
  have hE0 := hE
  have HMk := hidC (fun (v : World) (hb : Below W.heap.size W v) => cmmask_err l C w a z cap zcap cl zs b (by omega) (by omega) lz lb (by rw [hB]; exact hE0) v (hr.below hb) (hz.below hb))
  rw [hB, hL, hZ] at HMk
  have HAt := hidC (fun (v : World) (hb : Below W.heap.size W v) => cmat_err l C w a z a3 cap zcap cap3 cl zs qs b (by omega) (by omega) (by omega) lz lq lb (by unfold taE; rw [hB, if_neg hE0]; exact hE0) v (hr.below hb) (hz.below hb) (hq.below hb))
  rw [show taE l C w cl zs qs b = chE l C w cl zs (0, 0) by unfold taE; rw [hB, if_neg hE0], hL, hZ, hQ] at HAt
  clear hE
  generalize chE l C w cl zs (0, 0) = E at *
  have hE' : (E == 0) = false := by rw [beq_eq_false_iff_ne]; exact hE0
  clear hf h8 h210 lz lq lb hr hz hq hL hZ hQ hB hE0
  go_enter Try.func4, Try.ntmps4
  go_upto_region 3 with (go_at_call 9; refine (HF.out.go _).mono ?_; rintro e w1 ⟨rfl, hb1⟩; have K1 : Hid (Kd W w1 C w a z L cap Z zcap b) := K0.out.below hb1; clear hb1 K0)
  go_cut [7, 8] (fun s7 s8 wx => ∃ (la za : Option Addr) (lc zc : Nat), s7 = .slice la L lc ∧ s8 = .slice za Z zc ∧ Hid (Kf W wx C w a z L cap Z zcap b la za cl zs))
  case first =>
    have K := K1.out
    clear K1
    refine wp_region_noPanic ?_
    refine wp_region_peel (S := fun v => v.cell? ⟨W.heap.size, 2, none⟩ = some (.slice a L cap) ∧ v.cell? ⟨W.heap.size, 3, none⟩ = some (.slice z Z zcap)) 7 (by kernel_rfl) rfl (by kernel_rfl) ?_ (fun hHeld => ?_)
    · exact ⟨K.c2, K.c3⟩
    refine wpAnyH_take (i := 0) (oi := _) (v := ?_) rfl (by kernel_rfl) (by kernel_rfl) (by kernel_rfl) (fun _ _ _ h => h) (Or.inl ⟨by rfl, ?_⟩) (by assumption) ?_
    rotate_left
    · ((intro w hSw; (try dsimp only at hSw); go_simp) <;> (try with_reducible rfl))
    show wpAnyH _ _ _ _ _ _ _ (Act.put _ (some 23) _) _
    simp only [Act.put, List.setIfInBounds_toArray, List.set_cons_succ, List.set_cons_zero]
    refine wpAnyH_take (i := 1) (oi := _) (v := ?_) rfl (by kernel_rfl) (by kernel_rfl) (by kernel_rfl) (fun _ _ _ h => h) (Or.inl ⟨by rfl, ?_⟩) (by assumption) ?_
    rotate_left
    · ((intro w hSw; (try dsimp only at hSw); go_simp) <;> (try with_reducible rfl))
    show wpAnyH _ _ _ _ _ _ _ (Act.put _ (some 24) _) _
    simp only [Act.put, List.setIfInBounds_toArray, List.set_cons_succ, List.set_cons_zero]
    refine wpAnyH_take (i := 3) (oi := _) (v := ?_) rfl (by kernel_rfl) (by kernel_rfl) (by kernel_rfl) (fun _ _ _ h => h) (Or.inl ⟨by rfl, ?_⟩) (by assumption) ?_
    rotate_left
    · ((intro w hSw; (try dsimp only at hSw); go_simp) <;> (try with_reducible rfl))
    show wpAnyH _ _ _ _ _ _ _ (Act.put _ (some 26) _) _
    simp only [Act.put, List.setIfInBounds_toArray, List.set_cons_succ, List.set_cons_zero]
    refine wpAnyH_take (i := 4) (oi := _) (v := ?_) rfl (by kernel_rfl) (by kernel_rfl) (by kernel_rfl) (fun _ _ _ h => h) (Or.inl ⟨by rfl, ?_⟩) (by assumption) ?_
    rotate_left
    · ((intro w hSw; (try dsimp only at hSw); go_simp) <;> (try with_reducible rfl))
    show wpAnyH _ _ _ _ _ _ _ (Act.put _ (some 27) _) _
    simp only [Act.put, List.setIfInBounds_toArray, List.set_cons_succ, List.set_cons_zero]
    have K' := K.drew
    clear K
    have K := K'
    clear K'
    generalize w1.drew = wb at *
    refine wpAnyH_ready (rs := [2]) (by kernel_rfl) (by simp) ?_
    refine AllReadyH.cons (o := _) rfl (fun KK hKK => ?_) AllReadyH.nil
    go_simp
    (go_at_call 13; refine (HR.out _ K.d).mono ?_; rintro e w' ⟨la, lc, rfl, L7, hb'⟩)
    have K' := K.below hb'
    clear hb' K
    have K := K'
    clear K'
    refine hKK.out _ _ ?_ (fun hHeld => ?_)
    · exact ⟨K.c2, K.c3⟩
    clear hKK KK
    try simp only [Act.put]
    refine wpAnyH_ready (rs := [5]) (by kernel_rfl) (by simp) ?_
    refine AllReadyH.cons (o := _) rfl (fun KK hKK => ?_) AllReadyH.nil
    go_simp
    (go_at_call 16; refine (HZ.out _ K.d).mono ?_; rintro e w' ⟨za, zc, rfl, Z8, hb'⟩)
    have K' := K.below hb'
    have L7' := L7.below hb'
    clear hb' K L7
    have K := K'
    have L7 := L7'
    clear K' L7'
    refine hKK.out _ _ ?_ (fun hHeld => ?_)
    · exact ⟨K.c2, K.c3⟩
    clear hKK KK
    try simp only [Act.put]
    refine wpAnyH_take (i := 6) (oi := _) (v := ?_) rfl (by kernel_rfl) (by kernel_rfl) (by kernel_rfl) (fun _ _ _ h => h) (Or.inl ⟨by rfl, ?_⟩) (by assumption) ?_
    rotate_left
    · ((intro w hSw; (try dsimp only at hSw); go_simp) <;> (try with_reducible rfl))
    show wpAnyH _ _ _ _ _ _ _ (Act.put _ (some 7) _) _
    simp only [Act.put, List.setIfInBounds_toArray, List.set_cons_succ, List.set_cons_zero]
    refine wpAnyH_done (by kernel_rfl) ?_ _
    refine peel_last rfl (fun KK hKK => ?_)
    clear hHeld
    go_simp
    refine hKK _ _ ?_
    refine NoPanic.normal ?_
    go_wp2_with fail
    go_meet
    exact ⟨la, za, lc, zc, rfl, rfl, ⟨K, L7, Z8⟩⟩
  case rest =>
    obtain ⟨la, za, lc, zc, rfl, rfl, K⟩ := hcut
    clear K1 HF HR HZ
    obtain ⟨c0, c1, c2, c3, c4, c5, _⟩ := K.out.k
    go_wp2_with (first
      | (go_at_call 17; refine (HMk.out _ K.out.k.d).mono ?_; rintro e w2 ⟨rfl, hb2⟩; have K2 : Hid (Kf W w2 C w a z L cap Z zcap b la za cl zs) := K.out.below hb2; clear hb2 K HMk; clear c0 c1 c2 c3 c4 c5; obtain ⟨c0, c1, c2, c3, c4, c5, _⟩ := K2.out.k)
      | (go_at_call 18; refine (HAt.out _ K2.out.k.d).mono ?_; rintro e w3 ⟨rfl, hb3⟩; have K3 : Hid (Kf W (w3.alloc (Obj.cells #[.int .u64 0, .int .u64 0] 26)) C w a z L cap Z zcap b la za cl zs ∧ El (w3.alloc (Obj.cells #[.int .u64 0, .int .u64 0] 26)) w3.heap.size 0 0) := ⟨(K2.out.below hb3).below ((Below.refl _ _).alloc (Nat.le_refl _) _), (Ew.roomR w3 _).toEl⟩; clear hb3 K2 HAt; clear c0 c1 c2 c3 c4 c5; obtain ⟨c0, c1, c2, c3, c4, c5, _⟩ := K3.out.1.k)
      | (go_at_call 19; refine (HM.out _ _ _ _ _ K3.out.1.l K3.out.1.z).mono ?_; rintro e w4 ⟨rfl, hb4⟩; have K4 : Hid (Kd W w4 C w a z L cap Z zcap b ∧ El w4 w3.heap.size 0 0) := ⟨K3.out.1.k.below hb4, K3.out.2.below hb4⟩; clear hb4 K3 HM; clear c0 c1 c2 c3 c4 c5; obtain ⟨c0, c1, c2, c3, c4, c5, _⟩ := K4.out.1)
      | (go_at_call 20; refine (HOf.out.go _).mono ?_; rintro e w5 ⟨rfl, hb5⟩; have K5 : Hid (Kd W w5 C w a z L cap Z zcap b ∧ El w5 w3.heap.size 0 0) := ⟨K4.out.1.below hb5, K4.out.2.below hb5⟩; clear hb5 K4 HOf; clear c0 c1 c2 c3 c4 c5)
      | (go_at_call 10; refine (AW.out.go _).mono ?_; rintro e w6 ⟨rfl, hb6⟩; have K6 : Hid (Below W.heap.size W w6 ∧ El w6 w3.heap.size 0 0) := (by first | exact ⟨K5.out.1.d.trans (hb6.mono K5.out.1.d.size), K5.out.2.below hb6⟩ | exact ⟨K4.out.1.d.trans (hb6.mono K4.out.1.d.size), K4.out.2.below hb6⟩); clear hb6 AW; obtain ⟨xv1, xv0⟩ := K6.out.2))
    go_ret
    refine ⟨?_, K6.out.1⟩
    simp
set_option maxHeartbeats 20000000 in
set_option maxRecDepth 100000 in
theorem ms_e2 (l C w : Int) (a z a3 : Option Addr) (cap zcap cap3 L Z Q : Nat) (cl : List Stp) (zs qs : List (Nat × Nat)) (b : Nat × Nat) (hL : cl.length = L) (hZ : zs.length = Z) (hQ : qs.length = Q) (hf : fwB C w L Z) (h8 : Q ≤ 8) (lz : ltE zs) (lq : ltE qs) (lb : lt2 b) (hE : chE l C w cl zs (0, 0) = 0) (ob : ¬ ofB l (b.1 : Int) (b.2 : Int) = true) (W : World) (hr : ORow W a cl) (hz : ERow W z zs) (hq : ERow W a3 qs) :
    Calls Try.prog 4 #[.int .i64 l, .agg #[.int .i64 C, .int .i64 w, .slice a L cap, .slice z Z zcap, .int .u64 (b.1 : Int), .int .u64 (b.2 : Int)], .slice a3 Q cap3] W fun e w' => e = .returned (.bool true) ∧ Below W.heap.size W w' := by
  have HF := hidC (few22 C w a z L Z cap zcap b)
  rw [decide_eq_true hf] at HF
  have AW := hidC awake22
  have q8 : ¬ (8 : Int) < (Q : Int) := by omega
  have h210 : L ≤ 210 ∧ Z ≤ 8 := by unfold fwB at hf; omega
  have HR := hidC (fun (v : World) (hb : Below W.heap.size W v) => rref22 a cap cl (by omega) v (hr.below hb))
  have HZ := hidC (fun (v : World) (hb : Below W.heap.size W v) => ref_row z zcap zs (by omega) v (hz.below hb))
  have HM := hidC (fun (v : World) (la za : Option Addr) (lc1 zc1 : Nat) (hO : ORow v la cl) (hz' : ERow v za zs) => rmay22 l C w la za lc1 zc1 cl zs (by omega) (by omega) lz v hO hz')
  rw [hL] at HR HM
  rw [hZ] at HZ HM
  have HOf := hidC (rof_any l b.1 b.2 lb.1 lb.2)
  have K0 : Hid (Kd W (W.alloc (Obj.cells #[.int .i64 C, .int .i64 w, .slice a L cap, .slice z Z zcap, .int .u64 (b.1 : Int), .int .u64 (b.2 : Int)] 28)) C w a z L cap Z zcap b) := ⟨by simp [go_sem], by simp [go_sem], by simp [go_sem], by simp [go_sem], by simp [go_sem], by simp [go_sem], (Below.refl W.heap.size W).alloc (Nat.le_refl _) _⟩
  have hB : chE l C w cl zs b = 5 := by rw [chE_b b hE, if_neg ob]
  have hE0 : ¬ (5 : Int) = 0 := by decide
  rw [hE] at HM
  rw [Bool.eq_false_iff.2 ob] at HOf
  have HMk := hidC (fun (v : World) (hb : Below W.heap.size W v) => cmmask_err l C w a z cap zcap cl zs b (by omega) (by omega) lz lb (by rw [hB]; exact hE0) v (hr.below hb) (hz.below hb))
  rw [hB, hL, hZ] at HMk
  have HAt := hidC (fun (v : World) (hb : Below W.heap.size W v) => cmat_err l C w a z a3 cap zcap cap3 cl zs qs b (by omega) (by omega) (by omega) lz lq lb (by unfold taE; rw [hB, if_neg hE0]; exact hE0) v (hr.below hb) (hz.below hb) (hq.below hb))
  rw [show taE l C w cl zs qs b = 5 by unfold taE; rw [hB, if_neg hE0], hL, hZ, hQ] at HAt
  clear hE ob
  clear hf h8 h210 lz lq lb hr hz hq hL hZ hQ hB hE0
  go_enter Try.func4, Try.ntmps4
  go_upto_region 3 with (go_at_call 9; refine (HF.out.go _).mono ?_; rintro e w1 ⟨rfl, hb1⟩; have K1 : Hid (Kd W w1 C w a z L cap Z zcap b) := K0.out.below hb1; clear hb1 K0)
  go_cut [7, 8] (fun s7 s8 wx => ∃ (la za : Option Addr) (lc zc : Nat), s7 = .slice la L lc ∧ s8 = .slice za Z zc ∧ Hid (Kf W wx C w a z L cap Z zcap b la za cl zs))
  case first =>
    have K := K1.out
    clear K1
    refine wp_region_noPanic ?_
    refine wp_region_peel (S := fun v => v.cell? ⟨W.heap.size, 2, none⟩ = some (.slice a L cap) ∧ v.cell? ⟨W.heap.size, 3, none⟩ = some (.slice z Z zcap)) 7 (by kernel_rfl) rfl (by kernel_rfl) ?_ (fun hHeld => ?_)
    · exact ⟨K.c2, K.c3⟩
    refine wpAnyH_take (i := 0) (oi := _) (v := ?_) rfl (by kernel_rfl) (by kernel_rfl) (by kernel_rfl) (fun _ _ _ h => h) (Or.inl ⟨by rfl, ?_⟩) (by assumption) ?_
    rotate_left
    · ((intro w hSw; (try dsimp only at hSw); go_simp) <;> (try with_reducible rfl))
    show wpAnyH _ _ _ _ _ _ _ (Act.put _ (some 23) _) _
    simp only [Act.put, List.setIfInBounds_toArray, List.set_cons_succ, List.set_cons_zero]
    refine wpAnyH_take (i := 1) (oi := _) (v := ?_) rfl (by kernel_rfl) (by kernel_rfl) (by kernel_rfl) (fun _ _ _ h => h) (Or.inl ⟨by rfl, ?_⟩) (by assumption) ?_
    rotate_left
    · ((intro w hSw; (try dsimp only at hSw); go_simp) <;> (try with_reducible rfl))
    show wpAnyH _ _ _ _ _ _ _ (Act.put _ (some 24) _) _
    simp only [Act.put, List.setIfInBounds_toArray, List.set_cons_succ, List.set_cons_zero]
    refine wpAnyH_take (i := 3) (oi := _) (v := ?_) rfl (by kernel_rfl) (by kernel_rfl) (by kernel_rfl) (fun _ _ _ h => h) (Or.inl ⟨by rfl, ?_⟩) (by assumption) ?_
    rotate_left
    · ((intro w hSw; (try dsimp only at hSw); go_simp) <;> (try with_reducible rfl))
    show wpAnyH _ _ _ _ _ _ _ (Act.put _ (some 26) _) _
    simp only [Act.put, List.setIfInBounds_toArray, List.set_cons_succ, List.set_cons_zero]
    refine wpAnyH_take (i := 4) (oi := _) (v := ?_) rfl (by kernel_rfl) (by kernel_rfl) (by kernel_rfl) (fun _ _ _ h => h) (Or.inl ⟨by rfl, ?_⟩) (by assumption) ?_
    rotate_left
    · ((intro w hSw; (try dsimp only at hSw); go_simp) <;> (try with_reducible rfl))
    show wpAnyH _ _ _ _ _ _ _ (Act.put _ (some 27) _) _
    simp only [Act.put, List.setIfInBounds_toArray, List.set_cons_succ, List.set_cons_zero]
    have K' := K.drew
    clear K
    have K := K'
    clear K'
    generalize w1.drew = wb at *
    refine wpAnyH_ready (rs := [2]) (by kernel_rfl) (by simp) ?_
    refine AllReadyH.cons (o := _) rfl (fun KK hKK => ?_) AllReadyH.nil
    go_simp
    (go_at_call 13; refine (HR.out _ K.d).mono ?_; rintro e w' ⟨la, lc, rfl, L7, hb'⟩)
    have K' := K.below hb'
    clear hb' K
    have K := K'
    clear K'
    refine hKK.out _ _ ?_ (fun hHeld => ?_)
    · exact ⟨K.c2, K.c3⟩
    clear hKK KK
    try simp only [Act.put]
    refine wpAnyH_ready (rs := [5]) (by kernel_rfl) (by simp) ?_
    refine AllReadyH.cons (o := _) rfl (fun KK hKK => ?_) AllReadyH.nil
    go_simp
    (go_at_call 16; refine (HZ.out _ K.d).mono ?_; rintro e w' ⟨za, zc, rfl, Z8, hb'⟩)
    have K' := K.below hb'
    have L7' := L7.below hb'
    clear hb' K L7
    have K := K'
    have L7 := L7'
    clear K' L7'
    refine hKK.out _ _ ?_ (fun hHeld => ?_)
    · exact ⟨K.c2, K.c3⟩
    clear hKK KK
    try simp only [Act.put]
    refine wpAnyH_take (i := 6) (oi := _) (v := ?_) rfl (by kernel_rfl) (by kernel_rfl) (by kernel_rfl) (fun _ _ _ h => h) (Or.inl ⟨by rfl, ?_⟩) (by assumption) ?_
    rotate_left
    · ((intro w hSw; (try dsimp only at hSw); go_simp) <;> (try with_reducible rfl))
    show wpAnyH _ _ _ _ _ _ _ (Act.put _ (some 7) _) _
    simp only [Act.put, List.setIfInBounds_toArray, List.set_cons_succ, List.set_cons_zero]
    refine wpAnyH_done (by kernel_rfl) ?_ _
    refine peel_last rfl (fun KK hKK => ?_)
    clear hHeld
    go_simp
    refine hKK _ _ ?_
    refine NoPanic.normal ?_
    go_wp2_with fail
    go_meet
    exact ⟨la, za, lc, zc, rfl, rfl, ⟨K, L7, Z8⟩⟩
  case rest =>
    obtain ⟨la, za, lc, zc, rfl, rfl, K⟩ := hcut
    clear K1 HF HR HZ
    obtain ⟨c0, c1, c2, c3, c4, c5, _⟩ := K.out.k
    go_wp2_with (first
      | (go_at_call 17; refine (HMk.out _ K.out.k.d).mono ?_; rintro e w2 ⟨rfl, hb2⟩; have K2 : Hid (Kf W w2 C w a z L cap Z zcap b la za cl zs) := K.out.below hb2; clear hb2 K HMk; clear c0 c1 c2 c3 c4 c5; obtain ⟨c0, c1, c2, c3, c4, c5, _⟩ := K2.out.k)
      | (go_at_call 18; refine (HAt.out _ K2.out.k.d).mono ?_; rintro e w3 ⟨rfl, hb3⟩; have K3 : Hid (Kf W (w3.alloc (Obj.cells #[.int .u64 0, .int .u64 0] 26)) C w a z L cap Z zcap b la za cl zs ∧ El (w3.alloc (Obj.cells #[.int .u64 0, .int .u64 0] 26)) w3.heap.size 0 0) := ⟨(K2.out.below hb3).below ((Below.refl _ _).alloc (Nat.le_refl _) _), (Ew.roomR w3 _).toEl⟩; clear hb3 K2 HAt; clear c0 c1 c2 c3 c4 c5; obtain ⟨c0, c1, c2, c3, c4, c5, _⟩ := K3.out.1.k)
      | (go_at_call 19; refine (HM.out _ _ _ _ _ K3.out.1.l K3.out.1.z).mono ?_; rintro e w4 ⟨rfl, hb4⟩; have K4 : Hid (Kd W w4 C w a z L cap Z zcap b ∧ El w4 w3.heap.size 0 0) := ⟨K3.out.1.k.below hb4, K3.out.2.below hb4⟩; clear hb4 K3 HM; clear c0 c1 c2 c3 c4 c5; obtain ⟨c0, c1, c2, c3, c4, c5, _⟩ := K4.out.1)
      | (go_at_call 20; refine (HOf.out.go _).mono ?_; rintro e w5 ⟨rfl, hb5⟩; have K5 : Hid (Kd W w5 C w a z L cap Z zcap b ∧ El w5 w3.heap.size 0 0) := ⟨K4.out.1.below hb5, K4.out.2.below hb5⟩; clear hb5 K4 HOf; clear c0 c1 c2 c3 c4 c5)
      | (go_at_call 10; refine (AW.out.go _).mono ?_; rintro e w6 ⟨rfl, hb6⟩; have K6 : Hid (Below W.heap.size W w6 ∧ El w6 w3.heap.size 0 0) := (by first | exact ⟨K5.out.1.d.trans (hb6.mono K5.out.1.d.size), K5.out.2.below hb6⟩ | exact ⟨K4.out.1.d.trans (hb6.mono K4.out.1.d.size), K4.out.2.below hb6⟩); clear hb6 AW; obtain ⟨xv1, xv0⟩ := K6.out.2))
    go_ret
    refine ⟨?_, K6.out.1⟩
    simp
end Go.Proofs.Ytejoombhcnldmaa
