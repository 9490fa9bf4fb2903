/- The walk of steepletop.TopDual over the seat's translation. -/
import Derived.Test.YtjdfbjdbfncofaaPRowE
import Derived.Test.YtjdfbjdbfncofaaRgE
import Derived.Test.YtjdfbjdbfncofaaLpP
import Derived.Test.YtjdfbjdbfncofaaFrN
namespace Go.Proofs.Ytjdfbjdbfncofaa
open Go.RowKit
open Cb Rg Sq Fr Hf
open Tw (pm)

set_option maxHeartbeats 2000000 in
theorem fine_any : Ret 12 #[] (.bool true) := by
  intro W
  have HP : Hid (Calls Try.prog 29 #[.int .i64 2, .int .i64 2] W fun e w' => ∃ p g : Nat, e = .returned (.tuple #[.pointer (some ⟨p, 0, none⟩), .int .i64 0]) ∧ Lies W w' 2 p g 2 (bitsE 2)) := plain_ok 2 2 (by decide) (by decide) (by decide) W
  have HPt : Hid (∀ p g w, Lies W w 2 p g 2 (bitsE 2) → Calls Try.prog 30 #[.pointer (some ⟨p, 0, none⟩), .int .i64 3] w fun e w' => e = .returned (.agg #[.int .u64 0, .int .u64 3]) ∧ Below w.heap.size w w') := fun p g w h => by
    have := spoint_any 2 p g 2 3 (bitsE 2) W w h (by decide) (by decide) (bitsE_lt 2 (by decide))
    rw [show ptv (bitsE 2) 3 2 = (0, 3) by decide] at this
    exact this
  go_enter Try.func12, Try.ntmps12
  go_wp2_with (first
    | (go_at_call 29; refine HP.out.mono ?_; rintro e w1 ⟨p, g, rfl, hL⟩; have L1 := hidT hL; clear hL)
    | (go_at_call 30; refine (HPt.out _ _ _ L1.out).mono ?_; rintro e w2 ⟨rfl, hb2⟩; have D2 := hidT (L1.out.d.trans (hb2.mono L1.out.d.size)); clear hb2))
  go_ret
  exact ⟨by rfl, D2.out⟩
/-- What the law holds: the case, the packed table, the dual list. -/
structure Kt (W w : World) (a : Option Addr) (bs : List Bool) (c : Nat) (g : Nat) (T : List (Nat × Nat)) (gd : Nat) (D : List (Nat × Nat)) : Prop where
  c0 : w.cell? ⟨W.heap.size, 0, none⟩ = some (.slice a bs.length c)
  b : BRow w a bs
  t : ERow w (some ⟨g, 0, none⟩) T
  d : ERow w (some ⟨gd, 0, none⟩) D
  l : Below W.heap.size W w
theorem Kt.below {W w w' : World} {a : Option Addr} {bs : List Bool} {c : Nat} {g : Nat} {T : List (Nat × Nat)} {gd : Nat} {D : List (Nat × Nat)} (h : Kt W w a bs c g T gd D) (hb : Below w.heap.size w w') : Kt W w' a bs c g T gd D := ⟨keepc hb h.c0, h.b.below hb, h.t.below hb, h.d.below hb, h.l.trans (hb.mono h.l.size)⟩
theorem el_cells {w : World} {g : Nat} {T : List (Nat × Nat)} (h : ERow w (some ⟨g, 0, none⟩) T) {j : Nat} (hj : j < T.length) : w.cell? ⟨g, j * 2, none⟩ = some (.int .u64 ((el T j).1 : Int)) ∧ w.cell? ⟨g, j * 2 + 1, none⟩ = some (.int .u64 ((el T j).2 : Int)) := by
  obtain ⟨g', o, e, h1, h2, h3⟩ := h.cells j hj
  injection e with e; injection e with e1 e2; subst e1 e2
  rw [Nat.zero_add] at h2 h3
  exact ⟨h2, h3⟩
theorem Kt.cells {W w : World} {gb ob : Nat} {bs : List Bool} {c : Nat} {g : Nat} {T : List (Nat × Nat)} {gd : Nat} {D : List (Nat × Nat)} (h : Kt W w (some ⟨gb, ob, none⟩) bs c g T gd D) {i kk jj : Nat} (hi : i < bs.length) (hk : kk < T.length) (hj : jj < D.length) :
    w.cell? ⟨W.heap.size, 0, none⟩ = some (.slice (some ⟨gb, ob, none⟩) bs.length c) ∧ w.cell? ⟨gb, ob + i, none⟩ = some (.bool (bs.getD i false)) ∧ w.cell? ⟨g, kk * 2, none⟩ = some (.int .u64 ((el T kk).1 : Int)) ∧ w.cell? ⟨g, kk * 2 + 1, none⟩ = some (.int .u64 ((el T kk).2 : Int)) ∧ w.cell? ⟨gd, jj * 2, none⟩ = some (.int .u64 ((el D jj).1 : Int)) ∧ w.cell? ⟨gd, jj * 2 + 1, none⟩ = some (.int .u64 ((el D jj).2 : Int)) := by
  obtain ⟨g', o, e, _, h3⟩ := h.b.cells i hi
  injection e with e; injection e with e1 e2; subst e1 e2
  exact ⟨h.c0, h3, (el_cells h.t hk).1, (el_cells h.t hk).2, (el_cells h.d hj).1, (el_cells h.d hj).2⟩
set_option maxHeartbeats 2000000 in
theorem td_far (l : Int) (a a2 a3 : Option Addr) (n n2 n3 c c2 c3 : Nat) (h : 130 < n ∨ l < 0 ∨ 5 < l) : Ret 4 #[.int .i64 l, .agg #[.slice a n c, .slice a2 n2 c2, .slice a3 n3 c3]] (.bool true) := by
  intro W
  have HF := hidT fine_any
  by_cases hn : 130 < n
  · have hn1 : (130 : Int) < (n : Int) := by omega
    clear h
    go_enter Try.func4, Try.ntmps4
    go_wp2_with (go_at_call 12; refine (HF.out.go _).mono ?_; rintro e w1 ⟨rfl, hb1⟩)
    go_ret
    exact ⟨rfl, ((Below.refl _ _).alloc (Nat.le_refl _) _).trans (hb1.mono (by simp))⟩
  have hn1 : ¬ (130 : Int) < (n : Int) := by omega
  by_cases h0 : l < 0
  · clear h
    go_enter Try.func4, Try.ntmps4
    go_wp2_with (go_at_call 12; refine (HF.out.go _).mono ?_; rintro e w1 ⟨rfl, hb1⟩)
    go_ret
    exact ⟨rfl, ((Below.refl _ _).alloc (Nat.le_refl _) _).trans (hb1.mono (by simp))⟩
  have h5 : 5 < l := by omega
  clear h
  go_enter Try.func4, Try.ntmps4
  go_wp2_with (go_at_call 12; refine (HF.out.go _).mono ?_; rintro e w1 ⟨rfl, hb1⟩)
  go_ret
  exact ⟨rfl, ((Below.refl _ _).alloc (Nat.le_refl _) _).trans (hb1.mono (by simp))⟩
set_option maxHeartbeats 2000000 in
theorem td_err (l : Int) (a a2 a3 : Option Addr) (n n2 n3 c c2 c3 : Nat) (hn : n ≤ 130) (l0 : 0 ≤ l) (l5 : l ≤ 5) (h : ¬ hvE l n = 0) : Ret 4 #[.int .i64 l, .agg #[.slice a n c, .slice a2 n2 c2, .slice a3 n3 c3]] (.bool true) := by
  intro W
  have HF := hidT fine_any
  have HP := hidT (rpack_err l a n c (by omega) h)
  generalize hvE l n = E at *
  have hn1 : ¬ (130 : Int) < (n : Int) := by omega
  have h5 : ¬ 5 < l := by omega
  have h0 : ¬ l < 0 := by omega
  go_enter Try.func4, Try.ntmps4
  go_wp2_with (first
    | (go_at_call 12; refine (HF.out.go _).mono ?_; rintro e w1 ⟨rfl, hb1⟩; have x0 : w1.cell? ⟨W.heap.size, 0, none⟩ = some (.slice a n c) := keepc hb1 (by simp [go_sem]); have K1 : Hid (Below W.heap.size W w1) := ((Below.refl _ _).alloc (Nat.le_refl _) _).trans (hb1.mono (by simp)); clear hb1)
    | (go_at_call 13; refine (HP.out.go _).mono ?_; rintro e w2 ⟨rfl, hb2⟩; have K2 : Hid (Below W.heap.size W w2) := K1.out.trans (hb2.mono K1.out.size); clear hb2))
  go_ret
  exact ⟨rfl, K2.out⟩
set_option maxRecDepth 100000 in
set_option maxHeartbeats 16000000 in
theorem td_ok (k : Nat) (hk : k < 6) (a a2 a3 : Option Addr) (n2 n3 c c2 c3 : Nat) (bs : List Bool) (hn : bs.length ≤ 130) (W : World) (ra : BRow W a bs) (h0 : hvE (k : Int) bs.length = 0) : Calls Try.prog 4 #[.int .i64 (k : Int), .agg #[.slice a bs.length c, .slice a2 n2 c2, .slice a3 n3 c3]] W fun e w' => e = .returned (.bool true) ∧ Below W.heap.size W w' := by
  have HF := hidT fine_any
  have hk8 : k < 8 := by omega
  obtain ⟨k', j, _, hkk, hkj, hnn, _⟩ := hv_zero h0
  obtain rfl : k = k' := by omega
  obtain ⟨q, hq⟩ : ∃ q, q = 2 ^ j := ⟨_, rfl⟩
  obtain ⟨N, hN⟩ : ∃ N, N = 2 ^ k := ⟨_, rfl⟩
  have hqN : bs.length = q * 2 ^ k := by rw [hnn, hq]
  have HP := hidT (fun w (hb : Below W.heap.size W w) => rpack_ok k hk8 a bs.length c j N q bs hkj hN hq.symm (by rw [hnn, hq, hN]) rfl (by omega) w (ra.below hb))
  have HD := hidT (fun w => dual_ok k hk8 w)
  have H2 := hidT (rtwoF k (by omega))
  have lT : ∀ i, i < q → lt2 (el (gB k q bs) i) := fun i hi => gB_lt k q hk8 bs hqN i hi
  have oT : ∀ i, i < q → ofE k (el (gB k q bs) i) := fun i hi => gB_of k q hk8 bs hqN i hi
  have bT : ∀ i, i < q → ∀ m, m < N → hs (el (gB k q bs) i) m = bs.getD (i * N + m) false := fun i hi m hm => by subst hN; exact gB_bit k q hk8 bs hqN i hi m hm
  have TL : (gB k q bs).length = q := gB_len k q bs
  have hlT : ltE (gB k q bs) := ltE_of fun i hi => lT i (by rw [TL] at hi; exact hi)
  generalize gB k q bs = T at *
  have hDL : (bkL (fms k)).length = N := by rw [bkL_len, fms_len, hN]
  have lD : ltE (bkL (fms k)) := lt_bkL (lt_fms k)
  have tD : ∀ x, lt2 x → ofE k x → ∀ i, i < N → tn xa (0, 0) k 0 (pm x (el (bkL (fms k)) i)) = sl (hs x i) (0, 1) := fun x lx ox i hi => by
    rw [bkL_at _ (by rw [fms_len, ← hN]; exact hi)]
    exact dl_tr hk8 lx ox (by rw [← hN]; exact hi)
  have oD : ∀ i, i < N → ofE k (el (bkL (fms k)) i) := fun i hi => by
    rw [bkL_at _ (by rw [fms_len, ← hN]; exact hi)]
    exact of_dl hk8 i
  rw [← hN] at HD H2
  generalize bkL (fms k) = D at *
  have HM : Hid (∀ x d : Nat × Nat, lt2 x → ofE k x → lt2 d → ofE k d → Ret 15 #[.int .i64 (k : Int), .agg #[.int .u64 (x.1 : Int), .int .u64 (x.2 : Int)], .agg #[.int .u64 (d.1 : Int), .int .u64 (d.2 : Int)]] (.agg #[.int .u64 ((pm x d).1 : Int), .int .u64 ((pm x d).2 : Int)])) := fun x d lx ox ld od => by
    have := mul_any (k : Int) x d lx.1 lx.2 ld.1 ld.2
    rw [show mulv (k : Int) x d = pm x d from if_pos ⟨ox, od⟩] at this
    exact this
  have HT : Hid (∀ x : Nat × Nat, lt2 x → ofE k x → Ret 14 #[.int .i64 (k : Int), .int .i64 0, .agg #[.int .u64 (x.1 : Int), .int .u64 (x.2 : Int)]] (.agg #[.int .u64 ((tn xa (0, 0) k 0 x).1 : Int), .int .u64 ((tn xa (0, 0) k 0 x).2 : Int)])) := fun x lx ox => by
    have := trace_ok k 0 hk8 (Nat.zero_le k) ⟨x, lx, ox⟩
    rw [trl_tn] at this
    exact this
  have HO := hidT one_any
  have h128 : N ≤ 128 := by rw [hN]; exact pow_128 hk8
  have N0 : 0 < N := by rw [hN]; exact Nat.two_pow_pos k
  have hq130 : q ≤ 130 := Nat.le_trans (Nat.le_mul_of_pos_right q N0) (by rw [hN, ← hqN]; exact hn)
  have hqN' : bs.length = q * N := by rw [hN]; exact hqN
  have hn1 : ¬ (130 : Int) < (bs.length : Int) := by omega
  have k5 : ¬ (5 : Int) < (k : Int) := by omega
  have k0 : ¬ (k : Int) < 0 := by omega
  clear hk hkk h0 hkj hnn hq hN hqN
  generalize hnn : bs.length = n at *
  replace hnn := hidT hnn
  replace hqN' := hidT hqN'
  replace TL := hidT TL
  replace hDL := hidT hDL
  go_enter Try.func4, Try.ntmps4
  go_upto_region 9 with (first
    | (go_at_call 12; refine (HF.out.go _).mono ?_; rintro e1 w1 ⟨rfl, hb1⟩; have x0 : w1.cell? ⟨W.heap.size, 0, none⟩ = some (.slice a n c) := keepc hb1 (by simp [go_sem]); have K1 : Hid (w1.cell? ⟨W.heap.size, 0, none⟩ = some (.slice a n c) ∧ Below W.heap.size W w1) := ⟨x0, ((Below.refl _ _).alloc (Nat.le_refl _) _).trans (hb1.mono (by simp))⟩; clear hb1)
    | (go_at_call 13; refine (HP.out _ K1.out.2).mono ?_; rintro e1 w2 ⟨g, rfl, hr2, hb2⟩; have K2 : Hid (w2.cell? ⟨W.heap.size, 0, none⟩ = some (.slice a n c) ∧ ERow w2 (some ⟨g, 0, none⟩) T ∧ Below W.heap.size W w2) := ⟨keepc hb2 K1.out.1, hr2, K1.out.2.trans (hb2.mono K1.out.2.size)⟩; clear hb2 hr2 K1 x0)
    | (go_at_call 6; refine (HD.out _).mono ?_; rintro e1 w3 ⟨gd, rfl, hr3, hb3⟩; have K3 : Hid (w3.cell? ⟨W.heap.size, 0, none⟩ = some (.slice a n c) ∧ ERow w3 (some ⟨g, 0, none⟩) T ∧ ERow w3 (some ⟨gd, 0, none⟩) D ∧ Below W.heap.size W w3) := ⟨keepc hb3 K2.out.1, K2.out.2.1.below hb3, hr3, K2.out.2.2.trans (hb3.mono K2.out.2.2.size)⟩; clear hb3 hr3 K2)
    | (go_at_call 8; refine (H2.out.go _).mono ?_; rintro e1 w4 ⟨rfl, hb4⟩; have K4 : Hid (Kt W w4 a bs c g T gd D) := ⟨hnn.out.symm ▸ keepc hb4 K3.out.1, (ra.below K3.out.2.2.2).below hb4, K3.out.2.1.below hb4, K3.out.2.2.1.below hb4, K3.out.2.2.2.trans (hb4.mono K3.out.2.2.2.size)⟩; clear hb4 K3))
  go_wp2
  go_loopw [8] (fun u wr => ∃ i : Nat, i ≤ n ∧ u = .int .i64 i ∧ Hid (Kt W wr a bs c g T gd D)) (fun u _ => n - (intOf u).toNat)
  case atStart => exact ⟨0, Nat.zero_le _, rfl, K4⟩
  case round =>
    obtain ⟨i, hi, rfl, K0⟩ := hrel
    clear K4
    by_cases hlt : i < n
    · have hnn' := hnn.out
      have TL' := TL.out
      have hDL' := hDL.out
      obtain ⟨gb, ob, rfl, _, _⟩ := ra.cells i (by omega)
      have i1 : (i : Int) < (n : Int) := by omega
      have i0' : (0 : Int) ≤ (i : Int) := by omega
      obtain ⟨kk, hkk⟩ : ∃ kk, kk = i / N := ⟨_, rfl⟩
      obtain ⟨jj, hjj⟩ : ∃ jj, jj = i % N := ⟨_, rfl⟩
      have kq : kk < q := by rw [hkk]; exact Nat.div_lt_of_lt_mul (by rw [Nat.mul_comm, ← hqN'.out]; exact hlt)
      have jN : jj < N := by rw [hjj]; exact Nat.mod_lt _ N0
      have hij : i = kk * N + jj := by rw [hkk, hjj, Nat.mul_comm]; exact (Nat.div_add_mod i N).symm
      have d1 : (i : Int) / (N : Int) = (kk : Int) := by rw [hkk]; rfl
      have d2 : (i : Int).tdiv (N : Int) = (kk : Int) := by rw [Int.tdiv_eq_ediv_of_nonneg i0']; exact d1
      have m1 : (i : Int) % (N : Int) = (jj : Int) := by rw [hjj]; rfl
      have m2 : (i : Int).tmod (N : Int) = (jj : Int) := by rw [Int.tmod_eq_emod_of_nonneg i0']; exact m1
      have z1 : ¬ (N : Int) = 0 := by omega
      have z2 : ¬ N = 0 := by omega
      have q1 : ¬ (q : Int) ≤ (kk : Int) := by omega
      have hd : decide ((q : Int) ≤ (kk : Int)) = false := decide_eq_false q1
      have q2 : (kk : Int) < (q : Int) := by omega
      have kb : (kk : Int) ≤ 130 := by omega
      have jb : (jj : Int) ≤ 128 := by omega
      have q0 : (0 : Int) ≤ (kk : Int) := by omega
      have j1 : (jj : Int) < (N : Int) := by omega
      have j0 : (0 : Int) ≤ (jj : Int) := by omega
      have lx := lT kk kq
      have ox := oT kk kq
      have ld := ltE_el lD jj
      have od := oD jj jN
      have HMi := hidT (HM.out _ _ lx ox ld od)
      have HTi := hidT (HT.out _ (lt_pm _ _) (of_pm hk8 ox od))
      rw [tD _ lx ox jj jN] at HTi
      have HHi := hidT (has_any (el T kk).1 (el T kk).2 jj lx.1 lx.2 (by omega))
      replace HHi : Hid (Ret 11 #[.agg #[.int .u64 ((el T kk).1 : Int), .int .u64 ((el T kk).2 : Int)], .int .i64 (jj : Int)] (.bool (hs (el T kk) jj))) := HHi
      rw [bT kk kq jj jN, ← hij] at HTi HHi
      have HRf : Hid (∀ w, Below wr.heap.size wr w → Calls Try.prog 17 #[.slice (some ⟨g, 0, none⟩) q q] w fun e w' => ∃ g' o' cap', e = .returned (.slice (some ⟨g', o', none⟩) q cap') ∧ w'.cell? ⟨g', o' + kk * 2, none⟩ = some (.int .u64 ((el T kk).1 : Int)) ∧ w'.cell? ⟨g', o' + kk * 2 + 1, none⟩ = some (.int .u64 ((el T kk).2 : Int)) ∧ Below w.heap.size w w') := fun w hb => by
        have := ref_row (some ⟨g, 0, none⟩) q T (by omega) w (K0.out.t.below hb)
        rw [TL'] at this
        refine this.mono ?_
        rintro e w' ⟨a', cap', rfl, hr, hb'⟩
        obtain ⟨g', o', rfl, _, h1, h2⟩ := hr.cells kk (by omega)
        exact ⟨g', o', cap', rfl, h1, h2, hb'⟩
      have EE : ∀ w, Below wr.heap.size wr w → w.cell? ⟨W.heap.size, 0, none⟩ = some (.slice (some ⟨gb, ob, none⟩) n c) ∧ w.cell? ⟨gb, ob + i, none⟩ = some (.bool (bs.getD i false)) ∧ w.cell? ⟨g, kk * 2, none⟩ = some (.int .u64 ((el T kk).1 : Int)) ∧ w.cell? ⟨g, kk * 2 + 1, none⟩ = some (.int .u64 ((el T kk).2 : Int)) ∧ w.cell? ⟨gd, jj * 2, none⟩ = some (.int .u64 ((el D jj).1 : Int)) ∧ w.cell? ⟨gd, jj * 2 + 1, none⟩ = some (.int .u64 ((el D jj).2 : Int)) := fun w h => by
        have := (K0.out.below h).cells (i := i) (kk := kk) (jj := jj) (by omega) (by omega) (by omega)
        rw [hnn'] at this
        exact this
      clear hnn' TL' hDL' hnn TL hDL HM HT HD H2 HF HP hkk hjj hij lx ox ld od tD oD lT oT bT kq jN hqN' hlT lD ra h128 N0 hq130
      generalize el T kk = x at *
      generalize el D jj = d at *
      generalize pm x d = P at *
      generalize bs.getD i false = b at *
      cases b
      · replace HTi : Hid (Ret 14 #[.int .i64 (k : Int), .int .i64 0, .agg #[.int .u64 (P.1 : Int), .int .u64 (P.2 : Int)]] (.agg #[.int .u64 0, .int .u64 0])) := HTi
        obtain ⟨c1, c2', c3', c4, c5, c6⟩ := EE _ (Below.refl _ _)
        have K : Hid (Below wr.heap.size wr wr) := Below.refl _ _
        go_upto_region 13 with fail
        refine wp_region_noPanic ?_
        refine wp_region_held_drew (S := fun w => w.cell? ⟨W.heap.size, 0, none⟩ = some (.slice (some ⟨gb, ob, none⟩) n c) ∧ w.cell? ⟨gb, ob + i, none⟩ = some (.bool false) ∧ w.cell? ⟨g, kk * 2, none⟩ = some (.int .u64 (x.1 : Int)) ∧ w.cell? ⟨g, kk * 2 + 1, none⟩ = some (.int .u64 (x.2 : Int)) ∧ w.cell? ⟨gd, jj * 2, none⟩ = some (.int .u64 (d.1 : Int)) ∧ w.cell? ⟨gd, jj * 2 + 1, none⟩ = some (.int .u64 (d.2 : Int))) (by kernel_rfl) (EE _ (Below.refl _ _).drew) (fun hHeld => ?_)
        refine wpAnyH_take (i := 0) (oi := _) (v := ?_) rfl (by kernel_rfl) (by kernel_rfl) (by kernel_rfl) (fun _ _ _ h => h) (Or.inl ⟨by rfl, ?_⟩) (by assumption) ?_
        rotate_left
        · ((intro w hSw; (try dsimp only at hSw); go_simp) <;> (try with_reducible rfl))
        show wpAnyH _ _ _ _ _ _ _ (Act.put _ (some 54) _) _
        simp only [Act.put, List.setIfInBounds_toArray, List.set_cons_succ, List.set_cons_zero]
        refine wpAnyH_take (i := 1) (oi := _) (v := ?_) rfl (by kernel_rfl) (by kernel_rfl) (by kernel_rfl) (fun _ _ _ h => h) (Or.inl ⟨by rfl, ?_⟩) (by assumption) ?_
        rotate_left
        · ((intro w hSw; (try dsimp only at hSw); go_simp) <;> (try with_reducible rfl))
        show wpAnyH _ _ _ _ _ _ _ (Act.put _ (some 55) _) _
        simp only [Act.put, List.setIfInBounds_toArray, List.set_cons_succ, List.set_cons_zero]
        refine wpAnyH_take (i := 2) (oi := _) (v := ?_) rfl (by kernel_rfl) (by kernel_rfl) (by kernel_rfl) (fun _ _ _ h => h) (Or.inl ⟨by rfl, ?_⟩) (by assumption) ?_
        rotate_left
        · ((intro w hSw; (try dsimp only at hSw); go_simp) <;> (try with_reducible rfl))
        show wpAnyH _ _ _ _ _ _ _ (Act.put _ (some 56) _) _
        simp only [Act.put, List.setIfInBounds_toArray, List.set_cons_succ, List.set_cons_zero]
        refine wpAnyH_take (i := 3) (oi := _) (v := ?_) rfl (by kernel_rfl) (by kernel_rfl) (by kernel_rfl) (fun _ _ _ h => h) (Or.inl ⟨by rfl, ?_⟩) (by assumption) ?_
        rotate_left
        · ((intro w hSw; (try dsimp only at hSw); go_simp) <;> (try with_reducible rfl))
        show wpAnyH _ _ _ _ _ _ _ (Act.put _ (some 57) _) _
        simp only [Act.put, List.setIfInBounds_toArray, List.set_cons_succ, List.set_cons_zero]
        refine wpAnyH_take (i := 4) (oi := _) (v := ?_) rfl (by kernel_rfl) (by kernel_rfl) (by kernel_rfl) (fun _ _ _ h => h) (Or.inl ⟨by rfl, ?_⟩) (by assumption) ?_
        rotate_left
        · ((intro w hSw; (try dsimp only at hSw); go_simp) <;> (try with_reducible rfl))
        show wpAnyH _ _ _ _ _ _ _ (Act.put _ (some 58) _) _
        simp only [Act.put, List.setIfInBounds_toArray, List.set_cons_succ, List.set_cons_zero]
        refine wpAnyH_take (i := 5) (oi := _) (v := ?_) rfl (by kernel_rfl) (by kernel_rfl) (by kernel_rfl) (fun _ _ _ h => h) (Or.inl ⟨by rfl, ?_⟩) (by assumption) ?_
        rotate_left
        · ((intro w hSw; (try dsimp only at hSw); go_simp) <;> (try with_reducible rfl))
        show wpAnyH _ _ _ _ _ _ _ (Act.put _ (some 59) _) _
        simp only [Act.put, List.setIfInBounds_toArray, List.set_cons_succ, List.set_cons_zero]
        refine wpAnyH_take (i := 6) (oi := _) (v := ?_) rfl (by kernel_rfl) (by kernel_rfl) (by kernel_rfl) (fun _ _ _ h => h) (Or.inl ⟨by rfl, ?_⟩) (by assumption) ?_
        rotate_left
        · ((intro w hSw; (try dsimp only at hSw); go_simp) <;> (try with_reducible rfl))
        show wpAnyH _ _ _ _ _ _ _ (Act.put _ (some 60) _) _
        simp only [Act.put, List.setIfInBounds_toArray, List.set_cons_succ, List.set_cons_zero]
        refine wpAnyH_take (i := 7) (oi := _) (v := ?_) rfl (by kernel_rfl) (by kernel_rfl) (by kernel_rfl) (fun _ _ _ h => h) (Or.inl ⟨by rfl, ?_⟩) (by assumption) ?_
        rotate_left
        · ((intro w hSw; (try dsimp only at hSw); go_simp) <;> (try with_reducible rfl))
        show wpAnyH _ _ _ _ _ _ _ (Act.put _ (some 61) _) _
        simp only [Act.put, List.setIfInBounds_toArray, List.set_cons_succ, List.set_cons_zero]
        refine wpAnyH_take (i := 8) (oi := _) (v := ?_) rfl (by kernel_rfl) (by kernel_rfl) (by kernel_rfl) (fun _ _ _ h => h) (Or.inl ⟨by rfl, ?_⟩) (by assumption) ?_
        rotate_left
        · ((intro w hSw; (try dsimp only at hSw); go_simp) <;> (try with_reducible rfl))
        show wpAnyH _ _ _ _ _ _ _ (Act.put _ (some 62) _) _
        simp only [Act.put, List.setIfInBounds_toArray, List.set_cons_succ, List.set_cons_zero]
        refine wpAnyH_take (i := 9) (oi := _) (v := ?_) rfl (by kernel_rfl) (by kernel_rfl) (by kernel_rfl) (fun _ _ _ h => h) (Or.inl ⟨by rfl, ?_⟩) (by assumption) ?_
        rotate_left
        · ((intro w hSw; (try dsimp only at hSw); go_simp) <;> (try with_reducible rfl))
        show wpAnyH _ _ _ _ _ _ _ (Act.put _ (some 63) _) _
        simp only [Act.put, List.setIfInBounds_toArray, List.set_cons_succ, List.set_cons_zero]
        refine wpAnyH_take (i := 10) (oi := _) (v := ?_) rfl (by kernel_rfl) (by kernel_rfl) (by kernel_rfl) (fun _ _ _ h => h) (Or.inl ⟨by rfl, ?_⟩) (by assumption) ?_
        rotate_left
        · ((intro w hSw; (try dsimp only at hSw); go_simp) <;> (try with_reducible rfl))
        show wpAnyH _ _ _ _ _ _ _ (Act.put _ (some 64) _) _
        simp only [Act.put, List.setIfInBounds_toArray, List.set_cons_succ, List.set_cons_zero]
        refine wpAnyH_take (i := 11) (oi := _) (v := ?_) rfl (by kernel_rfl) (by kernel_rfl) (by kernel_rfl) (fun _ _ _ h => h) (Or.inl ⟨by rfl, ?_⟩) (by assumption) ?_
        rotate_left
        · ((intro w hSw; (try dsimp only at hSw); go_simp) <;> (try with_reducible rfl))
        show wpAnyH _ _ _ _ _ _ _ (Act.put _ (some 65) _) _
        simp only [Act.put, List.setIfInBounds_toArray, List.set_cons_succ, List.set_cons_zero]
        refine wpAnyH_take (i := 12) (oi := _) (v := ?_) rfl (by kernel_rfl) (by kernel_rfl) (by kernel_rfl) (fun _ _ _ h => h) (Or.inl ⟨by rfl, ?_⟩) (by assumption) ?_
        rotate_left
        · ((intro w hSw; (try dsimp only at hSw); go_simp) <;> (try with_reducible rfl))
        show wpAnyH _ _ _ _ _ _ _ (Act.put _ (some 66) _) _
        simp only [Act.put, List.setIfInBounds_toArray, List.set_cons_succ, List.set_cons_zero]
        refine wpAnyH_take (i := 13) (oi := _) (v := ?_) rfl (by kernel_rfl) (by kernel_rfl) (by kernel_rfl) (fun _ _ _ h => h) (Or.inl ⟨by rfl, ?_⟩) (by assumption) ?_
        rotate_left
        · ((intro w hSw; (try dsimp only at hSw); go_simp) <;> (try with_reducible rfl))
        show wpAnyH _ _ _ _ _ _ _ (Act.put _ (some 67) _) _
        simp only [Act.put, List.setIfInBounds_toArray, List.set_cons_succ, List.set_cons_zero]
        refine wpAnyH_take (i := 14) (oi := _) (v := ?_) rfl (by kernel_rfl) (by kernel_rfl) (by kernel_rfl) (fun _ _ _ h => h) (Or.inl ⟨by rfl, ?_⟩) (by assumption) ?_
        rotate_left
        · ((intro w hSw; (try dsimp only at hSw); go_simp) <;> (try with_reducible rfl))
        show wpAnyH _ _ _ _ _ _ _ (Act.put _ (some 68) _) _
        simp only [Act.put, List.setIfInBounds_toArray, List.set_cons_succ, List.set_cons_zero]
        refine wpAnyH_take (i := 15) (oi := _) (v := ?_) rfl (by kernel_rfl) (by kernel_rfl) (by kernel_rfl) (fun _ _ _ h => h) (Or.inl ⟨by rfl, ?_⟩) (by assumption) ?_
        rotate_left
        · ((intro w hSw; (try dsimp only at hSw); go_simp) <;> (try with_reducible rfl))
        show wpAnyH _ _ _ _ _ _ _ (Act.put _ (some 69) _) _
        simp only [Act.put, List.setIfInBounds_toArray, List.set_cons_succ, List.set_cons_zero]
        refine wpAnyH_take (i := 16) (oi := _) (v := ?_) rfl (by kernel_rfl) (by kernel_rfl) (by kernel_rfl) (fun _ _ _ h => h) (Or.inl ⟨by rfl, ?_⟩) (by assumption) ?_
        rotate_left
        · ((intro w hSw; (try dsimp only at hSw); go_simp) <;> (try with_reducible rfl))
        show wpAnyH _ _ _ _ _ _ _ (Act.put _ (some 70) _) _
        simp only [Act.put, List.setIfInBounds_toArray, List.set_cons_succ, List.set_cons_zero]
        refine wpAnyH_take (i := 17) (oi := _) (v := ?_) rfl (by kernel_rfl) (by kernel_rfl) (by kernel_rfl) (fun _ _ _ h => h) (Or.inl ⟨by rfl, ?_⟩) (by assumption) ?_
        rotate_left
        · ((intro w hSw; (try dsimp only at hSw); go_simp) <;> (try with_reducible rfl))
        show wpAnyH _ _ _ _ _ _ _ (Act.put _ (some 71) _) _
        simp only [Act.put, List.setIfInBounds_toArray, List.set_cons_succ, List.set_cons_zero]
        refine wpAnyH_take (i := 22) (oi := _) (v := ?_) rfl (by kernel_rfl) (by kernel_rfl) (by kernel_rfl) (fun _ _ _ h => h) (Or.inl ⟨by rfl, ?_⟩) (by assumption) ?_
        rotate_left
        · ((intro w hSw; (try dsimp only at hSw); go_simp) <;> (try with_reducible rfl))
        show wpAnyH _ _ _ _ _ _ _ (Act.put _ (some 76) _) _
        simp only [Act.put, List.setIfInBounds_toArray, List.set_cons_succ, List.set_cons_zero]
        refine wpAnyH_take (i := 23) (oi := _) (v := ?_) rfl (by kernel_rfl) (by kernel_rfl) (by kernel_rfl) (fun _ _ _ h => h) (Or.inl ⟨by rfl, ?_⟩) (by assumption) ?_
        rotate_left
        · ((intro w hSw; (try dsimp only at hSw); go_simp) <;> (try with_reducible rfl))
        show wpAnyH _ _ _ _ _ _ _ (Act.put _ (some 77) _) _
        simp only [Act.put, List.setIfInBounds_toArray, List.set_cons_succ, List.set_cons_zero]
        refine wpAnyH_take (i := 24) (oi := _) (v := ?_) rfl (by kernel_rfl) (by kernel_rfl) (by kernel_rfl) (fun _ _ _ h => h) (Or.inl ⟨by rfl, ?_⟩) (by assumption) ?_
        rotate_left
        · ((intro w hSw; (try dsimp only at hSw); go_simp) <;> (try with_reducible rfl))
        show wpAnyH _ _ _ _ _ _ _ (Act.put _ (some 78) _) _
        simp only [Act.put, List.setIfInBounds_toArray, List.set_cons_succ, List.set_cons_zero]
        refine wpAnyH_take (i := 25) (oi := _) (v := ?_) rfl (by kernel_rfl) (by kernel_rfl) (by kernel_rfl) (fun _ _ _ h => h) (Or.inl ⟨by rfl, ?_⟩) (by assumption) ?_
        rotate_left
        · ((intro w hSw; (try dsimp only at hSw); go_simp) <;> (try with_reducible rfl))
        show wpAnyH _ _ _ _ _ _ _ (Act.put _ (some 79) _) _
        simp only [Act.put, List.setIfInBounds_toArray, List.set_cons_succ, List.set_cons_zero]
        refine wpAnyH_take (i := 26) (oi := _) (v := ?_) rfl (by kernel_rfl) (by kernel_rfl) (by kernel_rfl) (fun _ _ _ h => h) (Or.inl ⟨by rfl, ?_⟩) (by assumption) ?_
        rotate_left
        · ((intro w hSw; (try dsimp only at hSw); go_simp) <;> (try with_reducible rfl))
        show wpAnyH _ _ _ _ _ _ _ (Act.put _ (some 80) _) _
        simp only [Act.put, List.setIfInBounds_toArray, List.set_cons_succ, List.set_cons_zero]
        refine wpAnyH_ready (rs := [18]) (by kernel_rfl) (by simp) ?_
        refine AllReadyH.cons (o := _) rfl (fun KK hKK => ?_) AllReadyH.nil
        go_simp
        (go_at_call 15; refine (HMi.out.go _).mono ?_; rintro e w9 ⟨rfl, hb⟩)
        have K'' : Hid (Below wr.heap.size wr w9) := (by first | exact K.out.trans (hb.mono K.out.size) | exact K.out.drew.trans (hb.mono K.out.drew.size))
        clear K hb
        have K := K''
        clear K''
        refine hKK.out _ _ ?_ (fun hHeld => ?_)
        · exact EE _ K.out
        clear hKK KK
        try simp only [Act.put]
        refine wpAnyH_ready (rs := [19]) (by kernel_rfl) (by simp) ?_
        refine AllReadyH.cons (o := _) rfl (fun KK hKK => ?_) AllReadyH.nil
        go_simp
        (go_at_call 14; refine (HTi.out.go _).mono ?_; rintro e w9 ⟨rfl, hb⟩)
        have K'' : Hid (Below wr.heap.size wr w9) := (by first | exact K.out.trans (hb.mono K.out.size) | exact K.out.drew.trans (hb.mono K.out.drew.size))
        clear K hb
        have K := K''
        clear K''
        refine hKK.out _ _ ?_ (fun hHeld => ?_)
        · exact EE _ K.out
        clear hKK KK
        try simp only [Act.put]
        refine wpAnyH_ready (rs := [20]) (by kernel_rfl) (by simp) ?_
        refine AllReadyH.cons (o := _) rfl (fun KK hKK => ?_) AllReadyH.nil
        go_simp
        (go_at_call 16; refine (HO.out _).mono ?_; rintro e w9 ⟨rfl, hb⟩)
        have K'' : Hid (Below wr.heap.size wr w9) := (by first | exact K.out.trans (hb.mono K.out.size) | exact K.out.drew.trans (hb.mono K.out.drew.size))
        clear K hb
        have K := K''
        clear K''
        refine hKK.out _ _ ?_ (fun hHeld => ?_)
        · exact EE _ K.out
        clear hKK KK
        try simp only [Act.put]
        refine wpAnyH_take (i := 21) (oi := _) (v := ?_) rfl (by kernel_rfl) (by kernel_rfl) (by kernel_rfl) (fun _ _ _ h => h) (Or.inl ⟨by rfl, ?_⟩) (by assumption) ?_
        rotate_left
        · ((intro w hSw; (try dsimp only at hSw); go_simp) <;> (try with_reducible rfl))
        show wpAnyH _ _ _ _ _ _ _ (Act.put _ (some 75) _) _
        simp only [Act.put, List.setIfInBounds_toArray, List.set_cons_succ, List.set_cons_zero]
        refine wpAnyH_take (i := 27) (oi := _) (v := ?_) rfl (by kernel_rfl) (by kernel_rfl) (by kernel_rfl) (fun _ _ _ h => h) (Or.inl ⟨by rfl, ?_⟩) (by assumption) ?_
        rotate_left
        · ((intro w hSw; (try dsimp only at hSw); go_simp) <;> (try with_reducible rfl))
        show wpAnyH _ _ _ _ _ _ _ (Act.put _ (some 81) _) _
        simp only [Act.put, List.setIfInBounds_toArray, List.set_cons_succ, List.set_cons_zero]
        refine wpAnyH_take (i := 28) (oi := _) (v := ?_) rfl (by kernel_rfl) (by kernel_rfl) (by kernel_rfl) (fun _ _ _ h => h) (Or.inl ⟨by rfl, ?_⟩) (by assumption) ?_
        rotate_left
        · ((intro w hSw; (try dsimp only at hSw); go_simp) <;> (try with_reducible rfl))
        show wpAnyH _ _ _ _ _ _ _ (Act.put _ (some 82) _) _
        simp only [Act.put, List.setIfInBounds_toArray, List.set_cons_succ, List.set_cons_zero]
        refine wpAnyH_take (i := 29) (oi := _) (v := ?_) rfl (by kernel_rfl) (by kernel_rfl) (by kernel_rfl) (fun _ _ _ h => h) (Or.inl ⟨by rfl, ?_⟩) (by assumption) ?_
        rotate_left
        · ((intro w hSw; (try dsimp only at hSw); go_simp) <;> (try with_reducible rfl))
        show wpAnyH _ _ _ _ _ _ _ (Act.put _ (some 83) _) _
        simp only [Act.put, List.setIfInBounds_toArray, List.set_cons_succ, List.set_cons_zero]
        refine wpAnyH_take (i := 30) (oi := _) (v := ?_) rfl (by kernel_rfl) (by kernel_rfl) (by kernel_rfl) (fun _ _ _ h => h) (Or.inl ⟨by rfl, ?_⟩) (by assumption) ?_
        rotate_left
        · ((intro w hSw; (try dsimp only at hSw); go_simp) <;> (try with_reducible rfl))
        show wpAnyH _ _ _ _ _ _ _ (Act.put _ (some 84) _) _
        simp only [Act.put, List.setIfInBounds_toArray, List.set_cons_succ, List.set_cons_zero]
        refine wpAnyH_take (i := 32) (oi := _) (v := ?_) rfl (by kernel_rfl) (by kernel_rfl) (by kernel_rfl) (fun _ _ _ h => h) (Or.inl ⟨by rfl, ?_⟩) (by assumption) ?_
        rotate_left
        · ((intro w hSw; (try dsimp only at hSw); go_simp) <;> (try with_reducible rfl))
        show wpAnyH _ _ _ _ _ _ _ (Act.put _ (some 86) _) _
        simp only [Act.put, List.setIfInBounds_toArray, List.set_cons_succ, List.set_cons_zero]
        refine wpAnyH_take (i := 35) (oi := _) (v := ?_) rfl (by kernel_rfl) (by kernel_rfl) (by kernel_rfl) (fun _ _ _ h => h) (Or.inl ⟨by rfl, ?_⟩) (by assumption) ?_
        rotate_left
        · ((intro w hSw; (try dsimp only at hSw); go_simp) <;> (try with_reducible rfl))
        show wpAnyH _ _ _ _ _ _ _ (Act.put _ (some 89) _) _
        simp only [Act.put, List.setIfInBounds_toArray, List.set_cons_succ, List.set_cons_zero]
        refine wpAnyH_take (i := 36) (oi := _) (v := ?_) rfl (by kernel_rfl) (by kernel_rfl) (by kernel_rfl) (fun _ _ _ h => h) (Or.inl ⟨by rfl, ?_⟩) (by assumption) ?_
        rotate_left
        · ((intro w hSw; (try dsimp only at hSw); go_simp) <;> (try with_reducible rfl))
        show wpAnyH _ _ _ _ _ _ _ (Act.put _ (some 90) _) _
        simp only [Act.put, List.setIfInBounds_toArray, List.set_cons_succ, List.set_cons_zero]
        refine wpAnyH_take (i := 37) (oi := _) (v := ?_) rfl (by kernel_rfl) (by kernel_rfl) (by kernel_rfl) (fun _ _ _ h => h) (Or.inl ⟨by rfl, ?_⟩) (by assumption) ?_
        rotate_left
        · ((intro w hSw; (try dsimp only at hSw); go_simp) <;> (try with_reducible rfl))
        show wpAnyH _ _ _ _ _ _ _ (Act.put _ (some 91) _) _
        simp only [Act.put, List.setIfInBounds_toArray, List.set_cons_succ, List.set_cons_zero]
        refine wpAnyH_take (i := 38) (oi := _) (v := ?_) rfl (by kernel_rfl) (by kernel_rfl) (by kernel_rfl) (fun _ _ _ h => h) (Or.inl ⟨by rfl, ?_⟩) (by assumption) ?_
        rotate_left
        · ((intro w hSw; (try dsimp only at hSw); go_simp) <;> (try with_reducible rfl))
        show wpAnyH _ _ _ _ _ _ _ (Act.put _ (some 92) _) _
        simp only [Act.put, List.setIfInBounds_toArray, List.set_cons_succ, List.set_cons_zero]
        refine wpAnyH_take (i := 40) (oi := _) (v := ?_) rfl (by kernel_rfl) (by kernel_rfl) (by kernel_rfl) (fun _ _ _ h => h) (Or.inl ⟨by rfl, ?_⟩) (by assumption) ?_
        rotate_left
        · ((intro w hSw; (try dsimp only at hSw); go_simp) <;> (try with_reducible rfl))
        show wpAnyH _ _ _ _ _ _ _ (Act.put _ (some 94) _) _
        simp only [Act.put, List.setIfInBounds_toArray, List.set_cons_succ, List.set_cons_zero]
        refine wpAnyH_take (i := 41) (oi := _) (v := ?_) rfl (by kernel_rfl) (by kernel_rfl) (by kernel_rfl) (fun _ _ _ h => h) (Or.inl ⟨by rfl, ?_⟩) (by assumption) ?_
        rotate_left
        · ((intro w hSw; (try dsimp only at hSw); go_simp) <;> (try with_reducible rfl))
        show wpAnyH _ _ _ _ _ _ _ (Act.put _ (some 95) _) _
        simp only [Act.put, List.setIfInBounds_toArray, List.set_cons_succ, List.set_cons_zero]
        refine wpAnyH_take (i := 42) (oi := _) (v := ?_) rfl (by kernel_rfl) (by kernel_rfl) (by kernel_rfl) (fun _ _ _ h => h) (Or.inl ⟨by rfl, ?_⟩) (by assumption) ?_
        rotate_left
        · ((intro w hSw; (try dsimp only at hSw); go_simp) <;> (try with_reducible rfl))
        show wpAnyH _ _ _ _ _ _ _ (Act.put _ (some 96) _) _
        simp only [Act.put, List.setIfInBounds_toArray, List.set_cons_succ, List.set_cons_zero]
        refine wpAnyH_take (i := 43) (oi := _) (v := ?_) rfl (by kernel_rfl) (by kernel_rfl) (by kernel_rfl) (fun _ _ _ h => h) (Or.inl ⟨by rfl, ?_⟩) (by assumption) ?_
        rotate_left
        · ((intro w hSw; (try dsimp only at hSw); go_simp) <;> (try with_reducible rfl))
        show wpAnyH _ _ _ _ _ _ _ (Act.put _ (some 97) _) _
        simp only [Act.put, List.setIfInBounds_toArray, List.set_cons_succ, List.set_cons_zero]
        refine wpAnyH_take (i := 44) (oi := _) (v := ?_) rfl (by kernel_rfl) (by kernel_rfl) (by kernel_rfl) (fun _ _ _ h => h) (Or.inl ⟨by rfl, ?_⟩) (by assumption) ?_
        rotate_left
        · ((intro w hSw; (try dsimp only at hSw); go_simp) <;> (try with_reducible rfl))
        show wpAnyH _ _ _ _ _ _ _ (Act.put _ (some 98) _) _
        simp only [Act.put, List.setIfInBounds_toArray, List.set_cons_succ, List.set_cons_zero]
        refine wpAnyH_ready (rs := [31]) (by kernel_rfl) (by simp) ?_
        refine AllReadyH.cons (o := _) rfl (fun KK hKK => ?_) AllReadyH.nil
        go_simp
        (go_at_call 17; refine (HRf.out _ (by first | exact K.out | exact K.out.drew)).mono ?_; rintro e w9 ⟨g', o', cap', rfl, y1, y0, hb⟩)
        have K'' : Hid (Below wr.heap.size wr w9) := (by first | exact K.out.trans (hb.mono K.out.size) | exact K.out.drew.trans (hb.mono K.out.drew.size))
        clear K hb
        have K := K''
        clear K''
        refine hKK.out _ _ ?_ (fun hHeld => ?_)
        · exact EE _ K.out
        clear hKK KK
        try simp only [Act.put]
        refine wpAnyH_take (i := 33) (oi := _) (v := ?_) rfl (by kernel_rfl) (by kernel_rfl) (by kernel_rfl) (fun _ _ _ h => h) (Or.inl ⟨by rfl, ?_⟩) (by assumption) ?_
        rotate_left
        · ((intro w hSw; (try dsimp only at hSw); go_simp) <;> (try with_reducible rfl))
        show wpAnyH _ _ _ _ _ _ _ (Act.put _ (some 87) _) _
        simp only [Act.put, List.setIfInBounds_toArray, List.set_cons_succ, List.set_cons_zero]
        refine wpAnyH_ready (rs := [34]) (by kernel_rfl) (by simp) ?_
        refine AllReadyH.cons (o := _) rfl (fun KK hKK => ?_) AllReadyH.nil
        go_simp
        (skip)
        skip
        refine hKK.out _ _ ?_ (fun hHeld => ?_)
        · exact EE _ K.out
        clear hKK KK
        try simp only [Act.put]
        refine wpAnyH_ready (rs := [39]) (by kernel_rfl) (by simp) ?_
        refine AllReadyH.cons (o := _) rfl (fun KK hKK => ?_) AllReadyH.nil
        go_simp
        (go_at_call 11; refine (HHi.out.go _).mono ?_; rintro e w9 ⟨rfl, hb⟩)
        have K'' : Hid (Below wr.heap.size wr w9) := (by first | exact K.out.trans (hb.mono K.out.size) | exact K.out.drew.trans (hb.mono K.out.drew.size))
        clear K hb
        have K := K''
        clear K''
        refine hKK.out _ _ ?_ (fun hHeld => ?_)
        · exact EE _ K.out
        clear hKK KK
        try simp only [Act.put]
        refine wpAnyH_take (i := 45) (oi := _) (v := ?_) rfl (by kernel_rfl) (by kernel_rfl) (by kernel_rfl) (fun _ _ _ h => h) (Or.inl ⟨by rfl, ?_⟩) (by assumption) ?_
        rotate_left
        · ((intro w hSw; (try dsimp only at hSw); go_simp) <;> (try with_reducible rfl))
        show wpAnyH _ _ _ _ _ _ _ (Act.put _ (some 99) _) _
        simp only [Act.put, List.setIfInBounds_toArray, List.set_cons_succ, List.set_cons_zero]
        refine wpAnyH_take (i := 46) (oi := _) (v := ?_) rfl (by kernel_rfl) (by kernel_rfl) (by kernel_rfl) (fun _ _ _ h => h) (Or.inl ⟨by rfl, ?_⟩) (by assumption) ?_
        rotate_left
        · ((intro w hSw; (try dsimp only at hSw); go_simp) <;> (try with_reducible rfl))
        show wpAnyH _ _ _ _ _ _ _ (Act.put _ (some 100) _) _
        simp only [Act.put, List.setIfInBounds_toArray, List.set_cons_succ, List.set_cons_zero]
        refine wpAnyH_done (by kernel_rfl) ?_ _
        refine NoPanic.normal ?_
        have K9 := hidT (K0.out.below K.out)
        clear EE K K0 HMi HTi HRf HHi hHeld
        go_wp2
        exact ⟨⟨i + 1, hlt, by simp, K9⟩, by simp [intOf]; omega⟩
      · replace HTi : Hid (Ret 14 #[.int .i64 (k : Int), .int .i64 0, .agg #[.int .u64 (P.1 : Int), .int .u64 (P.2 : Int)]] (.agg #[.int .u64 0, .int .u64 1])) := HTi
        obtain ⟨c1, c2', c3', c4, c5, c6⟩ := EE _ (Below.refl _ _)
        have K : Hid (Below wr.heap.size wr wr) := Below.refl _ _
        go_upto_region 13 with fail
        refine wp_region_noPanic ?_
        refine wp_region_held_drew (S := fun w => w.cell? ⟨W.heap.size, 0, none⟩ = some (.slice (some ⟨gb, ob, none⟩) n c) ∧ w.cell? ⟨gb, ob + i, none⟩ = some (.bool true) ∧ w.cell? ⟨g, kk * 2, none⟩ = some (.int .u64 (x.1 : Int)) ∧ w.cell? ⟨g, kk * 2 + 1, none⟩ = some (.int .u64 (x.2 : Int)) ∧ w.cell? ⟨gd, jj * 2, none⟩ = some (.int .u64 (d.1 : Int)) ∧ w.cell? ⟨gd, jj * 2 + 1, none⟩ = some (.int .u64 (d.2 : Int))) (by kernel_rfl) (EE _ (Below.refl _ _).drew) (fun hHeld => ?_)
        refine wpAnyH_take (i := 0) (oi := _) (v := ?_) rfl (by kernel_rfl) (by kernel_rfl) (by kernel_rfl) (fun _ _ _ h => h) (Or.inl ⟨by rfl, ?_⟩) (by assumption) ?_
        rotate_left
        · ((intro w hSw; (try dsimp only at hSw); go_simp) <;> (try with_reducible rfl))
        show wpAnyH _ _ _ _ _ _ _ (Act.put _ (some 54) _) _
        simp only [Act.put, List.setIfInBounds_toArray, List.set_cons_succ, List.set_cons_zero]
        refine wpAnyH_take (i := 1) (oi := _) (v := ?_) rfl (by kernel_rfl) (by kernel_rfl) (by kernel_rfl) (fun _ _ _ h => h) (Or.inl ⟨by rfl, ?_⟩) (by assumption) ?_
        rotate_left
        · ((intro w hSw; (try dsimp only at hSw); go_simp) <;> (try with_reducible rfl))
        show wpAnyH _ _ _ _ _ _ _ (Act.put _ (some 55) _) _
        simp only [Act.put, List.setIfInBounds_toArray, List.set_cons_succ, List.set_cons_zero]
        refine wpAnyH_take (i := 2) (oi := _) (v := ?_) rfl (by kernel_rfl) (by kernel_rfl) (by kernel_rfl) (fun _ _ _ h => h) (Or.inl ⟨by rfl, ?_⟩) (by assumption) ?_
        rotate_left
        · ((intro w hSw; (try dsimp only at hSw); go_simp) <;> (try with_reducible rfl))
        show wpAnyH _ _ _ _ _ _ _ (Act.put _ (some 56) _) _
        simp only [Act.put, List.setIfInBounds_toArray, List.set_cons_succ, List.set_cons_zero]
        refine wpAnyH_take (i := 3) (oi := _) (v := ?_) rfl (by kernel_rfl) (by kernel_rfl) (by kernel_rfl) (fun _ _ _ h => h) (Or.inl ⟨by rfl, ?_⟩) (by assumption) ?_
        rotate_left
        · ((intro w hSw; (try dsimp only at hSw); go_simp) <;> (try with_reducible rfl))
        show wpAnyH _ _ _ _ _ _ _ (Act.put _ (some 57) _) _
        simp only [Act.put, List.setIfInBounds_toArray, List.set_cons_succ, List.set_cons_zero]
        refine wpAnyH_take (i := 4) (oi := _) (v := ?_) rfl (by kernel_rfl) (by kernel_rfl) (by kernel_rfl) (fun _ _ _ h => h) (Or.inl ⟨by rfl, ?_⟩) (by assumption) ?_
        rotate_left
        · ((intro w hSw; (try dsimp only at hSw); go_simp) <;> (try with_reducible rfl))
        show wpAnyH _ _ _ _ _ _ _ (Act.put _ (some 58) _) _
        simp only [Act.put, List.setIfInBounds_toArray, List.set_cons_succ, List.set_cons_zero]
        refine wpAnyH_take (i := 5) (oi := _) (v := ?_) rfl (by kernel_rfl) (by kernel_rfl) (by kernel_rfl) (fun _ _ _ h => h) (Or.inl ⟨by rfl, ?_⟩) (by assumption) ?_
        rotate_left
        · ((intro w hSw; (try dsimp only at hSw); go_simp) <;> (try with_reducible rfl))
        show wpAnyH _ _ _ _ _ _ _ (Act.put _ (some 59) _) _
        simp only [Act.put, List.setIfInBounds_toArray, List.set_cons_succ, List.set_cons_zero]
        refine wpAnyH_take (i := 6) (oi := _) (v := ?_) rfl (by kernel_rfl) (by kernel_rfl) (by kernel_rfl) (fun _ _ _ h => h) (Or.inl ⟨by rfl, ?_⟩) (by assumption) ?_
        rotate_left
        · ((intro w hSw; (try dsimp only at hSw); go_simp) <;> (try with_reducible rfl))
        show wpAnyH _ _ _ _ _ _ _ (Act.put _ (some 60) _) _
        simp only [Act.put, List.setIfInBounds_toArray, List.set_cons_succ, List.set_cons_zero]
        refine wpAnyH_take (i := 7) (oi := _) (v := ?_) rfl (by kernel_rfl) (by kernel_rfl) (by kernel_rfl) (fun _ _ _ h => h) (Or.inl ⟨by rfl, ?_⟩) (by assumption) ?_
        rotate_left
        · ((intro w hSw; (try dsimp only at hSw); go_simp) <;> (try with_reducible rfl))
        show wpAnyH _ _ _ _ _ _ _ (Act.put _ (some 61) _) _
        simp only [Act.put, List.setIfInBounds_toArray, List.set_cons_succ, List.set_cons_zero]
        refine wpAnyH_take (i := 8) (oi := _) (v := ?_) rfl (by kernel_rfl) (by kernel_rfl) (by kernel_rfl) (fun _ _ _ h => h) (Or.inl ⟨by rfl, ?_⟩) (by assumption) ?_
        rotate_left
        · ((intro w hSw; (try dsimp only at hSw); go_simp) <;> (try with_reducible rfl))
        show wpAnyH _ _ _ _ _ _ _ (Act.put _ (some 62) _) _
        simp only [Act.put, List.setIfInBounds_toArray, List.set_cons_succ, List.set_cons_zero]
        refine wpAnyH_take (i := 9) (oi := _) (v := ?_) rfl (by kernel_rfl) (by kernel_rfl) (by kernel_rfl) (fun _ _ _ h => h) (Or.inl ⟨by rfl, ?_⟩) (by assumption) ?_
        rotate_left
        · ((intro w hSw; (try dsimp only at hSw); go_simp) <;> (try with_reducible rfl))
        show wpAnyH _ _ _ _ _ _ _ (Act.put _ (some 63) _) _
        simp only [Act.put, List.setIfInBounds_toArray, List.set_cons_succ, List.set_cons_zero]
        refine wpAnyH_take (i := 10) (oi := _) (v := ?_) rfl (by kernel_rfl) (by kernel_rfl) (by kernel_rfl) (fun _ _ _ h => h) (Or.inl ⟨by rfl, ?_⟩) (by assumption) ?_
        rotate_left
        · ((intro w hSw; (try dsimp only at hSw); go_simp) <;> (try with_reducible rfl))
        show wpAnyH _ _ _ _ _ _ _ (Act.put _ (some 64) _) _
        simp only [Act.put, List.setIfInBounds_toArray, List.set_cons_succ, List.set_cons_zero]
        refine wpAnyH_take (i := 11) (oi := _) (v := ?_) rfl (by kernel_rfl) (by kernel_rfl) (by kernel_rfl) (fun _ _ _ h => h) (Or.inl ⟨by rfl, ?_⟩) (by assumption) ?_
        rotate_left
        · ((intro w hSw; (try dsimp only at hSw); go_simp) <;> (try with_reducible rfl))
        show wpAnyH _ _ _ _ _ _ _ (Act.put _ (some 65) _) _
        simp only [Act.put, List.setIfInBounds_toArray, List.set_cons_succ, List.set_cons_zero]
        refine wpAnyH_take (i := 12) (oi := _) (v := ?_) rfl (by kernel_rfl) (by kernel_rfl) (by kernel_rfl) (fun _ _ _ h => h) (Or.inl ⟨by rfl, ?_⟩) (by assumption) ?_
        rotate_left
        · ((intro w hSw; (try dsimp only at hSw); go_simp) <;> (try with_reducible rfl))
        show wpAnyH _ _ _ _ _ _ _ (Act.put _ (some 66) _) _
        simp only [Act.put, List.setIfInBounds_toArray, List.set_cons_succ, List.set_cons_zero]
        refine wpAnyH_take (i := 13) (oi := _) (v := ?_) rfl (by kernel_rfl) (by kernel_rfl) (by kernel_rfl) (fun _ _ _ h => h) (Or.inl ⟨by rfl, ?_⟩) (by assumption) ?_
        rotate_left
        · ((intro w hSw; (try dsimp only at hSw); go_simp) <;> (try with_reducible rfl))
        show wpAnyH _ _ _ _ _ _ _ (Act.put _ (some 67) _) _
        simp only [Act.put, List.setIfInBounds_toArray, List.set_cons_succ, List.set_cons_zero]
        refine wpAnyH_take (i := 14) (oi := _) (v := ?_) rfl (by kernel_rfl) (by kernel_rfl) (by kernel_rfl) (fun _ _ _ h => h) (Or.inl ⟨by rfl, ?_⟩) (by assumption) ?_
        rotate_left
        · ((intro w hSw; (try dsimp only at hSw); go_simp) <;> (try with_reducible rfl))
        show wpAnyH _ _ _ _ _ _ _ (Act.put _ (some 68) _) _
        simp only [Act.put, List.setIfInBounds_toArray, List.set_cons_succ, List.set_cons_zero]
        refine wpAnyH_take (i := 15) (oi := _) (v := ?_) rfl (by kernel_rfl) (by kernel_rfl) (by kernel_rfl) (fun _ _ _ h => h) (Or.inl ⟨by rfl, ?_⟩) (by assumption) ?_
        rotate_left
        · ((intro w hSw; (try dsimp only at hSw); go_simp) <;> (try with_reducible rfl))
        show wpAnyH _ _ _ _ _ _ _ (Act.put _ (some 69) _) _
        simp only [Act.put, List.setIfInBounds_toArray, List.set_cons_succ, List.set_cons_zero]
        refine wpAnyH_take (i := 16) (oi := _) (v := ?_) rfl (by kernel_rfl) (by kernel_rfl) (by kernel_rfl) (fun _ _ _ h => h) (Or.inl ⟨by rfl, ?_⟩) (by assumption) ?_
        rotate_left
        · ((intro w hSw; (try dsimp only at hSw); go_simp) <;> (try with_reducible rfl))
        show wpAnyH _ _ _ _ _ _ _ (Act.put _ (some 70) _) _
        simp only [Act.put, List.setIfInBounds_toArray, List.set_cons_succ, List.set_cons_zero]
        refine wpAnyH_take (i := 17) (oi := _) (v := ?_) rfl (by kernel_rfl) (by kernel_rfl) (by kernel_rfl) (fun _ _ _ h => h) (Or.inl ⟨by rfl, ?_⟩) (by assumption) ?_
        rotate_left
        · ((intro w hSw; (try dsimp only at hSw); go_simp) <;> (try with_reducible rfl))
        show wpAnyH _ _ _ _ _ _ _ (Act.put _ (some 71) _) _
        simp only [Act.put, List.setIfInBounds_toArray, List.set_cons_succ, List.set_cons_zero]
        refine wpAnyH_take (i := 22) (oi := _) (v := ?_) rfl (by kernel_rfl) (by kernel_rfl) (by kernel_rfl) (fun _ _ _ h => h) (Or.inl ⟨by rfl, ?_⟩) (by assumption) ?_
        rotate_left
        · ((intro w hSw; (try dsimp only at hSw); go_simp) <;> (try with_reducible rfl))
        show wpAnyH _ _ _ _ _ _ _ (Act.put _ (some 76) _) _
        simp only [Act.put, List.setIfInBounds_toArray, List.set_cons_succ, List.set_cons_zero]
        refine wpAnyH_take (i := 23) (oi := _) (v := ?_) rfl (by kernel_rfl) (by kernel_rfl) (by kernel_rfl) (fun _ _ _ h => h) (Or.inl ⟨by rfl, ?_⟩) (by assumption) ?_
        rotate_left
        · ((intro w hSw; (try dsimp only at hSw); go_simp) <;> (try with_reducible rfl))
        show wpAnyH _ _ _ _ _ _ _ (Act.put _ (some 77) _) _
        simp only [Act.put, List.setIfInBounds_toArray, List.set_cons_succ, List.set_cons_zero]
        refine wpAnyH_take (i := 24) (oi := _) (v := ?_) rfl (by kernel_rfl) (by kernel_rfl) (by kernel_rfl) (fun _ _ _ h => h) (Or.inl ⟨by rfl, ?_⟩) (by assumption) ?_
        rotate_left
        · ((intro w hSw; (try dsimp only at hSw); go_simp) <;> (try with_reducible rfl))
        show wpAnyH _ _ _ _ _ _ _ (Act.put _ (some 78) _) _
        simp only [Act.put, List.setIfInBounds_toArray, List.set_cons_succ, List.set_cons_zero]
        refine wpAnyH_take (i := 25) (oi := _) (v := ?_) rfl (by kernel_rfl) (by kernel_rfl) (by kernel_rfl) (fun _ _ _ h => h) (Or.inl ⟨by rfl, ?_⟩) (by assumption) ?_
        rotate_left
        · ((intro w hSw; (try dsimp only at hSw); go_simp) <;> (try with_reducible rfl))
        show wpAnyH _ _ _ _ _ _ _ (Act.put _ (some 79) _) _
        simp only [Act.put, List.setIfInBounds_toArray, List.set_cons_succ, List.set_cons_zero]
        refine wpAnyH_take (i := 26) (oi := _) (v := ?_) rfl (by kernel_rfl) (by kernel_rfl) (by kernel_rfl) (fun _ _ _ h => h) (Or.inl ⟨by rfl, ?_⟩) (by assumption) ?_
        rotate_left
        · ((intro w hSw; (try dsimp only at hSw); go_simp) <;> (try with_reducible rfl))
        show wpAnyH _ _ _ _ _ _ _ (Act.put _ (some 80) _) _
        simp only [Act.put, List.setIfInBounds_toArray, List.set_cons_succ, List.set_cons_zero]
        refine wpAnyH_ready (rs := [18]) (by kernel_rfl) (by simp) ?_
        refine AllReadyH.cons (o := _) rfl (fun KK hKK => ?_) AllReadyH.nil
        go_simp
        (go_at_call 15; refine (HMi.out.go _).mono ?_; rintro e w9 ⟨rfl, hb⟩)
        have K'' : Hid (Below wr.heap.size wr w9) := (by first | exact K.out.trans (hb.mono K.out.size) | exact K.out.drew.trans (hb.mono K.out.drew.size))
        clear K hb
        have K := K''
        clear K''
        refine hKK.out _ _ ?_ (fun hHeld => ?_)
        · exact EE _ K.out
        clear hKK KK
        try simp only [Act.put]
        refine wpAnyH_ready (rs := [19]) (by kernel_rfl) (by simp) ?_
        refine AllReadyH.cons (o := _) rfl (fun KK hKK => ?_) AllReadyH.nil
        go_simp
        (go_at_call 14; refine (HTi.out.go _).mono ?_; rintro e w9 ⟨rfl, hb⟩)
        have K'' : Hid (Below wr.heap.size wr w9) := (by first | exact K.out.trans (hb.mono K.out.size) | exact K.out.drew.trans (hb.mono K.out.drew.size))
        clear K hb
        have K := K''
        clear K''
        refine hKK.out _ _ ?_ (fun hHeld => ?_)
        · exact EE _ K.out
        clear hKK KK
        try simp only [Act.put]
        refine wpAnyH_ready (rs := [20]) (by kernel_rfl) (by simp) ?_
        refine AllReadyH.cons (o := _) rfl (fun KK hKK => ?_) AllReadyH.nil
        go_simp
        (go_at_call 16; refine (HO.out _).mono ?_; rintro e w9 ⟨rfl, hb⟩)
        have K'' : Hid (Below wr.heap.size wr w9) := (by first | exact K.out.trans (hb.mono K.out.size) | exact K.out.drew.trans (hb.mono K.out.drew.size))
        clear K hb
        have K := K''
        clear K''
        refine hKK.out _ _ ?_ (fun hHeld => ?_)
        · exact EE _ K.out
        clear hKK KK
        try simp only [Act.put]
        refine wpAnyH_take (i := 21) (oi := _) (v := ?_) rfl (by kernel_rfl) (by kernel_rfl) (by kernel_rfl) (fun _ _ _ h => h) (Or.inl ⟨by rfl, ?_⟩) (by assumption) ?_
        rotate_left
        · ((intro w hSw; (try dsimp only at hSw); go_simp) <;> (try with_reducible rfl))
        show wpAnyH _ _ _ _ _ _ _ (Act.put _ (some 75) _) _
        simp only [Act.put, List.setIfInBounds_toArray, List.set_cons_succ, List.set_cons_zero]
        refine wpAnyH_take (i := 27) (oi := _) (v := ?_) rfl (by kernel_rfl) (by kernel_rfl) (by kernel_rfl) (fun _ _ _ h => h) (Or.inl ⟨by rfl, ?_⟩) (by assumption) ?_
        rotate_left
        · ((intro w hSw; (try dsimp only at hSw); go_simp) <;> (try with_reducible rfl))
        show wpAnyH _ _ _ _ _ _ _ (Act.put _ (some 81) _) _
        simp only [Act.put, List.setIfInBounds_toArray, List.set_cons_succ, List.set_cons_zero]
        refine wpAnyH_take (i := 28) (oi := _) (v := ?_) rfl (by kernel_rfl) (by kernel_rfl) (by kernel_rfl) (fun _ _ _ h => h) (Or.inl ⟨by rfl, ?_⟩) (by assumption) ?_
        rotate_left
        · ((intro w hSw; (try dsimp only at hSw); go_simp) <;> (try with_reducible rfl))
        show wpAnyH _ _ _ _ _ _ _ (Act.put _ (some 82) _) _
        simp only [Act.put, List.setIfInBounds_toArray, List.set_cons_succ, List.set_cons_zero]
        refine wpAnyH_take (i := 29) (oi := _) (v := ?_) rfl (by kernel_rfl) (by kernel_rfl) (by kernel_rfl) (fun _ _ _ h => h) (Or.inl ⟨by rfl, ?_⟩) (by assumption) ?_
        rotate_left
        · ((intro w hSw; (try dsimp only at hSw); go_simp) <;> (try with_reducible rfl))
        show wpAnyH _ _ _ _ _ _ _ (Act.put _ (some 83) _) _
        simp only [Act.put, List.setIfInBounds_toArray, List.set_cons_succ, List.set_cons_zero]
        refine wpAnyH_take (i := 30) (oi := _) (v := ?_) rfl (by kernel_rfl) (by kernel_rfl) (by kernel_rfl) (fun _ _ _ h => h) (Or.inl ⟨by rfl, ?_⟩) (by assumption) ?_
        rotate_left
        · ((intro w hSw; (try dsimp only at hSw); go_simp) <;> (try with_reducible rfl))
        show wpAnyH _ _ _ _ _ _ _ (Act.put _ (some 84) _) _
        simp only [Act.put, List.setIfInBounds_toArray, List.set_cons_succ, List.set_cons_zero]
        refine wpAnyH_take (i := 32) (oi := _) (v := ?_) rfl (by kernel_rfl) (by kernel_rfl) (by kernel_rfl) (fun _ _ _ h => h) (Or.inl ⟨by rfl, ?_⟩) (by assumption) ?_
        rotate_left
        · ((intro w hSw; (try dsimp only at hSw); go_simp) <;> (try with_reducible rfl))
        show wpAnyH _ _ _ _ _ _ _ (Act.put _ (some 86) _) _
        simp only [Act.put, List.setIfInBounds_toArray, List.set_cons_succ, List.set_cons_zero]
        refine wpAnyH_take (i := 35) (oi := _) (v := ?_) rfl (by kernel_rfl) (by kernel_rfl) (by kernel_rfl) (fun _ _ _ h => h) (Or.inl ⟨by rfl, ?_⟩) (by assumption) ?_
        rotate_left
        · ((intro w hSw; (try dsimp only at hSw); go_simp) <;> (try with_reducible rfl))
        show wpAnyH _ _ _ _ _ _ _ (Act.put _ (some 89) _) _
        simp only [Act.put, List.setIfInBounds_toArray, List.set_cons_succ, List.set_cons_zero]
        refine wpAnyH_take (i := 36) (oi := _) (v := ?_) rfl (by kernel_rfl) (by kernel_rfl) (by kernel_rfl) (fun _ _ _ h => h) (Or.inl ⟨by rfl, ?_⟩) (by assumption) ?_
        rotate_left
        · ((intro w hSw; (try dsimp only at hSw); go_simp) <;> (try with_reducible rfl))
        show wpAnyH _ _ _ _ _ _ _ (Act.put _ (some 90) _) _
        simp only [Act.put, List.setIfInBounds_toArray, List.set_cons_succ, List.set_cons_zero]
        refine wpAnyH_take (i := 37) (oi := _) (v := ?_) rfl (by kernel_rfl) (by kernel_rfl) (by kernel_rfl) (fun _ _ _ h => h) (Or.inl ⟨by rfl, ?_⟩) (by assumption) ?_
        rotate_left
        · ((intro w hSw; (try dsimp only at hSw); go_simp) <;> (try with_reducible rfl))
        show wpAnyH _ _ _ _ _ _ _ (Act.put _ (some 91) _) _
        simp only [Act.put, List.setIfInBounds_toArray, List.set_cons_succ, List.set_cons_zero]
        refine wpAnyH_take (i := 38) (oi := _) (v := ?_) rfl (by kernel_rfl) (by kernel_rfl) (by kernel_rfl) (fun _ _ _ h => h) (Or.inl ⟨by rfl, ?_⟩) (by assumption) ?_
        rotate_left
        · ((intro w hSw; (try dsimp only at hSw); go_simp) <;> (try with_reducible rfl))
        show wpAnyH _ _ _ _ _ _ _ (Act.put _ (some 92) _) _
        simp only [Act.put, List.setIfInBounds_toArray, List.set_cons_succ, List.set_cons_zero]
        refine wpAnyH_take (i := 40) (oi := _) (v := ?_) rfl (by kernel_rfl) (by kernel_rfl) (by kernel_rfl) (fun _ _ _ h => h) (Or.inl ⟨by rfl, ?_⟩) (by assumption) ?_
        rotate_left
        · ((intro w hSw; (try dsimp only at hSw); go_simp) <;> (try with_reducible rfl))
        show wpAnyH _ _ _ _ _ _ _ (Act.put _ (some 94) _) _
        simp only [Act.put, List.setIfInBounds_toArray, List.set_cons_succ, List.set_cons_zero]
        refine wpAnyH_take (i := 41) (oi := _) (v := ?_) rfl (by kernel_rfl) (by kernel_rfl) (by kernel_rfl) (fun _ _ _ h => h) (Or.inl ⟨by rfl, ?_⟩) (by assumption) ?_
        rotate_left
        · ((intro w hSw; (try dsimp only at hSw); go_simp) <;> (try with_reducible rfl))
        show wpAnyH _ _ _ _ _ _ _ (Act.put _ (some 95) _) _
        simp only [Act.put, List.setIfInBounds_toArray, List.set_cons_succ, List.set_cons_zero]
        refine wpAnyH_take (i := 42) (oi := _) (v := ?_) rfl (by kernel_rfl) (by kernel_rfl) (by kernel_rfl) (fun _ _ _ h => h) (Or.inl ⟨by rfl, ?_⟩) (by assumption) ?_
        rotate_left
        · ((intro w hSw; (try dsimp only at hSw); go_simp) <;> (try with_reducible rfl))
        show wpAnyH _ _ _ _ _ _ _ (Act.put _ (some 96) _) _
        simp only [Act.put, List.setIfInBounds_toArray, List.set_cons_succ, List.set_cons_zero]
        refine wpAnyH_take (i := 43) (oi := _) (v := ?_) rfl (by kernel_rfl) (by kernel_rfl) (by kernel_rfl) (fun _ _ _ h => h) (Or.inl ⟨by rfl, ?_⟩) (by assumption) ?_
        rotate_left
        · ((intro w hSw; (try dsimp only at hSw); go_simp) <;> (try with_reducible rfl))
        show wpAnyH _ _ _ _ _ _ _ (Act.put _ (some 97) _) _
        simp only [Act.put, List.setIfInBounds_toArray, List.set_cons_succ, List.set_cons_zero]
        refine wpAnyH_take (i := 44) (oi := _) (v := ?_) rfl (by kernel_rfl) (by kernel_rfl) (by kernel_rfl) (fun _ _ _ h => h) (Or.inl ⟨by rfl, ?_⟩) (by assumption) ?_
        rotate_left
        · ((intro w hSw; (try dsimp only at hSw); go_simp) <;> (try with_reducible rfl))
        show wpAnyH _ _ _ _ _ _ _ (Act.put _ (some 98) _) _
        simp only [Act.put, List.setIfInBounds_toArray, List.set_cons_succ, List.set_cons_zero]
        refine wpAnyH_ready (rs := [31]) (by kernel_rfl) (by simp) ?_
        refine AllReadyH.cons (o := _) rfl (fun KK hKK => ?_) AllReadyH.nil
        go_simp
        (go_at_call 17; refine (HRf.out _ (by first | exact K.out | exact K.out.drew)).mono ?_; rintro e w9 ⟨g', o', cap', rfl, y1, y0, hb⟩)
        have K'' : Hid (Below wr.heap.size wr w9) := (by first | exact K.out.trans (hb.mono K.out.size) | exact K.out.drew.trans (hb.mono K.out.drew.size))
        clear K hb
        have K := K''
        clear K''
        refine hKK.out _ _ ?_ (fun hHeld => ?_)
        · exact EE _ K.out
        clear hKK KK
        try simp only [Act.put]
        refine wpAnyH_take (i := 33) (oi := _) (v := ?_) rfl (by kernel_rfl) (by kernel_rfl) (by kernel_rfl) (fun _ _ _ h => h) (Or.inl ⟨by rfl, ?_⟩) (by assumption) ?_
        rotate_left
        · ((intro w hSw; (try dsimp only at hSw); go_simp) <;> (try with_reducible rfl))
        show wpAnyH _ _ _ _ _ _ _ (Act.put _ (some 87) _) _
        simp only [Act.put, List.setIfInBounds_toArray, List.set_cons_succ, List.set_cons_zero]
        refine wpAnyH_ready (rs := [34]) (by kernel_rfl) (by simp) ?_
        refine AllReadyH.cons (o := _) rfl (fun KK hKK => ?_) AllReadyH.nil
        go_simp
        (skip)
        skip
        refine hKK.out _ _ ?_ (fun hHeld => ?_)
        · exact EE _ K.out
        clear hKK KK
        try simp only [Act.put]
        refine wpAnyH_ready (rs := [39]) (by kernel_rfl) (by simp) ?_
        refine AllReadyH.cons (o := _) rfl (fun KK hKK => ?_) AllReadyH.nil
        go_simp
        (go_at_call 11; refine (HHi.out.go _).mono ?_; rintro e w9 ⟨rfl, hb⟩)
        have K'' : Hid (Below wr.heap.size wr w9) := (by first | exact K.out.trans (hb.mono K.out.size) | exact K.out.drew.trans (hb.mono K.out.drew.size))
        clear K hb
        have K := K''
        clear K''
        refine hKK.out _ _ ?_ (fun hHeld => ?_)
        · exact EE _ K.out
        clear hKK KK
        try simp only [Act.put]
        refine wpAnyH_take (i := 45) (oi := _) (v := ?_) rfl (by kernel_rfl) (by kernel_rfl) (by kernel_rfl) (fun _ _ _ h => h) (Or.inl ⟨by rfl, ?_⟩) (by assumption) ?_
        rotate_left
        · ((intro w hSw; (try dsimp only at hSw); go_simp) <;> (try with_reducible rfl))
        show wpAnyH _ _ _ _ _ _ _ (Act.put _ (some 99) _) _
        simp only [Act.put, List.setIfInBounds_toArray, List.set_cons_succ, List.set_cons_zero]
        refine wpAnyH_take (i := 46) (oi := _) (v := ?_) rfl (by kernel_rfl) (by kernel_rfl) (by kernel_rfl) (fun _ _ _ h => h) (Or.inl ⟨by rfl, ?_⟩) (by assumption) ?_
        rotate_left
        · ((intro w hSw; (try dsimp only at hSw); go_simp) <;> (try with_reducible rfl))
        show wpAnyH _ _ _ _ _ _ _ (Act.put _ (some 100) _) _
        simp only [Act.put, List.setIfInBounds_toArray, List.set_cons_succ, List.set_cons_zero]
        refine wpAnyH_done (by kernel_rfl) ?_ _
        refine NoPanic.normal ?_
        have K9 := hidT (K0.out.below K.out)
        clear EE K K0 HMi HTi HRf HHi hHeld
        go_wp2
        exact ⟨⟨i + 1, hlt, by simp, K9⟩, by simp [intOf]; omega⟩
    · have c0 := K0.out.c0
      rw [hnn.out] at c0
      obtain rfl : n = i := by omega
      clear HM HT HD H2 HP
      go_wp2
      go_ret
      exact ⟨rfl, K0.out.l⟩
theorem td_any (l : Int) (a a2 a3 : Option Addr) (n2 n3 c c2 c3 : Nat) (bs : List Bool) (W : World) (ra : BRow W a bs) : Calls Try.prog 4 #[.int .i64 l, .agg #[.slice a bs.length c, .slice a2 n2 c2, .slice a3 n3 c3]] W fun e w' => e = .returned (.bool true) ∧ Below W.heap.size W w' := by
  by_cases h : 130 < bs.length ∨ l < 0 ∨ 5 < l
  · exact (td_far l a a2 a3 bs.length n2 n3 c c2 c3 h).go W
  · by_cases he : hvE l bs.length = 0
    · obtain ⟨k, rfl⟩ : ∃ k : Nat, l = (k : Int) := ⟨l.toNat, by omega⟩
      exact td_ok k (by omega) a a2 a3 n2 n3 c c2 c3 bs (by omega) W ra he
    · exact (td_err l a a2 a3 bs.length n2 n3 c c2 c3 (by omega) (by omega) (by omega) he).go W
end Go.Proofs.Ytjdfbjdbfncofaa
