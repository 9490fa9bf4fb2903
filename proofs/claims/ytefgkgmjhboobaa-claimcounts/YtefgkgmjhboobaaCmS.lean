/- ClaimCounts over the seat's translation: level 0. -/
import Derived.Test.YtefgkgmjhboobaaCmQ
namespace Go.Proofs.Ytefgkgmjhboobaa
open Go.RowKit
open Cb
open Cm
open Tw (pm)

set_option maxHeartbeats 40000000 in
set_option maxRecDepth 100000 in
theorem ccm0 (a c : Option Addr) (cap cap2 n : Nat) (cl : List Stp) (vs : List (Nat × Nat)) (hcl : cl.length = n) (hvl : vs.length = n) (h12 : n ≤ 12) (oc : okC cl) (lv : ltE vs) (ov : ofT 0 vs) (W : World) (ra : ORow W a cl) (rv : ERow W c vs) :
    Calls Try.prog 6 #[.int .i64 0, .slice a n cap, .slice c n cap2] W fun e w' => e = .returned (.bool true) ∧ Below W.heap.size W w' := by
  have AW := hidC awake22
  have HR := hidC (ref_row c cap2 vs (by omega) W rv)
  have HA := hidC (fun (w : World) (g : Option Addr) (cp : Nat) (h : ERow w g vs) => rall15 0 g cp vs lv w h (by omega))
  rw [show (vs.all fun e => ofB 0 (e.1 : Int) (e.2 : Int)) = true from all_of.2 ov] at HA
  rw [hvl] at HR HA
  have HIN : Hid (ORow W a cl ∧ ERow W c vs ∧ cl.length = n ∧ vs.length = n ∧ okC cl ∧ ltE vs ∧ ofT 0 vs) := ⟨ra, rv, hcl, hvl, oc, lv, ov⟩
  obtain ⟨i0, hi0, hz0, hz1, hz2⟩ := info_clm
  have HI : Hid (Try.prog.info? 60 = some i0 ∧ i0.zero = some (.agg #[.int .i64 0, .int .i64 0, .int .i64 0, .int .u64 0, .int .u64 0]) ∧ i0.size = 5 ∧ i0.bytes = 40) := ⟨hi0, hz0, hz1, hz2⟩
  have h12' : ¬ 12 < (n : Int) := by omega
  have HOL : Hid ((otl cl vs).length = n) := by show _ = _; rw [otl_len, hcl]
  clear hi0 hz0 hz1 hz2 ra rv hcl hvl oc lv ov
  go_enter Try.func6, Try.ntmps6
  go_wp2_with (first | (go_at_call 16; refine (HR.out).mono ?_; rintro e w1 ⟨g1, c1, rfl, hr1, hb1⟩) | (go_at_call 23; refine (HA.out _ _ _ hr1).mono ?_; rintro e w2 ⟨rfl, hb2⟩))
  have K2 : Hid (Below W.heap.size W w2) := hb1.trans (hb2.mono hb1.size)
  clear hb1 hb2 hr1 HR HA
  go_loopw [7, 8, 9] (fun sm s u wr => ∃ i : Nat, i ≤ n ∧ u = .int .i64 i ∧ sm = .bool (smB cl vs i) ∧ Hid ((cl.take i).all (fun o => ofB 0 (o.v.1 : Int) (o.v.2 : Int)) = true) ∧ Hid (wr.ownsRow w2.heap.size 60 5 s i (sflC ((otl cl vs).take i)) ∧ Below w2.heap.size w2 wr)) (fun _ _ u _ => n - (intOf u).toNat)
  case atStart => exact ⟨0, Nat.zero_le _, rfl, rfl, (by rfl), ⟨⟨by simp [sflC], .inl ⟨rfl, rfl⟩⟩, Below.refl _ _⟩⟩
  case round =>
    obtain ⟨i, hi, rfl, rfl, HT, HO⟩ := hrel
    by_cases hlt : i < n
    · have i1 : (i : Int) < (n : Int) := by omega
      have i0' : (0 : Int) ≤ (i : Int) := by omega
      have DW : Hid (Below W.heap.size W wr) := K2.out.trans (HO.out.2.mono K2.out.size)
      obtain ⟨b0, o0, rfl, hb0, d0, d1, d2, d3, d4⟩ := HIN.out.1.cells i (by rw [HIN.out.2.2.1]; exact hlt)
      obtain ⟨b3, o3, rfl, hb3, e1, e0⟩ := HIN.out.2.1.cells i (by rw [HIN.out.2.2.2.1]; exact hlt)
      have D0 := keepc DW.out d0
      have D1 := keepc DW.out d1
      have D2 := keepc DW.out d2
      have D3 := keepc DW.out d3
      have D4 := keepc DW.out d4
      have E1 := keepc DW.out e1
      have E0 := keepc DW.out e0
      have hbw : b0 < wr.heap.size := Nat.lt_of_lt_of_le hb0 DW.out.size
      have hbw3 : b3 < wr.heap.size := Nat.lt_of_lt_of_le hb3 DW.out.size
      have HS : Hid (cl.take (i + 1) = cl.take i ++ [cl.getD i zst]) := take_sC cl i (by rw [HIN.out.2.2.1]; exact hlt)
      have HS2 : Hid ((otl cl vs).take (i + 1) = (otl cl vs).take i ++ [{ cl.getD i zst with v := vs.getD i (0, 0) }]) := by
        show _ = _
        rw [take_sC _ i (by rw [HOL.out]; exact hlt), otl_at cl vs (by rw [HIN.out.2.2.1]; exact hlt)]
        rfl
      have HSM : Hid (smB cl vs (i + 1) = (smB cl vs i && decide ((cl.getD i zst).v = vs.getD i (0, 0)))) := rfl
      have HOF := hidC (rof_any 0 (cl.getD i zst).v.1 (cl.getD i zst).v.2 (lt_val HIN.out.2.2.2.2.1 i).1 (lt_val HIN.out.2.2.2.2.1 i).2)
      have hB0 : w2.heap.size ≤ wr.heap.size := HO.out.2.size
      clear d0 d1 d2 d3 d4 e1 e0 hb0 hb3
      obtain ⟨sm', hsm'⟩ : ∃ s', s' = smB cl vs (i + 1) := ⟨_, rfl⟩
      rw [← hsm'] at HSM
      have HSM' : Hid (sm' = smB cl vs (i + 1)) := hsm'
      clear hsm'
      generalize smB cl vs i = sm at *
      generalize cl.getD i zst = p at *
      generalize vs.getD i (0, 0) = y at *
      obtain ⟨k, ki, s, v⟩ := p
      dsimp only at *
      rcases hof : ofB 0 (v.1 : Int) (v.2 : Int) with _ | _
      · rw [hof] at HOF
        clear HSM HS HS2
        go_wp2_with (first | (go_at_call 20; refine (HOF.out.go _).mono ?_; rintro e w3 ⟨rfl, hb3⟩) | (go_at_call 10; refine (AW.out.go _).mono ?_; rintro e w9 ⟨rfl, hb9⟩))
        go_ret
        exact ⟨rfl, (DW.out.trans (hb3.mono DW.out.size)).trans (hb9.mono (DW.out.trans (hb3.mono DW.out.size)).size)⟩
      · rw [hof] at HOF
        have HT2 : Hid ((cl.take (i + 1)).all (fun o => ofB 0 (o.v.1 : Int) (o.v.2 : Int)) = true) := by show _ = _; rw [HS.out, List.all_append, HT.out]; simp [hof]
        clear HT HS hof
        cases sm with
        | false =>
          obtain rfl : sm' = false := by rw [HSM.out]; rfl
          clear HSM
          go_upto_region 10 with (go_at_call 20; refine (HOF.out.go _).mono ?_; rintro e w3 ⟨rfl, hb3⟩)
          have KQ : Hid (Below w2.heap.size w2 w3 ∧ w3.ownsRow w2.heap.size 60 5 u8 i (sflC ((otl cl vs).take i))) := ⟨HO.out.2.trans (hb3.mono HO.out.2.size), own_below HO.out.1 hb3⟩
          have D0' := keepc hb3 D0
          have D1' := keepc hb3 D1
          have D2' := keepc hb3 D2
          have D3' := keepc hb3 D3
          have D4' := keepc hb3 D4
          have E1' := keepc hb3 E1
          have E0' := keepc hb3 E0
          have hbx : b0 < w3.heap.size := cell_lt D0'
          have hbx3 : b3 < w3.heap.size := cell_lt E1'
          have hBx : w2.heap.size ≤ w3.heap.size := KQ.out.1.size
          clear D0 D1 D2 D3 D4 E1 E0 hb3 HO hbw hbw3
          go_quiet (fail)
          have KN : Hid (Below w2.heap.size w2 (w3.drewN nq) ∧ (w3.drewN nq).ownsRow w2.heap.size 60 5 u8 i (sflC ((otl cl vs).take i))) := ⟨below_drewC KQ.out.1 _, own_below KQ.out.2 (below_drewC (Below.refl _ _) _)⟩
          have DD0 : (w3.drewN nq).cell? ⟨b0, o0 + i * 5, none⟩ = some (.int .i64 k) := D0'
          have DD1 : (w3.drewN nq).cell? ⟨b0, o0 + i * 5 + 1, none⟩ = some (.int .i64 ki) := D1'
          have DD2 : (w3.drewN nq).cell? ⟨b0, o0 + i * 5 + 2, none⟩ = some (.int .i64 s) := D2'
          have DD3 : (w3.drewN nq).cell? ⟨b0, o0 + i * 5 + 3, none⟩ = some (.int .u64 (v.1 : Int)) := D3'
          have DD4 : (w3.drewN nq).cell? ⟨b0, o0 + i * 5 + 4, none⟩ = some (.int .u64 (v.2 : Int)) := D4'
          have EE1 : (w3.drewN nq).cell? ⟨b3, o3 + i * 2, none⟩ = some (.int .u64 (y.1 : Int)) := E1'
          have EE0 : (w3.drewN nq).cell? ⟨b3, o3 + i * 2 + 1, none⟩ = some (.int .u64 (y.2 : Int)) := E0'
          have hby : b0 < (w3.drewN nq).heap.size := hbx
          have hby3 : b3 < (w3.drewN nq).heap.size := hbx3
          have hBy : w2.heap.size ≤ (w3.drewN nq).heap.size := hBx
          clear D0' D1' D2' D3' D4' E1' E0' hbx hbx3 hBx KQ
          generalize (w3.drewN nq) = w4 at *
          go_wp2_with (at_builtin; refine wpList_append_own _ rfl _ _ 22 rfl w2.heap.size 60 i0 (.agg #[.int .i64 0, .int .i64 0, .int .i64 0, .int .u64 0, .int .u64 0]) 5 40 Try.underlying22 HI.out.1 HI.out.2.1 HI.out.2.2.1 HI.out.2.2.2 rfl (by decide) _ _ _ rfl (own_below KN.out.2 (by go_grown)) ⟨w4.heap.size + 1, 0, none⟩ 1 1 [.int .i64 k, .int .i64 ki, .int .i64 s, .int .u64 (y.1 : Int), .int .u64 (y.2 : Int)] (by first | rfl | (simp [go_sem]; done)) rfl (fun p u hu => by rcases p with _ | _ | _ | _ | _ | p <;> simp at hu <;> subst hu <;> simp [go_sem]) (by intro u hu; simp at hu; rcases hu with rfl | rfl | rfl | rfl | rfl <;> rfl) (by simp only [maxLen]; omega) (by omega) (by simp; omega) ?_; intro v' w5 hown' hgr _)
          refine ⟨⟨i + 1, hlt, by simp, by rw [← HSM'.out], HT2, ⟨?_, ?_⟩⟩, by simp [intOf]; omega⟩
          · rw [HS2.out, sflC_snoc]; skip; exact hown'
          · exact Below.grown (by go_grown; exact KN.out.1) hgr (by simp; omega) fun k hk => (KN.out.2.lt k hk).1
        | true =>
          by_cases hvy : v = y
          · obtain rfl : sm' = true := by rw [HSM.out, decide_eq_true hvy]; rfl
            subst hvy
            clear HSM
            go_upto_region 10 with (go_at_call 20; refine (HOF.out.go _).mono ?_; rintro e w3 ⟨rfl, hb3⟩)
            have KQ : Hid (Below w2.heap.size w2 w3 ∧ w3.ownsRow w2.heap.size 60 5 u8 i (sflC ((otl cl vs).take i))) := ⟨HO.out.2.trans (hb3.mono HO.out.2.size), own_below HO.out.1 hb3⟩
            have D0' := keepc hb3 D0
            have D1' := keepc hb3 D1
            have D2' := keepc hb3 D2
            have D3' := keepc hb3 D3
            have D4' := keepc hb3 D4
            have E1' := keepc hb3 E1
            have E0' := keepc hb3 E0
            have hbx : b0 < w3.heap.size := cell_lt D0'
            have hbx3 : b3 < w3.heap.size := cell_lt E1'
            have hBx : w2.heap.size ≤ w3.heap.size := KQ.out.1.size
            clear D0 D1 D2 D3 D4 E1 E0 hb3 HO hbw hbw3
            go_quiet (fail)
            have KN : Hid (Below w2.heap.size w2 (w3.drewN nq) ∧ (w3.drewN nq).ownsRow w2.heap.size 60 5 u8 i (sflC ((otl cl vs).take i))) := ⟨below_drewC KQ.out.1 _, own_below KQ.out.2 (below_drewC (Below.refl _ _) _)⟩
            have DD0 : (w3.drewN nq).cell? ⟨b0, o0 + i * 5, none⟩ = some (.int .i64 k) := D0'
            have DD1 : (w3.drewN nq).cell? ⟨b0, o0 + i * 5 + 1, none⟩ = some (.int .i64 ki) := D1'
            have DD2 : (w3.drewN nq).cell? ⟨b0, o0 + i * 5 + 2, none⟩ = some (.int .i64 s) := D2'
            have DD3 : (w3.drewN nq).cell? ⟨b0, o0 + i * 5 + 3, none⟩ = some (.int .u64 (v.1 : Int)) := D3'
            have DD4 : (w3.drewN nq).cell? ⟨b0, o0 + i * 5 + 4, none⟩ = some (.int .u64 (v.2 : Int)) := D4'
            have EE1 : (w3.drewN nq).cell? ⟨b3, o3 + i * 2, none⟩ = some (.int .u64 (v.1 : Int)) := E1'
            have EE0 : (w3.drewN nq).cell? ⟨b3, o3 + i * 2 + 1, none⟩ = some (.int .u64 (v.2 : Int)) := E0'
            have hby : b0 < (w3.drewN nq).heap.size := hbx
            have hby3 : b3 < (w3.drewN nq).heap.size := hbx3
            have hBy : w2.heap.size ≤ (w3.drewN nq).heap.size := hBx
            clear D0' D1' D2' D3' D4' E1' E0' hbx hbx3 hBx KQ
            generalize (w3.drewN nq) = w4 at *
            go_wp2_with (at_builtin; refine wpList_append_own _ rfl _ _ 22 rfl w2.heap.size 60 i0 (.agg #[.int .i64 0, .int .i64 0, .int .i64 0, .int .u64 0, .int .u64 0]) 5 40 Try.underlying22 HI.out.1 HI.out.2.1 HI.out.2.2.1 HI.out.2.2.2 rfl (by decide) _ _ _ rfl (own_below KN.out.2 (by go_grown)) ⟨w4.heap.size + 1, 0, none⟩ 1 1 [.int .i64 k, .int .i64 ki, .int .i64 s, .int .u64 (v.1 : Int), .int .u64 (v.2 : Int)] (by first | rfl | (simp [go_sem]; done)) rfl (fun p u hu => by rcases p with _ | _ | _ | _ | _ | p <;> simp at hu <;> subst hu <;> simp [go_sem]) (by intro u hu; simp at hu; rcases hu with rfl | rfl | rfl | rfl | rfl <;> rfl) (by simp only [maxLen]; omega) (by omega) (by simp; omega) ?_; intro v' w5 hown' hgr _)
            refine ⟨⟨i + 1, hlt, by simp, by rw [← HSM'.out], HT2, ⟨?_, ?_⟩⟩, by simp [intOf]; omega⟩
            · rw [HS2.out, sflC_snoc]; skip; exact hown'
            · exact Below.grown (by go_grown; exact KN.out.1) hgr (by simp; omega) fun k hk => (KN.out.2.lt k hk).1
          · obtain rfl : sm' = false := by rw [HSM.out, decide_eq_false hvy]; rfl
            clear HSM
            by_cases h1 : v.1 = y.1
            · have h2 : ¬ (v.2 : Int) = (y.2 : Int) := fun h => hvy (Prod.ext h1 (by omega))
              rw [← h1] at E1
              have HYE : Hid (y.1 = v.1) := h1.symm
              clear hvy h1
              go_upto_region 10 with (go_at_call 20; refine (HOF.out.go _).mono ?_; rintro e w3 ⟨rfl, hb3⟩)
              have KQ : Hid (Below w2.heap.size w2 w3 ∧ w3.ownsRow w2.heap.size 60 5 u8 i (sflC ((otl cl vs).take i))) := ⟨HO.out.2.trans (hb3.mono HO.out.2.size), own_below HO.out.1 hb3⟩
              have D0' := keepc hb3 D0
              have D1' := keepc hb3 D1
              have D2' := keepc hb3 D2
              have D3' := keepc hb3 D3
              have D4' := keepc hb3 D4
              have E1' := keepc hb3 E1
              have E0' := keepc hb3 E0
              have hbx : b0 < w3.heap.size := cell_lt D0'
              have hbx3 : b3 < w3.heap.size := cell_lt E1'
              have hBx : w2.heap.size ≤ w3.heap.size := KQ.out.1.size
              clear D0 D1 D2 D3 D4 E1 E0 hb3 HO hbw hbw3
              go_quiet (fail)
              have KN : Hid (Below w2.heap.size w2 (w3.drewN nq) ∧ (w3.drewN nq).ownsRow w2.heap.size 60 5 u8 i (sflC ((otl cl vs).take i))) := ⟨below_drewC KQ.out.1 _, own_below KQ.out.2 (below_drewC (Below.refl _ _) _)⟩
              have DD0 : (w3.drewN nq).cell? ⟨b0, o0 + i * 5, none⟩ = some (.int .i64 k) := D0'
              have DD1 : (w3.drewN nq).cell? ⟨b0, o0 + i * 5 + 1, none⟩ = some (.int .i64 ki) := D1'
              have DD2 : (w3.drewN nq).cell? ⟨b0, o0 + i * 5 + 2, none⟩ = some (.int .i64 s) := D2'
              have DD3 : (w3.drewN nq).cell? ⟨b0, o0 + i * 5 + 3, none⟩ = some (.int .u64 (v.1 : Int)) := D3'
              have DD4 : (w3.drewN nq).cell? ⟨b0, o0 + i * 5 + 4, none⟩ = some (.int .u64 (v.2 : Int)) := D4'
              have EE1 : (w3.drewN nq).cell? ⟨b3, o3 + i * 2, none⟩ = some (.int .u64 (v.1 : Int)) := E1'
              have EE0 : (w3.drewN nq).cell? ⟨b3, o3 + i * 2 + 1, none⟩ = some (.int .u64 (y.2 : Int)) := E0'
              have hby : b0 < (w3.drewN nq).heap.size := hbx
              have hby3 : b3 < (w3.drewN nq).heap.size := hbx3
              have hBy : w2.heap.size ≤ (w3.drewN nq).heap.size := hBx
              clear D0' D1' D2' D3' D4' E1' E0' hbx hbx3 hBx KQ
              generalize (w3.drewN nq) = w4 at *
              go_wp2_with (at_builtin; refine wpList_append_own _ rfl _ _ 22 rfl w2.heap.size 60 i0 (.agg #[.int .i64 0, .int .i64 0, .int .i64 0, .int .u64 0, .int .u64 0]) 5 40 Try.underlying22 HI.out.1 HI.out.2.1 HI.out.2.2.1 HI.out.2.2.2 rfl (by decide) _ _ _ rfl (own_below KN.out.2 (by go_grown)) ⟨w4.heap.size + 1, 0, none⟩ 1 1 [.int .i64 k, .int .i64 ki, .int .i64 s, .int .u64 (v.1 : Int), .int .u64 (y.2 : Int)] (by first | rfl | (simp [go_sem]; done)) rfl (fun p u hu => by rcases p with _ | _ | _ | _ | _ | p <;> simp at hu <;> subst hu <;> simp [go_sem]) (by intro u hu; simp at hu; rcases hu with rfl | rfl | rfl | rfl | rfl <;> rfl) (by simp only [maxLen]; omega) (by omega) (by simp; omega) ?_; intro v' w5 hown' hgr _)
              refine ⟨⟨i + 1, hlt, by simp, by rw [← HSM'.out], HT2, ⟨?_, ?_⟩⟩, by simp [intOf]; omega⟩
              · rw [HS2.out, sflC_snoc]; rw [HYE.out]; exact hown'
              · exact Below.grown (by go_grown; exact KN.out.1) hgr (by simp; omega) fun k hk => (KN.out.2.lt k hk).1
            · have h2 : ¬ (v.1 : Int) = (y.1 : Int) := by omega
              clear hvy h1
              go_upto_region 10 with (go_at_call 20; refine (HOF.out.go _).mono ?_; rintro e w3 ⟨rfl, hb3⟩)
              have KQ : Hid (Below w2.heap.size w2 w3 ∧ w3.ownsRow w2.heap.size 60 5 u8 i (sflC ((otl cl vs).take i))) := ⟨HO.out.2.trans (hb3.mono HO.out.2.size), own_below HO.out.1 hb3⟩
              have D0' := keepc hb3 D0
              have D1' := keepc hb3 D1
              have D2' := keepc hb3 D2
              have D3' := keepc hb3 D3
              have D4' := keepc hb3 D4
              have E1' := keepc hb3 E1
              have E0' := keepc hb3 E0
              have hbx : b0 < w3.heap.size := cell_lt D0'
              have hbx3 : b3 < w3.heap.size := cell_lt E1'
              have hBx : w2.heap.size ≤ w3.heap.size := KQ.out.1.size
              clear D0 D1 D2 D3 D4 E1 E0 hb3 HO hbw hbw3
              go_quiet (fail)
              have KN : Hid (Below w2.heap.size w2 (w3.drewN nq) ∧ (w3.drewN nq).ownsRow w2.heap.size 60 5 u8 i (sflC ((otl cl vs).take i))) := ⟨below_drewC KQ.out.1 _, own_below KQ.out.2 (below_drewC (Below.refl _ _) _)⟩
              have DD0 : (w3.drewN nq).cell? ⟨b0, o0 + i * 5, none⟩ = some (.int .i64 k) := D0'
              have DD1 : (w3.drewN nq).cell? ⟨b0, o0 + i * 5 + 1, none⟩ = some (.int .i64 ki) := D1'
              have DD2 : (w3.drewN nq).cell? ⟨b0, o0 + i * 5 + 2, none⟩ = some (.int .i64 s) := D2'
              have DD3 : (w3.drewN nq).cell? ⟨b0, o0 + i * 5 + 3, none⟩ = some (.int .u64 (v.1 : Int)) := D3'
              have DD4 : (w3.drewN nq).cell? ⟨b0, o0 + i * 5 + 4, none⟩ = some (.int .u64 (v.2 : Int)) := D4'
              have EE1 : (w3.drewN nq).cell? ⟨b3, o3 + i * 2, none⟩ = some (.int .u64 (y.1 : Int)) := E1'
              have EE0 : (w3.drewN nq).cell? ⟨b3, o3 + i * 2 + 1, none⟩ = some (.int .u64 (y.2 : Int)) := E0'
              have hby : b0 < (w3.drewN nq).heap.size := hbx
              have hby3 : b3 < (w3.drewN nq).heap.size := hbx3
              have hBy : w2.heap.size ≤ (w3.drewN nq).heap.size := hBx
              clear D0' D1' D2' D3' D4' E1' E0' hbx hbx3 hBx KQ
              generalize (w3.drewN nq) = w4 at *
              go_wp2_with (at_builtin; refine wpList_append_own _ rfl _ _ 22 rfl w2.heap.size 60 i0 (.agg #[.int .i64 0, .int .i64 0, .int .i64 0, .int .u64 0, .int .u64 0]) 5 40 Try.underlying22 HI.out.1 HI.out.2.1 HI.out.2.2.1 HI.out.2.2.2 rfl (by decide) _ _ _ rfl (own_below KN.out.2 (by go_grown)) ⟨w4.heap.size + 1, 0, none⟩ 1 1 [.int .i64 k, .int .i64 ki, .int .i64 s, .int .u64 (y.1 : Int), .int .u64 (y.2 : Int)] (by first | rfl | (simp [go_sem]; done)) rfl (fun p u hu => by rcases p with _ | _ | _ | _ | _ | p <;> simp at hu <;> subst hu <;> simp [go_sem]) (by intro u hu; simp at hu; rcases hu with rfl | rfl | rfl | rfl | rfl <;> rfl) (by simp only [maxLen]; omega) (by omega) (by simp; omega) ?_; intro v' w5 hown' hgr _)
              refine ⟨⟨i + 1, hlt, by simp, by rw [← HSM'.out], HT2, ⟨?_, ?_⟩⟩, by simp [intOf]; omega⟩
              · rw [HS2.out, sflC_snoc]; skip; exact hown'
              · exact Below.grown (by go_grown; exact KN.out.1) hgr (by simp; omega) fun k hk => (KN.out.2.lt k hk).1
    · obtain rfl : i = n := by omega
      have hall : Hid ((cl.all fun o => ofB 0 (o.v.1 : Int) (o.v.2 : Int)) = true) := by
        have h := HT.out
        rw [List.take_of_length_le (by rw [HIN.out.2.2.1]; exact Nat.le_refl _)] at h
        exact h
      obtain ⟨ga, ca, hu8, hOR⟩ := own_clm (l := otl cl vs) HOL.out (by have h := HO.out.1; rw [List.take_of_length_le (by rw [HOL.out]; exact Nat.le_refl _)] at h; exact h)
      subst hu8
      have DW : Hid (Below W.heap.size W wr) := K2.out.trans (HO.out.2.mono K2.out.size)
      have KB : Hid (ORow (wr.alloc (Obj.cells #[.int .i64 2, .int .i64 4, .int .i64 16] 3)) ga (otl cl vs) ∧ Below W.heap.size W (wr.alloc (Obj.cells #[.int .i64 2, .int .i64 4, .int .i64 16] 3))) := ⟨hOR.below ((Below.refl _ _).alloc (Nat.le_refl _) _), DW.out.alloc DW.out.size _⟩
      have HT1 := hidC (fun (w : World) (b : Nat × Nat) (lb : lt2 b) (ob : ofE 0 b) (hb : Below W.heap.size W w) => (by
        have t := cmtot ((0 : Nat) : Int) a cap cl b (by rw [HIN.out.2.2.1]; omega) HIN.out.2.2.2.2.1 lb w (HIN.out.1.below hb)
        rw [(tt_zero (m := 0) (by decide) cl b ob hall.out).1, (tt_zero (m := 0) (by decide) cl b ob hall.out).2, HIN.out.2.2.1] at t
        exact t : Calls Try.prog 11 #[.int .i64 0, .slice a i cap, .agg #[.int .u64 (b.1 : Int), .int .u64 (b.2 : Int)]] w fun e w' => e = .returned (.tuple #[.agg #[.int .u64 ((tts cl b i).1 : Int), .int .u64 ((tts cl b i).2 : Int)], .int .i64 0]) ∧ Below w.heap.size w w'))
      have HT2 := hidC (fun (w : World) (b : Nat × Nat) (lb : lt2 b) (ob : ofE 0 b) (hr : ORow w ga (otl cl vs)) => (by
        have t := cmtot ((0 : Nat) : Int) ga ca (otl cl vs) b (by rw [HOL.out]; omega) (ok_otl cl vs HIN.out.2.2.2.2.2.1) lb w hr
        rw [(tt_zero (m := 0) (by decide) _ b ob (all_otl (by decide) cl vs HIN.out.2.2.2.2.2.2)).1, (tt_zero (m := 0) (by decide) _ b ob (all_otl (by decide) cl vs HIN.out.2.2.2.2.2.2)).2, HOL.out] at t
        exact t : Calls Try.prog 11 #[.int .i64 0, .slice ga i ca, .agg #[.int .u64 (b.1 : Int), .int .u64 (b.2 : Int)]] w fun e w' => e = .returned (.tuple #[.agg #[.int .u64 ((tts (otl cl vs) b i).1 : Int), .int .u64 ((tts (otl cl vs) b i).2 : Int)], .int .i64 0]) ∧ Below w.heap.size w w'))
      have HCT : Hid ((smB cl vs i = true → Ln.cnt (eqT cl (otl cl vs) i) 2 = 2) ∧ (smB cl vs i = false → Ln.cnt (eqT cl (otl cl vs) i) 2 ≤ i - 1 ∧ 1 ≤ i)) := by
        have hat : ∀ j, j < i → ((otl cl vs).getD j zst).v = el vs j := fun j hj => by rw [otl_at cl vs (by rw [HIN.out.2.2.1]; exact hj)]
        refine ⟨fun h => count_same _ _ _ _ fun j hj => by rw [hat j hj]; exact smB_true h j hj, fun h => ?_⟩
        obtain ⟨j, hj, hne⟩ := smB_false h
        exact ⟨count_tot _ _ _ _ h12 (by decide) HIN.out.2.2.2.2.1 (ok_otl cl vs HIN.out.2.2.2.2.2.1) j hj (by rw [hat j hj]; exact hne), by omega⟩
      clear hOR HO HT HI hall
      go_upto_region 15 with fail
      generalize (wr.alloc (Obj.cells #[.int .i64 2, .int .i64 4, .int .i64 16] 3)) = wB at *
      go_wp2_with fail
      go_loopw [12, 13] (fun s u wr => ∃ k m : Nat, k ≤ 2 ∧ Hid (m = Ln.cnt (eqT cl (otl cl vs) i) k) ∧ s = .int .i64 m ∧ u = .int .i64 k ∧ Hid (Below wB.heap.size wB wr)) (fun _ u _ => 2 - (intOf u).toNat)
      case atStart => exact ⟨0, 0, Nat.zero_le _, (by rfl), rfl, rfl, Below.refl _ _⟩
      case round =>
        obtain ⟨k, m, hk, HM, rfl, rfl, HD⟩ := hrel
        by_cases hlt : k < 2
        · have k1 : (k : Int) < 2 := by omega
          have hm2 : m ≤ k := by rw [HM.out]; exact cnt_le_n _ _
          have wk : IntKind.u64.wrap (k : Int) = (k : Int) := by rw [IntKind.wrap_u64]; omega
          have hwm : IntKind.i64.wrap ((m : Int) + 1) = ((m + 1 : Nat) : Int) := by rw [IntKind.wrap_i64]; omega
          have lb : lt2 (0, k) := ⟨Nat.two_pow_pos 64, by show k < 2 ^ 64; omega⟩
          have ob : ofE 0 (0, k) := by show ofB _ _ _ = true; rw [ofB_iff _ _ _ (by decide)]; exact .inr ⟨rfl, by show k < 2 ^ 2 ^ 0; omega⟩
          have T1 := hidC (fun w hb => HT1.out w (0, k) lb ob hb)
          have T2 := hidC (fun w hr => HT2.out w (0, k) lb ob hr)
          have HAL : Hid (eqT cl (otl cl vs) i k = decide (tts cl (0, k) i = tts (otl cl vs) (0, k) i)) := rfl
          have l1 := lt_tts cl (0, k) i
          have l2 := lt_tts (otl cl vs) (0, k) i
          have DK : Hid (Below W.heap.size W wr ∧ ORow wr ga (otl cl vs)) := ⟨KB.out.2.trans (HD.out.mono KB.out.2.size), KB.out.1.below HD.out⟩
          clear lb ob l1 l2
          generalize tts cl (0, k) i = z1 at *
          generalize tts (otl cl vs) (0, k) i = z2 at *
          have NXT : ∀ b : Bool, decide (z1 = z2) = b → Hid ((m + (if b = true then 1 else 0)) = Ln.cnt (eqT cl (otl cl vs) i) (k + 1)) := fun b hb => by
            show _ = _
            rw [cnt_b _ k b (by rw [HAL.out]; exact hb), ← HM.out]
          by_cases hzz : z1 = z2
          · have N1 := NXT true (decide_eq_true hzz)
            rw [← hzz] at T2
            clear NXT hzz HAL
            go_wp2_with (first
              | (go_at_call_of 11 (#[.int .i64 0, .slice a i cap, .agg #[.int .u64 0, .int .u64 (k : Int)]] : Array Value); refine (T1.out _ (DK.out.1.alloc DK.out.1.size _)).mono ?_; rintro e w6 ⟨rfl, hb6⟩; have K6 : Hid (ORow (w6.alloc (Obj.cells #[.int .u64 (z1.1 : Int), .int .u64 (z1.2 : Int)] 26)) ga (otl cl vs) ∧ El (w6.alloc (Obj.cells #[.int .u64 (z1.1 : Int), .int .u64 (z1.2 : Int)] 26)) wr.heap.size 0 k ∧ El (w6.alloc (Obj.cells #[.int .u64 (z1.1 : Int), .int .u64 (z1.2 : Int)] 26)) w6.heap.size z1.1 z1.2 ∧ Below wB.heap.size wB (w6.alloc (Obj.cells #[.int .u64 (z1.1 : Int), .int .u64 (z1.2 : Int)] 26))) := ⟨((DK.out.2.below ((Below.refl _ _).alloc (Nat.le_refl _) _)).below hb6).below ((Below.refl _ _).alloc (Nat.le_refl _) _), ((El.newR wr (0, k) _).below hb6).alloc _, El.newR w6 z1 _, ((HD.out.alloc HD.out.size _).trans (hb6.mono (HD.out.alloc HD.out.size _).size)).alloc ((HD.out.alloc HD.out.size _).trans (hb6.mono (HD.out.alloc HD.out.size _).size)).size _⟩; clear hb6; obtain ⟨p1, p0⟩ := K6.out.2.1)
              | (go_at_call 11; refine (T2.out _ K6.out.1).mono ?_; rintro e w7 ⟨rfl, hb7⟩; have K7 : Hid (El (w7.alloc (Obj.cells #[.int .u64 (z1.1 : Int), .int .u64 (z1.2 : Int)] 26)) w6.heap.size z1.1 z1.2 ∧ El (w7.alloc (Obj.cells #[.int .u64 (z1.1 : Int), .int .u64 (z1.2 : Int)] 26)) w7.heap.size z1.1 z1.2 ∧ Below wB.heap.size wB (w7.alloc (Obj.cells #[.int .u64 (z1.1 : Int), .int .u64 (z1.2 : Int)] 26))) := ⟨(K6.out.2.2.1.below hb7).alloc _, El.newR w7 (z1.1, z1.2) _, (K6.out.2.2.2.trans (hb7.mono K6.out.2.2.2.size)).alloc (K6.out.2.2.2.trans (hb7.mono K6.out.2.2.2.size)).size _⟩; clear hb7 K6 p1 p0; obtain ⟨v1, v0⟩ := K7.out.1))
            exact ⟨⟨k + 1, m + 1, hlt, N1, by simp, by simp, K7.out.2.2⟩, by simp [intOf]; omega⟩
          · have N1 := NXT false (decide_eq_false hzz)
            clear NXT
            by_cases h1 : z1.1 = z2.1
            · have h2 : ¬ (z1.2 : Int) = (z2.2 : Int) := fun h => hzz (Prod.ext h1 (by omega))
              rw [← h1] at T2
              clear hzz HAL h1
              go_wp2_with (first
              | (go_at_call_of 11 (#[.int .i64 0, .slice a i cap, .agg #[.int .u64 0, .int .u64 (k : Int)]] : Array Value); refine (T1.out _ (DK.out.1.alloc DK.out.1.size _)).mono ?_; rintro e w6 ⟨rfl, hb6⟩; have K6 : Hid (ORow (w6.alloc (Obj.cells #[.int .u64 (z1.1 : Int), .int .u64 (z1.2 : Int)] 26)) ga (otl cl vs) ∧ El (w6.alloc (Obj.cells #[.int .u64 (z1.1 : Int), .int .u64 (z1.2 : Int)] 26)) wr.heap.size 0 k ∧ El (w6.alloc (Obj.cells #[.int .u64 (z1.1 : Int), .int .u64 (z1.2 : Int)] 26)) w6.heap.size z1.1 z1.2 ∧ Below wB.heap.size wB (w6.alloc (Obj.cells #[.int .u64 (z1.1 : Int), .int .u64 (z1.2 : Int)] 26))) := ⟨((DK.out.2.below ((Below.refl _ _).alloc (Nat.le_refl _) _)).below hb6).below ((Below.refl _ _).alloc (Nat.le_refl _) _), ((El.newR wr (0, k) _).below hb6).alloc _, El.newR w6 z1 _, ((HD.out.alloc HD.out.size _).trans (hb6.mono (HD.out.alloc HD.out.size _).size)).alloc ((HD.out.alloc HD.out.size _).trans (hb6.mono (HD.out.alloc HD.out.size _).size)).size _⟩; clear hb6; obtain ⟨p1, p0⟩ := K6.out.2.1)
              | (go_at_call 11; refine (T2.out _ K6.out.1).mono ?_; rintro e w7 ⟨rfl, hb7⟩; have K7 : Hid (El (w7.alloc (Obj.cells #[.int .u64 (z1.1 : Int), .int .u64 (z2.2 : Int)] 26)) w6.heap.size z1.1 z1.2 ∧ El (w7.alloc (Obj.cells #[.int .u64 (z1.1 : Int), .int .u64 (z2.2 : Int)] 26)) w7.heap.size z1.1 z2.2 ∧ Below wB.heap.size wB (w7.alloc (Obj.cells #[.int .u64 (z1.1 : Int), .int .u64 (z2.2 : Int)] 26))) := ⟨(K6.out.2.2.1.below hb7).alloc _, El.newR w7 (z1.1, z2.2) _, (K6.out.2.2.2.trans (hb7.mono K6.out.2.2.2.size)).alloc (K6.out.2.2.2.trans (hb7.mono K6.out.2.2.2.size)).size _⟩; clear hb7 K6 p1 p0; obtain ⟨v1, v0⟩ := K7.out.1))
              exact ⟨⟨k + 1, m, hlt, N1, by simp, by simp, K7.out.2.2⟩, by simp [intOf]; omega⟩
            · have h2 : ¬ (z1.1 : Int) = (z2.1 : Int) := by omega
              clear hzz h1 HAL
              go_wp2_with (first
              | (go_at_call_of 11 (#[.int .i64 0, .slice a i cap, .agg #[.int .u64 0, .int .u64 (k : Int)]] : Array Value); refine (T1.out _ (DK.out.1.alloc DK.out.1.size _)).mono ?_; rintro e w6 ⟨rfl, hb6⟩; have K6 : Hid (ORow (w6.alloc (Obj.cells #[.int .u64 (z1.1 : Int), .int .u64 (z1.2 : Int)] 26)) ga (otl cl vs) ∧ El (w6.alloc (Obj.cells #[.int .u64 (z1.1 : Int), .int .u64 (z1.2 : Int)] 26)) wr.heap.size 0 k ∧ El (w6.alloc (Obj.cells #[.int .u64 (z1.1 : Int), .int .u64 (z1.2 : Int)] 26)) w6.heap.size z1.1 z1.2 ∧ Below wB.heap.size wB (w6.alloc (Obj.cells #[.int .u64 (z1.1 : Int), .int .u64 (z1.2 : Int)] 26))) := ⟨((DK.out.2.below ((Below.refl _ _).alloc (Nat.le_refl _) _)).below hb6).below ((Below.refl _ _).alloc (Nat.le_refl _) _), ((El.newR wr (0, k) _).below hb6).alloc _, El.newR w6 z1 _, ((HD.out.alloc HD.out.size _).trans (hb6.mono (HD.out.alloc HD.out.size _).size)).alloc ((HD.out.alloc HD.out.size _).trans (hb6.mono (HD.out.alloc HD.out.size _).size)).size _⟩; clear hb6; obtain ⟨p1, p0⟩ := K6.out.2.1)
              | (go_at_call 11; refine (T2.out _ K6.out.1).mono ?_; rintro e w7 ⟨rfl, hb7⟩; have K7 : Hid (El (w7.alloc (Obj.cells #[.int .u64 (z2.1 : Int), .int .u64 (z2.2 : Int)] 26)) w6.heap.size z1.1 z1.2 ∧ El (w7.alloc (Obj.cells #[.int .u64 (z2.1 : Int), .int .u64 (z2.2 : Int)] 26)) w7.heap.size z2.1 z2.2 ∧ Below wB.heap.size wB (w7.alloc (Obj.cells #[.int .u64 (z2.1 : Int), .int .u64 (z2.2 : Int)] 26))) := ⟨(K6.out.2.2.1.below hb7).alloc _, El.newR w7 (z2.1, z2.2) _, (K6.out.2.2.2.trans (hb7.mono K6.out.2.2.2.size)).alloc (K6.out.2.2.2.trans (hb7.mono K6.out.2.2.2.size)).size _⟩; clear hb7 K6 p1 p0; obtain ⟨v1, v0⟩ := K7.out.1))
              exact ⟨⟨k + 1, m, hlt, N1, by simp, by simp, K7.out.2.2⟩, by simp [intOf]; omega⟩
        · obtain rfl : k = 2 := by omega
          have HDD : Hid (Below W.heap.size W wr) := KB.out.2.trans (HD.out.mono KB.out.2.size)
          rcases hsm : smB cl vs i with _ | _
          · obtain ⟨q1, q2⟩ := HCT.out.2 hsm
            rw [← HM.out] at q1
            have q3 : IntKind.i64.wrap ((i : Int) - 1) = ((i - 1 : Nat) : Int) := by rw [IntKind.wrap_i64]; omega
            have q4 : (m : Int) ≤ ((i - 1 : Nat) : Int) := by omega
            clear HM HCT HIN KB HD hsm HT1 HT2
            go_wp2_with (go_at_call 10; refine (AW.out.go _).mono ?_; rintro e w9 ⟨rfl, hb9⟩)
            go_ret
            exact ⟨rfl, HDD.out.trans (hb9.mono HDD.out.size)⟩
          · have q1 := HCT.out.1 hsm
            rw [← HM.out] at q1
            subst q1
            clear HM HCT HIN KB HD hsm HT1 HT2
            go_wp2_with (go_at_call 10; refine (AW.out.go _).mono ?_; rintro e w9 ⟨rfl, hb9⟩)
            go_ret
            exact ⟨rfl, HDD.out.trans (hb9.mono HDD.out.size)⟩
end Go.Proofs.Ytefgkgmjhboobaa
