/- The document's Check over the seat's translation: steepleref20.Check. -/
import Derived.Test.YtfhojakhoobnhaaScM
namespace Go.Proofs.Ytfhojakhoobnhaa
open Go.RowKit
open Cb Ln Sc
open Tw (pm)

set_option maxHeartbeats 4000000 in
set_option maxRecDepth 100000 in
theorem rck (lv : Int) (sa a : Option Addr) (scap cap : Nat) (l : List Stp) (ts : List (List (Nat × Nat))) (hl : ∀ o ∈ l, o.ok) (hm : l.length ≤ 1000) (h10 : ts.length ≤ 1000) (hlen : ∀ t ∈ ts, t.length ≤ 1000) (ht : ltT ts) (W : World) (hR : ORow W sa l) (hT : TRow W a ts) :
    Calls Try.prog 17 #[.int .i64 lv, .slice sa l.length scap, .slice a ts.length cap] W fun e w' => e = .returned (.int .i64 (sck lv l ts)) ∧ Below W.heap.size W w' := by
  have HX := Hid.mkS (rchk lv (ts.length : Int) sa scap l hl hm W hR)
  have HT := Hid.mkS hT
  have HB : Hid (ltT ts ∧ (∀ t ∈ ts, t.length ≤ 1000)) := ⟨ht, hlen⟩
  obtain ⟨y, hy⟩ : ∃ y, y = sck lv l ts := ⟨_, rfl⟩
  rw [← hy]
  unfold sck at hy
  by_cases h0 : chk lv (ts.length : Int) l = 0
  case neg =>
    rw [if_neg h0] at hy
    rw [← hy] at HX h0
    have h0' : (y != 0) = true := by simp [h0]
    clear hy hT hR hl ht hlen
    go_enter Try.func17, Try.ntmps17
    go_wp2_with (go_at_call 47; refine HX.out.mono ?_; rintro e w1 ⟨rfl, hb1⟩)
    go_ret
    exact ⟨rfl, hb1⟩
  rw [if_pos h0] at hy
  obtain ⟨k, hk, rfl⟩ := chk_lev h0
  have HDg : Hid (∀ w, Below W.heap.size W w → Calls Try.prog 21 #[.slice sa l.length scap] w fun e w' => e = .returned (.int .i64 (dgm l : Int)) ∧ Below w.heap.size w w') := fun w hb => rdegree sa scap l hm h0 w (hR.below hb)
  have HF := Hid.mkS (rfits (k : Int) (dgm l : Int))
  rw [dgI_dgm (by omega) h0] at hy
  rw [h0] at HX
  clear h0 hT hR hl ht hlen
  generalize dgm l = dl at *
  by_cases ht0 : ts.length = 0
  · have hv : vrs ts < 0 := by unfold vrs; rw [if_pos ht0]; decide
    rw [if_pos (Or.inl hv)] at hy
    subst hy
    rw [ht0] at HX ⊢
    rw [show ((0 : Nat) : Int) = 0 from rfl] at HX
    clear hv ht0 h10
    go_enter Try.func17, Try.ntmps17
    go_wp2_with (go_at_call 47; refine HX.out.mono ?_; rintro e w1 ⟨rfl, hb1⟩)
    go_ret
    exact ⟨rfl, hb1⟩
  have ht0' : ¬ (ts.length : Int) = 0 := by omega
  have ht1 : (0 : Int) < (ts.length : Int) := by omega
  have ht2 : 0 < ts.length := by omega
  rcases hf : fitB (k : Int) (dl : Int) with _ | _
  · rw [if_pos (Or.inr hf)] at hy
    rw [hf] at HF
    subst hy
    go_enter Try.func17, Try.ntmps17
    go_wp2_with (first | (go_at_call 47; refine HX.out.mono ?_; rintro e w1 ⟨rfl, hb1⟩) | (go_at_call 21; refine (HDg.out _ hb1).mono ?_; rintro e w2 ⟨rfl, hb2⟩; have D2 := Hid.mkS (hb1.trans (hb2.mono hb1.size)); clear hb2) | (go_at_call 40; refine (HF.out.go _).mono ?_; rintro e w3 ⟨rfl, hb3⟩; have D3 := Hid.mkS (D2.out.trans (hb3.mono D2.out.size)); clear hb3))
    go_ret
    exact ⟨rfl, D3.out⟩
  rw [hf] at HF
  obtain ⟨b0, off0, ra0, rc0, ha0, hb0, cb0, _⟩ := HT.out.cells 0 ht2
  rw [Nat.add_zero] at cb0
  have hn : (tb ts 0).length ≤ 1000 := HB.out.2 _ (tb_mem ht2)
  have HL : Hid (Ret 18 #[.int .i64 ((tb ts 0).length : Int)] (.int .i64 (lgz (tb ts 0).length))) := rlog_any _
  have HCB := Hid.mkS cb0
  have HVR : Hid (∀ g, g = lgz (tb ts 0).length → (g < 0 ∨ 12 < g → vrs ts < 0) ∧ (¬ (ts.all fun t => decide (t.length = (tb ts 0).length)) = true → vrs ts < 0) ∧ (¬ (g < 0 ∨ 12 < g) → (ts.all fun t => decide (t.length = (tb ts 0).length)) = true → ¬ vrs ts < 0)) := fun g hg => by
    subst hg
    unfold vrs
    rw [if_neg ht0]
    refine ⟨fun h => ?_, fun h => ?_, fun h h' => ?_⟩
    · by_cases h1 : (ts.all fun t => decide (t.length = (tb ts 0).length)) = true
      · rw [if_pos h1]
        by_cases h2 : lgz (tb ts 0).length ≤ 12
        · rw [if_pos h2]; omega
        · rw [if_neg h2]; decide
      · rw [if_neg h1]; decide
    · rw [if_neg h]; decide
    · rw [if_pos h', if_pos (by omega)]; omega
  have HY := Hid.mkS hy
  have HNF : Hid (¬ fitB (k : Int) (dl : Int) = false) := by show ¬ _; rw [hf]; decide
  clear hy hf cb0
  subst ha0
  obtain ⟨g, hg⟩ : ∃ g, g = lgz (tb ts 0).length := ⟨_, rfl⟩
  have HG := HVR.out g hg
  rw [← hg] at HL
  have HGG := Hid.mkS HG
  clear hg HG HVR
  obtain ⟨n, hnn⟩ : ∃ n, n = (tb ts 0).length := ⟨_, rfl⟩
  rw [← hnn] at HL HCB hn HGG
  have HNN := Hid.mkS hnn
  clear hnn
  by_cases hg0 : g < 0 ∨ 12 < g
  · have HZ : Hid (y = 6) := by show _ = _; rw [HY.out, if_pos (Or.inl (HGG.out.1 hg0))]
    clear HY
    by_cases g0 : g < 0
    · clear hg0
      go_enter Try.func17, Try.ntmps17
      go_wp2_with (first | (go_at_call 47; refine HX.out.mono ?_; rintro e w1 ⟨rfl, hb1⟩) | (go_at_call 21; refine (HDg.out _ hb1).mono ?_; rintro e w2 ⟨rfl, hb2⟩; have D2 := Hid.mkS (hb1.trans (hb2.mono hb1.size)); clear hb2) | (go_at_call 40; refine (HF.out.go _).mono ?_; rintro e w3 ⟨rfl, hb3⟩; have D3 := Hid.mkS (D2.out.trans (hb3.mono D2.out.size)); clear hb3; have cb := keepc D3.out HCB.out) | (go_at_call 18; refine (HL.out.go _).mono ?_; rintro e w4 ⟨rfl, hb4⟩; have D4 := Hid.mkS (D3.out.trans (hb4.mono D3.out.size)); clear hb4))
      go_ret
      exact ⟨by rw [HZ.out]; rfl, D4.out⟩
    · have g12 : 12 < g := by omega
      clear hg0
      go_enter Try.func17, Try.ntmps17
      go_wp2_with (first | (go_at_call 47; refine HX.out.mono ?_; rintro e w1 ⟨rfl, hb1⟩) | (go_at_call 21; refine (HDg.out _ hb1).mono ?_; rintro e w2 ⟨rfl, hb2⟩; have D2 := Hid.mkS (hb1.trans (hb2.mono hb1.size)); clear hb2) | (go_at_call 40; refine (HF.out.go _).mono ?_; rintro e w3 ⟨rfl, hb3⟩; have D3 := Hid.mkS (D2.out.trans (hb3.mono D2.out.size)); clear hb3; have cb := keepc D3.out HCB.out) | (go_at_call 18; refine (HL.out.go _).mono ?_; rintro e w4 ⟨rfl, hb4⟩; have D4 := Hid.mkS (D3.out.trans (hb4.mono D3.out.size)); clear hb4))
      go_ret
      exact ⟨by rw [HZ.out]; rfl, D4.out⟩
  have g0 : ¬ g < 0 := fun h => hg0 (Or.inl h)
  have g12 : ¬ 12 < g := fun h => hg0 (Or.inr h)
  have HG0 := Hid.mkS hg0
  clear hg0
  go_enter Try.func17, Try.ntmps17
  go_wp2_with (first | (go_at_call 47; refine HX.out.mono ?_; rintro e w1 ⟨rfl, hb1⟩) | (go_at_call 21; refine (HDg.out _ hb1).mono ?_; rintro e w2 ⟨rfl, hb2⟩; have D2 := Hid.mkS (hb1.trans (hb2.mono hb1.size)); clear hb2) | (go_at_call 40; refine (HF.out.go _).mono ?_; rintro e w3 ⟨rfl, hb3⟩; have D3 := Hid.mkS (D2.out.trans (hb3.mono D2.out.size)); clear hb3; have cb := keepc D3.out HCB.out) | (go_at_call 18; refine (HL.out.go _).mono ?_; rintro e w4 ⟨rfl, hb4⟩; have D4 := Hid.mkS (D3.out.trans (hb4.mono D3.out.size)); clear hb4 cb))
  go_loopw [9] (fun u wr => ∃ j : Nat, j ≤ ts.length ∧ u = .int .i64 j ∧ Hid ((ts.take j).all (fun t => decide (t.length = n)) = true) ∧ Hid (Below W.heap.size W wr)) (fun u _ => ts.length - (intOf u).toNat)
  case atStart => exact ⟨0, Nat.zero_le _, rfl, (by rfl), D4⟩
  case round =>
    obtain ⟨j, hj, rfl, HS, HD⟩ := hrel
    clear D4 D3 D2 hb1
    by_cases hlt : j < ts.length
    · obtain ⟨b, off, ta, tc, e', hb, cb, _⟩ := HT.out.cells j hlt
      simp only [Option.some.injEq, Addr.mk.injEq] at e'
      obtain ⟨rfl, rfl, _⟩ := e'
      have db := keepc HD.out cb
      have dc := keepc HD.out HCB.out
      have HS2 : Hid (ts.take (j + 1) = ts.take j ++ [tb ts j]) := take_ts ts j hlt
      have HM : Hid (tb ts j ∈ ts) := tb_mem hlt
      have j1 : (j : Int) < (ts.length : Int) := by omega
      have j2 : (0 : Int) ≤ (j : Int) := by omega
      clear cb
      generalize tb ts j = x at *
      by_cases hx : x.length = n
      · rw [hx] at db
        go_upto_region 12 with fail
        go_region_held3 (fun w => w.cell? ⟨b0, off0 + j, none⟩ = some (.slice ta n tc) ∧ w.cell? ⟨b0, off0, none⟩ = some (.slice ra0 n rc0)) (go_keep) (fail)
        go_wp2_with fail
        exact ⟨⟨j + 1, hlt, by simp, (by show _ = _; rw [HS2.out, List.all_append, HS.out]; simp [hx]), HD.out.drew⟩, by simp [intOf]; omega⟩
      · have hx2 : ¬ (x.length : Int) = (n : Int) := by omega
        have HZ : Hid (y = 6) := by
          show _ = _
          rw [HY.out, if_pos (Or.inl (HGG.out.2.1 (fun h => hx (of_decide_eq_true (List.all_eq_true.1 h x HM.out)))))]
        go_upto_region 12 with fail
        go_region_held3 (fun w => w.cell? ⟨b0, off0 + j, none⟩ = some (.slice ta x.length tc) ∧ w.cell? ⟨b0, off0, none⟩ = some (.slice ra0 n rc0)) (go_keep) (fail)
        go_wp2_with fail
        go_ret
        exact ⟨by rw [HZ.out]; rfl, HD.out.drew⟩
    · obtain rfl : j = ts.length := by omega
      have HAll : Hid (¬ vrs ts < 0) := by
        have := HS.out
        rw [List.take_of_length_le (Nat.le_refl _)] at this
        have h9 := HGG.out.2.2 HG0.out this
        show ¬ _
        omega
      have HY2 : Hid (y = if allG (k : Int) ts = true then 0 else 5) := by
        show _ = _
        rw [HY.out, if_neg]
        rintro (h | h)
        · exact HAll.out h
        · exact HNF.out h
      clear HS HY HAll HGG HG0 HNF hlt hj
      go_wp2_with fail
      go_loopw [10] (fun u wr => ∃ j : Nat, j ≤ ts.length ∧ u = .int .i64 j ∧ Hid (allG (k : Int) (ts.take j) = true) ∧ Hid (Below W.heap.size W wr)) (fun u _ => ts.length - (intOf u).toNat)
      case atStart => exact ⟨0, Nat.zero_le _, rfl, (by rfl), HD⟩
      case round =>
        obtain ⟨j, hj, rfl, HS, HD⟩ := hrel
        by_cases hlt : j < ts.length
        · obtain ⟨b, off, ta, tc, e', hb, cb, hEr⟩ := HT.out.cells j hlt
          simp only [Option.some.injEq, Addr.mk.injEq] at e'
          obtain ⟨rfl, rfl, _⟩ := e'
          have db := keepc HD.out cb
          have HS2 : Hid (ts.take (j + 1) = ts.take j ++ [tb ts j]) := take_ts ts j hlt
          have HM : Hid (tb ts j ∈ ts) := tb_mem hlt
          have HQ : Hid (∀ w, Below W.heap.size W w → Calls Try.prog 41 #[.int .i64 (k : Int), .slice ta (tb ts j).length tc] w fun e w' => e = .returned (.bool ((tb ts j).all fun e => ofB (k : Int) (e.1 : Int) (e.2 : Int))) ∧ Below w.heap.size w w') := fun w hb' => lrall (k : Int) ta tc (tb ts j) (HB.out.1 _ HM.out) w (hEr.below hb') (by have := HB.out.2 _ HM.out; omega)
          have j1 : (j : Int) < (ts.length : Int) := by omega
          have j2 : (0 : Int) ≤ (j : Int) := by omega
          clear cb hEr
          rcases hB : ((tb ts j).all fun e => ofB (k : Int) (e.1 : Int) (e.2 : Int)) with _ | _
          · rw [hB] at HQ
            have HZ : Hid (y = 5) := by
              show _ = _
              rw [HY2.out, if_neg (fun h => by
                have := List.all_eq_true.1 h _ HM.out
                rw [hB] at this; cases this)]
            clear hB HS HS2 HM
            generalize (tb ts j).length = len at *
            go_wp2_with (go_at_call 41; refine (HQ.out _ HD.out).mono ?_; rintro e w5 ⟨rfl, hb5⟩)
            go_ret
            exact ⟨by rw [HZ.out]; rfl, HD.out.trans (hb5.mono HD.out.size)⟩
          · rw [hB] at HQ
            have HS4 : Hid (allG (k : Int) (ts.take (j + 1)) = true) := by show _ = _; rw [HS2.out]; unfold allG at HS ⊢; rw [List.all_append, HS.out]; simp only [List.all_cons, List.all_nil, Bool.and_true, Bool.true_and]; exact hB
            clear hB HS HS2 HM
            generalize (tb ts j).length = len at *
            go_wp2_with (go_at_call 41; refine (HQ.out _ HD.out).mono ?_; rintro e w5 ⟨rfl, hb5⟩)
            exact ⟨⟨j + 1, hlt, by simp, HS4, HD.out.trans (hb5.mono HD.out.size)⟩, by simp [intOf]; omega⟩
        · obtain rfl : j = ts.length := by omega
          have hall := HS.out
          rw [List.take_of_length_le (Nat.le_refl _)] at hall
          have HZ : Hid (y = 0) := by show _ = _; rw [HY2.out, if_pos hall]
          clear hall HS
          go_wp2
          go_ret
          exact ⟨by rw [HZ.out]; rfl, HD.out⟩
end Go.Proofs.Ytfhojakhoobnhaa
