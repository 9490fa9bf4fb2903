/- ExprChecks: the walk of the law over the seat's translation. -/
import Derived.Test.YtfehecmajmhmaaaExL
namespace Go.Proofs.Ytfehecmajmhmaaa
open Go.RowKit

theorem uses_snoc (l : List Stp) (i : Nat) (n : Int) (h : i < l.length) : usesB (l.take (i + 1)) n = (usesB (l.take i) n || decide ((l.getD i zst).k = 2 ∧ (l.getD i zst).a = n)) := by
  unfold usesB
  rw [take_st l i h, List.any_append]
  simp
theorem rdeg_last (sa : Option Addr) (cap : Nat) (l : List Stp) (hm : l.length ≤ 1000) (hc : chk 7 9223372036854775807 l = 0) (W : World) (hR : ORow W sa l) :
    Calls Try.prog 10 #[.slice sa l.length cap, .int .i64 ((l.length - 1 : Nat) : Int)] W fun e w' => e = .returned (.int .i64 (dfun l (l.length - 1) : Nat)) ∧ Below W.heap.size W w' := by
  unfold chk at hc
  rw [if_pos (by decide)] at hc
  by_cases h2 : l.length = 0
  · rw [if_pos h2] at hc; exact absurd hc (by decide)
  · rw [if_neg h2] at hc
    by_cases h3 : 200 < l.length
    · rw [if_pos h3] at hc; exact absurd hc (by decide)
    · rw [if_neg h3] at hc
      have h4 := chkF_zero hc (l.length - 1) (by omega)
      have := rdeg_at 7 9223372036854775807 sa cap l (l.length - 1) (by omega) hm h4.1 (hnI_frm (er_hnI h4.2)) W hR
      rw [← dfun_new (by omega), show l.length - 1 + 1 = l.length by omega, List.take_of_length_le (Nat.le_refl _)] at this
      exact this
set_option maxHeartbeats 8000000 in
set_option maxRecDepth 100000 in
theorem xc_any (lv vr : Int) (sa : Option Addr) (cap : Nat) (l : List Stp) (hl : ∀ o ∈ l, o.ok) (W : World) (hR : ORow W sa l) :
    Calls Try.prog 3 #[.int .i64 lv, .int .i64 vr, .slice sa l.length cap] W fun e w' => e = .returned (.bool true) ∧ Below W.heap.size W w' := by
  have HA := Hid.mkX awake16
  by_cases hm : 210 < l.length
  · have hm' : (210 : Int) < (l.length : Int) := by omega
    clear hl hR
    go_enter Try.func3, Try.ntmps3
    go_wp2_with (go_at_call 7; refine (HA.out.go _).mono ?_; rintro e w1 ⟨rfl, hb1⟩)
    go_ret
    exact ⟨rfl, hb1⟩
  · have hm' : ¬ (210 : Int) < (l.length : Int) := by omega
    have H1 : Hid (Calls Try.prog 8 #[.slice sa l.length cap] W fun e w' => ∃ v, e = .returned v ∧ w'.ownsRow W.heap.size 63 5 v l.length (sflat l) ∧ Below W.heap.size W w') := rref_own sa cap l (by omega) W hR
    have H2 : Hid (∀ w ra rc, ORow w ra l → Calls Try.prog 9 #[.int .i64 7, .int .i64 9223372036854775807, .slice ra l.length rc] w fun e w' => e = .returned (.int .i64 (chk 7 9223372036854775807 l)) ∧ Below w.heap.size w w') := fun w ra rc h => rchk 7 9223372036854775807 ra rc l hl (by omega) w h
    have H3 : Hid (∀ w ra rc, ORow w ra l → Calls Try.prog 9 #[.int .i64 lv, .int .i64 vr, .slice ra l.length rc] w fun e w' => e = .returned (.int .i64 (chk lv vr l)) ∧ Below w.heap.size w w') := fun w ra rc h => rchk lv vr ra rc l hl (by omega) w h
    have H4 : Hid (∀ w, ORow w sa l → Calls Try.prog 11 #[.int .i64 lv, .int .i64 vr, .slice sa l.length cap] w fun e w' => e = .returned (.int .i64 (chk lv vr l)) ∧ Below w.heap.size w w') := fun w h => xcheck lv vr sa cap l hl (by omega) w h
    have H5 : Hid (∀ w, ORow w sa l → Calls Try.prog 12 #[.slice sa l.length cap] w fun e w' => e = .returned (.int .i64 (if chk 7 9223372036854775807 l = 0 then (dfun l (l.length - 1) : Int) else -1)) ∧ Below w.heap.size w w') := fun w h => xdegree sa cap l hl (by omega) w h
    have H6 : Hid (∀ w, ORow w sa l → Calls Try.prog 13 #[.slice sa l.length cap, .int .i64 vr] w fun e w' => e = .returned (.bool (usesB l vr)) ∧ Below w.heap.size w w') := fun w h => xuses sa cap l vr (by omega) w h
    have H7 : Hid (chk 7 9223372036854775807 l = 0 → ∀ w ra rc, ORow w ra l → Calls Try.prog 10 #[.slice ra l.length rc, .int .i64 ((l.length - 1 : Nat) : Int)] w fun e w' => e = .returned (.int .i64 (dfun l (l.length - 1) : Nat)) ∧ Below w.heap.size w w') := fun hc w ra rc h => rdeg_last ra rc l (by omega) hc w h
    have HO : Hid (ORow W sa l) := hR
    generalize chk lv vr l = c at *
    clear hR hl
    by_cases hc7 : chk 7 9223372036854775807 l = 0
    · have H7' := Hid.mkX (H7.out hc7)
      rw [hc7] at H2
      rw [if_pos hc7] at H5
      have h0 : 0 < l.length := Nat.pos_of_ne_zero fun h => by
        unfold chk at hc7
        rw [if_pos (by decide), if_pos h] at hc7
        exact absurd hc7 (by decide)
      have e1 : IntKind.i64.wrap ((l.length : Int) - 1) = ((l.length - 1 : Nat) : Int) := by rw [IntKind.wrap_i64]; omega
      have e2 : (l.length : Int) - 1 = ((l.length - 1 : Nat) : Int) := by omega
      generalize dfun l (l.length - 1) = D at *
      clear H7 hc7
      generalize l.length - 1 = q at *
      go_enter Try.func3, Try.ntmps3
      go_wp2_with (first
        | (go_at_call 8; refine H1.out.mono ?_; rintro e w1 ⟨v1, rfl, own1, hb1⟩; obtain ⟨ra, rc, rfl, R1⟩ := own_steps own1; have D1 : Hid (ORow w1 ra l ∧ Below W.heap.size W w1) := ⟨R1, hb1⟩; clear own1 hb1 R1 H1)
        | (go_at_call 9; refine (H2.out _ _ _ D1.out.1).mono ?_; rintro e w2 ⟨rfl, hb2⟩; have D2 : Hid (ORow w2 ra l ∧ Below W.heap.size W w2) := ⟨D1.out.1.below hb2, D1.out.2.trans (hb2.mono D1.out.2.size)⟩; clear hb2 D1)
        | (go_at_call 10; refine (H7'.out _ _ _ D2.out.1).mono ?_; rintro e w3 ⟨rfl, hb3⟩; have D3 : Hid (ORow w3 ra l ∧ Below W.heap.size W w3) := ⟨D2.out.1.below hb3, D2.out.2.trans (hb3.mono D2.out.2.size)⟩; clear hb3 D2))
      clear H2 H7' e1 e2
      go_loopw [9, 10] (fun b u wr => ∃ i : Nat, i ≤ l.length ∧ b = .bool (usesB (l.take i) vr) ∧ u = .int .i64 i ∧ Hid (ORow wr ra l ∧ Below W.heap.size W wr)) (fun _ u _ => l.length - (intOf u).toNat)
      case atStart => exact ⟨0, Nat.zero_le _, rfl, rfl, D3⟩
      case round =>
        obtain ⟨i, hi, rfl, rfl, HI⟩ := hrel
        clear D3
        by_cases hlt : i < l.length
        · obtain ⟨b0, off, rfl, hb0, c0, c1, _, _, _⟩ := HO.out.cells i hlt
          have C0 := keepc HI.out.2 c0
          have C1 := keepc HI.out.2 c1
          have HU := Hid.mkX (uses_snoc l i vr hlt)
          have b1 : (i : Int) < (l.length : Int) := by omega
          have b2 : (0 : Int) ≤ (i : Int) := by omega
          clear c0 c1 hb0 HO H3 H4 H5 H6 HA
          generalize (l.getD i zst).k = k at *
          generalize (l.getD i zst).a = a at *
          generalize usesB (l.take i) vr = z at *
          cases z
          · by_cases hk : k = 2
            · subst hk
              by_cases ha : a = vr
              · subst ha
                go_wp2
                refine ⟨⟨i + 1, hlt, by rw [HU.out]; simp, by simp, HI⟩, by simp [intOf]; omega⟩
              · have ga : (a == vr) = false := by rw [beq_eq_false_iff_ne]; exact ha
                go_wp2
                refine ⟨⟨i + 1, hlt, by rw [HU.out]; simp [ha], by simp, HI⟩, by simp [intOf]; omega⟩
            · have gk : (k == 2) = false := by rw [beq_eq_false_iff_ne]; exact hk
              go_wp2
              refine ⟨⟨i + 1, hlt, by rw [HU.out]; simp [hk], by simp, HI⟩, by simp [intOf]; omega⟩
          · go_wp2
            refine ⟨⟨i + 1, hlt, by rw [HU.out]; simp, by simp, HI⟩, by simp [intOf]; omega⟩
        · obtain rfl : i = l.length := by omega
          rw [List.take_of_length_le (Nat.le_refl _)]
          generalize usesB l vr = z at *
          go_wp2_with (first
            | (go_at_call 7; refine (HA.out.go _).mono ?_; rintro e w4 ⟨rfl, hb4⟩; have K4 : Hid (ORow w4 ra l ∧ Below W.heap.size W w4) := ⟨HI.out.1.below hb4, HI.out.2.trans (hb4.mono HI.out.2.size)⟩; clear hb4)
            | (go_at_call 11; refine (H4.out _ (HO.out.below K4.out.2)).mono ?_; rintro e w5 ⟨rfl, hb5⟩; have K5 : Hid (ORow w5 ra l ∧ Below W.heap.size W w5) := ⟨K4.out.1.below hb5, K4.out.2.trans (hb5.mono K4.out.2.size)⟩; clear hb5)
            | (go_at_call 9; refine (H3.out _ _ _ K5.out.1).mono ?_; rintro e w6 ⟨rfl, hb6⟩; have K6 : Hid (Below W.heap.size W w6) := K5.out.2.trans (hb6.mono K5.out.2.size); clear hb6)
            | (go_at_call 12; refine (H5.out _ (HO.out.below K6.out)).mono ?_; rintro e w7 ⟨rfl, hb7⟩; have K7 : Hid (Below W.heap.size W w7) := K6.out.trans (hb7.mono K6.out.size); clear hb7)
            | (go_at_call 13; refine (H6.out _ (HO.out.below K7.out)).mono ?_; rintro e w8 ⟨rfl, hb8⟩; have K8 : Hid (Below W.heap.size W w8) := K7.out.trans (hb8.mono K7.out.size); clear hb8))
          go_ret
          refine ⟨?_, K8.out⟩
          simp
    · rw [if_neg hc7] at H5
      clear H7
      generalize chk 7 9223372036854775807 l = c7 at *
      have g7 : (c7 == 0) = false := by rw [beq_eq_false_iff_ne]; exact hc7
      go_enter Try.func3, Try.ntmps3
      go_wp2_with (first
        | (go_at_call 8; refine H1.out.mono ?_; rintro e w1 ⟨v1, rfl, own1, hb1⟩; obtain ⟨ra, rc, rfl, R1⟩ := own_steps own1; have D1 : Hid (ORow w1 ra l ∧ Below W.heap.size W w1) := ⟨R1, hb1⟩; clear own1 hb1 R1 H1)
        | (go_at_call 9; refine (H2.out _ _ _ D1.out.1).mono ?_; rintro e w2 ⟨rfl, hb2⟩; have D3 : Hid (ORow w2 ra l ∧ Below W.heap.size W w2) := ⟨D1.out.1.below hb2, D1.out.2.trans (hb2.mono D1.out.2.size)⟩; clear hb2 D1))
      clear H2
      go_loopw [9, 10] (fun b u wr => ∃ i : Nat, i ≤ l.length ∧ b = .bool (usesB (l.take i) vr) ∧ u = .int .i64 i ∧ Hid (ORow wr ra l ∧ Below W.heap.size W wr)) (fun _ u _ => l.length - (intOf u).toNat)
      case atStart => exact ⟨0, Nat.zero_le _, rfl, rfl, D3⟩
      case round =>
        obtain ⟨i, hi, rfl, rfl, HI⟩ := hrel
        clear D3
        by_cases hlt : i < l.length
        · obtain ⟨b0, off, rfl, hb0, c0, c1, _, _, _⟩ := HO.out.cells i hlt
          have C0 := keepc HI.out.2 c0
          have C1 := keepc HI.out.2 c1
          have HU := Hid.mkX (uses_snoc l i vr hlt)
          have b1 : (i : Int) < (l.length : Int) := by omega
          have b2 : (0 : Int) ≤ (i : Int) := by omega
          clear c0 c1 hb0 HO H3 H4 H5 H6 HA
          generalize (l.getD i zst).k = k at *
          generalize (l.getD i zst).a = a at *
          generalize usesB (l.take i) vr = z at *
          cases z
          · by_cases hk : k = 2
            · subst hk
              by_cases ha : a = vr
              · subst ha
                go_wp2
                refine ⟨⟨i + 1, hlt, by rw [HU.out]; simp, by simp, HI⟩, by simp [intOf]; omega⟩
              · have ga : (a == vr) = false := by rw [beq_eq_false_iff_ne]; exact ha
                go_wp2
                refine ⟨⟨i + 1, hlt, by rw [HU.out]; simp [ha], by simp, HI⟩, by simp [intOf]; omega⟩
            · have gk : (k == 2) = false := by rw [beq_eq_false_iff_ne]; exact hk
              go_wp2
              refine ⟨⟨i + 1, hlt, by rw [HU.out]; simp [hk], by simp, HI⟩, by simp [intOf]; omega⟩
          · go_wp2
            refine ⟨⟨i + 1, hlt, by rw [HU.out]; simp, by simp, HI⟩, by simp [intOf]; omega⟩
        · obtain rfl : i = l.length := by omega
          rw [List.take_of_length_le (Nat.le_refl _)]
          generalize usesB l vr = z at *
          go_wp2_with (first
            | (go_at_call 7; refine (HA.out.go _).mono ?_; rintro e w4 ⟨rfl, hb4⟩; have K4 : Hid (ORow w4 ra l ∧ Below W.heap.size W w4) := ⟨HI.out.1.below hb4, HI.out.2.trans (hb4.mono HI.out.2.size)⟩; clear hb4)
            | (go_at_call 11; refine (H4.out _ (HO.out.below K4.out.2)).mono ?_; rintro e w5 ⟨rfl, hb5⟩; have K5 : Hid (ORow w5 ra l ∧ Below W.heap.size W w5) := ⟨K4.out.1.below hb5, K4.out.2.trans (hb5.mono K4.out.2.size)⟩; clear hb5)
            | (go_at_call 9; refine (H3.out _ _ _ K5.out.1).mono ?_; rintro e w6 ⟨rfl, hb6⟩; have K6 : Hid (Below W.heap.size W w6) := K5.out.2.trans (hb6.mono K5.out.2.size); clear hb6)
            | (go_at_call 12; refine (H5.out _ (HO.out.below K6.out)).mono ?_; rintro e w7 ⟨rfl, hb7⟩; have K7 : Hid (Below W.heap.size W w7) := K6.out.trans (hb7.mono K6.out.size); clear hb7)
            | (go_at_call 13; refine (H6.out _ (HO.out.below K7.out)).mono ?_; rintro e w8 ⟨rfl, hb8⟩; have K8 : Hid (Below W.heap.size W w8) := K7.out.trans (hb8.mono K7.out.size); clear hb8))
          go_ret
          refine ⟨?_, K8.out⟩
          simp
end Go.Proofs.Ytfehecmajmhmaaa
