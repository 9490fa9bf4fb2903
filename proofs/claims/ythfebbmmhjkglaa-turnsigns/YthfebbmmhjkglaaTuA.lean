/- Contracts of turn.Fits and From over the seat's translation. -/
import Derived.Test.YthfebbmmhjkglaaTwBl
import Derived.Deep.RegionHeld3
namespace Go.Proofs.Ythfebbmmhjkglaa
open Go.RowKit

/-- How many bits a word of w has. -/
def pw (w : Int) : Int := ((2 ^ w.toNat : Nat) : Int)
/-- Is it a turn? -/
def ftB (k w s : Int) : Bool := decide ((0 ≤ w ∧ w ≤ 6) ∧ (0 ≤ s ∧ s < pw w) ∧ ((k = 0 ∧ s = 0) ∨ (1 ≤ k ∧ k ≤ 3)))
theorem ftB_true {k w s : Int} (h : ftB k w s = true) : (0 ≤ w ∧ w ≤ 6) ∧ (0 ≤ s ∧ s < pw w) ∧ ((k = 0 ∧ s = 0) ∨ (1 ≤ k ∧ k ≤ 3)) := of_decide_eq_true h
theorem pw_le {w : Int} (h : w ≤ 6) : 1 ≤ pw w ∧ pw w ≤ 64 := by
  unfold pw
  have h1 : 2 ^ w.toNat ≤ 2 ^ 6 := Nat.pow_le_pow_right (by decide) (by omega)
  have h2 : 0 < 2 ^ w.toNat := Nat.two_pow_pos _
  have h3 : (2 : Nat) ^ 6 = 64 := rfl
  omega
theorem pw_wrap {w : Int} (h : w ≤ 6) : wrap64 (2 ^ w.toNat) = pw w := by
  have e : ((2 : Int) ^ w.toNat) = pw w := by unfold pw; simp
  have := pw_le h
  rw [e]
  unfold wrap64
  omega
set_option maxHeartbeats 1000000 in
theorem tfits (k w s : Int) : Ret 13 #[.int .i64 k, .int .i64 w, .int .i64 s] (.bool (ftB k w s)) := by
  intro W
  obtain ⟨z, hz⟩ : ∃ z, z = ftB k w s := ⟨_, rfl⟩
  rw [← hz]
  by_cases h0 : 0 ≤ w ∧ w ≤ 6
  · have hp := pw_wrap h0.2
    have HZ : Hid (z = decide ((0 ≤ s ∧ s < pw w) ∧ ((k = 0 ∧ s = 0) ∨ (1 ≤ k ∧ k ≤ 3)))) := by show _ = _; rw [hz]; unfold ftB; simp [h0]
    obtain ⟨h1, h2⟩ := h0
    clear hz
    generalize pw w = n at *
    go_enter Try.func13, Try.ntmps13
    go_wp2
    all_goals
      go_ret
      refine ⟨?_, Below.refl _ _⟩
      rw [HZ.out]
      simp_all
      try (first | rfl | omega)
  · have HZ : Hid (z = false) := by show _ = _; rw [hz]; exact decide_eq_false (fun h => h0 h.1)
    clear hz
    rcases Int.lt_or_le w 0 with h1 | h1
    · clear h0
      go_enter Try.func13, Try.ntmps13
      go_wp2
      go_ret
      exact ⟨by rw [HZ.out]; rfl, Below.refl _ _⟩
    · have h2 : 6 < w := by omega
      clear h0
      go_enter Try.func13, Try.ntmps13
      go_wp2
      go_ret
      exact ⟨by rw [HZ.out]; rfl, Below.refl _ _⟩
/-- Which bit the bit i was. -/
def frI (k w s i : Int) : Int :=
  if ftB k w s = true ∧ 0 ≤ i ∧ i < pw w then
    (if k = 1 then (if 0 ≤ i - s then i - s else -1) else if k = 2 then (if i + s < pw w then i + s else -1) else if k = 3 then (if 0 ≤ i - s then i - s else i - s + pw w) else i)
  else -1
theorem frI_no {k w s i : Int} (h : ¬ (ftB k w s = true ∧ 0 ≤ i ∧ i < pw w)) : frI k w s i = -1 := by unfold frI; rw [if_neg h]
theorem frI_yes {k w s i : Int} (h : ftB k w s = true ∧ 0 ≤ i ∧ i < pw w) : frI k w s i = (if k = 1 then (if 0 ≤ i - s then i - s else -1) else if k = 2 then (if i + s < pw w then i + s else -1) else if k = 3 then (if 0 ≤ i - s then i - s else i - s + pw w) else i) := by unfold frI; rw [if_pos h]
set_option maxHeartbeats 4000000 in
theorem tfrom (k w s i : Int) : Ret 11 #[.int .i64 k, .int .i64 w, .int .i64 s, .int .i64 i] (.int .i64 (frI k w s i)) := by
  intro W
  have HF : Hid (Ret 13 #[.int .i64 k, .int .i64 w, .int .i64 s] (.bool (ftB k w s))) := tfits k w s
  obtain ⟨z, hz⟩ : ∃ z, z = frI k w s i := ⟨_, rfl⟩
  rw [← hz]
  cases hf : ftB k w s
  · rw [hf] at HF
    rw [frI_no (fun h => by rw [hf] at h; cases h.1)] at hz
    subst hz
    clear hf
    go_enter Try.func11, Try.ntmps11
    go_wp2_with (go_at_call 13; refine (HF.out.go _).mono ?_; rintro e w1 ⟨rfl, hb1⟩)
    go_ret
    exact ⟨rfl, hb1⟩
  · rw [hf] at HF
    obtain ⟨⟨h1, h2⟩, ⟨h3, h4⟩, hk⟩ := ftB_true hf
    have hp := pw_wrap h2
    have hn := pw_le h2
    by_cases hr : 0 ≤ i ∧ i < pw w
    · rw [frI_yes ⟨hf, hr⟩] at hz
      obtain ⟨h5, h6⟩ := hr
      clear hf
      generalize pw w = n at *
      by_cases k1 : k = 1
      · subst k1
        rw [if_pos rfl] at hz
        have HZ : Hid (z = if 0 ≤ i - s then i - s else -1) := hz
        clear hz hk
        have e1 : IntKind.i64.wrap (i - s) = i - s := by rw [IntKind.wrap_i64]; omega
        have e2 : ¬ n ≤ i - s := by omega
        go_enter Try.func11, Try.ntmps11
        go_wp2_with (go_at_call 13; refine (HF.out.go _).mono ?_; rintro e w1 ⟨rfl, hb1⟩; have D : Hid (Below W.heap.size W w1) := hb1; clear hb1)
        all_goals
          go_ret
          refine ⟨?_, D.out⟩
          rw [HZ.out]
          simp_all
          try omega
      · rw [if_neg k1] at hz
        have g1 : (k == 1) = false := by rw [beq_eq_false_iff_ne]; exact k1
        by_cases k2 : k = 2
        · subst k2
          rw [if_pos rfl] at hz
          have HZ : Hid (z = if i + s < n then i + s else -1) := hz
          clear hz hk
          have e1 : IntKind.i64.wrap (i + s) = i + s := by rw [IntKind.wrap_i64]; omega
          have e2 : ¬ i + s < 0 := by omega
          go_enter Try.func11, Try.ntmps11
          go_wp2_with (go_at_call 13; refine (HF.out.go _).mono ?_; rintro e w1 ⟨rfl, hb1⟩; have D : Hid (Below W.heap.size W w1) := hb1; clear hb1)
          all_goals
            go_ret
            refine ⟨?_, D.out⟩
            rw [HZ.out]
            simp_all
            try omega
        · rw [if_neg k2] at hz
          have g2 : (k == 2) = false := by rw [beq_eq_false_iff_ne]; exact k2
          by_cases k3 : k = 3
          · subst k3
            rw [if_pos rfl] at hz
            have HZ : Hid (z = if 0 ≤ i - s then i - s else i - s + n) := hz
            clear hz hk
            have e1 : IntKind.i64.wrap (i - s) = i - s := by rw [IntKind.wrap_i64]; omega
            have e3 : IntKind.i64.wrap (i - s + n) = i - s + n := by rw [IntKind.wrap_i64]; omega
            have hm : (i - s + n).tmod n = if 0 ≤ i - s then i - s else i - s + n := by
              rw [Int.tmod_eq_emod_of_nonneg (by omega)]
              split
              · rw [Int.add_emod_right, Int.emod_eq_of_lt (by omega) (by omega)]
              · rw [Int.emod_eq_of_lt (by omega) (by omega)]
            have hm2 : (i - s + n) % n = if 0 ≤ i - s then i - s else i - s + n := by rw [← Int.tmod_eq_emod_of_nonneg (by omega), hm]
            rw [← HZ.out] at hm hm2
            have hn0 : ¬ n = 0 := by omega
            have z1 : 0 ≤ z := by rw [HZ.out]; split <;> omega
            have z2 : z < n := by rw [HZ.out]; split <;> omega
            go_enter Try.func11, Try.ntmps11
            go_wp2_with (go_at_call 13; refine (HF.out.go _).mono ?_; rintro e w1 ⟨rfl, hb1⟩; have D : Hid (Below W.heap.size W w1) := hb1; clear hb1)
            go_ret
            exact ⟨rfl, D.out⟩
          · rw [if_neg k3] at hz
            have g3 : (k == 3) = false := by rw [beq_eq_false_iff_ne]; exact k3
            subst hz
            clear hk k1 k2 k3
            go_enter Try.func11, Try.ntmps11
            go_wp2_with (go_at_call 13; refine (HF.out.go _).mono ?_; rintro e w1 ⟨rfl, hb1⟩; have D : Hid (Below W.heap.size W w1) := hb1; clear hb1)
            go_ret
            exact ⟨rfl, D.out⟩
    · rw [frI_no (fun h => hr h.2)] at hz
      subst hz
      clear hf hk
      generalize pw w = n at *
      rcases Int.lt_or_le i 0 with h5 | h5
      · clear hr
        go_enter Try.func11, Try.ntmps11
        go_wp2_with (go_at_call 13; refine (HF.out.go _).mono ?_; rintro e w1 ⟨rfl, hb1⟩; have D : Hid (Below W.heap.size W w1) := hb1; clear hb1)
        go_ret
        exact ⟨rfl, D.out⟩
      · have h6 : n ≤ i := by omega
        clear hr
        go_enter Try.func11, Try.ntmps11
        go_wp2_with (go_at_call 13; refine (HF.out.go _).mono ?_; rintro e w1 ⟨rfl, hb1⟩; have D : Hid (Below W.heap.size W w1) := hb1; clear hb1)
        go_ret
        exact ⟨rfl, D.out⟩
end Go.Proofs.Ythfebbmmhjkglaa
