/- The walk of CubeCorners over the seat's translation: a corner. -/
import Derived.Test.YtkjgbkjhdmipoaaCbT
import Derived.Test.YtkjgbkjhdmipoaaSmA
namespace Go.Proofs.Ytkjgbkjhdmipoaa
open Go.RowKit
open Cb
open Tw (pm)

set_option maxHeartbeats 4000000 in
set_option maxRecDepth 100000 in
theorem cc_v1 (l : Int) (a : Option Addr) (cap K : Nat) (t : List (Nat × Nat)) (n P i : Nat) (hn1 : 1 ≤ n) (hn2 : n ≤ 16) (hP : P = 2 ^ n) (hi2 : i < P) (g : Int) (_ht : ltE t) (h1 : t.length ≤ 64) (W : World) (hT : ERow W a t) (hK : K < 1) (hlg : lgz t.length = (K : Int) ∨ (lgz t.length = -1 ∧ K = 0)) (HLc : Hid (Ret 4 #[.int .i64 (n : Int)] (.int .i64 g))) (HLr : Hid (Ret 5 #[.int .i64 (n : Int)] (.int .i64 g))) :
    Calls Try.prog 3 #[.int .i64 l, .slice a t.length cap, .agg #[.int .i64 (n : Int), .int .i64 (i : Int)]] W fun e w' => e = .returned (.bool true) ∧ Below W.heap.size W w' := by
  have AW := awake15
  have HCo : Hid (∀ w, Calls Try.prog 7 #[.int .i64 (n : Int), .int .i64 (i : Int)] w fun e w' => ∃ g, e = .returned (.slice (some ⟨g, 0, none⟩) n n) ∧ ERow w' (some ⟨g, 0, none⟩) (crn n i) ∧ Below w.heap.size w w') := fun w => cor_ok n i hn1 hn2 (hP ▸ hi2) w
  have HR2 : Hid (∀ w, Below W.heap.size W w → Calls Try.prog 10 #[.slice a t.length cap] w fun e w' => ∃ a' cap', e = .returned (.slice a' t.length cap') ∧ ERow w' a' t ∧ Below w.heap.size w w') := fun w hb => ref_row a cap t (by omega) w (hT.below hb)
  obtain ⟨G, hG, HLt0⟩ : ∃ G : Int, (G = (K : Int) ∨ (G = -1 ∧ K = 0)) ∧ Ret 5 #[.int .i64 (t.length : Int)] (.int .i64 G) := ⟨_, hlg, rlog_any t.length⟩
  have HLt : Hid (Ret 5 #[.int .i64 (t.length : Int)] (.int .i64 G)) := HLt0
  have g1 : ¬ (64 : Int) < (t.length : Int) := by omega
  have g2 : (g != g) = false := by simp
  have hn' : ¬ (n : Int) < 1 := by omega
  have hn'' : ¬ 16 < (n : Int) := by omega
  have hi' : ¬ (i : Int) < 0 := by omega
  have hi'' : ¬ (P : Int) ≤ (i : Int) := by omega
  have h65 : i < 65536 := by have : 2 ^ n ≤ 2 ^ 16 := Nat.pow_le_pow_right (by decide) hn2; omega
  have HTw : Hid (Ret 8 #[.int .i64 (n : Int)] (.int .i64 (P : Int))) := by
    have := rtwo15 n hn2
    rw [← hP] at this
    exact this
  have hK' : (K : Int) < 1 := by omega
  have hG1 : G < 1 := by omega
  clear hP hT hK hK' hlg hG HLt0
  generalize hL : t.length = L at *
  clear hL
  go_enter Try.func3, Try.ntmps3
  go_wp2_with fail
  go_region_held3 (fun w => w.cell? ⟨W.heap.size, 0, none⟩ = some (.int .i64 (n : Int)) ∧ w.cell? ⟨W.heap.size, 1, none⟩ = some (.int .i64 (i : Int))) (first | (go_keep; done) | (refine ⟨?_, ?_⟩ <;> simp [go_sem])) (fail)
  have D0 : Hid (Below W.heap.size W (W.alloc (Obj.cells #[.int .i64 (n : Int), .int .i64 (i : Int)] 23)).drew) := (by go_grown : Below W.heap.size W (W.alloc (Obj.cells #[.int .i64 (n : Int), .int .i64 (i : Int)] 23)).drew)
  go_wp2_with (first | (go_at_call 4; refine (HLc.out.go _).mono ?_; rintro e w1 ⟨rfl, hb1⟩; have D1 : Hid (Below W.heap.size W w1) := D0.out.trans (hb1.mono D0.out.size); clear hb1) | (go_at_call_of 5 (#[.int .i64 (n : Int)] : Array Value); refine (HLr.out.go _).mono ?_; rintro e w2 ⟨rfl, hb2⟩; have D2 : Hid (Below W.heap.size W w2) := D1.out.trans (hb2.mono D1.out.size); clear hb2) | (go_at_call_of 7 (#[.int .i64 (n : Int), .int .i64 (i : Int)] : Array Value); refine (HCo.out _).mono ?_; rintro e w3 ⟨gc, rfl, hE3, hb3⟩; have D3 : Hid (Below W.heap.size W w3) := D2.out.trans (hb3.mono D2.out.size); have E3 : Hid (ERow w3 (some ⟨gc, 0, none⟩) (crn n i)) := hE3; clear hb3 hE3) | (go_at_call 8; refine (HTw.out.go _).mono ?_; rintro e w3b ⟨rfl, hb3b⟩; have D3b : Hid (Below W.heap.size W w3b) := D3.out.trans (hb3b.mono D3.out.size); have E3b : Hid (ERow w3b (some ⟨gc, 0, none⟩) (crn n i)) := E3.out.below hb3b; clear hb3b))
  go_loopw [10, 11] (fun vk u wr => ∃ j k : Nat, j ≤ n ∧ Hid (k = i / 2 ^ j) ∧ k < 65536 ∧ vk = .int .i64 (k : Int) ∧ u = .int .i64 j ∧ Below w3b.heap.size w3b wr) (fun _ u _ => n - (intOf u).toNat)
  case atStart => exact ⟨0, i, Nat.zero_le _, (by show _ = _; simp), h65, rfl, rfl, Below.refl _ _⟩
  case round =>
    obtain ⟨j, k, hj, HQ, hk65, rfl, rfl, hD⟩ := hrel
    have HDr : Hid (Below w3b.heap.size w3b wr) := hD
    by_cases hlt : j < n
    · obtain ⟨b, o, e, hb, x1, x0⟩ := (E3b.out.below hD).cells j (by rw [crn_len]; exact hlt)
      injection e with e
      injection e with e3 e4
      subst e3 e4
      have hx : (crn n i).getD j (0, 0) = (0, k % 2) := by
        have := crn_at n i j hlt
        unfold el at this
        rw [this, HQ.out]
      rw [hx] at x1 x0
      rw [Nat.zero_add] at x1 x0
      have hd2 : (k : Int).tdiv 2 = ((k / 2 : Nat) : Int) := by rw [Int.tdiv_eq_ediv_of_nonneg (by omega)]; omega
      have hrm : (k : Int).tmod 2 = ((k % 2 : Nat) : Int) := by rw [Int.tmod_eq_emod_of_nonneg (by omega)]; omega
      have HN2 : Hid (k / 2 = i / 2 ^ (j + 1)) := by show _ = _; rw [HQ.out, Nat.div_div_eq_div_mul, Nat.pow_succ]
      have hk2 : k / 2 < 65536 := by omega
      have hb2 : k % 2 < 2 := Nat.mod_lt _ (by decide)
      obtain ⟨K2, hK2⟩ : ∃ x, k / 2 = x := ⟨_, rfl⟩
      obtain ⟨B2, hB2⟩ : ∃ x, k % 2 = x := ⟨_, rfl⟩
      rw [hK2] at hd2 HN2 hk2
      rw [hB2] at hrm hb2 x1 x0
      have hwr : IntKind.u64.wrap (B2 : Int) = (B2 : Int) := by rw [IntKind.wrap_u64]; omega
      clear hD hx hK2 hB2 E3 E3b
      go_wp2
      exact ⟨⟨j + 1, K2, hlt, HN2.out, hk2, by simp, by simp, HDr.out⟩, by simp [intOf]; omega⟩
    · obtain rfl : n = j := by omega
      have DR : Hid (Below W.heap.size W wr) := D3b.out.trans (hD.mono D3b.out.size)
      clear hD
      go_wp2_with (first | (go_at_call 5; refine (HLt.out.go _).mono ?_; rintro e w4 ⟨rfl, hb4⟩; have D4 : Hid (Below W.heap.size W w4) := DR.out.trans (hb4.mono DR.out.size); clear hb4) | (go_at_call 6; refine (AW.go _).mono ?_; rintro e w7 ⟨rfl, hb7⟩; have D7 : Hid (Below W.heap.size W w7) := D4.out.trans (hb7.mono D4.out.size); clear hb7))
      go_ret
      exact ⟨rfl, D7.out⟩
set_option maxHeartbeats 4000000 in
set_option maxRecDepth 100000 in
theorem cc_v2 (l : Int) (a : Option Addr) (cap K : Nat) (t : List (Nat × Nat)) (n P i : Nat) (hn1 : 1 ≤ n) (hn2 : n ≤ 16) (hP : P = 2 ^ n) (hi2 : i < P) (g : Int) (ht : ltE t) (h1 : t.length ≤ 64) (W : World) (hT : ERow W a t) (hK : ¬ K < 1) (F : Int) (hF : fiE l t [] = F) (hF0 : ¬ F = 0) (hlg : lgz t.length = (K : Int) ∨ (lgz t.length = -1 ∧ K = 0)) (HLc : Hid (Ret 4 #[.int .i64 (n : Int)] (.int .i64 g))) (HLr : Hid (Ret 5 #[.int .i64 (n : Int)] (.int .i64 g))) :
    Calls Try.prog 3 #[.int .i64 l, .slice a t.length cap, .agg #[.int .i64 (n : Int), .int .i64 (i : Int)]] W fun e w' => e = .returned (.bool true) ∧ Below W.heap.size W w' := by
  have AW := awake15
  have HCo : Hid (∀ w, Calls Try.prog 7 #[.int .i64 (n : Int), .int .i64 (i : Int)] w fun e w' => ∃ g, e = .returned (.slice (some ⟨g, 0, none⟩) n n) ∧ ERow w' (some ⟨g, 0, none⟩) (crn n i) ∧ Below w.heap.size w w') := fun w => cor_ok n i hn1 hn2 (hP ▸ hi2) w
  have HR2 : Hid (∀ w, Below W.heap.size W w → Calls Try.prog 10 #[.slice a t.length cap] w fun e w' => ∃ a' cap', e = .returned (.slice a' t.length cap') ∧ ERow w' a' t ∧ Below w.heap.size w w') := fun w hb => ref_row a cap t (by omega) w (hT.below hb)
  obtain ⟨G, hG, HLt0⟩ : ∃ G : Int, (G = (K : Int) ∨ (G = -1 ∧ K = 0)) ∧ Ret 5 #[.int .i64 (t.length : Int)] (.int .i64 G) := ⟨_, hlg, rlog_any t.length⟩
  have HLt : Hid (Ret 5 #[.int .i64 (t.length : Int)] (.int .i64 G)) := HLt0
  have g1 : ¬ (64 : Int) < (t.length : Int) := by omega
  have g2 : (g != g) = false := by simp
  have hn' : ¬ (n : Int) < 1 := by omega
  have hn'' : ¬ 16 < (n : Int) := by omega
  have hi' : ¬ (i : Int) < 0 := by omega
  have hi'' : ¬ (P : Int) ≤ (i : Int) := by omega
  have h65 : i < 65536 := by have : 2 ^ n ≤ 2 ^ 16 := Nat.pow_le_pow_right (by decide) hn2; omega
  have HTw : Hid (Ret 8 #[.int .i64 (n : Int)] (.int .i64 (P : Int))) := by
    have := rtwo15 n hn2
    rw [← hP] at this
    exact this
  have hK' : ¬ (K : Int) < 1 := by omega
  have hF' : (F != 0) = true := by simp [hF0]
  have HM : Hid (∀ (w : World) (ax : Option Addr) (cx : Nat), ERow w ax t → Calls Try.prog 9 #[.int .i64 l, .slice ax t.length cx, .slice none 0 0] w fun e w' => e = .returned (.int .i64 F) ∧ Below w.heap.size w w') := fun w ax cx hx => by
    rw [← hF]; exact rmay_any l ax none cx 0 t [] ht (fun e he => by cases he) (by omega) (by simp) w hx ⟨fun i hi => by simp at hi⟩
  obtain rfl : G = (K : Int) := by omega
  clear hP hT ht hF hK hlg hG HLt0
  generalize hL : t.length = L at *
  clear hL
  go_enter Try.func3, Try.ntmps3
  go_wp2_with fail
  go_region_held3 (fun w => w.cell? ⟨W.heap.size, 0, none⟩ = some (.int .i64 (n : Int)) ∧ w.cell? ⟨W.heap.size, 1, none⟩ = some (.int .i64 (i : Int))) (first | (go_keep; done) | (refine ⟨?_, ?_⟩ <;> simp [go_sem])) (fail)
  have D0 : Hid (Below W.heap.size W (W.alloc (Obj.cells #[.int .i64 (n : Int), .int .i64 (i : Int)] 23)).drew) := (by go_grown : Below W.heap.size W (W.alloc (Obj.cells #[.int .i64 (n : Int), .int .i64 (i : Int)] 23)).drew)
  go_wp2_with (first | (go_at_call 4; refine (HLc.out.go _).mono ?_; rintro e w1 ⟨rfl, hb1⟩; have D1 : Hid (Below W.heap.size W w1) := D0.out.trans (hb1.mono D0.out.size); clear hb1) | (go_at_call_of 5 (#[.int .i64 (n : Int)] : Array Value); refine (HLr.out.go _).mono ?_; rintro e w2 ⟨rfl, hb2⟩; have D2 : Hid (Below W.heap.size W w2) := D1.out.trans (hb2.mono D1.out.size); clear hb2) | (go_at_call_of 7 (#[.int .i64 (n : Int), .int .i64 (i : Int)] : Array Value); refine (HCo.out _).mono ?_; rintro e w3 ⟨gc, rfl, hE3, hb3⟩; have D3 : Hid (Below W.heap.size W w3) := D2.out.trans (hb3.mono D2.out.size); have E3 : Hid (ERow w3 (some ⟨gc, 0, none⟩) (crn n i)) := hE3; clear hb3 hE3) | (go_at_call 8; refine (HTw.out.go _).mono ?_; rintro e w3b ⟨rfl, hb3b⟩; have D3b : Hid (Below W.heap.size W w3b) := D3.out.trans (hb3b.mono D3.out.size); have E3b : Hid (ERow w3b (some ⟨gc, 0, none⟩) (crn n i)) := E3.out.below hb3b; clear hb3b))
  go_loopw [10, 11] (fun vk u wr => ∃ j k : Nat, j ≤ n ∧ Hid (k = i / 2 ^ j) ∧ k < 65536 ∧ vk = .int .i64 (k : Int) ∧ u = .int .i64 j ∧ Below w3b.heap.size w3b wr) (fun _ u _ => n - (intOf u).toNat)
  case atStart => exact ⟨0, i, Nat.zero_le _, (by show _ = _; simp), h65, rfl, rfl, Below.refl _ _⟩
  case round =>
    obtain ⟨j, k, hj, HQ, hk65, rfl, rfl, hD⟩ := hrel
    have HDr : Hid (Below w3b.heap.size w3b wr) := hD
    by_cases hlt : j < n
    · obtain ⟨b, o, e, hb, x1, x0⟩ := (E3b.out.below hD).cells j (by rw [crn_len]; exact hlt)
      injection e with e
      injection e with e3 e4
      subst e3 e4
      have hx : (crn n i).getD j (0, 0) = (0, k % 2) := by
        have := crn_at n i j hlt
        unfold el at this
        rw [this, HQ.out]
      rw [hx] at x1 x0
      rw [Nat.zero_add] at x1 x0
      have hd2 : (k : Int).tdiv 2 = ((k / 2 : Nat) : Int) := by rw [Int.tdiv_eq_ediv_of_nonneg (by omega)]; omega
      have hrm : (k : Int).tmod 2 = ((k % 2 : Nat) : Int) := by rw [Int.tmod_eq_emod_of_nonneg (by omega)]; omega
      have HN2 : Hid (k / 2 = i / 2 ^ (j + 1)) := by show _ = _; rw [HQ.out, Nat.div_div_eq_div_mul, Nat.pow_succ]
      have hk2 : k / 2 < 65536 := by omega
      have hb2 : k % 2 < 2 := Nat.mod_lt _ (by decide)
      obtain ⟨K2, hK2⟩ : ∃ x, k / 2 = x := ⟨_, rfl⟩
      obtain ⟨B2, hB2⟩ : ∃ x, k % 2 = x := ⟨_, rfl⟩
      rw [hK2] at hd2 HN2 hk2
      rw [hB2] at hrm hb2 x1 x0
      have hwr : IntKind.u64.wrap (B2 : Int) = (B2 : Int) := by rw [IntKind.wrap_u64]; omega
      clear hD hx hK2 hB2 E3 E3b
      go_wp2
      exact ⟨⟨j + 1, K2, hlt, HN2.out, hk2, by simp, by simp, HDr.out⟩, by simp [intOf]; omega⟩
    · obtain rfl : n = j := by omega
      have DR : Hid (Below W.heap.size W wr) := D3b.out.trans (hD.mono D3b.out.size)
      clear hD
      go_wp2_with (first | (go_at_call 5; refine (HLt.out.go _).mono ?_; rintro e w4 ⟨rfl, hb4⟩; have D4 : Hid (Below W.heap.size W w4) := DR.out.trans (hb4.mono DR.out.size); clear hb4) | (go_at_call 10; refine (HR2.out _ D4.out).mono ?_; rintro e w5 ⟨ax, cx, rfl, hx, hb5⟩; have D5 : Hid (Below W.heap.size W w5 ∧ ERow w5 ax t) := ⟨D4.out.trans (hb5.mono D4.out.size), hx⟩; clear hb5 hx) | (go_at_call 9; refine (HM.out _ ax cx D5.out.2).mono ?_; rintro e w6 ⟨rfl, hb6⟩; have D6 : Hid (Below W.heap.size W w6) := D5.out.1.trans (hb6.mono D5.out.1.size); clear hb6) | (go_at_call 6; refine (AW.go _).mono ?_; rintro e w7 ⟨rfl, hb7⟩; have D7 : Hid (Below W.heap.size W w7) := D6.out.trans (hb7.mono D6.out.size); clear hb7))
      go_ret
      exact ⟨rfl, D7.out⟩
end Go.Proofs.Ytkjgbkjhdmipoaa
