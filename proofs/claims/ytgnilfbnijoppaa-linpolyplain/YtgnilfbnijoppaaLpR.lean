/- Walk of steeplelaw05.LinpolyPlain over the seat's translation. -/
import Derived.Test.YtgnilfbnijoppaaLpP
import Derived.Test.YtgnilfbnijoppaaLpI
namespace Go.Proofs.Ytgnilfbnijoppaa
open Go.RowKit

theorem Lies.below {W w w' : World} {l : Int} {p g n : Nat} {es : List (Nat × Nat)} (h : Lies W w l p g n es) (k : Below w.heap.size w w') : Lies W w' l p g n es :=
  ⟨Nat.lt_of_lt_of_le h.hp k.size, Nat.lt_of_lt_of_le h.hg k.size, h.hn, keepc k h.c0, keepc k h.c1, erow_below h.row k, h.d.trans (k.mono h.d.size)⟩
theorem wrap_two_int (n : Nat) (hn : n < 63) : IntKind.i64.wrap (2 ^ n) = (2 : Int) ^ n := by
  have h1 : 2 ^ n < 2 ^ 63 := Nat.pow_lt_pow_right (by decide) hn
  rw [IntKind.wrap_i64, show (2 : Int) ^ n = ((2 ^ n : Nat) : Int) by simp]
  generalize 2 ^ n = p at *
  omega
theorem lies_two (l : Int) (p g n m : Nat) (W0 W : World) (h : Lies W0 W l p g n (bitsE n)) (h10 : n ≤ 10) (hm : m < n) :
    Calls Try.prog 17 #[.pointer (some ⟨p, 0, none⟩), .int .i64 (2 ^ m)] W fun e w' => e = .returned (.agg #[.int .u64 0, .int .u64 ((2 ^ m : Nat) : Int)]) ∧ Below W.heap.size W w' := by
  have := spoint_any l p g n (2 ^ m) (bitsE n) W0 W h h10 (Nat.pow_lt_pow_right (by decide) hm) (bitsE_lt n h10)
  rw [ptv_two n m n (Nat.le_refl _), if_pos hm, show ((2 ^ m : Nat) : Int) = (2 : Int) ^ m by simp] at this
  rw [show ((2 ^ m : Nat) : Int) = (2 : Int) ^ m by simp]
  exact this
set_option maxHeartbeats 800000 in
set_option maxRecDepth 100000 in
theorem lplain_low (l n : Int) (h : l < 0) : Ret 4 #[.int .i64 l, .int .i64 n] (.bool true) := by
  have HP : Hid (Ret 21 #[.int .i64 l, .int .i64 n] (.tuple #[.pointer none, .int .i64 1])) := plain_level l n (by omega)
  have AW : Hid (Ret 9 #[] (.bool true)) := awake5
  intro W
  go_enter Try.func4, Try.ntmps4
  go_wp2_with (first | (go_at_call 21; refine (HP.out.go _).mono ?_; rintro e w1 ⟨rfl, hb1⟩; have hz1 := hb1.size) | (go_at_call 9; refine (AW.out.go _).mono ?_; rintro e w2 ⟨rfl, hb2⟩))
  go_ret
  exact ⟨rfl, by first | exact hb1.trans (hb2.mono hz1) | exact (hb1.alloc hz1 _).trans (hb2.mono (by simp; omega))⟩
set_option maxHeartbeats 800000 in
set_option maxRecDepth 100000 in
theorem lplain_high (l n : Int) (h : 7 < l) : Ret 4 #[.int .i64 l, .int .i64 n] (.bool true) := by
  have HP : Hid (Ret 21 #[.int .i64 l, .int .i64 n] (.tuple #[.pointer none, .int .i64 1])) := plain_level l n (by omega)
  have AW : Hid (Ret 9 #[] (.bool true)) := awake5
  have h0 : 0 ≤ l := by omega
  intro W
  go_enter Try.func4, Try.ntmps4
  go_wp2_with (first | (go_at_call 21; refine (HP.out.go _).mono ?_; rintro e w1 ⟨rfl, hb1⟩; have hz1 := hb1.size) | (go_at_call 9; refine (AW.out.go _).mono ?_; rintro e w2 ⟨rfl, hb2⟩))
  go_ret
  exact ⟨rfl, by first | exact hb1.trans (hb2.mono hz1) | exact (hb1.alloc hz1 _).trans (hb2.mono (by simp; omega))⟩
set_option maxHeartbeats 800000 in
set_option maxRecDepth 100000 in
theorem lplain_neg (l n : Int) (h0 : 0 ≤ l) (h7 : l ≤ 7) (hn : n < 0) : Ret 4 #[.int .i64 l, .int .i64 n] (.bool true) := by
  have HP : Hid (Ret 21 #[.int .i64 l, .int .i64 n] (.tuple #[.pointer none, .int .i64 1])) := plain_neg l n ⟨h0, h7⟩ hn
  have AW : Hid (Ret 9 #[] (.bool true)) := awake5
  intro W
  go_enter Try.func4, Try.ntmps4
  go_wp2_with (first | (go_at_call 21; refine (HP.out.go _).mono ?_; rintro e w1 ⟨rfl, hb1⟩; have hz1 := hb1.size) | (go_at_call 9; refine (AW.out.go _).mono ?_; rintro e w2 ⟨rfl, hb2⟩))
  go_ret
  exact ⟨rfl, by first | exact hb1.trans (hb2.mono hz1) | exact (hb1.alloc hz1 _).trans (hb2.mono (by simp; omega))⟩
set_option maxHeartbeats 800000 in
set_option maxRecDepth 100000 in
theorem lplain_long (l n : Int) (h0 : 0 ≤ l) (h7 : l ≤ 7) (hn : 10 < n) : Ret 4 #[.int .i64 l, .int .i64 n] (.bool true) := by
  have HP : Hid (Ret 21 #[.int .i64 l, .int .i64 n] (.tuple #[.pointer none, .int .i64 2])) := plain_long l n ⟨h0, h7⟩ hn
  have AW : Hid (Ret 9 #[] (.bool true)) := awake5
  have hn0 : 0 ≤ n := by omega
  intro W
  go_enter Try.func4, Try.ntmps4
  go_wp2_with (first | (go_at_call 21; refine (HP.out.go _).mono ?_; rintro e w1 ⟨rfl, hb1⟩; have hz1 := hb1.size) | (go_at_call 9; refine (AW.out.go _).mono ?_; rintro e w2 ⟨rfl, hb2⟩))
  go_ret
  exact ⟨rfl, by first | exact hb1.trans (hb2.mono hz1) | exact (hb1.alloc hz1 _).trans (hb2.mono (by simp; omega))⟩
set_option maxHeartbeats 800000 in
set_option maxRecDepth 100000 in
theorem lplain_rule0 (n : Nat) (hn : n ≤ 10) (h2 : 1 < n) : Ret 4 #[.int .i64 0, .int .i64 (n : Int)] (.bool true) := by
  have HP : Hid (Ret 21 #[.int .i64 0, .int .i64 (n : Int)] (.tuple #[.pointer none, .int .i64 7])) := plain_rule 0 n (by decide) hn h2
  have AW : Hid (Ret 9 #[] (.bool true)) := awake5
  intro W
  go_enter Try.func4, Try.ntmps4
  go_wp2_with (first | (go_at_call 21; refine (HP.out.go _).mono ?_; rintro e w1 ⟨rfl, hb1⟩; have hz1 := hb1.size) | (go_at_call 9; refine (AW.out.go _).mono ?_; rintro e w2 ⟨rfl, hb2⟩))
  go_ret
  exact ⟨rfl, by first | exact hb1.trans (hb2.mono hz1) | exact (hb1.alloc hz1 _).trans (hb2.mono (by simp; omega))⟩
set_option maxHeartbeats 800000 in
set_option maxRecDepth 100000 in
theorem lplain_rule1 (n : Nat) (hn : n ≤ 10) (h2 : 2 < n) : Ret 4 #[.int .i64 1, .int .i64 (n : Int)] (.bool true) := by
  have HP : Hid (Ret 21 #[.int .i64 1, .int .i64 (n : Int)] (.tuple #[.pointer none, .int .i64 7])) := plain_rule 1 n (by decide) hn h2
  have AW : Hid (Ret 9 #[] (.bool true)) := awake5
  intro W
  go_enter Try.func4, Try.ntmps4
  go_wp2_with (first | (go_at_call 21; refine (HP.out.go _).mono ?_; rintro e w1 ⟨rfl, hb1⟩; have hz1 := hb1.size) | (go_at_call 9; refine (AW.out.go _).mono ?_; rintro e w2 ⟨rfl, hb2⟩))
  go_ret
  exact ⟨rfl, by first | exact hb1.trans (hb2.mono hz1) | exact (hb1.alloc hz1 _).trans (hb2.mono (by simp; omega))⟩
set_option maxHeartbeats 800000 in
set_option maxRecDepth 100000 in
theorem lplain_rule2 (n : Nat) (hn : n ≤ 10) (h2 : 4 < n) : Ret 4 #[.int .i64 2, .int .i64 (n : Int)] (.bool true) := by
  have HP : Hid (Ret 21 #[.int .i64 2, .int .i64 (n : Int)] (.tuple #[.pointer none, .int .i64 7])) := plain_rule 2 n (by decide) hn h2
  have AW : Hid (Ret 9 #[] (.bool true)) := awake5
  intro W
  go_enter Try.func4, Try.ntmps4
  go_wp2_with (first | (go_at_call 21; refine (HP.out.go _).mono ?_; rintro e w1 ⟨rfl, hb1⟩; have hz1 := hb1.size) | (go_at_call 9; refine (AW.out.go _).mono ?_; rintro e w2 ⟨rfl, hb2⟩))
  go_ret
  exact ⟨rfl, by first | exact hb1.trans (hb2.mono hz1) | exact (hb1.alloc hz1 _).trans (hb2.mono (by simp; omega))⟩
set_option maxHeartbeats 800000 in
set_option maxRecDepth 100000 in
theorem lplain_rule3 (n : Nat) (hn : n ≤ 10) (h2 : 8 < n) : Ret 4 #[.int .i64 3, .int .i64 (n : Int)] (.bool true) := by
  have HP : Hid (Ret 21 #[.int .i64 3, .int .i64 (n : Int)] (.tuple #[.pointer none, .int .i64 7])) := plain_rule 3 n (by decide) hn h2
  have AW : Hid (Ret 9 #[] (.bool true)) := awake5
  intro W
  go_enter Try.func4, Try.ntmps4
  go_wp2_with (first | (go_at_call 21; refine (HP.out.go _).mono ?_; rintro e w1 ⟨rfl, hb1⟩; have hz1 := hb1.size) | (go_at_call 9; refine (AW.out.go _).mono ?_; rintro e w2 ⟨rfl, hb2⟩))
  go_ret
  exact ⟨rfl, by first | exact hb1.trans (hb2.mono hz1) | exact (hb1.alloc hz1 _).trans (hb2.mono (by simp; omega))⟩
set_option maxHeartbeats 4000000 in
set_option maxRecDepth 100000 in
theorem lplain_ok0 (n : Nat) (hn : n ≤ 10) (h2 : n ≤ 1) : Ret 4 #[.int .i64 0, .int .i64 (n : Int)] (.bool true) := by
  have HP : Hid (∀ W, Calls Try.prog 21 #[.int .i64 0, .int .i64 (n : Int)] W fun e w' => ∃ p g : Nat, e = .returned (.tuple #[.pointer (some ⟨p, 0, none⟩), .int .i64 0]) ∧ Lies W w' 0 p g n (bitsE n)) := plain_ok 0 n (by decide) hn h2
  have AW : Hid (Ret 9 #[] (.bool true)) := awake5
  intro W
  go_enter Try.func4, Try.ntmps4
  go_wp2_with (go_at_call 21; refine (HP.out _).mono ?_; rintro e w1 ⟨p, g, rfl, hL⟩)
  go_loopw [8] (fun u wr => ∃ m : Nat, m ≤ n ∧ u = .int .i64 m ∧ Lies W wr 0 p g n (bitsE n)) (fun u _ => n - (intOf u).toNat)
  case atStart => exact ⟨0, Nat.zero_le _, rfl, by first | exact hL | exact hL.below ((Below.refl _ _).alloc (Nat.le_refl _) _)⟩
  case round =>
    obtain ⟨m, hm, rfl, hM⟩ := hrel
    have HM : Hid (Lies W wr 0 p g n (bitsE n)) := hM
    clear hM hL HP
    by_cases hlt : m < n
    · have HB : Hid (Ret 22 #[.int .i64 (m : Int)] (.agg #[.int .u64 0, .int .u64 ((2 ^ m : Nat) : Int)])) := lbit m (by omega)
      have HS := lies_two 0 p g n m W wr HM.out (by omega) hlt
      have hw := wrap_two_int m (by omega)
      have hu : IntKind.u64.wrap (m : Int) = (m : Int) := by rw [IntKind.wrap_u64]; omega
      go_wp2_with (first | (go_at_call 17; refine HS.mono ?_; rintro e w3 ⟨rfl, hb3⟩) | (go_at_call 22; refine (HB.out.go _).mono ?_; rintro e w4 ⟨rfl, hb4⟩))
      exact ⟨⟨m + 1, hlt, by simp, (HM.out.below hb3).below hb4⟩, by simp [intOf]; omega⟩
    · obtain rfl : m = n := by omega
      go_wp2_with (first | (go_at_call 9; refine (AW.out.go _).mono ?_; rintro e w3 ⟨rfl, hb3⟩; have H3 : Hid (Lies W w3 0 p g m (bitsE m)) := HM.out.below hb3) | (go_at_call 14; refine (sdim p g m _ H3.out.c1).mono ?_; rintro e w4 ⟨rfl, hb4⟩; have H4 : Hid (Lies W w4 0 p g m (bitsE m)) := H3.out.below hb4) | (go_at_call 13; refine (slevel 0 p _ H4.out.c0).mono ?_; rintro e w5 ⟨rfl, hb5⟩))
      go_ret
      exact ⟨by simp, (H4.out.below hb5).d⟩
set_option maxHeartbeats 4000000 in
set_option maxRecDepth 100000 in
theorem lplain_ok1 (n : Nat) (hn : n ≤ 10) (h2 : n ≤ 2) : Ret 4 #[.int .i64 1, .int .i64 (n : Int)] (.bool true) := by
  have HP : Hid (∀ W, Calls Try.prog 21 #[.int .i64 1, .int .i64 (n : Int)] W fun e w' => ∃ p g : Nat, e = .returned (.tuple #[.pointer (some ⟨p, 0, none⟩), .int .i64 0]) ∧ Lies W w' 1 p g n (bitsE n)) := plain_ok 1 n (by decide) hn h2
  have AW : Hid (Ret 9 #[] (.bool true)) := awake5
  intro W
  go_enter Try.func4, Try.ntmps4
  go_wp2_with (go_at_call 21; refine (HP.out _).mono ?_; rintro e w1 ⟨p, g, rfl, hL⟩)
  go_loopw [8] (fun u wr => ∃ m : Nat, m ≤ n ∧ u = .int .i64 m ∧ Lies W wr 1 p g n (bitsE n)) (fun u _ => n - (intOf u).toNat)
  case atStart => exact ⟨0, Nat.zero_le _, rfl, by first | exact hL | exact hL.below ((Below.refl _ _).alloc (Nat.le_refl _) _)⟩
  case round =>
    obtain ⟨m, hm, rfl, hM⟩ := hrel
    have HM : Hid (Lies W wr 1 p g n (bitsE n)) := hM
    clear hM hL HP
    by_cases hlt : m < n
    · have HB : Hid (Ret 22 #[.int .i64 (m : Int)] (.agg #[.int .u64 0, .int .u64 ((2 ^ m : Nat) : Int)])) := lbit m (by omega)
      have HS := lies_two 1 p g n m W wr HM.out (by omega) hlt
      have hw := wrap_two_int m (by omega)
      have hu : IntKind.u64.wrap (m : Int) = (m : Int) := by rw [IntKind.wrap_u64]; omega
      go_wp2_with (first | (go_at_call 17; refine HS.mono ?_; rintro e w3 ⟨rfl, hb3⟩) | (go_at_call 22; refine (HB.out.go _).mono ?_; rintro e w4 ⟨rfl, hb4⟩))
      exact ⟨⟨m + 1, hlt, by simp, (HM.out.below hb3).below hb4⟩, by simp [intOf]; omega⟩
    · obtain rfl : m = n := by omega
      go_wp2_with (first | (go_at_call 9; refine (AW.out.go _).mono ?_; rintro e w3 ⟨rfl, hb3⟩; have H3 : Hid (Lies W w3 1 p g m (bitsE m)) := HM.out.below hb3) | (go_at_call 14; refine (sdim p g m _ H3.out.c1).mono ?_; rintro e w4 ⟨rfl, hb4⟩; have H4 : Hid (Lies W w4 1 p g m (bitsE m)) := H3.out.below hb4) | (go_at_call 13; refine (slevel 1 p _ H4.out.c0).mono ?_; rintro e w5 ⟨rfl, hb5⟩))
      go_ret
      exact ⟨by simp, (H4.out.below hb5).d⟩
set_option maxHeartbeats 4000000 in
set_option maxRecDepth 100000 in
theorem lplain_ok2 (n : Nat) (hn : n ≤ 10) (h2 : n ≤ 4) : Ret 4 #[.int .i64 2, .int .i64 (n : Int)] (.bool true) := by
  have HP : Hid (∀ W, Calls Try.prog 21 #[.int .i64 2, .int .i64 (n : Int)] W fun e w' => ∃ p g : Nat, e = .returned (.tuple #[.pointer (some ⟨p, 0, none⟩), .int .i64 0]) ∧ Lies W w' 2 p g n (bitsE n)) := plain_ok 2 n (by decide) hn h2
  have AW : Hid (Ret 9 #[] (.bool true)) := awake5
  intro W
  go_enter Try.func4, Try.ntmps4
  go_wp2_with (go_at_call 21; refine (HP.out _).mono ?_; rintro e w1 ⟨p, g, rfl, hL⟩)
  go_loopw [8] (fun u wr => ∃ m : Nat, m ≤ n ∧ u = .int .i64 m ∧ Lies W wr 2 p g n (bitsE n)) (fun u _ => n - (intOf u).toNat)
  case atStart => exact ⟨0, Nat.zero_le _, rfl, by first | exact hL | exact hL.below ((Below.refl _ _).alloc (Nat.le_refl _) _)⟩
  case round =>
    obtain ⟨m, hm, rfl, hM⟩ := hrel
    have HM : Hid (Lies W wr 2 p g n (bitsE n)) := hM
    clear hM hL HP
    by_cases hlt : m < n
    · have HB : Hid (Ret 22 #[.int .i64 (m : Int)] (.agg #[.int .u64 0, .int .u64 ((2 ^ m : Nat) : Int)])) := lbit m (by omega)
      have HS := lies_two 2 p g n m W wr HM.out (by omega) hlt
      have hw := wrap_two_int m (by omega)
      have hu : IntKind.u64.wrap (m : Int) = (m : Int) := by rw [IntKind.wrap_u64]; omega
      go_wp2_with (first | (go_at_call 17; refine HS.mono ?_; rintro e w3 ⟨rfl, hb3⟩) | (go_at_call 22; refine (HB.out.go _).mono ?_; rintro e w4 ⟨rfl, hb4⟩))
      exact ⟨⟨m + 1, hlt, by simp, (HM.out.below hb3).below hb4⟩, by simp [intOf]; omega⟩
    · obtain rfl : m = n := by omega
      go_wp2_with (first | (go_at_call 9; refine (AW.out.go _).mono ?_; rintro e w3 ⟨rfl, hb3⟩; have H3 : Hid (Lies W w3 2 p g m (bitsE m)) := HM.out.below hb3) | (go_at_call 14; refine (sdim p g m _ H3.out.c1).mono ?_; rintro e w4 ⟨rfl, hb4⟩; have H4 : Hid (Lies W w4 2 p g m (bitsE m)) := H3.out.below hb4) | (go_at_call 13; refine (slevel 2 p _ H4.out.c0).mono ?_; rintro e w5 ⟨rfl, hb5⟩))
      go_ret
      exact ⟨by simp, (H4.out.below hb5).d⟩
set_option maxHeartbeats 4000000 in
set_option maxRecDepth 100000 in
theorem lplain_ok3 (n : Nat) (hn : n ≤ 10) (h2 : n ≤ 8) : Ret 4 #[.int .i64 3, .int .i64 (n : Int)] (.bool true) := by
  have HP : Hid (∀ W, Calls Try.prog 21 #[.int .i64 3, .int .i64 (n : Int)] W fun e w' => ∃ p g : Nat, e = .returned (.tuple #[.pointer (some ⟨p, 0, none⟩), .int .i64 0]) ∧ Lies W w' 3 p g n (bitsE n)) := plain_ok 3 n (by decide) hn h2
  have AW : Hid (Ret 9 #[] (.bool true)) := awake5
  intro W
  go_enter Try.func4, Try.ntmps4
  go_wp2_with (go_at_call 21; refine (HP.out _).mono ?_; rintro e w1 ⟨p, g, rfl, hL⟩)
  go_loopw [8] (fun u wr => ∃ m : Nat, m ≤ n ∧ u = .int .i64 m ∧ Lies W wr 3 p g n (bitsE n)) (fun u _ => n - (intOf u).toNat)
  case atStart => exact ⟨0, Nat.zero_le _, rfl, by first | exact hL | exact hL.below ((Below.refl _ _).alloc (Nat.le_refl _) _)⟩
  case round =>
    obtain ⟨m, hm, rfl, hM⟩ := hrel
    have HM : Hid (Lies W wr 3 p g n (bitsE n)) := hM
    clear hM hL HP
    by_cases hlt : m < n
    · have HB : Hid (Ret 22 #[.int .i64 (m : Int)] (.agg #[.int .u64 0, .int .u64 ((2 ^ m : Nat) : Int)])) := lbit m (by omega)
      have HS := lies_two 3 p g n m W wr HM.out (by omega) hlt
      have hw := wrap_two_int m (by omega)
      have hu : IntKind.u64.wrap (m : Int) = (m : Int) := by rw [IntKind.wrap_u64]; omega
      go_wp2_with (first | (go_at_call 17; refine HS.mono ?_; rintro e w3 ⟨rfl, hb3⟩) | (go_at_call 22; refine (HB.out.go _).mono ?_; rintro e w4 ⟨rfl, hb4⟩))
      exact ⟨⟨m + 1, hlt, by simp, (HM.out.below hb3).below hb4⟩, by simp [intOf]; omega⟩
    · obtain rfl : m = n := by omega
      go_wp2_with (first | (go_at_call 9; refine (AW.out.go _).mono ?_; rintro e w3 ⟨rfl, hb3⟩; have H3 : Hid (Lies W w3 3 p g m (bitsE m)) := HM.out.below hb3) | (go_at_call 14; refine (sdim p g m _ H3.out.c1).mono ?_; rintro e w4 ⟨rfl, hb4⟩; have H4 : Hid (Lies W w4 3 p g m (bitsE m)) := H3.out.below hb4) | (go_at_call 13; refine (slevel 3 p _ H4.out.c0).mono ?_; rintro e w5 ⟨rfl, hb5⟩))
      go_ret
      exact ⟨by simp, (H4.out.below hb5).d⟩
set_option maxHeartbeats 4000000 in
set_option maxRecDepth 100000 in
theorem lplain_big (k n : Nat) (hk : k < 8) (h4 : 4 ≤ k) (hn : n ≤ 10) : Ret 4 #[.int .i64 (k : Int), .int .i64 (n : Int)] (.bool true) := by
  have HP : Hid (∀ W, Calls Try.prog 21 #[.int .i64 (k : Int), .int .i64 (n : Int)] W fun e w' => ∃ p g : Nat, e = .returned (.tuple #[.pointer (some ⟨p, 0, none⟩), .int .i64 0]) ∧ Lies W w' (k : Int) p g n (bitsE n)) := plain_ok k n hk hn (Nat.le_trans hn (Nat.le_trans (by decide) (Nat.pow_le_pow_right (by decide) h4 : 2 ^ 4 ≤ 2 ^ k)))
  have AW : Hid (Ret 9 #[] (.bool true)) := awake5
  intro W
  go_enter Try.func4, Try.ntmps4
  go_wp2_with (go_at_call 21; refine (HP.out _).mono ?_; rintro e w1 ⟨p, g, rfl, hL⟩)
  go_loopw [8] (fun u wr => ∃ m : Nat, m ≤ n ∧ u = .int .i64 m ∧ Lies W wr (k : Int) p g n (bitsE n)) (fun u _ => n - (intOf u).toNat)
  case atStart => exact ⟨0, Nat.zero_le _, rfl, by first | exact hL | exact hL.below ((Below.refl _ _).alloc (Nat.le_refl _) _)⟩
  case round =>
    obtain ⟨m, hm, rfl, hM⟩ := hrel
    have HM : Hid (Lies W wr (k : Int) p g n (bitsE n)) := hM
    clear hM hL HP
    by_cases hlt : m < n
    · have HB : Hid (Ret 22 #[.int .i64 (m : Int)] (.agg #[.int .u64 0, .int .u64 ((2 ^ m : Nat) : Int)])) := lbit m (by omega)
      have HS := lies_two (k : Int) p g n m W wr HM.out (by omega) hlt
      have hw := wrap_two_int m (by omega)
      have hu : IntKind.u64.wrap (m : Int) = (m : Int) := by rw [IntKind.wrap_u64]; omega
      go_wp2_with (first | (go_at_call 17; refine HS.mono ?_; rintro e w3 ⟨rfl, hb3⟩) | (go_at_call 22; refine (HB.out.go _).mono ?_; rintro e w4 ⟨rfl, hb4⟩))
      exact ⟨⟨m + 1, hlt, by simp, (HM.out.below hb3).below hb4⟩, by simp [intOf]; omega⟩
    · obtain rfl : m = n := by omega
      go_wp2_with (first | (go_at_call 9; refine (AW.out.go _).mono ?_; rintro e w3 ⟨rfl, hb3⟩; have H3 : Hid (Lies W w3 (k : Int) p g m (bitsE m)) := HM.out.below hb3) | (go_at_call 14; refine (sdim p g m _ H3.out.c1).mono ?_; rintro e w4 ⟨rfl, hb4⟩; have H4 : Hid (Lies W w4 (k : Int) p g m (bitsE m)) := H3.out.below hb4) | (go_at_call 13; refine (slevel (k : Int) p _ H4.out.c0).mono ?_; rintro e w5 ⟨rfl, hb5⟩))
      go_ret
      exact ⟨by simp, (H4.out.below hb5).d⟩
theorem lplain_any (l n : Int) : Ret 4 #[.int .i64 l, .int .i64 n] (.bool true) := by
  by_cases h0 : l < 0
  · exact lplain_low l n h0
  by_cases h7 : 7 < l
  · exact lplain_high l n h7
  by_cases hn : n < 0
  · exact lplain_neg l n (by omega) (by omega) hn
  by_cases hN : 10 < n
  · exact lplain_long l n (by omega) (by omega) hN
  obtain ⟨k, rfl⟩ : ∃ k : Nat, l = (k : Int) := ⟨l.toNat, by omega⟩
  obtain ⟨m, rfl⟩ : ∃ m : Nat, n = (m : Int) := ⟨n.toNat, by omega⟩
  have hm : m ≤ 10 := by omega
  by_cases h4 : 4 ≤ k
  · exact lplain_big k m (by omega) h4 hm
  rcases (by omega : k = 0 ∨ k = 1 ∨ k = 2 ∨ k = 3) with rfl | rfl | rfl | rfl
  · by_cases h : m ≤ 1
    · exact lplain_ok0 m hm h
    · exact lplain_rule0 m hm (by omega)
  · by_cases h : m ≤ 2
    · exact lplain_ok1 m hm h
    · exact lplain_rule1 m hm (by omega)
  · by_cases h : m ≤ 4
    · exact lplain_ok2 m hm h
    · exact lplain_rule2 m hm (by omega)
  · by_cases h : m ≤ 8
    · exact lplain_ok3 m hm h
    · exact lplain_rule3 m hm (by omega)
end Go.Proofs.Ytgnilfbnijoppaa
