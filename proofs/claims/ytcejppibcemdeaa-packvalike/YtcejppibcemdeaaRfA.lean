/- The document's small calls of the tower, over the seat's translation. -/
import Derived.Test.YtcejppibcemdeaaTwBl
namespace Go.Proofs.Ytcejppibcemdeaa
open Go.RowKit
open Tw (px)

theorem mask0 : Ret 75 #[.int .i64 0] (.int .u64 6148914691236517205) := by
  intro W
  go_enter Try.func75, Try.ntmps75
  go_wp2
  go_ret
  exact ⟨rfl, by go_grown⟩
theorem mask1 : Ret 75 #[.int .i64 1] (.int .u64 3689348814741910323) := by
  intro W
  go_enter Try.func75, Try.ntmps75
  go_wp2
  go_ret
  exact ⟨rfl, by go_grown⟩
theorem mask2 : Ret 75 #[.int .i64 2] (.int .u64 1085102592571150095) := by
  intro W
  go_enter Try.func75, Try.ntmps75
  go_wp2
  go_ret
  exact ⟨rfl, by go_grown⟩
theorem mask3 : Ret 75 #[.int .i64 3] (.int .u64 71777214294589695) := by
  intro W
  go_enter Try.func75, Try.ntmps75
  go_wp2
  go_ret
  exact ⟨rfl, by go_grown⟩
theorem mask4 : Ret 75 #[.int .i64 4] (.int .u64 281470681808895) := by
  intro W
  go_enter Try.func75, Try.ntmps75
  go_wp2
  go_ret
  exact ⟨rfl, by go_grown⟩
theorem mask5 : Ret 75 #[.int .i64 5] (.int .u64 4294967295) := by
  intro W
  go_enter Try.func75, Try.ntmps75
  go_wp2
  go_ret
  exact ⟨rfl, by go_grown⟩
theorem tw_none (n : Nat) : Ret 70 #[.int .i64 (-1), .int .u64 (n : Int)] (.int .u64 (n : Int)) := by
  intro W
  go_enter Try.func70, Try.ntmps70
  go_wp2
  go_ret
  exact ⟨rfl, Below.refl _ _⟩
set_option maxHeartbeats 400000 in
theorem tw0 (n : Nat) (h : n < 2 ^ 64) : Ret 70 #[.int .i64 0, .int .u64 (n : Int)] (.int .u64 (px 2 n : Nat)) := by
  obtain ⟨g1, g2, _⟩ := Tw.goX1 n h
  have f1 : bits .and .u64 ((n : Int) / 2) 6148914691236517205 = ((n >>> 1 &&& Tw.L1 : Nat) : Int) := i_hi n 1 2 Tw.L1 rfl h (by decide)
  have hh : n >>> 1 &&& Tw.L1 < 2 ^ 64 := Nat.lt_of_le_of_lt Nat.and_le_right (by decide)
  have f2 := i_res n 1 2 Tw.L1 (n >>> 1 &&& Tw.L1) rfl h (by decide) hh g2
  unfold Tw.goX at g1
  rw [g1] at f2
  clear g1 g2
  have f3 : bits .or .u64 (IntKind.u64.wrap (bits .xor .u64 (bits .and .u64 (n : Int) 6148914691236517205) ((n >>> 1 &&& Tw.L1 : Nat) : Int) * 2)) ((n >>> 1 &&& Tw.L1 : Nat) : Int) = (px 2 n : Nat) := f2
  clear f2
  generalize n >>> 1 &&& Tw.L1 = hi at *
  generalize px 2 n = r at *
  have H : Ret 70 #[.int .i64 (-1), .int .u64 (hi : Int)] (.int .u64 (hi : Int)) := tw_none hi
  clear hh h
  intro W
  go_enter Try.func70, Try.ntmps70
  go_wp2_with fail
  refine (mask0.go _).mono ?_
  rintro e w1 ⟨rfl, hb1⟩
  go_wp2_with fail
  refine (mask0.go _).mono ?_
  rintro e w2 ⟨rfl, hb2⟩
  go_wp2_with fail
  refine (H.go _).mono ?_
  rintro e w3 ⟨rfl, hb3⟩
  go_wp2
  go_ret
  have b2 := hb1.trans (hb2.mono hb1.size)
  exact ⟨rfl, b2.trans (hb3.mono b2.size)⟩
set_option maxHeartbeats 400000 in
theorem tw1 (n : Nat) (h : n < 2 ^ 64) : Ret 70 #[.int .i64 1, .int .u64 (n : Int)] (.int .u64 (px 4 n : Nat)) := by
  obtain ⟨g1, g2, _⟩ := Tw.goX2 n h
  have f1 : bits .and .u64 ((n : Int) / 4) 3689348814741910323 = ((n >>> 2 &&& Tw.L2 : Nat) : Int) := i_hi n 2 4 Tw.L2 rfl h (by decide)
  have hh : n >>> 2 &&& Tw.L2 < 2 ^ 64 := Nat.lt_of_le_of_lt Nat.and_le_right (by decide)
  have f2 := i_res n 2 4 Tw.L2 (px 2 (n >>> 2 &&& Tw.L2)) rfl h (by decide) (Tw.px_lt _ _) g2
  unfold Tw.goX at g1
  rw [g1] at f2
  clear g1 g2
  have f3 : bits .or .u64 (IntKind.u64.wrap (bits .xor .u64 (bits .and .u64 (n : Int) 3689348814741910323) ((px 2 (n >>> 2 &&& Tw.L2) : Nat) : Int) * 4)) ((n >>> 2 &&& Tw.L2 : Nat) : Int) = (px 4 n : Nat) := f2
  clear f2
  generalize n >>> 2 &&& Tw.L2 = hi at *
  generalize px 4 n = r at *
  have H : Ret 70 #[.int .i64 0, .int .u64 (hi : Int)] (.int .u64 (px 2 hi : Nat)) := tw0 hi hh
  generalize px 2 hi = q at *
  clear hh h
  intro W
  go_enter Try.func70, Try.ntmps70
  go_wp2_with fail
  refine (mask1.go _).mono ?_
  rintro e w1 ⟨rfl, hb1⟩
  go_wp2_with fail
  refine (mask1.go _).mono ?_
  rintro e w2 ⟨rfl, hb2⟩
  go_wp2_with fail
  refine (H.go _).mono ?_
  rintro e w3 ⟨rfl, hb3⟩
  go_wp2
  go_ret
  have b2 := hb1.trans (hb2.mono hb1.size)
  exact ⟨rfl, b2.trans (hb3.mono b2.size)⟩
set_option maxHeartbeats 400000 in
theorem tw2 (n : Nat) (h : n < 2 ^ 64) : Ret 70 #[.int .i64 2, .int .u64 (n : Int)] (.int .u64 (px 16 n : Nat)) := by
  obtain ⟨g1, g2, _⟩ := Tw.goX3 n h
  have f1 : bits .and .u64 ((n : Int) / 16) 1085102592571150095 = ((n >>> 4 &&& Tw.L3 : Nat) : Int) := i_hi n 4 16 Tw.L3 rfl h (by decide)
  have hh : n >>> 4 &&& Tw.L3 < 2 ^ 64 := Nat.lt_of_le_of_lt Nat.and_le_right (by decide)
  have f2 := i_res n 4 16 Tw.L3 (px 4 (n >>> 4 &&& Tw.L3)) rfl h (by decide) (Tw.px_lt _ _) g2
  unfold Tw.goX at g1
  rw [g1] at f2
  clear g1 g2
  have f3 : bits .or .u64 (IntKind.u64.wrap (bits .xor .u64 (bits .and .u64 (n : Int) 1085102592571150095) ((px 4 (n >>> 4 &&& Tw.L3) : Nat) : Int) * 16)) ((n >>> 4 &&& Tw.L3 : Nat) : Int) = (px 16 n : Nat) := f2
  clear f2
  generalize n >>> 4 &&& Tw.L3 = hi at *
  generalize px 16 n = r at *
  have H : Ret 70 #[.int .i64 1, .int .u64 (hi : Int)] (.int .u64 (px 4 hi : Nat)) := tw1 hi hh
  generalize px 4 hi = q at *
  clear hh h
  intro W
  go_enter Try.func70, Try.ntmps70
  go_wp2_with fail
  refine (mask2.go _).mono ?_
  rintro e w1 ⟨rfl, hb1⟩
  go_wp2_with fail
  refine (mask2.go _).mono ?_
  rintro e w2 ⟨rfl, hb2⟩
  go_wp2_with fail
  refine (H.go _).mono ?_
  rintro e w3 ⟨rfl, hb3⟩
  go_wp2
  go_ret
  have b2 := hb1.trans (hb2.mono hb1.size)
  exact ⟨rfl, b2.trans (hb3.mono b2.size)⟩
set_option maxHeartbeats 400000 in
theorem tw3 (n : Nat) (h : n < 2 ^ 64) : Ret 70 #[.int .i64 3, .int .u64 (n : Int)] (.int .u64 (px 256 n : Nat)) := by
  obtain ⟨g1, g2, _⟩ := Tw.goX4 n h
  have f1 : bits .and .u64 ((n : Int) / 256) 71777214294589695 = ((n >>> 8 &&& Tw.L4 : Nat) : Int) := i_hi n 8 256 Tw.L4 rfl h (by decide)
  have hh : n >>> 8 &&& Tw.L4 < 2 ^ 64 := Nat.lt_of_le_of_lt Nat.and_le_right (by decide)
  have f2 := i_res n 8 256 Tw.L4 (px 16 (n >>> 8 &&& Tw.L4)) rfl h (by decide) (Tw.px_lt _ _) g2
  unfold Tw.goX at g1
  rw [g1] at f2
  clear g1 g2
  have f3 : bits .or .u64 (IntKind.u64.wrap (bits .xor .u64 (bits .and .u64 (n : Int) 71777214294589695) ((px 16 (n >>> 8 &&& Tw.L4) : Nat) : Int) * 256)) ((n >>> 8 &&& Tw.L4 : Nat) : Int) = (px 256 n : Nat) := f2
  clear f2
  generalize n >>> 8 &&& Tw.L4 = hi at *
  generalize px 256 n = r at *
  have H : Ret 70 #[.int .i64 2, .int .u64 (hi : Int)] (.int .u64 (px 16 hi : Nat)) := tw2 hi hh
  generalize px 16 hi = q at *
  clear hh h
  intro W
  go_enter Try.func70, Try.ntmps70
  go_wp2_with fail
  refine (mask3.go _).mono ?_
  rintro e w1 ⟨rfl, hb1⟩
  go_wp2_with fail
  refine (mask3.go _).mono ?_
  rintro e w2 ⟨rfl, hb2⟩
  go_wp2_with fail
  refine (H.go _).mono ?_
  rintro e w3 ⟨rfl, hb3⟩
  go_wp2
  go_ret
  have b2 := hb1.trans (hb2.mono hb1.size)
  exact ⟨rfl, b2.trans (hb3.mono b2.size)⟩
set_option maxHeartbeats 400000 in
theorem tw4 (n : Nat) (h : n < 2 ^ 64) : Ret 70 #[.int .i64 4, .int .u64 (n : Int)] (.int .u64 (px 65536 n : Nat)) := by
  obtain ⟨g1, g2, _⟩ := Tw.goX5 n h
  have f1 : bits .and .u64 ((n : Int) / 65536) 281470681808895 = ((n >>> 16 &&& Tw.L5 : Nat) : Int) := i_hi n 16 65536 Tw.L5 rfl h (by decide)
  have hh : n >>> 16 &&& Tw.L5 < 2 ^ 64 := Nat.lt_of_le_of_lt Nat.and_le_right (by decide)
  have f2 := i_res n 16 65536 Tw.L5 (px 256 (n >>> 16 &&& Tw.L5)) rfl h (by decide) (Tw.px_lt _ _) g2
  unfold Tw.goX at g1
  rw [g1] at f2
  clear g1 g2
  have f3 : bits .or .u64 (IntKind.u64.wrap (bits .xor .u64 (bits .and .u64 (n : Int) 281470681808895) ((px 256 (n >>> 16 &&& Tw.L5) : Nat) : Int) * 65536)) ((n >>> 16 &&& Tw.L5 : Nat) : Int) = (px 65536 n : Nat) := f2
  clear f2
  generalize n >>> 16 &&& Tw.L5 = hi at *
  generalize px 65536 n = r at *
  have H : Ret 70 #[.int .i64 3, .int .u64 (hi : Int)] (.int .u64 (px 256 hi : Nat)) := tw3 hi hh
  generalize px 256 hi = q at *
  clear hh h
  intro W
  go_enter Try.func70, Try.ntmps70
  go_wp2_with fail
  refine (mask4.go _).mono ?_
  rintro e w1 ⟨rfl, hb1⟩
  go_wp2_with fail
  refine (mask4.go _).mono ?_
  rintro e w2 ⟨rfl, hb2⟩
  go_wp2_with fail
  refine (H.go _).mono ?_
  rintro e w3 ⟨rfl, hb3⟩
  go_wp2
  go_ret
  have b2 := hb1.trans (hb2.mono hb1.size)
  exact ⟨rfl, b2.trans (hb3.mono b2.size)⟩
set_option maxHeartbeats 400000 in
theorem tw5 (n : Nat) (h : n < 2 ^ 64) : Ret 70 #[.int .i64 5, .int .u64 (n : Int)] (.int .u64 (px 4294967296 n : Nat)) := by
  obtain ⟨g1, g2, _⟩ := Tw.goX6 n h
  have f1 : bits .and .u64 ((n : Int) / 4294967296) 4294967295 = ((n >>> 32 &&& Tw.L6 : Nat) : Int) := i_hi n 32 4294967296 Tw.L6 rfl h (by decide)
  have hh : n >>> 32 &&& Tw.L6 < 2 ^ 64 := Nat.lt_of_le_of_lt Nat.and_le_right (by decide)
  have f2 := i_res n 32 4294967296 Tw.L6 (px 65536 (n >>> 32 &&& Tw.L6)) rfl h (by decide) (Tw.px_lt _ _) g2
  unfold Tw.goX at g1
  rw [g1] at f2
  clear g1 g2
  have f3 : bits .or .u64 (IntKind.u64.wrap (bits .xor .u64 (bits .and .u64 (n : Int) 4294967295) ((px 65536 (n >>> 32 &&& Tw.L6) : Nat) : Int) * 4294967296)) ((n >>> 32 &&& Tw.L6 : Nat) : Int) = (px 4294967296 n : Nat) := f2
  clear f2
  generalize n >>> 32 &&& Tw.L6 = hi at *
  generalize px 4294967296 n = r at *
  have H : Ret 70 #[.int .i64 4, .int .u64 (hi : Int)] (.int .u64 (px 65536 hi : Nat)) := tw4 hi hh
  generalize px 65536 hi = q at *
  clear hh h
  intro W
  go_enter Try.func70, Try.ntmps70
  go_wp2_with fail
  refine (mask5.go _).mono ?_
  rintro e w1 ⟨rfl, hb1⟩
  go_wp2_with fail
  refine (mask5.go _).mono ?_
  rintro e w2 ⟨rfl, hb2⟩
  go_wp2_with fail
  refine (H.go _).mono ?_
  rintro e w3 ⟨rfl, hb3⟩
  go_wp2
  go_ret
  have b2 := hb1.trans (hb2.mono hb1.size)
  exact ⟨rfl, b2.trans (hb3.mono b2.size)⟩

open Tw (px)

set_option maxHeartbeats 400000 in
theorem radd_core (ah al bh bl r1 r0 : Nat) (f1 : bits .xor .u64 (ah : Int) (bh : Int) = (r1 : Int)) (f0 : bits .xor .u64 (al : Int) (bl : Int) = (r0 : Int)) : Ret 44 #[.agg #[.int .u64 (ah : Int), .int .u64 (al : Int)], .agg #[.int .u64 (bh : Int), .int .u64 (bl : Int)]] (.agg #[.int .u64 (r1 : Int), .int .u64 (r0 : Int)]) := by
  intro W
  go_enter Try.func44, Try.ntmps44
  go_wp2
  refine bodyPost_ret (v := .agg #[.int .u64 (r1 : Int), .int .u64 (r0 : Int)]) (by simp [results, Try.results44, go_sem]) rfl ⟨rfl, ?_⟩
  go_grown
theorem radd (ah al bh bl : Nat) (h1 : ah < 2 ^ 64) (h2 : al < 2 ^ 64) (h3 : bh < 2 ^ 64) (h4 : bl < 2 ^ 64) : Ret 44 #[.agg #[.int .u64 (ah : Int), .int .u64 (al : Int)], .agg #[.int .u64 (bh : Int), .int .u64 (bl : Int)]] (.agg #[.int .u64 (ah ^^^ bh : Nat), .int .u64 (al ^^^ bl : Nat)]) :=
  radd_core ah al bh bl _ _ (u64_xor_nat _ _ h1 h3) (u64_xor_nat _ _ h2 h4)

theorem wrap_pow (n : Nat) (hn : n < 64) : IntKind.u64.wrap (2 ^ n) = ((2 ^ n : Nat) : Int) := by
  have h1 : 2 ^ n < 2 ^ 64 := Nat.pow_lt_pow_right (by decide) hn
  rw [IntKind.wrap_u64, show (2 : Int) ^ n = ((2 ^ n : Nat) : Int) by simp]
  generalize 2 ^ n = p at *
  omega
set_option maxHeartbeats 400000 in
theorem rbit_low (n : Nat) (hn : n < 64) : Ret 43 #[.int .i64 (n : Int)] (.agg #[.int .u64 0, .int .u64 ((2 ^ n : Nat) : Int)]) := by
  intro W
  go_enter Try.func43, Try.ntmps43
  go_wp2
  refine bodyPost_ret (v := .agg #[.int .u64 0, .int .u64 (IntKind.u64.wrap (2 ^ n))]) (by simp [results, Try.results43, go_sem]) rfl ⟨by rw [wrap_pow n hn], ?_⟩
  go_grown
set_option maxHeartbeats 400000 in
theorem rbit_high (n : Nat) (hn : 64 ≤ n) (hn2 : n < 128) : Ret 43 #[.int .i64 (n : Int)] (.agg #[.int .u64 ((2 ^ (n - 64) : Nat) : Int), .int .u64 0]) := by
  intro W
  go_enter Try.func43, Try.ntmps43
  go_wp2
  refine bodyPost_ret (v := .agg #[.int .u64 (IntKind.u64.wrap (2 ^ (n - 64))), .int .u64 0]) (by simp [results, Try.results43, go_sem]) rfl ⟨by rw [wrap_pow (n - 64) (by omega)], ?_⟩
  go_grown
set_option maxHeartbeats 400000 in
theorem has_core (ah al n ch cl : Nat) (r : Bool) (HB : Ret 43 #[.int .i64 (n : Int)] (.agg #[.int .u64 (ch : Int), .int .u64 (cl : Int)])) (f : Hid ((bits .or .u64 (bits .and .u64 (al : Int) (cl : Int)) (bits .and .u64 (ah : Int) (ch : Int)) != 0) = r)) : Ret 37 #[.agg #[.int .u64 (ah : Int), .int .u64 (al : Int)], .int .i64 (n : Int)] (.bool r) := by
  intro W
  go_enter Try.func37, Try.ntmps37
  go_wp2_with fail
  refine (HB.go _).mono ?_
  rintro e w1 ⟨rfl, hb1⟩
  have A : El w1 W.heap.size ah al := El.below ⟨by simp [go_sem], by simp [go_sem]⟩ hb1
  have D : Below W.heap.size W w1 := ((Below.refl _ _).alloc (Nat.le_refl _) _).trans (hb1.mono (by simp <;> omega))
  have hlt := A.lt
  obtain ⟨a1, a0⟩ := A
  clear hb1
  go_wp2
  go_ret
  exact ⟨by rw [f.out]; rfl, D.alloc D.size _⟩
/-- Has a pair the bit n? -/
def hasB (ah al n : Nat) : Bool := if n < 64 then al.testBit n else ah.testBit (n - 64)
theorem bit_test (x n : Nat) : ((x &&& 2 ^ n : Nat) != 0) = x.testBit n := by
  by_cases h : x.testBit n = true
  · have h1 : (x &&& 2 ^ n).testBit n = true := by rw [Nat.testBit_and, h, Nat.testBit_two_pow_self]; rfl
    have h2 : x &&& 2 ^ n ≠ 0 := fun e => by rw [e, Nat.zero_testBit] at h1; cases h1
    rw [h]; simpa using h2
  · have h0 : x.testBit n = false := by simpa using h
    have h1 : x &&& 2 ^ n = 0 := Nat.eq_of_testBit_eq fun i => by
      rw [Nat.testBit_and, Nat.zero_testBit, Nat.testBit_two_pow]
      by_cases hi : n = i
      · subst hi; rw [h0]; rfl
      · simp [hi]
    rw [h1, h0]; rfl
theorem has_any (ah al n : Nat) (h1 : ah < 2 ^ 64) (h2 : al < 2 ^ 64) (hn : n < 128) : Ret 37 #[.agg #[.int .u64 (ah : Int), .int .u64 (al : Int)], .int .i64 (n : Int)] (.bool (hasB ah al n)) := by
  unfold hasB
  by_cases h : n < 64
  · rw [if_pos h]
    refine has_core ah al n 0 (2 ^ n) _ (rbit_low n h) ?_
    have h3 : 2 ^ n < 2 ^ 64 := Nat.pow_lt_pow_right (by decide) h
    show (_ != _) = _
    rw [u64_and_nat _ _ h2 h3, u64_and_nat _ _ h1 (by decide), u64_or_nat _ _ (Nat.lt_of_le_of_lt Nat.and_le_left h2) (Nat.lt_of_le_of_lt Nat.and_le_left h1), Nat.and_zero, Nat.or_zero, ← bit_test]
    rw [Bool.eq_iff_iff]; simp
  · rw [if_neg h]
    refine has_core ah al n (2 ^ (n - 64)) 0 _ (rbit_high n (by omega) hn) ?_
    have h3 : 2 ^ (n - 64) < 2 ^ 64 := Nat.pow_lt_pow_right (by decide) (by omega)
    show (_ != _) = _
    rw [u64_and_nat _ _ h2 (by decide), u64_and_nat _ _ h1 h3, u64_or_nat _ _ (Nat.lt_of_le_of_lt Nat.and_le_left h2) (Nat.lt_of_le_of_lt Nat.and_le_left h1), Nat.and_zero, Nat.zero_or, ← bit_test]
    rw [Bool.eq_iff_iff]; simp

set_option maxHeartbeats 2000000 in
theorem times_low (j : Int) (hj : j < 6) (ah al r1 r0 : Nat) (H1 : Ret 70 #[.int .i64 j, .int .u64 (ah : Int)] (.int .u64 (r1 : Int))) (H0 : Ret 70 #[.int .i64 j, .int .u64 (al : Int)] (.int .u64 (r0 : Int))) : Ret 60 #[.int .i64 j, .agg #[.int .u64 (ah : Int), .int .u64 (al : Int)]] (.agg #[.int .u64 (r1 : Int), .int .u64 (r0 : Int)]) := by
  intro W
  go_enter Try.func60, Try.ntmps60
  go_upto_region 2 with fail
  have B : Bl W ((W.alloc (Obj.cells #[.int .u64 (ah : Int), .int .u64 (al : Int)] 28)).alloc (Obj.cells #[.int .u64 0, .int .u64 0] 28)) [(W.heap.size, ah, al)] [W.heap.size + 1] :=
    ⟨⟨⟨by simp [go_sem], by simp [go_sem]⟩, trivial⟩, ⟨⟨by simp [go_sem], by simp [go_sem], by simp [go_sem], by simp [go_sem]⟩, trivial⟩, by go_grown⟩
  have hq : W.heap.size ≤ W.heap.size + 1 := by omega
  have hd : ¬ W.heap.size = W.heap.size + 1 ∧ ¬ W.heap.size + 1 = W.heap.size := by omega
  generalize (W.alloc (Obj.cells #[.int .u64 (ah : Int), .int .u64 (al : Int)] 28)).alloc (Obj.cells #[.int .u64 0, .int .u64 0] 28) = w3 at *
  generalize W.heap.size + 1 = p1 at *
  have F := B.facts
  simp only [Els, Wrs, and_true] at F
  go_region_held3 (fun w => w.cell? ⟨W.heap.size, 0, none⟩ = some (.int .u64 (ah : Int)) ∧ w.cell? ⟨W.heap.size, 1, none⟩ = some (.int .u64 (al : Int))) (go_keep) (first | (go_at_call_of 70 (#[.int .i64 j, .int .u64 (ah : Int)] : Array Value); refine (H1.go _).mono ?_; rintro e w' ⟨rfl, hb'⟩; have B'' := Bl.below (w' := w') (by first | exact B | exact B.drew | exact B.room | exact B.drew.room | exact B.room.drew | exact B.alloc _ | exact B.drew.alloc _ | exact (B.alloc _).drew) hb'; clear F B hb'; have B := B''; clear B''; (try simp only [World.size_drew] at B); have F := B.facts; simp only [Els, Wrs, and_true] at F; have N := B.nes; simp only [Nes, List.map, and_true] at N; have N2 := B.b.size) | (go_at_call_of 70 (#[.int .i64 j, .int .u64 (al : Int)] : Array Value); refine (H0.go _).mono ?_; rintro e w' ⟨rfl, hb'⟩; have B'' := Bl.below (w' := w') (by first | exact B | exact B.drew | exact B.room | exact B.drew.room | exact B.room.drew | exact B.alloc _ | exact B.drew.alloc _ | exact (B.alloc _).drew) hb'; clear F B hb'; have B := B''; clear B''; (try simp only [World.size_drew] at B); have F := B.facts; simp only [Els, Wrs, and_true] at F; have N := B.nes; simp only [Nes, List.map, and_true] at N; have N2 := B.b.size))
  all_goals
    go_wp2
    refine bodyPost_ret (v := .agg #[.int .u64 (r1 : Int), .int .u64 (r0 : Int)]) (by simp [results, Try.results60, go_sem, *]) rfl ⟨rfl, ?_⟩
    exact (B.b.setCell hq _).setCell hq _
set_option maxHeartbeats 2000000 in
theorem times_top (ah al r1 r0 : Nat) (f : bits .xor .u64 (al : Int) (r1 : Int) = (r0 : Int)) (H1 : Ret 70 #[.int .i64 5, .int .u64 (ah : Int)] (.int .u64 (r1 : Int))) : Ret 60 #[.int .i64 6, .agg #[.int .u64 (ah : Int), .int .u64 (al : Int)]] (.agg #[.int .u64 (r0 : Int), .int .u64 (ah : Int)]) := by
  intro W
  go_enter Try.func60, Try.ntmps60
  go_upto_region 3 with fail
  have B : Bl W ((W.alloc (Obj.cells #[.int .u64 (ah : Int), .int .u64 (al : Int)] 28)).alloc (Obj.cells #[.int .u64 0, .int .u64 0] 28)) [(W.heap.size, ah, al)] [W.heap.size + 1] :=
    ⟨⟨⟨by simp [go_sem], by simp [go_sem]⟩, trivial⟩, ⟨⟨by simp [go_sem], by simp [go_sem], by simp [go_sem], by simp [go_sem]⟩, trivial⟩, by go_grown⟩
  have hq : W.heap.size ≤ W.heap.size + 1 := by omega
  have hd : ¬ W.heap.size = W.heap.size + 1 ∧ ¬ W.heap.size + 1 = W.heap.size := by omega
  generalize (W.alloc (Obj.cells #[.int .u64 (ah : Int), .int .u64 (al : Int)] 28)).alloc (Obj.cells #[.int .u64 0, .int .u64 0] 28) = w3 at *
  generalize W.heap.size + 1 = p1 at *
  have F := B.facts
  simp only [Els, Wrs, and_true] at F
  go_region_held3 (fun w => w.cell? ⟨W.heap.size, 0, none⟩ = some (.int .u64 (ah : Int)) ∧ w.cell? ⟨W.heap.size, 1, none⟩ = some (.int .u64 (al : Int))) (go_keep) (first | (go_at_call 70; refine (H1.go _).mono ?_; rintro e w' ⟨rfl, hb'⟩; have B'' := Bl.below (w' := w') (by first | exact B | exact B.drew | exact B.room | exact B.drew.room | exact B.room.drew | exact B.alloc _ | exact B.drew.alloc _ | exact (B.alloc _).drew) hb'; clear F B hb'; have B := B''; clear B''; (try simp only [World.size_drew] at B); have F := B.facts; simp only [Els, Wrs, and_true] at F; have N := B.nes; simp only [Nes, List.map, and_true] at N; have N2 := B.b.size))
  all_goals
    go_wp2
    refine bodyPost_ret (v := .agg #[.int .u64 (r0 : Int), .int .u64 (ah : Int)]) (by simp [results, Try.results60, go_sem, *]) rfl ⟨rfl, ?_⟩
    exact (B.b.setCell hq _).setCell hq _
end Go.Proofs.Ytcejppibcemdeaa
