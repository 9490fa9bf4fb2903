/- Contracts of steepleref02.mask, timesWord and Times over the seat's translation. -/
import Derived.Test.YtbmjceiogfhffaaTwBl
namespace Go.Proofs.Ytbmjceiogfhffaa
open Go.RowKit
open Tw (px)

theorem mask0 : Ret 85 #[.int .i64 0] (.int .u64 6148914691236517205) := by
  intro W
  go_enter Try.func85, Try.ntmps85
  go_wp2
  go_ret
  exact ⟨rfl, by go_grown⟩
theorem mask1 : Ret 85 #[.int .i64 1] (.int .u64 3689348814741910323) := by
  intro W
  go_enter Try.func85, Try.ntmps85
  go_wp2
  go_ret
  exact ⟨rfl, by go_grown⟩
theorem mask2 : Ret 85 #[.int .i64 2] (.int .u64 1085102592571150095) := by
  intro W
  go_enter Try.func85, Try.ntmps85
  go_wp2
  go_ret
  exact ⟨rfl, by go_grown⟩
theorem mask3 : Ret 85 #[.int .i64 3] (.int .u64 71777214294589695) := by
  intro W
  go_enter Try.func85, Try.ntmps85
  go_wp2
  go_ret
  exact ⟨rfl, by go_grown⟩
theorem mask4 : Ret 85 #[.int .i64 4] (.int .u64 281470681808895) := by
  intro W
  go_enter Try.func85, Try.ntmps85
  go_wp2
  go_ret
  exact ⟨rfl, by go_grown⟩
theorem mask5 : Ret 85 #[.int .i64 5] (.int .u64 4294967295) := by
  intro W
  go_enter Try.func85, Try.ntmps85
  go_wp2
  go_ret
  exact ⟨rfl, by go_grown⟩
theorem tw_none (n : Nat) : Ret 69 #[.int .i64 (-1), .int .u64 (n : Int)] (.int .u64 (n : Int)) := by
  intro W
  go_enter Try.func69, Try.ntmps69
  go_wp2
  go_ret
  exact ⟨rfl, Below.refl _ _⟩
set_option maxHeartbeats 400000 in
theorem tw0 (n : Nat) (h : n < 2 ^ 64) : Ret 69 #[.int .i64 0, .int .u64 (n : Int)] (.int .u64 (px 2 n : Nat)) := by
  obtain ⟨g1, g2, _⟩ := Tw.goX1 n h
  have f1 : bits .and .u64 ((n : Int) / 2) 6148914691236517205 = ((n >>> 1 &&& Tw.L1 : Nat) : Int) := i_hi n 1 2 Tw.L1 rfl h (by decide)
  have hh : n >>> 1 &&& Tw.L1 < 2 ^ 64 := Nat.lt_of_le_of_lt Nat.and_le_right (by decide)
  have f2 := i_res n 1 2 Tw.L1 (n >>> 1 &&& Tw.L1) rfl h (by decide) hh g2
  unfold Tw.goX at g1
  rw [g1] at f2
  clear g1 g2
  have f3 : bits .or .u64 (IntKind.u64.wrap (bits .xor .u64 (bits .and .u64 (n : Int) 6148914691236517205) ((n >>> 1 &&& Tw.L1 : Nat) : Int) * 2)) ((n >>> 1 &&& Tw.L1 : Nat) : Int) = (px 2 n : Nat) := f2
  clear f2
  generalize n >>> 1 &&& Tw.L1 = hi at *
  generalize px 2 n = r at *
  have H : Ret 69 #[.int .i64 (-1), .int .u64 (hi : Int)] (.int .u64 (hi : Int)) := tw_none hi
  clear hh h
  intro W
  go_enter Try.func69, Try.ntmps69
  go_wp2_with fail
  refine (mask0.go _).mono ?_
  rintro e w1 ⟨rfl, hb1⟩
  go_wp2_with fail
  refine (mask0.go _).mono ?_
  rintro e w2 ⟨rfl, hb2⟩
  go_wp2_with fail
  refine (H.go _).mono ?_
  rintro e w3 ⟨rfl, hb3⟩
  go_wp2
  go_ret
  have b2 := hb1.trans (hb2.mono hb1.size)
  exact ⟨rfl, b2.trans (hb3.mono b2.size)⟩
set_option maxHeartbeats 400000 in
theorem tw1 (n : Nat) (h : n < 2 ^ 64) : Ret 69 #[.int .i64 1, .int .u64 (n : Int)] (.int .u64 (px 4 n : Nat)) := by
  obtain ⟨g1, g2, _⟩ := Tw.goX2 n h
  have f1 : bits .and .u64 ((n : Int) / 4) 3689348814741910323 = ((n >>> 2 &&& Tw.L2 : Nat) : Int) := i_hi n 2 4 Tw.L2 rfl h (by decide)
  have hh : n >>> 2 &&& Tw.L2 < 2 ^ 64 := Nat.lt_of_le_of_lt Nat.and_le_right (by decide)
  have f2 := i_res n 2 4 Tw.L2 (px 2 (n >>> 2 &&& Tw.L2)) rfl h (by decide) (Tw.px_lt _ _) g2
  unfold Tw.goX at g1
  rw [g1] at f2
  clear g1 g2
  have f3 : bits .or .u64 (IntKind.u64.wrap (bits .xor .u64 (bits .and .u64 (n : Int) 3689348814741910323) ((px 2 (n >>> 2 &&& Tw.L2) : Nat) : Int) * 4)) ((n >>> 2 &&& Tw.L2 : Nat) : Int) = (px 4 n : Nat) := f2
  clear f2
  generalize n >>> 2 &&& Tw.L2 = hi at *
  generalize px 4 n = r at *
  have H : Ret 69 #[.int .i64 0, .int .u64 (hi : Int)] (.int .u64 (px 2 hi : Nat)) := tw0 hi hh
  generalize px 2 hi = q at *
  clear hh h
  intro W
  go_enter Try.func69, Try.ntmps69
  go_wp2_with fail
  refine (mask1.go _).mono ?_
  rintro e w1 ⟨rfl, hb1⟩
  go_wp2_with fail
  refine (mask1.go _).mono ?_
  rintro e w2 ⟨rfl, hb2⟩
  go_wp2_with fail
  refine (H.go _).mono ?_
  rintro e w3 ⟨rfl, hb3⟩
  go_wp2
  go_ret
  have b2 := hb1.trans (hb2.mono hb1.size)
  exact ⟨rfl, b2.trans (hb3.mono b2.size)⟩
set_option maxHeartbeats 400000 in
theorem tw2 (n : Nat) (h : n < 2 ^ 64) : Ret 69 #[.int .i64 2, .int .u64 (n : Int)] (.int .u64 (px 16 n : Nat)) := by
  obtain ⟨g1, g2, _⟩ := Tw.goX3 n h
  have f1 : bits .and .u64 ((n : Int) / 16) 1085102592571150095 = ((n >>> 4 &&& Tw.L3 : Nat) : Int) := i_hi n 4 16 Tw.L3 rfl h (by decide)
  have hh : n >>> 4 &&& Tw.L3 < 2 ^ 64 := Nat.lt_of_le_of_lt Nat.and_le_right (by decide)
  have f2 := i_res n 4 16 Tw.L3 (px 4 (n >>> 4 &&& Tw.L3)) rfl h (by decide) (Tw.px_lt _ _) g2
  unfold Tw.goX at g1
  rw [g1] at f2
  clear g1 g2
  have f3 : bits .or .u64 (IntKind.u64.wrap (bits .xor .u64 (bits .and .u64 (n : Int) 1085102592571150095) ((px 4 (n >>> 4 &&& Tw.L3) : Nat) : Int) * 16)) ((n >>> 4 &&& Tw.L3 : Nat) : Int) = (px 16 n : Nat) := f2
  clear f2
  generalize n >>> 4 &&& Tw.L3 = hi at *
  generalize px 16 n = r at *
  have H : Ret 69 #[.int .i64 1, .int .u64 (hi : Int)] (.int .u64 (px 4 hi : Nat)) := tw1 hi hh
  generalize px 4 hi = q at *
  clear hh h
  intro W
  go_enter Try.func69, Try.ntmps69
  go_wp2_with fail
  refine (mask2.go _).mono ?_
  rintro e w1 ⟨rfl, hb1⟩
  go_wp2_with fail
  refine (mask2.go _).mono ?_
  rintro e w2 ⟨rfl, hb2⟩
  go_wp2_with fail
  refine (H.go _).mono ?_
  rintro e w3 ⟨rfl, hb3⟩
  go_wp2
  go_ret
  have b2 := hb1.trans (hb2.mono hb1.size)
  exact ⟨rfl, b2.trans (hb3.mono b2.size)⟩
set_option maxHeartbeats 400000 in
theorem tw3 (n : Nat) (h : n < 2 ^ 64) : Ret 69 #[.int .i64 3, .int .u64 (n : Int)] (.int .u64 (px 256 n : Nat)) := by
  obtain ⟨g1, g2, _⟩ := Tw.goX4 n h
  have f1 : bits .and .u64 ((n : Int) / 256) 71777214294589695 = ((n >>> 8 &&& Tw.L4 : Nat) : Int) := i_hi n 8 256 Tw.L4 rfl h (by decide)
  have hh : n >>> 8 &&& Tw.L4 < 2 ^ 64 := Nat.lt_of_le_of_lt Nat.and_le_right (by decide)
  have f2 := i_res n 8 256 Tw.L4 (px 16 (n >>> 8 &&& Tw.L4)) rfl h (by decide) (Tw.px_lt _ _) g2
  unfold Tw.goX at g1
  rw [g1] at f2
  clear g1 g2
  have f3 : bits .or .u64 (IntKind.u64.wrap (bits .xor .u64 (bits .and .u64 (n : Int) 71777214294589695) ((px 16 (n >>> 8 &&& Tw.L4) : Nat) : Int) * 256)) ((n >>> 8 &&& Tw.L4 : Nat) : Int) = (px 256 n : Nat) := f2
  clear f2
  generalize n >>> 8 &&& Tw.L4 = hi at *
  generalize px 256 n = r at *
  have H : Ret 69 #[.int .i64 2, .int .u64 (hi : Int)] (.int .u64 (px 16 hi : Nat)) := tw2 hi hh
  generalize px 16 hi = q at *
  clear hh h
  intro W
  go_enter Try.func69, Try.ntmps69
  go_wp2_with fail
  refine (mask3.go _).mono ?_
  rintro e w1 ⟨rfl, hb1⟩
  go_wp2_with fail
  refine (mask3.go _).mono ?_
  rintro e w2 ⟨rfl, hb2⟩
  go_wp2_with fail
  refine (H.go _).mono ?_
  rintro e w3 ⟨rfl, hb3⟩
  go_wp2
  go_ret
  have b2 := hb1.trans (hb2.mono hb1.size)
  exact ⟨rfl, b2.trans (hb3.mono b2.size)⟩
set_option maxHeartbeats 400000 in
theorem tw4 (n : Nat) (h : n < 2 ^ 64) : Ret 69 #[.int .i64 4, .int .u64 (n : Int)] (.int .u64 (px 65536 n : Nat)) := by
  obtain ⟨g1, g2, _⟩ := Tw.goX5 n h
  have f1 : bits .and .u64 ((n : Int) / 65536) 281470681808895 = ((n >>> 16 &&& Tw.L5 : Nat) : Int) := i_hi n 16 65536 Tw.L5 rfl h (by decide)
  have hh : n >>> 16 &&& Tw.L5 < 2 ^ 64 := Nat.lt_of_le_of_lt Nat.and_le_right (by decide)
  have f2 := i_res n 16 65536 Tw.L5 (px 256 (n >>> 16 &&& Tw.L5)) rfl h (by decide) (Tw.px_lt _ _) g2
  unfold Tw.goX at g1
  rw [g1] at f2
  clear g1 g2
  have f3 : bits .or .u64 (IntKind.u64.wrap (bits .xor .u64 (bits .and .u64 (n : Int) 281470681808895) ((px 256 (n >>> 16 &&& Tw.L5) : Nat) : Int) * 65536)) ((n >>> 16 &&& Tw.L5 : Nat) : Int) = (px 65536 n : Nat) := f2
  clear f2
  generalize n >>> 16 &&& Tw.L5 = hi at *
  generalize px 65536 n = r at *
  have H : Ret 69 #[.int .i64 3, .int .u64 (hi : Int)] (.int .u64 (px 256 hi : Nat)) := tw3 hi hh
  generalize px 256 hi = q at *
  clear hh h
  intro W
  go_enter Try.func69, Try.ntmps69
  go_wp2_with fail
  refine (mask4.go _).mono ?_
  rintro e w1 ⟨rfl, hb1⟩
  go_wp2_with fail
  refine (mask4.go _).mono ?_
  rintro e w2 ⟨rfl, hb2⟩
  go_wp2_with fail
  refine (H.go _).mono ?_
  rintro e w3 ⟨rfl, hb3⟩
  go_wp2
  go_ret
  have b2 := hb1.trans (hb2.mono hb1.size)
  exact ⟨rfl, b2.trans (hb3.mono b2.size)⟩
set_option maxHeartbeats 400000 in
theorem tw5 (n : Nat) (h : n < 2 ^ 64) : Ret 69 #[.int .i64 5, .int .u64 (n : Int)] (.int .u64 (px 4294967296 n : Nat)) := by
  obtain ⟨g1, g2, _⟩ := Tw.goX6 n h
  have f1 : bits .and .u64 ((n : Int) / 4294967296) 4294967295 = ((n >>> 32 &&& Tw.L6 : Nat) : Int) := i_hi n 32 4294967296 Tw.L6 rfl h (by decide)
  have hh : n >>> 32 &&& Tw.L6 < 2 ^ 64 := Nat.lt_of_le_of_lt Nat.and_le_right (by decide)
  have f2 := i_res n 32 4294967296 Tw.L6 (px 65536 (n >>> 32 &&& Tw.L6)) rfl h (by decide) (Tw.px_lt _ _) g2
  unfold Tw.goX at g1
  rw [g1] at f2
  clear g1 g2
  have f3 : bits .or .u64 (IntKind.u64.wrap (bits .xor .u64 (bits .and .u64 (n : Int) 4294967295) ((px 65536 (n >>> 32 &&& Tw.L6) : Nat) : Int) * 4294967296)) ((n >>> 32 &&& Tw.L6 : Nat) : Int) = (px 4294967296 n : Nat) := f2
  clear f2
  generalize n >>> 32 &&& Tw.L6 = hi at *
  generalize px 4294967296 n = r at *
  have H : Ret 69 #[.int .i64 4, .int .u64 (hi : Int)] (.int .u64 (px 65536 hi : Nat)) := tw4 hi hh
  generalize px 65536 hi = q at *
  clear hh h
  intro W
  go_enter Try.func69, Try.ntmps69
  go_wp2_with fail
  refine (mask5.go _).mono ?_
  rintro e w1 ⟨rfl, hb1⟩
  go_wp2_with fail
  refine (mask5.go _).mono ?_
  rintro e w2 ⟨rfl, hb2⟩
  go_wp2_with fail
  refine (H.go _).mono ?_
  rintro e w3 ⟨rfl, hb3⟩
  go_wp2
  go_ret
  have b2 := hb1.trans (hb2.mono hb1.size)
  exact ⟨rfl, b2.trans (hb3.mono b2.size)⟩
end Go.Proofs.Ytbmjceiogfhffaa
