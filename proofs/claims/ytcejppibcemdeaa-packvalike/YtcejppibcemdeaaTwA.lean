/- Contracts of tower's products with generators and of its squares of words, over the seat's translation. -/
import Derived.Test.YtcejppibcemdeaaProg
import Derived.Test.YtcejppibcemdeaaTwM
import Derived.WalkKit
import Derived.WalkLawsBesides
import Derived.WalkSpells
import Derived.Handy
namespace Go.Proofs.Ytcejppibcemdeaa
open Go.RowKit
open Tw (px)

theorem i_hi (n m P L : Nat) (hP : P = 2 ^ m) (hn : n < 2 ^ 64) (hL : L < 2 ^ 64) : bits .and .u64 ((n : Int) / (P : Int)) (L : Int) = ((n >>> m &&& L : Nat) : Int) := by
  have h1 : n / 2 ^ m < 2 ^ 64 := Nat.lt_of_le_of_lt (Nat.div_le_self _ _) hn
  rw [hP, ← Int.natCast_ediv, u64_and_nat _ _ h1 hL, Nat.shiftRight_eq_div_pow]
theorem i_res (n m P L t : Nat) (hP : P = 2 ^ m) (hn : n < 2 ^ 64) (hL : L * P < 2 ^ 64) (ht : t < 2 ^ 64) (hx : ((n &&& L) ^^^ t) ≤ L) :
    bits .or .u64 (IntKind.u64.wrap (bits .xor .u64 (bits .and .u64 (n : Int) (L : Int)) (t : Int) * (P : Int))) ((n >>> m &&& L : Nat) : Int) = (((((n &&& L) ^^^ t) <<< m) ||| (n >>> m &&& L) : Nat) : Int) := by
  have hp : 1 ≤ P := by rw [hP]; exact Nat.one_le_two_pow
  have hL1 : L < 2 ^ 64 := Nat.lt_of_le_of_lt (Nat.le_mul_of_pos_right L hp) hL
  have h1 : (n &&& L) < 2 ^ 64 := Nat.lt_of_le_of_lt Nat.and_le_right hL1
  have h2 : (n >>> m &&& L) < 2 ^ 64 := Nat.lt_of_le_of_lt Nat.and_le_right hL1
  have h3 : ((n &&& L) ^^^ t) * P < 2 ^ 64 := Nat.lt_of_le_of_lt (Nat.mul_le_mul_right P hx) hL
  rw [u64_and_nat _ _ hn hL1, u64_xor_nat _ _ h1 ht, ← Int.natCast_mul, IntKind.wrap_u64]
  have e : ((((n &&& L) ^^^ t) * P : Nat) : Int) % 18446744073709551616 = ((((n &&& L) ^^^ t) * P : Nat) : Int) := by omega
  rw [e, u64_or_nat _ _ h3 h2, Nat.shiftLeft_eq, hP]

set_option maxHeartbeats 400000 in
theorem t1_any (n : Nat) (h : n < 2 ^ 64) (W : World) : Calls Try.prog 81 #[.int .u64 (n : Int)] W fun e w' => e = .returned (.int .u64 (px 2 n : Nat)) ∧ w' = W := by
  obtain ⟨g1, g2, _⟩ := Tw.goX1 n h
  have f1 : bits .and .u64 ((n : Int) / 2) 6148914691236517205 = ((n >>> 1 &&& Tw.L1 : Nat) : Int) := i_hi n 1 2 Tw.L1 rfl h (by decide)
  have f2 := i_res n 1 2 Tw.L1 (n >>> 1 &&& Tw.L1) rfl h (by decide) (Nat.lt_of_le_of_lt Nat.and_le_right (by decide)) g2
  unfold Tw.goX at g1
  rw [g1] at f2
  clear g1 g2
  have f3 : bits .or .u64 (IntKind.u64.wrap (bits .xor .u64 (bits .and .u64 (n : Int) 6148914691236517205) ((n >>> 1 &&& Tw.L1 : Nat) : Int) * 2)) ((n >>> 1 &&& Tw.L1 : Nat) : Int) = (px 2 n : Nat) := f2
  clear f2
  generalize n >>> 1 &&& Tw.L1 = hi at *
  generalize px 2 n = r at *
  go_enter Try.func81, Try.ntmps81
  go_wp2
  go_ret
  exact ⟨rfl, rfl⟩
set_option maxHeartbeats 400000 in
theorem t2_any (n : Nat) (h : n < 2 ^ 64) (W : World) : Calls Try.prog 82 #[.int .u64 (n : Int)] W fun e w' => e = .returned (.int .u64 (px 4 n : Nat)) ∧ w' = W := by
  obtain ⟨g1, g2, _⟩ := Tw.goX2 n h
  have f1 : bits .and .u64 ((n : Int) / 4) 3689348814741910323 = ((n >>> 2 &&& Tw.L2 : Nat) : Int) := i_hi n 2 4 Tw.L2 rfl h (by decide)
  have hh : n >>> 2 &&& Tw.L2 < 2 ^ 64 := Nat.lt_of_le_of_lt Nat.and_le_right (by decide)
  have f2 := i_res n 2 4 Tw.L2 (px 2 (n >>> 2 &&& Tw.L2)) rfl h (by decide) (Tw.px_lt _ _) g2
  unfold Tw.goX at g1
  rw [g1] at f2
  clear g1 g2
  have f3 : bits .or .u64 (IntKind.u64.wrap (bits .xor .u64 (bits .and .u64 (n : Int) 3689348814741910323) (px 2 (n >>> 2 &&& Tw.L2) : Nat) * 4)) ((n >>> 2 &&& Tw.L2 : Nat) : Int) = (px 4 n : Nat) := f2
  clear f2
  have HT := t1_any (n >>> 2 &&& Tw.L2) hh
  generalize n >>> 2 &&& Tw.L2 = hi at *
  generalize px 4 n = r at *
  generalize px 2 hi = q at *
  have H : Hid (∀ W, Calls Try.prog 81 #[.int .u64 (hi : Int)] W fun e w' => e = .returned (.int .u64 (q : Nat)) ∧ w' = W) := HT
  clear HT
  go_enter Try.func82, Try.ntmps82
  go_wp2_with (go_at_call 81; refine (H.out _).mono ?_; rintro e w1 ⟨rfl, rfl⟩)
  go_ret
  exact ⟨rfl, rfl⟩
set_option maxHeartbeats 400000 in
theorem t3_any (n : Nat) (h : n < 2 ^ 64) (W : World) : Calls Try.prog 83 #[.int .u64 (n : Int)] W fun e w' => e = .returned (.int .u64 (px 16 n : Nat)) ∧ w' = W := by
  obtain ⟨g1, g2, _⟩ := Tw.goX3 n h
  have f1 : bits .and .u64 ((n : Int) / 16) 1085102592571150095 = ((n >>> 4 &&& Tw.L3 : Nat) : Int) := i_hi n 4 16 Tw.L3 rfl h (by decide)
  have hh : n >>> 4 &&& Tw.L3 < 2 ^ 64 := Nat.lt_of_le_of_lt Nat.and_le_right (by decide)
  have f2 := i_res n 4 16 Tw.L3 (px 4 (n >>> 4 &&& Tw.L3)) rfl h (by decide) (Tw.px_lt _ _) g2
  unfold Tw.goX at g1
  rw [g1] at f2
  clear g1 g2
  have f3 : bits .or .u64 (IntKind.u64.wrap (bits .xor .u64 (bits .and .u64 (n : Int) 1085102592571150095) (px 4 (n >>> 4 &&& Tw.L3) : Nat) * 16)) ((n >>> 4 &&& Tw.L3 : Nat) : Int) = (px 16 n : Nat) := f2
  clear f2
  have HT := t2_any (n >>> 4 &&& Tw.L3) hh
  generalize n >>> 4 &&& Tw.L3 = hi at *
  generalize px 16 n = r at *
  generalize px 4 hi = q at *
  have H : Hid (∀ W, Calls Try.prog 82 #[.int .u64 (hi : Int)] W fun e w' => e = .returned (.int .u64 (q : Nat)) ∧ w' = W) := HT
  clear HT
  go_enter Try.func83, Try.ntmps83
  go_wp2_with (go_at_call 82; refine (H.out _).mono ?_; rintro e w1 ⟨rfl, rfl⟩)
  go_ret
  exact ⟨rfl, rfl⟩
set_option maxHeartbeats 400000 in
theorem t4_any (n : Nat) (h : n < 2 ^ 64) (W : World) : Calls Try.prog 85 #[.int .u64 (n : Int)] W fun e w' => e = .returned (.int .u64 (px 256 n : Nat)) ∧ w' = W := by
  obtain ⟨g1, g2, _⟩ := Tw.goX4 n h
  have f1 : bits .and .u64 ((n : Int) / 256) 71777214294589695 = ((n >>> 8 &&& Tw.L4 : Nat) : Int) := i_hi n 8 256 Tw.L4 rfl h (by decide)
  have hh : n >>> 8 &&& Tw.L4 < 2 ^ 64 := Nat.lt_of_le_of_lt Nat.and_le_right (by decide)
  have f2 := i_res n 8 256 Tw.L4 (px 16 (n >>> 8 &&& Tw.L4)) rfl h (by decide) (Tw.px_lt _ _) g2
  unfold Tw.goX at g1
  rw [g1] at f2
  clear g1 g2
  have f3 : bits .or .u64 (IntKind.u64.wrap (bits .xor .u64 (bits .and .u64 (n : Int) 71777214294589695) (px 16 (n >>> 8 &&& Tw.L4) : Nat) * 256)) ((n >>> 8 &&& Tw.L4 : Nat) : Int) = (px 256 n : Nat) := f2
  clear f2
  have HT := t3_any (n >>> 8 &&& Tw.L4) hh
  generalize n >>> 8 &&& Tw.L4 = hi at *
  generalize px 256 n = r at *
  generalize px 16 hi = q at *
  have H : Hid (∀ W, Calls Try.prog 83 #[.int .u64 (hi : Int)] W fun e w' => e = .returned (.int .u64 (q : Nat)) ∧ w' = W) := HT
  clear HT
  go_enter Try.func85, Try.ntmps85
  go_wp2_with (go_at_call 83; refine (H.out _).mono ?_; rintro e w1 ⟨rfl, rfl⟩)
  go_ret
  exact ⟨rfl, rfl⟩
set_option maxHeartbeats 400000 in
theorem t5_any (n : Nat) (h : n < 2 ^ 64) (W : World) : Calls Try.prog 79 #[.int .u64 (n : Int)] W fun e w' => e = .returned (.int .u64 (px 65536 n : Nat)) ∧ w' = W := by
  obtain ⟨g1, g2, _⟩ := Tw.goX5 n h
  have f1 : bits .and .u64 ((n : Int) / 65536) 281470681808895 = ((n >>> 16 &&& Tw.L5 : Nat) : Int) := i_hi n 16 65536 Tw.L5 rfl h (by decide)
  have hh : n >>> 16 &&& Tw.L5 < 2 ^ 64 := Nat.lt_of_le_of_lt Nat.and_le_right (by decide)
  have f2 := i_res n 16 65536 Tw.L5 (px 256 (n >>> 16 &&& Tw.L5)) rfl h (by decide) (Tw.px_lt _ _) g2
  unfold Tw.goX at g1
  rw [g1] at f2
  clear g1 g2
  have f3 : bits .or .u64 (IntKind.u64.wrap (bits .xor .u64 (bits .and .u64 (n : Int) 281470681808895) (px 256 (n >>> 16 &&& Tw.L5) : Nat) * 65536)) ((n >>> 16 &&& Tw.L5 : Nat) : Int) = (px 65536 n : Nat) := f2
  clear f2
  have HT := t4_any (n >>> 16 &&& Tw.L5) hh
  generalize n >>> 16 &&& Tw.L5 = hi at *
  generalize px 65536 n = r at *
  generalize px 256 hi = q at *
  have H : Hid (∀ W, Calls Try.prog 85 #[.int .u64 (hi : Int)] W fun e w' => e = .returned (.int .u64 (q : Nat)) ∧ w' = W) := HT
  clear HT
  go_enter Try.func79, Try.ntmps79
  go_wp2_with (go_at_call 85; refine (H.out _).mono ?_; rintro e w1 ⟨rfl, rfl⟩)
  go_ret
  exact ⟨rfl, rfl⟩
theorem hi6n (n : Nat) (h : n < 2 ^ 64) : n >>> 32 &&& Tw.L6 = n / 4294967296 := by
  have e : Tw.L6 = 2 ^ 32 - 1 := by decide
  rw [e, Nat.and_two_pow_sub_one_eq_mod, Nat.shiftRight_eq_div_pow]
  omega
theorem hi6 (n : Nat) (h : n < 2 ^ 64) : (n : Int) / 4294967296 = ((n >>> 32 &&& Tw.L6 : Nat) : Int) := by
  rw [hi6n n h]
  omega
set_option maxHeartbeats 400000 in
theorem t6_any (n : Nat) (h : n < 2 ^ 64) (W : World) : Calls Try.prog 73 #[.int .u64 (n : Int)] W fun e w' => e = .returned (.int .u64 (px 4294967296 n : Nat)) ∧ w' = W := by
  obtain ⟨g1, g2, _⟩ := Tw.goX6 n h
  have f1 := hi6 n h
  have hh : n >>> 32 &&& Tw.L6 < 2 ^ 64 := Nat.lt_of_le_of_lt Nat.and_le_right (by decide)
  have f2 := i_res n 32 4294967296 Tw.L6 (px 65536 (n >>> 32 &&& Tw.L6)) rfl h (by decide) (Tw.px_lt _ _) g2
  unfold Tw.goX at g1
  rw [g1] at f2
  clear g1 g2
  have f3 : bits .or .u64 (IntKind.u64.wrap (bits .xor .u64 (bits .and .u64 (n : Int) 4294967295) (px 65536 (n >>> 32 &&& Tw.L6) : Nat) * 4294967296)) ((n >>> 32 &&& Tw.L6 : Nat) : Int) = (px 4294967296 n : Nat) := f2
  clear f2
  have HT := t5_any (n >>> 32 &&& Tw.L6) hh
  generalize n >>> 32 &&& Tw.L6 = hi at *
  generalize px 4294967296 n = r at *
  generalize px 65536 hi = q at *
  have H : Hid (∀ W, Calls Try.prog 79 #[.int .u64 (hi : Int)] W fun e w' => e = .returned (.int .u64 (q : Nat)) ∧ w' = W) := HT
  clear HT
  have F1 : Hid ((n : Int) / 4294967296 = (hi : Int)) := f1
  clear f1
  go_enter Try.func73, Try.ntmps73
  go_wp2_with fail
  rw [F1.out]
  refine (H.out _).mono ?_
  rintro e w1 ⟨rfl, rfl⟩
  go_wp2
  go_ret
  exact ⟨rfl, rfl⟩

/-- The bit that is the generator of a level (of level 0, and of what is none: 1). -/
def gbit (l : Int) : Nat := if l = 1 then 2 else if l = 2 then 4 else if l = 3 then 16 else if l = 4 then 256 else if l = 5 then 65536 else if l = 6 then 4294967296 else 1
set_option maxHeartbeats 400000 in
theorem tx_any (l : Int) (n : Nat) (h : n < 2 ^ 64) (W : World) : Calls Try.prog 84 #[.int .i64 l, .int .u64 (n : Int)] W fun e w' => e = .returned (.int .u64 (px (gbit l) n : Nat)) ∧ w' = W := by
  by_cases hl : l = 1 ∨ l = 2 ∨ l = 3 ∨ l = 4 ∨ l = 5 ∨ l = 6
  · rcases hl with rfl | rfl | rfl | rfl | rfl | rfl
    · have H : Hid (∀ W, Calls Try.prog 81 #[.int .u64 (n : Int)] W fun e w' => e = .returned (.int .u64 (px 2 n : Nat)) ∧ w' = W) := t1_any n h
      rw [show gbit 1 = 2 from rfl]
      generalize px 2 n = r at *
      go_enter Try.func84, Try.ntmps84
      go_wp2_with (go_at_call 81; refine (H.out _).mono ?_; rintro e w1 ⟨rfl, rfl⟩)
      go_ret
      exact ⟨rfl, rfl⟩
    · have H : Hid (∀ W, Calls Try.prog 82 #[.int .u64 (n : Int)] W fun e w' => e = .returned (.int .u64 (px 4 n : Nat)) ∧ w' = W) := t2_any n h
      rw [show gbit 2 = 4 from rfl]
      generalize px 4 n = r at *
      go_enter Try.func84, Try.ntmps84
      go_wp2_with (go_at_call 82; refine (H.out _).mono ?_; rintro e w1 ⟨rfl, rfl⟩)
      go_ret
      exact ⟨rfl, rfl⟩
    · have H : Hid (∀ W, Calls Try.prog 83 #[.int .u64 (n : Int)] W fun e w' => e = .returned (.int .u64 (px 16 n : Nat)) ∧ w' = W) := t3_any n h
      rw [show gbit 3 = 16 from rfl]
      generalize px 16 n = r at *
      go_enter Try.func84, Try.ntmps84
      go_wp2_with (go_at_call 83; refine (H.out _).mono ?_; rintro e w1 ⟨rfl, rfl⟩)
      go_ret
      exact ⟨rfl, rfl⟩
    · have H : Hid (∀ W, Calls Try.prog 85 #[.int .u64 (n : Int)] W fun e w' => e = .returned (.int .u64 (px 256 n : Nat)) ∧ w' = W) := t4_any n h
      rw [show gbit 4 = 256 from rfl]
      generalize px 256 n = r at *
      go_enter Try.func84, Try.ntmps84
      go_wp2_with (go_at_call 85; refine (H.out _).mono ?_; rintro e w1 ⟨rfl, rfl⟩)
      go_ret
      exact ⟨rfl, rfl⟩
    · have H : Hid (∀ W, Calls Try.prog 79 #[.int .u64 (n : Int)] W fun e w' => e = .returned (.int .u64 (px 65536 n : Nat)) ∧ w' = W) := t5_any n h
      rw [show gbit 5 = 65536 from rfl]
      generalize px 65536 n = r at *
      go_enter Try.func84, Try.ntmps84
      go_wp2_with (go_at_call 79; refine (H.out _).mono ?_; rintro e w1 ⟨rfl, rfl⟩)
      go_ret
      exact ⟨rfl, rfl⟩
    · have H : Hid (∀ W, Calls Try.prog 73 #[.int .u64 (n : Int)] W fun e w' => e = .returned (.int .u64 (px 4294967296 n : Nat)) ∧ w' = W) := t6_any n h
      rw [show gbit 6 = 4294967296 from rfl]
      generalize px 4294967296 n = r at *
      go_enter Try.func84, Try.ntmps84
      go_wp2_with (go_at_call 73; refine (H.out _).mono ?_; rintro e w1 ⟨rfl, rfl⟩)
      go_ret
      exact ⟨rfl, rfl⟩
  · have e : px (gbit l) n = n := by
      rw [show gbit l = 1 by unfold gbit; repeat (rw [if_neg (by omega)])]
      rw [Tw.px_comm, Tw.px_one n h]
    rw [e]
    have q1 : (l == 1) = false := by simp; omega
    have q2 : (l == 2) = false := by simp; omega
    have q3 : (l == 3) = false := by simp; omega
    have q4 : (l == 4) = false := by simp; omega
    have q5 : (l == 5) = false := by simp; omega
    have q6 : (l == 6) = false := by simp; omega
    clear hl e
    go_enter Try.func84, Try.ntmps84
    go_wp2
    go_ret
    exact ⟨rfl, rfl⟩
end Go.Proofs.Ytcejppibcemdeaa
