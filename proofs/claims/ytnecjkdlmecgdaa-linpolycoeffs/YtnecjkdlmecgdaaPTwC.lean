/- Contracts of tower's products with generators and of its squares of words, over the seat's translation. -/
import Derived.Test.YtnecjkdlmecgdaaProg
import Derived.Test.YtnecjkdlmecgdaaTwM
import Derived.WalkKit
import Derived.WalkLawsBesides
import Derived.WalkSpells
import Derived.Handy
import Derived.RegionTactic
import Derived.ChangeAlike
import Derived.Deep.QuietTactic
import Derived.BigQuiet
import Derived.BigRegion
namespace Go.Proofs.Ytnecjkdlmecgdaa
open Go.RowKit
open Tw (px)

theorem i_hi (n m P L : Nat) (hP : P = 2 ^ m) (hn : n < 2 ^ 64) (hL : L < 2 ^ 64) : bits .and .u64 ((n : Int) / (P : Int)) (L : Int) = ((n >>> m &&& L : Nat) : Int) := by
  have h1 : n / 2 ^ m < 2 ^ 64 := Nat.lt_of_le_of_lt (Nat.div_le_self _ _) hn
  rw [hP, ← Int.natCast_ediv, u64_and_nat _ _ h1 hL, Nat.shiftRight_eq_div_pow]
theorem i_res (n m P L t : Nat) (hP : P = 2 ^ m) (hn : n < 2 ^ 64) (hL : L * P < 2 ^ 64) (ht : t < 2 ^ 64) (hx : ((n &&& L) ^^^ t) ≤ L) :
    bits .or .u64 (IntKind.u64.wrap (bits .xor .u64 (bits .and .u64 (n : Int) (L : Int)) (t : Int) * (P : Int))) ((n >>> m &&& L : Nat) : Int) = (((((n &&& L) ^^^ t) <<< m) ||| (n >>> m &&& L) : Nat) : Int) := by
  have hp : 1 ≤ P := by rw [hP]; exact Nat.one_le_two_pow
  have hL1 : L < 2 ^ 64 := Nat.lt_of_le_of_lt (Nat.le_mul_of_pos_right L hp) hL
  have h1 : (n &&& L) < 2 ^ 64 := Nat.lt_of_le_of_lt Nat.and_le_right hL1
  have h2 : (n >>> m &&& L) < 2 ^ 64 := Nat.lt_of_le_of_lt Nat.and_le_right hL1
  have h3 : ((n &&& L) ^^^ t) * P < 2 ^ 64 := Nat.lt_of_le_of_lt (Nat.mul_le_mul_right P hx) hL
  rw [u64_and_nat _ _ hn hL1, u64_xor_nat _ _ h1 ht, ← Int.natCast_mul, IntKind.wrap_u64]
  have e : ((((n &&& L) ^^^ t) * P : Nat) : Int) % 18446744073709551616 = ((((n &&& L) ^^^ t) * P : Nat) : Int) := by omega
  rw [e, u64_or_nat _ _ h3 h2, Nat.shiftLeft_eq, hP]

set_option maxHeartbeats 400000 in
theorem t1_any (n : Nat) (h : n < 2 ^ 64) (W : World) : Calls Try.prog 97 #[.int .u64 (n : Int)] W fun e w' => e = .returned (.int .u64 (px 2 n : Nat)) ∧ w' = W := by
  obtain ⟨g1, g2, _⟩ := Tw.goX1 n h
  have f1 : bits .and .u64 ((n : Int) / 2) 6148914691236517205 = ((n >>> 1 &&& Tw.L1 : Nat) : Int) := i_hi n 1 2 Tw.L1 rfl h (by decide)
  have f2 := i_res n 1 2 Tw.L1 (n >>> 1 &&& Tw.L1) rfl h (by decide) (Nat.lt_of_le_of_lt Nat.and_le_right (by decide)) g2
  unfold Tw.goX at g1
  rw [g1] at f2
  clear g1 g2
  have f3 : bits .or .u64 (IntKind.u64.wrap (bits .xor .u64 (bits .and .u64 (n : Int) 6148914691236517205) ((n >>> 1 &&& Tw.L1 : Nat) : Int) * 2)) ((n >>> 1 &&& Tw.L1 : Nat) : Int) = (px 2 n : Nat) := f2
  clear f2
  generalize n >>> 1 &&& Tw.L1 = hi at *
  generalize px 2 n = r at *
  go_enter Try.func97, Try.ntmps97
  go_wp2
  go_ret
  exact ⟨rfl, rfl⟩
set_option maxHeartbeats 400000 in
theorem t2_any (n : Nat) (h : n < 2 ^ 64) (W : World) : Calls Try.prog 98 #[.int .u64 (n : Int)] W fun e w' => e = .returned (.int .u64 (px 4 n : Nat)) ∧ w' = W := by
  obtain ⟨g1, g2, _⟩ := Tw.goX2 n h
  have f1 : bits .and .u64 ((n : Int) / 4) 3689348814741910323 = ((n >>> 2 &&& Tw.L2 : Nat) : Int) := i_hi n 2 4 Tw.L2 rfl h (by decide)
  have hh : n >>> 2 &&& Tw.L2 < 2 ^ 64 := Nat.lt_of_le_of_lt Nat.and_le_right (by decide)
  have f2 := i_res n 2 4 Tw.L2 (px 2 (n >>> 2 &&& Tw.L2)) rfl h (by decide) (Tw.px_lt _ _) g2
  unfold Tw.goX at g1
  rw [g1] at f2
  clear g1 g2
  have f3 : bits .or .u64 (IntKind.u64.wrap (bits .xor .u64 (bits .and .u64 (n : Int) 3689348814741910323) (px 2 (n >>> 2 &&& Tw.L2) : Nat) * 4)) ((n >>> 2 &&& Tw.L2 : Nat) : Int) = (px 4 n : Nat) := f2
  clear f2
  have HT := t1_any (n >>> 2 &&& Tw.L2) hh
  generalize n >>> 2 &&& Tw.L2 = hi at *
  generalize px 4 n = r at *
  generalize px 2 hi = q at *
  have H : Hid (∀ W, Calls Try.prog 97 #[.int .u64 (hi : Int)] W fun e w' => e = .returned (.int .u64 (q : Nat)) ∧ w' = W) := HT
  clear HT
  go_enter Try.func98, Try.ntmps98
  go_wp2_with (go_at_call 97; refine (H.out _).mono ?_; rintro e w1 ⟨rfl, rfl⟩)
  go_ret
  exact ⟨rfl, rfl⟩
set_option maxHeartbeats 400000 in
theorem t3_any (n : Nat) (h : n < 2 ^ 64) (W : World) : Calls Try.prog 99 #[.int .u64 (n : Int)] W fun e w' => e = .returned (.int .u64 (px 16 n : Nat)) ∧ w' = W := by
  obtain ⟨g1, g2, _⟩ := Tw.goX3 n h
  have f1 : bits .and .u64 ((n : Int) / 16) 1085102592571150095 = ((n >>> 4 &&& Tw.L3 : Nat) : Int) := i_hi n 4 16 Tw.L3 rfl h (by decide)
  have hh : n >>> 4 &&& Tw.L3 < 2 ^ 64 := Nat.lt_of_le_of_lt Nat.and_le_right (by decide)
  have f2 := i_res n 4 16 Tw.L3 (px 4 (n >>> 4 &&& Tw.L3)) rfl h (by decide) (Tw.px_lt _ _) g2
  unfold Tw.goX at g1
  rw [g1] at f2
  clear g1 g2
  have f3 : bits .or .u64 (IntKind.u64.wrap (bits .xor .u64 (bits .and .u64 (n : Int) 1085102592571150095) (px 4 (n >>> 4 &&& Tw.L3) : Nat) * 16)) ((n >>> 4 &&& Tw.L3 : Nat) : Int) = (px 16 n : Nat) := f2
  clear f2
  have HT := t2_any (n >>> 4 &&& Tw.L3) hh
  generalize n >>> 4 &&& Tw.L3 = hi at *
  generalize px 16 n = r at *
  generalize px 4 hi = q at *
  have H : Hid (∀ W, Calls Try.prog 98 #[.int .u64 (hi : Int)] W fun e w' => e = .returned (.int .u64 (q : Nat)) ∧ w' = W) := HT
  clear HT
  go_enter Try.func99, Try.ntmps99
  go_wp2_with (go_at_call 98; refine (H.out _).mono ?_; rintro e w1 ⟨rfl, rfl⟩)
  go_ret
  exact ⟨rfl, rfl⟩
set_option maxHeartbeats 400000 in
theorem t4_any (n : Nat) (h : n < 2 ^ 64) (W : World) : Calls Try.prog 100 #[.int .u64 (n : Int)] W fun e w' => e = .returned (.int .u64 (px 256 n : Nat)) ∧ w' = W := by
  obtain ⟨g1, g2, _⟩ := Tw.goX4 n h
  have f1 : bits .and .u64 ((n : Int) / 256) 71777214294589695 = ((n >>> 8 &&& Tw.L4 : Nat) : Int) := i_hi n 8 256 Tw.L4 rfl h (by decide)
  have hh : n >>> 8 &&& Tw.L4 < 2 ^ 64 := Nat.lt_of_le_of_lt Nat.and_le_right (by decide)
  have f2 := i_res n 8 256 Tw.L4 (px 16 (n >>> 8 &&& Tw.L4)) rfl h (by decide) (Tw.px_lt _ _) g2
  unfold Tw.goX at g1
  rw [g1] at f2
  clear g1 g2
  have f3 : bits .or .u64 (IntKind.u64.wrap (bits .xor .u64 (bits .and .u64 (n : Int) 71777214294589695) (px 16 (n >>> 8 &&& Tw.L4) : Nat) * 256)) ((n >>> 8 &&& Tw.L4 : Nat) : Int) = (px 256 n : Nat) := f2
  clear f2
  have HT := t3_any (n >>> 8 &&& Tw.L4) hh
  generalize n >>> 8 &&& Tw.L4 = hi at *
  generalize px 256 n = r at *
  generalize px 16 hi = q at *
  have H : Hid (∀ W, Calls Try.prog 99 #[.int .u64 (hi : Int)] W fun e w' => e = .returned (.int .u64 (q : Nat)) ∧ w' = W) := HT
  clear HT
  go_enter Try.func100, Try.ntmps100
  go_wp2_with (go_at_call 99; refine (H.out _).mono ?_; rintro e w1 ⟨rfl, rfl⟩)
  go_ret
  exact ⟨rfl, rfl⟩
set_option maxHeartbeats 400000 in
theorem t5_any (n : Nat) (h : n < 2 ^ 64) (W : World) : Calls Try.prog 95 #[.int .u64 (n : Int)] W fun e w' => e = .returned (.int .u64 (px 65536 n : Nat)) ∧ w' = W := by
  obtain ⟨g1, g2, _⟩ := Tw.goX5 n h
  have f1 : bits .and .u64 ((n : Int) / 65536) 281470681808895 = ((n >>> 16 &&& Tw.L5 : Nat) : Int) := i_hi n 16 65536 Tw.L5 rfl h (by decide)
  have hh : n >>> 16 &&& Tw.L5 < 2 ^ 64 := Nat.lt_of_le_of_lt Nat.and_le_right (by decide)
  have f2 := i_res n 16 65536 Tw.L5 (px 256 (n >>> 16 &&& Tw.L5)) rfl h (by decide) (Tw.px_lt _ _) g2
  unfold Tw.goX at g1
  rw [g1] at f2
  clear g1 g2
  have f3 : bits .or .u64 (IntKind.u64.wrap (bits .xor .u64 (bits .and .u64 (n : Int) 281470681808895) (px 256 (n >>> 16 &&& Tw.L5) : Nat) * 65536)) ((n >>> 16 &&& Tw.L5 : Nat) : Int) = (px 65536 n : Nat) := f2
  clear f2
  have HT := t4_any (n >>> 16 &&& Tw.L5) hh
  generalize n >>> 16 &&& Tw.L5 = hi at *
  generalize px 65536 n = r at *
  generalize px 256 hi = q at *
  have H : Hid (∀ W, Calls Try.prog 100 #[.int .u64 (hi : Int)] W fun e w' => e = .returned (.int .u64 (q : Nat)) ∧ w' = W) := HT
  clear HT
  go_enter Try.func95, Try.ntmps95
  go_wp2_with (go_at_call 100; refine (H.out _).mono ?_; rintro e w1 ⟨rfl, rfl⟩)
  go_ret
  exact ⟨rfl, rfl⟩
theorem hi6n (n : Nat) (h : n < 2 ^ 64) : n >>> 32 &&& Tw.L6 = n / 4294967296 := by
  have e : Tw.L6 = 2 ^ 32 - 1 := by decide
  rw [e, Nat.and_two_pow_sub_one_eq_mod, Nat.shiftRight_eq_div_pow]
  omega
theorem hi6 (n : Nat) (h : n < 2 ^ 64) : (n : Int) / 4294967296 = ((n >>> 32 &&& Tw.L6 : Nat) : Int) := by
  rw [hi6n n h]
  omega
set_option maxHeartbeats 400000 in
theorem t6_any (n : Nat) (h : n < 2 ^ 64) (W : World) : Calls Try.prog 84 #[.int .u64 (n : Int)] W fun e w' => e = .returned (.int .u64 (px 4294967296 n : Nat)) ∧ w' = W := by
  obtain ⟨g1, g2, _⟩ := Tw.goX6 n h
  have f1 := hi6 n h
  have hh : n >>> 32 &&& Tw.L6 < 2 ^ 64 := Nat.lt_of_le_of_lt Nat.and_le_right (by decide)
  have f2 := i_res n 32 4294967296 Tw.L6 (px 65536 (n >>> 32 &&& Tw.L6)) rfl h (by decide) (Tw.px_lt _ _) g2
  unfold Tw.goX at g1
  rw [g1] at f2
  clear g1 g2
  have f3 : bits .or .u64 (IntKind.u64.wrap (bits .xor .u64 (bits .and .u64 (n : Int) 4294967295) (px 65536 (n >>> 32 &&& Tw.L6) : Nat) * 4294967296)) ((n >>> 32 &&& Tw.L6 : Nat) : Int) = (px 4294967296 n : Nat) := f2
  clear f2
  have HT := t5_any (n >>> 32 &&& Tw.L6) hh
  generalize n >>> 32 &&& Tw.L6 = hi at *
  generalize px 4294967296 n = r at *
  generalize px 65536 hi = q at *
  have H : Hid (∀ W, Calls Try.prog 95 #[.int .u64 (hi : Int)] W fun e w' => e = .returned (.int .u64 (q : Nat)) ∧ w' = W) := HT
  clear HT
  have F1 : Hid ((n : Int) / 4294967296 = (hi : Int)) := f1
  clear f1
  go_enter Try.func84, Try.ntmps84
  go_wp2_with fail
  rw [F1.out]
  refine (H.out _).mono ?_
  rintro e w1 ⟨rfl, rfl⟩
  go_wp2
  go_ret
  exact ⟨rfl, rfl⟩

/-- The bit that is the generator of a level (of level 0, and of what is none: 1). -/
def gbit (l : Int) : Nat := if l = 1 then 2 else if l = 2 then 4 else if l = 3 then 16 else if l = 4 then 256 else if l = 5 then 65536 else if l = 6 then 4294967296 else 1
set_option maxHeartbeats 400000 in
theorem tx_any (l : Int) (n : Nat) (h : n < 2 ^ 64) (W : World) : Calls Try.prog 102 #[.int .i64 l, .int .u64 (n : Int)] W fun e w' => e = .returned (.int .u64 (px (gbit l) n : Nat)) ∧ w' = W := by
  by_cases hl : l = 1 ∨ l = 2 ∨ l = 3 ∨ l = 4 ∨ l = 5 ∨ l = 6
  · rcases hl with rfl | rfl | rfl | rfl | rfl | rfl
    · have H : Hid (∀ W, Calls Try.prog 97 #[.int .u64 (n : Int)] W fun e w' => e = .returned (.int .u64 (px 2 n : Nat)) ∧ w' = W) := t1_any n h
      rw [show gbit 1 = 2 from rfl]
      generalize px 2 n = r at *
      go_enter Try.func102, Try.ntmps102
      go_wp2_with (go_at_call 97; refine (H.out _).mono ?_; rintro e w1 ⟨rfl, rfl⟩)
      go_ret
      exact ⟨rfl, rfl⟩
    · have H : Hid (∀ W, Calls Try.prog 98 #[.int .u64 (n : Int)] W fun e w' => e = .returned (.int .u64 (px 4 n : Nat)) ∧ w' = W) := t2_any n h
      rw [show gbit 2 = 4 from rfl]
      generalize px 4 n = r at *
      go_enter Try.func102, Try.ntmps102
      go_wp2_with (go_at_call 98; refine (H.out _).mono ?_; rintro e w1 ⟨rfl, rfl⟩)
      go_ret
      exact ⟨rfl, rfl⟩
    · have H : Hid (∀ W, Calls Try.prog 99 #[.int .u64 (n : Int)] W fun e w' => e = .returned (.int .u64 (px 16 n : Nat)) ∧ w' = W) := t3_any n h
      rw [show gbit 3 = 16 from rfl]
      generalize px 16 n = r at *
      go_enter Try.func102, Try.ntmps102
      go_wp2_with (go_at_call 99; refine (H.out _).mono ?_; rintro e w1 ⟨rfl, rfl⟩)
      go_ret
      exact ⟨rfl, rfl⟩
    · have H : Hid (∀ W, Calls Try.prog 100 #[.int .u64 (n : Int)] W fun e w' => e = .returned (.int .u64 (px 256 n : Nat)) ∧ w' = W) := t4_any n h
      rw [show gbit 4 = 256 from rfl]
      generalize px 256 n = r at *
      go_enter Try.func102, Try.ntmps102
      go_wp2_with (go_at_call 100; refine (H.out _).mono ?_; rintro e w1 ⟨rfl, rfl⟩)
      go_ret
      exact ⟨rfl, rfl⟩
    · have H : Hid (∀ W, Calls Try.prog 95 #[.int .u64 (n : Int)] W fun e w' => e = .returned (.int .u64 (px 65536 n : Nat)) ∧ w' = W) := t5_any n h
      rw [show gbit 5 = 65536 from rfl]
      generalize px 65536 n = r at *
      go_enter Try.func102, Try.ntmps102
      go_wp2_with (go_at_call 95; refine (H.out _).mono ?_; rintro e w1 ⟨rfl, rfl⟩)
      go_ret
      exact ⟨rfl, rfl⟩
    · have H : Hid (∀ W, Calls Try.prog 84 #[.int .u64 (n : Int)] W fun e w' => e = .returned (.int .u64 (px 4294967296 n : Nat)) ∧ w' = W) := t6_any n h
      rw [show gbit 6 = 4294967296 from rfl]
      generalize px 4294967296 n = r at *
      go_enter Try.func102, Try.ntmps102
      go_wp2_with (go_at_call 84; refine (H.out _).mono ?_; rintro e w1 ⟨rfl, rfl⟩)
      go_ret
      exact ⟨rfl, rfl⟩
  · have e : px (gbit l) n = n := by
      rw [show gbit l = 1 by unfold gbit; repeat (rw [if_neg (by omega)])]
      rw [Tw.px_comm, Tw.px_one n h]
    rw [e]
    have q1 : (l == 1) = false := by simp; omega
    have q2 : (l == 2) = false := by simp; omega
    have q3 : (l == 3) = false := by simp; omega
    have q4 : (l == 4) = false := by simp; omega
    have q5 : (l == 5) = false := by simp; omega
    have q6 : (l == 6) = false := by simp; omega
    clear hl e
    go_enter Try.func102, Try.ntmps102
    go_wp2
    go_ret
    exact ⟨rfl, rfl⟩
end Go.Proofs.Ytnecjkdlmecgdaa

/- Contract of tower.squares over the seat's translation. -/
namespace Go.Proofs.Ytnecjkdlmecgdaa
open Go.RowKit
open Tw (px)

theorem i_sq (n m P L t : Nat) (hP : P = 2 ^ m) (hn : n < 2 ^ 64) (hL : L * P < 2 ^ 64) (ht : t &&& L = t) (hd : (L <<< m) &&& L = 0) :
    bits .xor .u64 (bits .or .u64 (IntKind.u64.wrap ((t : Int) * (P : Int))) (bits .and .u64 (n : Int) (L : Int))) ((n >>> m &&& L : Nat) : Int) = ((((t <<< m) ^^^ (n &&& L)) ^^^ (n >>> m &&& L) : Nat) : Int) := by
  have hp : 1 ≤ P := by rw [hP]; exact Nat.one_le_two_pow
  have hL1 : L < 2 ^ 64 := Nat.lt_of_le_of_lt (Nat.le_mul_of_pos_right L hp) hL
  have h1 : (n &&& L) < 2 ^ 64 := Nat.lt_of_le_of_lt Nat.and_le_right hL1
  have h2 : (n >>> m &&& L) < 2 ^ 64 := Nat.lt_of_le_of_lt Nat.and_le_right hL1
  have h0 : t ≤ L := by rw [← ht]; exact Nat.and_le_right
  have h3 : t * P < 2 ^ 64 := Nat.lt_of_le_of_lt (Nat.mul_le_mul_right P h0) hL
  have e : ((t * P : Nat) : Int) % 18446744073709551616 = ((t * P : Nat) : Int) := by omega
  have h4 : t * P ||| (n &&& L) < 2 ^ 64 := Nat.or_lt_two_pow h3 h1
  rw [u64_and_nat _ _ hn hL1, ← Int.natCast_mul, IntKind.wrap_u64, e, u64_or_nat _ _ h3 h1, u64_xor_nat _ _ h4 h2]
  rw [show t * P = t <<< m by rw [Nat.shiftLeft_eq, hP], Tw.lanes_or ht (Tw.and_and_self n L) hd]

set_option maxHeartbeats 1000000 in
theorem squares_any (n : Nat) (h : n < 2 ^ 64) (W : World) : Calls Try.prog 87 #[.int .u64 (n : Int)] W fun e w' => e = .returned (.int .u64 (px n n : Nat)) ∧ w' = W := by
  have hall := Tw.sq_all n h
  have m1 := (Tw.goX1 n h).2.2
  have a1 : bits .and .u64 ((n : Int) / 2) 6148914691236517205 = ((n >>> 1 &&& Tw.L1 : Nat) : Int) := i_hi n 1 2 Tw.L1 rfl h (by decide)
  have c1 : bits .xor .u64 (bits .or .u64 (IntKind.u64.wrap ((n >>> 1 &&& Tw.L1 : Nat) * 2)) (bits .and .u64 (n : Int) 6148914691236517205)) ((n >>> 1 &&& Tw.L1 : Nat) : Int) = (Tw.sq1 n : Nat) := i_sq n 1 2 Tw.L1 (n >>> 1 &&& Tw.L1) rfl h (by decide) m1 (by decide)
  have l1 : n >>> 1 &&& Tw.L1 < 2 ^ 64 := Nat.lt_of_le_of_lt Nat.and_le_right (by decide)
  have b1 := Tw.sq1_lt n h
  clear m1 l1
  generalize n >>> 1 &&& Tw.L1 = y1 at *
  generalize Tw.sq1 n = s1 at *
  have m2 := (Tw.goX2 s1 b1).2.2
  have a2 : bits .and .u64 ((s1 : Int) / 4) 3689348814741910323 = ((s1 >>> 2 &&& Tw.L2 : Nat) : Int) := i_hi s1 2 4 Tw.L2 rfl b1 (by decide)
  have c2 : bits .xor .u64 (bits .or .u64 (IntKind.u64.wrap ((px 2 (s1 >>> 2 &&& Tw.L2) : Nat) * 4)) (bits .and .u64 (s1 : Int) 3689348814741910323)) ((s1 >>> 2 &&& Tw.L2 : Nat) : Int) = (Tw.sq2 s1 : Nat) := i_sq s1 2 4 Tw.L2 (px 2 (s1 >>> 2 &&& Tw.L2)) rfl b1 (by decide) m2 (by decide)
  have l2 : s1 >>> 2 &&& Tw.L2 < 2 ^ 64 := Nat.lt_of_le_of_lt Nat.and_le_right (by decide)
  have b2 := Tw.sq2_lt s1 b1
  have H2 : Hid (∀ W, Calls Try.prog 97 #[.int .u64 ((s1 >>> 2 &&& Tw.L2 : Nat) : Int)] W fun e w' => e = .returned (.int .u64 (px 2 (s1 >>> 2 &&& Tw.L2) : Nat)) ∧ w' = W) := t1_any (s1 >>> 2 &&& Tw.L2) l2
  clear m2 l2
  generalize px 2 (s1 >>> 2 &&& Tw.L2) = q2 at *
  generalize s1 >>> 2 &&& Tw.L2 = y2 at *
  generalize Tw.sq2 s1 = s2 at *
  have m3 := (Tw.goX3 s2 b2).2.2
  have a3 : bits .and .u64 ((s2 : Int) / 16) 1085102592571150095 = ((s2 >>> 4 &&& Tw.L3 : Nat) : Int) := i_hi s2 4 16 Tw.L3 rfl b2 (by decide)
  have c3 : bits .xor .u64 (bits .or .u64 (IntKind.u64.wrap ((px 4 (s2 >>> 4 &&& Tw.L3) : Nat) * 16)) (bits .and .u64 (s2 : Int) 1085102592571150095)) ((s2 >>> 4 &&& Tw.L3 : Nat) : Int) = (Tw.sq3 s2 : Nat) := i_sq s2 4 16 Tw.L3 (px 4 (s2 >>> 4 &&& Tw.L3)) rfl b2 (by decide) m3 (by decide)
  have l3 : s2 >>> 4 &&& Tw.L3 < 2 ^ 64 := Nat.lt_of_le_of_lt Nat.and_le_right (by decide)
  have b3 := Tw.sq3_lt s2 b2
  have H3 : Hid (∀ W, Calls Try.prog 98 #[.int .u64 ((s2 >>> 4 &&& Tw.L3 : Nat) : Int)] W fun e w' => e = .returned (.int .u64 (px 4 (s2 >>> 4 &&& Tw.L3) : Nat)) ∧ w' = W) := t2_any (s2 >>> 4 &&& Tw.L3) l3
  clear m3 l3
  generalize px 4 (s2 >>> 4 &&& Tw.L3) = q3 at *
  generalize s2 >>> 4 &&& Tw.L3 = y3 at *
  generalize Tw.sq3 s2 = s3 at *
  have m4 := (Tw.goX4 s3 b3).2.2
  have a4 : bits .and .u64 ((s3 : Int) / 256) 71777214294589695 = ((s3 >>> 8 &&& Tw.L4 : Nat) : Int) := i_hi s3 8 256 Tw.L4 rfl b3 (by decide)
  have c4 : bits .xor .u64 (bits .or .u64 (IntKind.u64.wrap ((px 16 (s3 >>> 8 &&& Tw.L4) : Nat) * 256)) (bits .and .u64 (s3 : Int) 71777214294589695)) ((s3 >>> 8 &&& Tw.L4 : Nat) : Int) = (Tw.sq4 s3 : Nat) := i_sq s3 8 256 Tw.L4 (px 16 (s3 >>> 8 &&& Tw.L4)) rfl b3 (by decide) m4 (by decide)
  have l4 : s3 >>> 8 &&& Tw.L4 < 2 ^ 64 := Nat.lt_of_le_of_lt Nat.and_le_right (by decide)
  have b4 := Tw.sq4_lt s3 b3
  have H4 : Hid (∀ W, Calls Try.prog 99 #[.int .u64 ((s3 >>> 8 &&& Tw.L4 : Nat) : Int)] W fun e w' => e = .returned (.int .u64 (px 16 (s3 >>> 8 &&& Tw.L4) : Nat)) ∧ w' = W) := t3_any (s3 >>> 8 &&& Tw.L4) l4
  clear m4 l4
  generalize px 16 (s3 >>> 8 &&& Tw.L4) = q4 at *
  generalize s3 >>> 8 &&& Tw.L4 = y4 at *
  generalize Tw.sq4 s3 = s4 at *
  have m5 := (Tw.goX5 s4 b4).2.2
  have a5 : bits .and .u64 ((s4 : Int) / 65536) 281470681808895 = ((s4 >>> 16 &&& Tw.L5 : Nat) : Int) := i_hi s4 16 65536 Tw.L5 rfl b4 (by decide)
  have c5 : bits .xor .u64 (bits .or .u64 (IntKind.u64.wrap ((px 256 (s4 >>> 16 &&& Tw.L5) : Nat) * 65536)) (bits .and .u64 (s4 : Int) 281470681808895)) ((s4 >>> 16 &&& Tw.L5 : Nat) : Int) = (Tw.sq5 s4 : Nat) := i_sq s4 16 65536 Tw.L5 (px 256 (s4 >>> 16 &&& Tw.L5)) rfl b4 (by decide) m5 (by decide)
  have l5 : s4 >>> 16 &&& Tw.L5 < 2 ^ 64 := Nat.lt_of_le_of_lt Nat.and_le_right (by decide)
  have b5 := Tw.sq5_lt s4 b4
  have H5 : Hid (∀ W, Calls Try.prog 100 #[.int .u64 ((s4 >>> 16 &&& Tw.L5 : Nat) : Int)] W fun e w' => e = .returned (.int .u64 (px 256 (s4 >>> 16 &&& Tw.L5) : Nat)) ∧ w' = W) := t4_any (s4 >>> 16 &&& Tw.L5) l5
  clear m5 l5
  generalize px 256 (s4 >>> 16 &&& Tw.L5) = q5 at *
  generalize s4 >>> 16 &&& Tw.L5 = y5 at *
  generalize Tw.sq5 s4 = s5 at *
  have m6 := (Tw.goX6 s5 b5).2.2
  have a6 := hi6 s5 b5
  have c6 : bits .xor .u64 (bits .or .u64 (IntKind.u64.wrap ((px 65536 (s5 >>> 32 &&& Tw.L6) : Nat) * 4294967296)) (bits .and .u64 (s5 : Int) 4294967295)) ((s5 >>> 32 &&& Tw.L6 : Nat) : Int) = (Tw.sq6 s5 : Nat) := i_sq s5 32 4294967296 Tw.L6 (px 65536 (s5 >>> 32 &&& Tw.L6)) rfl b5 (by decide) m6 (by decide)
  have l6 : s5 >>> 32 &&& Tw.L6 < 2 ^ 64 := Nat.lt_of_le_of_lt Nat.and_le_right (by decide)
  have H6 : Hid (∀ W, Calls Try.prog 95 #[.int .u64 ((s5 >>> 32 &&& Tw.L6 : Nat) : Int)] W fun e w' => e = .returned (.int .u64 (px 65536 (s5 >>> 32 &&& Tw.L6) : Nat)) ∧ w' = W) := t5_any (s5 >>> 32 &&& Tw.L6) l6
  clear m6 l6
  generalize px 65536 (s5 >>> 32 &&& Tw.L6) = q6 at *
  generalize s5 >>> 32 &&& Tw.L6 = y6 at *
  rw [hall] at c6
  clear hall
  generalize px n n = r at *
  have A6 : Hid (((s5 : Nat) : Int) / 4294967296 = (y6 : Int)) := a6
  clear a6
  go_enter Try.func87, Try.ntmps87
  go_wp2_with (first | (go_at_call 97; refine (H2.out _).mono ?_; rintro e w1 ⟨rfl, rfl⟩) | (go_at_call 98; refine (H3.out _).mono ?_; rintro e w1 ⟨rfl, rfl⟩) | (go_at_call 99; refine (H4.out _).mono ?_; rintro e w1 ⟨rfl, rfl⟩) | (go_at_call 100; refine (H5.out _).mono ?_; rintro e w1 ⟨rfl, rfl⟩))
  rw [A6.out]
  refine (H6.out _).mono ?_
  rintro e w1 ⟨rfl, rfl⟩
  go_wp2
  go_ret
  exact ⟨rfl, rfl⟩
end Go.Proofs.Ytnecjkdlmecgdaa

/- Contract of tower.multiples over the seat's translation: a word times each element of level 2. -/
namespace Go.Proofs.Ytnecjkdlmecgdaa
open Go.RowKit
open Tw (px)

theorem x_px (a b n : Nat) : bits .xor .u64 ((px a n : Nat) : Int) ((px b n : Nat) : Int) = ((px (a ^^^ b) n : Nat) : Int) := by
  rw [u64_xor_nat _ _ (Tw.px_lt a n) (Tw.px_lt b n), Tw.px_comm a, Tw.px_comm b, Tw.px_comm (a ^^^ b), Tw.px_lin n a b]
theorem x_0 (a : Nat) (h : a < 2 ^ 64) : bits .xor .u64 0 (a : Int) = (a : Int) := by
  have := u64_xor_nat 0 a (by decide) h
  rw [Nat.zero_xor] at this
  exact this

/-- What stands at a place of the table when k places have been filled. -/
def mc (p : Nat → Nat) (k i : Nat) : Nat := if i < k ∨ i = 1 ∨ i = 2 ∨ i = 4 ∨ i = 8 then p i else 0
def marr (p : Nat → Nat) (k : Nat) : Array Value := ((List.range 16).map fun i => Value.int .u64 ((mc p k i : Nat) : Int)).toArray
theorem marr_get (p : Nat → Nat) (k i : Nat) (h : i < 16) : (marr p k)[i]? = some (.int .u64 ((mc p k i : Nat) : Int)) := by
  unfold marr; simp [h]
theorem marr_set (p : Nat → Nat) (k : Nat) : (marr p k).setIfInBounds k (.int .u64 ((p k : Nat) : Int)) = marr p (k + 1) := by
  apply Array.ext_getElem?
  intro i
  rw [Array.getElem?_setIfInBounds]
  by_cases hi : i < 16
  · by_cases hk : k = i
    · subst hk
      rw [if_pos rfl, marr_get p (k + 1) k hi]
      have : mc p (k + 1) k = p k := by unfold mc; rw [if_pos (by omega)]
      rw [this]
      simp [marr, hi]
    · rw [if_neg hk, marr_get p k i hi, marr_get p (k + 1) i hi]
      have : mc p (k + 1) i = mc p k i := by unfold mc; congr 1; apply propext; omega
      rw [this]
  · have e1 : (marr p k)[i]? = none := by unfold marr; simp; omega
    have e2 : (marr p (k + 1))[i]? = none := by unfold marr; simp; omega
    by_cases hk : k = i
    · subst hk
      have : ¬ k < (marr p k).size := by unfold marr; simp; omega
      rw [if_pos rfl, if_neg this, e2]
    · rw [if_neg hk, e1, e2]
/-- The lowest bit of a number below 16. -/
def lowb (k : Nat) : Nat := if k % 2 = 1 then 1 else if k % 4 = 2 then 2 else if k % 8 = 4 then 4 else if k % 16 = 8 then 8 else 0
theorem low_and (k : Nat) (h : k < 16) : bits .and .i64 (k : Int) (-(k : Int)) = (lowb k : Int) := by
  have all : ∀ j : Fin 16, bits .and .i64 (j.val : Int) (-(j.val : Int)) = (lowb j.val : Int) := by decide +kernel
  exact all ⟨k, h⟩
theorem low_xor (k : Nat) (h : k < 16) : lowb k ≤ k ∧ (k - lowb k) ^^^ lowb k = k ∧ (k - lowb k < k ∨ k - lowb k = 0 ∧ (k = 0 ∨ k = 1 ∨ k = 2 ∨ k = 4 ∨ k = 8)) ∧ (lowb k < k ∨ lowb k = k ∧ (k = 0 ∨ k = 1 ∨ k = 2 ∨ k = 4 ∨ k = 8)) := by
  have all : ∀ j : Fin 16, lowb j.val ≤ j.val ∧ (j.val - lowb j.val) ^^^ lowb j.val = j.val ∧ (j.val - lowb j.val < j.val ∨ j.val - lowb j.val = 0 ∧ (j.val = 0 ∨ j.val = 1 ∨ j.val = 2 ∨ j.val = 4 ∨ j.val = 8)) ∧ (lowb j.val < j.val ∨ lowb j.val = j.val ∧ (j.val = 0 ∨ j.val = 1 ∨ j.val = 2 ∨ j.val = 4 ∨ j.val = 8)) := by decide +kernel
  exact all ⟨k, h⟩

theorem set_top (X : World) (A : Array Value) (T : TypeId) (n k : Nat) (v : Value) (b : Nat) (hb : b = X.heap.size) : ((X.alloc (.cells A T)).drewN n).setCell ⟨b, k, none⟩ v = (X.alloc (.cells (A.setIfInBounds k v) T)).drewN n := by
  have e : ((X.alloc (.cells A T)).drewN n).setCell ⟨b, k, none⟩ v = ((X.alloc (.cells A T)).setCell ⟨b, k, none⟩ v).drewN n := rfl
  rw [e, World.setCell_alloc_at A T b k v hb]
theorem marr_full (p : Nat → Nat) : marr p 16 = #[.int .u64 ((p 0 : Nat) : Int), .int .u64 ((p 1 : Nat) : Int), .int .u64 ((p 2 : Nat) : Int), .int .u64 ((p 3 : Nat) : Int), .int .u64 ((p 4 : Nat) : Int), .int .u64 ((p 5 : Nat) : Int), .int .u64 ((p 6 : Nat) : Int), .int .u64 ((p 7 : Nat) : Int), .int .u64 ((p 8 : Nat) : Int), .int .u64 ((p 9 : Nat) : Int), .int .u64 ((p 10 : Nat) : Int), .int .u64 ((p 11 : Nat) : Int), .int .u64 ((p 12 : Nat) : Int), .int .u64 ((p 13 : Nat) : Int), .int .u64 ((p 14 : Nat) : Int), .int .u64 ((p 15 : Nat) : Int)] := by
  unfold marr mc
  simp [List.range_succ]

set_option maxHeartbeats 2000000 in
set_option maxRecDepth 100000 in
theorem mult_core (p : Nat → Nat) (H1 : Hid (∀ W, Calls Try.prog 97 #[.int .u64 (p 1 : Int)] W fun e w' => e = .returned (.int .u64 (p 2 : Nat)) ∧ w' = W)) (H2 : Hid (∀ W, Calls Try.prog 98 #[.int .u64 (p 1 : Int)] W fun e w' => e = .returned (.int .u64 (p 4 : Nat)) ∧ w' = W)) (H3 : Hid (∀ W, Calls Try.prog 98 #[.int .u64 (p 2 : Int)] W fun e w' => e = .returned (.int .u64 (p 8 : Nat)) ∧ w' = W))
    (hx : ∀ a b, bits .xor .u64 (p a : Int) (p b : Int) = (p (a ^^^ b) : Int)) (h0 : p 0 = 0) (W : World) :
    Calls Try.prog 93 #[.int .u64 (p 1 : Int)] W fun e w' => e = .returned (.agg #[.int .u64 ((p 0 : Nat) : Int), .int .u64 ((p 1 : Nat) : Int), .int .u64 ((p 2 : Nat) : Int), .int .u64 ((p 3 : Nat) : Int), .int .u64 ((p 4 : Nat) : Int), .int .u64 ((p 5 : Nat) : Int), .int .u64 ((p 6 : Nat) : Int), .int .u64 ((p 7 : Nat) : Int), .int .u64 ((p 8 : Nat) : Int), .int .u64 ((p 9 : Nat) : Int), .int .u64 ((p 10 : Nat) : Int), .int .u64 ((p 11 : Nat) : Int), .int .u64 ((p 12 : Nat) : Int), .int .u64 ((p 13 : Nat) : Int), .int .u64 ((p 14 : Nat) : Int), .int .u64 ((p 15 : Nat) : Int)]) ∧ Below W.heap.size W w' := by
  have HX : Hid (∀ a b, bits .xor .u64 (p a : Int) (p b : Int) = (p (a ^^^ b) : Int)) := hx
  have H0 : Hid (p 0 = 0) := h0
  clear hx h0
  go_enter Try.func93, Try.ntmps93
  go_wp2_with fail
  refine (H1.out _).mono ?_
  rintro e w1 ⟨rfl, rfl⟩
  go_wp2_with fail
  refine (H2.out _).mono ?_
  rintro e w1 ⟨rfl, rfl⟩
  go_wp2_with fail
  refine (H3.out _).mono ?_
  rintro e w1 ⟨rfl, rfl⟩
  go_wp2
  clear H1 H2 H3
  go_loopw [18] (fun v wr => ∃ k m : Nat, k ≤ 16 ∧ v = .int .i64 k ∧ wr = ((W.alloc (Obj.cells #[.int .u64 0, .int .u64 0, .int .u64 0, .int .u64 0, .int .u64 0, .int .u64 0, .int .u64 0, .int .u64 0, .int .u64 0, .int .u64 0, .int .u64 0, .int .u64 0, .int .u64 0, .int .u64 0, .int .u64 0, .int .u64 0] 123)).alloc (Obj.cells (marr p k) 123)).drewN m) (fun v _ => 16 - (intOf v).toNat)
  case atStart => exact ⟨0, 0, by omega, rfl, rfl⟩
  case round =>
    obtain ⟨k, m, hk, rfl, rfl⟩ := hrel
    by_cases hlt : k < 16
    · obtain ⟨l1, l2, l3, l4⟩ := low_xor k hlt
      have f1 := low_and k hlt
      have f2 : (k : Int) - (lowb k : Int) = ((k - lowb k : Nat) : Int) := by omega
      have hm1 : mc p k (k - lowb k) = p (k - lowb k) := by
        unfold mc
        by_cases hq : k - lowb k < k ∨ k - lowb k = 1 ∨ k - lowb k = 2 ∨ k - lowb k = 4 ∨ k - lowb k = 8
        · rw [if_pos hq]
        · rw [if_neg hq, show k - lowb k = 0 by omega]; exact H0.out.symm
      have hm2 : mc p k (lowb k) = p (lowb k) := by
        unfold mc
        by_cases hq : lowb k < k ∨ lowb k = 1 ∨ lowb k = 2 ∨ lowb k = 4 ∨ lowb k = 8
        · rw [if_pos hq]
        · rw [if_neg hq, show lowb k = 0 by omega]; exact H0.out.symm
      have c1 := marr_get p k (k - lowb k) (by omega)
      have c2 := marr_get p k (lowb k) (by omega)
      rw [hm1] at c1
      rw [hm2] at c2
      have hxx := HX.out (k - lowb k) (lowb k)
      rw [l2] at hxx
      have HS : Hid ((marr p k).setIfInBounds k (.int .u64 ((p k : Nat) : Int)) = marr p (k + 1)) := marr_set p k
      have hsz : (marr p k).size = 16 := by simp [marr]
      have la : k - lowb k < 16 := by omega
      have lb : lowb k < 16 := by omega
      clear l1 l2 l3 l4 hm1 hm2
      generalize k - lowb k = a at *
      generalize lowb k = b at *
      generalize p a = pa at *
      generalize p b = pb at *
      generalize p k = pk at *
      generalize hB : marr p (k + 1) = B at *
      replace hB := hB.symm
      generalize marr p k = A at *
      have HS0 : Hid (B = marr p (k + 1)) := hB
      clear hB
      have d1 : ∀ h : a < A.size, A[a]'h = .int .u64 (pa : Int) := fun h => by simpa [Array.getElem?_eq_getElem h] using c1
      have d2 : ∀ h : b < A.size, A[b]'h = .int .u64 (pb : Int) := fun h => by simpa [Array.getElem?_eq_getElem h] using c2
      clear c1 c2
      go_wp2
      go_region
      go_wp2
      refine ⟨⟨k + 1, m + 1, by omega, by go_num, ?_⟩, by simp [intOf]; omega⟩
      rw [← HS0.out, ← HS.out]
      exact set_top _ A _ (m + 1) k _ _ (by simp)
    · have hke : k = 16 := by omega
      subst hke
      rw [marr_full]
      clear HX H0 hk hlt
      have HB : Hid (Below W.heap.size W (((W.alloc (Obj.cells #[.int .u64 0, .int .u64 0, .int .u64 0, .int .u64 0, .int .u64 0, .int .u64 0, .int .u64 0, .int .u64 0, .int .u64 0, .int .u64 0, .int .u64 0, .int .u64 0, .int .u64 0, .int .u64 0, .int .u64 0, .int .u64 0] 123)).alloc (Obj.cells #[.int .u64 ((p 0 : Nat) : Int), .int .u64 ((p 1 : Nat) : Int), .int .u64 ((p 2 : Nat) : Int), .int .u64 ((p 3 : Nat) : Int), .int .u64 ((p 4 : Nat) : Int), .int .u64 ((p 5 : Nat) : Int), .int .u64 ((p 6 : Nat) : Int), .int .u64 ((p 7 : Nat) : Int), .int .u64 ((p 8 : Nat) : Int), .int .u64 ((p 9 : Nat) : Int), .int .u64 ((p 10 : Nat) : Int), .int .u64 ((p 11 : Nat) : Int), .int .u64 ((p 12 : Nat) : Int), .int .u64 ((p 13 : Nat) : Int), .int .u64 ((p 14 : Nat) : Int), .int .u64 ((p 15 : Nat) : Int)] 123)).drewN m)) := below_drewN (((Below.refl _ _).alloc (Nat.le_refl _) _).alloc (by simp) _) _
      go_wp2
      refine bodyPost_ret (v := .agg #[.int .u64 ((p 0 : Nat) : Int), .int .u64 ((p 1 : Nat) : Int), .int .u64 ((p 2 : Nat) : Int), .int .u64 ((p 3 : Nat) : Int), .int .u64 ((p 4 : Nat) : Int), .int .u64 ((p 5 : Nat) : Int), .int .u64 ((p 6 : Nat) : Int), .int .u64 ((p 7 : Nat) : Int), .int .u64 ((p 8 : Nat) : Int), .int .u64 ((p 9 : Nat) : Int), .int .u64 ((p 10 : Nat) : Int), .int .u64 ((p 11 : Nat) : Int), .int .u64 ((p 12 : Nat) : Int), .int .u64 ((p 13 : Nat) : Int), .int .u64 ((p 14 : Nat) : Int), .int .u64 ((p 15 : Nat) : Int)]) (by simp [results, Try.results93, go_sem]) rfl ⟨rfl, ?_⟩
      have hB := HB.out
      repeat' (first | (with_reducible exact hB) | (with_reducible refine Below.setCell ?_ ?_ _) | (with_reducible exact Nat.le_refl _))

theorem mult_any (n : Nat) (h : n < 2 ^ 64) (W : World) : Calls Try.prog 93 #[.int .u64 (n : Int)] W fun e w' => e = .returned (.agg #[.int .u64 ((px 0 n : Nat) : Int), .int .u64 ((px 1 n : Nat) : Int), .int .u64 ((px 2 n : Nat) : Int), .int .u64 ((px 3 n : Nat) : Int), .int .u64 ((px 4 n : Nat) : Int), .int .u64 ((px 5 n : Nat) : Int), .int .u64 ((px 6 n : Nat) : Int), .int .u64 ((px 7 n : Nat) : Int), .int .u64 ((px 8 n : Nat) : Int), .int .u64 ((px 9 n : Nat) : Int), .int .u64 ((px 10 n : Nat) : Int), .int .u64 ((px 11 n : Nat) : Int), .int .u64 ((px 12 n : Nat) : Int), .int .u64 ((px 13 n : Nat) : Int), .int .u64 ((px 14 n : Nat) : Int), .int .u64 ((px 15 n : Nat) : Int)]) ∧ Below W.heap.size W w' := by
  have e1 : px 1 n = n := by rw [Tw.px_comm, Tw.px_one n h]
  have e8 : px 4 (px 2 n) = px 8 n := by rw [← Tw.px_assoc, show px 4 2 = 8 by decide +kernel]
  have c := mult_core (fun i => px i n) (fun W => by show Calls Try.prog 97 #[.int .u64 (px 1 n : Nat)] W _; rw [e1]; exact t1_any n h W) (fun W => by show Calls Try.prog 98 #[.int .u64 (px 1 n : Nat)] W _; rw [e1]; exact t2_any n h W) (fun W => by show Calls Try.prog 98 #[.int .u64 (px 2 n : Nat)] W fun e w' => e = .returned (.int .u64 (px 8 n : Nat)) ∧ w' = W; rw [← e8]; exact t2_any (px 2 n) (Tw.px_lt _ _) W) (fun a b => x_px a b n) (by rw [Tw.px_comm]; exact Tw.px_zero n) W
  have e2 : #[Value.int .u64 ((px 1 n : Nat) : Int)] = #[Value.int .u64 (n : Int)] := by rw [e1]
  rw [← e2]
  exact c
end Go.Proofs.Ytnecjkdlmecgdaa
