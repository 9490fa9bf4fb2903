/- Contract of tower.squares over the seat's translation. -/
import Derived.Test.YtakaconhoodigaaTwA
namespace Go.Proofs.Ytakaconhoodigaa
open Go.RowKit
open Tw (px)

theorem i_sq (n m P L t : Nat) (hP : P = 2 ^ m) (hn : n < 2 ^ 64) (hL : L * P < 2 ^ 64) (ht : t &&& L = t) (hd : (L <<< m) &&& L = 0) :
    bits .xor .u64 (bits .or .u64 (IntKind.u64.wrap ((t : Int) * (P : Int))) (bits .and .u64 (n : Int) (L : Int))) ((n >>> m &&& L : Nat) : Int) = ((((t <<< m) ^^^ (n &&& L)) ^^^ (n >>> m &&& L) : Nat) : Int) := by
  have hp : 1 ≤ P := by rw [hP]; exact Nat.one_le_two_pow
  have hL1 : L < 2 ^ 64 := Nat.lt_of_le_of_lt (Nat.le_mul_of_pos_right L hp) hL
  have h1 : (n &&& L) < 2 ^ 64 := Nat.lt_of_le_of_lt Nat.and_le_right hL1
  have h2 : (n >>> m &&& L) < 2 ^ 64 := Nat.lt_of_le_of_lt Nat.and_le_right hL1
  have h0 : t ≤ L := by rw [← ht]; exact Nat.and_le_right
  have h3 : t * P < 2 ^ 64 := Nat.lt_of_le_of_lt (Nat.mul_le_mul_right P h0) hL
  have e : ((t * P : Nat) : Int) % 18446744073709551616 = ((t * P : Nat) : Int) := by omega
  have h4 : t * P ||| (n &&& L) < 2 ^ 64 := Nat.or_lt_two_pow h3 h1
  rw [u64_and_nat _ _ hn hL1, ← Int.natCast_mul, IntKind.wrap_u64, e, u64_or_nat _ _ h3 h1, u64_xor_nat _ _ h4 h2]
  rw [show t * P = t <<< m by rw [Nat.shiftLeft_eq, hP], Tw.lanes_or ht (Tw.and_and_self n L) hd]

set_option maxHeartbeats 1000000 in
theorem squares_any (n : Nat) (h : n < 2 ^ 64) (W : World) : Calls Try.prog 63 #[.int .u64 (n : Int)] W fun e w' => e = .returned (.int .u64 (px n n : Nat)) ∧ w' = W := by
  have hall := Tw.sq_all n h
  have m1 := (Tw.goX1 n h).2.2
  have a1 : bits .and .u64 ((n : Int) / 2) 6148914691236517205 = ((n >>> 1 &&& Tw.L1 : Nat) : Int) := i_hi n 1 2 Tw.L1 rfl h (by decide)
  have c1 : bits .xor .u64 (bits .or .u64 (IntKind.u64.wrap ((n >>> 1 &&& Tw.L1 : Nat) * 2)) (bits .and .u64 (n : Int) 6148914691236517205)) ((n >>> 1 &&& Tw.L1 : Nat) : Int) = (Tw.sq1 n : Nat) := i_sq n 1 2 Tw.L1 (n >>> 1 &&& Tw.L1) rfl h (by decide) m1 (by decide)
  have l1 : n >>> 1 &&& Tw.L1 < 2 ^ 64 := Nat.lt_of_le_of_lt Nat.and_le_right (by decide)
  have b1 := Tw.sq1_lt n h
  clear m1 l1
  generalize n >>> 1 &&& Tw.L1 = y1 at *
  generalize Tw.sq1 n = s1 at *
  have m2 := (Tw.goX2 s1 b1).2.2
  have a2 : bits .and .u64 ((s1 : Int) / 4) 3689348814741910323 = ((s1 >>> 2 &&& Tw.L2 : Nat) : Int) := i_hi s1 2 4 Tw.L2 rfl b1 (by decide)
  have c2 : bits .xor .u64 (bits .or .u64 (IntKind.u64.wrap ((px 2 (s1 >>> 2 &&& Tw.L2) : Nat) * 4)) (bits .and .u64 (s1 : Int) 3689348814741910323)) ((s1 >>> 2 &&& Tw.L2 : Nat) : Int) = (Tw.sq2 s1 : Nat) := i_sq s1 2 4 Tw.L2 (px 2 (s1 >>> 2 &&& Tw.L2)) rfl b1 (by decide) m2 (by decide)
  have l2 : s1 >>> 2 &&& Tw.L2 < 2 ^ 64 := Nat.lt_of_le_of_lt Nat.and_le_right (by decide)
  have b2 := Tw.sq2_lt s1 b1
  have H2 : Hid (∀ W, Calls Try.prog 67 #[.int .u64 ((s1 >>> 2 &&& Tw.L2 : Nat) : Int)] W fun e w' => e = .returned (.int .u64 (px 2 (s1 >>> 2 &&& Tw.L2) : Nat)) ∧ w' = W) := t1_any (s1 >>> 2 &&& Tw.L2) l2
  clear m2 l2
  generalize px 2 (s1 >>> 2 &&& Tw.L2) = q2 at *
  generalize s1 >>> 2 &&& Tw.L2 = y2 at *
  generalize Tw.sq2 s1 = s2 at *
  have m3 := (Tw.goX3 s2 b2).2.2
  have a3 : bits .and .u64 ((s2 : Int) / 16) 1085102592571150095 = ((s2 >>> 4 &&& Tw.L3 : Nat) : Int) := i_hi s2 4 16 Tw.L3 rfl b2 (by decide)
  have c3 : bits .xor .u64 (bits .or .u64 (IntKind.u64.wrap ((px 4 (s2 >>> 4 &&& Tw.L3) : Nat) * 16)) (bits .and .u64 (s2 : Int) 1085102592571150095)) ((s2 >>> 4 &&& Tw.L3 : Nat) : Int) = (Tw.sq3 s2 : Nat) := i_sq s2 4 16 Tw.L3 (px 4 (s2 >>> 4 &&& Tw.L3)) rfl b2 (by decide) m3 (by decide)
  have l3 : s2 >>> 4 &&& Tw.L3 < 2 ^ 64 := Nat.lt_of_le_of_lt Nat.and_le_right (by decide)
  have b3 := Tw.sq3_lt s2 b2
  have H3 : Hid (∀ W, Calls Try.prog 68 #[.int .u64 ((s2 >>> 4 &&& Tw.L3 : Nat) : Int)] W fun e w' => e = .returned (.int .u64 (px 4 (s2 >>> 4 &&& Tw.L3) : Nat)) ∧ w' = W) := t2_any (s2 >>> 4 &&& Tw.L3) l3
  clear m3 l3
  generalize px 4 (s2 >>> 4 &&& Tw.L3) = q3 at *
  generalize s2 >>> 4 &&& Tw.L3 = y3 at *
  generalize Tw.sq3 s2 = s3 at *
  have m4 := (Tw.goX4 s3 b3).2.2
  have a4 : bits .and .u64 ((s3 : Int) / 256) 71777214294589695 = ((s3 >>> 8 &&& Tw.L4 : Nat) : Int) := i_hi s3 8 256 Tw.L4 rfl b3 (by decide)
  have c4 : bits .xor .u64 (bits .or .u64 (IntKind.u64.wrap ((px 16 (s3 >>> 8 &&& Tw.L4) : Nat) * 256)) (bits .and .u64 (s3 : Int) 71777214294589695)) ((s3 >>> 8 &&& Tw.L4 : Nat) : Int) = (Tw.sq4 s3 : Nat) := i_sq s3 8 256 Tw.L4 (px 16 (s3 >>> 8 &&& Tw.L4)) rfl b3 (by decide) m4 (by decide)
  have l4 : s3 >>> 8 &&& Tw.L4 < 2 ^ 64 := Nat.lt_of_le_of_lt Nat.and_le_right (by decide)
  have b4 := Tw.sq4_lt s3 b3
  have H4 : Hid (∀ W, Calls Try.prog 69 #[.int .u64 ((s3 >>> 8 &&& Tw.L4 : Nat) : Int)] W fun e w' => e = .returned (.int .u64 (px 16 (s3 >>> 8 &&& Tw.L4) : Nat)) ∧ w' = W) := t3_any (s3 >>> 8 &&& Tw.L4) l4
  clear m4 l4
  generalize px 16 (s3 >>> 8 &&& Tw.L4) = q4 at *
  generalize s3 >>> 8 &&& Tw.L4 = y4 at *
  generalize Tw.sq4 s3 = s4 at *
  have m5 := (Tw.goX5 s4 b4).2.2
  have a5 : bits .and .u64 ((s4 : Int) / 65536) 281470681808895 = ((s4 >>> 16 &&& Tw.L5 : Nat) : Int) := i_hi s4 16 65536 Tw.L5 rfl b4 (by decide)
  have c5 : bits .xor .u64 (bits .or .u64 (IntKind.u64.wrap ((px 256 (s4 >>> 16 &&& Tw.L5) : Nat) * 65536)) (bits .and .u64 (s4 : Int) 281470681808895)) ((s4 >>> 16 &&& Tw.L5 : Nat) : Int) = (Tw.sq5 s4 : Nat) := i_sq s4 16 65536 Tw.L5 (px 256 (s4 >>> 16 &&& Tw.L5)) rfl b4 (by decide) m5 (by decide)
  have l5 : s4 >>> 16 &&& Tw.L5 < 2 ^ 64 := Nat.lt_of_le_of_lt Nat.and_le_right (by decide)
  have b5 := Tw.sq5_lt s4 b4
  have H5 : Hid (∀ W, Calls Try.prog 71 #[.int .u64 ((s4 >>> 16 &&& Tw.L5 : Nat) : Int)] W fun e w' => e = .returned (.int .u64 (px 256 (s4 >>> 16 &&& Tw.L5) : Nat)) ∧ w' = W) := t4_any (s4 >>> 16 &&& Tw.L5) l5
  clear m5 l5
  generalize px 256 (s4 >>> 16 &&& Tw.L5) = q5 at *
  generalize s4 >>> 16 &&& Tw.L5 = y5 at *
  generalize Tw.sq5 s4 = s5 at *
  have m6 := (Tw.goX6 s5 b5).2.2
  have a6 := hi6 s5 b5
  have c6 : bits .xor .u64 (bits .or .u64 (IntKind.u64.wrap ((px 65536 (s5 >>> 32 &&& Tw.L6) : Nat) * 4294967296)) (bits .and .u64 (s5 : Int) 4294967295)) ((s5 >>> 32 &&& Tw.L6 : Nat) : Int) = (Tw.sq6 s5 : Nat) := i_sq s5 32 4294967296 Tw.L6 (px 65536 (s5 >>> 32 &&& Tw.L6)) rfl b5 (by decide) m6 (by decide)
  have l6 : s5 >>> 32 &&& Tw.L6 < 2 ^ 64 := Nat.lt_of_le_of_lt Nat.and_le_right (by decide)
  have H6 : Hid (∀ W, Calls Try.prog 62 #[.int .u64 ((s5 >>> 32 &&& Tw.L6 : Nat) : Int)] W fun e w' => e = .returned (.int .u64 (px 65536 (s5 >>> 32 &&& Tw.L6) : Nat)) ∧ w' = W) := t5_any (s5 >>> 32 &&& Tw.L6) l6
  clear m6 l6
  generalize px 65536 (s5 >>> 32 &&& Tw.L6) = q6 at *
  generalize s5 >>> 32 &&& Tw.L6 = y6 at *
  rw [hall] at c6
  clear hall
  generalize px n n = r at *
  have A6 : Hid (((s5 : Nat) : Int) / 4294967296 = (y6 : Int)) := a6
  clear a6
  go_enter Try.func63, Try.ntmps63
  go_wp2_with (first | (go_at_call 67; refine (H2.out _).mono ?_; rintro e w1 ⟨rfl, rfl⟩) | (go_at_call 68; refine (H3.out _).mono ?_; rintro e w1 ⟨rfl, rfl⟩) | (go_at_call 69; refine (H4.out _).mono ?_; rintro e w1 ⟨rfl, rfl⟩) | (go_at_call 71; refine (H5.out _).mono ?_; rintro e w1 ⟨rfl, rfl⟩))
  rw [A6.out]
  refine (H6.out _).mono ?_
  rintro e w1 ⟨rfl, rfl⟩
  go_wp2
  go_ret
  exact ⟨rfl, rfl⟩
end Go.Proofs.Ytakaconhoodigaa
