/- The contract of steeplelaw33.of over the seat's translation. -/
import Derived.Test.YtakaconhoodigaaFrK
namespace Go.Proofs.Ytakaconhoodigaa
open Go.RowKit
open Cb
open Tw (pm)

theorem and_maskF (al m : Nat) (h : al < 2 ^ 64) (hm : m ≤ 32) : bits .and .u64 (al : Int) ((2 ^ m - 1 : Nat) : Int) = ((al % 2 ^ m : Nat) : Int) := by
  have hp : 2 ^ m ≤ 2 ^ 32 := Nat.pow_le_pow_right (by decide) hm
  have h1 : (BitVec.ofInt 64 (al : Int)).toNat = al := by
    rw [BitVec.ofInt_natCast, BitVec.toNat_ofNat]; exact Nat.mod_eq_of_lt (by omega)
  have h2 : (BitVec.ofInt 64 ((2 ^ m - 1 : Nat) : Int)).toNat = 2 ^ m - 1 := by
    rw [BitVec.ofInt_natCast, BitVec.toNat_ofNat]; exact Nat.mod_eq_of_lt (by omega)
  show IntKind.u64.wrap ((BitVec.ofInt 64 (al : Int) &&& BitVec.ofInt 64 ((2 ^ m - 1 : Nat) : Int)).toNat : Int) = _
  rw [BitVec.toNat_and, h1, h2, Nat.and_two_pow_sub_one_eq_mod]
  have : al % 2 ^ m < 2 ^ m := Nat.mod_lt _ (Nat.two_pow_pos m)
  generalize al % 2 ^ m = x at *
  show ((x : Int) % 18446744073709551616) = _
  omega
set_option maxHeartbeats 8000000 in
set_option maxRecDepth 100000 in
theorem of33 (k : Nat) (hk : k < 8) (a : Nat × Nat) (la : lt2 a) : Ret 25 #[.int .i64 (k : Int), .agg #[.int .u64 (a.1 : Int), .int .u64 (a.2 : Int)]] (.agg #[.int .u64 ((cutE k a).1 : Int), .int .u64 ((cutE k a).2 : Int)]) := by
  intro W
  have m0 : bits .and .u64 (a.2 : Int) 1 = ((a.2 % 2 : Nat) : Int) := and_maskF a.2 1 la.2 (by decide)
  have m1 : bits .and .u64 (a.2 : Int) 3 = ((a.2 % 4 : Nat) : Int) := and_maskF a.2 2 la.2 (by decide)
  have m2 : bits .and .u64 (a.2 : Int) 15 = ((a.2 % 16 : Nat) : Int) := and_maskF a.2 4 la.2 (by decide)
  have m3 : bits .and .u64 (a.2 : Int) 255 = ((a.2 % 256 : Nat) : Int) := and_maskF a.2 8 la.2 (by decide)
  have m4 : bits .and .u64 (a.2 : Int) 65535 = ((a.2 % 65536 : Nat) : Int) := and_maskF a.2 16 la.2 (by decide)
  have m5 : bits .and .u64 (a.2 : Int) 4294967295 = ((a.2 % 4294967296 : Nat) : Int) := and_maskF a.2 32 la.2 (by decide)
  rcases (show k = 0 ∨ k = 1 ∨ k = 2 ∨ k = 3 ∨ k = 4 ∨ k = 5 ∨ k = 6 ∨ k = 7 by omega) with rfl | rfl | rfl | rfl | rfl | rfl | rfl | rfl
  all_goals
    go_enter Try.func25, Try.ntmps25
    go_wp2
    refine bodyPost_ret (v := .agg #[.int .u64 ((cutE _ a).1 : Int), .int .u64 ((cutE _ a).2 : Int)]) (by simp [results, Try.results25, go_sem, cutE]) rfl ⟨rfl, ?_⟩
    exact ((Below.refl _ _).alloc (Nat.le_refl _) _).alloc (by simp) _
/-- A level by a remainder. -/
theorem cut_mod (x : Int) (n : Nat) (hn : n < 8) : ∃ (t : Int) (m : Nat), m ≤ n ∧ x.tmod ((n : Int) + 1) = t ∧ -8 ≤ t ∧ t ≤ 8 ∧ (t + (n : Int) + 1).tmod ((n : Int) + 1) = (m : Int) := by
  have h1 : -((n : Int) + 1) < x.tmod ((n : Int) + 1) := by
    have := Int.lt_tmod_of_pos x (show (0 : Int) < (n : Int) + 1 by omega); omega
  have h2 : x.tmod ((n : Int) + 1) < (n : Int) + 1 := Int.tmod_lt_of_pos _ (by omega)
  refine ⟨_, ((x.tmod ((n : Int) + 1) + (n : Int) + 1).tmod ((n : Int) + 1)).toNat, ?_, rfl, by omega, by omega, ?_⟩
  · have h3 : (x.tmod ((n : Int) + 1) + (n : Int) + 1).tmod ((n : Int) + 1) < (n : Int) + 1 := Int.tmod_lt_of_pos _ (by omega)
    have h4 : 0 ≤ (x.tmod ((n : Int) + 1) + (n : Int) + 1).tmod ((n : Int) + 1) := Int.tmod_nonneg _ (by omega)
    omega
  · have h4 : 0 ≤ (x.tmod ((n : Int) + 1) + (n : Int) + 1).tmod ((n : Int) + 1) := Int.tmod_nonneg _ (by omega)
    omega
end Go.Proofs.Ytakaconhoodigaa
