/- Contracts of cube.Log of any number, cube.Corner and steepleref15.Two over the seat's translation. -/
import Derived.Test.YtbomgcmmfeahiaaCbI
namespace Go.Proofs.Ytbomgcmmfeahiaa
open Go.RowKit
open Cb
open Tw (pm)

theorem clog_int (n r : Int) (h1 : ∀ k : Nat, k ≤ 16 → n = ((2 ^ k : Nat) : Int) → r = (k : Int)) (h2 : (∀ k : Nat, k ≤ 16 → n ≠ ((2 ^ k : Nat) : Int)) → r = -1) : Ret 49 #[.int .i64 n] (.int .i64 r) := by
  by_cases a : n < 1
  · rw [h2 fun k _ e => by have := Nat.two_pow_pos k; omega]; exact clog_low n a
  · by_cases b : 65536 < n
    · rw [h2 fun k hk e => by have : 2 ^ k ≤ 2 ^ 16 := Nat.pow_le_pow_right (by decide) hk; omega]; exact clog_high n a b
    · obtain ⟨m, rfl⟩ := Int.eq_ofNat_of_zero_le (show 0 ≤ n by omega)
      by_cases c : m &&& (m - 1) = 0
      · obtain ⟨k, hk⟩ := (Nat.and_sub_one_eq_zero_iff_isPowerOfTwo (by omega)).1 c
        have hk16 : k ≤ 16 := by
          rcases Nat.lt_or_ge 16 k with h | h
          · have : 2 ^ 17 ≤ 2 ^ k := Nat.pow_le_pow_right (by decide) h
            omega
          · exact h
        rw [h1 k hk16 (by rw [hk])]
        exact clog_two k m hk16 hk
      · rw [h2 fun k _ e => c ((Nat.and_sub_one_eq_zero_iff_isPowerOfTwo (by omega)).2 ⟨k, by omega⟩)]
        exact clog_mid m _ (by omega) (by omega) rfl c
theorem crn_at : ∀ (n i j : Nat), j < n → el (crn n i) j = (0, i / 2 ^ j % 2)
  | 0, _, _, h => by omega
  | n + 1, i, 0, _ => by simp [crn, el]
  | n + 1, i, j + 1, h => by
    show el (crn n (i / 2)) j = _
    rw [crn_at n (i / 2) j (by omega), Nat.div_div_eq_div_mul, Nat.pow_succ, Nat.mul_comm 2]
theorem crn_lt (n i : Nat) : ltE (crn n i) := ltE_of fun j hj => by
  rw [crn_len] at hj
  rw [crn_at n i j hj]
  exact ⟨Nat.two_pow_pos 64, by omega⟩
theorem crn_of (k : Nat) (hk : k < 8) (n i : Nat) : ofT k (crn n i) := ofT_of fun j hj => by
  rw [crn_len] at hj
  rw [crn_at n i j hj]
  rcases Nat.mod_two_eq_zero_or_one (i / 2 ^ j) with h | h
  · rw [h]; exact of_zero k hk
  · rw [h]; exact of_one k hk
theorem bit_intC (i k : Nat) (hi : i < 65536) : bits .and .i64 ((i : Int) / 2 ^ k) 1 = ((i / 2 ^ k % 2 : Nat) : Int) := by
  rw [show (i : Int) / 2 ^ k = ((i / 2 ^ k : Nat) : Int) by simp, show (1 : Int) = ((1 : Nat) : Int) by rfl, cand_nat _ 1 (by have := Nat.div_le_self i (2 ^ k); omega) (by decide), Nat.and_one_is_mod]
set_option maxHeartbeats 400000 in
theorem rtwo15 (n : Nat) (hn : n ≤ 16) : Ret 34 #[.int .i64 (n : Int)] (.int .i64 ((2 ^ n : Nat) : Int)) := by
  intro W
  go_enter Try.func34, Try.ntmps34
  go_wp2_with fail
  go_loopw [3, 4] (fun v u wr => ∃ j q : Nat, j ≤ n ∧ Hid (q = 2 ^ j) ∧ v = .int .i64 (q : Int) ∧ u = .int .i64 j ∧ W = wr) (fun _ u _ => n - (intOf u).toNat)
  case atStart => exact ⟨0, 1, Nat.zero_le _, (by rfl), rfl, rfl, rfl⟩
  case round =>
    obtain ⟨j, q, hj, HQ, rfl, rfl, rfl⟩ := hrel
    by_cases hlt : j < n
    · have hq : q ≤ 65536 := by rw [HQ.out]; exact Nat.pow_le_pow_right (by decide) (show j ≤ 16 by omega)
      have hw : IntKind.i64.wrap (2 * (q : Int)) = ((2 * q : Nat) : Int) := by rw [IntKind.wrap_i64]; omega
      go_wp2
      exact ⟨⟨j + 1, 2 * q, hlt, (by show _ = _; rw [HQ.out, Nat.pow_succ]; omega), by simp, by simp, by first | rfl | trivial⟩, by simp [intOf]; omega⟩
    · obtain rfl : j = n := by omega
      go_wp2
      go_ret
      exact ⟨by rw [← HQ.out]; rfl, Below.refl _ _⟩
theorem wrap_twoC (n : Nat) (hn : n ≤ 16) : IntKind.i64.wrap (2 ^ n) = ((2 ^ n : Nat) : Int) := by
  have h1 : 2 ^ n ≤ 2 ^ 16 := Nat.pow_le_pow_right (by decide) hn
  rw [IntKind.wrap_i64, show (2 : Int) ^ n = ((2 ^ n : Nat) : Int) by simp]
  generalize 2 ^ n = p at *
  omega
end Go.Proofs.Ytbomgcmmfeahiaa
