/- Contract of tower.Level over the seat's translation. -/
import Derived.Test.YtbmjceiogfhffabTwE
import Derived.Test.YtbmjceiogfhffabShelfB
namespace Go.Proofs.Ytbmjceiogfhffab
open Go.RowKit
open Tw (px)

/-- The least level of which an element is. -/
def lvl (hi lo : Nat) : Int := if hi ≠ 0 then 7 else if lo < 2 then 0 else if lo < 4 then 1 else if lo < 16 then 2 else if lo < 256 then 3 else if lo < 65536 then 4 else if lo < 4294967296 then 5 else 6
theorem bitLen_of (x j : Nat) (h1 : 2 ^ j ≤ x) (h2 : x < 2 ^ (j + 1)) (h : x < 2 ^ 64) : Lib.bitLen x = j + 1 := by
  have e : x / 2 ^ j = 1 := by
    apply Nat.le_antisymm
    · have : x / 2 ^ j < 2 := by rw [Nat.div_lt_iff_lt_mul (Nat.two_pow_pos j)]; rw [Nat.pow_succ] at h2; omega
      omega
    · exact (Nat.one_le_div_iff (Nat.two_pow_pos j)).2 h1
  rw [Lib.bitLen_shift j x h1 h, e]
  rfl
theorem bitLen_range (x : Nat) (h : x ≠ 0) (hx : x < 2 ^ 64) : 1 ≤ Lib.bitLen x ∧ 2 ^ (Lib.bitLen x - 1) ≤ x ∧ x < 2 ^ Lib.bitLen x := by
  have e : Lib.bitLen x = x.log2 + 1 := bitLen_of x x.log2 (Nat.log2_self_le h) Nat.lt_log2_self hx
  rw [e]
  refine ⟨by omega, ?_, ?_⟩
  · simpa using Nat.log2_self_le h
  · exact Nat.lt_log2_self
theorem bitLen_le_iff (x k : Nat) (h : x ≠ 0) (hx : x < 2 ^ 64) : Lib.bitLen x ≤ k ↔ x < 2 ^ k := by
  obtain ⟨h1, h2, h3⟩ := bitLen_range x h hx
  constructor
  · intro hk; exact Nat.lt_of_lt_of_le h3 (Nat.pow_le_pow_right (by decide) hk)
  · intro hk
    have : 2 ^ (Lib.bitLen x - 1) < 2 ^ k := Nat.lt_of_le_of_lt h2 hk
    have := (Nat.pow_lt_pow_iff_right (by decide : 1 < 2)).1 this
    omega
theorem or_one (lo : Nat) : lo ||| 1 = 2 * (lo / 2) + 1 := by
  apply Nat.eq_of_testBit_eq
  intro i
  rw [Nat.testBit_or]
  cases i with
  | zero => simp [Nat.testBit]
  | succ i =>
    rw [Nat.testBit_succ, Nat.testBit_succ, Nat.testBit_succ]
    rw [show (2 * (lo / 2) + 1) / 2 = lo / 2 by omega]
    simp
theorem lvl_eq (lo : Nat) (h : lo < 2 ^ 64) : ((Lib.bitLen (Lib.bitLen (lo ||| 1) - 1) : Nat) : Int) = lvl 0 lo := by
  have hn := or_one lo
  have hz : lo ||| 1 ≠ 0 := by omega
  have hx : lo ||| 1 < 2 ^ 64 := Nat.or_lt_two_pow h (by decide)
  have I := fun k => bitLen_le_iff (lo ||| 1) k hz hx
  have hr := (bitLen_range _ hz hx).1
  have i1 := I 1; have i2 := I 2; have i4 := I 4; have i8 := I 8; have i16 := I 16; have i32 := I 32; have i64 := I 64
  simp only [hn, Nat.reducePow] at i1 i2 i4 i8 i16 i32 i64
  rw [hn] at hr ⊢
  generalize hB : Lib.bitLen (2 * (lo / 2) + 1) = B at *
  unfold lvl
  simp only [ne_eq, not_true_eq_false, if_false]
  have z : Lib.bitLen 0 = 0 := rfl
  by_cases h1 : lo < 2
  · rw [if_pos h1, show B - 1 = 0 by omega, z]; rfl
  rw [if_neg h1]
  by_cases h2 : lo < 4
  · rw [if_pos h2, bitLen_of (B - 1) 0 (by omega) (by omega) (by omega)]; rfl
  rw [if_neg h2]
  by_cases h3 : lo < 16
  · rw [if_pos h3, bitLen_of (B - 1) 1 (by omega) (by omega) (by omega)]; rfl
  rw [if_neg h3]
  by_cases h4 : lo < 256
  · rw [if_pos h4, bitLen_of (B - 1) 2 (by omega) (by omega) (by omega)]; rfl
  rw [if_neg h4]
  by_cases h5 : lo < 65536
  · rw [if_pos h5, bitLen_of (B - 1) 3 (by omega) (by omega) (by omega)]; rfl
  rw [if_neg h5]
  by_cases h6 : lo < 4294967296
  · rw [if_pos h6, bitLen_of (B - 1) 4 (by omega) (by omega) (by omega)]; rfl
  rw [if_neg h6, bitLen_of (B - 1) 5 (by omega) (by omega) (by omega)]; rfl

set_option maxHeartbeats 400000 in
theorem level_core (lo B r : Nat) (x : Int) (hB : 1 ≤ B ∧ B ≤ 64) (f1 : bits .or .u64 (lo : Int) 1 = x) (H1 : Hid (∀ W, Calls Try.prog 69 #[.int .u64 x] W fun e w' => e = .returned (.int .i64 (B : Nat)) ∧ w' = W)) (H2 : Hid (∀ W, Calls Try.prog 70 #[.int .u64 ((B : Int) - 1)] W fun e w' => e = .returned (.int .i64 (r : Nat)) ∧ w' = W)) (W : World) :
    Calls Try.prog 56 #[.agg #[.int .u64 0, .int .u64 (lo : Int)]] W fun e w' => e = .returned (.int .i64 (r : Nat)) ∧ w' = W.alloc (Obj.cells #[.int .u64 0, .int .u64 (lo : Int)] 62) := by
  go_enter Try.func56, Try.ntmps56
  go_wp2_with fail
  refine (H1.out _).mono ?_
  rintro e w1 ⟨rfl, rfl⟩
  go_wp2_with fail
  refine (H2.out _).mono ?_
  rintro e w1 ⟨rfl, rfl⟩
  go_wp2
  go_ret
  exact ⟨rfl, rfl⟩
set_option maxHeartbeats 400000 in
theorem level_high (hi lo : Nat) (h : hi ≠ 0) (W : World) :
    Calls Try.prog 56 #[.agg #[.int .u64 (hi : Int), .int .u64 (lo : Int)]] W fun e w' => e = .returned (.int .i64 7) ∧ w' = W.alloc (Obj.cells #[.int .u64 (hi : Int), .int .u64 (lo : Int)] 62) := by
  have q : ((hi : Int) != 0) = true := by simp; omega
  go_enter Try.func56, Try.ntmps56
  go_wp2
  go_ret
  exact ⟨rfl, rfl⟩
theorem level_any (hi lo : Nat) (hl : lo < 2 ^ 64) (W : World) :
    Calls Try.prog 56 #[.agg #[.int .u64 (hi : Int), .int .u64 (lo : Int)]] W fun e w' => e = .returned (.int .i64 (lvl hi lo)) ∧ w' = W.alloc (Obj.cells #[.int .u64 (hi : Int), .int .u64 (lo : Int)] 62) := by
  by_cases h : hi = 0
  · subst h
    rw [← lvl_eq lo hl]
    have hz : lo ||| 1 ≠ 0 := by rw [or_one]; omega
    have h1 : lo ||| 1 < 2 ^ 64 := Nat.or_lt_two_pow hl (by decide)
    have hb : Lib.bitLen (lo ||| 1) ≤ 64 := (bitLen_le_iff _ 64 hz h1).2 h1
    have hb1 := (bitLen_range _ hz h1).1
    have f1 : bits .or .u64 (lo : Int) 1 = ((lo ||| 1 : Nat) : Int) := u64_or_nat lo 1 hl (by decide)
    refine level_core lo (Lib.bitLen (lo ||| 1)) _ _ ⟨hb1, hb⟩ f1 (fun W => ?_) (fun W => ?_) W
    · have := len64_any ((lo ||| 1 : Nat) : Int) W (by omega) (by omega)
      rwa [Int.toNat_natCast] at this
    · have := len_any ((Lib.bitLen (lo ||| 1) : Int) - 1) W (by omega) (by omega)
      rwa [show ((Lib.bitLen (lo ||| 1) : Int) - 1).toNat = Lib.bitLen (lo ||| 1) - 1 by omega] at this
  · rw [show lvl hi lo = 7 by unfold lvl; rw [if_pos h]]
    exact level_high hi lo h W
end Go.Proofs.Ytbmjceiogfhffab
