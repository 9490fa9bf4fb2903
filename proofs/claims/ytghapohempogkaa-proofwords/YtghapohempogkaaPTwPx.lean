/- The document's small calls of the tower, over the seat's translation. -/
import Derived.Test.YtghapohempogkaaTwBl
import Derived.Test.YtghapohempogkaaTwM
namespace Go.Proofs.Ytghapohempogkaa
open Go.RowKit
open Tw (px)

open Tw (px)

theorem wrap_pow (n : Nat) (hn : n < 64) : IntKind.u64.wrap (2 ^ n) = ((2 ^ n : Nat) : Int) := by
  have h1 : 2 ^ n < 2 ^ 64 := Nat.pow_lt_pow_right (by decide) hn
  rw [IntKind.wrap_u64, show (2 : Int) ^ n = ((2 ^ n : Nat) : Int) by simp]
  generalize 2 ^ n = p at *
  omega
/-- Has a pair the bit n? -/
def hasB (ah al n : Nat) : Bool := if n < 64 then al.testBit n else ah.testBit (n - 64)
theorem bit_test (x n : Nat) : ((x &&& 2 ^ n : Nat) != 0) = x.testBit n := by
  by_cases h : x.testBit n = true
  · have h1 : (x &&& 2 ^ n).testBit n = true := by rw [Nat.testBit_and, h, Nat.testBit_two_pow_self]; rfl
    have h2 : x &&& 2 ^ n ≠ 0 := fun e => by rw [e, Nat.zero_testBit] at h1; cases h1
    rw [h]; simpa using h2
  · have h0 : x.testBit n = false := by simpa using h
    have h1 : x &&& 2 ^ n = 0 := Nat.eq_of_testBit_eq fun i => by
      rw [Nat.testBit_and, Nat.zero_testBit, Nat.testBit_two_pow]
      by_cases hi : n = i
      · subst hi; rw [h0]; rfl
      · simp [hi]
    rw [h1, h0]; rfl
end Go.Proofs.Ytghapohempogkaa

/- Powers, over the seat's translation. -/
namespace Go.Proofs.Ytghapohempogkaa
open Go.RowKit

theorem bit_nat (n j : Nat) (hn : n < 2 ^ 64) : bits .and .u64 ((n : Int) / 2 ^ j) 1 = ((n / 2 ^ j % 2 : Nat) : Int) := by
  have h1 : n / 2 ^ j < 2 ^ 64 := Nat.lt_of_le_of_lt (Nat.div_le_self _ _) hn
  have h2 : (n : Int) / 2 ^ j = ((n / 2 ^ j : Nat) : Int) := by rw [Int.natCast_ediv, Int.natCast_pow]; rfl
  have := u64_and_nat (n / 2 ^ j) 1 h1 (by decide)
  rw [Nat.and_one_is_mod] at this
  rw [h2]; exact this

theorem of_pp {k xh xl : Nat} (hk : k < 8) (X : ofB (k : Int) (xh : Int) (xl : Int) = true) : ∀ n, ofB (k : Int) (Tw.pph xh xl n : Nat) (Tw.ppl xh xl n : Nat) = true
  | 0 => by rw [(Tw.pp_zero xh xl).1, (Tw.pp_zero xh xl).2]; exact of_one k hk
  | n + 1 => by rw [← (Tw.pp_succ xh xl n).1, ← (Tw.pp_succ xh xl n).2]; exact of_pm hk (of_pp hk X n) X
end Go.Proofs.Ytghapohempogkaa
