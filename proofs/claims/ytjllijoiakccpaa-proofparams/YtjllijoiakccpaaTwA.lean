/- Contracts of tower's products with generators and of its squares of words, over the seat's translation. -/
import Derived.Test.YtjllijoiakccpaaProg
import Derived.Test.YtjllijoiakccpaaTwM
import Derived.WalkKit
import Derived.WalkLawsBesides
import Derived.WalkSpells
import Derived.Handy
namespace Go.Proofs.Ytjllijoiakccpaa
open Go.RowKit
open Tw (px)

theorem i_hi (n m P L : Nat) (hP : P = 2 ^ m) (hn : n < 2 ^ 64) (hL : L < 2 ^ 64) : bits .and .u64 ((n : Int) / (P : Int)) (L : Int) = ((n >>> m &&& L : Nat) : Int) := by
  have h1 : n / 2 ^ m < 2 ^ 64 := Nat.lt_of_le_of_lt (Nat.div_le_self _ _) hn
  rw [hP, ← Int.natCast_ediv, u64_and_nat _ _ h1 hL, Nat.shiftRight_eq_div_pow]
theorem i_res (n m P L t : Nat) (hP : P = 2 ^ m) (hn : n < 2 ^ 64) (hL : L * P < 2 ^ 64) (ht : t < 2 ^ 64) (hx : ((n &&& L) ^^^ t) ≤ L) :
    bits .or .u64 (IntKind.u64.wrap (bits .xor .u64 (bits .and .u64 (n : Int) (L : Int)) (t : Int) * (P : Int))) ((n >>> m &&& L : Nat) : Int) = (((((n &&& L) ^^^ t) <<< m) ||| (n >>> m &&& L) : Nat) : Int) := by
  have hp : 1 ≤ P := by rw [hP]; exact Nat.one_le_two_pow
  have hL1 : L < 2 ^ 64 := Nat.lt_of_le_of_lt (Nat.le_mul_of_pos_right L hp) hL
  have h1 : (n &&& L) < 2 ^ 64 := Nat.lt_of_le_of_lt Nat.and_le_right hL1
  have h2 : (n >>> m &&& L) < 2 ^ 64 := Nat.lt_of_le_of_lt Nat.and_le_right hL1
  have h3 : ((n &&& L) ^^^ t) * P < 2 ^ 64 := Nat.lt_of_le_of_lt (Nat.mul_le_mul_right P hx) hL
  rw [u64_and_nat _ _ hn hL1, u64_xor_nat _ _ h1 ht, ← Int.natCast_mul, IntKind.wrap_u64]
  have e : ((((n &&& L) ^^^ t) * P : Nat) : Int) % 18446744073709551616 = ((((n &&& L) ^^^ t) * P : Nat) : Int) := by omega
  rw [e, u64_or_nat _ _ h3 h2, Nat.shiftLeft_eq, hP]

theorem hi6n (n : Nat) (h : n < 2 ^ 64) : n >>> 32 &&& Tw.L6 = n / 4294967296 := by
  have e : Tw.L6 = 2 ^ 32 - 1 := by decide
  rw [e, Nat.and_two_pow_sub_one_eq_mod, Nat.shiftRight_eq_div_pow]
  omega
theorem hi6 (n : Nat) (h : n < 2 ^ 64) : (n : Int) / 4294967296 = ((n >>> 32 &&& Tw.L6 : Nat) : Int) := by
  rw [hi6n n h]
  omega
/-- The bit that is the generator of a level (of level 0, and of what is none: 1). -/
def gbit (l : Int) : Nat := if l = 1 then 2 else if l = 2 then 4 else if l = 3 then 16 else if l = 4 then 256 else if l = 5 then 65536 else if l = 6 then 4294967296 else 1
end Go.Proofs.Ytjllijoiakccpaa
