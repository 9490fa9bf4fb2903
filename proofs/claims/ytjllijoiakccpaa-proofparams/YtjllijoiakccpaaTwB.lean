/- Contract of tower.squares over the seat's translation. -/
import Derived.Test.YtjllijoiakccpaaTwA
namespace Go.Proofs.Ytjllijoiakccpaa
open Go.RowKit
open Tw (px)

theorem i_sq (n m P L t : Nat) (hP : P = 2 ^ m) (hn : n < 2 ^ 64) (hL : L * P < 2 ^ 64) (ht : t &&& L = t) (hd : (L <<< m) &&& L = 0) :
    bits .xor .u64 (bits .or .u64 (IntKind.u64.wrap ((t : Int) * (P : Int))) (bits .and .u64 (n : Int) (L : Int))) ((n >>> m &&& L : Nat) : Int) = ((((t <<< m) ^^^ (n &&& L)) ^^^ (n >>> m &&& L) : Nat) : Int) := by
  have hp : 1 ≤ P := by rw [hP]; exact Nat.one_le_two_pow
  have hL1 : L < 2 ^ 64 := Nat.lt_of_le_of_lt (Nat.le_mul_of_pos_right L hp) hL
  have h1 : (n &&& L) < 2 ^ 64 := Nat.lt_of_le_of_lt Nat.and_le_right hL1
  have h2 : (n >>> m &&& L) < 2 ^ 64 := Nat.lt_of_le_of_lt Nat.and_le_right hL1
  have h0 : t ≤ L := by rw [← ht]; exact Nat.and_le_right
  have h3 : t * P < 2 ^ 64 := Nat.lt_of_le_of_lt (Nat.mul_le_mul_right P h0) hL
  have e : ((t * P : Nat) : Int) % 18446744073709551616 = ((t * P : Nat) : Int) := by omega
  have h4 : t * P ||| (n &&& L) < 2 ^ 64 := Nat.or_lt_two_pow h3 h1
  rw [u64_and_nat _ _ hn hL1, ← Int.natCast_mul, IntKind.wrap_u64, e, u64_or_nat _ _ h3 h1, u64_xor_nat _ _ h4 h2]
  rw [show t * P = t <<< m by rw [Nat.shiftLeft_eq, hP], Tw.lanes_or ht (Tw.and_and_self n L) hd]

end Go.Proofs.Ytjllijoiakccpaa
