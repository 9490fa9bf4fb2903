/- Contract of tower.Pow over the seat's translation. -/
import Derived.Test.YtbmjceiogfhffabTwBl
namespace Go.Proofs.Ytbmjceiogfhffab
open Go.RowKit

theorem bit_nat (n j : Nat) (hn : n < 2 ^ 64) : bits .and .u64 ((n : Int) / 2 ^ j) 1 = ((n / 2 ^ j % 2 : Nat) : Int) := by
  have h1 : n / 2 ^ j < 2 ^ 64 := Nat.lt_of_le_of_lt (Nat.div_le_self _ _) hn
  have h2 : (n : Int) / 2 ^ j = ((n / 2 ^ j : Nat) : Int) := by rw [Int.natCast_ediv, Int.natCast_pow]; rfl
  have := u64_and_nat (n / 2 ^ j) 1 h1 (by decide)
  rw [Nat.and_one_is_mod] at this
  rw [h2]; exact this

end Go.Proofs.Ytbmjceiogfhffab
