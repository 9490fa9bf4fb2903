/- Powers, over the seat's translation. -/
import Derived.Test.YtcejppibcemdeaaTwBl
import Derived.Test.YtcejppibcemdeaaTwM
namespace Go.Proofs.Ytcejppibcemdeaa
open Go.RowKit

theorem bit_nat (n j : Nat) (hn : n < 2 ^ 64) : bits .and .u64 ((n : Int) / 2 ^ j) 1 = ((n / 2 ^ j % 2 : Nat) : Int) := by
  have h1 : n / 2 ^ j < 2 ^ 64 := Nat.lt_of_le_of_lt (Nat.div_le_self _ _) hn
  have h2 : (n : Int) / 2 ^ j = ((n / 2 ^ j : Nat) : Int) := by rw [Int.natCast_ediv, Int.natCast_pow]; rfl
  have := u64_and_nat (n / 2 ^ j) 1 h1 (by decide)
  rw [Nat.and_one_is_mod] at this
  rw [h2]; exact this

theorem of_pp {k xh xl : Nat} (hk : k < 8) (X : ofB (k : Int) (xh : Int) (xl : Int) = true) : ∀ n, ofB (k : Int) (Tw.pph xh xl n : Nat) (Tw.ppl xh xl n : Nat) = true
  | 0 => by rw [(Tw.pp_zero xh xl).1, (Tw.pp_zero xh xl).2]; exact of_one k hk
  | n + 1 => by rw [← (Tw.pp_succ xh xl n).1, ← (Tw.pp_succ xh xl n).2]; exact of_pm hk (of_pp hk X n) X
end Go.Proofs.Ytcejppibcemdeaa
