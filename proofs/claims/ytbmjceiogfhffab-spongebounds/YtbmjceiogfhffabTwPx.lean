/- Contract of tower.Pow over the seat's translation: the power of the field. -/
import Derived.Test.YtbmjceiogfhffabTwPw
import Derived.Test.YtbmjceiogfhffabTwPp
namespace Go.Proofs.Ytbmjceiogfhffab
open Go.RowKit

theorem of_pp {k xh xl : Nat} (hk : k < 8) (X : ofB (k : Int) (xh : Int) (xl : Int) = true) : ∀ n, ofB (k : Int) (Tw.pph xh xl n : Nat) (Tw.ppl xh xl n : Nat) = true
  | 0 => by rw [(Tw.pp_zero xh xl).1, (Tw.pp_zero xh xl).2]; exact of_one k hk
  | n + 1 => by rw [← (Tw.pp_succ xh xl n).1, ← (Tw.pp_succ xh xl n).2]; exact of_pm hk (of_pp hk X n) X
end Go.Proofs.Ytbmjceiogfhffab
