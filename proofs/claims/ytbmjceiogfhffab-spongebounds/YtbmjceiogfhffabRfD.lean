/- Contracts of steepleref01.bit and steepleref01.Of over the seat's translation. -/
import Derived.Test.YtbmjceiogfhffabRfB
import Derived.Test.YtbmjceiogfhffabTwPw
import Derived.Test.YtbmjceiogfhffabTwPr
namespace Go.Proofs.Ytbmjceiogfhffab
open Go.RowKit

/-- The bit n of a pair, as a number. -/
def bitN (h l n : Nat) : Nat := if n < 64 then l / 2 ^ n % 2 else h / 2 ^ (n - 64) % 2
end Go.Proofs.Ytbmjceiogfhffab
