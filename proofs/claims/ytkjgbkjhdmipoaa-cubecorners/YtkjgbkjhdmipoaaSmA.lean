/- The contract of steeplelaw01.Same over the seat's translation: the same elements. -/
import Derived.Test.YtkjgbkjhdmipoaaSlA
namespace Go.Proofs.Ytkjgbkjhdmipoaa
open Go.RowKit

end Go.Proofs.Ytkjgbkjhdmipoaa
