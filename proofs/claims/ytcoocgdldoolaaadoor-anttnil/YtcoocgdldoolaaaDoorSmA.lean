/- The contract of steeplelaw01.Same over the seat's translation: the same elements. -/
import Derived.Test.YtcoocgdldoolaaaDoorSlA
namespace Go.Proofs.YtcoocgdldoolaaaDoor
open Go.RowKit

end Go.Proofs.YtcoocgdldoolaaaDoor
