/- Contract of steepleref02.Dot over the seat's translation: the walk. -/
import Derived.Test.YthfebbmmhjkglaaSlB
namespace Go.Proofs.Ythfebbmmhjkglaa
open Go.RowKit

end Go.Proofs.Ythfebbmmhjkglaa
