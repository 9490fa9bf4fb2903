/- Contract of steepleref02.Dot over the seat's translation: the walk. -/
import Derived.Test.YtjdfbjdbfncofaaSlB
namespace Go.Proofs.Ytjdfbjdbfncofaa
open Go.RowKit

end Go.Proofs.Ytjdfbjdbfncofaa
