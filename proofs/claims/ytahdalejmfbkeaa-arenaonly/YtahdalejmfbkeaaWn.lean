/- Walks: whether two lists of values are the same. -/
import Derived.Test.YtahdalejmfbkeaaProg
import Derived.Test.YtahdalejmfbkeaaMem
import Derived.Test.YtahdalejmfbkeaaWl
import Derived.Test.YtahdalejmfbkeaaWq
namespace Go.Proofs.Ytahdalejmfbkeaa
set_option linter.unusedSimpArgs false
set_option linter.unusedVariables false
open Go.RowKit

def sameG (g h : Gr) : Bool := decide (g.roots = h.roots) && decide (g.objs = h.objs)

end Go.Proofs.Ytahdalejmfbkeaa
