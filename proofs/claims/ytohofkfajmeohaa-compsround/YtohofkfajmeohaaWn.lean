/- Walks: whether two lists of values are the same. -/
import Derived.Test.YtohofkfajmeohaaProg
import Derived.Test.YtohofkfajmeohaaMem
import Derived.Test.YtohofkfajmeohaaWl
import Derived.Test.YtohofkfajmeohaaWq
namespace Go.Proofs.Ytohofkfajmeohaa
set_option linter.unusedSimpArgs false
set_option linter.unusedVariables false
open Go.RowKit

def sameG (g h : Gr) : Bool := decide (g.roots = h.roots) && decide (g.objs = h.objs)

end Go.Proofs.Ytohofkfajmeohaa
