/- Walks: whether two lists of values are the same. -/
import Derived.Test.YtkoidbekfjlfjaaProg
import Derived.Test.YtkoidbekfjlfjaaMem
import Derived.Test.YtkoidbekfjlfjaaWl
import Derived.Test.YtkoidbekfjlfjaaWq
namespace Go.Proofs.Ytkoidbekfjlfjaa
set_option linter.unusedSimpArgs false
set_option linter.unusedVariables false
open Go.RowKit

def sameG (g h : Gr) : Bool := decide (g.roots = h.roots) && decide (g.objs = h.objs)

end Go.Proofs.Ytkoidbekfjlfjaa
