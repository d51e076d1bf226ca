/- Walks: whether two lists of values are the same. -/
import Derived.Test.YtmehcjjjflcpmaaProg
import Derived.Test.YtmehcjjjflcpmaaMem
import Derived.Test.YtmehcjjjflcpmaaWl
import Derived.Test.YtmehcjjjflcpmaaWq
namespace Go.Proofs.Ytmehcjjjflcpmaa
set_option linter.unusedSimpArgs false
set_option linter.unusedVariables false
open Go.RowKit

def sameG (g h : Gr) : Bool := decide (g.roots = h.roots) && decide (g.objs = h.objs)

end Go.Proofs.Ytmehcjjjflcpmaa
