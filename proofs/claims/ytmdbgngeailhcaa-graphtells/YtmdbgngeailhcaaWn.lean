/- Walks: whether two lists of values are the same. -/
import Derived.Test.YtmdbgngeailhcaaProg
import Derived.Test.YtmdbgngeailhcaaMem
import Derived.Test.YtmdbgngeailhcaaWl
import Derived.Test.YtmdbgngeailhcaaWq
namespace Go.Proofs.Ytmdbgngeailhcaa
set_option linter.unusedSimpArgs false
set_option linter.unusedVariables false
open Go.RowKit

def sameG (g h : Gr) : Bool := decide (g.roots = h.roots) && decide (g.objs = h.objs)

end Go.Proofs.Ytmdbgngeailhcaa
