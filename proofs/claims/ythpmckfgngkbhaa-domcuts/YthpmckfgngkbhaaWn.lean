/- Walks: whether two lists of values are the same. -/
import Derived.Test.YthpmckfgngkbhaaProg
import Derived.Test.YthpmckfgngkbhaaMem
import Derived.Test.YthpmckfgngkbhaaWl
import Derived.Test.YthpmckfgngkbhaaWq
namespace Go.Proofs.Ythpmckfgngkbhaa
set_option linter.unusedSimpArgs false
set_option linter.unusedVariables false
open Go.RowKit

def sameG (g h : Gr) : Bool := decide (g.roots = h.roots) && decide (g.objs = h.objs)

end Go.Proofs.Ythpmckfgngkbhaa
