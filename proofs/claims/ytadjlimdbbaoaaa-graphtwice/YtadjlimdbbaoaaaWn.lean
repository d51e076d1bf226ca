/- Walks: whether two lists of values are the same. -/
import Derived.Test.YtadjlimdbbaoaaaProg
import Derived.Test.YtadjlimdbbaoaaaMem
import Derived.Test.YtadjlimdbbaoaaaWl
import Derived.Test.YtadjlimdbbaoaaaWq
namespace Go.Proofs.Ytadjlimdbbaoaaa
set_option linter.unusedSimpArgs false
set_option linter.unusedVariables false
open Go.RowKit

def sameG (g h : Gr) : Bool := decide (g.roots = h.roots) && decide (g.objs = h.objs)

end Go.Proofs.Ytadjlimdbbaoaaa
