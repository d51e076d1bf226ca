/-
  No cell of these rows narrows 'for every input' (looked for: loops, veiled, ifaces, maps, wideKeys, modest, calm, conditions, laid).
  DERIVED. THE GIVEN ROWS OF THIS SEAT. 5 by the template 'for every input the law returns true; each argument reads behind the call as it read before'; 0 by the template 'total and deterministic' (their statements: YtmelhphhealomaaTotals.lean).
  GIVEN WITH THE SEED: the statements are not yours to turn. If you find one false, say at which input.
  Laid BY PROGRAM, IN A SANDBOX (cutbox-rows.mjs): the forced cells as the released guide's own fill.sh prints them over the translation 51d65cb1c3b0aa5a… (all of the seat's roots in one cut). By AI agents, Wed Nov 11 2026. No macro, syntax, notation, axiom, sorry.
-/
import Derived.Test.YtmelhphhealomaaChecked
import GoSem.Claim
import GoSem.ClaimJoined
import GoSem.ClaimMapViews
import Derived.JoinedTies
import Derived.KernelRfl
namespace Go.Proofs.Ytmelhphhealomaa
/- THE CELL 'sum', in the pinned program and in every row, IS THE sha256 OF THE DUMP (.gsa) THAT YtmelhphhealomaaProg.lean LOADS. Nothing in Lean hashes anything: it is a label: what it is worth is what the hold of that sum in a sandbox is worth. -/
noncomputable def Try.pinned : Pinned := { name := "ytmelhphhealomaa", sum := "51d65cb1c3b0aa5af6307dee71559fb1dc2307a1abd9ccf362961d079a421946", checked := Try.checked }
namespace Rows
def none {H : Type} : Left H := { results := [], args := [] }

/-- 'ragpickerkeep.GraphLike': WHATEVER THE INPUT: true; the input reads as it did. -/
def graphLikeSpec : ChangeSpec := { name := "graphLike", fn := fun _ => fun
  | [d1, d2, d3] => { results := [.lit (.bool true)], args := [d1, d2, d3] }
  | _ => none }
def graphLikeRow : OpenClaim := { program := "ytmelhphhealomaa", sum := "51d65cb1c3b0aa5af6307dee71559fb1dc2307a1abd9ccf362961d079a421946", func := "ragpicker/ragpickerkeep.GraphLike", spec := "graphLike", unfollowed := true, recurses := true, apart := false }
def GraphLikeSaid : Prop := graphLikeRow.holds Try.pinned (OpenSpec.ofChange graphLikeSpec)

/-- ITS FALSE NEIGHBOUR: 'it returns false'. Refute it at one input. -/
def graphLikeWrong : ChangeSpec := { name := "graphLike", fn := fun _ => fun
  | [d1, d2, d3] => { results := [.lit (.bool false)], args := [d1, d2, d3] }
  | _ => none }
def GraphLikeWrongFalsely : Prop := graphLikeRow.holds Try.pinned (OpenSpec.ofChange graphLikeWrong)

/-- 'ragpickerkeep.GraphWays': WHATEVER THE INPUT: true; the input reads as it did. -/
def graphWaysSpec : ChangeSpec := { name := "graphWays", fn := fun _ => fun
  | [d1, d2, d3, d4] => { results := [.lit (.bool true)], args := [d1, d2, d3, d4] }
  | _ => none }
def graphWaysRow : OpenClaim := { program := "ytmelhphhealomaa", sum := "51d65cb1c3b0aa5af6307dee71559fb1dc2307a1abd9ccf362961d079a421946", func := "ragpicker/ragpickerkeep.GraphWays", spec := "graphWays", unfollowed := true, recurses := true, apart := false }
def GraphWaysSaid : Prop := graphWaysRow.holds Try.pinned (OpenSpec.ofChange graphWaysSpec)

/-- ITS FALSE NEIGHBOUR: 'it returns false'. Refute it at one input. -/
def graphWaysWrong : ChangeSpec := { name := "graphWays", fn := fun _ => fun
  | [d1, d2, d3, d4] => { results := [.lit (.bool false)], args := [d1, d2, d3, d4] }
  | _ => none }
def GraphWaysWrongFalsely : Prop := graphWaysRow.holds Try.pinned (OpenSpec.ofChange graphWaysWrong)

/-- 'ragpickerkeep.GraphSteps': WHATEVER THE INPUT: true; the input reads as it did. -/
def graphStepsSpec : ChangeSpec := { name := "graphSteps", fn := fun _ => fun
  | [d] => { results := [.lit (.bool true)], args := [d] }
  | _ => none }
def graphStepsRow : OpenClaim := { program := "ytmelhphhealomaa", sum := "51d65cb1c3b0aa5af6307dee71559fb1dc2307a1abd9ccf362961d079a421946", func := "ragpicker/ragpickerkeep.GraphSteps", spec := "graphSteps", unfollowed := true, recurses := true, apart := false }
def GraphStepsSaid : Prop := graphStepsRow.holds Try.pinned (OpenSpec.ofChange graphStepsSpec)

/-- ITS FALSE NEIGHBOUR: 'it returns false'. Refute it at one input. -/
def graphStepsWrong : ChangeSpec := { name := "graphSteps", fn := fun _ => fun
  | [d] => { results := [.lit (.bool false)], args := [d] }
  | _ => none }
def GraphStepsWrongFalsely : Prop := graphStepsRow.holds Try.pinned (OpenSpec.ofChange graphStepsWrong)

/-- 'ragpickerlaw.GraphCanons': WHATEVER THE INPUT: true; the input reads as it did. -/
def graphCanonsSpec : ChangeSpec := { name := "graphCanons", fn := fun _ => fun
  | [d1, d2] => { results := [.lit (.bool true)], args := [d1, d2] }
  | _ => none }
def graphCanonsRow : OpenClaim := { program := "ytmelhphhealomaa", sum := "51d65cb1c3b0aa5af6307dee71559fb1dc2307a1abd9ccf362961d079a421946", func := "ragpicker/ragpickerlaw.GraphCanons", spec := "graphCanons", unfollowed := true, recurses := true, apart := false }
def GraphCanonsSaid : Prop := graphCanonsRow.holds Try.pinned (OpenSpec.ofChange graphCanonsSpec)

/-- ITS FALSE NEIGHBOUR: 'it returns false'. Refute it at one input. -/
def graphCanonsWrong : ChangeSpec := { name := "graphCanons", fn := fun _ => fun
  | [d1, d2] => { results := [.lit (.bool false)], args := [d1, d2] }
  | _ => none }
def GraphCanonsWrongFalsely : Prop := graphCanonsRow.holds Try.pinned (OpenSpec.ofChange graphCanonsWrong)

/-- 'ragpickerkeep.GraphRenamed': WHATEVER THE INPUT: true; the input reads as it did. -/
def graphRenamedSpec : ChangeSpec := { name := "graphRenamed", fn := fun _ => fun
  | [d1, d2] => { results := [.lit (.bool true)], args := [d1, d2] }
  | _ => none }
def graphRenamedRow : OpenClaim := { program := "ytmelhphhealomaa", sum := "51d65cb1c3b0aa5af6307dee71559fb1dc2307a1abd9ccf362961d079a421946", func := "ragpicker/ragpickerkeep.GraphRenamed", spec := "graphRenamed", unfollowed := true, recurses := true, apart := false }
def GraphRenamedSaid : Prop := graphRenamedRow.holds Try.pinned (OpenSpec.ofChange graphRenamedSpec)

/-- ITS FALSE NEIGHBOUR: 'it returns false'. Refute it at one input. -/
def graphRenamedWrong : ChangeSpec := { name := "graphRenamed", fn := fun _ => fun
  | [d1, d2] => { results := [.lit (.bool false)], args := [d1, d2] }
  | _ => none }
def GraphRenamedWrongFalsely : Prop := graphRenamedRow.holds Try.pinned (OpenSpec.ofChange graphRenamedWrong)

/- THE SECOND FORM. 'bulk': how many values and letters a reading holds, each counted each time it is reached (what is shared counts as often as it is met; a slice's spare places count too). A statement '..UptoSaid' is the law's where the arguments, and the package variables that the reading takes, are together of bulk at most 1048576: NARROWER than '..Said'. Prove '..Said' where nothing that the law and all that it calls make is longer than what came in: it says more and counts as full. Else prove '..UptoSaid'. A law counts once. -/
mutual
def uptoBulk {H : Type} : DataW H → Nat
  | .lit (.string bytes) => bytes.length + 1
  | .lit _ => 1
  | .nil => 1
  | .ptr d => uptoBulk d + 1
  | .slice elems spare => uptoBulkAll elems + uptoBulkAll spare + 1
  | .agg parts => uptoBulkAll parts + 1
  | .iface _ d => uptoBulk d + 1
  | .map entries => uptoBulkEntries entries + 1
  | .held _ => 1
def uptoBulkAll {H : Type} : List (DataW H) → Nat
  | [] => 0
  | d :: r => uptoBulk d + uptoBulkAll r
def uptoBulkEntries {H : Type} : List (Lit × DataW H) → Nat
  | [] => 0
  | x :: r => uptoBulkEntry x + uptoBulkEntries r
def uptoBulkEntry {H : Type} : Lit × DataW H → Nat
  | (.string bytes, d) => bytes.length + uptoBulk d + 1
  | (_, d) => uptoBulk d + 1
 end
def uptoSmall : (H : Type) → List (DataW H) → Bool := fun _ ds => decide (uptoBulkAll ds ≤ 1048576)
def OpenSpec.upto (s : _root_.Go.ChangeSpec) : _root_.Go.OpenSpec := { _root_.Go.OpenSpec.ofChange s with cond := some uptoSmall }

/-- 'ragpickerkeep.GraphLike', WHERE WHAT IT READS IS OF BULK AT MOST 1048576: true; the input reads as it did. -/
def graphLikeUptoRow : OpenClaim := { program := "ytmelhphhealomaa", sum := "51d65cb1c3b0aa5af6307dee71559fb1dc2307a1abd9ccf362961d079a421946", func := "ragpicker/ragpickerkeep.GraphLike", spec := "graphLike", unfollowed := true, recurses := true, apart := false, narrowed := true }
def GraphLikeUptoSaid : Prop := graphLikeUptoRow.holds Try.pinned (OpenSpec.upto graphLikeSpec)

/-- 'ragpickerkeep.GraphWays', WHERE WHAT IT READS IS OF BULK AT MOST 1048576: true; the input reads as it did. -/
def graphWaysUptoRow : OpenClaim := { program := "ytmelhphhealomaa", sum := "51d65cb1c3b0aa5af6307dee71559fb1dc2307a1abd9ccf362961d079a421946", func := "ragpicker/ragpickerkeep.GraphWays", spec := "graphWays", unfollowed := true, recurses := true, apart := false, narrowed := true }
def GraphWaysUptoSaid : Prop := graphWaysUptoRow.holds Try.pinned (OpenSpec.upto graphWaysSpec)

/-- 'ragpickerkeep.GraphSteps', WHERE WHAT IT READS IS OF BULK AT MOST 1048576: true; the input reads as it did. -/
def graphStepsUptoRow : OpenClaim := { program := "ytmelhphhealomaa", sum := "51d65cb1c3b0aa5af6307dee71559fb1dc2307a1abd9ccf362961d079a421946", func := "ragpicker/ragpickerkeep.GraphSteps", spec := "graphSteps", unfollowed := true, recurses := true, apart := false, narrowed := true }
def GraphStepsUptoSaid : Prop := graphStepsUptoRow.holds Try.pinned (OpenSpec.upto graphStepsSpec)

/-- 'ragpickerlaw.GraphCanons', WHERE WHAT IT READS IS OF BULK AT MOST 1048576: true; the input reads as it did. -/
def graphCanonsUptoRow : OpenClaim := { program := "ytmelhphhealomaa", sum := "51d65cb1c3b0aa5af6307dee71559fb1dc2307a1abd9ccf362961d079a421946", func := "ragpicker/ragpickerlaw.GraphCanons", spec := "graphCanons", unfollowed := true, recurses := true, apart := false, narrowed := true }
def GraphCanonsUptoSaid : Prop := graphCanonsUptoRow.holds Try.pinned (OpenSpec.upto graphCanonsSpec)

/-- 'ragpickerkeep.GraphRenamed', WHERE WHAT IT READS IS OF BULK AT MOST 1048576: true; the input reads as it did. -/
def graphRenamedUptoRow : OpenClaim := { program := "ytmelhphhealomaa", sum := "51d65cb1c3b0aa5af6307dee71559fb1dc2307a1abd9ccf362961d079a421946", func := "ragpicker/ragpickerkeep.GraphRenamed", spec := "graphRenamed", unfollowed := true, recurses := true, apart := false, narrowed := true }
def GraphRenamedUptoSaid : Prop := graphRenamedUptoRow.holds Try.pinned (OpenSpec.upto graphRenamedSpec)

end Rows
end Go.Proofs.Ytmelhphhealomaa
