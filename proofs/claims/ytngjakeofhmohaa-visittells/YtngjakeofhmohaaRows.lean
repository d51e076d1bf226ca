/-
  No cell of these rows narrows 'for every input' (looked for: loops, veiled, ifaces, maps, wideKeys, modest, calm, conditions, laid).
  DERIVED. THE GIVEN ROWS OF THIS SEAT. 3 by the template 'for every input the law returns true; each argument reads behind the call as it read before'; 0 by the template 'total and deterministic' (their statements: YtngjakeofhmohaaTotals.lean).
  GIVEN WITH THE SEED: the statements are not yours to turn. If you find one false, say at which input.
  Laid BY PROGRAM, IN A SANDBOX (cutbox-rows.mjs): the forced cells as the released guide's own fill.sh prints them over the translation 772ad65ae1fa633c… (all of the seat's roots in one cut). By AI agents, Wed Nov 11 2026. No macro, syntax, notation, axiom, sorry.
-/
import Derived.Test.YtngjakeofhmohaaChecked
import GoSem.Claim
import GoSem.ClaimJoined
import GoSem.ClaimMapViews
import Derived.JoinedTies
import Derived.KernelRfl
namespace Go.Proofs.Ytngjakeofhmohaa
/- THE CELL 'sum', in the pinned program and in every row, IS THE sha256 OF THE DUMP (.gsa) THAT YtngjakeofhmohaaProg.lean LOADS. Nothing in Lean hashes anything: it is a label: what it is worth is what the hold of that sum in a sandbox is worth. -/
noncomputable def Try.pinned : Pinned := { name := "ytngjakeofhmohaa", sum := "772ad65ae1fa633c4e6465ae101a4a2aafeaed6fc9bae6846e9381fd7c22ae3e", checked := Try.checked }
namespace Rows
def none {H : Type} : Left H := { results := [], args := [] }

/-- 'ragpickerlaw.VisitTells': WHATEVER THE INPUT: true; the input reads as it did. -/
def visitTellsSpec : ChangeSpec := { name := "visitTells", fn := fun _ => fun
  | [d] => { results := [.lit (.bool true)], args := [d] }
  | _ => none }
def visitTellsRow : OpenClaim := { program := "ytngjakeofhmohaa", sum := "772ad65ae1fa633c4e6465ae101a4a2aafeaed6fc9bae6846e9381fd7c22ae3e", func := "ragpicker/ragpickerlaw.VisitTells", spec := "visitTells", unfollowed := true, recurses := true, apart := false }
def VisitTellsSaid : Prop := visitTellsRow.holds Try.pinned (OpenSpec.ofChange visitTellsSpec)

/-- ITS FALSE NEIGHBOUR: 'it returns false'. Refute it at one input. -/
def visitTellsWrong : ChangeSpec := { name := "visitTells", fn := fun _ => fun
  | [d] => { results := [.lit (.bool false)], args := [d] }
  | _ => none }
def VisitTellsWrongFalsely : Prop := visitTellsRow.holds Try.pinned (OpenSpec.ofChange visitTellsWrong)

/-- 'ragpickerkeep.VisitRestores': WHATEVER THE INPUT: true; the input reads as it did. -/
def visitRestoresSpec : ChangeSpec := { name := "visitRestores", fn := fun _ => fun
  | [d] => { results := [.lit (.bool true)], args := [d] }
  | _ => none }
def visitRestoresRow : OpenClaim := { program := "ytngjakeofhmohaa", sum := "772ad65ae1fa633c4e6465ae101a4a2aafeaed6fc9bae6846e9381fd7c22ae3e", func := "ragpicker/ragpickerkeep.VisitRestores", spec := "visitRestores", unfollowed := true, recurses := true, apart := false }
def VisitRestoresSaid : Prop := visitRestoresRow.holds Try.pinned (OpenSpec.ofChange visitRestoresSpec)

/-- ITS FALSE NEIGHBOUR: 'it returns false'. Refute it at one input. -/
def visitRestoresWrong : ChangeSpec := { name := "visitRestores", fn := fun _ => fun
  | [d] => { results := [.lit (.bool false)], args := [d] }
  | _ => none }
def VisitRestoresWrongFalsely : Prop := visitRestoresRow.holds Try.pinned (OpenSpec.ofChange visitRestoresWrong)

/-- 'ragpickerkeep.VisitOnce': WHATEVER THE INPUT: true; the input reads as it did. -/
def visitOnceSpec : ChangeSpec := { name := "visitOnce", fn := fun _ => fun
  | [d] => { results := [.lit (.bool true)], args := [d] }
  | _ => none }
def visitOnceRow : OpenClaim := { program := "ytngjakeofhmohaa", sum := "772ad65ae1fa633c4e6465ae101a4a2aafeaed6fc9bae6846e9381fd7c22ae3e", func := "ragpicker/ragpickerkeep.VisitOnce", spec := "visitOnce", unfollowed := true, recurses := true, apart := false }
def VisitOnceSaid : Prop := visitOnceRow.holds Try.pinned (OpenSpec.ofChange visitOnceSpec)

/-- ITS FALSE NEIGHBOUR: 'it returns false'. Refute it at one input. -/
def visitOnceWrong : ChangeSpec := { name := "visitOnce", fn := fun _ => fun
  | [d] => { results := [.lit (.bool false)], args := [d] }
  | _ => none }
def VisitOnceWrongFalsely : Prop := visitOnceRow.holds Try.pinned (OpenSpec.ofChange visitOnceWrong)

/- THE SECOND FORM. 'bulk': how many values and letters a reading holds, each counted each time it is reached (what is shared counts as often as it is met; a slice's spare places count too). A statement '..UptoSaid' is the law's where the arguments, and the package variables that the reading takes, are together of bulk at most 1048576: NARROWER than '..Said'. Prove '..Said' where nothing that the law and all that it calls make is longer than what came in: it says more and counts as full. Else prove '..UptoSaid'. A law counts once. -/
mutual
def uptoBulk {H : Type} : DataW H → Nat
  | .lit (.string bytes) => bytes.length + 1
  | .lit _ => 1
  | .nil => 1
  | .ptr d => uptoBulk d + 1
  | .slice elems spare => uptoBulkAll elems + uptoBulkAll spare + 1
  | .agg parts => uptoBulkAll parts + 1
  | .iface _ d => uptoBulk d + 1
  | .map entries => uptoBulkEntries entries + 1
  | .held _ => 1
def uptoBulkAll {H : Type} : List (DataW H) → Nat
  | [] => 0
  | d :: r => uptoBulk d + uptoBulkAll r
def uptoBulkEntries {H : Type} : List (Lit × DataW H) → Nat
  | [] => 0
  | x :: r => uptoBulkEntry x + uptoBulkEntries r
def uptoBulkEntry {H : Type} : Lit × DataW H → Nat
  | (.string bytes, d) => bytes.length + uptoBulk d + 1
  | (_, d) => uptoBulk d + 1
 end
def uptoSmall : (H : Type) → List (DataW H) → Bool := fun _ ds => decide (uptoBulkAll ds ≤ 1048576)
def OpenSpec.upto (s : _root_.Go.ChangeSpec) : _root_.Go.OpenSpec := { _root_.Go.OpenSpec.ofChange s with cond := some uptoSmall }

/-- 'ragpickerlaw.VisitTells', WHERE WHAT IT READS IS OF BULK AT MOST 1048576: true; the input reads as it did. -/
def visitTellsUptoRow : OpenClaim := { program := "ytngjakeofhmohaa", sum := "772ad65ae1fa633c4e6465ae101a4a2aafeaed6fc9bae6846e9381fd7c22ae3e", func := "ragpicker/ragpickerlaw.VisitTells", spec := "visitTells", unfollowed := true, recurses := true, apart := false, narrowed := true }
def VisitTellsUptoSaid : Prop := visitTellsUptoRow.holds Try.pinned (OpenSpec.upto visitTellsSpec)

/-- 'ragpickerkeep.VisitRestores', WHERE WHAT IT READS IS OF BULK AT MOST 1048576: true; the input reads as it did. -/
def visitRestoresUptoRow : OpenClaim := { program := "ytngjakeofhmohaa", sum := "772ad65ae1fa633c4e6465ae101a4a2aafeaed6fc9bae6846e9381fd7c22ae3e", func := "ragpicker/ragpickerkeep.VisitRestores", spec := "visitRestores", unfollowed := true, recurses := true, apart := false, narrowed := true }
def VisitRestoresUptoSaid : Prop := visitRestoresUptoRow.holds Try.pinned (OpenSpec.upto visitRestoresSpec)

/-- 'ragpickerkeep.VisitOnce', WHERE WHAT IT READS IS OF BULK AT MOST 1048576: true; the input reads as it did. -/
def visitOnceUptoRow : OpenClaim := { program := "ytngjakeofhmohaa", sum := "772ad65ae1fa633c4e6465ae101a4a2aafeaed6fc9bae6846e9381fd7c22ae3e", func := "ragpicker/ragpickerkeep.VisitOnce", spec := "visitOnce", unfollowed := true, recurses := true, apart := false, narrowed := true }
def VisitOnceUptoSaid : Prop := visitOnceUptoRow.holds Try.pinned (OpenSpec.upto visitOnceSpec)

end Rows
end Go.Proofs.Ytngjakeofhmohaa
