/-
  No cell of these rows narrows 'for every input' (looked for: loops, veiled, ifaces, maps, wideKeys, modest, calm, conditions, laid).
  DERIVED. THE GIVEN ROWS OF THIS SEAT. 3 by the template 'for every input the law returns true; each argument reads behind the call as it read before'; 0 by the template 'total and deterministic' (their statements: YtemjhdbmcdlpeaaTotals.lean).
  GIVEN WITH THE SEED: the statements are not yours to turn. If you find one false, say at which input.
  Laid BY PROGRAM, IN A SANDBOX (cutbox-rows.mjs): the forced cells as the released guide's own fill.sh prints them over the translation 5aa8038cfa3e1b3d… (all of the seat's roots in one cut). By AI agents, Wed Nov 11 2026. No macro, syntax, notation, axiom, sorry.
-/
import Derived.Test.YtemjhdbmcdlpeaaChecked
import GoSem.Claim
import GoSem.ClaimJoined
import GoSem.ClaimMapViews
import Derived.JoinedTies
import Derived.KernelRfl
namespace Go.Proofs.Ytemjhdbmcdlpeaa
/- THE CELL 'sum', in the pinned program and in every row, IS THE sha256 OF THE DUMP (.gsa) THAT YtemjhdbmcdlpeaaProg.lean LOADS. Nothing in Lean hashes anything: it is a label: what it is worth is what the hold of that sum in a sandbox is worth. -/
noncomputable def Try.pinned : Pinned := { name := "ytemjhdbmcdlpeaa", sum := "5aa8038cfa3e1b3dbb07bbaa05882c7354c54d6307acaad63aa6d9482b94fead", checked := Try.checked }
namespace Rows
def none {H : Type} : Left H := { results := [], args := [] }

/-- 'ragpickerlaw.FingersTells': WHATEVER THE INPUT: true; the input reads as it did. -/
def fingersTellsSpec : ChangeSpec := { name := "fingersTells", fn := fun _ => fun
  | [d1, d2] => { results := [.lit (.bool true)], args := [d1, d2] }
  | _ => none }
def fingersTellsRow : OpenClaim := { program := "ytemjhdbmcdlpeaa", sum := "5aa8038cfa3e1b3dbb07bbaa05882c7354c54d6307acaad63aa6d9482b94fead", func := "ragpicker/ragpickerlaw.FingersTells", spec := "fingersTells", unfollowed := true, recurses := true, apart := false }
def FingersTellsSaid : Prop := fingersTellsRow.holds Try.pinned (OpenSpec.ofChange fingersTellsSpec)

/-- ITS FALSE NEIGHBOUR: 'it returns false'. Refute it at one input. -/
def fingersTellsWrong : ChangeSpec := { name := "fingersTells", fn := fun _ => fun
  | [d1, d2] => { results := [.lit (.bool false)], args := [d1, d2] }
  | _ => none }
def FingersTellsWrongFalsely : Prop := fingersTellsRow.holds Try.pinned (OpenSpec.ofChange fingersTellsWrong)

/-- 'ragpickerkeep.FingersSame': WHATEVER THE INPUT: true; the input reads as it did. -/
def fingersSameSpec : ChangeSpec := { name := "fingersSame", fn := fun _ => fun
  | [d1, d2] => { results := [.lit (.bool true)], args := [d1, d2] }
  | _ => none }
def fingersSameRow : OpenClaim := { program := "ytemjhdbmcdlpeaa", sum := "5aa8038cfa3e1b3dbb07bbaa05882c7354c54d6307acaad63aa6d9482b94fead", func := "ragpicker/ragpickerkeep.FingersSame", spec := "fingersSame", unfollowed := true, recurses := true, apart := false }
def FingersSameSaid : Prop := fingersSameRow.holds Try.pinned (OpenSpec.ofChange fingersSameSpec)

/-- ITS FALSE NEIGHBOUR: 'it returns false'. Refute it at one input. -/
def fingersSameWrong : ChangeSpec := { name := "fingersSame", fn := fun _ => fun
  | [d1, d2] => { results := [.lit (.bool false)], args := [d1, d2] }
  | _ => none }
def FingersSameWrongFalsely : Prop := fingersSameRow.holds Try.pinned (OpenSpec.ofChange fingersSameWrong)

/-- 'ragpickerkeep.FingersFew': WHATEVER THE INPUT: true; the input reads as it did. -/
def fingersFewSpec : ChangeSpec := { name := "fingersFew", fn := fun _ => fun
  | [d1, d2] => { results := [.lit (.bool true)], args := [d1, d2] }
  | _ => none }
def fingersFewRow : OpenClaim := { program := "ytemjhdbmcdlpeaa", sum := "5aa8038cfa3e1b3dbb07bbaa05882c7354c54d6307acaad63aa6d9482b94fead", func := "ragpicker/ragpickerkeep.FingersFew", spec := "fingersFew", unfollowed := true, recurses := true, apart := false }
def FingersFewSaid : Prop := fingersFewRow.holds Try.pinned (OpenSpec.ofChange fingersFewSpec)

/-- ITS FALSE NEIGHBOUR: 'it returns false'. Refute it at one input. -/
def fingersFewWrong : ChangeSpec := { name := "fingersFew", fn := fun _ => fun
  | [d1, d2] => { results := [.lit (.bool false)], args := [d1, d2] }
  | _ => none }
def FingersFewWrongFalsely : Prop := fingersFewRow.holds Try.pinned (OpenSpec.ofChange fingersFewWrong)

/- THE SECOND FORM. 'bulk': how many values and letters a reading holds, each counted each time it is reached (what is shared counts as often as it is met; a slice's spare places count too). A statement '..UptoSaid' is the law's where the arguments, and the package variables that the reading takes, are together of bulk at most 1048576: NARROWER than '..Said'. Prove '..Said' where nothing that the law and all that it calls make is longer than what came in: it says more and counts as full. Else prove '..UptoSaid'. A law counts once. -/
mutual
def uptoBulk {H : Type} : DataW H → Nat
  | .lit (.string bytes) => bytes.length + 1
  | .lit _ => 1
  | .nil => 1
  | .ptr d => uptoBulk d + 1
  | .slice elems spare => uptoBulkAll elems + uptoBulkAll spare + 1
  | .agg parts => uptoBulkAll parts + 1
  | .iface _ d => uptoBulk d + 1
  | .map entries => uptoBulkEntries entries + 1
  | .held _ => 1
def uptoBulkAll {H : Type} : List (DataW H) → Nat
  | [] => 0
  | d :: r => uptoBulk d + uptoBulkAll r
def uptoBulkEntries {H : Type} : List (Lit × DataW H) → Nat
  | [] => 0
  | x :: r => uptoBulkEntry x + uptoBulkEntries r
def uptoBulkEntry {H : Type} : Lit × DataW H → Nat
  | (.string bytes, d) => bytes.length + uptoBulk d + 1
  | (_, d) => uptoBulk d + 1
 end
def uptoSmall : (H : Type) → List (DataW H) → Bool := fun _ ds => decide (uptoBulkAll ds ≤ 1048576)
def OpenSpec.upto (s : _root_.Go.ChangeSpec) : _root_.Go.OpenSpec := { _root_.Go.OpenSpec.ofChange s with cond := some uptoSmall }

/-- 'ragpickerlaw.FingersTells', WHERE WHAT IT READS IS OF BULK AT MOST 1048576: true; the input reads as it did. -/
def fingersTellsUptoRow : OpenClaim := { program := "ytemjhdbmcdlpeaa", sum := "5aa8038cfa3e1b3dbb07bbaa05882c7354c54d6307acaad63aa6d9482b94fead", func := "ragpicker/ragpickerlaw.FingersTells", spec := "fingersTells", unfollowed := true, recurses := true, apart := false, narrowed := true }
def FingersTellsUptoSaid : Prop := fingersTellsUptoRow.holds Try.pinned (OpenSpec.upto fingersTellsSpec)

/-- 'ragpickerkeep.FingersSame', WHERE WHAT IT READS IS OF BULK AT MOST 1048576: true; the input reads as it did. -/
def fingersSameUptoRow : OpenClaim := { program := "ytemjhdbmcdlpeaa", sum := "5aa8038cfa3e1b3dbb07bbaa05882c7354c54d6307acaad63aa6d9482b94fead", func := "ragpicker/ragpickerkeep.FingersSame", spec := "fingersSame", unfollowed := true, recurses := true, apart := false, narrowed := true }
def FingersSameUptoSaid : Prop := fingersSameUptoRow.holds Try.pinned (OpenSpec.upto fingersSameSpec)

/-- 'ragpickerkeep.FingersFew', WHERE WHAT IT READS IS OF BULK AT MOST 1048576: true; the input reads as it did. -/
def fingersFewUptoRow : OpenClaim := { program := "ytemjhdbmcdlpeaa", sum := "5aa8038cfa3e1b3dbb07bbaa05882c7354c54d6307acaad63aa6d9482b94fead", func := "ragpicker/ragpickerkeep.FingersFew", spec := "fingersFew", unfollowed := true, recurses := true, apart := false, narrowed := true }
def FingersFewUptoSaid : Prop := fingersFewUptoRow.holds Try.pinned (OpenSpec.upto fingersFewSpec)

end Rows
end Go.Proofs.Ytemjhdbmcdlpeaa
