/-
  No cell of these rows narrows 'for every input' (looked for: loops, veiled, ifaces, maps, wideKeys, modest, calm, conditions, laid).
  DERIVED. THE GIVEN ROWS OF THIS SEAT. 3 by the template 'for every input the law returns true; each argument reads behind the call as it read before'; 0 by the template 'total and deterministic' (their statements: YtlolcdgbidboeaaTotals.lean).
  GIVEN WITH THE SEED: the statements are not yours to turn. If you find one false, say at which input.
  Laid BY PROGRAM, IN A SANDBOX (cutbox-rows.mjs): the forced cells as the released guide's own fill.sh prints them over the translation 855236f5b418d2fe… (all of the seat's roots in one cut). By AI agents, Wed Nov 11 2026. No macro, syntax, notation, axiom, sorry.
-/
import Derived.Test.YtlolcdgbidboeaaChecked
import GoSem.Claim
import GoSem.ClaimJoined
import GoSem.ClaimMapViews
import Derived.JoinedTies
import Derived.KernelRfl
namespace Go.Proofs.Ytlolcdgbidboeaa
/- THE CELL 'sum', in the pinned program and in every row, IS THE sha256 OF THE DUMP (.gsa) THAT YtlolcdgbidboeaaProg.lean LOADS. Nothing in Lean hashes anything: it is a label: what it is worth is what the hold of that sum in a sandbox is worth. -/
noncomputable def Try.pinned : Pinned := { name := "ytlolcdgbidboeaa", sum := "855236f5b418d2fe4bc4889a8b360d750aeaf17a58d31ed01f055cda059ac7e1", checked := Try.checked }
namespace Rows
def none {H : Type} : Left H := { results := [], args := [] }

/-- 'ragpickerlaw.IdealPlays': WHATEVER THE INPUT: true; the input reads as it did. -/
def idealPlaysSpec : ChangeSpec := { name := "idealPlays", fn := fun _ => fun
  | [d1, d2] => { results := [.lit (.bool true)], args := [d1, d2] }
  | _ => none }
def idealPlaysRow : OpenClaim := { program := "ytlolcdgbidboeaa", sum := "855236f5b418d2fe4bc4889a8b360d750aeaf17a58d31ed01f055cda059ac7e1", func := "ragpicker/ragpickerlaw.IdealPlays", spec := "idealPlays", unfollowed := true, recurses := true, apart := false }
def IdealPlaysSaid : Prop := idealPlaysRow.holds Try.pinned (OpenSpec.ofChange idealPlaysSpec)

/-- ITS FALSE NEIGHBOUR: 'it returns false'. Refute it at one input. -/
def idealPlaysWrong : ChangeSpec := { name := "idealPlays", fn := fun _ => fun
  | [d1, d2] => { results := [.lit (.bool false)], args := [d1, d2] }
  | _ => none }
def IdealPlaysWrongFalsely : Prop := idealPlaysRow.holds Try.pinned (OpenSpec.ofChange idealPlaysWrong)

/-- 'ragpickerkeep.IdealSplits': WHATEVER THE INPUT: true; the input reads as it did. -/
def idealSplitsSpec : ChangeSpec := { name := "idealSplits", fn := fun _ => fun
  | [d1, d2, d3] => { results := [.lit (.bool true)], args := [d1, d2, d3] }
  | _ => none }
def idealSplitsRow : OpenClaim := { program := "ytlolcdgbidboeaa", sum := "855236f5b418d2fe4bc4889a8b360d750aeaf17a58d31ed01f055cda059ac7e1", func := "ragpicker/ragpickerkeep.IdealSplits", spec := "idealSplits", unfollowed := true, recurses := true, apart := false }
def IdealSplitsSaid : Prop := idealSplitsRow.holds Try.pinned (OpenSpec.ofChange idealSplitsSpec)

/-- ITS FALSE NEIGHBOUR: 'it returns false'. Refute it at one input. -/
def idealSplitsWrong : ChangeSpec := { name := "idealSplits", fn := fun _ => fun
  | [d1, d2, d3] => { results := [.lit (.bool false)], args := [d1, d2, d3] }
  | _ => none }
def IdealSplitsWrongFalsely : Prop := idealSplitsRow.holds Try.pinned (OpenSpec.ofChange idealSplitsWrong)

/-- 'ragpickerkeep.IdealLike': WHATEVER THE INPUT: true; the input reads as it did. -/
def idealLikeSpec : ChangeSpec := { name := "idealLike", fn := fun _ => fun
  | [d1, d2, d3] => { results := [.lit (.bool true)], args := [d1, d2, d3] }
  | _ => none }
def idealLikeRow : OpenClaim := { program := "ytlolcdgbidboeaa", sum := "855236f5b418d2fe4bc4889a8b360d750aeaf17a58d31ed01f055cda059ac7e1", func := "ragpicker/ragpickerkeep.IdealLike", spec := "idealLike", unfollowed := true, recurses := true, apart := false }
def IdealLikeSaid : Prop := idealLikeRow.holds Try.pinned (OpenSpec.ofChange idealLikeSpec)

/-- ITS FALSE NEIGHBOUR: 'it returns false'. Refute it at one input. -/
def idealLikeWrong : ChangeSpec := { name := "idealLike", fn := fun _ => fun
  | [d1, d2, d3] => { results := [.lit (.bool false)], args := [d1, d2, d3] }
  | _ => none }
def IdealLikeWrongFalsely : Prop := idealLikeRow.holds Try.pinned (OpenSpec.ofChange idealLikeWrong)

/- THE SECOND FORM. 'bulk': how many values and letters a reading holds, each counted each time it is reached (what is shared counts as often as it is met; a slice's spare places count too). A statement '..UptoSaid' is the law's where the arguments, and the package variables that the reading takes, are together of bulk at most 1048576: NARROWER than '..Said'. Prove '..Said' where nothing that the law and all that it calls make is longer than what came in: it says more and counts as full. Else prove '..UptoSaid'. A law counts once. -/
mutual
def uptoBulk {H : Type} : DataW H → Nat
  | .lit (.string bytes) => bytes.length + 1
  | .lit _ => 1
  | .nil => 1
  | .ptr d => uptoBulk d + 1
  | .slice elems spare => uptoBulkAll elems + uptoBulkAll spare + 1
  | .agg parts => uptoBulkAll parts + 1
  | .iface _ d => uptoBulk d + 1
  | .map entries => uptoBulkEntries entries + 1
  | .held _ => 1
def uptoBulkAll {H : Type} : List (DataW H) → Nat
  | [] => 0
  | d :: r => uptoBulk d + uptoBulkAll r
def uptoBulkEntries {H : Type} : List (Lit × DataW H) → Nat
  | [] => 0
  | x :: r => uptoBulkEntry x + uptoBulkEntries r
def uptoBulkEntry {H : Type} : Lit × DataW H → Nat
  | (.string bytes, d) => bytes.length + uptoBulk d + 1
  | (_, d) => uptoBulk d + 1
 end
def uptoSmall : (H : Type) → List (DataW H) → Bool := fun _ ds => decide (uptoBulkAll ds ≤ 1048576)
def OpenSpec.upto (s : _root_.Go.ChangeSpec) : _root_.Go.OpenSpec := { _root_.Go.OpenSpec.ofChange s with cond := some uptoSmall }

/-- 'ragpickerlaw.IdealPlays', WHERE WHAT IT READS IS OF BULK AT MOST 1048576: true; the input reads as it did. -/
def idealPlaysUptoRow : OpenClaim := { program := "ytlolcdgbidboeaa", sum := "855236f5b418d2fe4bc4889a8b360d750aeaf17a58d31ed01f055cda059ac7e1", func := "ragpicker/ragpickerlaw.IdealPlays", spec := "idealPlays", unfollowed := true, recurses := true, apart := false, narrowed := true }
def IdealPlaysUptoSaid : Prop := idealPlaysUptoRow.holds Try.pinned (OpenSpec.upto idealPlaysSpec)

/-- 'ragpickerkeep.IdealSplits', WHERE WHAT IT READS IS OF BULK AT MOST 1048576: true; the input reads as it did. -/
def idealSplitsUptoRow : OpenClaim := { program := "ytlolcdgbidboeaa", sum := "855236f5b418d2fe4bc4889a8b360d750aeaf17a58d31ed01f055cda059ac7e1", func := "ragpicker/ragpickerkeep.IdealSplits", spec := "idealSplits", unfollowed := true, recurses := true, apart := false, narrowed := true }
def IdealSplitsUptoSaid : Prop := idealSplitsUptoRow.holds Try.pinned (OpenSpec.upto idealSplitsSpec)

/-- 'ragpickerkeep.IdealLike', WHERE WHAT IT READS IS OF BULK AT MOST 1048576: true; the input reads as it did. -/
def idealLikeUptoRow : OpenClaim := { program := "ytlolcdgbidboeaa", sum := "855236f5b418d2fe4bc4889a8b360d750aeaf17a58d31ed01f055cda059ac7e1", func := "ragpicker/ragpickerkeep.IdealLike", spec := "idealLike", unfollowed := true, recurses := true, apart := false, narrowed := true }
def IdealLikeUptoSaid : Prop := idealLikeUptoRow.holds Try.pinned (OpenSpec.upto idealLikeSpec)

end Rows
end Go.Proofs.Ytlolcdgbidboeaa
