/-
  No cell of these rows narrows 'for every input' (looked for: loops, veiled, ifaces, maps, wideKeys, modest, calm, conditions, laid).
  DERIVED. THE GIVEN ROWS OF THIS SEAT. 5 by the template 'for every input the law returns true; each argument reads behind the call as it read before'; 0 by the template 'total and deterministic' (their statements: YtjhndbfhiknngaaTotals.lean).
  GIVEN WITH THE SEED: the statements are not yours to turn. If you find one false, say at which input.
  Laid BY PROGRAM, IN A SANDBOX (cutbox-rows.mjs): the forced cells as the released guide's own fill.sh prints them over the translation 82eabf6ad18f9cb2… (all of the seat's roots in one cut). By AI agents, Wed Nov 11 2026. No macro, syntax, notation, axiom, sorry.
-/
import Derived.Test.YtjhndbfhiknngaaChecked
import GoSem.Claim
import GoSem.ClaimJoined
import GoSem.ClaimMapViews
import Derived.JoinedTies
import Derived.KernelRfl
namespace Go.Proofs.Ytjhndbfhiknngaa
/- THE CELL 'sum', in the pinned program and in every row, IS THE sha256 OF THE DUMP (.gsa) THAT YtjhndbfhiknngaaProg.lean LOADS. Nothing in Lean hashes anything: it is a label: what it is worth is what the hold of that sum in a sandbox is worth. -/
noncomputable def Try.pinned : Pinned := { name := "ytjhndbfhiknngaa", sum := "82eabf6ad18f9cb2e068c06875945e396c2a0ad4f35511ec1b6eba6117ba678b", checked := Try.checked }
namespace Rows
def none {H : Type} : Left H := { results := [], args := [] }

/-- 'ragpickerlaw.MarkTells': WHATEVER THE INPUT: true; the input reads as it did. -/
def markTellsSpec : ChangeSpec := { name := "markTells", fn := fun _ => fun
  | [d1, d2] => { results := [.lit (.bool true)], args := [d1, d2] }
  | _ => none }
def markTellsRow : OpenClaim := { program := "ytjhndbfhiknngaa", sum := "82eabf6ad18f9cb2e068c06875945e396c2a0ad4f35511ec1b6eba6117ba678b", func := "ragpicker/ragpickerlaw.MarkTells", spec := "markTells", unfollowed := true, recurses := true, apart := false }
def MarkTellsSaid : Prop := markTellsRow.holds Try.pinned (OpenSpec.ofChange markTellsSpec)

/-- ITS FALSE NEIGHBOUR: 'it returns false'. Refute it at one input. -/
def markTellsWrong : ChangeSpec := { name := "markTells", fn := fun _ => fun
  | [d1, d2] => { results := [.lit (.bool false)], args := [d1, d2] }
  | _ => none }
def MarkTellsWrongFalsely : Prop := markTellsRow.holds Try.pinned (OpenSpec.ofChange markTellsWrong)

/-- 'ragpickerkeep.MarkRoom': WHATEVER THE INPUT: true; the input reads as it did. -/
def markRoomSpec : ChangeSpec := { name := "markRoom", fn := fun _ => fun
  | [d1, d2, d3] => { results := [.lit (.bool true)], args := [d1, d2, d3] }
  | _ => none }
def markRoomRow : OpenClaim := { program := "ytjhndbfhiknngaa", sum := "82eabf6ad18f9cb2e068c06875945e396c2a0ad4f35511ec1b6eba6117ba678b", func := "ragpicker/ragpickerkeep.MarkRoom", spec := "markRoom", unfollowed := true, recurses := true, apart := false }
def MarkRoomSaid : Prop := markRoomRow.holds Try.pinned (OpenSpec.ofChange markRoomSpec)

/-- ITS FALSE NEIGHBOUR: 'it returns false'. Refute it at one input. -/
def markRoomWrong : ChangeSpec := { name := "markRoom", fn := fun _ => fun
  | [d1, d2, d3] => { results := [.lit (.bool false)], args := [d1, d2, d3] }
  | _ => none }
def MarkRoomWrongFalsely : Prop := markRoomRow.holds Try.pinned (OpenSpec.ofChange markRoomWrong)

/-- 'ragpickerkeep.MarkLives': WHATEVER THE INPUT: true; the input reads as it did. -/
def markLivesSpec : ChangeSpec := { name := "markLives", fn := fun _ => fun
  | [d] => { results := [.lit (.bool true)], args := [d] }
  | _ => none }
def markLivesRow : OpenClaim := { program := "ytjhndbfhiknngaa", sum := "82eabf6ad18f9cb2e068c06875945e396c2a0ad4f35511ec1b6eba6117ba678b", func := "ragpicker/ragpickerkeep.MarkLives", spec := "markLives", unfollowed := true, recurses := true, apart := false }
def MarkLivesSaid : Prop := markLivesRow.holds Try.pinned (OpenSpec.ofChange markLivesSpec)

/-- ITS FALSE NEIGHBOUR: 'it returns false'. Refute it at one input. -/
def markLivesWrong : ChangeSpec := { name := "markLives", fn := fun _ => fun
  | [d] => { results := [.lit (.bool false)], args := [d] }
  | _ => none }
def MarkLivesWrongFalsely : Prop := markLivesRow.holds Try.pinned (OpenSpec.ofChange markLivesWrong)

/-- 'ragpickerkeep.MarkSwept': WHATEVER THE INPUT: true; the input reads as it did. -/
def markSweptSpec : ChangeSpec := { name := "markSwept", fn := fun _ => fun
  | [d] => { results := [.lit (.bool true)], args := [d] }
  | _ => none }
def markSweptRow : OpenClaim := { program := "ytjhndbfhiknngaa", sum := "82eabf6ad18f9cb2e068c06875945e396c2a0ad4f35511ec1b6eba6117ba678b", func := "ragpicker/ragpickerkeep.MarkSwept", spec := "markSwept", unfollowed := true, recurses := true, apart := false }
def MarkSweptSaid : Prop := markSweptRow.holds Try.pinned (OpenSpec.ofChange markSweptSpec)

/-- ITS FALSE NEIGHBOUR: 'it returns false'. Refute it at one input. -/
def markSweptWrong : ChangeSpec := { name := "markSwept", fn := fun _ => fun
  | [d] => { results := [.lit (.bool false)], args := [d] }
  | _ => none }
def MarkSweptWrongFalsely : Prop := markSweptRow.holds Try.pinned (OpenSpec.ofChange markSweptWrong)

/-- 'ragpickerkeep.MarkTwice': WHATEVER THE INPUT: true; the input reads as it did. -/
def markTwiceSpec : ChangeSpec := { name := "markTwice", fn := fun _ => fun
  | [d1, d2] => { results := [.lit (.bool true)], args := [d1, d2] }
  | _ => none }
def markTwiceRow : OpenClaim := { program := "ytjhndbfhiknngaa", sum := "82eabf6ad18f9cb2e068c06875945e396c2a0ad4f35511ec1b6eba6117ba678b", func := "ragpicker/ragpickerkeep.MarkTwice", spec := "markTwice", unfollowed := true, recurses := true, apart := false }
def MarkTwiceSaid : Prop := markTwiceRow.holds Try.pinned (OpenSpec.ofChange markTwiceSpec)

/-- ITS FALSE NEIGHBOUR: 'it returns false'. Refute it at one input. -/
def markTwiceWrong : ChangeSpec := { name := "markTwice", fn := fun _ => fun
  | [d1, d2] => { results := [.lit (.bool false)], args := [d1, d2] }
  | _ => none }
def MarkTwiceWrongFalsely : Prop := markTwiceRow.holds Try.pinned (OpenSpec.ofChange markTwiceWrong)

/- THE SECOND FORM. 'bulk': how many values and letters a reading holds, each counted each time it is reached (what is shared counts as often as it is met; a slice's spare places count too). A statement '..UptoSaid' is the law's where the arguments, and the package variables that the reading takes, are together of bulk at most 1048576: NARROWER than '..Said'. Prove '..Said' where nothing that the law and all that it calls make is longer than what came in: it says more and counts as full. Else prove '..UptoSaid'. A law counts once. -/
mutual
def uptoBulk {H : Type} : DataW H → Nat
  | .lit (.string bytes) => bytes.length + 1
  | .lit _ => 1
  | .nil => 1
  | .ptr d => uptoBulk d + 1
  | .slice elems spare => uptoBulkAll elems + uptoBulkAll spare + 1
  | .agg parts => uptoBulkAll parts + 1
  | .iface _ d => uptoBulk d + 1
  | .map entries => uptoBulkEntries entries + 1
  | .held _ => 1
def uptoBulkAll {H : Type} : List (DataW H) → Nat
  | [] => 0
  | d :: r => uptoBulk d + uptoBulkAll r
def uptoBulkEntries {H : Type} : List (Lit × DataW H) → Nat
  | [] => 0
  | x :: r => uptoBulkEntry x + uptoBulkEntries r
def uptoBulkEntry {H : Type} : Lit × DataW H → Nat
  | (.string bytes, d) => bytes.length + uptoBulk d + 1
  | (_, d) => uptoBulk d + 1
 end
def uptoSmall : (H : Type) → List (DataW H) → Bool := fun _ ds => decide (uptoBulkAll ds ≤ 1048576)
def OpenSpec.upto (s : _root_.Go.ChangeSpec) : _root_.Go.OpenSpec := { _root_.Go.OpenSpec.ofChange s with cond := some uptoSmall }

/-- 'ragpickerlaw.MarkTells', WHERE WHAT IT READS IS OF BULK AT MOST 1048576: true; the input reads as it did. -/
def markTellsUptoRow : OpenClaim := { program := "ytjhndbfhiknngaa", sum := "82eabf6ad18f9cb2e068c06875945e396c2a0ad4f35511ec1b6eba6117ba678b", func := "ragpicker/ragpickerlaw.MarkTells", spec := "markTells", unfollowed := true, recurses := true, apart := false, narrowed := true }
def MarkTellsUptoSaid : Prop := markTellsUptoRow.holds Try.pinned (OpenSpec.upto markTellsSpec)

/-- 'ragpickerkeep.MarkRoom', WHERE WHAT IT READS IS OF BULK AT MOST 1048576: true; the input reads as it did. -/
def markRoomUptoRow : OpenClaim := { program := "ytjhndbfhiknngaa", sum := "82eabf6ad18f9cb2e068c06875945e396c2a0ad4f35511ec1b6eba6117ba678b", func := "ragpicker/ragpickerkeep.MarkRoom", spec := "markRoom", unfollowed := true, recurses := true, apart := false, narrowed := true }
def MarkRoomUptoSaid : Prop := markRoomUptoRow.holds Try.pinned (OpenSpec.upto markRoomSpec)

/-- 'ragpickerkeep.MarkLives', WHERE WHAT IT READS IS OF BULK AT MOST 1048576: true; the input reads as it did. -/
def markLivesUptoRow : OpenClaim := { program := "ytjhndbfhiknngaa", sum := "82eabf6ad18f9cb2e068c06875945e396c2a0ad4f35511ec1b6eba6117ba678b", func := "ragpicker/ragpickerkeep.MarkLives", spec := "markLives", unfollowed := true, recurses := true, apart := false, narrowed := true }
def MarkLivesUptoSaid : Prop := markLivesUptoRow.holds Try.pinned (OpenSpec.upto markLivesSpec)

/-- 'ragpickerkeep.MarkSwept', WHERE WHAT IT READS IS OF BULK AT MOST 1048576: true; the input reads as it did. -/
def markSweptUptoRow : OpenClaim := { program := "ytjhndbfhiknngaa", sum := "82eabf6ad18f9cb2e068c06875945e396c2a0ad4f35511ec1b6eba6117ba678b", func := "ragpicker/ragpickerkeep.MarkSwept", spec := "markSwept", unfollowed := true, recurses := true, apart := false, narrowed := true }
def MarkSweptUptoSaid : Prop := markSweptUptoRow.holds Try.pinned (OpenSpec.upto markSweptSpec)

/-- 'ragpickerkeep.MarkTwice', WHERE WHAT IT READS IS OF BULK AT MOST 1048576: true; the input reads as it did. -/
def markTwiceUptoRow : OpenClaim := { program := "ytjhndbfhiknngaa", sum := "82eabf6ad18f9cb2e068c06875945e396c2a0ad4f35511ec1b6eba6117ba678b", func := "ragpicker/ragpickerkeep.MarkTwice", spec := "markTwice", unfollowed := true, recurses := true, apart := false, narrowed := true }
def MarkTwiceUptoSaid : Prop := markTwiceUptoRow.holds Try.pinned (OpenSpec.upto markTwiceSpec)

end Rows
end Go.Proofs.Ytjhndbfhiknngaa
