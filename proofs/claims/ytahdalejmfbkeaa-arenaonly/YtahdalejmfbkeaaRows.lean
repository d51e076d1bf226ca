/-
  No cell of these rows narrows 'for every input' (looked for: loops, veiled, ifaces, maps, wideKeys, modest, calm, conditions, laid).
  DERIVED. THE GIVEN ROWS OF THIS SEAT. 5 by the template 'for every input the law returns true; each argument reads behind the call as it read before'; 0 by the template 'total and deterministic' (their statements: YtahdalejmfbkeaaTotals.lean).
  GIVEN WITH THE SEED: the statements are not yours to turn. If you find one false, say at which input.
  Laid BY PROGRAM, IN A SANDBOX (cutbox-rows.mjs): the forced cells as the released guide's own fill.sh prints them over the translation 5cf370938d09b0dc… (all of the seat's roots in one cut). By AI agents, Wed Nov 11 2026. No macro, syntax, notation, axiom, sorry.
-/
import Derived.Test.YtahdalejmfbkeaaChecked
import GoSem.Claim
import GoSem.ClaimJoined
import GoSem.ClaimMapViews
import Derived.JoinedTies
import Derived.KernelRfl
namespace Go.Proofs.Ytahdalejmfbkeaa
/- THE CELL 'sum', in the pinned program and in every row, IS THE sha256 OF THE DUMP (.gsa) THAT YtahdalejmfbkeaaProg.lean LOADS. Nothing in Lean hashes anything: it is a label: what it is worth is what the hold of that sum in a sandbox is worth. -/
noncomputable def Try.pinned : Pinned := { name := "ytahdalejmfbkeaa", sum := "5cf370938d09b0dce5f594dcf56ffb72f946831ae0a41a7e2244efb5f29337b2", checked := Try.checked }
namespace Rows
def none {H : Type} : Left H := { results := [], args := [] }

/-- 'ragpickerlaw.ArenaTells': WHATEVER THE INPUT: true; the input reads as it did. -/
def arenaTellsSpec : ChangeSpec := { name := "arenaTells", fn := fun _ => fun
  | [d] => { results := [.lit (.bool true)], args := [d] }
  | _ => none }
def arenaTellsRow : OpenClaim := { program := "ytahdalejmfbkeaa", sum := "5cf370938d09b0dce5f594dcf56ffb72f946831ae0a41a7e2244efb5f29337b2", func := "ragpicker/ragpickerlaw.ArenaTells", spec := "arenaTells", unfollowed := true, recurses := true, apart := false }
def ArenaTellsSaid : Prop := arenaTellsRow.holds Try.pinned (OpenSpec.ofChange arenaTellsSpec)

/-- ITS FALSE NEIGHBOUR: 'it returns false'. Refute it at one input. -/
def arenaTellsWrong : ChangeSpec := { name := "arenaTells", fn := fun _ => fun
  | [d] => { results := [.lit (.bool false)], args := [d] }
  | _ => none }
def ArenaTellsWrongFalsely : Prop := arenaTellsRow.holds Try.pinned (OpenSpec.ofChange arenaTellsWrong)

/-- 'ragpickerlaw.ArenaLays': WHATEVER THE INPUT: true; the input reads as it did. -/
def arenaLaysSpec : ChangeSpec := { name := "arenaLays", fn := fun _ => fun
  | [d] => { results := [.lit (.bool true)], args := [d] }
  | _ => none }
def arenaLaysRow : OpenClaim := { program := "ytahdalejmfbkeaa", sum := "5cf370938d09b0dce5f594dcf56ffb72f946831ae0a41a7e2244efb5f29337b2", func := "ragpicker/ragpickerlaw.ArenaLays", spec := "arenaLays", unfollowed := true, recurses := true, apart := false }
def ArenaLaysSaid : Prop := arenaLaysRow.holds Try.pinned (OpenSpec.ofChange arenaLaysSpec)

/-- ITS FALSE NEIGHBOUR: 'it returns false'. Refute it at one input. -/
def arenaLaysWrong : ChangeSpec := { name := "arenaLays", fn := fun _ => fun
  | [d] => { results := [.lit (.bool false)], args := [d] }
  | _ => none }
def ArenaLaysWrongFalsely : Prop := arenaLaysRow.holds Try.pinned (OpenSpec.ofChange arenaLaysWrong)

/-- 'ragpickerkeep.ArenaBack': WHATEVER THE INPUT: true; the input reads as it did. -/
def arenaBackSpec : ChangeSpec := { name := "arenaBack", fn := fun _ => fun
  | [d] => { results := [.lit (.bool true)], args := [d] }
  | _ => none }
def arenaBackRow : OpenClaim := { program := "ytahdalejmfbkeaa", sum := "5cf370938d09b0dce5f594dcf56ffb72f946831ae0a41a7e2244efb5f29337b2", func := "ragpicker/ragpickerkeep.ArenaBack", spec := "arenaBack", unfollowed := true, recurses := true, apart := false }
def ArenaBackSaid : Prop := arenaBackRow.holds Try.pinned (OpenSpec.ofChange arenaBackSpec)

/-- ITS FALSE NEIGHBOUR: 'it returns false'. Refute it at one input. -/
def arenaBackWrong : ChangeSpec := { name := "arenaBack", fn := fun _ => fun
  | [d] => { results := [.lit (.bool false)], args := [d] }
  | _ => none }
def ArenaBackWrongFalsely : Prop := arenaBackRow.holds Try.pinned (OpenSpec.ofChange arenaBackWrong)

/-- 'ragpickerkeep.ArenaCovers': WHATEVER THE INPUT: true; the input reads as it did. -/
def arenaCoversSpec : ChangeSpec := { name := "arenaCovers", fn := fun _ => fun
  | [d] => { results := [.lit (.bool true)], args := [d] }
  | _ => none }
def arenaCoversRow : OpenClaim := { program := "ytahdalejmfbkeaa", sum := "5cf370938d09b0dce5f594dcf56ffb72f946831ae0a41a7e2244efb5f29337b2", func := "ragpicker/ragpickerkeep.ArenaCovers", spec := "arenaCovers", unfollowed := true, recurses := true, apart := false }
def ArenaCoversSaid : Prop := arenaCoversRow.holds Try.pinned (OpenSpec.ofChange arenaCoversSpec)

/-- ITS FALSE NEIGHBOUR: 'it returns false'. Refute it at one input. -/
def arenaCoversWrong : ChangeSpec := { name := "arenaCovers", fn := fun _ => fun
  | [d] => { results := [.lit (.bool false)], args := [d] }
  | _ => none }
def ArenaCoversWrongFalsely : Prop := arenaCoversRow.holds Try.pinned (OpenSpec.ofChange arenaCoversWrong)

/-- 'ragpickerkeep.ArenaOnly': WHATEVER THE INPUT: true; the input reads as it did. -/
def arenaOnlySpec : ChangeSpec := { name := "arenaOnly", fn := fun _ => fun
  | [d] => { results := [.lit (.bool true)], args := [d] }
  | _ => none }
def arenaOnlyRow : OpenClaim := { program := "ytahdalejmfbkeaa", sum := "5cf370938d09b0dce5f594dcf56ffb72f946831ae0a41a7e2244efb5f29337b2", func := "ragpicker/ragpickerkeep.ArenaOnly", spec := "arenaOnly", unfollowed := true, recurses := true, apart := false }
def ArenaOnlySaid : Prop := arenaOnlyRow.holds Try.pinned (OpenSpec.ofChange arenaOnlySpec)

/-- ITS FALSE NEIGHBOUR: 'it returns false'. Refute it at one input. -/
def arenaOnlyWrong : ChangeSpec := { name := "arenaOnly", fn := fun _ => fun
  | [d] => { results := [.lit (.bool false)], args := [d] }
  | _ => none }
def ArenaOnlyWrongFalsely : Prop := arenaOnlyRow.holds Try.pinned (OpenSpec.ofChange arenaOnlyWrong)

/- THE SECOND FORM. 'bulk': how many values and letters a reading holds, each counted each time it is reached (what is shared counts as often as it is met; a slice's spare places count too). A statement '..UptoSaid' is the law's where the arguments, and the package variables that the reading takes, are together of bulk at most 1048576: NARROWER than '..Said'. Prove '..Said' where nothing that the law and all that it calls make is longer than what came in: it says more and counts as full. Else prove '..UptoSaid'. A law counts once. -/
mutual
def uptoBulk {H : Type} : DataW H → Nat
  | .lit (.string bytes) => bytes.length + 1
  | .lit _ => 1
  | .nil => 1
  | .ptr d => uptoBulk d + 1
  | .slice elems spare => uptoBulkAll elems + uptoBulkAll spare + 1
  | .agg parts => uptoBulkAll parts + 1
  | .iface _ d => uptoBulk d + 1
  | .map entries => uptoBulkEntries entries + 1
  | .held _ => 1
def uptoBulkAll {H : Type} : List (DataW H) → Nat
  | [] => 0
  | d :: r => uptoBulk d + uptoBulkAll r
def uptoBulkEntries {H : Type} : List (Lit × DataW H) → Nat
  | [] => 0
  | x :: r => uptoBulkEntry x + uptoBulkEntries r
def uptoBulkEntry {H : Type} : Lit × DataW H → Nat
  | (.string bytes, d) => bytes.length + uptoBulk d + 1
  | (_, d) => uptoBulk d + 1
 end
def uptoSmall : (H : Type) → List (DataW H) → Bool := fun _ ds => decide (uptoBulkAll ds ≤ 1048576)
def OpenSpec.upto (s : _root_.Go.ChangeSpec) : _root_.Go.OpenSpec := { _root_.Go.OpenSpec.ofChange s with cond := some uptoSmall }

/-- 'ragpickerlaw.ArenaTells', WHERE WHAT IT READS IS OF BULK AT MOST 1048576: true; the input reads as it did. -/
def arenaTellsUptoRow : OpenClaim := { program := "ytahdalejmfbkeaa", sum := "5cf370938d09b0dce5f594dcf56ffb72f946831ae0a41a7e2244efb5f29337b2", func := "ragpicker/ragpickerlaw.ArenaTells", spec := "arenaTells", unfollowed := true, recurses := true, apart := false, narrowed := true }
def ArenaTellsUptoSaid : Prop := arenaTellsUptoRow.holds Try.pinned (OpenSpec.upto arenaTellsSpec)

/-- 'ragpickerlaw.ArenaLays', WHERE WHAT IT READS IS OF BULK AT MOST 1048576: true; the input reads as it did. -/
def arenaLaysUptoRow : OpenClaim := { program := "ytahdalejmfbkeaa", sum := "5cf370938d09b0dce5f594dcf56ffb72f946831ae0a41a7e2244efb5f29337b2", func := "ragpicker/ragpickerlaw.ArenaLays", spec := "arenaLays", unfollowed := true, recurses := true, apart := false, narrowed := true }
def ArenaLaysUptoSaid : Prop := arenaLaysUptoRow.holds Try.pinned (OpenSpec.upto arenaLaysSpec)

/-- 'ragpickerkeep.ArenaBack', WHERE WHAT IT READS IS OF BULK AT MOST 1048576: true; the input reads as it did. -/
def arenaBackUptoRow : OpenClaim := { program := "ytahdalejmfbkeaa", sum := "5cf370938d09b0dce5f594dcf56ffb72f946831ae0a41a7e2244efb5f29337b2", func := "ragpicker/ragpickerkeep.ArenaBack", spec := "arenaBack", unfollowed := true, recurses := true, apart := false, narrowed := true }
def ArenaBackUptoSaid : Prop := arenaBackUptoRow.holds Try.pinned (OpenSpec.upto arenaBackSpec)

/-- 'ragpickerkeep.ArenaCovers', WHERE WHAT IT READS IS OF BULK AT MOST 1048576: true; the input reads as it did. -/
def arenaCoversUptoRow : OpenClaim := { program := "ytahdalejmfbkeaa", sum := "5cf370938d09b0dce5f594dcf56ffb72f946831ae0a41a7e2244efb5f29337b2", func := "ragpicker/ragpickerkeep.ArenaCovers", spec := "arenaCovers", unfollowed := true, recurses := true, apart := false, narrowed := true }
def ArenaCoversUptoSaid : Prop := arenaCoversUptoRow.holds Try.pinned (OpenSpec.upto arenaCoversSpec)

/-- 'ragpickerkeep.ArenaOnly', WHERE WHAT IT READS IS OF BULK AT MOST 1048576: true; the input reads as it did. -/
def arenaOnlyUptoRow : OpenClaim := { program := "ytahdalejmfbkeaa", sum := "5cf370938d09b0dce5f594dcf56ffb72f946831ae0a41a7e2244efb5f29337b2", func := "ragpicker/ragpickerkeep.ArenaOnly", spec := "arenaOnly", unfollowed := true, recurses := true, apart := false, narrowed := true }
def ArenaOnlyUptoSaid : Prop := arenaOnlyUptoRow.holds Try.pinned (OpenSpec.upto arenaOnlySpec)

end Rows
end Go.Proofs.Ytahdalejmfbkeaa
