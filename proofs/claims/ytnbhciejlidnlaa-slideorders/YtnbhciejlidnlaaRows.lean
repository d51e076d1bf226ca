/-
  No cell of these rows narrows 'for every input' (looked for: loops, veiled, ifaces, maps, wideKeys, modest, calm, conditions, laid).
  DERIVED. THE GIVEN ROWS OF THIS SEAT. 4 by the template 'for every input the law returns true; each argument reads behind the call as it read before'; 0 by the template 'total and deterministic' (their statements: YtnbhciejlidnlaaTotals.lean).
  GIVEN WITH THE SEED: the statements are not yours to turn. If you find one false, say at which input.
  Laid BY PROGRAM, IN A SANDBOX (cutbox-rows.mjs): the forced cells as the released guide's own fill.sh prints them over the translation 33c4fb316a5cbe94… (all of the seat's roots in one cut). By AI agents, Wed Nov 11 2026. No macro, syntax, notation, axiom, sorry.
-/
import Derived.Test.YtnbhciejlidnlaaChecked
import GoSem.Claim
import GoSem.ClaimJoined
import GoSem.ClaimMapViews
import Derived.JoinedTies
import Derived.KernelRfl
namespace Go.Proofs.Ytnbhciejlidnlaa
/- THE CELL 'sum', in the pinned program and in every row, IS THE sha256 OF THE DUMP (.gsa) THAT YtnbhciejlidnlaaProg.lean LOADS. Nothing in Lean hashes anything: it is a label: what it is worth is what the hold of that sum in a sandbox is worth. -/
noncomputable def Try.pinned : Pinned := { name := "ytnbhciejlidnlaa", sum := "33c4fb316a5cbe9425ef121e2667a5543e9799b119cf7ad7174c5745b0a4747d", checked := Try.checked }
namespace Rows
def none {H : Type} : Left H := { results := [], args := [] }

/-- 'ragpickerlaw.SlideTells': WHATEVER THE INPUT: true; the input reads as it did. -/
def slideTellsSpec : ChangeSpec := { name := "slideTells", fn := fun _ => fun
  | [d] => { results := [.lit (.bool true)], args := [d] }
  | _ => none }
def slideTellsRow : OpenClaim := { program := "ytnbhciejlidnlaa", sum := "33c4fb316a5cbe9425ef121e2667a5543e9799b119cf7ad7174c5745b0a4747d", func := "ragpicker/ragpickerlaw.SlideTells", spec := "slideTells", unfollowed := true, recurses := true, apart := false }
def SlideTellsSaid : Prop := slideTellsRow.holds Try.pinned (OpenSpec.ofChange slideTellsSpec)

/-- ITS FALSE NEIGHBOUR: 'it returns false'. Refute it at one input. -/
def slideTellsWrong : ChangeSpec := { name := "slideTells", fn := fun _ => fun
  | [d] => { results := [.lit (.bool false)], args := [d] }
  | _ => none }
def SlideTellsWrongFalsely : Prop := slideTellsRow.holds Try.pinned (OpenSpec.ofChange slideTellsWrong)

/-- 'ragpickerkeep.SlideSame': WHATEVER THE INPUT: true; the input reads as it did. -/
def slideSameSpec : ChangeSpec := { name := "slideSame", fn := fun _ => fun
  | [d] => { results := [.lit (.bool true)], args := [d] }
  | _ => none }
def slideSameRow : OpenClaim := { program := "ytnbhciejlidnlaa", sum := "33c4fb316a5cbe9425ef121e2667a5543e9799b119cf7ad7174c5745b0a4747d", func := "ragpicker/ragpickerkeep.SlideSame", spec := "slideSame", unfollowed := true, recurses := true, apart := false }
def SlideSameSaid : Prop := slideSameRow.holds Try.pinned (OpenSpec.ofChange slideSameSpec)

/-- ITS FALSE NEIGHBOUR: 'it returns false'. Refute it at one input. -/
def slideSameWrong : ChangeSpec := { name := "slideSame", fn := fun _ => fun
  | [d] => { results := [.lit (.bool false)], args := [d] }
  | _ => none }
def SlideSameWrongFalsely : Prop := slideSameRow.holds Try.pinned (OpenSpec.ofChange slideSameWrong)

/-- 'ragpickerkeep.SlideOrders': WHATEVER THE INPUT: true; the input reads as it did. -/
def slideOrdersSpec : ChangeSpec := { name := "slideOrders", fn := fun _ => fun
  | [d] => { results := [.lit (.bool true)], args := [d] }
  | _ => none }
def slideOrdersRow : OpenClaim := { program := "ytnbhciejlidnlaa", sum := "33c4fb316a5cbe9425ef121e2667a5543e9799b119cf7ad7174c5745b0a4747d", func := "ragpicker/ragpickerkeep.SlideOrders", spec := "slideOrders", unfollowed := true, recurses := true, apart := false }
def SlideOrdersSaid : Prop := slideOrdersRow.holds Try.pinned (OpenSpec.ofChange slideOrdersSpec)

/-- ITS FALSE NEIGHBOUR: 'it returns false'. Refute it at one input. -/
def slideOrdersWrong : ChangeSpec := { name := "slideOrders", fn := fun _ => fun
  | [d] => { results := [.lit (.bool false)], args := [d] }
  | _ => none }
def SlideOrdersWrongFalsely : Prop := slideOrdersRow.holds Try.pinned (OpenSpec.ofChange slideOrdersWrong)

/-- 'ragpickerkeep.SlideMoves': WHATEVER THE INPUT: true; the input reads as it did. -/
def slideMovesSpec : ChangeSpec := { name := "slideMoves", fn := fun _ => fun
  | [d] => { results := [.lit (.bool true)], args := [d] }
  | _ => none }
def slideMovesRow : OpenClaim := { program := "ytnbhciejlidnlaa", sum := "33c4fb316a5cbe9425ef121e2667a5543e9799b119cf7ad7174c5745b0a4747d", func := "ragpicker/ragpickerkeep.SlideMoves", spec := "slideMoves", unfollowed := true, recurses := true, apart := false }
def SlideMovesSaid : Prop := slideMovesRow.holds Try.pinned (OpenSpec.ofChange slideMovesSpec)

/-- ITS FALSE NEIGHBOUR: 'it returns false'. Refute it at one input. -/
def slideMovesWrong : ChangeSpec := { name := "slideMoves", fn := fun _ => fun
  | [d] => { results := [.lit (.bool false)], args := [d] }
  | _ => none }
def SlideMovesWrongFalsely : Prop := slideMovesRow.holds Try.pinned (OpenSpec.ofChange slideMovesWrong)

/- THE SECOND FORM. 'bulk': how many values and letters a reading holds, each counted each time it is reached (what is shared counts as often as it is met; a slice's spare places count too). A statement '..UptoSaid' is the law's where the arguments, and the package variables that the reading takes, are together of bulk at most 1048576: NARROWER than '..Said'. Prove '..Said' where nothing that the law and all that it calls make is longer than what came in: it says more and counts as full. Else prove '..UptoSaid'. A law counts once. -/
mutual
def uptoBulk {H : Type} : DataW H → Nat
  | .lit (.string bytes) => bytes.length + 1
  | .lit _ => 1
  | .nil => 1
  | .ptr d => uptoBulk d + 1
  | .slice elems spare => uptoBulkAll elems + uptoBulkAll spare + 1
  | .agg parts => uptoBulkAll parts + 1
  | .iface _ d => uptoBulk d + 1
  | .map entries => uptoBulkEntries entries + 1
  | .held _ => 1
def uptoBulkAll {H : Type} : List (DataW H) → Nat
  | [] => 0
  | d :: r => uptoBulk d + uptoBulkAll r
def uptoBulkEntries {H : Type} : List (Lit × DataW H) → Nat
  | [] => 0
  | x :: r => uptoBulkEntry x + uptoBulkEntries r
def uptoBulkEntry {H : Type} : Lit × DataW H → Nat
  | (.string bytes, d) => bytes.length + uptoBulk d + 1
  | (_, d) => uptoBulk d + 1
 end
def uptoSmall : (H : Type) → List (DataW H) → Bool := fun _ ds => decide (uptoBulkAll ds ≤ 1048576)
def OpenSpec.upto (s : _root_.Go.ChangeSpec) : _root_.Go.OpenSpec := { _root_.Go.OpenSpec.ofChange s with cond := some uptoSmall }

/-- 'ragpickerlaw.SlideTells', WHERE WHAT IT READS IS OF BULK AT MOST 1048576: true; the input reads as it did. -/
def slideTellsUptoRow : OpenClaim := { program := "ytnbhciejlidnlaa", sum := "33c4fb316a5cbe9425ef121e2667a5543e9799b119cf7ad7174c5745b0a4747d", func := "ragpicker/ragpickerlaw.SlideTells", spec := "slideTells", unfollowed := true, recurses := true, apart := false, narrowed := true }
def SlideTellsUptoSaid : Prop := slideTellsUptoRow.holds Try.pinned (OpenSpec.upto slideTellsSpec)

/-- 'ragpickerkeep.SlideSame', WHERE WHAT IT READS IS OF BULK AT MOST 1048576: true; the input reads as it did. -/
def slideSameUptoRow : OpenClaim := { program := "ytnbhciejlidnlaa", sum := "33c4fb316a5cbe9425ef121e2667a5543e9799b119cf7ad7174c5745b0a4747d", func := "ragpicker/ragpickerkeep.SlideSame", spec := "slideSame", unfollowed := true, recurses := true, apart := false, narrowed := true }
def SlideSameUptoSaid : Prop := slideSameUptoRow.holds Try.pinned (OpenSpec.upto slideSameSpec)

/-- 'ragpickerkeep.SlideOrders', WHERE WHAT IT READS IS OF BULK AT MOST 1048576: true; the input reads as it did. -/
def slideOrdersUptoRow : OpenClaim := { program := "ytnbhciejlidnlaa", sum := "33c4fb316a5cbe9425ef121e2667a5543e9799b119cf7ad7174c5745b0a4747d", func := "ragpicker/ragpickerkeep.SlideOrders", spec := "slideOrders", unfollowed := true, recurses := true, apart := false, narrowed := true }
def SlideOrdersUptoSaid : Prop := slideOrdersUptoRow.holds Try.pinned (OpenSpec.upto slideOrdersSpec)

/-- 'ragpickerkeep.SlideMoves', WHERE WHAT IT READS IS OF BULK AT MOST 1048576: true; the input reads as it did. -/
def slideMovesUptoRow : OpenClaim := { program := "ytnbhciejlidnlaa", sum := "33c4fb316a5cbe9425ef121e2667a5543e9799b119cf7ad7174c5745b0a4747d", func := "ragpicker/ragpickerkeep.SlideMoves", spec := "slideMoves", unfollowed := true, recurses := true, apart := false, narrowed := true }
def SlideMovesUptoSaid : Prop := slideMovesUptoRow.holds Try.pinned (OpenSpec.upto slideMovesSpec)

end Rows
end Go.Proofs.Ytnbhciejlidnlaa
