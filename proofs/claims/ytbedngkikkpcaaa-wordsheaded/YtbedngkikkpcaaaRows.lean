/-
  No cell of these rows narrows 'for every input' (looked for: loops, veiled, ifaces, maps, wideKeys, modest, calm, conditions, laid).
  DERIVED. THE GIVEN ROWS OF THIS SEAT. 5 by the template 'for every input the law returns true; each argument reads behind the call as it read before'; 0 by the template 'total and deterministic' (their statements: YtbedngkikkpcaaaTotals.lean).
  GIVEN WITH THE SEED: the statements are not yours to turn. If you find one false, say at which input.
  Laid BY PROGRAM, IN A SANDBOX (cutbox-rows.mjs): the forced cells as the released guide's own fill.sh prints them over the translation 0bb8ee4ab2713b5d… (all of the seat's roots in one cut). By AI agents, Wed Nov 11 2026. No macro, syntax, notation, axiom, sorry.
-/
import Derived.Test.YtbedngkikkpcaaaChecked
import GoSem.Claim
import GoSem.ClaimJoined
import GoSem.ClaimMapViews
import Derived.JoinedTies
import Derived.KernelRfl
namespace Go.Proofs.Ytbedngkikkpcaaa
/- THE CELL 'sum', in the pinned program and in every row, IS THE sha256 OF THE DUMP (.gsa) THAT YtbedngkikkpcaaaProg.lean LOADS. Nothing in Lean hashes anything: it is a label: what it is worth is what the hold of that sum in a sandbox is worth. -/
noncomputable def Try.pinned : Pinned := { name := "ytbedngkikkpcaaa", sum := "0bb8ee4ab2713b5d7e83ad4e84a9d1920f35d8ca36f25c75929a6787f7aaba08", checked := Try.checked }
namespace Rows
def none {H : Type} : Left H := { results := [], args := [] }

/-- 'ragpickerlaw.WordsPacks': WHATEVER THE INPUT: true; the input reads as it did. -/
def wordsPacksSpec : ChangeSpec := { name := "wordsPacks", fn := fun _ => fun
  | [d1, d2] => { results := [.lit (.bool true)], args := [d1, d2] }
  | _ => none }
def wordsPacksRow : OpenClaim := { program := "ytbedngkikkpcaaa", sum := "0bb8ee4ab2713b5d7e83ad4e84a9d1920f35d8ca36f25c75929a6787f7aaba08", func := "ragpicker/ragpickerlaw.WordsPacks", spec := "wordsPacks", apart := false }
def WordsPacksSaid : Prop := wordsPacksRow.holds Try.pinned (OpenSpec.ofChange wordsPacksSpec)

/-- ITS FALSE NEIGHBOUR: 'it returns false'. Refute it at one input. -/
def wordsPacksWrong : ChangeSpec := { name := "wordsPacks", fn := fun _ => fun
  | [d1, d2] => { results := [.lit (.bool false)], args := [d1, d2] }
  | _ => none }
def WordsPacksWrongFalsely : Prop := wordsPacksRow.holds Try.pinned (OpenSpec.ofChange wordsPacksWrong)

/-- 'ragpickerlaw.WordsHeads': WHATEVER THE INPUT: true; the input reads as it did. -/
def wordsHeadsSpec : ChangeSpec := { name := "wordsHeads", fn := fun _ => fun
  | [d1, d2] => { results := [.lit (.bool true)], args := [d1, d2] }
  | _ => none }
def wordsHeadsRow : OpenClaim := { program := "ytbedngkikkpcaaa", sum := "0bb8ee4ab2713b5d7e83ad4e84a9d1920f35d8ca36f25c75929a6787f7aaba08", func := "ragpicker/ragpickerlaw.WordsHeads", spec := "wordsHeads", apart := false }
def WordsHeadsSaid : Prop := wordsHeadsRow.holds Try.pinned (OpenSpec.ofChange wordsHeadsSpec)

/-- ITS FALSE NEIGHBOUR: 'it returns false'. Refute it at one input. -/
def wordsHeadsWrong : ChangeSpec := { name := "wordsHeads", fn := fun _ => fun
  | [d1, d2] => { results := [.lit (.bool false)], args := [d1, d2] }
  | _ => none }
def WordsHeadsWrongFalsely : Prop := wordsHeadsRow.holds Try.pinned (OpenSpec.ofChange wordsHeadsWrong)

/-- 'ragpickerkeep.WordsBack': WHATEVER THE INPUT: true; the input reads as it did. -/
def wordsBackSpec : ChangeSpec := { name := "wordsBack", fn := fun _ => fun
  | [d1, d2] => { results := [.lit (.bool true)], args := [d1, d2] }
  | _ => none }
def wordsBackRow : OpenClaim := { program := "ytbedngkikkpcaaa", sum := "0bb8ee4ab2713b5d7e83ad4e84a9d1920f35d8ca36f25c75929a6787f7aaba08", func := "ragpicker/ragpickerkeep.WordsBack", spec := "wordsBack", apart := false }
def WordsBackSaid : Prop := wordsBackRow.holds Try.pinned (OpenSpec.ofChange wordsBackSpec)

/-- ITS FALSE NEIGHBOUR: 'it returns false'. Refute it at one input. -/
def wordsBackWrong : ChangeSpec := { name := "wordsBack", fn := fun _ => fun
  | [d1, d2] => { results := [.lit (.bool false)], args := [d1, d2] }
  | _ => none }
def WordsBackWrongFalsely : Prop := wordsBackRow.holds Try.pinned (OpenSpec.ofChange wordsBackWrong)

/-- 'ragpickerkeep.WordsOnly': WHATEVER THE INPUT: true; the input reads as it did. -/
def wordsOnlySpec : ChangeSpec := { name := "wordsOnly", fn := fun _ => fun
  | [d] => { results := [.lit (.bool true)], args := [d] }
  | _ => none }
def wordsOnlyRow : OpenClaim := { program := "ytbedngkikkpcaaa", sum := "0bb8ee4ab2713b5d7e83ad4e84a9d1920f35d8ca36f25c75929a6787f7aaba08", func := "ragpicker/ragpickerkeep.WordsOnly", spec := "wordsOnly", apart := false }
def WordsOnlySaid : Prop := wordsOnlyRow.holds Try.pinned (OpenSpec.ofChange wordsOnlySpec)

/-- ITS FALSE NEIGHBOUR: 'it returns false'. Refute it at one input. -/
def wordsOnlyWrong : ChangeSpec := { name := "wordsOnly", fn := fun _ => fun
  | [d] => { results := [.lit (.bool false)], args := [d] }
  | _ => none }
def WordsOnlyWrongFalsely : Prop := wordsOnlyRow.holds Try.pinned (OpenSpec.ofChange wordsOnlyWrong)

/-- 'ragpickerkeep.WordsHeaded': WHATEVER THE INPUT: true; the input reads as it did. -/
def wordsHeadedSpec : ChangeSpec := { name := "wordsHeaded", fn := fun _ => fun
  | [d] => { results := [.lit (.bool true)], args := [d] }
  | _ => none }
def wordsHeadedRow : OpenClaim := { program := "ytbedngkikkpcaaa", sum := "0bb8ee4ab2713b5d7e83ad4e84a9d1920f35d8ca36f25c75929a6787f7aaba08", func := "ragpicker/ragpickerkeep.WordsHeaded", spec := "wordsHeaded", apart := false }
def WordsHeadedSaid : Prop := wordsHeadedRow.holds Try.pinned (OpenSpec.ofChange wordsHeadedSpec)

/-- ITS FALSE NEIGHBOUR: 'it returns false'. Refute it at one input. -/
def wordsHeadedWrong : ChangeSpec := { name := "wordsHeaded", fn := fun _ => fun
  | [d] => { results := [.lit (.bool false)], args := [d] }
  | _ => none }
def WordsHeadedWrongFalsely : Prop := wordsHeadedRow.holds Try.pinned (OpenSpec.ofChange wordsHeadedWrong)

/- THE SECOND FORM. 'bulk': how many values and letters a reading holds, each counted each time it is reached (what is shared counts as often as it is met; a slice's spare places count too). A statement '..UptoSaid' is the law's where the arguments, and the package variables that the reading takes, are together of bulk at most 1048576: NARROWER than '..Said'. Prove '..Said' where nothing that the law and all that it calls make is longer than what came in: it says more and counts as full. Else prove '..UptoSaid'. A law counts once. -/
mutual
def uptoBulk {H : Type} : DataW H → Nat
  | .lit (.string bytes) => bytes.length + 1
  | .lit _ => 1
  | .nil => 1
  | .ptr d => uptoBulk d + 1
  | .slice elems spare => uptoBulkAll elems + uptoBulkAll spare + 1
  | .agg parts => uptoBulkAll parts + 1
  | .iface _ d => uptoBulk d + 1
  | .map entries => uptoBulkEntries entries + 1
  | .held _ => 1
def uptoBulkAll {H : Type} : List (DataW H) → Nat
  | [] => 0
  | d :: r => uptoBulk d + uptoBulkAll r
def uptoBulkEntries {H : Type} : List (Lit × DataW H) → Nat
  | [] => 0
  | x :: r => uptoBulkEntry x + uptoBulkEntries r
def uptoBulkEntry {H : Type} : Lit × DataW H → Nat
  | (.string bytes, d) => bytes.length + uptoBulk d + 1
  | (_, d) => uptoBulk d + 1
 end
def uptoSmall : (H : Type) → List (DataW H) → Bool := fun _ ds => decide (uptoBulkAll ds ≤ 1048576)
def OpenSpec.upto (s : _root_.Go.ChangeSpec) : _root_.Go.OpenSpec := { _root_.Go.OpenSpec.ofChange s with cond := some uptoSmall }

/-- 'ragpickerlaw.WordsPacks', WHERE WHAT IT READS IS OF BULK AT MOST 1048576: true; the input reads as it did. -/
def wordsPacksUptoRow : OpenClaim := { program := "ytbedngkikkpcaaa", sum := "0bb8ee4ab2713b5d7e83ad4e84a9d1920f35d8ca36f25c75929a6787f7aaba08", func := "ragpicker/ragpickerlaw.WordsPacks", spec := "wordsPacks", apart := false, narrowed := true }
def WordsPacksUptoSaid : Prop := wordsPacksUptoRow.holds Try.pinned (OpenSpec.upto wordsPacksSpec)

/-- 'ragpickerlaw.WordsHeads', WHERE WHAT IT READS IS OF BULK AT MOST 1048576: true; the input reads as it did. -/
def wordsHeadsUptoRow : OpenClaim := { program := "ytbedngkikkpcaaa", sum := "0bb8ee4ab2713b5d7e83ad4e84a9d1920f35d8ca36f25c75929a6787f7aaba08", func := "ragpicker/ragpickerlaw.WordsHeads", spec := "wordsHeads", apart := false, narrowed := true }
def WordsHeadsUptoSaid : Prop := wordsHeadsUptoRow.holds Try.pinned (OpenSpec.upto wordsHeadsSpec)

/-- 'ragpickerkeep.WordsBack', WHERE WHAT IT READS IS OF BULK AT MOST 1048576: true; the input reads as it did. -/
def wordsBackUptoRow : OpenClaim := { program := "ytbedngkikkpcaaa", sum := "0bb8ee4ab2713b5d7e83ad4e84a9d1920f35d8ca36f25c75929a6787f7aaba08", func := "ragpicker/ragpickerkeep.WordsBack", spec := "wordsBack", apart := false, narrowed := true }
def WordsBackUptoSaid : Prop := wordsBackUptoRow.holds Try.pinned (OpenSpec.upto wordsBackSpec)

/-- 'ragpickerkeep.WordsOnly', WHERE WHAT IT READS IS OF BULK AT MOST 1048576: true; the input reads as it did. -/
def wordsOnlyUptoRow : OpenClaim := { program := "ytbedngkikkpcaaa", sum := "0bb8ee4ab2713b5d7e83ad4e84a9d1920f35d8ca36f25c75929a6787f7aaba08", func := "ragpicker/ragpickerkeep.WordsOnly", spec := "wordsOnly", apart := false, narrowed := true }
def WordsOnlyUptoSaid : Prop := wordsOnlyUptoRow.holds Try.pinned (OpenSpec.upto wordsOnlySpec)

/-- 'ragpickerkeep.WordsHeaded', WHERE WHAT IT READS IS OF BULK AT MOST 1048576: true; the input reads as it did. -/
def wordsHeadedUptoRow : OpenClaim := { program := "ytbedngkikkpcaaa", sum := "0bb8ee4ab2713b5d7e83ad4e84a9d1920f35d8ca36f25c75929a6787f7aaba08", func := "ragpicker/ragpickerkeep.WordsHeaded", spec := "wordsHeaded", apart := false, narrowed := true }
def WordsHeadedUptoSaid : Prop := wordsHeadedUptoRow.holds Try.pinned (OpenSpec.upto wordsHeadedSpec)

end Rows
end Go.Proofs.Ytbedngkikkpcaaa
