/- Walks: the iterator over references. -/
import Derived.Test.YtahdalejmfbkeaaProg
import Derived.Test.YtahdalejmfbkeaaMem
import Derived.Test.YtahdalejmfbkeaaWg
namespace Go.Proofs.Ytahdalejmfbkeaa
set_option linter.unusedSimpArgs false
set_option linter.unusedVariables false
open Go.RowKit Go.Shelf
attribute [local go_sem] Oper.semAt_some

/-- An object's number. -/
abbrev Ob := { x : Int // 0 ≤ x ∧ x < 24 }

def obOf (v : V) : Option Ob := if h : v.1 = true ∧ 0 ≤ v.2 ∧ v.2 < 24 then some ⟨v.2, h.2⟩ else none

/-- The objects to which a list of values refers. -/
def obsOf (l : List V) : List Ob := l.filterMap obOf

/-- All references are to numbers of objects. -/
def RefsOk (l : List V) : Prop := ∀ v ∈ l, v.1 = true → 0 ≤ v.2 ∧ v.2 < 24

theorem obsOf_no {l : List V} {k : Nat} (hk : k < l.length) {n : Int} (h : l[k] = (false, n)) : obsOf (l.take (k + 1)) = obsOf (l.take k) := by
  rw [List.take_succ_eq_append_getElem hk, h]
  simp [obsOf, obOf]

theorem obsOf_yes {l : List V} {k : Nat} (hk : k < l.length) {n : Int} (h : l[k] = (true, n)) (hn : 0 ≤ n ∧ n < 24) : obsOf (l.take (k + 1)) = obsOf (l.take k) ++ [⟨n, hn⟩] := by
  rw [List.take_succ_eq_append_getElem hk, h]
  simp [obsOf, obOf, hn]

theorem obsOf_len (l : List V) : (obsOf l).length ≤ l.length := List.length_filterMap_le _ _

theorem obsOf_prefix (l : List V) (k : Nat) : obsOf (l.take k) <+: obsOf l := by
  refine ⟨obsOf (l.drop k), ?_⟩
  unfold obsOf
  rw [← List.filterMap_append, List.take_append_drop]

def encO (x : Ob) : Array Value := #[.int .i64 x.1]

end Go.Proofs.Ytahdalejmfbkeaa
