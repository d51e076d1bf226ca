/- Walks: values are renumbered. -/
import Derived.Test.YthpmckfgngkbhaaProg
import Derived.Test.YthpmckfgngkbhaaMem
import Derived.Test.YthpmckfgngkbhaaWm
namespace Go.Proofs.Ythpmckfgngkbhaa
set_option linter.unusedSimpArgs false
set_option linter.unusedVariables false
open Go.RowKit

/-- Where an object stands in a list; 0, if it isn't there. -/
def placeOf (order : List Int) (x : Int) : Int := if x ∈ order then (order.idxOf x : Nat) else 0

def renV (order : List Int) (v : V) : V := if v.1 then (true, placeOf order v.2) else v

theorem atKey_place {D : DataW Unit} {order : List Int} (h : PlaceD D order) (x : Int) : D.atKey (.int .i64 x) (.lit (.int .i64 0)) = .lit (.int .i64 (placeOf order x)) := by
  unfold placeOf
  split
  · rename_i hm
    have hlt : order.idxOf x < order.length := List.idxOf_lt_length_iff.2 hm
    exact h.2.2 _ _ (by rw [List.getElem?_eq_getElem hlt, List.getElem_idxOf hlt])
  · rename_i hm
    exact Maps.atKey_of_not_has (by rw [h.1 x]; simpa using hm) _

theorem grown_of_below {W W' : World} (hb : Below W.heap.size W W') : W.grownBy W' none := ⟨hb.os, hb.tape, hb.output, hb.size, fun k hk _ => hb.block k hk⟩

theorem take_set2 {cs : List Value} {k : Nat} {pre : List Value} {x y : Value} (h : cs.take (k * 2) = pre) (hl : k * 2 + 2 ≤ cs.length) : ((cs.set (k * 2) x).set (k * 2 + 1) y).take ((k + 1) * 2) = pre ++ [x, y] := by
  rw [← h]
  apply List.ext_getElem?
  intro i
  rw [List.getElem?_take]
  by_cases h1 : i < k * 2
  · rw [if_pos (by omega), List.getElem?_append_left (by simp; omega), List.getElem?_set_ne (by omega), List.getElem?_set_ne (by omega), List.getElem?_take, if_pos h1]
  · rw [List.getElem?_append_right (by simp; omega)]
    have hmin : (List.take (k * 2) cs).length = k * 2 := by simp; omega
    rw [hmin]
    by_cases h2 : i = k * 2
    · subst h2
      rw [if_pos (by omega), List.getElem?_set_ne (by omega), List.getElem?_set_self (by omega)]; simp
    · by_cases h3 : i = k * 2 + 1
      · subst h3
        rw [if_pos (by omega), List.getElem?_set_self (by simp; omega)]; simp
      · rw [if_neg (by omega), List.getElem?_eq_none (by simp; omega)]

end Go.Proofs.Ythpmckfgngkbhaa
