/- Walks: values are renumbered. -/
import Derived.Test.YtmelhphhealomaaProg
import Derived.Test.YtmelhphhealomaaMem
import Derived.Test.YtmelhphhealomaaWm
namespace Go.Proofs.Ytmelhphhealomaa
set_option linter.unusedSimpArgs false
set_option linter.unusedVariables false
open Go.RowKit

/-- Where an object stands in a list; 0, if it isn't there. -/
def placeOf (order : List Int) (x : Int) : Int := if x ∈ order then (order.idxOf x : Nat) else 0

def renV (order : List Int) (v : V) : V := if v.1 then (true, placeOf order v.2) else v

theorem atKey_place {D : DataW Unit} {order : List Int} (h : PlaceD D order) (x : Int) : D.atKey (.int .i64 x) (.lit (.int .i64 0)) = .lit (.int .i64 (placeOf order x)) := by
  unfold placeOf
  split
  · rename_i hm
    have hlt : order.idxOf x < order.length := List.idxOf_lt_length_iff.2 hm
    exact h.2.2 _ _ (by rw [List.getElem?_eq_getElem hlt, List.getElem_idxOf hlt])
  · rename_i hm
    exact Maps.atKey_of_not_has (by rw [h.1 x]; simpa using hm) _

theorem grown_of_below {W W' : World} (hb : Below W.heap.size W W') : W.grownBy W' none := ⟨hb.os, hb.tape, hb.output, hb.size, fun k hk _ => hb.block k hk⟩

theorem take_set2 {cs : List Value} {k : Nat} {pre : List Value} {x y : Value} (h : cs.take (k * 2) = pre) (hl : k * 2 + 2 ≤ cs.length) : ((cs.set (k * 2) x).set (k * 2 + 1) y).take ((k + 1) * 2) = pre ++ [x, y] := by
  rw [← h]
  apply List.ext_getElem?
  intro i
  rw [List.getElem?_take]
  by_cases h1 : i < k * 2
  · rw [if_pos (by omega), List.getElem?_append_left (by simp; omega), List.getElem?_set_ne (by omega), List.getElem?_set_ne (by omega), List.getElem?_take, if_pos h1]
  · rw [List.getElem?_append_right (by simp; omega)]
    have hmin : (List.take (k * 2) cs).length = k * 2 := by simp; omega
    rw [hmin]
    by_cases h2 : i = k * 2
    · subst h2
      rw [if_pos (by omega), List.getElem?_set_ne (by omega), List.getElem?_set_self (by omega)]; simp
    · by_cases h3 : i = k * 2 + 1
      · subst h3
        rw [if_pos (by omega), List.getElem?_set_self (by simp; omega)]; simp
      · rw [if_neg (by omega), List.getElem?_eq_none (by simp; omega)]

set_option maxRecDepth 100000 in
set_option maxHeartbeats 1000000 in
theorem renumber_c (a : Option Addr) (cap : Nat) (l : List V) (mb nD : Nat) (D : DataW Unit) (order : List Int) (w : World) (hl : Vals w.heap.size w a l) (hok : RefsOk l) (hlen : l.length ≤ 1000)
    (hm : w.ownsMap Try.prog 3 (plainElem Try.prog 3) mb nD D) (hp : PlaceD D order) :
    Calls Try.prog 23 #[.slice a l.length cap, .map (some mb)] w fun e w' => ∃ a' cap', e = .returned (.slice a' l.length cap') ∧ Vals w'.heap.size w' a' (l.map (renV order)) ∧ (∀ b off, a' = some ⟨b, off, none⟩ → w.heap.size ≤ b) ∧ Below w.heap.size w w' := by
  obtain ⟨i0, hi, hz0, hz1, hz2⟩ := info_parts Try.info35
  go_enter Try.func23, Try.ntmps23
  go_wp2_with (at_make; go_must (refine wpList_make_full _ rfl _ _ 23 rfl w.heap.size 35 i0 _ 2 Try.underlying23 hi hz0 hz1 .i64 .i64 _ _ l.length rfl rfl rfl rfl (by rw [hz2]; omega) (by simp only [maxLen]; omega) (Nat.le_refl _) ?_); intro w1 hown hg1)
  have hcl := hown.1
  generalize (madeCells _ _).toList = cs0 at *
  have hb1 : Below w.heap.size w w1 := (Below.refl _ w).grown hg1 (Nat.le_refl _) (fun k e => by cases e)
  go_loopw [13] (fun i wr => ∃ (k : Nat) (cs : List Value), k ≤ l.length ∧ i = .int .i64 k ∧ wr.ownsRow w.heap.size 35 2 (.slice (some ⟨w.heap.size, 0, none⟩) l.length l.length) l.length cs ∧ cs.take (k * 2) = cellsV ((l.take k).map (renV order)) ∧ Below w.heap.size w wr) (fun i _ => l.length - (intOf i).toNat)
  case atStart => exact ⟨0, cs0, Nat.zero_le _, rfl, hown, by simp [cellsV], hb1⟩
  case round =>
    clear hown hcl hb1 hg1
    obtain ⟨k, cs, hk, rfl, hown, htk, hb⟩ := hrel
    have Htk := hide htk
    clear htk
    have hsz := hb.size
    have hcl := hown.1
    by_cases hlt : k < l.length
    · obtain ⟨b, off, r, n, rfl, hbB, hc1, hc2, Hv⟩ := (hl.below hb).at hlt
      have hrk := hok l[k] (List.getElem_mem hlt)
      rw [Hv.out] at hrk
      have HT := hide (List.take_succ_eq_append_getElem hlt)
      rw [Hv.out] at HT
      have hgb : w.heap.size < wr.heap.size := (hown.lt w.heap.size rfl).2
      have hcell : ∀ j, j < cs.length → ∃ v, wr.cell? ⟨w.heap.size, j, none⟩ = some v := fun j hj => ⟨cs[j], by
        have := hown.cells (g := w.heap.size) rfl j cs[j] (by simp [hj])
        have hadd : (⟨w.heap.size, 0, none⟩ : Addr).add j = ⟨w.heap.size, j, none⟩ := by unfold Addr.add; split <;> simp_all
        rwa [hadd] at this⟩
      obtain ⟨x0, hx0⟩ := hcell (k * 2) (by omega)
      obtain ⟨x1, hx1⟩ := hcell (k * 2 + 1) (by omega)
      have hf0 := hown.frozenAt (k * 2)
      have hf1 := hown.frozenAt (k * 2 + 1)
      clear hcell
      have hltI : (k : Int) < (l.length : Int) := by omega
      have hfin : ∀ (y : Value) (m : Int), renV order (r, n) = (r, m) → ((((wr.setCell ⟨w.heap.size, k * 2, none⟩ (.bool r)).setCell ⟨w.heap.size, k * 2 + 1, none⟩ (.int .i64 m)).alloc (.cells #[.bool r, y] 35)).ownsRow
              w.heap.size 35 2 (.slice (some ⟨w.heap.size, 0, none⟩) l.length l.length) l.length ((cs.set (k * 2) (.bool r)).set (k * 2 + 1) (.int .i64 m)) ∧ ((cs.set (k * 2) (.bool r)).set (k * 2 + 1) (.int .i64 m)).take ((k + 1) * 2) = cellsV ((l.take (k + 1)).map (renV order)) ∧
              Below w.heap.size w (((wr.setCell ⟨w.heap.size, k * 2, none⟩ (.bool r)).setCell ⟨w.heap.size, k * 2 + 1, none⟩ (.int .i64 m)).alloc (.cells #[.bool r, y] 35))) := by
        intro y m hrm
        refine ⟨((hown.stored (k * 2) (.bool r)).1.stored (k * 2 + 1) (.int .i64 m)).1.alloc _, ?_, ?_⟩
        · rw [take_set2 (unhide Htk) (by omega), unhide HT, List.map_append, List.map_cons, List.map_nil, hrm, cellsV_snoc]
        · exact ((hb.setCell (p := ⟨w.heap.size, k * 2, none⟩) (Nat.le_refl _) _).setCell (p := ⟨w.heap.size, k * 2 + 1, none⟩) (Nat.le_refl _) _).alloc (by simp [World.setCell]; omega) _
      have Hfin := hide hfin
      clear hfin
      cases r
      · go_wp2
        obtain ⟨q1, q2, q3⟩ := unhide Hfin (.int .i64 n) n (by simp [renV])
        exact ⟨⟨k + 1, _, by omega, by go_num, q1, q2, q3⟩, by simp [intOf]; omega⟩
      · have hrk := hrk rfl
        have Hkey := hide (Maps.keyOf_int_mk Try.underlying3 (wf_i64 hrk.1 (by omega)))
        have hmr := hm.kept (grown_of_below hb) (by simp)
        go_wp2_with (at_lookup; go_must (refine wpList_lookup_own_int _ rfl _ _ 49 rfl 3 3 .i64 (Maps.int_keyed Try.underlying3) Try.underlying49 Try.underlying3 (Try.zeroValue3 _) mb _ D rfl (hmr.alloc _) _ _ rfl (unhide Hkey) ?_); go_must (intro c hat hwc; rw [atKey_place hp] at hat; injection hat with hat; injection hat with _ hat; subst hat))
        obtain ⟨q1, q2, q3⟩ := unhide Hfin (.int .i64 (placeOf order n)) (placeOf order n) (by simp [renV])
        exact ⟨⟨k + 1, _, by omega, by go_num, q1, q2, q3⟩, by simp [intOf]; omega⟩
    · obtain rfl : k = l.length := by omega
      have htk := unhide Htk
      rw [List.take_length, List.take_of_length_le (by omega)] at htk
      rw [htk] at hown
      obtain ⟨a', cap', hv, hV, hbs⟩ := vals_of_owns hown (by simp) (by omega)
      have hv' := hv
      simp only [List.length_map] at hv
      go_wp2
      go_ret
      exact ⟨a', cap', congrArg Ending.returned hv, hV, hbs, hb⟩

end Go.Proofs.Ytmelhphhealomaa
