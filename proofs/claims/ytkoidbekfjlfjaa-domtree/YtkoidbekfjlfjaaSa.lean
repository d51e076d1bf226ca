/- Walks: Reach. -/
import Derived.Test.YtkoidbekfjlfjaaProg
import Derived.Test.YtkoidbekfjlfjaaMem
import Derived.Test.YtkoidbekfjlfjaaXa
import Derived.Test.YtkoidbekfjlfjaaPa
import Derived.Test.YtkoidbekfjlfjaaWz
import Derived.Test.YtkoidbekfjlfjaaWv
import Derived.Test.YtkoidbekfjlfjaaWr
import Derived.Ground.NamesProg
import Derived.Shelf.Lay
import Derived.Shelf.Sort.Plain
import Derived.Shelf.Slices.In.SortNone
import Derived.Sort.OwnSortedInts
namespace Go.Proofs
open Go.Shelf
shelf_lay Lays.n189 Nm 189 at Try as Try.laysSort
end Go.Proofs
namespace Go.Proofs.Ytkoidbekfjlfjaa
set_option linter.unusedSimpArgs false
set_option linter.unusedVariables false
open Go.RowKit

theorem sort_c (v : Value) (base : Nat) (l : List Int) (w : World) (h : w.ownsRow base 3 1 v l.length (intsV l)) (hl : l.length ≤ 1000) :
    Calls Try.prog 32 #[v] w fun e w' => e = .returned (.tuple #[]) ∧ w'.ownsRow base 3 1 v l.length (intsV (sortL l)) ∧ w.grownBy w' v.ownBlock := by
  rcases h.2 with ⟨rfl, h0⟩ | ⟨g, cap, cur, rfl, hb, hg, hc1, hc2, hc3, htake⟩
  · have e : l = [] := List.eq_nil_of_length_eq_zero h0
    subst e
    refine (Any.slices_Sort_int_none Try.laysSort none 0 w).mono ?_
    rintro e w' ⟨rfl, rfl⟩
    exact ⟨rfl, by rw [show sortL [] = [] by simp [sortL]]; exact h, ⟨rfl, rfl, rfl, Nat.le_refl _, fun _ _ _ => rfl⟩⟩
  · refine (Any.slices_Sort_int Try.laysSort g 0 cap l w (holds_of_blockI hg (by rw [Nat.mul_one] at htake; exact htake)) (Array.getElem?_eq_some_iff.1 hg).1 (by omega)).mono ?_
    rintro e w' ⟨rfl, n, os, rfl⟩
    exact ⟨rfl, ownsRow_sortedI (sortL_len l) hb hg hc1 hc2 hc3, grownBy_sortedI _⟩

set_option maxRecDepth 100000 in
set_option maxHeartbeats 400000 in
theorem reach_bad (ao ar : Option Addr) (co cr : Nat) (g : Gr) (B : Nat) (w : World) (ho : Objs B w ao g.objs) (hr : Vals B w ar g.roots) (hB : B ≤ w.heap.size) (hc : checkG g ≠ 0) :
    Calls Try.prog 14 #[.agg #[.slice ao g.objs.length co, .slice ar g.roots.length cr]] w fun e w' => e = .returned (.tuple #[.slice none 0 0, .int .i64 (checkG g)]) ∧ Below w.heap.size w w' := by
  have hd : (checkG g != 0) = true := by simpa using hc
  clear hc
  have hb1 := (Below.refl w.heap.size w).alloc (Nat.le_refl _) (.cells #[.slice ao g.objs.length co, .slice ar g.roots.length cr] 25)
  go_enter Try.func14, Try.ntmps14
  go_wp2_with (go_at_call 24; go_must (refine (check_c _ _ _ _ g B _ (ho.below (hb1.mono hB)) (hr.below (hb1.mono hB)) (by simp; omega)).mono ?_); go_must (rintro e w2 ⟨rfl, hb2⟩))
  go_ret2
  exact ⟨rfl, hb1.trans (hb2.mono (by simp))⟩

set_option maxRecDepth 100000 in
set_option maxHeartbeats 1000000 in
theorem reach_ok (ao ar : Option Addr) (co cr : Nat) (g : Gr) (B : Nat) (w : World) (ho : Objs B w ao g.objs) (hr : Vals B w ar g.roots) (hB : B ≤ w.heap.size) (hc : checkG g = 0) :
    Calls Try.prog 14 #[.agg #[.slice ao g.objs.length co, .slice ar g.roots.length cr]] w fun e w' => ∃ a cap, e = .returned (.tuple #[.slice a (sortL (orderOf g)).length cap, .int .i64 0]) ∧ Ints w'.heap.size w' a (sortL (orderOf g)) ∧ Below w.heap.size w w' := by
  have hG := good_of_check hc
  have Hcc := hide hc
  clear hc
  have hb1 := (Below.refl w.heap.size w).alloc (Nat.le_refl _) (.cells #[.slice ao g.objs.length co, .slice ar g.roots.length cr] 25)
  go_enter Try.func14, Try.ntmps14
  go_wp2_with fail
  refine (check_c _ _ _ _ g B _ (ho.below (hb1.mono hB)) (hr.below (hb1.mono hB)) (by simp; omega)).mono ?_
  rintro e w2 ⟨he, hb2⟩
  rw [unhide Hcc] at he
  subst he
  simp only [World.size_alloc] at hb2
  have g0 := hb2.cell (p := ⟨w.heap.size, 0, none⟩) (by simp)
  have g1 := hb2.cell (p := ⟨w.heap.size, 1, none⟩) (by simp)
  simp [go_sem] at g0 g1
  have hs2 := hb2.size
  simp at hs2
  have hbw2 : Below w.heap.size w w2 := hb1.trans (hb2.mono (by omega))
  clear hb1 hb2
  go_wp2_with fail
  refine (search_c _ _ _ _ g B _ (ho.below (hbw2.mono hB)) (hr.below (hbw2.mono hB)) (by omega) hG).mono ?_
  rintro e w3 ⟨vo, vd, D, mb, rfl, hmb, hF, hb3⟩
  have hbw3 : Below w.heap.size w w3 := hbw2.trans (hb3.mono (by omega))
  obtain ⟨oa, oc, rfl⟩ := ownsRow_slice hF.ord
  obtain ⟨da, dc, rfl⟩ := ownsRow_slice hF.dis
  have hlen := (searchN_ok hG g.objs.length).le
  have hn24 := hG.n24
  have hord : w3.ownsRow (mb + 2) 3 1 (.slice oa (orderOf g).length oc) (orderOf g).length (intsV (orderOf g)) := hF.ord
  have hol : (orderOf g).length ≤ 24 := by unfold orderOf; omega
  clear hF
  have HO : Hid ((searchN g g.objs.length).1 = orderOf g) := rfl
  have hfd : ∀ (n1 n2 : Nat) (w : World), (Instr.field 58 (.agg #[.slice oa n1 oc, .slice da n2 dc, .map (some mb)]) 0).run Try.prog w = .ok (.slice oa n1 oc) w := fun _ _ _ => by kernel_rfl
  go_wp2_with (go_at_call 32; go_must (refine (sort_c _ (mb + 2) (orderOf g) _ hord (by omega)).mono ?_); go_must (rintro e w4 ⟨rfl, hord4, hg4⟩))
  have hs2' := hbw2.size
  have hb4 : Below w.heap.size w w4 := hbw3.grown hg4 hbw3.size (fun k e => by have := (hord.lt k e).1; omega)
  rw [← sortL_len (orderOf g)] at hord4
  obtain ⟨a4, c4, hv4, hI4, _⟩ := ints_of_owns hord4 rfl (by rw [sortL_len]; omega)
  injection hv4 with e1 _ e3
  subst e1 e3
  go_ret2
  exact ⟨_, _, by rw [sortL_len]; rfl, hI4, hb4⟩

end Go.Proofs.Ytkoidbekfjlfjaa
