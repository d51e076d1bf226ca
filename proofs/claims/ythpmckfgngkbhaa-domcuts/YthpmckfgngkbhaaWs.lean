/- Walks: Same; good, refused. -/
import Derived.Test.YthpmckfgngkbhaaProg
import Derived.Test.YthpmckfgngkbhaaMem
import Derived.Test.YthpmckfgngkbhaaWr
import Derived.Test.YthpmckfgngkbhaaWn
namespace Go.Proofs.Ythpmckfgngkbhaa
set_option linter.unusedSimpArgs false
set_option linter.unusedVariables false
open Go.RowKit

theorem Objs.below2 {B : Nat} {w w' : World} {a : Option Addr} {L : List (List V)} (h : Objs B w a L) (hb : Below B w w') (hs : B ≤ w.heap.size) : Objs w'.heap.size w' a L := (h.below hb).mono (Nat.le_trans hs hb.size)

set_option maxRecDepth 100000 in
set_option maxHeartbeats 400000 in
theorem good_c (ao ar : Option Addr) (co cr : Nat) (g : Gr) (B : Nat) (w : World) (ho : Objs B w ao g.objs) (hr : Vals B w ar g.roots) (hB : B ≤ w.heap.size) :
    Calls Try.prog 13 #[.agg #[.slice ao g.objs.length co, .slice ar g.roots.length cr]] w fun e w' => e = .returned (.bool (checkG g == 0)) ∧ Below w.heap.size w w' := by
  have hb1 := (Below.refl w.heap.size w).alloc (Nat.le_refl _) (.cells #[.slice ao g.objs.length co, .slice ar g.roots.length cr] 25)
  go_enter Try.func13, Try.ntmps13
  go_wp2_with (go_at_call 9; go_must (refine (graphCheck_c _ _ _ _ g B _ (ho.below (hb1.mono hB)) (hr.below (hb1.mono hB)) (by simp; omega)).mono ?_); rintro e w2 ⟨rfl, hb2⟩)
  go_ret
  exact ⟨rfl, hb1.trans (hb2.mono (by simp))⟩

set_option maxRecDepth 100000 in
set_option maxHeartbeats 400000 in
theorem refused_c (ao ar : Option Addr) (co cr : Nat) (g : Gr) (B : Nat) (w : World) (ho : Objs B w ao g.objs) (hr : Vals B w ar g.roots) (hB : B ≤ w.heap.size) :
    Calls Try.prog 18 #[.agg #[.slice ao g.objs.length co, .slice ar g.roots.length cr]] w fun e w' => e = .returned (.bool (checkG g != 0)) ∧ Below w.heap.size w w' := by
  have hb1 := (Below.refl w.heap.size w).alloc (Nat.le_refl _) (.cells #[.slice ao g.objs.length co, .slice ar g.roots.length cr] 25)
  go_enter Try.func18, Try.ntmps18
  go_wp2_with (go_at_call 24; go_must (refine (check_c _ _ _ _ g B _ (ho.below (hb1.mono hB)) (hr.below (hb1.mono hB)) (by simp; omega)).mono ?_); rintro e w2 ⟨rfl, hb2⟩)
  go_ret
  exact ⟨rfl, hb1.trans (hb2.mono (by simp))⟩

end Go.Proofs.Ythpmckfgngkbhaa
