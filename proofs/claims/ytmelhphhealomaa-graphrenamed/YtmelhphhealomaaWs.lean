/- Walks: Same; good, refused. -/
import Derived.Test.YtmelhphhealomaaProg
import Derived.Test.YtmelhphhealomaaMem
import Derived.Test.YtmelhphhealomaaWr
import Derived.Test.YtmelhphhealomaaWn
namespace Go.Proofs.Ytmelhphhealomaa
set_option linter.unusedSimpArgs false
set_option linter.unusedVariables false
open Go.RowKit

theorem Objs.below2 {B : Nat} {w w' : World} {a : Option Addr} {L : List (List V)} (h : Objs B w a L) (hb : Below B w w') (hs : B ≤ w.heap.size) : Objs w'.heap.size w' a L := (h.below hb).mono (Nat.le_trans hs hb.size)

set_option maxRecDepth 100000 in
set_option maxHeartbeats 400000 in
theorem good_c (ao ar : Option Addr) (co cr : Nat) (g : Gr) (B : Nat) (w : World) (ho : Objs B w ao g.objs) (hr : Vals B w ar g.roots) (hB : B ≤ w.heap.size) :
    Calls Try.prog 8 #[.agg #[.slice ao g.objs.length co, .slice ar g.roots.length cr]] w fun e w' => e = .returned (.bool (checkG g == 0)) ∧ Below w.heap.size w w' := by
  have hb1 := (Below.refl w.heap.size w).alloc (Nat.le_refl _) (.cells #[.slice ao g.objs.length co, .slice ar g.roots.length cr] 25)
  go_enter Try.func8, Try.ntmps8
  go_wp2_with (go_at_call 15; go_must (refine (graphCheck_c _ _ _ _ g B _ (ho.below (hb1.mono hB)) (hr.below (hb1.mono hB)) (by simp; omega)).mono ?_); rintro e w2 ⟨rfl, hb2⟩)
  go_ret
  exact ⟨rfl, hb1.trans (hb2.mono (by simp))⟩

set_option maxRecDepth 100000 in
set_option maxHeartbeats 400000 in
theorem refused_c (ao ar : Option Addr) (co cr : Nat) (g : Gr) (B : Nat) (w : World) (ho : Objs B w ao g.objs) (hr : Vals B w ar g.roots) (hB : B ≤ w.heap.size) :
    Calls Try.prog 9 #[.agg #[.slice ao g.objs.length co, .slice ar g.roots.length cr]] w fun e w' => e = .returned (.bool (checkG g != 0)) ∧ Below w.heap.size w w' := by
  have hb1 := (Below.refl w.heap.size w).alloc (Nat.le_refl _) (.cells #[.slice ao g.objs.length co, .slice ar g.roots.length cr] 25)
  go_enter Try.func9, Try.ntmps9
  go_wp2_with (go_at_call 20; go_must (refine (check_c _ _ _ _ g B _ (ho.below (hb1.mono hB)) (hr.below (hb1.mono hB)) (by simp; omega)).mono ?_); rintro e w2 ⟨rfl, hb2⟩)
  go_ret
  exact ⟨rfl, hb1.trans (hb2.mono (by simp))⟩

set_option maxRecDepth 100000 in
set_option maxHeartbeats 1000000 in
theorem same_ok (ao ar bo br : Option Addr) (co cr do' dr : Nat) (g h : Gr) (B : Nat) (w : World) (ho : Objs B w ao g.objs) (hr : Vals B w ar g.roots) (ko : Objs B w bo h.objs) (kr : Vals B w br h.roots) (hB : B ≤ w.heap.size)
    (hg : checkG g = 0) (hh : checkG h = 0) :
    Calls Try.prog 10 #[.agg #[.slice ao g.objs.length co, .slice ar g.roots.length cr], .agg #[.slice bo h.objs.length do', .slice br h.roots.length dr]] w fun e w' => e = .returned (.tuple #[.bool (sameG (canonG g) (canonG h)), .int .i64 0]) ∧ Below w.heap.size w w' := by
  have Hg := hide hg
  have Hh := hide hh
  clear hg hh
  have hb1 := ((Below.refl w.heap.size w).alloc (Nat.le_refl _) (.cells #[.slice ao g.objs.length co, .slice ar g.roots.length cr] 25)).alloc (by simp) (.cells #[.slice bo h.objs.length do', .slice br h.roots.length dr] 25)
  go_enter Try.func10, Try.ntmps10
  go_wp2_with fail
  refine (canon_ok _ _ _ _ g B _ (ho.below (hb1.mono hB)) (hr.below (hb1.mono hB)) (by simp; omega) (unhide Hg)).mono ?_
  rintro e w2 ⟨ao2, co2, ar2, cr2, rfl, hO2, hV2, hb2⟩
  simp only [World.size_alloc] at hb2
  have q0 := hb2.cell (p := ⟨w.heap.size + 1, 0, none⟩) (by simp)
  have q1 := hb2.cell (p := ⟨w.heap.size + 1, 1, none⟩) (by simp)
  simp [go_sem] at q0 q1
  have hs2 := hb2.size
  simp at hs2
  have hq2 : w.heap.size + 1 < w2.heap.size := by omega
  have hbw2 : Below w.heap.size w w2 := hb1.trans (hb2.mono (by omega))
  clear hb1 hb2
  have hb3 := (Below.refl w2.heap.size w2).alloc (Nat.le_refl _) (.cells #[.slice ao2 (canonG g).objs.length co2, .slice ar2 (canonG g).roots.length cr2] 25)
  have hbw3 : Below w.heap.size w (w2.alloc (.cells #[.slice ao2 (canonG g).objs.length co2, .slice ar2 (canonG g).roots.length cr2] 25)) := hbw2.trans (hb3.mono (by omega))
  go_wp2_with fail
  refine (canon_ok _ _ _ _ h B _ (ko.below (hbw3.mono hB)) (kr.below (hbw3.mono hB)) (by simp; omega) (unhide Hh)).mono ?_
  rintro e w4 ⟨ao4, co4, ar4, cr4, rfl, hO4, hV4, hb4⟩
  simp only [World.size_alloc] at hb4
  have p0 := hb4.cell (p := ⟨w2.heap.size, 0, none⟩) (by simp)
  have p1 := hb4.cell (p := ⟨w2.heap.size, 1, none⟩) (by simp)
  simp [go_sem] at p0 p1
  have hs4 := hb4.size
  simp at hs4
  have hq4 : w2.heap.size < w4.heap.size := by omega
  have hb24 : Below w2.heap.size w2 w4 := hb3.trans (hb4.mono (by omega))
  have hbw4 : Below w.heap.size w w4 := hbw3.trans (hb4.mono (by omega))
  have hO24 := hO2.below2 hb24 (Nat.le_refl _)
  have hV24 := (hV2.below hb24).mono (B' := w4.heap.size) (by omega)
  clear hb3 hb4 hbw3 hbw2 hb24
  have hb5 := (Below.refl w4.heap.size w4).alloc (Nat.le_refl _) (.cells #[.slice ao4 (canonG h).objs.length co4, .slice ar4 (canonG h).roots.length cr4] 25)
  go_wp2_with fail
  refine (equalG_c _ _ _ _ _ _ _ _ (canonG g) (canonG h) w4.heap.size _ (hO24.below hb5) (hV24.below hb5) (hO4.below hb5) (hV4.below hb5) (by simp)).mono ?_
  rintro e w6 ⟨rfl, hb6⟩
  go_wp2
  go_ret2
  exact ⟨rfl, hbw4.trans ((hb5.mono (by have := hbw4.size; omega)).trans (hb6.mono (by have := hbw4.size; omega)))⟩

end Go.Proofs.Ytmelhphhealomaa
