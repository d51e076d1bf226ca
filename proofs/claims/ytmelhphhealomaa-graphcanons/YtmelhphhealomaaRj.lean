/- Walks: Same of wrong graphs. -/
import Derived.Test.YtmelhphhealomaaProg
import Derived.Test.YtmelhphhealomaaMem
import Derived.Test.YtmelhphhealomaaWs
namespace Go.Proofs.Ytmelhphhealomaa
set_option linter.unusedSimpArgs false
set_option linter.unusedVariables false
open Go.RowKit

/-- A call that is wanted, as one step of a region that draws. -/
theorem step_call_w {P : Program} {ops : Array Oper} {o : Oper} {a : Act} {w : World} {K : Act → World → Prop} {Q : Exit → Act → World → Prop} {E : Prop} (hw : Region.wanted o (yielded ops a.tmps) = true) (f : FuncId) (args : Array Value)
    (hex : (execOp a.eval o).run P w = .ok (.enter f args) w) (R : Value → World → Prop) (hc : Calls P f args w fun e w' => ∃ v, e = .returned v ∧ R v w') (hK : ∀ v w', R v w' → K (a.put o.dst v) w') :
    if Region.wanted o (yielded ops a.tmps) = true then Oper.wp P o a w K Q else E := by
  rw [if_pos hw]
  unfold Oper.wp
  rw [hex, Oper.upon_enter]
  refine hc.mono ?_
  rintro e w' ⟨v, rfl, hr⟩
  exact hK v w' hr

theorem objs_nil (B : Nat) (w : World) : Objs B w none [] := ⟨by simp, fun h => absurd rfl h⟩
theorem vals_nil (B : Nat) (w : World) : Vals B w none [] := ⟨by simp, fun h => absurd rfl h⟩

set_option maxRecDepth 100000 in
set_option maxHeartbeats 1000000 in
theorem same_bad1 (ao ar bo br : Option Addr) (co cr do' dr : Nat) (g h : Gr) (B : Nat) (w : World) (ho : Objs B w ao g.objs) (hr : Vals B w ar g.roots) (ko : Objs B w bo h.objs) (kr : Vals B w br h.roots) (hB : B ≤ w.heap.size)
    (hg : checkG g ≠ 0) :
    Calls Try.prog 10 #[.agg #[.slice ao g.objs.length co, .slice ar g.roots.length cr], .agg #[.slice bo h.objs.length do', .slice br h.roots.length dr]] w fun e w' => e = .returned (.tuple #[.bool false, .int .i64 (checkG g)]) ∧ Below w.heap.size w w' := by
  have Hg := hide hg
  have hd : (checkG g != 0) = true := by simpa using hg
  clear hg
  have hb1 := ((Below.refl w.heap.size w).alloc (Nat.le_refl _) (.cells #[.slice ao g.objs.length co, .slice ar g.roots.length cr] 25)).alloc (by simp) (.cells #[.slice bo h.objs.length do', .slice br h.roots.length dr] 25)
  go_enter Try.func10, Try.ntmps10
  go_wp2_with fail
  refine (canon_bad _ _ _ _ g B _ (ho.below (hb1.mono hB)) (hr.below (hb1.mono hB)) (by simp; omega) (unhide Hg)).mono ?_
  rintro e w2 ⟨rfl, hb2⟩
  simp only [World.size_alloc] at hb2
  have hs2 := hb2.size
  simp at hs2
  have hbw2 : Below w.heap.size w w2 := hb1.trans (hb2.mono (by omega))
  clear hb1 hb2
  go_wp2
  go_ret2
  exact ⟨rfl, hbw2.alloc (by have := hbw2.size; omega) _⟩

set_option maxRecDepth 100000 in
set_option maxHeartbeats 1000000 in
theorem same_bad2 (ao ar bo br : Option Addr) (co cr do' dr : Nat) (g h : Gr) (B : Nat) (w : World) (ho : Objs B w ao g.objs) (hr : Vals B w ar g.roots) (ko : Objs B w bo h.objs) (kr : Vals B w br h.roots) (hB : B ≤ w.heap.size)
    (hg : checkG g = 0) (hh : checkG h ≠ 0) :
    Calls Try.prog 10 #[.agg #[.slice ao g.objs.length co, .slice ar g.roots.length cr], .agg #[.slice bo h.objs.length do', .slice br h.roots.length dr]] w fun e w' => e = .returned (.tuple #[.bool false, .int .i64 (checkG h)]) ∧ Below w.heap.size w w' := by
  have Hg := hide hg
  have Hh := hide hh
  have hd : (checkG h != 0) = true := by simpa using hh
  clear hg hh
  have hb1 := ((Below.refl w.heap.size w).alloc (Nat.le_refl _) (.cells #[.slice ao g.objs.length co, .slice ar g.roots.length cr] 25)).alloc (by simp) (.cells #[.slice bo h.objs.length do', .slice br h.roots.length dr] 25)
  go_enter Try.func10, Try.ntmps10
  go_wp2_with fail
  refine (canon_ok _ _ _ _ g B _ (ho.below (hb1.mono hB)) (hr.below (hb1.mono hB)) (by simp; omega) (unhide Hg)).mono ?_
  rintro e w2 ⟨ao2, co2, ar2, cr2, rfl, hO2, hV2, hb2⟩
  simp only [World.size_alloc] at hb2
  have q0 := hb2.cell (p := ⟨w.heap.size + 1, 0, none⟩) (by simp)
  have q1 := hb2.cell (p := ⟨w.heap.size + 1, 1, none⟩) (by simp)
  simp [go_sem] at q0 q1
  have hs2 := hb2.size
  simp at hs2
  have hq2 : w.heap.size + 1 < w2.heap.size := by omega
  have hbw2 : Below w.heap.size w w2 := hb1.trans (hb2.mono (by omega))
  clear hb1 hb2
  have hb3 := (Below.refl w2.heap.size w2).alloc (Nat.le_refl _) (.cells #[.slice ao2 (canonG g).objs.length co2, .slice ar2 (canonG g).roots.length cr2] 25)
  have hbw3 : Below w.heap.size w (w2.alloc (.cells #[.slice ao2 (canonG g).objs.length co2, .slice ar2 (canonG g).roots.length cr2] 25)) := hbw2.trans (hb3.mono (by omega))
  go_wp2_with fail
  refine (canon_bad _ _ _ _ h B _ (ko.below (hbw3.mono hB)) (kr.below (hbw3.mono hB)) (by simp; omega) (unhide Hh)).mono ?_
  rintro e w4 ⟨rfl, hb4⟩
  simp only [World.size_alloc] at hb4
  have hbw4 : Below w.heap.size w w4 := hbw3.trans (hb4.mono (by omega))
  clear hb3 hb4 hbw3 hbw2
  go_wp2
  go_ret2
  exact ⟨rfl, hbw4.alloc (by have := hbw4.size; omega) _⟩

end Go.Proofs.Ytmelhphhealomaa
