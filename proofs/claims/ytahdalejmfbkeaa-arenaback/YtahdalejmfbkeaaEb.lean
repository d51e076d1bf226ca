/- Walks: ArenaBack. -/
import Derived.Test.YtahdalejmfbkeaaEa
import Derived.Test.YtahdalejmfbkeaaCc
import Derived.Test.YtahdalejmfbkeaaWs
namespace Go.Proofs.Ytahdalejmfbkeaa
set_option linter.unusedSimpArgs false
set_option linter.unusedVariables false
open Go.RowKit Go.Shelf

set_option maxRecDepth 100000 in
set_option maxHeartbeats 4000000 in
theorem back_c (ao ar : Option Addr) (co cr : Nat) (g : Gr) (w : World) (ho : Objs w.heap.size w ao g.objs) (hr : Vals w.heap.size w ar g.roots) :
    Calls Try.prog 5 #[.agg #[.slice ao g.objs.length co, .slice ar g.roots.length cr]] w fun e w' => e = .returned (.bool true) ∧ Below w.heap.size w w' := by
  obtain ⟨W1, hW1⟩ : ∃ W1, w.alloc (.cells #[.slice ao g.objs.length co, .slice ar g.roots.length cr] 33) = W1 := ⟨_, rfl⟩
  have hb1 : Below w.heap.size w W1 := by rw [← hW1]; exact (Below.refl w.heap.size w).alloc (Nat.le_refl _) _
  have hs1 : w.heap.size < W1.heap.size := by rw [← hW1]; simp
  have g0 : W1.cell? ⟨w.heap.size, 0, none⟩ = some (.slice ao g.objs.length co) := by rw [← hW1]; simp [go_sem]
  have g1 : W1.cell? ⟨w.heap.size, 1, none⟩ = some (.slice ar g.roots.length cr) := by rw [← hW1]; simp [go_sem]
  have Hc1 := hide (alay_c ao ar co cr g w.heap.size W1 (ho.below hb1) (hr.below hb1) (by omega))
  go_enter Try.func5, Try.ntmps5
  go_wp2_with fail
  refine (unhide Hc1).mono ?_
  rintro e w2 ⟨hres, hb2⟩
  clear hW1 Hc1
  have hs2 := hb2.size
  have hbw2 : Below w.heap.size w w2 := hb1.trans (hb2.mono (by omega))
  replace g0 := (hb2.cell (p := ⟨w.heap.size, 0, none⟩) hs1).trans g0
  replace g1 := (hb2.cell (p := ⟨w.heap.size, 1, none⟩) hs1).trans g1
  have hlt2 : w.heap.size < w2.heap.size := by omega
  clear hb1 hb2
  by_cases hE : checkG g = 0
  · obtain ⟨_, aw, cw, ar2, cr2, he, hWF, hRF, hcap⟩ := hres.resolve_left (fun h => h.1 hE)
    clear hres
    subst he
    obtain ⟨hUW, hUR, hsp, hA, hread⟩ := lay_back hE
    have hb3 := (Below.refl w2.heap.size w2).alloc (Nat.le_refl _) (.cells #[.slice aw (layWords g).length cw, .slice ar2 (layRoots g).length cr2] 24)
    have Hc2 := hide (aread_c aw ar2 cw cr2 (layWords g) (layRoots g) w2.heap.size (w2.alloc (.cells #[.slice aw (layWords g).length cw, .slice ar2 (layRoots g).length cr2] 24)) (hWF.1.below hb3) (hRF.1.below hb3) hUW hUR (by simp) hcap)
    have HA := hide hA
    have Hsp := hide hsp
    have Hread := hide hread
    clear hWF hRF hsp hread hA hE
    generalize layWords g = LW at *
    generalize layRoots g = LR at *
    go_wp2_with fail
    refine (unhide Hc2).mono ?_
    rintro e w4 ⟨hres4, hb4⟩
    obtain ⟨_, fs', ao4, co4, ar4, cr4, hs', he4, hO, hV⟩ := hres4.resolve_left (fun h => h.1 (unhide HA))
    clear hres4 Hc2
    rw [unhide Hsp] at hs'
    injection hs' with hs'
    subst hs'
    rw [unhide Hread] at he4 hO hV
    subst he4
    simp only [World.size_alloc] at hb4
    have hs4 := hb4.size
    simp only [World.size_alloc] at hs4
    have hbw4 : Below w.heap.size w w4 := hbw2.trans ((hb3.mono (by omega)).trans (hb4.mono (by omega)))
    have hb24 : Below w2.heap.size w2 w4 := hb3.trans (hb4.mono (by omega))
    replace g0 := (hb24.cell (p := ⟨w.heap.size, 0, none⟩) hlt2).trans g0
    replace g1 := (hb24.cell (p := ⟨w.heap.size, 1, none⟩) hlt2).trans g1
    have hlt4 : w.heap.size < w4.heap.size := by omega
    have hb5 := (Below.refl w4.heap.size w4).alloc (Nat.le_refl _) (.cells #[.slice ao4 g.objs.length co4, .slice ar4 g.roots.length cr4] 33)
    have Hc3 := hide (graphs_c ao4 ar4 ao ar co4 cr4 co cr g g w4.heap.size (w4.alloc (.cells #[.slice ao4 g.objs.length co4, .slice ar4 g.roots.length cr4] 33)) (hO.objs.below hb5) (hV.1.below hb5) (((ho.below hbw4).mono (by omega)).below hb5) (((hr.below hbw4).mono (by omega)).below hb5) (by simp))
    rw [sameG_self] at Hc3
    clear hO hV hb24 hb4 hb3
    go_wp2_with fail
    refine (unhide Hc3).mono ?_
    rintro e w6 ⟨he, hb6⟩
    subst he
    go_wp2
    go_ret
    exact ⟨rfl, hbw4.trans ((hb5.mono (by omega)).trans (hb6.mono (by simp; omega)))⟩
  · obtain ⟨_, he⟩ := hres.resolve_right (fun h => hE h.1)
    clear hres
    subst he
    have hb3 := (Below.refl w2.heap.size w2).alloc (Nat.le_refl _) (.cells #[.slice none 0 0, .slice none 0 0] 24)
    have Hc2 := hide (good_c ao ar co cr g w.heap.size (w2.alloc (.cells #[.slice none 0 0, .slice none 0 0] 24)) ((ho.below hbw2).below (hb3.mono (by omega))) ((hr.below hbw2).below (hb3.mono (by omega))) (by simp; omega))
    have d1 : (checkG g != 0) = true := by simpa using hE
    have d2 : (checkG g == 0) = false := by simpa using hE
    rw [d2] at Hc2
    clear hE d2
    go_wp2_with fail
    refine (unhide Hc2).mono ?_
    rintro e w4 ⟨he, hb4⟩
    subst he
    go_wp2
    go_ret
    exact ⟨rfl, hbw2.trans ((hb3.mono (by omega)).trans (hb4.mono (by simp; omega)))⟩

end Go.Proofs.Ytahdalejmfbkeaa
