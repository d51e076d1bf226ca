/- Walks: ArenaLays. -/
import Derived.Test.YtahdalejmfbkeaaFc
import Derived.Test.YtahdalejmfbkeaaWe
import Derived.Deep.RegionWith
namespace Go.Proofs.Ytahdalejmfbkeaa
set_option linter.unusedSimpArgs false
set_option linter.unusedVariables false
open Go.RowKit Go.Shelf

theorem layHW_plain (g : Gr) : layHW (stF 0 g.objs) (plainH g.objs) g.objs = layWords g := by
  unfold layHW layWords
  congr 1
  unfold plainH layHeads
  rw [List.map_map]
  rfl

theorem wds_none (B : Nat) (w : World) : Wds B w none [] := ⟨by simp, fun h => absurd rfl h⟩

set_option maxRecDepth 100000 in
set_option maxHeartbeats 8000000 in
theorem lays_c (ao ar : Option Addr) (co cr : Nat) (g : Gr) (w : World) (ho : Objs w.heap.size w ao g.objs) (hr : Vals w.heap.size w ar g.roots) :
    Calls Try.prog 4 #[.agg #[.slice ao g.objs.length co, .slice ar g.roots.length cr]] w fun e w' => e = .returned (.bool true) ∧ Below w.heap.size w w' := by
  obtain ⟨W1, hW1⟩ : ∃ W1, w.alloc (.cells #[.slice ao g.objs.length co, .slice ar g.roots.length cr] 33) = W1 := ⟨_, rfl⟩
  have hb1 : Below w.heap.size w W1 := by rw [← hW1]; exact (Below.refl w.heap.size w).alloc (Nat.le_refl _) _
  have hs1 : w.heap.size < W1.heap.size := by rw [← hW1]; simp
  have g0 : W1.cell? ⟨w.heap.size, 0, none⟩ = some (.slice ao g.objs.length co) := by rw [← hW1]; simp [go_sem]
  have g1 : W1.cell? ⟨w.heap.size, 1, none⟩ = some (.slice ar g.roots.length cr) := by rw [← hW1]; simp [go_sem]
  have Hc1 := hide (alay_c ao ar co cr g w.heap.size W1 (ho.below hb1) (hr.below hb1) (by omega))
  go_enter Try.func4, Try.ntmps4
  go_wp2_with fail
  refine (unhide Hc1).mono ?_
  rintro e w2 ⟨hres, hb2⟩
  clear hW1 Hc1
  have hs2 := hb2.size
  have hbw2 : Below w.heap.size w w2 := hb1.trans (hb2.mono (by omega))
  replace g0 := (hb2.cell (p := ⟨w.heap.size, 0, none⟩) hs1).trans g0
  replace g1 := (hb2.cell (p := ⟨w.heap.size, 1, none⟩) hs1).trans g1
  have hlt2 : w.heap.size < w2.heap.size := by omega
  clear hb1 hb2
  by_cases hE : checkG g = 0
  · obtain ⟨_, aw, cw, ar2, cr2, he, hWF, hRF, hcap⟩ := hres.resolve_left (fun h => h.1 hE)
    clear hres
    subst he
    have hG := good_of_check hE
    obtain ⟨hnr, hno⟩ := nums_of_check hE
    have hb3 := (Below.refl w2.heap.size w2).alloc (Nat.le_refl _) (.cells #[.slice aw (layWords g).length cw, .slice ar2 (layRoots g).length cr2] 24)
    have hbw3 : Below w.heap.size w (w2.alloc (.cells #[.slice aw (layWords g).length cw, .slice ar2 (layRoots g).length cr2] 24)) := hbw2.trans (hb3.mono (by omega))
    have Hc2 := hide (graphCheck_c ao ar co cr g w.heap.size (w2.alloc (.cells #[.slice aw (layWords g).length cw, .slice ar2 (layRoots g).length cr2] 24)) (ho.below hbw3) (hr.below hbw3) (by simp; omega))
    rw [hE] at Hc2
    have HW3 := hide (hWF.1.below hb3)
    have HR3 := hide (hRF.1.below hb3)
    have HLW := hide (layHW_plain g)
    have Hpl := hide (plainH_len g.objs)
    clear hWF hRF hcap hE
    generalize hLW : layWords g = LW at *
    generalize hLR : layRoots g = LR at *
    have HLR : Hid (g.roots.map (packV (stF 0 g.objs)) = LR) := hLR
    clear hLW hLR
    go_wp2_with fail
    refine (unhide Hc2).mono ?_
    rintro e w4 ⟨he, hb4⟩
    subst he
    clear Hc2
    simp only [World.size_alloc] at hb4
    have hs4 := hb4.size
    simp only [World.size_alloc] at hs4
    have hbw4 : Below w.heap.size w w4 := hbw3.trans (hb4.mono (by omega))
    have hb24 : Below w2.heap.size w2 w4 := hb3.trans (hb4.mono (by omega))
    replace g0 := (hb24.cell (p := ⟨w.heap.size, 0, none⟩) hlt2).trans g0
    replace g1 := (hb24.cell (p := ⟨w.heap.size, 1, none⟩) hlt2).trans g1
    have bx0 : w4.cell? ⟨w2.heap.size, 0, none⟩ = some (.slice aw LW.length cw) := by rw [hb4.cell (p := ⟨w2.heap.size, 0, none⟩) (by simp)]; simp [go_sem]
    have bx1 : w4.cell? ⟨w2.heap.size, 1, none⟩ = some (.slice ar2 LR.length cr2) := by rw [hb4.cell (p := ⟨w2.heap.size, 1, none⟩) (by simp)]; simp [go_sem]
    have hlt4 : w.heap.size < w4.heap.size := by omega
    have hlt5 : w2.heap.size < w4.heap.size := by omega
    have HW4 := hide ((unhide HW3).below (hb4.mono (by omega)))
    have HR4 := hide ((unhide HR3).below (hb4.mono (by omega)))
    have HcP : Hid (∀ W, Below w4.heap.size w4 W → Calls Try.prog 20 #[.agg #[.slice ao g.objs.length co, .slice ar g.roots.length cr]] W fun e w' => ∃ a' cap', e = .returned (.slice a' (plainH g.objs).length cap') ∧ Hdrs w'.heap.size w' a' (plainH g.objs) ∧ Below W.heap.size W w') := fun W hb =>
      rplain_c ao ar co g.roots.length cr g.objs w.heap.size W ((ho.below hbw4).below (hb.mono (by omega))) (by have := hb.size; omega) (by have := hG.n24; omega)
    have HcL : Hid (∀ W ah ch, Below w4.heap.size w4 W → Hdrs W.heap.size W ah (plainH g.objs) → Calls Try.prog 19 #[.agg #[.slice ao g.objs.length co, .slice ar g.roots.length cr], .slice ah (plainH g.objs).length ch] W fun e w' => RLayRes (stF 0 g.objs) (plainH g.objs) g e w' ∧ Below W.heap.size W w') := fun W ah ch hb hH =>
      rlay_c ao ar ah co cr ch g (plainH g.objs) W.heap.size W (((ho.below hbw4).below (hb.mono (by omega))).mono (by have := hb.size; omega)) (((hr.below hbw4).below (hb.mono (by omega))).mono (by have := hb.size; omega)) hH (unhide Hpl) (Nat.le_refl _) (by have := hG.n24; omega) hG.n4 hG.n8 hG.rr hG.ro hnr hno
    have HcA : Hid (∀ W bw dw br dr, Below w4.heap.size w4 W → Wds W.heap.size W bw LW → Wds W.heap.size W br LR → Calls Try.prog 18 #[.agg #[.slice aw LW.length cw, .slice ar2 LR.length cr2], .agg #[.slice bw LW.length dw, .slice br LR.length dr]] W fun e w' => e = .returned (.bool true) ∧ Below W.heap.size W w') := fun W bw dw br dr hb h1 h2 => by
      refine (arenas_eq_c aw ar2 bw br cw cr2 dw dr LW LR LW LR W.heap.size W (((unhide HW4).below (hb.mono (by omega))).mono (by have := hb.size; omega)) (((unhide HR4).below (hb.mono (by omega))).mono (by have := hb.size; omega)) h1 h2 (Nat.le_refl _)).mono ?_
      rintro e w' ⟨h1, h2⟩
      exact ⟨by rw [h1]; simp, h2⟩
    clear HW3 HR3 HW4 HR4 hb3 hb4 hb24 hnr hno Hpl
    generalize hPH : plainH g.objs = PH at *
    have HPH := hide hPH
    clear hPH
    go_wp2
    go_region_with (first
      | (go_at_call 20; go_must (refine (unhide HcP _ (Below.refl _ _).drew).mono ?_); go_must (rintro e w5 ⟨ah, ch, he, hH5, hb5⟩; subst he; have hb5' := (Below.refl w4.heap.size w4).drew.trans hb5; have hs5 := hb5'.size; have g0' := (hb5'.cell (p := ⟨w.heap.size, 0, none⟩) hlt4).trans g0; have g1' := (hb5'.cell (p := ⟨w.heap.size, 1, none⟩) hlt4).trans g1; have bx0' := (hb5'.cell (p := ⟨w2.heap.size, 0, none⟩) hlt5).trans bx0; have bx1' := (hb5'.cell (p := ⟨w2.heap.size, 1, none⟩) hlt5).trans bx1))
      | (go_at_call 19; go_must (refine (unhide HcL _ ah ch hb5' hH5).mono ?_); go_must (rintro e w6 ⟨⟨bw, dw, br, dr, he, hW6, hR6⟩, hb6⟩; rw [unhide HLW, unhide HLR] at he; rw [unhide HLW] at hW6; rw [unhide HLR] at hR6; subst he; have hb6' := hb5'.trans (hb6.mono hs5); have bx0'' := (hb6'.cell (p := ⟨w2.heap.size, 0, none⟩) hlt5).trans bx0; have bx1'' := (hb6'.cell (p := ⟨w2.heap.size, 1, none⟩) hlt5).trans bx1))
      | (go_at_call 18; go_must (refine (unhide HcA _ bw dw br dr hb6' hW6 hR6).mono ?_); go_must (rintro e w7 ⟨he, hb7⟩; subst he)))
    all_goals
      go_wp2
      go_ret
      exact ⟨rfl, hbw4.trans ((hb6'.trans (hb7.mono hb6'.size)).mono (by omega))⟩
  · obtain ⟨_, he⟩ := hres.resolve_right (fun h => hE h.1)
    clear hres
    subst he
    have hb3 := (Below.refl w2.heap.size w2).alloc (Nat.le_refl _) (.cells #[.slice none 0 0, .slice none 0 0] 24)
    have hbw3 : Below w.heap.size w (w2.alloc (.cells #[.slice none 0 0, .slice none 0 0] 24)) := hbw2.trans (hb3.mono (by omega))
    have Hc2 := hide (graphCheck_c ao ar co cr g w.heap.size (w2.alloc (.cells #[.slice none 0 0, .slice none 0 0] 24)) (ho.below hbw3) (hr.below hbw3) (by simp; omega))
    have d1 : (checkG g != 0) = true := by simpa using hE
    have d2 : (checkG g == checkG g) = true := by simp
    clear hE
    go_wp2_with fail
    refine (unhide Hc2).mono ?_
    rintro e w4 ⟨he, hb4⟩
    subst he
    clear Hc2
    simp only [World.size_alloc] at hb4
    have hs4 := hb4.size
    simp only [World.size_alloc] at hs4
    have hbw4 : Below w.heap.size w w4 := hbw3.trans (hb4.mono (by omega))
    have bx0 : w4.cell? ⟨w2.heap.size, 0, none⟩ = some (.slice none 0 0) := by rw [hb4.cell (p := ⟨w2.heap.size, 0, none⟩) (by simp)]; simp [go_sem]
    have bx1 : w4.cell? ⟨w2.heap.size, 1, none⟩ = some (.slice none 0 0) := by rw [hb4.cell (p := ⟨w2.heap.size, 1, none⟩) (by simp)]; simp [go_sem]
    generalize checkG g = E at *
    go_wp2_with (go_at_call 18; go_must (refine (arenas_eq_c none none none none 0 0 0 0 [] [] [] [] w4.heap.size w4 (wds_none _ _) (wds_none _ _) (wds_none _ _) (wds_none _ _) (Nat.le_refl _)).mono ?_); go_must (rintro e w7 ⟨he, hb7⟩; rw [show (decide (([] : List Int) = []) && decide (([] : List Int) = [])) = true from by simp] at he; subst he))
    go_ret
    exact ⟨rfl, hbw4.trans (hb7.mono (by omega))⟩

end Go.Proofs.Ytahdalejmfbkeaa
