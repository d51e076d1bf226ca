/- Walks: ArenaTells. -/
import Derived.Test.YtahdalejmfbkeaaCb
import Derived.Test.YtahdalejmfbkeaaRe
import Derived.Test.YtahdalejmfbkeaaSb
import Derived.Deep.RegionWith
namespace Go.Proofs.Ytahdalejmfbkeaa
set_option linter.unusedSimpArgs false
set_option linter.unusedVariables false
open Go.RowKit Go.Shelf

theorem arenaE_sizes {ws rs : List Int} (hE : arenaE ws rs = 0) : ws.length ≤ 256 ∧ rs.length ≤ 8 := by
  unfold arenaE at hE
  split at hE
  · omega
  · rename_i h; omega

theorem sameG_self (g : Gr) : sameG g g = true := by simp [sameG]

theorem objs_nil (B : Nat) (w : World) : Objs B w none [] := ⟨by simp, fun h => absurd rfl h⟩
theorem vals_nil (B : Nat) (w : World) : Vals B w none [] := ⟨by simp, fun h => absurd rfl h⟩

set_option maxRecDepth 100000 in
set_option maxHeartbeats 4000000 in
theorem tells_c (aw ar : Option Addr) (cw cr : Nat) (ws rs : List Int) (w : World) (hW : Wds w.heap.size w aw ws) (hR : Wds w.heap.size w ar rs) (hUW : U64 ws) (hUR : U64 rs) (hcap : ws.length ≤ cw) :
    Calls Try.prog 3 #[.agg #[.slice aw ws.length cw, .slice ar rs.length cr]] w fun e w' => e = .returned (.bool true) ∧ Below w.heap.size w w' := by
  obtain ⟨W1, hW1⟩ : ∃ W1, w.alloc (.cells #[.slice aw ws.length cw, .slice ar rs.length cr] 24) = W1 := ⟨_, rfl⟩
  have hb1 : Below w.heap.size w W1 := by rw [← hW1]; exact (Below.refl w.heap.size w).alloc (Nat.le_refl _) _
  have hs1 : w.heap.size < W1.heap.size := by rw [← hW1]; simp
  have g0 : W1.cell? ⟨w.heap.size, 0, none⟩ = some (.slice aw ws.length cw) := by rw [← hW1]; simp [go_sem]
  have g1 : W1.cell? ⟨w.heap.size, 1, none⟩ = some (.slice ar rs.length cr) := by rw [← hW1]; simp [go_sem]
  have Hc1 := hide (acheck_c aw ar cw cr ws rs w.heap.size W1 (hW.below hb1) (hR.below hb1) hUW hUR (by omega) hcap)
  go_enter Try.func3, Try.ntmps3
  go_wp2_with fail
  refine (unhide Hc1).mono ?_
  rintro e w2 ⟨rfl, hb2⟩
  clear hW1 Hc1
  have hs2 := hb2.size
  have hbw2 : Below w.heap.size w w2 := hb1.trans (hb2.mono (by omega))
  replace g0 := (hb2.cell (p := ⟨w.heap.size, 0, none⟩) hs1).trans g0
  replace g1 := (hb2.cell (p := ⟨w.heap.size, 1, none⟩) hs1).trans g1
  have Hc2 := hide (astarts_c aw ar cw cr ws rs w.heap.size w2 (hW.below hbw2) (hR.below hbw2) hUW hUR (by omega) hcap)
  clear hb1 hb2
  go_wp2_with fail
  refine (unhide Hc2).mono ?_
  rintro e w3 ⟨hres3, hb3⟩
  have hs3 := hb3.size
  have hbw3 : Below w.heap.size w w3 := hbw2.trans (hb3.mono (by omega))
  replace g0 := (hb3.cell (p := ⟨w.heap.size, 0, none⟩) (by simp; omega)).trans g0
  replace g1 := (hb3.cell (p := ⟨w.heap.size, 1, none⟩) (by simp; omega)).trans g1
  have Hc3 := hide (aread_c aw ar cw cr ws rs w.heap.size w3 (hW.below hbw3) (hR.below hbw3) hUW hUR (by omega) hcap)
  clear Hc2 hb3
  by_cases hE : arenaE ws rs = 0
  · obtain ⟨_, fs, sa, sc, hs, he3, hI⟩ := hres3.resolve_left (fun h => h.1 hE)
    clear hres3
    subst he3
    have HI := hide hI
    have Hs := hide hs
    clear hI hs
    go_wp2_with fail
    refine (unhide Hc3).mono ?_
    rintro e w4 ⟨hres4, hb4⟩
    obtain ⟨_, fs', ao, co, ar', cr', hs', he4, hO, hV⟩ := hres4.resolve_left (fun h => h.1 hE)
    clear hres4 Hc3
    subst he4
    rw [unhide Hs] at hs'
    injection hs' with hs'
    subst hs'
    obtain ⟨h256, h8⟩ := arenaE_sizes hE
    have hs4 := hb4.size
    have hbw4 : Below w.heap.size w w4 := hbw3.trans (hb4.mono (by omega))
    replace g0 := (hb4.cell (p := ⟨w.heap.size, 0, none⟩) (by simp; omega)).trans g0
    replace g1 := (hb4.cell (p := ⟨w.heap.size, 1, none⟩) (by simp; omega)).trans g1
    have hlt4 : w.heap.size < w4.heap.size := by omega
    have hbA := (Below.refl w4.heap.size w4).alloc (Nat.le_refl _) (.cells #[.slice ao (readG fs rs).objs.length co, .slice ar' (readG fs rs).roots.length cr'] 33)
    have hbw5 : Below w.heap.size w (w4.alloc (.cells #[.slice ao (readG fs rs).objs.length co, .slice ar' (readG fs rs).roots.length cr'] 33)) := hbw4.trans (hbA.mono (by omega))
    have HO5 := hide (hO.objs.below hbA)
    have HV5 := hide (hV.1.below hbA)
    have HI5 := hide (((unhide HI).1.below hb4).below (hbA.mono (by omega)))
    have Hc4 := hide (rcheck_c aw ar cw cr ws rs w.heap.size (w4.alloc (.cells #[.slice ao (readG fs rs).objs.length co, .slice ar' (readG fs rs).roots.length cr'] 33)) (hW.below hbw5) (hR.below hbw5) hUW hUR (by simp; omega))
    rw [hE] at Hc4
    have HE := hide hE
    clear hE hO hV hb4 HI hbA
    generalize hL : (readG fs rs).objs = L at *
    generalize hr' : (readG fs rs).roots = R at *
    have HG : Hid (readG fs rs = ⟨L, R⟩) := by show _ = _; rw [← hL, ← hr']
    clear hL hr'
    go_wp2_with fail
    refine (unhide Hc4).mono ?_
    rintro e w6 ⟨rfl, hb6⟩
    clear Hc4
    have hs6 := hb6.size
    simp only [World.size_alloc] at hs6 hb6
    have bx0 : w6.cell? ⟨w4.heap.size, 0, none⟩ = some (.slice ao L.length co) := by rw [hb6.cell (p := ⟨w4.heap.size, 0, none⟩) (by simp)]; simp [go_sem]
    have bx1 : w6.cell? ⟨w4.heap.size, 1, none⟩ = some (.slice ar' R.length cr') := by rw [hb6.cell (p := ⟨w4.heap.size, 1, none⟩) (by simp)]; simp [go_sem]
    have hbw6 : Below w.heap.size w w6 := hbw5.trans (hb6.mono (by omega))
    have hb46 : Below w4.heap.size w4 w6 := ((Below.refl w4.heap.size w4).alloc (Nat.le_refl _) _).trans (hb6.mono (by omega))
    replace g0 := (hb46.cell (p := ⟨w.heap.size, 0, none⟩) hlt4).trans g0
    replace g1 := (hb46.cell (p := ⟨w.heap.size, 1, none⟩) hlt4).trans g1
    have Hc5 := hide (rstarts_c aw cw ws w.heap.size w6 (hW.below hbw6) hUW (by omega) h256)
    have HO6 := hide ((unhide HO5).below (hb6.mono (by omega)))
    have HV6 := hide ((unhide HV5).below (hb6.mono (by omega)))
    have HI6 := hide ((unhide HI5).below (hb6.mono (by omega)))
    clear HO5 HV5 HI5
    go_wp2_with fail
    refine (unhide Hc5).mono ?_
    rintro e w7 ⟨hres, hb7⟩
    obtain ⟨fs', sa7, sc7, he', hres⟩ := hres.resolve_left (fun h => by rw [unhide Hs] at h; cases h.1)
    rw [unhide Hs] at he'
    injection he' with he'
    subst he'
    obtain ⟨he, hI7⟩ := hres
    subst he
    clear Hc5
    have hs7 := hb7.size
    have hbw7 : Below w.heap.size w w7 := hbw6.trans (hb7.mono (by omega))
    replace bx0 := (hb7.cell (p := ⟨w4.heap.size, 0, none⟩) (by simp; omega)).trans bx0
    replace bx1 := (hb7.cell (p := ⟨w4.heap.size, 1, none⟩) (by simp; omega)).trans bx1
    replace g0 := (hb7.cell (p := ⟨w.heap.size, 0, none⟩) (by simp; omega)).trans g0
    replace g1 := (hb7.cell (p := ⟨w.heap.size, 1, none⟩) (by simp; omega)).trans g1
    have HO7 := hide ((unhide HO6).below (hb7.mono (by omega)))
    have HV7 := hide ((unhide HV6).below (hb7.mono (by omega)))
    have hI6 := (unhide HI6).below (hb7.mono (by omega))
    have HcI : Hid (∀ W, Below w7.heap.size w7 W → Calls Try.prog 14 #[.slice sa (stF 0 fs).length sc, .slice sa7 (stF 0 fs).length sc7] W fun e w' => e = .returned (.bool true) ∧ Below W.heap.size W w') := fun W hb => by
      refine (ints_eq_c sa sa7 sc sc7 (stF 0 fs) (stF 0 fs) w7.heap.size W ((hI6.below (hb.mono (by omega))).mono (by omega)) (hI7.below hb) hb.size).mono ?_
      rintro e w' ⟨h1, h2⟩
      exact ⟨by rw [h1]; simp, h2⟩
    have HcR : Hid (∀ W, Below w7.heap.size w7 W → Calls Try.prog 15 #[.agg #[.slice aw ws.length cw, .slice ar rs.length cr]] W fun e w' => RdRes fs rs e w' ∧ Below W.heap.size W w') := fun W hb =>
      rread_c aw ar cw cr ws rs fs w.heap.size W ((hW.below hbw7).below (hb.mono (by omega))) ((hR.below hbw7).below (hb.mono (by omega))) hUW hUR (by have := hb.size; omega) h256 h8 (unhide Hs)
    have HcG : Hid (∀ W ao2 co2 ar2 cr2, Below w7.heap.size w7 W → Objs W.heap.size W ao2 L → Vals W.heap.size W ar2 R → Calls Try.prog 12 #[.agg #[.slice ao L.length co, .slice ar' R.length cr'], .agg #[.slice ao2 L.length co2, .slice ar2 R.length cr2]] W fun e w' => e = .returned (.bool true) ∧ Below W.heap.size W w') := fun W ao2 co2 ar2 cr2 hb h1 h2 => by
      refine (graphs_c ao ar' ao2 ar2 co cr' co2 cr2 ⟨L, R⟩ ⟨L, R⟩ W.heap.size W (((unhide HO7).below (hb.mono (by omega))).mono (by have := hb.size; omega)) (((unhide HV7).below (hb.mono (by omega))).mono (by have := hb.size; omega)) h1 h2 (Nat.le_refl _)).mono ?_
      rintro e w' ⟨h1, h2⟩
      exact ⟨by rw [h1, sameG_self], h2⟩
    clear hI6 hI7 HO6 HV6 HI6 HO7 HV7 hb6 hb7 hb46
    have hlt7 : w4.heap.size < w7.heap.size := by omega
    have hlt8 : w.heap.size < w7.heap.size := by omega
    go_wp2
    go_region_with (first
      | (go_at_call 14; go_must (refine (unhide HcI _ (Below.refl _ _).drew).mono ?_); go_must (rintro e w8 ⟨he, hb8⟩; subst he; have hb8' := (Below.refl w7.heap.size w7).drew.trans hb8; have hs8 := hb8'.size; have g0' := (hb8'.cell (p := ⟨w.heap.size, 0, none⟩) hlt8).trans g0; have g1' := (hb8'.cell (p := ⟨w.heap.size, 1, none⟩) hlt8).trans g1; have bx0' := (hb8'.cell (p := ⟨w4.heap.size, 0, none⟩) hlt7).trans bx0; have bx1' := (hb8'.cell (p := ⟨w4.heap.size, 1, none⟩) hlt7).trans bx1))
      | (go_at_call 15; go_must (refine (unhide HcR _ hb8').mono ?_); go_must (rintro e w9 ⟨⟨ao2, co2, ar2, cr2, he, hO9, hV9⟩, hb9⟩; rw [unhide HG] at he hO9 hV9; subst he; have hb9' := hb8'.trans (hb9.mono hs8); have bx0'' := (hb9'.cell (p := ⟨w4.heap.size, 0, none⟩) hlt7).trans bx0; have bx1'' := (hb9'.cell (p := ⟨w4.heap.size, 1, none⟩) hlt7).trans bx1))
      | (go_at_call 12; go_must (refine (unhide HcG _ ao2 co2 ar2 cr2 hb9' hO9 hV9).mono ?_); go_must (rintro e w10 ⟨he, hb10⟩; subst he)))
    all_goals
      go_wp2
      go_ret
      exact ⟨rfl, hbw7.trans ((hb9'.trans (hb10.mono hb9'.size)).mono (by omega))⟩
  · have HE := hide hE
    obtain ⟨_, he3⟩ := hres3.resolve_right (fun h => hE h.1)
    clear hres3
    subst he3
    go_wp2_with fail
    refine (unhide Hc3).mono ?_
    rintro e w4 ⟨hres4, hb4⟩
    obtain ⟨_, he4⟩ := hres4.resolve_right (fun h => unhide HE h.1)
    clear hres4 Hc3
    subst he4
    have hs4 := hb4.size
    have hbw4 : Below w.heap.size w w4 := hbw3.trans (hb4.mono (by omega))
    replace g0 := (hb4.cell (p := ⟨w.heap.size, 0, none⟩) (by simp; omega)).trans g0
    replace g1 := (hb4.cell (p := ⟨w.heap.size, 1, none⟩) (by simp; omega)).trans g1
    have hlt4 : w.heap.size < w4.heap.size := by omega
    have hbA := (Below.refl w4.heap.size w4).alloc (Nat.le_refl _) (.cells #[.slice none 0 0, .slice none 0 0] 33)
    have hbw5 : Below w.heap.size w (w4.alloc (.cells #[.slice none 0 0, .slice none 0 0] 33)) := hbw4.trans (hbA.mono (by omega))
    have Hc4 := hide (rcheck_c aw ar cw cr ws rs w.heap.size (w4.alloc (.cells #[.slice none 0 0, .slice none 0 0] 33)) (hW.below hbw5) (hR.below hbw5) hUW hUR (by simp; omega))
    have d1 : (arenaE ws rs != arenaE ws rs) = false := by simp
    have d2 : (arenaE ws rs != 0) = true := by simpa using hE
    clear hE hb4 hbA
    generalize arenaE ws rs = E at *
    go_wp2_with fail
    refine (unhide Hc4).mono ?_
    rintro e w6 ⟨rfl, hb6⟩
    clear Hc4
    have hs6 := hb6.size
    simp only [World.size_alloc] at hs6 hb6
    have bx0 : w6.cell? ⟨w4.heap.size, 0, none⟩ = some (.slice none 0 0) := by rw [hb6.cell (p := ⟨w4.heap.size, 0, none⟩) (by simp)]; simp [go_sem]
    have bx1 : w6.cell? ⟨w4.heap.size, 1, none⟩ = some (.slice none 0 0) := by rw [hb6.cell (p := ⟨w4.heap.size, 1, none⟩) (by simp)]; simp [go_sem]
    have hbw6 : Below w.heap.size w w6 := hbw5.trans (hb6.mono (by omega))
    go_wp2_with (go_at_call 12; go_must (refine (graphs_c none none none none 0 0 0 0 ⟨[], []⟩ ⟨[], []⟩ w6.heap.size w6 (objs_nil _ _) (vals_nil _ _) (objs_nil _ _) (vals_nil _ _) (Nat.le_refl _)).mono ?_); go_must (rintro e w7 ⟨he, hb7⟩; rw [sameG_self] at he; subst he))
    go_ret
    exact ⟨rfl, hbw6.trans (hb7.mono (by omega))⟩

end Go.Proofs.Ytahdalejmfbkeaa
