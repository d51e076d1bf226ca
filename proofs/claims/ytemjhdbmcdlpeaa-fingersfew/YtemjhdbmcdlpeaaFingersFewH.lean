/- Merged texts: Lm Kl Kn Lo Lp. -/
import Derived.Test.YtemjhdbmcdlpeaaProg
import Derived.Test.YtemjhdbmcdlpeaaFingersFewG
import Derived.Deep.RegionWith
import Derived.BigQuiet

/- Walks: FingersTells. -/
namespace Go.Proofs.Ytemjhdbmcdlpeaa
set_option linter.unusedSimpArgs false
set_option linter.unusedVariables false
open Go.RowKit Go.Shelf

theorem SqRes.use {base : Nat} {ws rs : List Int} {F : Int} {e : Ending} {W : World} (h : SqRes base ws rs F e W) : (∃ E, E ≠ 0 ∧ e = .returned (.tuple #[.agg #[.slice none 0 0, .slice none 0 0], .int .i64 0, .int .i64 E]) ∧ ((arenaE ws rs = E) ∨ (arenaE ws rs = 0 ∧ (F < 0 ∨ 4 < F) ∧ E = 3) ∨ (arenaE ws rs = 0 ∧ 0 ≤ F ∧ F ≤ 4 ∧ E = 4 ∧ ∃ hs fs, Arn hs fs rs ∧ ws = joinW hs fs ∧ ¬ Unif (F.toNat + 1) fs))) ∨
    (arenaE ws rs = 0 ∧ 0 ≤ F ∧ F ≤ 4 ∧ ∃ hs fs a c a' c', Arn hs fs rs ∧ ws = joinW hs fs ∧ Unif (F.toNat + 1) fs ∧ e = .returned (.tuple #[.agg #[.slice a (fuL hs fs rs).length c, .slice a' (fuR fs rs).length c'], .int .i64 (fgT (rL fs rs) : Nat), .int .i64 0]) ∧ Wds W.heap.size W a (fuL hs fs rs) ∧ Wds W.heap.size W a' (fuR fs rs) ∧ (fuL hs fs rs).length ≤ c) := by
  rcases h with ⟨h1, h2⟩ | ⟨h1, h2, h3⟩ | ⟨h1, h2, h3, hs, fs, hA, hws, ⟨h4, h5⟩ | ⟨h4, a, c, a', c', h5, h6, h7, h8⟩⟩
  · exact .inl ⟨_, h1, h2, .inl rfl⟩
  · exact .inl ⟨3, by simp, h3, .inr (.inl ⟨h1, h2, rfl⟩)⟩
  · exact .inl ⟨4, by simp, h5, .inr (.inr ⟨h1, h2, h3, rfl, hs, fs, hA, hws, h4⟩)⟩
  · exact .inr ⟨h1, h2, h3, hs, fs, a, c, a', c', hA, hws, h4, by rw [h5]; simp [fuR, sR], h6.1, h8.1, h7⟩

set_option maxRecDepth 100000 in
set_option maxHeartbeats 8000000 in
theorem ftells_c (aw ar : Option Addr) (cw cr : Nat) (ws rs : List Int) (F : Int) (w : World) (hW : Wds w.heap.size w aw ws) (hR : Wds w.heap.size w ar rs) (hUW : U64 ws) (hUR : U64 rs) (hcap : ws.length ≤ cw) :
    Calls Try.prog 3 #[.agg #[.slice aw ws.length cw, .slice ar rs.length cr], .int .i64 F] w fun e w' => e = .returned (.bool true) ∧ Below w.heap.size w w' := by
  obtain ⟨W1, hW1⟩ : ∃ W1, w.alloc (.cells #[.slice aw ws.length cw, .slice ar rs.length cr] 24) = W1 := ⟨_, rfl⟩
  have hb1 : Below w.heap.size w W1 := by rw [← hW1]; exact (Below.refl w.heap.size w).alloc (Nat.le_refl _) _
  have hs1 : w.heap.size < W1.heap.size := by rw [← hW1]; simp
  have g0 : W1.cell? ⟨w.heap.size, 0, none⟩ = some (.slice aw ws.length cw) := by rw [← hW1]; simp [go_sem]
  have g1 : W1.cell? ⟨w.heap.size, 1, none⟩ = some (.slice ar rs.length cr) := by rw [← hW1]; simp [go_sem]
  have Hc1 := hide (squeeze_c aw ar cw cr ws rs F w.heap.size W1 (hW.below hb1) (hR.below hb1) hUW hUR (by omega) hcap)
  go_enter Try.func3, Try.ntmps3
  go_wp2_with fail
  refine (unhide Hc1).mono ?_
  rintro e w2 ⟨hres, hb2⟩
  have hs2 := hb2.size
  have hbw2 : Below w.heap.size w w2 := hb1.trans (hb2.mono (by omega))
  replace g0 := (hb2.cell (p := ⟨w.heap.size, 0, none⟩) hs1).trans g0
  replace g1 := (hb2.cell (p := ⟨w.heap.size, 1, none⟩) hs1).trans g1
  have hl2 : w.heap.size < w2.heap.size := by omega
  clear hb1 hb2 Hc1 hW1
  rcases hres.use with ⟨E, hE0, he, hcase⟩ | ⟨hE, hF0, hF4, hs, fs, ba, bc, ba', bc', hA, hws, hU, he, hBL, hBR, _⟩
  · subst he
    clear hres
    obtain ⟨W2, hW2⟩ : ∃ W2, w2.alloc (.cells #[.slice none 0 0, .slice none 0 0] 24) = W2 := ⟨_, rfl⟩
    have hb2' : Below w2.heap.size w2 W2 := by rw [← hW2]; exact (Below.refl _ w2).alloc (Nat.le_refl _) _
    have hs2' : w2.heap.size < W2.heap.size := by rw [← hW2]; simp
    have k0 : W2.cell? ⟨w2.heap.size, 0, none⟩ = some (.slice none 0 0) := by rw [← hW2]; simp [go_sem]
    have k1 : W2.cell? ⟨w2.heap.size, 1, none⟩ = some (.slice none 0 0) := by rw [← hW2]; simp [go_sem]
    have hbW2 : Below w.heap.size w W2 := hbw2.trans (hb2'.mono (by omega))
    have hwW2 : w.heap.size < W2.heap.size := by omega
    have Hc3 := hide (rcheck_c aw ar cw cr ws rs w.heap.size W2 (hW.below hbW2) (hR.below hbW2) hUW hUR (by omega))
    have Hc7 : Hid (∀ W : World, Calls Try.prog 9 #[.agg #[.slice none 0 0, .slice none 0 0], .agg #[.slice none 0 0, .slice none 0 0]] W fun e w' => e = .returned (.bool true) ∧ Below W.heap.size W w') := fun W => by
      have := arenas_eq_c none none none none 0 0 0 0 [] [] [] [] W.heap.size W (wds_nil rfl) (wds_nil rfl) (wds_nil rfl) (wds_nil rfl) (Nat.le_refl _)
      simp only [decide_true, Bool.and_self] at this
      exact this
    have HW2 := hide hW2
    clear hW2
    have dE : (E != 0) = true := by simpa using hE0
    have dE' : (E == 0) = false := by simpa using hE0
    have dEE : (E == E) = true := by simp
    have d00 : ((0 : Int) == 0) = true := by simp
    clear hbw2
    rcases hcase with hEq | ⟨hEq, hF, rfl⟩ | ⟨hEq, hF0, hF4, rfl, hs, fs, hA, hws, hU⟩
    · rw [hEq] at Hc3
      clear hEq
      go_wp2_with fail
      rw [unhide HW2]
      refine (unhide Hc3).mono ?_
      rintro e w4 ⟨he, hb4⟩
      subst he
      have hs4 := hb4.size
      have hbw4 : Below w.heap.size w w4 := hbW2.trans (hb4.mono (by omega))
      replace g0 := (hb4.cell (p := ⟨w.heap.size, 0, none⟩) hwW2).trans ((hb2'.cell (p := ⟨w.heap.size, 0, none⟩) hl2).trans g0)
      replace g1 := (hb4.cell (p := ⟨w.heap.size, 1, none⟩) hwW2).trans ((hb2'.cell (p := ⟨w.heap.size, 1, none⟩) hl2).trans g1)
      replace k0 := (hb4.cell (p := ⟨w2.heap.size, 0, none⟩) hs2').trans k0
      replace k1 := (hb4.cell (p := ⟨w2.heap.size, 1, none⟩) hs2').trans k1
      have hw4 : w.heap.size < w4.heap.size := by omega
      have hw4' : w2.heap.size < w4.heap.size := by omega
      clear Hc3 hb4 hb2'
      go_wp2_with fail
      refine (unhide Hc7 _).mono ?_
      rintro e w7 ⟨he, hb7⟩
      subst he
      clear Hc7
      go_wp2
      go_ret
      exact ⟨rfl, hbw4.trans (hb7.mono (by have := hbw4.size; omega))⟩
    · rw [hEq] at Hc3
      clear hEq
      go_wp2_with fail
      rw [unhide HW2]
      refine (unhide Hc3).mono ?_
      rintro e w4 ⟨he, hb4⟩
      subst he
      have hs4 := hb4.size
      have hbw4 : Below w.heap.size w w4 := hbW2.trans (hb4.mono (by omega))
      replace g0 := (hb4.cell (p := ⟨w.heap.size, 0, none⟩) hwW2).trans ((hb2'.cell (p := ⟨w.heap.size, 0, none⟩) hl2).trans g0)
      replace g1 := (hb4.cell (p := ⟨w.heap.size, 1, none⟩) hwW2).trans ((hb2'.cell (p := ⟨w.heap.size, 1, none⟩) hl2).trans g1)
      replace k0 := (hb4.cell (p := ⟨w2.heap.size, 0, none⟩) hs2').trans k0
      replace k1 := (hb4.cell (p := ⟨w2.heap.size, 1, none⟩) hs2').trans k1
      have hw4 : w.heap.size < w4.heap.size := by omega
      have hw4' : w2.heap.size < w4.heap.size := by omega
      clear Hc3 hb4 hb2'
      have d33 : ((3 : Int) == 3) = true := by simp
      rcases hF with hF | hF
      · have d1 : decide (F < 0) = true := by simpa using hF
        go_wp2_with fail
        refine (unhide Hc7 _).mono ?_
        rintro e w7 ⟨he, hb7⟩
        subst he
        clear Hc7
        go_wp2
        go_ret
        exact ⟨rfl, hbw4.trans (hb7.mono (by have := hbw4.size; omega))⟩
      · have d1 : decide (F < 0) = false := by simp; omega
        have d2 : decide (F > 4) = true := by simp; omega
        have d3 : decide (4 < F) = true := by simp; omega
        go_wp2_with fail
        refine (unhide Hc7 _).mono ?_
        rintro e w7 ⟨he, hb7⟩
        subst he
        clear Hc7
        go_wp2
        go_ret
        exact ⟨rfl, hbw4.trans (hb7.mono (by have := hbw4.size; omega))⟩
    · rw [hEq] at Hc3
      have d1 : decide (F < 0) = false := by simp; omega
      have d2 : decide (F > 4) = false := by simp; omega
      have d3 : decide (4 < F) = false := by simp; omega
      have hjl : tot fs = ws.length := by rw [hws, joinW_len _ _ hA.fit.len]
      have h256 : ws.length ≤ 256 := by have := hA.n256; omega
      have hfl := hA.fit.len
      have Hhd : Hid (∀ X, Below w.heap.size w X → Calls Try.prog 8 #[.agg #[.slice aw ws.length cw, .slice ar rs.length cr]] X fun e w' => (∃ a c, e = .returned (.slice a hs.length c) ∧ Hdrs w'.heap.size w' a (headsH hs)) ∧ Below X.heap.size X w') := fun X hb => by
        refine (heads_c aw ar cw rs.length cr ws hs fs w.heap.size X (hW.below hb) hUW hb.size hA.fit hws h256).mono ?_
        rintro e w' ⟨⟨v, rfl, hr⟩, hb'⟩
        obtain ⟨a, c, hv, hH⟩ := hdrs_of_owns hr (by rw [headsH_len]) (by have := tot_len fs; omega)
        rw [headsH_len] at hv
        subst hv
        exact ⟨⟨a, c, rfl, hH⟩, hb'⟩
      have Hun : Hid (∀ k, k < hs.length → (headsH hs)[k]? = some ((((fs.getD k []).length : Nat) : Int), uhM (hs.getD k 0), uhA (hs.getD k 0))) := fun k hk => by
        have hkf : k < fs.length := by omega
        obtain ⟨y, hy, h1, h2, _⟩ := fit_at hA.fit hkf
        have e1 : fs.getD k [] = fs[k] := by rw [List.getD_eq_getElem?_getD, List.getElem?_eq_getElem hkf]; rfl
        have e2 : hs.getD k 0 = y := by rw [List.getD_eq_getElem?_getD, hy]; rfl
        rw [e1, e2]
        unfold headsH
        rw [List.getElem?_map, hy]
        simp only [Option.map_some]
        rw [uhL_wlen h1, h2]
      have Hfs : Hid (hs.length = fs.length) := hfl
      have Hwsx := hide hws
      have hn256 : hs.length ≤ 256 := by have := tot_len fs; omega
      clear hEq
      have hU0 := hide hU
      clear hws hjl hfl
      go_wp2_with fail
      rw [unhide HW2]
      refine (unhide Hc3).mono ?_
      rintro e w4 ⟨he, hb4⟩
      subst he
      have hs4 := hb4.size
      have hbw4 : Below w.heap.size w w4 := hbW2.trans (hb4.mono (by omega))
      replace g0 := (hb4.cell (p := ⟨w.heap.size, 0, none⟩) hwW2).trans ((hb2'.cell (p := ⟨w.heap.size, 0, none⟩) hl2).trans g0)
      replace g1 := (hb4.cell (p := ⟨w.heap.size, 1, none⟩) hwW2).trans ((hb2'.cell (p := ⟨w.heap.size, 1, none⟩) hl2).trans g1)
      replace k0 := (hb4.cell (p := ⟨w2.heap.size, 0, none⟩) hs2').trans k0
      replace k1 := (hb4.cell (p := ⟨w2.heap.size, 1, none⟩) hs2').trans k1
      have hw4 : w.heap.size < w4.heap.size := by omega
      have hw4' : w2.heap.size < w4.heap.size := by omega
      clear Hc3 hb4
      go_wp2_with fail
      refine (unhide Hhd w4 hbw4).mono ?_
      rintro e w5 ⟨⟨ha, hc, rfl, hH⟩, hb5⟩
      have hs5 := hb5.size
      have hbw5 : Below w.heap.size w w5 := hbw4.trans (hb5.mono (by omega))
      replace g0 := (hb5.cell (p := ⟨w.heap.size, 0, none⟩) hw4).trans g0
      replace g1 := (hb5.cell (p := ⟨w.heap.size, 1, none⟩) hw4).trans g1
      replace k0 := (hb5.cell (p := ⟨w2.heap.size, 0, none⟩) hw4').trans k0
      replace k1 := (hb5.cell (p := ⟨w2.heap.size, 1, none⟩) hw4').trans k1
      have hw5 : w.heap.size < w5.heap.size := by omega
      have hw5' : w2.heap.size < w5.heap.size := by omega
      have HH := hide hH
      have hb54 := hb5
      clear hH hb5 Hhd
      go_wp2
      go_loopw [8, 37] (fun x i wr => ∃ k : Nat, k ≤ hs.length ∧ i = .int .i64 k ∧ (∃ e : Int, x = .int .i64 e ∧ Hid ((e = 0 ∧ ∀ j, j < k → (((fs.getD j []).length : Nat) : Int) = F) ∨ (e = 4 ∧ ∃ j, j < hs.length ∧ (((fs.getD j []).length : Nat) : Int) ≠ F))) ∧ Below w5.heap.size w5 wr) (fun _ i _ => hs.length - (intOf i).toNat)
      case atStart => exact ⟨0, Nat.zero_le _, rfl, ⟨0, rfl, .inl ⟨rfl, fun j h => by omega⟩⟩, Below.refl _ _⟩
      case round =>
      obtain ⟨k, hk, rfl, ⟨x, rfl, Hx⟩, hb⟩ := hrel
      have hsz := hb.size
      by_cases hlt : k < hs.length
      · have hat := ((unhide HH).below hb).at (k := k) (by rw [headsH_len]; exact hlt)
        obtain ⟨b2, o2, n, m, a, rfl, hB2, hd1, hd2, hd3, He⟩ := hat
        have Hn : Hid (n = (((fs.getD k []).length : Nat) : Int)) := by
          have h1 := unhide Hun k hlt
          rw [List.getElem?_eq_getElem (by rw [headsH_len]; exact hlt), He.out] at h1
          injection h1 with h1
          injection h1 with h1 _
        have hkI : (k : Int) < (hs.length : Int) := by omega
        have hq2 : b2 < wr.heap.size := by omega
        clear He
        by_cases hnF : n = F
        · have d7 : (n != F) = false := by simpa using hnF
          have Hx2 : Hid ((x = 0 ∧ ∀ j, j < k + 1 → (((fs.getD j []).length : Nat) : Int) = F) ∨ (x = 4 ∧ ∃ j, j < hs.length ∧ (((fs.getD j []).length : Nat) : Int) ≠ F)) := by
            rcases unhide Hx with ⟨h1, h2⟩ | h1
            · refine .inl ⟨h1, fun j hj => ?_⟩
              by_cases e : j = k
              · subst e; rw [← unhide Hn]; exact hnF
              · exact h2 j (by omega)
            · exact .inr h1
          clear Hn hnF
          go_wp2
          go_roundw
          case rel => exact ⟨k + 1, by omega, by go_num, ⟨x, rfl, Hx2⟩, hb.alloc hsz _⟩
          case measure => simp [intOf]; omega
        · have d7 : (n != F) = true := by simpa using hnF
          have Hx2 : Hid (((4 : Int) = 0 ∧ ∀ j, j < k + 1 → (((fs.getD j []).length : Nat) : Int) = F) ∨ ((4 : Int) = 4 ∧ ∃ j, j < hs.length ∧ (((fs.getD j []).length : Nat) : Int) ≠ F)) := .inr ⟨rfl, k, hlt, by rw [← unhide Hn]; exact hnF⟩
          clear Hn hnF
          go_wp2
          go_roundw
          case rel => exact ⟨k + 1, by omega, by go_num, ⟨4, rfl, Hx2⟩, hb.alloc hsz _⟩
          case measure => simp [intOf]; omega
      · obtain rfl : k = hs.length := by omega
        have hbwr : Below w.heap.size w wr := hbw5.trans (hb.mono (by omega))
        replace g0 := (hb.cell (p := ⟨w.heap.size, 0, none⟩) hw5).trans g0
        replace g1 := (hb.cell (p := ⟨w.heap.size, 1, none⟩) hw5).trans g1
        replace k0 := (hb.cell (p := ⟨w2.heap.size, 0, none⟩) hw5').trans k0
        replace k1 := (hb.cell (p := ⟨w2.heap.size, 1, none⟩) hw5').trans k1
        have hwr : w.heap.size < wr.heap.size := by omega
        have hwr' : w2.heap.size < wr.heap.size := by omega
        have d44 : ((4 : Int) == 4) = true := by simp
        have hx4 : x = 4 := by
          rcases unhide Hx with ⟨_, h2⟩ | ⟨h1, _⟩
          · exfalso
            apply hU
            intro f hf
            obtain ⟨j, hj, rfl⟩ := List.getElem_of_mem hf
            have h3 := h2 j (by rw [unhide Hfs]; exact hj)
            rw [List.getD_eq_getElem?_getD, List.getElem?_eq_getElem hj, Option.getD_some] at h3
            omega
          · exact h1
        subst hx4
        clear Hx
        go_wp2_with fail
        refine (unhide Hc7 _).mono ?_
        rintro e w7 ⟨he, hb7⟩
        subst he
        clear Hc7
        go_wp2
        go_ret
        exact ⟨rfl, hbwr.trans (hb7.mono (by have := hbwr.size; omega))⟩
  · subst he
    clear hres
    have hEq := hE
    obtain ⟨W2, hW2⟩ : ∃ W2, w2.alloc (.cells #[.slice ba (fuL hs fs rs).length bc, .slice ba' (fuR fs rs).length bc'] 24) = W2 := ⟨_, rfl⟩
    have hb2' : Below w2.heap.size w2 W2 := by rw [← hW2]; exact (Below.refl _ w2).alloc (Nat.le_refl _) _
    have hs2' : w2.heap.size < W2.heap.size := by rw [← hW2]; simp
    have k0 : W2.cell? ⟨w2.heap.size, 0, none⟩ = some (.slice ba (fuL hs fs rs).length bc) := by rw [← hW2]; simp [go_sem]
    have k1 : W2.cell? ⟨w2.heap.size, 1, none⟩ = some (.slice ba' (fuR fs rs).length bc') := by rw [← hW2]; simp [go_sem]
    replace g0 := (hb2'.cell (p := ⟨w.heap.size, 0, none⟩) hl2).trans g0
    replace g1 := (hb2'.cell (p := ⟨w.heap.size, 1, none⟩) hl2).trans g1
    have hbW2 : Below w.heap.size w W2 := hbw2.trans (hb2'.mono (by omega))
    have hwW2 : w.heap.size < W2.heap.size := by omega
    have Hc3 := hide (rcheck_c aw ar cw cr ws rs w.heap.size W2 (hW.below hbW2) (hR.below hbW2) hUW hUR (by omega))
    have HBL := hide ((hBL.below hb2').mono (Nat.le_of_lt hs2'))
    have HBR := hide ((hBR.below hb2').mono (Nat.le_of_lt hs2'))
    clear hBL hBR
    rw [hEq] at Hc3
    have d1 : decide (F < 0) = false := by simp; omega
    have d2 : decide (F > 4) = false := by simp; omega
    have d3 : decide (4 < F) = false := by simp; omega
    have hjl : tot fs = ws.length := by rw [hws, joinW_len _ _ hA.fit.len]
    have h256 : ws.length ≤ 256 := by have := hA.n256; omega
    have hfl := hA.fit.len
    have Hhd : Hid (∀ X, Below w.heap.size w X → Calls Try.prog 8 #[.agg #[.slice aw ws.length cw, .slice ar rs.length cr]] X fun e w' => (∃ a c, e = .returned (.slice a hs.length c) ∧ Hdrs w'.heap.size w' a (headsH hs)) ∧ Below X.heap.size X w') := fun X hb => by
      refine (heads_c aw ar cw rs.length cr ws hs fs w.heap.size X (hW.below hb) hUW hb.size hA.fit hws h256).mono ?_
      rintro e w' ⟨⟨v, rfl, hr⟩, hb'⟩
      obtain ⟨a, c, hv, hH⟩ := hdrs_of_owns hr (by rw [headsH_len]) (by have := tot_len fs; omega)
      rw [headsH_len] at hv
      subst hv
      exact ⟨⟨a, c, rfl, hH⟩, hb'⟩
    have Hun : Hid (∀ k, k < hs.length → (headsH hs)[k]? = some ((((fs.getD k []).length : Nat) : Int), uhM (hs.getD k 0), uhA (hs.getD k 0))) := fun k hk => by
      have hkf : k < fs.length := by omega
      obtain ⟨y, hy, h1, h2, _⟩ := fit_at hA.fit hkf
      have e1 : fs.getD k [] = fs[k] := by rw [List.getD_eq_getElem?_getD, List.getElem?_eq_getElem hkf]; rfl
      have e2 : hs.getD k 0 = y := by rw [List.getD_eq_getElem?_getD, hy]; rfl
      rw [e1, e2]
      unfold headsH
      rw [List.getElem?_map, hy]
      simp only [Option.map_some]
      rw [uhL_wlen h1, h2]
    have Hfs : Hid (hs.length = fs.length) := hfl
    have Hwsx := hide hws
    have hn256 : hs.length ≤ 256 := by have := tot_len fs; omega
    clear hEq
    have hU0 := hide hU
    have HA := hide hA
    have Hws := hide hws
    have HU := hide hU
    have Hsq : Hid (∀ X, Below w.heap.size w X → Calls Try.prog 10 #[.agg #[.slice aw ws.length cw, .slice ar rs.length cr]] X fun e w' => RSq (fuL hs fs rs) (fuR fs rs) (fgT (rL fs rs)) e w' ∧ Below X.heap.size X w') := fun X hb =>
      rsqueeze_c aw ar cw cr ws rs hs fs w.heap.size X (hW.below hb) (hR.below hb) hUW hUR hb.size hA hws
    clear hA hws hU hjl hfl hbw2
    generalize hBLe : fuL hs fs rs = BL at *
    generalize hBRe : fuR fs rs = BR at *
    generalize fgT (rL fs rs) = tt at *
    clear hBLe hBRe
    go_wp2_with fail
    refine (unhide Hc3).mono ?_
    rintro e w4 ⟨he, hb4⟩
    subst he
    clear hW2
    have hs4 := hb4.size
    have hbw4 : Below w.heap.size w w4 := hbW2.trans (hb4.mono (by omega))
    replace g0 := (hb4.cell (p := ⟨w.heap.size, 0, none⟩) hwW2).trans g0
    replace g1 := (hb4.cell (p := ⟨w.heap.size, 1, none⟩) hwW2).trans g1
    replace k0 := (hb4.cell (p := ⟨w2.heap.size, 0, none⟩) hs2').trans k0
    replace k1 := (hb4.cell (p := ⟨w2.heap.size, 1, none⟩) hs2').trans k1
    have hw4 : w.heap.size < w4.heap.size := by omega
    have hw4' : w2.heap.size < w4.heap.size := by omega
    have HB4 := hide (((unhide HBL).below hb4).mono hs4)
    have HR4 := hide (((unhide HBR).below hb4).mono hs4)
    clear Hc3 hb4
    go_wp2_with fail
    refine (unhide Hhd w4 hbw4).mono ?_
    rintro e w5 ⟨⟨ha, hc, rfl, hH⟩, hb5⟩
    have hs5 := hb5.size
    have hbw5 : Below w.heap.size w w5 := hbw4.trans (hb5.mono (by omega))
    replace g0 := (hb5.cell (p := ⟨w.heap.size, 0, none⟩) hw4).trans g0
    replace g1 := (hb5.cell (p := ⟨w.heap.size, 1, none⟩) hw4).trans g1
    replace k0 := (hb5.cell (p := ⟨w2.heap.size, 0, none⟩) hw4').trans k0
    replace k1 := (hb5.cell (p := ⟨w2.heap.size, 1, none⟩) hw4').trans k1
    have hw5 : w.heap.size < w5.heap.size := by omega
    have hw5' : w2.heap.size < w5.heap.size := by omega
    have HH := hide hH
    have hb54 := hb5
    clear hH hb5 Hhd
    go_wp2
    go_loopw [8, 37] (fun x i wr => ∃ k : Nat, k ≤ hs.length ∧ i = .int .i64 k ∧ (∃ e : Int, x = .int .i64 e ∧ Hid ((e = 0 ∧ ∀ j, j < k → (((fs.getD j []).length : Nat) : Int) = F) ∨ (e = 4 ∧ ∃ j, j < hs.length ∧ (((fs.getD j []).length : Nat) : Int) ≠ F))) ∧ Below w5.heap.size w5 wr) (fun _ i _ => hs.length - (intOf i).toNat)
    case atStart => exact ⟨0, Nat.zero_le _, rfl, ⟨0, rfl, .inl ⟨rfl, fun j h => by omega⟩⟩, Below.refl _ _⟩
    case round =>
    obtain ⟨k, hk, rfl, ⟨x, rfl, Hx⟩, hb⟩ := hrel
    have hsz := hb.size
    by_cases hlt : k < hs.length
    · have hat := ((unhide HH).below hb).at (k := k) (by rw [headsH_len]; exact hlt)
      obtain ⟨b2, o2, n, m, a, rfl, hB2, hd1, hd2, hd3, He⟩ := hat
      have Hn : Hid (n = (((fs.getD k []).length : Nat) : Int)) := by
        have h1 := unhide Hun k hlt
        rw [List.getElem?_eq_getElem (by rw [headsH_len]; exact hlt), He.out] at h1
        injection h1 with h1
        injection h1 with h1 _
      have hkI : (k : Int) < (hs.length : Int) := by omega
      have hq2 : b2 < wr.heap.size := by omega
      clear He
      by_cases hnF : n = F
      · have d7 : (n != F) = false := by simpa using hnF
        have Hx2 : Hid ((x = 0 ∧ ∀ j, j < k + 1 → (((fs.getD j []).length : Nat) : Int) = F) ∨ (x = 4 ∧ ∃ j, j < hs.length ∧ (((fs.getD j []).length : Nat) : Int) ≠ F)) := by
          rcases unhide Hx with ⟨h1, h2⟩ | h1
          · refine .inl ⟨h1, fun j hj => ?_⟩
            by_cases e : j = k
            · subst e; rw [← unhide Hn]; exact hnF
            · exact h2 j (by omega)
          · exact .inr h1
        clear Hn hnF
        go_wp2
        go_roundw
        case rel => exact ⟨k + 1, by omega, by go_num, ⟨x, rfl, Hx2⟩, hb.alloc hsz _⟩
        case measure => simp [intOf]; omega
      · have d7 : (n != F) = true := by simpa using hnF
        have Hx2 : Hid (((4 : Int) = 0 ∧ ∀ j, j < k + 1 → (((fs.getD j []).length : Nat) : Int) = F) ∨ ((4 : Int) = 4 ∧ ∃ j, j < hs.length ∧ (((fs.getD j []).length : Nat) : Int) ≠ F)) := .inr ⟨rfl, k, hlt, by rw [← unhide Hn]; exact hnF⟩
        clear Hn hnF
        go_wp2
        go_roundw
        case rel => exact ⟨k + 1, by omega, by go_num, ⟨4, rfl, Hx2⟩, hb.alloc hsz _⟩
        case measure => simp [intOf]; omega
    · obtain rfl : k = hs.length := by omega
      have hbwr : Below w.heap.size w wr := hbw5.trans (hb.mono (by omega))
      replace g0 := (hb.cell (p := ⟨w.heap.size, 0, none⟩) hw5).trans g0
      replace g1 := (hb.cell (p := ⟨w.heap.size, 1, none⟩) hw5).trans g1
      replace k0 := (hb.cell (p := ⟨w2.heap.size, 0, none⟩) hw5').trans k0
      replace k1 := (hb.cell (p := ⟨w2.heap.size, 1, none⟩) hw5').trans k1
      have hwr : w.heap.size < wr.heap.size := by omega
      have hwr' : w2.heap.size < wr.heap.size := by omega
      have hx0 : x = 0 := by
        rcases unhide Hx with ⟨h1, _⟩ | ⟨_, j, hj, h2⟩
        · exact h1
        · exfalso
          apply h2
          have hjf : j < fs.length := by rw [← unhide Hfs]; exact hj
          have := (unhide HU).len hjf
          rw [List.getD_eq_getElem?_getD, List.getElem?_eq_getElem hjf, Option.getD_some]
          omega
      subst hx0
      clear Hx
      have d00 : ((0 : Int) == 0) = true := by simp
      have dtt : ((tt : Int) == (tt : Int)) = true := by simp
      have hb4r : Below w4.heap.size w4 wr := hb54.trans (hb.mono hs5)
      have HB5 := hide (((unhide HB4).below hb4r).mono hb4r.size)
      have HR5 := hide (((unhide HR4).below hb4r).mono hb4r.size)
      have Hs2 := hide (unhide Hsq wr hbwr)
      clear HB4 HR4 Hsq
      go_wp2_with fail
      refine (unhide Hs2).mono ?_
      rintro e w6 ⟨⟨xa, xc, ya, yc, rfl, hx, hy⟩, hb6⟩
      clear Hs2
      have hs6 := hb6.size
      replace k0 := (hb6.cell (p := ⟨w2.heap.size, 0, none⟩) hwr').trans k0
      replace k1 := (hb6.cell (p := ⟨w2.heap.size, 1, none⟩) hwr').trans k1
      have hw6' : w2.heap.size < w6.heap.size := by omega
      have hb6a : Below w6.heap.size w6 (w6.alloc (.cells #[.slice xa BL.length xc, .slice ya BR.length yc] 24)) := (Below.refl _ _).alloc (Nat.le_refl _) _
      have Hc8 : Hid (Calls Try.prog 9 #[.agg #[.slice ba BL.length bc, .slice ba' BR.length bc'], .agg #[.slice xa BL.length xc, .slice ya BR.length yc]] (w6.alloc (.cells #[.slice xa BL.length xc, .slice ya BR.length yc] 24)) fun e w' => e = .returned (.bool true) ∧ Below (w6.alloc (.cells #[.slice xa BL.length xc, .slice ya BR.length yc] 24)).heap.size (w6.alloc (.cells #[.slice xa BL.length xc, .slice ya BR.length yc] 24)) w') := by
        have hsa : w6.heap.size ≤ (w6.alloc (.cells #[.slice xa BL.length xc, .slice ya BR.length yc] 24)).heap.size := hb6a.size
        have := arenas_eq_c ba ba' xa ya bc bc' xc yc BL BR BL BR (w6.alloc (.cells #[.slice xa BL.length xc, .slice ya BR.length yc] 24)).heap.size (w6.alloc (.cells #[.slice xa BL.length xc, .slice ya BR.length yc] 24)) (((((unhide HB5).below hb6).mono hs6).below hb6a).mono hsa) (((((unhide HR5).below hb6).mono hs6).below hb6a).mono hsa) ((hx.below hb6a).mono hsa) ((hy.below hb6a).mono hsa) (Nat.le_refl _)
        simp only [decide_true, Bool.and_self] at this
        exact this
      have hbw6 : Below w.heap.size w (w6.alloc (.cells #[.slice xa BL.length xc, .slice ya BR.length yc] 24)) := hbwr.trans ((hb6.trans (hb6a.mono hs6)).mono (by omega))
      clear HB5 HR5 hx hy hb6
      go_wp2_with fail
      refine (unhide Hc8).mono ?_
      rintro e w7 ⟨he, hb7⟩
      subst he
      go_wp2
      go_ret
      exact ⟨rfl, hbw6.trans (hb7.mono (by have := hbw6.size; omega))⟩

end Go.Proofs.Ytemjhdbmcdlpeaa

/- Walks: SlideTells. -/
namespace Go.Proofs.Ytemjhdbmcdlpeaa
set_option linter.unusedSimpArgs false
set_option linter.unusedVariables false
open Go.RowKit Go.Shelf

theorem SdRes.use {base : Nat} {ws rs : List Int} {e : Ending} {W : World} (h : SdRes base ws rs e W) : (arenaE ws rs ≠ 0 ∧ e = .returned (.tuple #[.agg #[.slice none 0 0, .slice none 0 0], .int .i64 (arenaE ws rs)])) ∨
    (arenaE ws rs = 0 ∧ ∃ hs fs a c a' c', Arn hs fs rs ∧ ws = joinW hs fs ∧ e = .returned (.tuple #[.agg #[.slice a (slL hs fs rs).length c, .slice a' (slR fs rs).length c'], .int .i64 0]) ∧ Wds W.heap.size W a (slL hs fs rs) ∧ Wds W.heap.size W a' (slR fs rs) ∧ (slL hs fs rs).length ≤ c) := by
  rcases h with h | ⟨hE, hs, fs, a, c, a', c', h1, h2, h3, h4, h5, h6⟩
  · exact .inl h
  · exact .inr ⟨hE, hs, fs, a, c, a', c', h1, h2, by rw [h3]; simp [slR, sR], h4.1, h6.1, h5⟩

end Go.Proofs.Ytemjhdbmcdlpeaa

/- Walks: SlideSame. -/
namespace Go.Proofs.Ytemjhdbmcdlpeaa
set_option linter.unusedSimpArgs false
set_option linter.unusedVariables false
open Go.RowKit Go.Shelf

theorem arn_uniq {hs hs' : List Int} {fs fs' : List (List Int)} {rs rs' : List Int} (h : Arn hs fs rs) (h' : Arn hs' fs' rs') (e : joinW hs fs = joinW hs' fs') : hs = hs' ∧ fs = fs' := by
  have hf : fs = fs' := by
    have h1 := fit_split h.fit
    rw [e, fit_split h'.fit] at h1
    injection h1 with h1
    exact h1.symm
  subst hf
  refine ⟨?_, rfl⟩
  apply List.ext_getElem?
  intro k
  by_cases hk : k < fs.length
  · rw [← joinW_get hs fs k h.fit.len hk, e, joinW_get hs' fs k h'.fit.len hk]
  · rw [List.getElem?_eq_none (by have := h.fit.len; omega), List.getElem?_eq_none (by have := h'.fit.len; omega)]

end Go.Proofs.Ytemjhdbmcdlpeaa

/- Walks: FingersSame. -/
namespace Go.Proofs.Ytemjhdbmcdlpeaa
set_option linter.unusedSimpArgs false
set_option linter.unusedVariables false
open Go.RowKit Go.Shelf

set_option maxRecDepth 100000 in
set_option maxHeartbeats 8000000 in
theorem fsame_c (aw ar : Option Addr) (cw cr : Nat) (ws rs : List Int) (F : Int) (w : World) (hW : Wds w.heap.size w aw ws) (hR : Wds w.heap.size w ar rs) (hUW : U64 ws) (hUR : U64 rs) (hcap : ws.length ≤ cw) :
    Calls Try.prog 4 #[.agg #[.slice aw ws.length cw, .slice ar rs.length cr], .int .i64 F] w fun e w' => e = .returned (.bool true) ∧ Below w.heap.size w w' := by
  obtain ⟨W1, hW1⟩ : ∃ W1, w.alloc (.cells #[.slice aw ws.length cw, .slice ar rs.length cr] 24) = W1 := ⟨_, rfl⟩
  have hb1 : Below w.heap.size w W1 := by rw [← hW1]; exact (Below.refl w.heap.size w).alloc (Nat.le_refl _) _
  have hs1 : w.heap.size < W1.heap.size := by rw [← hW1]; simp
  have g0 : W1.cell? ⟨w.heap.size, 0, none⟩ = some (.slice aw ws.length cw) := by rw [← hW1]; simp [go_sem]
  have g1 : W1.cell? ⟨w.heap.size, 1, none⟩ = some (.slice ar rs.length cr) := by rw [← hW1]; simp [go_sem]
  have Hc1 := hide (sound_c aw ar cw cr ws rs w.heap.size W1 (hW.below hb1) (hR.below hb1) hUW hUR (by omega))
  go_enter Try.func4, Try.ntmps4
  go_wp2_with fail
  refine (unhide Hc1).mono ?_
  rintro e w2 ⟨rfl, hb2⟩
  have hs2 := hb2.size
  have hbw2 : Below w.heap.size w w2 := hb1.trans (hb2.mono (by omega))
  replace g0 := (hb2.cell (p := ⟨w.heap.size, 0, none⟩) hs1).trans g0
  replace g1 := (hb2.cell (p := ⟨w.heap.size, 1, none⟩) hs1).trans g1
  have hl2 : w.heap.size < w2.heap.size := by omega
  clear hb1 hb2 Hc1 hW1
  by_cases hE : arenaE ws rs = 0
  · have d0 : (arenaE ws rs == 0) = true := by simp [hE]
    rw [d0]
    have HE := hide hE
    have Hc2 := hide (squeeze_c aw ar cw cr ws rs F w.heap.size w2 (hW.below hbw2) (hR.below hbw2) hUW hUR (by omega) hcap)
    clear hE d0
    go_wp2_with fail
    refine (unhide Hc2).mono ?_
    rintro e w3 ⟨hres, hb3⟩
    rcases hres.use with ⟨E, hE0, he, _⟩ | ⟨_, hF0, hF4, hs, fs, ba, bc, ba', bc', hA, hws, hU, he, hBL, hBR, hBc⟩
    · subst he
      have dE : (E != 0) = true := by simpa using hE0
      have hbw3 : Below w.heap.size w w3 := hbw2.trans (hb3.mono (by omega))
      clear hres Hc2 hW hR hb3
      go_wp2
      go_ret
      exact ⟨rfl, hbw3.alloc (by have := hbw3.size; omega) _⟩
    subst he
    have hs3 := hb3.size
    have hbw3 : Below w.heap.size w w3 := hbw2.trans (hb3.mono (by omega))
    obtain ⟨W3, hW3⟩ : ∃ W3, w3.alloc (.cells #[.slice ba (fuL hs fs rs).length bc, .slice ba' (fuR fs rs).length bc'] 24) = W3 := ⟨_, rfl⟩
    have hb3' : Below w3.heap.size w3 W3 := by rw [← hW3]; exact (Below.refl _ w3).alloc (Nat.le_refl _) _
    have hs3' : w3.heap.size < W3.heap.size := by rw [← hW3]; simp
    have k0 : W3.cell? ⟨w3.heap.size, 0, none⟩ = some (.slice ba (fuL hs fs rs).length bc) := by rw [← hW3]; simp [go_sem]
    have k1 : W3.cell? ⟨w3.heap.size, 1, none⟩ = some (.slice ba' (fuR fs rs).length bc') := by rw [← hW3]; simp [go_sem]
    replace g0 := (hb3'.cell (p := ⟨w.heap.size, 0, none⟩) (by simp; omega)).trans ((hb3.cell (p := ⟨w.heap.size, 0, none⟩) hl2).trans g0)
    replace g1 := (hb3'.cell (p := ⟨w.heap.size, 1, none⟩) (by simp; omega)).trans ((hb3.cell (p := ⟨w.heap.size, 1, none⟩) hl2).trans g1)
    have hbW3 : Below w.heap.size w W3 := hbw3.trans (hb3'.mono (by omega))
    have hBL3 := (hBL.below hb3').mono (Nat.le_of_lt hs3')
    have hBR3 := (hBR.below hb3').mono (Nat.le_of_lt hs3')
    have hA' : Arn (sH hs (fgL (rL fs rs))) (sF fs (fgL (rL fs rs))) (fuR fs rs) := fu_arn hA
    have hU' : U64 (fuL hs fs rs) := joinW_u64 hA' hA'.fit
    have hl3 : w.heap.size < W3.heap.size := by omega
    have HA := hide hA
    have HU := hide hU
    have Hws := hide hws
    have hE2 : arenaE (fuL hs fs rs) (fuR fs rs) = 0 := hA'.check
    have HE2 := hide hE2
    have Hc3 := hide (squeeze_c ba ba' bc bc' (fuL hs fs rs) (fuR fs rs) F W3.heap.size W3 hBL3 hBR3 hU' hA'.ur (Nat.le_refl _) hBc)
    have HcL : Hid (∀ X, Below W3.heap.size W3 X → Calls Try.prog 13 #[.agg #[.slice ba (fuL hs fs rs).length bc, .slice ba' (fuR fs rs).length bc'], .agg #[.slice aw ws.length cw, .slice ar rs.length cr]] X fun e w' => e = .returned (.bool true) ∧ Below X.heap.size X w') := by
      intro X hb
      have hbX : Below w.heap.size w X := hbW3.trans (hb.mono (by omega))
      exact left_c ba ba' aw ar bc bc' cw cr (fuL hs fs rs) (fuR fs rs) ws rs (sH hs (fgL (rL fs rs))) (sF fs (fgL (rL fs rs))) hs fs X.heap.size X ((hBL3.below hb).mono hb.size) ((hBR3.below hb).mono hb.size) ((hW.below hbX).mono hbX.size) ((hR.below hbX).mono hbX.size) (Nat.le_refl _) hA' rfl hA hws (fu_size hA hU) (fu_canon hA)
    have HA' := hide hA'
    have HBL3 := hide hBL3
    have HBR3 := hide hBR3
    clear hb3 hb3' hBL hBR hBL3 hBR3 hA hws hU hA' hU' hE2 hres Hc2 hW hR hUW hUR
    go_wp2_with fail
    refine (unhide Hc3).mono ?_
    rintro e w5 ⟨hres5, hb5⟩
    clear hW3
    rcases hres5.use with ⟨E, hE0, he, hcase⟩ | ⟨_, _, _, hs2, fs2, ca, cc, ca', cc', hA2, hws2, _, he, hCL, hCR, _⟩
    · exfalso
      rcases hcase with h1 | ⟨_, h1, _⟩ | ⟨_, _, _, _, hs2, fs2, hA2, hws2, h1⟩
      · exact hE0 (h1.symm.trans (unhide HE2))
      · omega
      · obtain ⟨_, rfl⟩ := arn_uniq hA2 (unhide HA') (hws2.symm.trans rfl)
        exact h1 (sF_unif (unhide HU) (whole_fgL (unhide HA)).ok)
    subst he
    obtain ⟨rfl, rfl⟩ := arn_uniq hA2 (unhide HA') (hws2.symm.trans rfl)
    have hag := fu_again (unhide HA)
    rw [hag.1] at hCL
    rw [hag.2.1] at hCR
    rw [hag.1, hag.2.1, hag.2.2]
    have hs5 := hb5.size
    obtain ⟨W5, hW5⟩ : ∃ W5, w5.alloc (.cells #[.slice ca (fuL hs fs rs).length cc, .slice ca' (fuR fs rs).length cc'] 24) = W5 := ⟨_, rfl⟩
    have hb5' : Below w5.heap.size w5 W5 := by rw [← hW5]; exact (Below.refl _ w5).alloc (Nat.le_refl _) _
    have hs5' : w5.heap.size < W5.heap.size := by rw [← hW5]; simp
    have c0 : W5.cell? ⟨w5.heap.size, 0, none⟩ = some (.slice ca (fuL hs fs rs).length cc) := by rw [← hW5]; simp [go_sem]
    have c1 : W5.cell? ⟨w5.heap.size, 1, none⟩ = some (.slice ca' (fuR fs rs).length cc') := by rw [← hW5]; simp [go_sem]
    have hb35 : Below W3.heap.size W3 W5 := hb5.trans (hb5'.mono hs5)
    replace g0 := (hb35.cell (p := ⟨w.heap.size, 0, none⟩) hl3).trans g0
    replace g1 := (hb35.cell (p := ⟨w.heap.size, 1, none⟩) hl3).trans g1
    replace k0 := (hb35.cell (p := ⟨w3.heap.size, 0, none⟩) hs3').trans k0
    replace k1 := (hb35.cell (p := ⟨w3.heap.size, 1, none⟩) hs3').trans k1
    have hl5 : w.heap.size < W5.heap.size := by omega
    have hl5' : w3.heap.size < W5.heap.size := by omega
    have hbW5 : Below w.heap.size w W5 := hbW3.trans (hb35.mono (by omega))
    have HcL5 := hide (unhide HcL W5 hb35)
    have HCL := hide ((hCL.below hb5').mono (B' := W5.heap.size) (by omega))
    have HCR := hide ((hCR.below hb5').mono (B' := W5.heap.size) (by omega))
    have HBL5 := hide (((unhide HBL3).below hb35).mono hb35.size)
    have HBR5 := hide (((unhide HBR3).below hb35).mono hb35.size)
    clear hCL hCR hb5 hb5' hres5 Hc3 HcL hag hA2 hws2 HA' HA HU Hws HBL3 HBR3 HE2
    generalize fuL hs fs rs = BL at *
    generalize fuR fs rs = BR at *
    have d00 : ((0 : Int) == 0) = true := by simp
    go_wp2_with fail
    refine (unhide HcL5).mono ?_
    rintro e w6 ⟨he, hb6⟩
    subst he
    have hs6 := hb6.size
    clear hW5 HcL5
    replace k0 := (hb6.cell (p := ⟨w3.heap.size, 0, none⟩) hl5').trans k0
    replace k1 := (hb6.cell (p := ⟨w3.heap.size, 1, none⟩) hl5').trans k1
    replace c0 := (hb6.cell (p := ⟨w5.heap.size, 0, none⟩) hs5').trans c0
    replace c1 := (hb6.cell (p := ⟨w5.heap.size, 1, none⟩) hs5').trans c1
    have hl6 : w3.heap.size < w6.heap.size := by omega
    have hl6' : w5.heap.size < w6.heap.size := by omega
    have Hca : Hid (Calls Try.prog 9 #[.agg #[.slice ba BL.length bc, .slice ba' BR.length bc'], .agg #[.slice ca BL.length cc, .slice ca' BR.length cc']] w6 fun e w' => e = .returned (.bool true) ∧ Below w6.heap.size w6 w') := by
      have := arenas_eq_c ba ba' ca ca' bc bc' cc cc' BL BR BL BR w6.heap.size w6 (((unhide HBL5).below hb6).mono hs6) (((unhide HBR5).below hb6).mono hs6) (((unhide HCL).below hb6).mono hs6) (((unhide HCR).below hb6).mono hs6) (Nat.le_refl _)
      simp only [decide_true, Bool.and_self] at this
      exact this
    have hbw6 : Below w.heap.size w w6 := hbW5.trans (hb6.mono (by omega))
    clear hb6 HBL5 HBR5 HCL HCR
    go_wp2_with fail
    refine (unhide Hca).mono ?_
    rintro e w7 ⟨he, hb7⟩
    subst he
    clear Hca
    go_wp2
    go_ret
    exact ⟨rfl, hbw6.trans (hb7.mono (by omega))⟩
  · have d0 : (arenaE ws rs == 0) = false := by simp [hE]
    have HE := hide hE
    rw [d0]
    have Hc2 := hide (unsound_c aw ar cw cr ws rs w.heap.size w2 (hW.below hbw2) (hR.below hbw2) hUW hUR (by omega) hcap)
    clear hE
    go_wp2_with fail
    refine (unhide Hc2).mono ?_
    rintro e w3 ⟨he, hb3⟩
    have d3 : (arenaE ws rs != 0) = true := by simpa using unhide HE
    rw [d3] at he
    subst he
    go_wp2
    go_ret
    exact ⟨rfl, hbw2.trans (hb3.mono (by omega))⟩

end Go.Proofs.Ytemjhdbmcdlpeaa

/- Walks: FingersFew. -/
namespace Go.Proofs.Ytemjhdbmcdlpeaa
set_option linter.unusedSimpArgs false
set_option linter.unusedVariables false
open Go.RowKit Go.Shelf

set_option maxRecDepth 100000 in
set_option maxHeartbeats 8000000 in
theorem ffew_c (aw ar : Option Addr) (cw cr : Nat) (ws rs : List Int) (F : Int) (w : World) (hW : Wds w.heap.size w aw ws) (hR : Wds w.heap.size w ar rs) (hUW : U64 ws) (hUR : U64 rs) (hcap : ws.length ≤ cw) :
    Calls Try.prog 5 #[.agg #[.slice aw ws.length cw, .slice ar rs.length cr], .int .i64 F] w fun e w' => e = .returned (.bool true) ∧ Below w.heap.size w w' := by
  obtain ⟨W1, hW1⟩ : ∃ W1, w.alloc (.cells #[.slice aw ws.length cw, .slice ar rs.length cr] 24) = W1 := ⟨_, rfl⟩
  have hb1 : Below w.heap.size w W1 := by rw [← hW1]; exact (Below.refl w.heap.size w).alloc (Nat.le_refl _) _
  have hs1 : w.heap.size < W1.heap.size := by rw [← hW1]; simp
  have g0 : W1.cell? ⟨w.heap.size, 0, none⟩ = some (.slice aw ws.length cw) := by rw [← hW1]; simp [go_sem]
  have g1 : W1.cell? ⟨w.heap.size, 1, none⟩ = some (.slice ar rs.length cr) := by rw [← hW1]; simp [go_sem]
  have Hc1 := hide (sound_c aw ar cw cr ws rs w.heap.size W1 (hW.below hb1) (hR.below hb1) hUW hUR (by omega))
  go_enter Try.func5, Try.ntmps5
  go_wp2_with fail
  refine (unhide Hc1).mono ?_
  rintro e w2 ⟨rfl, hb2⟩
  have hs2 := hb2.size
  have hbw2 : Below w.heap.size w w2 := hb1.trans (hb2.mono (by omega))
  replace g0 := (hb2.cell (p := ⟨w.heap.size, 0, none⟩) hs1).trans g0
  replace g1 := (hb2.cell (p := ⟨w.heap.size, 1, none⟩) hs1).trans g1
  have hl2 : w.heap.size < w2.heap.size := by omega
  clear hb1 hb2 Hc1 hW1
  by_cases hE : arenaE ws rs = 0
  · have d0 : (arenaE ws rs == 0) = true := by simp [hE]
    rw [d0]
    have HE := hide hE
    have Hc2 := hide (squeeze_c aw ar cw cr ws rs F w.heap.size w2 (hW.below hbw2) (hR.below hbw2) hUW hUR (by omega) hcap)
    have Harn := hide (arn_of hUW hUR hE)
    clear hE d0
    go_wp2_with fail
    refine (unhide Hc2).mono ?_
    rintro e w3 ⟨hres, hb3⟩
    have hs3 := hb3.size
    have hbw3 : Below w.heap.size w w3 := hbw2.trans (hb3.mono (by omega))
    replace g0 := (hb3.cell (p := ⟨w.heap.size, 0, none⟩) hl2).trans g0
    replace g1 := (hb3.cell (p := ⟨w.heap.size, 1, none⟩) hl2).trans g1
    have hl3 : w.heap.size < w3.heap.size := by omega
    rcases hres.use with ⟨E, hE0, he, hcase⟩ | ⟨_, hF0, hF4, hs, fs, ba, bc, ba', bc', hA, hws, hU, he, hBL, hBR, hBc⟩
    · subst he
      obtain ⟨hs, fs, hA, hws⟩ := unhide Harn
      have dE : (E != 0) = true := by simpa using hE0
      have hjl : tot fs = ws.length := by rw [hws, joinW_len _ _ hA.fit.len]
      have h256 : ws.length ≤ 256 := by have := hA.n256; omega
      have hfl := hA.fit.len
      have hbw3a : Below w.heap.size w (w3.alloc (.cells #[.slice none 0 0, .slice none 0 0] 24)) := hbw3.alloc (by omega) _
      have Hhd : Hid (Calls Try.prog 8 #[.agg #[.slice aw ws.length cw, .slice ar rs.length cr]] (w3.alloc (.cells #[.slice none 0 0, .slice none 0 0] 24)) fun e w' => (∃ a c, e = .returned (.slice a hs.length c)) ∧ Below (w3.alloc (.cells #[.slice none 0 0, .slice none 0 0] 24)).heap.size (w3.alloc (.cells #[.slice none 0 0, .slice none 0 0] 24)) w') := by
        refine (heads_c aw ar cw rs.length cr ws hs fs w.heap.size _ (hW.below hbw3a) hUW hbw3a.size hA.fit hws h256).mono ?_
        rintro e w' ⟨⟨v, rfl, hr⟩, hb'⟩
        obtain ⟨a, c, hv, _⟩ := hdrs_of_owns hr (by rw [headsH_len]) (by have := tot_len fs; omega)
        rw [headsH_len] at hv
        subst hv
        exact ⟨⟨a, c, rfl⟩, hb'⟩
      have hout : hs.length = 0 → F < 0 ∨ 4 < F := fun h0 => by
        rcases hcase with h1 | ⟨_, h1, _⟩ | ⟨_, _, _, _, hs2, fs2, hA2, hws2, h1⟩
        · exact absurd (h1.symm.trans (unhide HE)) hE0
        · exact h1
        · exfalso
          obtain ⟨_, rfl⟩ := arn_uniq hA2 hA (hws2.symm.trans hws)
          apply h1
          have : fs2 = [] := List.eq_nil_of_length_eq_zero (by omega)
          subst this
          intro f hf
          simp at hf
      have Hfin : Hid (Below w.heap.size w (w3.alloc (.cells #[.slice none 0 0, .slice none 0 0] 24))) := hbw3a
      clear hcase hres Hc2 hA hws hjl Harn hb3 hbw3a
      go_wp2_with fail
      refine (unhide Hhd).mono ?_
      rintro e w4 ⟨⟨ha, hc, rfl⟩, hb4⟩
      have hbw4 := (unhide Hfin).trans (hb4.mono (unhide Hfin).size)
      clear Hhd hb4
      generalize hs.length = n at *
      clear hfl
      by_cases h0 : n = 0
      · have dg : decide ((n : Int) > 0) = false := by simp [h0]
        have dg' : decide (0 < n) = false := by simp [h0]
        have dg2 : ¬ 0 < n := by omega
        have ho := hout h0
        clear hout h0
        rcases ho with hF | hF
        · have d1 : decide (F < 0) = true := by simpa using hF
          go_wp2
          go_ret
          exact ⟨rfl, hbw4⟩
        · have d1 : decide (F < 0) = false := by simp; omega
          have d2 : decide (F > 4) = true := by simp; omega
          have d3 : decide (4 < F) = true := by simp; omega
          go_wp2
          go_ret
          exact ⟨rfl, hbw4⟩
      · have dg : decide ((n : Int) > 0) = true := by simp; omega
        have dg' : decide (0 < n) = true := by simp; omega
        have dg2 : 0 < n := by omega
        clear hout h0
        go_wp2
        go_ret
        exact ⟨rfl, hbw4⟩
    subst he
    obtain ⟨f, rfl⟩ := Int.eq_ofNat_of_zero_le hF0
    rw [Int.toNat_natCast] at hU
    obtain ⟨s, hsf⟩ : ∃ s, s = f + 1 := ⟨_, rfl⟩
    rw [← hsf] at hU
    have hws1 : IntKind.i64.wrap (1 + (f : Int)) = (s : Int) := by rw [IntKind.wrap_i64]; omega
    have h256 : ws.length ≤ 256 := by rw [hws, joinW_len _ _ hA.fit.len]; exact hA.n256
    have hsp : splitR ws = some fs := by rw [hws]; exact fit_split hA.fit
    have hsz := fu_size hA hU
    have hflen := fu_len hA hU
    have hA' : Arn (sH hs (fgL (rL fs rs))) (sF fs (fgL (rL fs rs))) (fuR fs rs) := fu_arn hA
    have h256' : (fuL hs fs rs).length ≤ 256 := by
      have := joinW_len (sH hs (fgL (rL fs rs))) (sF fs (fgL (rL fs rs))) hA'.fit.len
      have := hA'.n256
      unfold fuL; omega
    have hRl : (rL fs rs).length ≤ 256 := by have := (whole_rL hA).ok.len; have := tot_len fs; have := hA.n256; omega
    have Hst : Hid (∀ k, k < (rL fs rs).length → (k : Int) ∈ rL fs rs → ∃ y, ws[k * s]? = some y ∧ (fuL hs fs rs)[k * s]? = some (reh false y) ∧ 0 ≤ y ∧ y < 18446744073709551616 ∧ unheadOk y = true) := fun k h1 h2 => by
      rw [hws]; exact fu_stay hA hU h1 h2
    obtain ⟨W3, hW3⟩ : ∃ W3, w3.alloc (.cells #[.slice ba (fuL hs fs rs).length bc, .slice ba' (fuR fs rs).length bc'] 24) = W3 := ⟨_, rfl⟩
    have hb3' : Below w3.heap.size w3 W3 := by rw [← hW3]; exact (Below.refl _ w3).alloc (Nat.le_refl _) _
    have hs3' : w3.heap.size < W3.heap.size := by rw [← hW3]; simp
    have k0 : W3.cell? ⟨w3.heap.size, 0, none⟩ = some (.slice ba (fuL hs fs rs).length bc) := by rw [← hW3]; simp [go_sem]
    have k1 : W3.cell? ⟨w3.heap.size, 1, none⟩ = some (.slice ba' (fuR fs rs).length bc') := by rw [← hW3]; simp [go_sem]
    replace g0 := (hb3'.cell (p := ⟨w.heap.size, 0, none⟩) hl3).trans g0
    replace g1 := (hb3'.cell (p := ⟨w.heap.size, 1, none⟩) hl3).trans g1
    have hbW3 : Below w.heap.size w W3 := hbw3.trans (hb3'.mono (by omega))
    have hl4 : w.heap.size < W3.heap.size := by omega
    have HBL := hide ((hBL.below hb3').mono (Nat.le_of_lt hs3'))
    have HW := hide hW
    have HR := hide hR
    have HG := hide (good_read hA)
    have Hsiz : Hid (∀ X, Below w.heap.size w X → Calls Try.prog 18 #[.agg #[.slice aw ws.length cw, .slice ar rs.length cr]] X fun e w' => e = .returned (.int .i64 ((fuL hs fs rs).length : Nat)) ∧ Below X.heap.size X w') := fun X hb => by
      rw [hsz]
      exact size_c aw ar cw cr ws rs hs fs w.heap.size X (hW.below hb) (hR.below hb) hUW hUR hb.size hA hws
    have Hc7 := hide (rread_c aw ar cw cr ws rs fs w.heap.size W3 (hW.below hbW3) (hR.below hbW3) hUW hUR (by omega) h256 hA.n8 hsp)
    have HqT : Hid (∀ k, k < (rL fs rs).length → k * s < 256) := fun k hk => by
      have h1 := Nat.mul_le_mul_right s (show k + 1 ≤ (rL fs rs).length from hk)
      rw [Nat.succ_mul, ← hflen] at h1
      omega
    have Hsf := hide hsf
    clear hres Hc2 hA hws hU hA' hsz hflen hBL hBR hb3 hb3' hsp hsf Harn hW hR
    go_wp2_with fail
    refine (unhide Hc7).mono ?_
    rintro e w7 ⟨⟨ao, co, ar7, cr7, he, hO, hV⟩, hb7⟩
    subst he
    clear hW3
    have hs7 := hb7.size
    replace g0 := (hb7.cell (p := ⟨w.heap.size, 0, none⟩) hl4).trans g0
    replace g1 := (hb7.cell (p := ⟨w.heap.size, 1, none⟩) hl4).trans g1
    replace k0 := (hb7.cell (p := ⟨w3.heap.size, 0, none⟩) hs3').trans k0
    replace k1 := (hb7.cell (p := ⟨w3.heap.size, 1, none⟩) hs3').trans k1
    have hbw7 : Below w.heap.size w w7 := hbW3.trans (hb7.mono (by omega))
    have hl7 : w.heap.size < w7.heap.size := by omega
    have hl7' : w3.heap.size < w7.heap.size := by omega
    replace HBL := hide (((unhide HBL).below hb7).mono hs7)
    have Hc8 := hide (show Calls Try.prog 14 #[.agg #[.slice ao (readG fs rs).objs.length co, .slice ar7 (readG fs rs).roots.length cr7]] w7 fun e w' => ∃ a cap, e = .returned (.slice a (rL fs rs).length cap) ∧ Ints w'.heap.size w' a (rL fs rs) ∧ Below w7.heap.size w7 w' from refReach_c ao ar7 co cr7 (readG fs rs) w7.heap.size w7 hO hV (Nat.le_refl _) (unhide HG))
    clear Hc7 hO hV hb7
    go_wp2_with fail
    refine (unhide Hc8).mono ?_
    rintro e w8 ⟨ra, rc, he, hI8, hb8⟩
    subst he
    have hs8 := hb8.size
    replace g0 := (hb8.cell (p := ⟨w.heap.size, 0, none⟩) hl7).trans g0
    replace g1 := (hb8.cell (p := ⟨w.heap.size, 1, none⟩) hl7).trans g1
    replace k0 := (hb8.cell (p := ⟨w3.heap.size, 0, none⟩) hl7').trans k0
    replace k1 := (hb8.cell (p := ⟨w3.heap.size, 1, none⟩) hl7').trans k1
    have hbw8 : Below w.heap.size w w8 := hbw7.trans (hb8.mono (by omega))
    have hl8 : w.heap.size < w8.heap.size := by omega
    have hl8' : w3.heap.size < w8.heap.size := by omega
    replace HBL := hide (((unhide HBL).below hb8).mono hs8)
    have HI8 := hide hI8
    have HW8 := hide ((unhide HW).below hbw8)
    clear Hc8 hI8 hb8 HG
    have Htt : Hid (fgT (rL fs rs) = (fgP (rL fs rs) (rL fs rs).length).2) := rfl
    generalize rL fs rs = R at *
    generalize fuL hs fs rs = BL at *
    generalize fuR fs rs = BR at *
    generalize fgT R = tt at *
    go_wp2
    go_loopw [9, 10] (fun x i wr => ∃ k : Nat, k ≤ R.length ∧ i = .int .i64 k ∧ x = .int .i64 ((fgP R k).2 : Nat) ∧ Below w8.heap.size w8 wr) (fun _ i _ => R.length - (intOf i).toNat)
    case atStart => exact ⟨0, Nat.zero_le _, rfl, by simp [fgP], Below.refl _ _⟩
    case round =>
      obtain ⟨k, hk, rfl, rfl, hb⟩ := hrel
      have hsz := hb.size
      have g0r := (hb.cell (p := ⟨w.heap.size, 0, none⟩) hl8).trans g0
      have g1r := (hb.cell (p := ⟨w.heap.size, 1, none⟩) hl8).trans g1
      have k0r := (hb.cell (p := ⟨w3.heap.size, 0, none⟩) hl8').trans k0
      have k1r := (hb.cell (p := ⟨w3.heap.size, 1, none⟩) hl8').trans k1
      have hlr : w.heap.size < wr.heap.size := by omega
      have hlr' : w3.heap.size < wr.heap.size := by omega
      have hkt := fgP_le R k
      by_cases hlt : k < R.length
      · have Hc3 := hide (has_c ra rc R (k : Int) w8.heap.size wr ((unhide HI8).below hb))
        have hkI : (k : Int) < (R.length : Int) := by omega
        by_cases hm : (k : Int) ∈ R
        · have dm : decide ((k : Int) ∈ R) = true := by simpa using hm
          rw [dm] at Hc3
          have HT : Hid ((fgP R (k + 1)).2 = (fgP R k).2) := by show _ = _; rw [fgP_yes hm]
          obtain ⟨y, hwy, hBy, hy1, hy2, hy3⟩ := unhide Hst k hlt hm
          have hq := unhide HqT k hlt
          have hw2 : IntKind.i64.wrap ((k : Int) * (s : Int)) = ((k * s : Nat) : Int) := by
            rw [← Int.natCast_mul, IntKind.wrap_i64]; omega
          have hrx := reh_ok false y
          have hA1 : Hid (∀ W, Below wr.heap.size wr W → Calls Try.prog 17 #[.agg #[.slice ba BL.length bc, .slice ba' BR.length bc'], .int .i64 (k * s : Nat)] W fun e w' => e = .returned (.tuple #[.agg #[.int .i64 (uhL y), .bool false, .int .i64 (uhA y)], .bool true]) ∧ Below W.heap.size W w') := fun W hbW => by
            have := headAt_c ba ba' bc BR.length bc' BL (k * s) (reh false y) w8.heap.size W (((unhide HBL).below hb).below (hbW.mono hsz)) (by have := hbW.size; omega) hBy hrx.2.2.2.2.1 hrx.2.2.2.2.2
            rw [hrx.2.1, hrx.2.2.1, hrx.2.2.2.1, uhE_ok hrx.1] at this
            exact this
          have hA2 : Hid (∀ W, Below wr.heap.size wr W → Calls Try.prog 17 #[.agg #[.slice aw ws.length cw, .slice ar rs.length cr], .int .i64 (k * s : Nat)] W fun e w' => e = .returned (.tuple #[.agg #[.int .i64 (uhL y), .bool (uhM y), .int .i64 (uhA y)], .bool true]) ∧ Below W.heap.size W w') := fun W hbW => by
            have := headAt_c aw ar cw rs.length cr ws (k * s) y w.heap.size W (((unhide HW8).below (hb.mono (by omega))).below (hbW.mono (by omega))) (by have := hbW.size; omega) hwy hy1 hy2
            rw [uhE_ok hy3] at this
            exact this
          clear hwy hBy hy1 hy2 hy3 hrx hm
          generalize uhL y = xl at *
          generalize uhA y = xa at *
          generalize uhM y = xm at *
          generalize k * s = q at *
          have dn1 : (xl == xl) = true := by simp
          have dn2 : (xa == xa) = true := by simp
          go_wp2_with fail
          refine (unhide Hc3).mono ?_
          rintro e w9 ⟨rfl, hw9⟩
          obtain rfl := hw9.symm
          clear Hc3
          go_wp2_with fail
          refine (unhide hA1 wr (Below.refl _ _)).mono ?_
          rintro e w10 ⟨rfl, hb10⟩
          have hs10 := hb10.size
          have hbr10 : Below wr.heap.size wr (w10.alloc (.cells #[.int .i64 xl, .bool false, .int .i64 xa] 32)) := hb10.alloc hs10 _
          obtain ⟨WA, hWA⟩ : ∃ WA, w10.alloc (.cells #[.int .i64 xl, .bool false, .int .i64 xa] 32) = WA := ⟨_, rfl⟩
          rw [hWA] at hbr10
          have p0 : WA.cell? ⟨w10.heap.size, 0, none⟩ = some (.int .i64 xl) := by rw [← hWA]; simp [go_sem]
          have p1 : WA.cell? ⟨w10.heap.size, 1, none⟩ = some (.bool false) := by rw [← hWA]; simp [go_sem]
          have p2 : WA.cell? ⟨w10.heap.size, 2, none⟩ = some (.int .i64 xa) := by rw [← hWA]; simp [go_sem]
          have hlA : w10.heap.size < WA.heap.size := by rw [← hWA]; simp
          have g0A := (hbr10.cell (p := ⟨w.heap.size, 0, none⟩) hlr).trans g0r
          have g1A := (hbr10.cell (p := ⟨w.heap.size, 1, none⟩) hlr).trans g1r
          have hlwA : w.heap.size < WA.heap.size := by omega
          clear hA1 hb10
          go_wp2_with fail
          refine (unhide hA2 WA hbr10).mono ?_
          rintro e w11 ⟨rfl, hb11⟩
          clear hWA hA2
          have hs11 := hb11.size
          have p0' := (hb11.cell (p := ⟨w10.heap.size, 0, none⟩) hlA).trans p0
          have p1' := (hb11.cell (p := ⟨w10.heap.size, 1, none⟩) hlA).trans p1
          have p2' := (hb11.cell (p := ⟨w10.heap.size, 2, none⟩) hlA).trans p2
          have hl11 : w10.heap.size < w11.heap.size := by omega
          have Hb11 := hide (hb.trans ((hbr10.trans (hb11.mono hbr10.size)).mono hsz))
          have Hs11 : Hid (w8.heap.size ≤ w11.heap.size) := (unhide Hb11).size
          clear hb11 hbr10 hb p0 p1 p2 g0A g1A g0r g1r k0r k1r
          go_wp2
          go_roundw
          case rel => exact ⟨k + 1, by omega, by go_num, by rw [unhide HT], (unhide Hb11).alloc (unhide Hs11) _⟩
          case measure => simp [intOf]; omega
        · have dm : decide ((k : Int) ∈ R) = false := by simpa using hm
          rw [dm] at Hc3
          have HT : Hid (((fgP R (k + 1)).2 : Int) = ((fgP R k).2 : Int) + 1) := by show _ = _; rw [fgP_no hm]; simp
          have hw2 : IntKind.i64.wrap (((fgP R k).2 : Int) + 1) = ((fgP R k).2 : Int) + 1 := by rw [IntKind.wrap_i64]; omega
          clear hm
          go_wp2_with fail
          refine (unhide Hc3).mono ?_
          rintro e w9 ⟨rfl, hw9⟩
          obtain rfl := hw9.symm
          clear Hc3
          go_wp2
          go_roundw
          case rel => exact ⟨k + 1, by omega, by go_num, by rw [unhide HT], hb⟩
          case measure => simp [intOf]; omega
      · obtain rfl : k = R.length := by omega
        rw [← unhide Htt]
        have dtt : ((tt : Int) == (tt : Int)) = true := by simp
        have hbwr : Below w.heap.size w wr := hbw8.trans (hb.mono (by omega))
        have dBL : (((BL.length : Nat) : Int) == ((BL.length : Nat) : Int)) = true := by simp
        have Hsi := hide (unhide Hsiz wr.drew hbwr.drew)
        clear hkt hb
        go_wp2
        go_region_with (go_at_call 18; go_must (refine (unhide Hsi).mono ?_); go_must (rintro e w12 ⟨he, hb12⟩; subst he; have hs12 := hb12.size; have k012 := (hb12.cell (p := ⟨w3.heap.size, 0, none⟩) hlr').trans k0r; have k112 := (hb12.cell (p := ⟨w3.heap.size, 1, none⟩) hlr').trans k1r; have hl12 : w3.heap.size < w12.heap.size := Nat.lt_of_lt_of_le hlr' hs12))
        all_goals
          go_wp2
          go_ret
          exact ⟨rfl, hbwr.drew.trans (hb12.mono (by have := hbwr.size; exact this))⟩
  · have d0 : (arenaE ws rs == 0) = false := by simp [hE]
    have HE := hide hE
    rw [d0]
    have Hc2 := hide (unsound_c aw ar cw cr ws rs w.heap.size w2 (hW.below hbw2) (hR.below hbw2) hUW hUR (by omega) hcap)
    clear hE
    go_wp2_with fail
    refine (unhide Hc2).mono ?_
    rintro e w3 ⟨he, hb3⟩
    have d3 : (arenaE ws rs != 0) = true := by simpa using unhide HE
    rw [d3] at he
    subst he
    go_wp2
    go_ret
    exact ⟨rfl, hbw2.trans (hb3.mono (by omega))⟩

end Go.Proofs.Ytemjhdbmcdlpeaa
