/- Walks: ArenaOnly. -/
import Derived.Test.YtahdalejmfbkeaaEa
import Derived.Test.YtahdalejmfbkeaaFa
import Derived.BigQuiet
namespace Go.Proofs.Ytahdalejmfbkeaa
set_option linter.unusedSimpArgs false
set_option linter.unusedVariables false
open Go.RowKit Go.Shelf

theorem below_drewN {B : Nat} {a w : World} (h : Below B a w) (n : Nat) : Below B a (w.drewN n) := ⟨h.os, h.tape, h.output, h.size, h.block⟩

set_option maxRecDepth 100000 in
set_option maxHeartbeats 8000000 in
theorem only_c (aw ar : Option Addr) (cw cr : Nat) (ws rs : List Int) (w : World) (hW : Wds w.heap.size w aw ws) (hR : Wds w.heap.size w ar rs) (hUW : U64 ws) (hUR : U64 rs) (hcap : ws.length ≤ cw) :
    Calls Try.prog 7 #[.agg #[.slice aw ws.length cw, .slice ar rs.length cr]] w fun e w' => e = .returned (.bool true) ∧ Below w.heap.size w w' := by
  obtain ⟨W1, hW1⟩ : ∃ W1, w.alloc (.cells #[.slice aw ws.length cw, .slice ar rs.length cr] 24) = W1 := ⟨_, rfl⟩
  have hb1 : Below w.heap.size w W1 := by rw [← hW1]; exact (Below.refl w.heap.size w).alloc (Nat.le_refl _) _
  have hs1 : w.heap.size < W1.heap.size := by rw [← hW1]; simp
  have g0 : W1.cell? ⟨w.heap.size, 0, none⟩ = some (.slice aw ws.length cw) := by rw [← hW1]; simp [go_sem]
  have g1 : W1.cell? ⟨w.heap.size, 1, none⟩ = some (.slice ar rs.length cr) := by rw [← hW1]; simp [go_sem]
  have Hc1 := hide (sound_c aw ar cw cr ws rs w.heap.size W1 (hW.below hb1) (hR.below hb1) hUW hUR (by omega))
  go_enter Try.func7, Try.ntmps7
  go_wp2_with fail
  refine (unhide Hc1).mono ?_
  rintro e w2 ⟨rfl, hb2⟩
  clear hW1 Hc1
  have hs2 := hb2.size
  have hbw2 : Below w.heap.size w w2 := hb1.trans (hb2.mono (by omega))
  replace g0 := (hb2.cell (p := ⟨w.heap.size, 0, none⟩) hs1).trans g0
  replace g1 := (hb2.cell (p := ⟨w.heap.size, 1, none⟩) hs1).trans g1
  by_cases hE : arenaE ws rs = 0
  · have d0 : (arenaE ws rs == 0) = true := by simp [hE]
    rw [d0]
    have Hc3 := hide (aread_c aw ar cw cr ws rs w.heap.size w2 (hW.below hbw2) (hR.below hbw2) hUW hUR (by omega) hcap)
    clear hb1 hb2
    go_wp2_with fail
    refine (unhide Hc3).mono ?_
    rintro e w3 ⟨hres, hb3⟩
    obtain ⟨_, fs, ao, co, ar', cr', hs, he, hO, hV⟩ := hres.resolve_left (fun h => h.1 hE)
    clear hres Hc3
    subst he
    obtain ⟨p1, p2, p3, p4⟩ := read_only hUW hUR hE hs
    have h256 : ws.length ≤ 256 := by
      unfold arenaE at hE
      split at hE
      · omega
      · rename_i h; omega
    have hs3 := hb3.size
    have hbw3 : Below w.heap.size w w3 := hbw2.trans (hb3.mono (by omega))
    replace g0 := (hb3.cell (p := ⟨w.heap.size, 0, none⟩) (by simp; omega)).trans g0
    replace g1 := (hb3.cell (p := ⟨w.heap.size, 1, none⟩) (by simp; omega)).trans g1
    have hlt3 : w.heap.size < w3.heap.size := by omega
    have Hol := hide (readG_len fs rs)
    have hbA := (Below.refl w3.heap.size w3).alloc (Nat.le_refl _) (.cells #[.slice ao (readG fs rs).objs.length co, .slice ar' (readG fs rs).roots.length cr'] 33)
    have Hc4 := hide (alay_c ao ar' co cr' (readG fs rs) w3.heap.size (w3.alloc (.cells #[.slice ao (readG fs rs).objs.length co, .slice ar' (readG fs rs).roots.length cr'] 33)) (hO.objs.below hbA) (hV.1.below hbA) (by simp))
    have P1 := hide p1
    have P2 := hide p2
    have P3 := hide p3
    have P4 := hide p4
    have Hs := hide hs
    clear hO hV p1 p2 p3 p4 hE d0 hs hb3
    generalize readG fs rs = G at *
    go_wp2_with fail
    refine (unhide Hc4).mono ?_
    rintro e w4 ⟨hres, hb4⟩
    clear Hc4
    simp only [World.size_alloc] at hb4 hres
    have hs4 := hb4.size
    simp only [World.size_alloc] at hs4
    have hb34 : Below w3.heap.size w3 w4 := hbA.trans (hb4.mono (by omega))
    have hbw4 : Below w.heap.size w w4 := hbw3.trans (hb34.mono (by omega))
    replace g0 := (hb34.cell (p := ⟨w.heap.size, 0, none⟩) hlt3).trans g0
    replace g1 := (hb34.cell (p := ⟨w.heap.size, 1, none⟩) hlt3).trans g1
    have gb0 : w4.cell? ⟨w3.heap.size, 0, none⟩ = some (.slice ao G.objs.length co) := by rw [hb4.cell (p := ⟨w3.heap.size, 0, none⟩) (by simp)]; simp [go_sem]
    have hlt4 : w.heap.size < w4.heap.size := by omega
    have hlt4' : w3.heap.size < w4.heap.size := by omega
    clear hbA hb4 hb34
    by_cases hC : checkG G = 0
    · obtain ⟨_, bw, dw, br, dr, he, hWF, hRF, _⟩ := hres.resolve_left (fun h => h.1 hC)
      clear hres
      subst he
      rw [unhide P2] at hRF
      rw [unhide P2]
      have hLl := unhide P3
      have HWF := hide hWF
      have HRF := hide hRF
      clear hWF hRF hC
      generalize layWords G = LW at *
      have HLl := hide hLl
      have hLle : LW.length ≤ ws.length := by omega
      have hLge : ws.length ≤ LW.length := by omega
      clear hLl
      have hbB := (Below.refl w4.heap.size w4).alloc (Nat.le_refl _) (.cells #[.slice bw LW.length dw, .slice br rs.length dr] 24)
      have hbw5 : Below w.heap.size w (w4.alloc (.cells #[.slice bw LW.length dw, .slice br rs.length dr] 24)) := hbw4.trans (hbB.mono (by omega))
      have Hc5 := hide (rstarts_c aw cw ws w.heap.size (w4.alloc (.cells #[.slice bw LW.length dw, .slice br rs.length dr] 24)) (hW.below hbw5) hUW (by simp; omega) h256)
      go_wp2_with fail
      refine (unhide Hc5).mono ?_
      rintro e w6 ⟨hres, hb6⟩
      obtain ⟨fs', sa, sc, he', hres⟩ := hres.resolve_left (fun h => by rw [unhide Hs] at h; cases h.1)
      rw [unhide Hs] at he'
      injection he' with he'
      subst he'
      obtain ⟨he, hI⟩ := hres
      subst he
      clear Hc5
      simp only [World.size_alloc] at hb6
      have hs6 := hb6.size
      simp only [World.size_alloc] at hs6
      have hb46 : Below w4.heap.size w4 w6 := hbB.trans (hb6.mono (by omega))
      have hbw6 : Below w.heap.size w w6 := hbw4.trans (hb46.mono (by omega))
      replace g0 := (hb46.cell (p := ⟨w.heap.size, 0, none⟩) hlt4).trans g0
      replace g1 := (hb46.cell (p := ⟨w.heap.size, 1, none⟩) hlt4).trans g1
      have bb0 : w6.cell? ⟨w4.heap.size, 0, none⟩ = some (.slice bw LW.length dw) := by rw [hb6.cell (p := ⟨w4.heap.size, 0, none⟩) (by simp)]; simp [go_sem]
      have bb1 : w6.cell? ⟨w4.heap.size, 1, none⟩ = some (.slice br rs.length dr) := by rw [hb6.cell (p := ⟨w4.heap.size, 1, none⟩) (by simp)]; simp [go_sem]
      have HW6 := hide ((unhide HWF).1.below hb46)
      have HI := hide hI
      have Hc6 := hide (words_eq_c br ar dr cr rs rs w6.heap.size w6 (((unhide HRF).1.below hb46).mono (by omega)) ((hR.below hbw6).mono (by omega)) (Nat.le_refl _))
      rw [show decide (rs = rs) = true from by simp] at Hc6
      have d5 : ((LW.length : Int) != (ws.length : Int)) = false := by rw [unhide HLl]; simp
      clear hI hbB hb46 hb6 HWF HRF
      generalize hS : stF 0 fs = S at *
      clear hS
      go_wp2_with fail
      refine (unhide Hc6).mono ?_
      rintro e w7 ⟨he, hb7⟩
      subst he
      clear Hc6
      have hs7 := hb7.size
      have hbw7 : Below w.heap.size w w7 := hbw6.trans (hb7.mono (by omega))
      replace g0 := (hb7.cell (p := ⟨w.heap.size, 0, none⟩) (by simp; omega)).trans g0
      replace bb0 := (hb7.cell (p := ⟨w4.heap.size, 0, none⟩) (by simp; omega)).trans bb0
      have hlt7 : w.heap.size < w7.heap.size := by omega
      have hlt7' : w4.heap.size < w7.heap.size := by omega
      have HW7 := hide ((unhide HW6).below (hb7.mono (by omega)))
      have HI7 := hide ((unhide HI).below hb7)
      clear HW6 HI hb7 g1 bb1 d5
      go_wp2
      go_loopw [9] (fun i wr => ∃ k : Nat, k ≤ ws.length ∧ i = .int .i64 k ∧ Below w7.heap.size w7 wr) (fun i _ => ws.length - (intOf i).toNat)
      case atStart => exact ⟨0, Nat.zero_le _, rfl, Below.refl _ _⟩
      case round =>
        obtain ⟨k, hk, rfl, hb⟩ := hrel
        have hsz := hb.size
        have g0r := (hb.cell (p := ⟨w.heap.size, 0, none⟩) hlt7).trans g0
        have bb0r := (hb.cell (p := ⟨w4.heap.size, 0, none⟩) hlt7').trans bb0
        by_cases hlt : k < ws.length
        · have hltL : k < LW.length := by omega
          obtain ⟨b1, o1, rfl, hbB1, hx1⟩ := ((hW.below hbw7).below (hb.mono (by omega))).at hlt
          obtain ⟨b2, o2, rfl, hbB2, hx2⟩ := ((unhide HW7).below (hb.mono (by omega))).at hltL
          have hp4 := unhide P4 k
          rw [List.getElem?_eq_getElem hlt, List.getElem?_eq_getElem hltL, Option.some.injEq] at hp4
          have Hp4 := hide hp4
          clear hp4
          have hkI : (k : Int) < (ws.length : Int) := by omega
          have hkL : (k : Int) < (LW.length : Int) := by omega
          have hH : ∀ n, Calls Try.prog 25 #[.slice sa S.length sc, .int .i64 (k : Int)] (wr.drewN n) fun e w' => e = .returned (.bool (decide ((k : Int) ∈ S))) ∧ w' = wr.drewN n := fun n => has_c sa sc S (k : Int) w6.heap.size (wr.drewN n) (((unhide HI7).below (hb.mono (by omega))).below (below_drewN (Below.refl _ _) n))
          by_cases hm : (k : Int) ∈ S
          · simp only [hm, decide_true] at hH
            clear hm Hp4
            generalize ws[k] = x at *
            generalize LW[k] = y at *
            go_wp2
            go_quiet ((go_at_call 25; exact Calls.quiet_of_same (hH _)))
            have hbn := below_drewN hb nq
            clear hH hx1 hx2
            generalize wr.drewN nq = wq at *
            go_wp2
            go_roundw
            case rel => exact ⟨k + 1, by omega, by go_num, hbn⟩
            case measure => simp [intOf]; omega
          · have Hxy := hide ((unhide Hp4).resolve_left hm)
            simp only [hm, decide_false] at hH
            rw [← unhide Hxy] at hx2
            clear hm Hp4 Hxy
            generalize ws[k] = x at *
            have d : (x != x) = false := by simp
            go_wp2
            go_quiet ((go_at_call 25; exact Calls.quiet_of_same (hH _)))
            have hbn := below_drewN hb nq
            clear hH hx1 hx2
            generalize wr.drewN nq = wq at *
            go_wp2
            go_roundw
            case rel => exact ⟨k + 1, by omega, by go_num, hbn⟩
            case measure => simp [intOf]; omega
        · obtain rfl : k = ws.length := by omega
          go_wp2
          go_ret
          exact ⟨rfl, hbw7.trans (hb.mono (by omega))⟩
    · obtain ⟨_, he⟩ := hres.resolve_right (fun h => hC h.1)
      clear hres
      subst he
      have hgt : 24 < G.objs.length := by
        rcases Nat.lt_or_ge 24 G.objs.length with h | h
        · exact h
        · exact absurd (unhide P1 (by rw [← unhide Hol]; exact h)) hC
      have d1 : (checkG G != 0) = true := by simpa using hC
      have d2 : decide ((24 : Int) < (G.objs.length : Int)) = true := by simp; omega
      clear hC
      go_wp2
      go_ret
      exact ⟨ret_bool (by first | rfl | simpa using hgt), hbw4.alloc (by omega) _⟩
  · have d0 : (arenaE ws rs == 0) = false := by simp [hE]
    have HE := hide hE
    rw [d0]
    have Hc2 := hide (unsound_c aw ar cw cr ws rs w.heap.size w2 (hW.below hbw2) (hR.below hbw2) hUW hUR (by omega) hcap)
    clear hE
    go_wp2_with fail
    refine (unhide Hc2).mono ?_
    rintro e w3 ⟨he, hb3⟩
    have d3 : (arenaE ws rs != 0) = true := by simpa using unhide HE
    rw [d3] at he
    subst he
    go_wp2
    go_ret
    exact ⟨rfl, hbw2.trans (hb3.mono (by omega))⟩

end Go.Proofs.Ytahdalejmfbkeaa
