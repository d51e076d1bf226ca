/- Walks: GraphSteps. -/
import Derived.Test.YtmelhphhealomaaProg
import Derived.Test.YtmelhphhealomaaMem
import Derived.Test.YtmelhphhealomaaWb
import Derived.Test.YtmelhphhealomaaWs
import Derived.Test.YtmelhphhealomaaWu
import Derived.Test.YtmelhphhealomaaXb
namespace Go.Proofs.Ytmelhphhealomaa
set_option linter.unusedSimpArgs false
set_option linter.unusedVariables false
open Go.RowKit

set_option maxRecDepth 100000 in
set_option maxHeartbeats 1000000 in
theorem steps_bad (ao ar : Option Addr) (co cr : Nat) (g : Gr) (w : World) (ho : Objs w.heap.size w ao g.objs) (hr : Vals w.heap.size w ar g.roots) (na : checkG g ≠ 0) :
    Calls Try.prog 5 #[.agg #[.slice ao g.objs.length co, .slice ar g.roots.length cr]] w fun e w' => e = .returned (.bool true) ∧ Below w.heap.size w w' := by
  have Ha := hide na
  clear na
  have hw0 := (Below.refl w.heap.size w).alloc (Nat.le_refl _) (.cells #[.slice ao g.objs.length co, .slice ar g.roots.length cr] 25)
  go_enter Try.func5, Try.ntmps5
  go_wp2_with fail
  refine (good_c _ _ _ _ g w.heap.size _ (ho.below hw0) (hr.below hw0) (by simp)).mono ?_
  rintro e u1 ⟨he, hb1⟩
  rw [checkG_beq' (unhide Ha)] at he
  subst he
  simp only [World.size_alloc] at hb1
  have g0 := hb1.cell (p := ⟨w.heap.size, 0, none⟩) (by simp)
  have g1 := hb1.cell (p := ⟨w.heap.size, 1, none⟩) (by simp)
  simp [go_sem] at g0 g1
  have hs1 := hb1.size
  simp at hs1
  have hw1 := hw0.trans (hb1.mono (by omega))
  go_wp2_with fail
  refine (refused_c _ _ _ _ g w.heap.size _ (ho.below hw1) (hr.below hw1) (by omega)).mono ?_
  rintro e u2 ⟨he, hb2⟩
  rw [checkG_bne' (unhide Ha)] at he
  subst he
  go_wp2
  go_ret
  exact ⟨rfl, hw1.trans (hb2.mono (by omega))⟩

set_option maxRecDepth 100000 in
set_option maxHeartbeats 2000000 in
theorem steps_ok (ao ar : Option Addr) (co cr : Nat) (g : Gr) (w : World) (ho : Objs w.heap.size w ao g.objs) (hr : Vals w.heap.size w ar g.roots) (na : checkG g = 0) :
    Calls Try.prog 5 #[.agg #[.slice ao g.objs.length co, .slice ar g.roots.length cr]] w fun e w' => e = .returned (.bool true) ∧ Below w.heap.size w w' := by
  have hG := good_of_check na
  have hn24 := hG.n24
  have Ha := hide na
  clear na
  have hw0 := (Below.refl w.heap.size w).alloc (Nat.le_refl _) (.cells #[.slice ao g.objs.length co, .slice ar g.roots.length cr] 25)
  go_enter Try.func5, Try.ntmps5
  go_wp2_with fail
  refine (good_c _ _ _ _ g w.heap.size _ (ho.below hw0) (hr.below hw0) (by simp)).mono ?_
  rintro e qa ⟨he, hb1⟩
  rw [checkG_beq (unhide Ha)] at he
  subst he
  simp only [World.size_alloc] at hb1
  have g0 := hb1.cell (p := ⟨w.heap.size, 0, none⟩) (by simp)
  have g1 := hb1.cell (p := ⟨w.heap.size, 1, none⟩) (by simp)
  simp [go_sem] at g0 g1
  have hs1 := hb1.size
  simp at hs1
  have hw1 := hw0.trans (hb1.mono (by omega))
  clear hw0 hb1
  go_wp2_with fail
  refine (dist_ok _ _ _ _ g w.heap.size _ (ho.below hw1) (hr.below hw1) (by omega) (unhide Ha)).mono ?_
  rintro e qb ⟨da, dc, rfl, hI, hb2⟩
  have hs2 := hb2.size
  have g0 := (hb2.cell (p := ⟨w.heap.size, 0, none⟩) (by simp; omega)).trans g0
  have g1 := (hb2.cell (p := ⟨w.heap.size, 1, none⟩) (by simp; omega)).trans g1
  have hw2 := hw1.trans (hb2.mono (by omega))
  clear hw1 hb2
  have hbd := distAt_bounds hG
  have d0 : ((g.objs.length : Int) != (g.objs.length : Int)) = false := by simp
  have hDl := distL_len g
  have hDat : ∀ (k : Nat) (X : World), k < g.objs.length → Below qb.heap.size qb X → ∃ b off, da = some ⟨b, off, none⟩ ∧ X.cell? ⟨b, off + k, none⟩ = some (.int .i64 (distAt g (k : Int))) := by
    intro k X hk hX
    obtain ⟨b, off, e1, _, e2⟩ := (hI.below hX).at (by rw [hDl]; exact hk)
    exact ⟨b, off, e1, by rw [e2]; simp [distL]⟩
  have HDat := hide hDat
  clear hDat hDl
  go_wp2
  go_loopw [5] (fun i wr => ∃ j : Nat, j ≤ g.objs.length ∧ i = .int .i64 j ∧ Below qb.heap.size qb wr) (fun i _ => g.objs.length - (intOf i).toNat)
  case atStart => exact ⟨0, Nat.zero_le _, rfl, Below.refl _ _⟩
  case round =>
    obtain ⟨j, hj, rfl, hb⟩ := hrel
    by_cases hlt : j < g.objs.length
    · have HS := hide (steps_eq hG hlt)
      have HK0 : Hid (bestK (fun i => distAt g (i : Int)) (fun i => refers (fieldsOf g (i : Int)) (j : Int)) 0 = -1) := rfl
      have hBb := bestK_bounds (D := fun i => distAt g (i : Int)) (R := fun i => refers (fieldsOf g (i : Int)) (j : Int)) (fun i => hbd i)
      have HKs : Hid (∀ i, bestK (fun i => distAt g (i : Int)) (fun i => refers (fieldsOf g (i : Int)) (j : Int)) (i + 1) = if 0 ≤ distAt g (i : Int) ∧ refers (fieldsOf g (i : Int)) (j : Int) = true ∧ (bestK (fun i => distAt g (i : Int)) (fun i => refers (fieldsOf g (i : Int)) (j : Int)) i < 0 ∨ distAt g (i : Int) + 1 < bestK (fun i => distAt g (i : Int)) (fun i => refers (fieldsOf g (i : Int)) (j : Int)) i) then distAt g (i : Int) + 1 else bestK (fun i => distAt g (i : Int)) (fun i => refers (fieldsOf g (i : Int)) (j : Int)) i) := fun _ => rfl
      generalize bestK (fun i => distAt g (i : Int)) (fun i => refers (fieldsOf g (i : Int)) (j : Int)) = bk at *
      go_wp2
      go_loopw [6, 7] (fun s i wr => ∃ k : Nat, k ≤ g.objs.length ∧ i = .int .i64 k ∧ s = .int .i64 (bk k) ∧ Below qb.heap.size qb wr) (fun _ i _ => g.objs.length - (intOf i).toNat)
      case atStart => exact ⟨0, Nat.zero_le _, rfl, by rw [unhide HK0], hb⟩
      case round =>
        clear hb
        obtain ⟨k, hk, rfl, rfl, hb⟩ := hrel
        have hsz := hb.size
        have hbk := hBb k
        have g0 := (hb.cell (p := ⟨w.heap.size, 0, none⟩) (by simp; omega)).trans g0
        have g1 := (hb.cell (p := ⟨w.heap.size, 1, none⟩) (by simp; omega)).trans g1
        have hwr := hw2.trans (hb.mono (by have := hw2.size; omega))
        by_cases hlt2 : k < g.objs.length
        · obtain ⟨b, off, rfl, hx⟩ := unhide HDat k wr hlt2 hb
          have hdk := hbd (k : Int)
          have HK := hide (unhide HKs k)
          obtain ⟨bo, oo, ai, ci, rfl, hbo, hco, hva⟩ := (ho.below hwr).at hlt2
          have Hfs := hide (show fieldsOf g (k : Int) = g.objs[k] by simp [fieldsOf, hlt2])
          rw [unhide Hfs] at HK
          clear Hfs
          generalize g.objs[k] = fs at *
          generalize distAt g (k : Int) = dk at *
          have hkI : (k : Int) < (g.objs.length : Int) := by omega
          have hbl : b < wr.heap.size := World.block_lt_of_cell? wr _ hx
          have hvr : Vals wr.heap.size wr ai fs := hva.mono hwr.size
          by_cases hd0 : 0 ≤ dk
          · cases hre : refers fs (j : Int)
            · have Hre := hide hre
              have HN := hide (show bk (k + 1) = bk k from by rw [unhide HK, if_neg (by rw [hre]; rintro ⟨_, h, _⟩; cases h)])
              clear hre
              go_wp2_with (go_at_call 14; go_must (refine (refers_c _ _ fs (j : Int) wr.heap.size wr hvr (Nat.le_refl _)).mono ?_); rintro e w3 ⟨he, hb3⟩; rw [unhide Hre] at he; subst he)
              go_roundw
              case rel => exact ⟨k + 1, by omega, by go_num, by rw [unhide HN], hb.trans (hb3.mono hsz)⟩
              case measure => simp [intOf]; omega
            · have Hre := hide hre
              by_cases hbn : bk k < 0
              · have HN := hide (show bk (k + 1) = dk + 1 from by rw [unhide HK, if_pos ⟨hd0, hre, .inl hbn⟩])
                clear hre
                go_wp2_with (go_at_call 14; go_must (refine (refers_c _ _ fs (j : Int) wr.heap.size wr hvr (Nat.le_refl _)).mono ?_); go_must (rintro e w3 ⟨he, hb3⟩; rw [unhide Hre] at he; subst he; have hx3 := (hb3.cell (p := ⟨b, off + k, none⟩) hbl).trans hx))
                go_roundw
                case rel => exact ⟨k + 1, by omega, by go_num, by rw [unhide HN], hb.trans (hb3.mono hsz)⟩
                case measure => simp [intOf]; omega
              · have dbn : decide (bk k < 0) = false := by simpa using hbn
                by_cases hlt3 : dk + 1 < bk k
                · have HN := hide (show bk (k + 1) = dk + 1 from by rw [unhide HK, if_pos ⟨hd0, hre, .inr hlt3⟩])
                  clear hre
                  go_wp2_with (go_at_call 14; go_must (refine (refers_c _ _ fs (j : Int) wr.heap.size wr hvr (Nat.le_refl _)).mono ?_); go_must (rintro e w3 ⟨he, hb3⟩; rw [unhide Hre] at he; subst he; have hx3 := (hb3.cell (p := ⟨b, off + k, none⟩) hbl).trans hx))
                  go_roundw
                  case rel => exact ⟨k + 1, by omega, by go_num, by rw [unhide HN], hb.trans (hb3.mono hsz)⟩
                  case measure => simp [intOf]; omega
                · have d3 : decide (dk + 1 < bk k) = false := by simpa using hlt3
                  have HN := hide (show bk (k + 1) = bk k from by rw [unhide HK, if_neg (by rintro ⟨_, _, h | h⟩ <;> omega)])
                  clear hre
                  go_wp2_with (go_at_call 14; go_must (refine (refers_c _ _ fs (j : Int) wr.heap.size wr hvr (Nat.le_refl _)).mono ?_); go_must (rintro e w3 ⟨he, hb3⟩; rw [unhide Hre] at he; subst he; have hx3 := (hb3.cell (p := ⟨b, off + k, none⟩) hbl).trans hx))
                  go_roundw
                  case rel => exact ⟨k + 1, by omega, by go_num, by rw [unhide HN], hb.trans (hb3.mono hsz)⟩
                  case measure => simp [intOf]; omega
          · have dd0 : decide (0 ≤ dk) = false := by simpa using hd0
            have HN := hide (show bk (k + 1) = bk k from by rw [unhide HK, if_neg (fun h => hd0 h.1)])
            go_wp2
            go_roundw
            case rel => exact ⟨k + 1, by omega, by go_num, by rw [unhide HN], hb⟩
            case measure => simp [intOf]; omega
        · obtain rfl : k = g.objs.length := by omega
          obtain ⟨b, off, rfl, hx⟩ := unhide HDat j wr hlt hb
          have hjI : (j : Int) < (g.objs.length : Int) := by omega
          have hvr : Vals wr.heap.size wr ar g.roots := (hr.below hwr).mono hwr.size
          have hbl : b < wr.heap.size := World.block_lt_of_cell? wr _ hx
          generalize distAt g (j : Int) = dj at *
          cases hre : refers g.roots (j : Int)
          · have Hre := hide hre
            have hE : (dj != bk g.objs.length) = false := by
              have := unhide HS
              rw [hre, if_neg (by simp)] at this
              rw [this]; simp
            clear hre
            go_wp2_with (go_at_call 14; go_must (refine (refers_c _ _ g.roots (j : Int) wr.heap.size wr hvr (Nat.le_refl _)).mono ?_); go_must (rintro e w3 ⟨he, hb3⟩; rw [unhide Hre] at he; subst he; have hx3 := (hb3.cell (p := ⟨b, off + j, none⟩) hbl).trans hx))
            go_roundw
            case rel => exact ⟨j + 1, by omega, by go_num, hb.trans (hb3.mono hsz)⟩
            case measure => simp [intOf]; omega
          · have Hre := hide hre
            obtain rfl : dj = 0 := by
              have := unhide HS
              rwa [hre, if_pos rfl] at this
            clear hre
            go_wp2_with (go_at_call 14; go_must (refine (refers_c _ _ g.roots (j : Int) wr.heap.size wr hvr (Nat.le_refl _)).mono ?_); go_must (rintro e w3 ⟨he, hb3⟩; rw [unhide Hre] at he; subst he; have hx3 := (hb3.cell (p := ⟨b, off + j, none⟩) hbl).trans hx))
            go_roundw
            case rel => exact ⟨j + 1, by omega, by go_num, hb.trans (hb3.mono hsz)⟩
            case measure => simp [intOf]; omega
    · go_wp2
      go_ret
      exact ⟨rfl, hw2.trans (hb.mono (by have := hw2.size; omega))⟩

theorem steps_c (ao ar : Option Addr) (co cr : Nat) (g : Gr) (w : World) (ho : Objs w.heap.size w ao g.objs) (hr : Vals w.heap.size w ar g.roots) :
    Calls Try.prog 5 #[.agg #[.slice ao g.objs.length co, .slice ar g.roots.length cr]] w fun e w' => e = .returned (.bool true) ∧ Below w.heap.size w w' := by
  by_cases na : checkG g = 0
  · exact steps_ok ao ar co cr g w ho hr na
  · exact steps_bad ao ar co cr g w ho hr na

end Go.Proofs.Ytmelhphhealomaa
