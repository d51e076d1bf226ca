/- Walks: the document's answer: Same. -/
import Derived.Test.YtmelhphhealomaaProg
import Derived.Test.YtmelhphhealomaaMem
import Derived.Test.YtmelhphhealomaaRg
import Derived.Test.YtmelhphhealomaaRh
import Derived.StillTailTactics
namespace Go.Proofs.Ytmelhphhealomaa
set_option linter.unusedSimpArgs false
set_option linter.unusedVariables false
open Go.RowKit

theorem ps_start (w : World) (o1 o2 : Obj) : PS ((((w.alloc o1).alloc o2).alloc (.cells #[.slice none 0 0] 31)).alloc (.cells #[.slice none 0 0] 31)) (w.heap.size + 2) (w.heap.size + 3) [] [] (.slice none 0 0) (.slice none 0 0) := by
  refine ⟨by simp [go_sem], by simp [go_sem], by simp [go_sem], by simp [go_sem], World.ownsRow_nil _ _ _ _, World.ownsRow_nil _ _ _ _, fun k h => by simp [Value.ownBlock] at h, by omega⟩

theorem start_res {a b : Gr} {e : Ending} {w' : World} {pf pt : Nat} (h : (e = .returned (.bool false) ∧ prun [] [] a.roots b.roots = none) ∨
      (e = .returned (.bool true) ∧ ∃ F' T' vf' vt', prun [] [] a.roots b.roots = some (F', T') ∧ F'.length = T'.length ∧ F'.length ≤ ([] : List Int).length + a.roots.length ∧ PS w' pf pt F' T' vf' vt')) :
    ∃ r, e = .returned (.bool r) ∧ ((r = false ∧ Hid (sameN a b 24 = none)) ∨ (r = true ∧ ∃ F T vf vt, Hid (sameN a b 0 = some (F, T)) ∧ 0 ≤ F.length ∧ PS w' pf pt F T vf vt)) := by
  rcases h with ⟨rfl, hno⟩ | ⟨rfl, F, T, vf, vt, hsm, _, _, hP⟩
  · exact ⟨false, rfl, .inl ⟨rfl, sameN_none (k := 0) hno (by omega)⟩⟩
  · exact ⟨true, rfl, .inr ⟨rfl, F, T, vf, vt, hsm, Nat.zero_le _, hP⟩⟩

theorem prun_grows : ∀ {la lb : List V} {F T F' T' : List Int}, F.length = T.length → T.Nodup → prun F T la lb = some (F', T') → F.length ≤ F'.length := by
  intro la lb F T F' T' hl hT h
  rw [((prun_iff la lb F T F' T' hl hT).1 h).1]
  exact (insA_prefix la F).length_le

theorem round_res {a b : Gr} {e : Ending} {w' : World} {pf pt k : Nat} {F T : List Int} {la lb : List V} (hk : k < F.length) (hF : F.length ≤ 24) (hl : F.length = T.length) (hT : T.Nodup) (hst : sameN a b (k + 1) = prun F T la lb)
    (h : (e = .returned (.bool false) ∧ prun F T la lb = none) ∨
      (e = .returned (.bool true) ∧ ∃ F' T' vf' vt', prun F T la lb = some (F', T') ∧ F'.length = T'.length ∧ F'.length ≤ F.length + la.length ∧ PS w' pf pt F' T' vf' vt')) :
    ∃ r, e = .returned (.bool r) ∧ ((r = false ∧ Hid (sameN a b 24 = none)) ∨ (r = true ∧ ∃ F T vf vt, Hid (sameN a b (k + 1) = some (F, T)) ∧ k + 1 ≤ F.length ∧ PS w' pf pt F T vf vt)) := by
  rcases h with ⟨rfl, hno⟩ | ⟨rfl, F', T', vf, vt, hsm, _, _, hP⟩
  · exact ⟨false, rfl, .inl ⟨rfl, sameN_none (k := k + 1) (hst.trans hno) (by omega)⟩⟩
  · exact ⟨true, rfl, .inr ⟨rfl, F', T', vf, vt, hst.trans hsm, by have := prun_grows hl hT hsm; omega, hP⟩⟩

set_option maxRecDepth 100000 in
set_option maxHeartbeats 2000000 in
theorem refSame_c (ao ar bo br : Option Addr) (co cr do' dr : Nat) (a b : Gr) (B : Nat) (w : World) (ho : Objs B w ao a.objs) (hr : Vals B w ar a.roots) (ko : Objs B w bo b.objs) (kr : Vals B w br b.roots) (hB : B ≤ w.heap.size) (hA : Good a) (hG : Good b) :
    Calls Try.prog 18 #[.agg #[.slice ao a.objs.length co, .slice ar a.roots.length cr], .agg #[.slice bo b.objs.length do', .slice br b.roots.length dr]] w fun e w' => e = .returned (.bool (sameN a b 24).isSome) ∧ Below w.heap.size w w' := by
  have hn8 := hA.n8
  have hn24 := hA.n24
  obtain ⟨W0, hW0⟩ : ∃ W0, (((w.alloc (.cells #[.slice ao a.objs.length co, .slice ar a.roots.length cr] 25)).alloc (.cells #[.slice bo b.objs.length do', .slice br b.roots.length dr] 25)).alloc (.cells #[.slice none 0 0] 31)).alloc (.cells #[.slice none 0 0] 31) = W0 := ⟨_, rfl⟩
  have hb0 : Below w.heap.size w W0 := by rw [← hW0]; exact ((((Below.refl _ _).alloc (Nat.le_refl _) _).alloc (by simp) _).alloc (by simp; omega) _).alloc (by simp; omega) _
  have hs0 : w.heap.size + 3 < W0.heap.size := by rw [← hW0]; simp
  have g0 : W0.cell? ⟨w.heap.size, 0, none⟩ = some (.slice ao a.objs.length co) := by rw [← hW0]; simp [go_sem]
  have g1 : W0.cell? ⟨w.heap.size, 1, none⟩ = some (.slice ar a.roots.length cr) := by rw [← hW0]; simp [go_sem]
  have g2 : W0.cell? ⟨w.heap.size + 1, 0, none⟩ = some (.slice bo b.objs.length do') := by rw [← hW0]; simp [go_sem]
  have g3 : W0.cell? ⟨w.heap.size + 1, 1, none⟩ = some (.slice br b.roots.length dr) := by rw [← hW0]; simp [go_sem]
  have hP0 : PS W0 (w.heap.size + 2) (w.heap.size + 3) [] [] (.slice none 0 0) (.slice none 0 0) := by rw [← hW0]; exact ps_start _ _ _
  have hr0 : Vals (w.heap.size + 2) W0 ar a.roots := (hr.below (hb0.mono hB)).mono (by omega)
  have kr0 : Vals (w.heap.size + 2) W0 br b.roots := (kr.below (hb0.mono hB)).mono (by omega)
  go_enter Try.func18, Try.ntmps18
  go_wp2_with (go_at_call 29; clear hW0; go_must (refine (pair_c ar br cr dr a.roots b.roots (w.heap.size + 2) (w.heap.size + 3) [] [] _ _ W0 hr0 kr0 hP0 rfl (by simp) (by omega)).mono ?_); rintro e w1 ⟨hb1, hres⟩; obtain ⟨r, rfl, hq⟩ := start_res hres)
  have hlA : ∀ k, (searchN a k).1.length ≤ 24 := fun k => by have := (searchN_ok hA k).le; omega
  go_loopw [7, 8] (fun okv i wr => ∃ (k : Nat) (r : Bool), i = .int .i64 k ∧ okv = .bool r ∧ ((r = false ∧ Hid (sameN a b 24 = none)) ∨ (r = true ∧ ∃ F T vf vt, Hid (sameN a b k = some (F, T)) ∧ k ≤ F.length ∧ PS wr (w.heap.size + 2) (w.heap.size + 3) F T vf vt)) ∧ Below (w.heap.size + 2) W0 wr) (fun _ i _ => 24 - (intOf i).toNat)
  case atStart =>
    exact ⟨0, r, rfl, rfl, hq, hb1⟩
  case round =>
    clear hq hres hP0 hb1
    obtain ⟨k, r, rfl, rfl, hres, hb⟩ := hrel
    have hsz := hb.size
    have hbw : Below B w wr := (hb0.mono hB).trans (hb.mono (by omega))
    rcases hres with ⟨rfl, Hno⟩ | ⟨rfl, F, T, vf, vt, Hs, hk, hP⟩
    · go_wp2
      go_ret
      refine ⟨ret_bool (by rw [unhide Hno]; rfl), hb0.trans (hb.mono (by omega))⟩
    · have hfw := same_fwd hA hG k F T (unhide Hs)
      have hF24 : F.length ≤ 24 := by rw [hfw.1]; exact hlA k
      have hT24 : T.length ≤ 24 := by rw [← hfw.2.2.1]; exact hF24
      have q0 := (hb.cell (p := ⟨w.heap.size, 0, none⟩) (by simp)).trans g0
      have q2 := (hb.cell (p := ⟨w.heap.size + 1, 0, none⟩) (by simp)).trans g2
      have e1 := hP.cf
      have e2 := hP.ct
      by_cases hlt : k < F.length
      · have hlt2 : k < T.length := by rw [← hfw.2.2.1]; exact hlt
        obtain ⟨ga, ca, rfl, hx1, hgl1⟩ := ints_at hP.rf hlt
        obtain ⟨gb, cb, rfl, hx2, hgl2⟩ := ints_at hP.rt hlt2
        have hxr : 0 ≤ F[k] ∧ F[k] < a.objs.length := (searchN_ok hA k).rng _ (by rw [← hfw.1]; exact List.getElem_mem hlt)
        have hyr : 0 ≤ T[k] ∧ T[k] < b.objs.length := (searchN_ok hG k).rng _ (by rw [← hfw.2.1]; exact List.getElem_mem hlt2)
        have HFT := hide hfw.2.2.1
        have HTn : Hid T.Nodup := by show T.Nodup; rw [hfw.2.1]; exact (searchN_ok hG k).nd
        have Hst : Hid (sameN a b (k + 1) = prun F T (fieldsOf a F[k]) (fieldsOf b T[k])) := by
          show sameN a b (k + 1) = _
          simp only [sameN]; rw [unhide Hs]; simp only [Option.bind_some]; rw [List.getElem?_eq_getElem hlt, List.getElem?_eq_getElem hlt2]
        clear hfw Hs
        generalize F[k] = x at *
        generalize T[k] = y at *
        obtain ⟨x, rfl⟩ := Int.eq_ofNat_of_zero_le hxr.1
        obtain ⟨y, rfl⟩ := Int.eq_ofNat_of_zero_le hyr.1
        have hxN : x < a.objs.length := by omega
        have hyN : y < b.objs.length := by omega
        obtain ⟨b1, o1, a1, c1, rfl, hbB1, hcb1, hva1⟩ := (ho.below hbw).at hxN
        obtain ⟨b2, o2, a2, c2, rfl, hbB2, hcb2, hva2⟩ := (ko.below hbw).at hyN
        have hl4 := hA.n4 _ (List.getElem_mem hxN)
        have Hst : Hid (sameN a b (k + 1) = prun F T a.objs[x] b.objs[y]) := by
          show sameN a b (k + 1) = _
          rw [unhide Hst]; simp [fieldsOf, hxN, hyN]
        generalize a.objs[x] = la at *
        generalize b.objs[y] = lb at *
        have i1 : (k : Int) < (F.length : Int) := by omega
        have i2 : (k : Int) < (T.length : Int) := by omega
        have i3 : (x : Int) < (a.objs.length : Int) := by omega
        have i4 : (y : Int) < (b.objs.length : Int) := by omega
        go_wp2
        go_still_tail 18, Try.mixed
        go_wp2_with (go_at_call 29; go_must (refine (pair_c a1 a2 c1 c2 la lb (w.heap.size + 2) (w.heap.size + 3) F T _ _ _ ((hva1.mono (by omega)).below (Below.refl _ _).drew) ((hva2.mono (by omega)).below (Below.refl _ _).drew) hP.drew (unhide HFT) (by omega) (by omega)).mono ?_); rintro e w3 ⟨hb3, hres⟩; obtain ⟨r, rfl, hq⟩ := round_res hlt hF24 (unhide HFT) (unhide HTn) (unhide Hst) hres)
        go_roundw
        case rel => exact ⟨k + 1, r, by go_num, rfl, hq, hb.trans ((Below.refl _ _).drew.trans hb3)⟩
        case measure => simp [intOf]; omega
      · have Hfin := hide (sameN_stay (m := 24) (unhide Hs) (by omega) (by omega))
        obtain ⟨fa, fc, rfl⟩ := ownsRow_slice hP.rf
        obtain rfl : k = F.length := by omega
        clear hfw
        go_wp2
        go_ret
        refine ⟨ret_bool (by rw [unhide Hfin]; rfl), hb0.trans (hb.mono (by omega))⟩

end Go.Proofs.Ytmelhphhealomaa
