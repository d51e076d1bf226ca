/- Walks: GraphRenamed. -/
import Derived.Test.YtmelhphhealomaaProg
import Derived.Test.YtmelhphhealomaaMem
import Derived.Test.YtmelhphhealomaaTi
namespace Go.Proofs.Ytmelhphhealomaa
set_option linter.unusedSimpArgs false
set_option linter.unusedVariables false
open Go.RowKit

set_option maxRecDepth 100000 in
set_option maxHeartbeats 2000000 in
theorem renamed_bad (ao ar : Option Addr) (aoc arc : Nat) (a : Gr) (k : Int) (w : World) (hao : Objs w.heap.size w ao a.objs) (har : Vals w.heap.size w ar a.roots) (na : checkG a ≠ 0) :
    Calls Try.prog 7 #[.agg #[.slice ao a.objs.length aoc, .slice ar a.roots.length arc], .int .u8 k] w fun e w' => e = .returned (.bool true) ∧ Below w.heap.size w w' := by
  have Ha := hide na
  clear na
  go_enter Try.func7, Try.ntmps7
  go_wp2_with fail
  obtain ⟨wu0, hu0⟩ : ∃ wu0, w.alloc (.cells #[.slice ao a.objs.length aoc, .slice ar a.roots.length arc] 25) = wu0 := ⟨_, rfl⟩
  rw [hu0]
  obtain ⟨hsz0, hw0, hcells⟩ := ren_box _ _ 25 w wu0 hu0
  have Hcells := hide hcells
  clear hu0 hcells
  have hn0 : w.heap.size + 1 ≤ wu0.heap.size := by omega
  refine (good_c _ _ _ _ a w.heap.size _ (hao.below hw0) (har.below hw0) (by omega)).mono ?_
  rintro e wu1 ⟨he, hb1⟩
  rw [checkG_beq' (unhide Ha)] at he
  subst he
  have hk1 : Below (w.heap.size + 1) wu0 wu1 := hb1.mono hn0
  have hw1 : Below w.heap.size w wu1 := hw0.trans (hb1.mono (by omega))
  have hn1 : w.heap.size + 1 ≤ wu1.heap.size := by have := hb1.size; omega
  obtain ⟨x0, x1⟩ := unhide Hcells wu1 hk1
  go_wp2_with fail
  clear x0 x1
  refine (good_c _ _ _ _ a w.heap.size _ (hao.below hw1) (har.below hw1) (by omega)).mono ?_
  rintro e wu2 ⟨he, hb2⟩
  rw [checkG_beq' (unhide Ha)] at he
  subst he
  have hk2 : Below (w.heap.size + 1) wu0 wu2 := hk1.trans (hb2.mono hn1)
  have hw2 : Below w.heap.size w wu2 := hw1.trans (hb2.mono (by omega))
  have hn2 : w.heap.size + 1 ≤ wu2.heap.size := by have := hb2.size; omega
  obtain ⟨x0, x1⟩ := unhide Hcells wu2 hk2
  go_wp2_with (go_at_call 9; go_must (refine (refused_c _ _ _ _ a w.heap.size _ (hao.below hw2) (har.below hw2) (by omega)).mono ?_); go_must (rintro e wu3 ⟨he, hb3⟩; rw [checkG_bne' (unhide Ha)] at he; subst he))
  go_ret
  exact ⟨rfl, hw2.trans (hb3.mono (by omega))⟩

set_option maxRecDepth 100000 in
set_option maxHeartbeats 2000000 in
theorem renamed_edge (ao ar : Option Addr) (aoc arc : Nat) (a : Gr) (k : Int) (w : World) (hao : Objs w.heap.size w ao a.objs) (har : Vals w.heap.size w ar a.roots) (na : checkG a = 0) (hn : a.objs.length = 0 ∨ a.objs.length = 24) :
    Calls Try.prog 7 #[.agg #[.slice ao a.objs.length aoc, .slice ar a.roots.length arc], .int .u8 k] w fun e w' => e = .returned (.bool true) ∧ Below w.heap.size w w' := by
  have Ha := hide na
  clear na
  go_enter Try.func7, Try.ntmps7
  go_wp2_with fail
  obtain ⟨wu0, hu0⟩ : ∃ wu0, w.alloc (.cells #[.slice ao a.objs.length aoc, .slice ar a.roots.length arc] 25) = wu0 := ⟨_, rfl⟩
  rw [hu0]
  obtain ⟨hsz0, hw0, hcells⟩ := ren_box _ _ 25 w wu0 hu0
  have Hcells := hide hcells
  clear hu0 hcells
  have hn0 : w.heap.size + 1 ≤ wu0.heap.size := by omega
  refine (good_c _ _ _ _ a w.heap.size _ (hao.below hw0) (har.below hw0) (by omega)).mono ?_
  rintro e wu1 ⟨he, hb1⟩
  rw [checkG_beq (unhide Ha)] at he
  subst he
  have hk1 : Below (w.heap.size + 1) wu0 wu1 := hb1.mono hn0
  have hw1 : Below w.heap.size w wu1 := hw0.trans (hb1.mono (by omega))
  have hn1 : w.heap.size + 1 ≤ wu1.heap.size := by have := hb1.size; omega
  obtain ⟨x0, x1⟩ := unhide Hcells wu1 hk1
  rcases hn with hz | hz
  · have d1 : ((a.objs.length : Int) == 0) = true := by simp [hz]
    have Hz := hide hz
    clear hz
    go_wp2_with fail
    clear x0 x1
    refine (good_c _ _ _ _ a w.heap.size _ (hao.below hw1) (har.below hw1) (by omega)).mono ?_
    rintro e wu2 ⟨he, hb2⟩
    rw [checkG_beq (unhide Ha)] at he
    subst he
    go_wp2
    go_ret
    exact ⟨rfl, hw1.trans (hb2.mono (by omega))⟩
  · have d1 : ((a.objs.length : Int) == 0) = false := by simp; intro e; rw [e] at hz; simp at hz
    have d2 : ((a.objs.length : Int) == 24) = true := by simp [hz]
    have Hz := hide hz
    clear hz
    go_wp2_with fail
    clear x0 x1
    refine (good_c _ _ _ _ a w.heap.size _ (hao.below hw1) (har.below hw1) (by omega)).mono ?_
    rintro e wu2 ⟨he, hb2⟩
    rw [checkG_beq (unhide Ha)] at he
    subst he
    go_wp2
    go_ret
    exact ⟨rfl, hw1.trans (hb2.mono (by omega))⟩

set_option maxRecDepth 100000 in
set_option maxHeartbeats 8000000 in
theorem renamed_ok (ao ar : Option Addr) (aoc arc : Nat) (a : Gr) (k : Nat) (w : World) (hao : Objs w.heap.size w ao a.objs) (har : Vals w.heap.size w ar a.roots) (hk8 : k < 256) (na : checkG a = 0) (hn1' : 0 < a.objs.length) (hn2' : a.objs.length < 24) :
    Calls Try.prog 7 #[.agg #[.slice ao a.objs.length aoc, .slice ar a.roots.length arc], .int .u8 k] w fun e w' => e = .returned (.bool true) ∧ Below w.heap.size w w' := by
  have Ha := hide na
  have hG := good_of_check na
  have Hwh := hide (whole_rot hG hn1' (k % a.objs.length))
  have HcH : Hid (checkG (renG a (rotL a.objs.length (k % a.objs.length) a.objs.length)) = 0) := check_ren na (unhide Hwh)
  have HnH : Hid (canonG (renG a (rotL a.objs.length (k % a.objs.length) a.objs.length)) = canonG a) := canon_ren hG (unhide Hwh)
  have HcM := hide (check_more na hn2')
  have HnM := hide (canon_more hG)
  clear na
  have d1 : ((a.objs.length : Int) == 0) = false := by simp; intro e; rw [e] at hn1'; simp at hn1'
  have d2 : ((a.objs.length : Int) == 24) = false := by simp; omega
  go_enter Try.func7, Try.ntmps7
  go_wp2_with fail
  obtain ⟨wu0, hu0⟩ : ∃ wu0, w.alloc (.cells #[.slice ao a.objs.length aoc, .slice ar a.roots.length arc] 25) = wu0 := ⟨_, rfl⟩
  rw [hu0]
  obtain ⟨hsz0, hw0, hcells⟩ := ren_box _ _ 25 w wu0 hu0
  have Hcells := hide hcells
  clear hu0 hcells
  have hn0 : w.heap.size + 1 ≤ wu0.heap.size := by omega
  refine (good_c _ _ _ _ a w.heap.size _ (hao.below hw0) (har.below hw0) (by omega)).mono ?_
  rintro e wu1 ⟨he, hb1⟩
  rw [checkG_beq (unhide Ha)] at he
  subst he
  have hk1 : Below (w.heap.size + 1) wu0 wu1 := hb1.mono hn0
  have hw1 : Below w.heap.size w wu1 := hw0.trans (hb1.mono (by omega))
  have hn1 : w.heap.size + 1 ≤ wu1.heap.size := by have := hb1.size; omega
  obtain ⟨x0, x1⟩ := unhide Hcells wu1 hk1
  go_wp2_with fail
  refine region4' (c := ⟨wu1.drew, _, w.heap.size, ao, aoc, ar, arc, a, k⟩) ⟨rfl, rfl, rfl, rfl, x0, x1, (by show w.heap.size < wu1.heap.size; omega), ((hao.below hw1).mono hw1.size).below (Below.refl _ _).drew, ((har.below hw1).mono hw1.size).below (Below.refl _ _).drew, hG, hn1', hk8⟩ rfl ?_
  intro f wu2 b6 hf6 hN6 hl6 hb2 hlaid
  obtain ⟨H, HH⟩ : ∃ H, Hid (H = renG a (rotL a.objs.length (k % a.objs.length) a.objs.length)) := ⟨_, rfl⟩
  have hlaid : ∃ ao' co' ar' cr', wu2.cell? ⟨b6, 0, none⟩ = some (.slice ao' H.objs.length co') ∧ wu2.cell? ⟨b6, 1, none⟩ = some (.slice ar' H.roots.length cr') ∧ Objs wu2.heap.size wu2 ao' H.objs ∧ Vals wu2.heap.size wu2 ar' H.roots := by rw [unhide HH]; exact hlaid
  rw [← unhide HH] at HcH HnH
  obtain ⟨aoh, coh, arh, crh, z0, z1, hOh, hVh⟩ := hlaid
  have hb2 : Below wu1.heap.size wu1 wu2 := (Below.refl wu1.heap.size wu1).drew.trans hb2
  clear x0 x1
  have hN6 : wu1.heap.size ≤ b6 := hN6
  have hk2 : Below (w.heap.size + 1) wu0 wu2 := hk1.trans (hb2.mono hn1)
  have hw2 : Below w.heap.size w wu2 := hw1.trans (hb2.mono (by omega))
  have hn2 : w.heap.size + 1 ≤ wu2.heap.size := by have := hb2.size; omega
  obtain ⟨x0, x1⟩ := unhide Hcells wu2 hk2
  simp only [ds4, List.foldl_cons, List.foldl_nil]
  rw [hf6]
  clear hf6
  generalize f 32 = y32
  generalize f 33 = y33
  generalize f 34 = y34
  generalize f 35 = y35
  generalize f 36 = y36
  generalize f 37 = y37
  go_wp2_with fail
  have Hz := hide (show wu2.cell? ⟨b6, 0, none⟩ = some (.slice aoh H.objs.length coh) ∧ wu2.cell? ⟨b6, 1, none⟩ = some (.slice arh H.roots.length crh) from ⟨z0, z1⟩)
  clear x0 x1 z0 z1
  refine (same_ok ao ar aoh arh aoc arc coh crh a H wu2.heap.size _ ((hao.below hw2).mono hw2.size) ((har.below hw2).mono hw2.size) hOh hVh (Nat.le_refl _) (unhide Ha) (unhide HcH)).mono ?_
  rintro e wu3 ⟨he, hb3⟩
  rw [sameG_of (unhide HnH).symm] at he
  subst he
  have hk3 : Below (w.heap.size + 1) wu0 wu3 := hk2.trans (hb3.mono hn2)
  have hw3 : Below w.heap.size w wu3 := hw2.trans (hb3.mono (by omega))
  have hn3 : w.heap.size + 1 ≤ wu3.heap.size := by have := hb3.size; omega
  have hs3 := hb3.size
  have hO3 := hOh.below2 hb3 (Nat.le_refl _)
  have hV3 := (hVh.below hb3).mono (B' := wu3.heap.size) hb3.size
  have Hz3 : Hid (wu3.cell? ⟨b6, 0, none⟩ = some (.slice aoh H.objs.length coh) ∧ wu3.cell? ⟨b6, 1, none⟩ = some (.slice arh H.roots.length crh)) := ⟨(hb3.cell (p := ⟨b6, 0, none⟩) hl6).trans (unhide Hz).1, (hb3.cell (p := ⟨b6, 1, none⟩) hl6).trans (unhide Hz).2⟩
  obtain ⟨x0, x1⟩ := unhide Hcells wu3 hk3
  go_wp2_with fail
  have hao3 : Objs wu3.heap.size wu3 ao a.objs := (hao.below hw3).mono hw3.size
  have har3 : Vals wu3.heap.size wu3 ar a.roots := (har.below hw3).mono hw3.size
  obtain ⟨bo, oo, _, _, hao', hbol, _, _⟩ := hao3.at hn1'
  subst hao'
  obtain ⟨es, hel, hec, he1⟩ := objs_cells hao3
  have hec' : ∀ (q : Nat) (u : Value), es[q]? = some u → wu3.drew.cell? ⟨bo, oo + q, none⟩ = some u := hec
  refine region6' (c := ⟨wu3.drew, _, w.heap.size, bo, oo, a.objs.length, a.roots.length, aoc, arc, ar, es⟩) ⟨rfl, rfl, x0, x1, (by show w.heap.size < wu3.heap.size; omega), hbol, hel, hec', he1, (by show a.objs.length ≤ 24; omega)⟩ rfl ?_
  intro f wu4 b9 b51 gm cm hf9 hl9 hb4' mm0 mm1 hrow hl51 hc0 hc1
  have hb4 : Below wu3.heap.size wu3 wu4 := (Below.refl wu3.heap.size wu3).drew.trans hb4'
  have hOm : Objs wu4.heap.size wu4 (some ⟨gm, 0, none⟩) (moreG a).objs := objs_more hao3 hel hec hb4 hrow hl51 hc0 hc1 (by omega)
  have hVm : Vals wu4.heap.size wu4 ar (moreG a).roots := (har3.below hb4).mono hb4.size
  have hlm : a.objs.length + 1 = (moreG a).objs.length := by simp [moreG]
  have m0 : wu4.cell? ⟨b9, 0, none⟩ = some (.slice (some ⟨gm, 0, none⟩) (moreG a).objs.length cm) := by rw [← hlm]; exact mm0
  have m1 : wu4.cell? ⟨b9, 1, none⟩ = some (.slice ar (moreG a).roots.length arc) := mm1
  clear mm0 mm1 hb4' hlm hrow hc0 hc1 hec hec' hel he1 x0 x1
  have hk4 : Below (w.heap.size + 1) wu0 wu4 := hk3.trans (hb4.mono hn3)
  have hw4 : Below w.heap.size w wu4 := hw3.trans (hb4.mono (by omega))
  have hn4 : w.heap.size + 1 ≤ wu4.heap.size := by have := hb4.size; omega
  have hs4 := hb4.size
  have hO4 := hO3.below2 hb4 (Nat.le_refl _)
  have hV4 := (hV3.below hb4).mono (B' := wu4.heap.size) hb4.size
  have z0 := (hb4.cell (p := ⟨b6, 0, none⟩) (by simp; omega)).trans (unhide Hz3).1
  have z1 := (hb4.cell (p := ⟨b6, 1, none⟩) (by simp; omega)).trans (unhide Hz3).2
  generalize moreG a = M at *
  simp only [ds6, List.foldl_cons, List.foldl_nil]
  rw [hf9]
  clear hf9
  generalize f 44 = y44
  generalize f 45 = y45
  generalize f 46 = y46
  generalize f 47 = y47
  generalize f 48 = y48
  generalize f 49 = y49
  generalize f 50 = y50
  generalize f 51 = y51
  generalize f 52 = y52
  generalize f 53 = y53
  generalize f 54 = y54
  generalize f 55 = y55
  go_wp2_with fail
  clear z0 z1 m0 m1
  refine (same_ok (some ⟨gm, 0, none⟩) ar aoh arh cm arc coh crh M H wu4.heap.size _ hOm hVm hO4 hV4 (Nat.le_refl _) (unhide HcM) (unhide HcH)).mono ?_
  rintro e wu5 ⟨he, hb5⟩
  rw [sameG_of ((unhide HnM).trans (unhide HnH).symm)] at he
  subst he
  go_wp2
  go_ret
  exact ⟨rfl, hw4.trans (hb5.mono (by omega))⟩

theorem renamed_c (ao ar : Option Addr) (aoc arc : Nat) (a : Gr) (k : Int) (w : World) (hao : Objs w.heap.size w ao a.objs) (har : Vals w.heap.size w ar a.roots) (hk0 : 0 ≤ k) (hk1 : k < 256) :
    Calls Try.prog 7 #[.agg #[.slice ao a.objs.length aoc, .slice ar a.roots.length arc], .int .u8 k] w fun e w' => e = .returned (.bool true) ∧ Below w.heap.size w w' := by
  by_cases na : checkG a = 0
  · by_cases hn : a.objs.length = 0 ∨ a.objs.length = 24
    · exact renamed_edge ao ar aoc arc a k w hao har na hn
    · have h24 := (good_of_check na).n24
      obtain ⟨k, rfl⟩ := Int.eq_ofNat_of_zero_le hk0
      exact renamed_ok ao ar aoc arc a k w hao har (by omega) na (by omega) (by omega)
  · exact renamed_bad ao ar aoc arc a k w hao har na

end Go.Proofs.Ytmelhphhealomaa
