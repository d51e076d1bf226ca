/- Walks: GraphTells. -/
import Derived.Test.YtadjlimdbbaoaaaProg
import Derived.Test.YtadjlimdbbaoaaaMem
import Derived.Test.YtadjlimdbbaoaaaSj
namespace Go.Proofs.Ytadjlimdbbaoaaa
set_option linter.unusedSimpArgs false
set_option linter.unusedVariables false
open Go.RowKit

set_option maxRecDepth 100000 in
set_option maxHeartbeats 2000000 in
theorem tells_bad (ao ar : Option Addr) (aoc arc : Nat) (a : Gr) (w : World) (hao : Objs w.heap.size w ao a.objs) (har : Vals w.heap.size w ar a.roots) (na : checkG a ≠ 0) :
    Calls Try.prog 3 #[.agg #[.slice ao a.objs.length aoc, .slice ar a.roots.length arc]] w fun e w' => e = .returned (.bool true) ∧ Below w.heap.size w w' := by
  have Ha := hide na
  have da : (checkG a != 0) = true := by simpa using na
  have dd : (checkG a != checkG a) = false := by simp
  clear na
  go_enter Try.func3, Try.ntmps3
  go_wp2_with fail
  obtain ⟨wu0, hu0⟩ : ∃ wu0, w.alloc (.cells #[.slice ao a.objs.length aoc, .slice ar a.roots.length arc] 25) = wu0 := ⟨_, rfl⟩
  rw [hu0]
  obtain ⟨hsz0, hw0, hcells⟩ := least_box _ _ 25 w wu0 hu0
  have Hcells := hide hcells
  clear hu0 hcells
  have hn0 : w.heap.size + 1 ≤ wu0.heap.size := by omega
  refine (check_c _ _ _ _ a w.heap.size _ (hao.below hw0) (har.below hw0) (by omega)).mono ?_
  rintro e wu1 ⟨rfl, hb1⟩
  have hk1 : Below (w.heap.size + 1) wu0 wu1 := hb1.mono hn0
  have hw1 : Below w.heap.size w wu1 := hw0.trans (hb1.mono (by omega))
  have hn1 : w.heap.size + 1 ≤ wu1.heap.size := by have := hb1.size; omega
  obtain ⟨x0, x1⟩ := unhide Hcells wu1 hk1
  go_wp2_with fail
  clear x0 x1
  refine (reach_bad _ _ _ _ a w.heap.size _ (hao.below hw1) (har.below hw1) (by omega) (unhide Ha)).mono ?_
  rintro e wu2 ⟨rfl, hb2⟩
  have hk2 : Below (w.heap.size + 1) wu0 wu2 := hk1.trans (hb2.mono hn1)
  have hw2 : Below w.heap.size w wu2 := hw1.trans (hb2.mono (by omega))
  have hn2 : w.heap.size + 1 ≤ wu2.heap.size := by have := hb2.size; omega
  obtain ⟨x0, x1⟩ := unhide Hcells wu2 hk2
  go_wp2_with fail
  clear x0 x1
  refine (dist_bad _ _ _ _ a w.heap.size _ (hao.below hw2) (har.below hw2) (by omega) (unhide Ha)).mono ?_
  rintro e wu3 ⟨rfl, hb3⟩
  have hk3 : Below (w.heap.size + 1) wu0 wu3 := hk2.trans (hb3.mono hn2)
  have hw3 : Below w.heap.size w wu3 := hw2.trans (hb3.mono (by omega))
  have hn3 : w.heap.size + 1 ≤ wu3.heap.size := by have := hb3.size; omega
  obtain ⟨x0, x1⟩ := unhide Hcells wu3 hk3
  go_wp2_with fail
  clear x0 x1
  refine (graphCheck_c _ _ _ _ a w.heap.size _ (hao.below hw3) (har.below hw3) (by omega)).mono ?_
  rintro e wu4 ⟨rfl, hb4⟩
  go_wp2
  go_ret
  exact ⟨rfl, hw3.trans (hb4.mono (by omega))⟩

set_option maxRecDepth 100000 in
set_option maxHeartbeats 2000000 in
theorem tells_ok (ao ar : Option Addr) (aoc arc : Nat) (a : Gr) (w : World) (hao : Objs w.heap.size w ao a.objs) (har : Vals w.heap.size w ar a.roots) (na : checkG a = 0) :
    Calls Try.prog 3 #[.agg #[.slice ao a.objs.length aoc, .slice ar a.roots.length arc]] w fun e w' => e = .returned (.bool true) ∧ Below w.heap.size w w' := by
  have Ha := hide na
  have hG := good_of_check na
  clear na
  go_enter Try.func3, Try.ntmps3
  go_wp2_with fail
  obtain ⟨wu0, hu0⟩ : ∃ wu0, w.alloc (.cells #[.slice ao a.objs.length aoc, .slice ar a.roots.length arc] 25) = wu0 := ⟨_, rfl⟩
  rw [hu0]
  obtain ⟨hsz0, hw0, hcells⟩ := least_box _ _ 25 w wu0 hu0
  have Hcells := hide hcells
  clear hu0 hcells
  have hn0 : w.heap.size + 1 ≤ wu0.heap.size := by omega
  refine (check_c _ _ _ _ a w.heap.size _ (hao.below hw0) (har.below hw0) (by omega)).mono ?_
  rintro e wu1 ⟨he, hb1⟩
  rw [unhide Ha] at he
  subst he
  have hk1 : Below (w.heap.size + 1) wu0 wu1 := hb1.mono hn0
  have hw1 : Below w.heap.size w wu1 := hw0.trans (hb1.mono (by omega))
  have hn1 : w.heap.size + 1 ≤ wu1.heap.size := by have := hb1.size; omega
  obtain ⟨x0, x1⟩ := unhide Hcells wu1 hk1
  go_wp2_with fail
  clear x0 x1
  refine (reach_ok _ _ _ _ a w.heap.size _ (hao.below hw1) (har.below hw1) (by omega) (unhide Ha)).mono ?_
  rintro e wu2 ⟨al, cl, rfl, hI2, hb2⟩
  have HL := hide (reach_same hG)
  generalize sortL (orderOf a) = l at *
  have hk2 : Below (w.heap.size + 1) wu0 wu2 := hk1.trans (hb2.mono hn1)
  have hw2 : Below w.heap.size w wu2 := hw1.trans (hb2.mono (by omega))
  have hn2 : w.heap.size + 1 ≤ wu2.heap.size := by have := hb2.size; omega
  obtain ⟨x0, x1⟩ := unhide Hcells wu2 hk2
  go_wp2_with fail
  clear x0 x1
  refine (dist_ok _ _ _ _ a w.heap.size _ (hao.below hw2) (har.below hw2) (by omega) (unhide Ha)).mono ?_
  rintro e wu3 ⟨ad, cd, he3, hI3, hb3⟩
  rw [← distL_len a] at he3
  subst he3
  have hI23 := (hI2.below hb3).mono (B' := wu3.heap.size) hb3.size
  have hk3 : Below (w.heap.size + 1) wu0 wu3 := hk2.trans (hb3.mono hn2)
  have hw3 : Below w.heap.size w wu3 := hw2.trans (hb3.mono (by omega))
  have hn3 : w.heap.size + 1 ≤ wu3.heap.size := by have := hb3.size; omega
  obtain ⟨x0, x1⟩ := unhide Hcells wu3 hk3
  go_wp2_with fail
  clear x0 x1
  refine (graphCheck_c _ _ _ _ a w.heap.size _ (hao.below hw3) (har.below hw3) (by omega)).mono ?_
  rintro e wu4 ⟨he, hb4⟩
  rw [unhide Ha] at he
  subst he
  have hI24 := (hI23.below hb4).mono (B' := wu4.heap.size) hb4.size
  have hI34 := (hI3.below hb4).mono (B' := wu4.heap.size) hb4.size
  have hk4 : Below (w.heap.size + 1) wu0 wu4 := hk3.trans (hb4.mono hn3)
  have hw4 : Below w.heap.size w wu4 := hw3.trans (hb4.mono (by omega))
  have hn4 : w.heap.size + 1 ≤ wu4.heap.size := by have := hb4.size; omega
  obtain ⟨x0, x1⟩ := unhide Hcells wu4 hk4
  go_wp2_with fail
  clear x0 x1
  refine (refReach_c ao ar aoc arc a w.heap.size _ (hao.below hw4) (har.below hw4) (by omega) hG).mono ?_
  rintro e wu5 ⟨a5, c5, he5, hI5, hb5⟩
  rw [← unhide HL] at he5 hI5
  subst he5
  have hI25 := (hI24.below hb5).mono (B' := wu5.heap.size) hb5.size
  have hI35 := (hI34.below hb5).mono (B' := wu5.heap.size) hb5.size
  have hk5 : Below (w.heap.size + 1) wu0 wu5 := hk4.trans (hb5.mono hn4)
  have hw5 : Below w.heap.size w wu5 := hw4.trans (hb5.mono (by omega))
  have hn5 : w.heap.size + 1 ≤ wu5.heap.size := by have := hb5.size; omega
  go_wp2_with fail
  refine (ints_eq_c al a5 cl c5 l l wu5.heap.size _ hI25 hI5 (Nat.le_refl _)).mono ?_
  rintro e wu6 ⟨he, hb6⟩
  rw [decide_eq_true rfl] at he
  subst he
  have hI36 := (hI35.below hb6).mono (B' := wu6.heap.size) hb6.size
  have hk6 : Below (w.heap.size + 1) wu0 wu6 := hk5.trans (hb6.mono hn5)
  have hw6 : Below w.heap.size w wu6 := hw5.trans (hb6.mono (by omega))
  have hn6 : w.heap.size + 1 ≤ wu6.heap.size := by have := hb6.size; omega
  obtain ⟨x0, x1⟩ := unhide Hcells wu6 hk6
  go_wp2_with fail
  clear x0 x1
  refine (refDist_c ao ar aoc arc a w.heap.size _ (hao.below hw6) (har.below hw6) (by omega) hG).mono ?_
  rintro e wu7 ⟨a7, c7, rfl, hI7, hb7⟩
  have hI37 := (hI36.below hb7).mono (B' := wu7.heap.size) hb7.size
  have hw7 : Below w.heap.size w wu7 := hw6.trans (hb7.mono (by omega))
  have hn7 : w.heap.size + 1 ≤ wu7.heap.size := by have := hb7.size; omega
  generalize distL a = D at *
  go_wp2_with (go_at_call 10; go_must (refine (ints_eq_c ad a7 cd c7 D D wu7.heap.size _ hI37 hI7 (Nat.le_refl _)).mono ?_); go_must (rintro e wu8 ⟨he, hb8⟩; rw [decide_eq_true rfl] at he; subst he))
  go_ret
  exact ⟨rfl, hw7.trans (hb8.mono (by omega))⟩

theorem tells_c (ao ar : Option Addr) (aoc arc : Nat) (a : Gr) (w : World) (hao : Objs w.heap.size w ao a.objs) (har : Vals w.heap.size w ar a.roots) :
    Calls Try.prog 3 #[.agg #[.slice ao a.objs.length aoc, .slice ar a.roots.length arc]] w fun e w' => e = .returned (.bool true) ∧ Below w.heap.size w w' := by
  by_cases na : checkG a = 0
  · exact tells_ok ao ar aoc arc a w hao har na
  · exact tells_bad ao ar aoc arc a w hao har na

end Go.Proofs.Ytadjlimdbbaoaaa
