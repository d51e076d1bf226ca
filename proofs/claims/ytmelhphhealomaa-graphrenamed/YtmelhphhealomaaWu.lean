/- Walks: GraphLike. -/
import Derived.Test.YtmelhphhealomaaProg
import Derived.Test.YtmelhphhealomaaMem
import Derived.Test.YtmelhphhealomaaWs
namespace Go.Proofs.Ytmelhphhealomaa
set_option linter.unusedSimpArgs false
set_option linter.unusedVariables false
open Go.RowKit

/-- The value of a graph, as it lies in a variable. -/
def gv (ao : Option Addr) (co : Nat) (ar : Option Addr) (cr : Nat) (g : Gr) : Array Value := #[.slice ao g.objs.length co, .slice ar g.roots.length cr]

theorem checkG_beq {g : Gr} (h : checkG g = 0) : (checkG g == 0) = true := by simpa using h
theorem checkG_bne {g : Gr} (h : checkG g = 0) : (checkG g != 0) = false := by simpa using h
theorem checkG_beq' {g : Gr} (h : checkG g ≠ 0) : (checkG g == 0) = false := by simpa using h
theorem checkG_bne' {g : Gr} (h : checkG g ≠ 0) : (checkG g != 0) = true := by simpa using h

theorem like_boxes (ao ar bo br eo er : Option Addr) (aoc arc boc brc eoc erc : Nat) (a b c : Gr) (w : World) (hao : Objs w.heap.size w ao a.objs) (har : Vals w.heap.size w ar a.roots) (hbo : Objs w.heap.size w bo b.objs) (hbr : Vals w.heap.size w br b.roots) (hco : Objs w.heap.size w eo c.objs) (hcr : Vals w.heap.size w er c.roots) :
    ∀ W0, ((w.alloc (.cells #[.slice ao a.objs.length aoc, .slice ar a.roots.length arc] 25)).alloc (.cells #[.slice bo b.objs.length boc, .slice br b.roots.length brc] 25)).alloc (.cells #[.slice eo c.objs.length eoc, .slice er c.roots.length erc] 25) = W0 → W0.heap.size = w.heap.size + 3 ∧ Below w.heap.size w W0 ∧ (∀ X, Below (w.heap.size + 3) W0 X → X.cell? ⟨w.heap.size, 0, none⟩ = some (.slice ao a.objs.length aoc) ∧ X.cell? ⟨w.heap.size, 1, none⟩ = some (.slice ar a.roots.length arc) ∧ X.cell? ⟨w.heap.size + 1, 0, none⟩ = some (.slice bo b.objs.length boc) ∧ X.cell? ⟨w.heap.size + 1, 1, none⟩ = some (.slice br b.roots.length brc) ∧ X.cell? ⟨w.heap.size + 1 + 1, 0, none⟩ = some (.slice eo c.objs.length eoc) ∧ X.cell? ⟨w.heap.size + 1 + 1, 1, none⟩ = some (.slice er c.roots.length erc)) := by
  intro W0 h
  refine ⟨by rw [← h]; simp, by rw [← h]; exact (((Below.refl _ _).alloc (Nat.le_refl _) _).alloc (by simp) _).alloc (by simp; omega) _, fun X hX => ?_⟩
  refine ⟨?_, ?_, ?_, ?_, ?_, ?_⟩
  · rw [hX.cell (p := ⟨w.heap.size, 0, none⟩) (by simp), ← h]; simp [go_sem]
  · rw [hX.cell (p := ⟨w.heap.size, 1, none⟩) (by simp), ← h]; simp [go_sem]
  · rw [hX.cell (p := ⟨w.heap.size + 1, 0, none⟩) (by simp), ← h]; simp [go_sem]
  · rw [hX.cell (p := ⟨w.heap.size + 1, 1, none⟩) (by simp), ← h]; simp [go_sem]
  · rw [hX.cell (p := ⟨w.heap.size + 1 + 1, 0, none⟩) (by simp), ← h]; simp [go_sem]
  · rw [hX.cell (p := ⟨w.heap.size + 1 + 1, 1, none⟩) (by simp), ← h]; simp [go_sem]

set_option maxRecDepth 100000 in
set_option maxHeartbeats 2000000 in
theorem like_a (ao ar bo br eo er : Option Addr) (aoc arc boc brc eoc erc : Nat) (a b c : Gr) (w : World) (hao : Objs w.heap.size w ao a.objs) (har : Vals w.heap.size w ar a.roots) (hbo : Objs w.heap.size w bo b.objs) (hbr : Vals w.heap.size w br b.roots) (hco : Objs w.heap.size w eo c.objs) (hcr : Vals w.heap.size w er c.roots) (na : checkG a ≠ 0) :
    Calls Try.prog 3 #[.agg #[.slice ao a.objs.length aoc, .slice ar a.roots.length arc], .agg #[.slice bo b.objs.length boc, .slice br b.roots.length brc], .agg #[.slice eo c.objs.length eoc, .slice er c.roots.length erc]] w fun e w' => e = .returned (.bool true) ∧ Below w.heap.size w w' := by
  have Ha := hide na
  clear na
  go_enter Try.func3, Try.ntmps3
  go_wp2_with fail
  obtain ⟨u0, hu0⟩ : ∃ u0, ((w.alloc (.cells #[.slice ao a.objs.length aoc, .slice ar a.roots.length arc] 25)).alloc (.cells #[.slice bo b.objs.length boc, .slice br b.roots.length brc] 25)).alloc (.cells #[.slice eo c.objs.length eoc, .slice er c.roots.length erc] 25) = u0 := ⟨_, rfl⟩
  rw [hu0]
  obtain ⟨hsz0, hw0, hcells⟩ := like_boxes ao ar bo br eo er aoc arc boc brc eoc erc a b c w hao har hbo hbr hco hcr u0 hu0
  have Hcells := hide hcells
  clear hu0 hcells
  have hk0 : Below (w.heap.size + 3) u0 u0 := Below.refl _ _
  have hn0 : w.heap.size + 3 ≤ u0.heap.size := by omega
  refine (good_c _ _ _ _ a w.heap.size _ (hao.below hw0) (har.below hw0) (by omega)).mono ?_
  rintro e u1 ⟨he, hb1⟩
  rw [checkG_beq' (unhide Ha)] at he
  subst he
  have hk1 : Below (w.heap.size + 3) u0 u1 := hk0.trans (hb1.mono hn0)
  have hw1 : Below w.heap.size w u1 := hw0.trans (hb1.mono (by omega))
  have hn1 : w.heap.size + 3 ≤ u1.heap.size := by have := hk1.size; omega
  obtain ⟨x0, x1, y0, y1, z0, z1⟩ := unhide Hcells u1 hk1
  go_wp2_with fail
  clear x0 x1 y0 y1 z0 z1
  refine (refused_c _ _ _ _ a w.heap.size _ (hao.below hw1) (har.below hw1) (by omega)).mono ?_
  rintro e u2 ⟨he, hb2⟩
  rw [checkG_bne' (unhide Ha)] at he
  subst he
  have hk2 : Below (w.heap.size + 3) u0 u2 := hk1.trans (hb2.mono hn1)
  have hw2 : Below w.heap.size w u2 := hw1.trans (hb2.mono (by omega))
  have hn2 : w.heap.size + 3 ≤ u2.heap.size := by have := hk2.size; omega
  obtain ⟨x0, x1, y0, y1, z0, z1⟩ := unhide Hcells u2 hk2
  go_wp2
  go_ret
  exact ⟨rfl, hw2⟩

set_option maxRecDepth 100000 in
set_option maxHeartbeats 2000000 in
theorem like_b (ao ar bo br eo er : Option Addr) (aoc arc boc brc eoc erc : Nat) (a b c : Gr) (w : World) (hao : Objs w.heap.size w ao a.objs) (har : Vals w.heap.size w ar a.roots) (hbo : Objs w.heap.size w bo b.objs) (hbr : Vals w.heap.size w br b.roots) (hco : Objs w.heap.size w eo c.objs) (hcr : Vals w.heap.size w er c.roots) (na : checkG a = 0) (nb : checkG b ≠ 0) :
    Calls Try.prog 3 #[.agg #[.slice ao a.objs.length aoc, .slice ar a.roots.length arc], .agg #[.slice bo b.objs.length boc, .slice br b.roots.length brc], .agg #[.slice eo c.objs.length eoc, .slice er c.roots.length erc]] w fun e w' => e = .returned (.bool true) ∧ Below w.heap.size w w' := by
  have Ha := hide na
  have Hb := hide nb
  clear na nb
  go_enter Try.func3, Try.ntmps3
  go_wp2_with fail
  obtain ⟨u0, hu0⟩ : ∃ u0, ((w.alloc (.cells #[.slice ao a.objs.length aoc, .slice ar a.roots.length arc] 25)).alloc (.cells #[.slice bo b.objs.length boc, .slice br b.roots.length brc] 25)).alloc (.cells #[.slice eo c.objs.length eoc, .slice er c.roots.length erc] 25) = u0 := ⟨_, rfl⟩
  rw [hu0]
  obtain ⟨hsz0, hw0, hcells⟩ := like_boxes ao ar bo br eo er aoc arc boc brc eoc erc a b c w hao har hbo hbr hco hcr u0 hu0
  have Hcells := hide hcells
  clear hu0 hcells
  have hk0 : Below (w.heap.size + 3) u0 u0 := Below.refl _ _
  have hn0 : w.heap.size + 3 ≤ u0.heap.size := by omega
  refine (good_c _ _ _ _ a w.heap.size _ (hao.below hw0) (har.below hw0) (by omega)).mono ?_
  rintro e u1 ⟨he, hb1⟩
  rw [checkG_beq (unhide Ha)] at he
  subst he
  have hk1 : Below (w.heap.size + 3) u0 u1 := hk0.trans (hb1.mono hn0)
  have hw1 : Below w.heap.size w u1 := hw0.trans (hb1.mono (by omega))
  have hn1 : w.heap.size + 3 ≤ u1.heap.size := by have := hk1.size; omega
  obtain ⟨x0, x1, y0, y1, z0, z1⟩ := unhide Hcells u1 hk1
  go_wp2_with fail
  clear x0 x1 y0 y1 z0 z1
  refine (good_c _ _ _ _ b w.heap.size _ (hbo.below hw1) (hbr.below hw1) (by omega)).mono ?_
  rintro e u2 ⟨he, hb2⟩
  rw [checkG_beq' (unhide Hb)] at he
  subst he
  have hk2 : Below (w.heap.size + 3) u0 u2 := hk1.trans (hb2.mono hn1)
  have hw2 : Below w.heap.size w u2 := hw1.trans (hb2.mono (by omega))
  have hn2 : w.heap.size + 3 ≤ u2.heap.size := by have := hk2.size; omega
  obtain ⟨x0, x1, y0, y1, z0, z1⟩ := unhide Hcells u2 hk2
  go_wp2_with fail
  clear x0 x1 y0 y1 z0 z1
  refine (refused_c _ _ _ _ a w.heap.size _ (hao.below hw2) (har.below hw2) (by omega)).mono ?_
  rintro e u3 ⟨he, hb3⟩
  rw [checkG_bne (unhide Ha)] at he
  subst he
  have hk3 : Below (w.heap.size + 3) u0 u3 := hk2.trans (hb3.mono hn2)
  have hw3 : Below w.heap.size w u3 := hw2.trans (hb3.mono (by omega))
  have hn3 : w.heap.size + 3 ≤ u3.heap.size := by have := hk3.size; omega
  obtain ⟨x0, x1, y0, y1, z0, z1⟩ := unhide Hcells u3 hk3
  go_wp2_with fail
  clear x0 x1 y0 y1 z0 z1
  refine (refused_c _ _ _ _ b w.heap.size _ (hbo.below hw3) (hbr.below hw3) (by omega)).mono ?_
  rintro e u4 ⟨he, hb4⟩
  rw [checkG_bne' (unhide Hb)] at he
  subst he
  have hk4 : Below (w.heap.size + 3) u0 u4 := hk3.trans (hb4.mono hn3)
  have hw4 : Below w.heap.size w u4 := hw3.trans (hb4.mono (by omega))
  have hn4 : w.heap.size + 3 ≤ u4.heap.size := by have := hk4.size; omega
  obtain ⟨x0, x1, y0, y1, z0, z1⟩ := unhide Hcells u4 hk4
  go_wp2
  go_ret
  exact ⟨rfl, hw4⟩

set_option maxRecDepth 100000 in
set_option maxHeartbeats 2000000 in
theorem like_c (ao ar bo br eo er : Option Addr) (aoc arc boc brc eoc erc : Nat) (a b c : Gr) (w : World) (hao : Objs w.heap.size w ao a.objs) (har : Vals w.heap.size w ar a.roots) (hbo : Objs w.heap.size w bo b.objs) (hbr : Vals w.heap.size w br b.roots) (hco : Objs w.heap.size w eo c.objs) (hcr : Vals w.heap.size w er c.roots) (na : checkG a = 0) (nb : checkG b = 0) (nc : checkG c ≠ 0) :
    Calls Try.prog 3 #[.agg #[.slice ao a.objs.length aoc, .slice ar a.roots.length arc], .agg #[.slice bo b.objs.length boc, .slice br b.roots.length brc], .agg #[.slice eo c.objs.length eoc, .slice er c.roots.length erc]] w fun e w' => e = .returned (.bool true) ∧ Below w.heap.size w w' := by
  have Ha := hide na
  have Hb := hide nb
  have Hc := hide nc
  clear na nb nc
  go_enter Try.func3, Try.ntmps3
  go_wp2_with fail
  obtain ⟨u0, hu0⟩ : ∃ u0, ((w.alloc (.cells #[.slice ao a.objs.length aoc, .slice ar a.roots.length arc] 25)).alloc (.cells #[.slice bo b.objs.length boc, .slice br b.roots.length brc] 25)).alloc (.cells #[.slice eo c.objs.length eoc, .slice er c.roots.length erc] 25) = u0 := ⟨_, rfl⟩
  rw [hu0]
  obtain ⟨hsz0, hw0, hcells⟩ := like_boxes ao ar bo br eo er aoc arc boc brc eoc erc a b c w hao har hbo hbr hco hcr u0 hu0
  have Hcells := hide hcells
  clear hu0 hcells
  have hk0 : Below (w.heap.size + 3) u0 u0 := Below.refl _ _
  have hn0 : w.heap.size + 3 ≤ u0.heap.size := by omega
  refine (good_c _ _ _ _ a w.heap.size _ (hao.below hw0) (har.below hw0) (by omega)).mono ?_
  rintro e u1 ⟨he, hb1⟩
  rw [checkG_beq (unhide Ha)] at he
  subst he
  have hk1 : Below (w.heap.size + 3) u0 u1 := hk0.trans (hb1.mono hn0)
  have hw1 : Below w.heap.size w u1 := hw0.trans (hb1.mono (by omega))
  have hn1 : w.heap.size + 3 ≤ u1.heap.size := by have := hk1.size; omega
  obtain ⟨x0, x1, y0, y1, z0, z1⟩ := unhide Hcells u1 hk1
  go_wp2_with fail
  clear x0 x1 y0 y1 z0 z1
  refine (good_c _ _ _ _ b w.heap.size _ (hbo.below hw1) (hbr.below hw1) (by omega)).mono ?_
  rintro e u2 ⟨he, hb2⟩
  rw [checkG_beq (unhide Hb)] at he
  subst he
  have hk2 : Below (w.heap.size + 3) u0 u2 := hk1.trans (hb2.mono hn1)
  have hw2 : Below w.heap.size w u2 := hw1.trans (hb2.mono (by omega))
  have hn2 : w.heap.size + 3 ≤ u2.heap.size := by have := hk2.size; omega
  obtain ⟨x0, x1, y0, y1, z0, z1⟩ := unhide Hcells u2 hk2
  go_wp2_with fail
  clear x0 x1 y0 y1 z0 z1
  refine (good_c _ _ _ _ c w.heap.size _ (hco.below hw2) (hcr.below hw2) (by omega)).mono ?_
  rintro e u3 ⟨he, hb3⟩
  rw [checkG_beq' (unhide Hc)] at he
  subst he
  have hk3 : Below (w.heap.size + 3) u0 u3 := hk2.trans (hb3.mono hn2)
  have hw3 : Below w.heap.size w u3 := hw2.trans (hb3.mono (by omega))
  have hn3 : w.heap.size + 3 ≤ u3.heap.size := by have := hk3.size; omega
  obtain ⟨x0, x1, y0, y1, z0, z1⟩ := unhide Hcells u3 hk3
  go_wp2_with fail
  clear x0 x1 y0 y1 z0 z1
  refine (refused_c _ _ _ _ a w.heap.size _ (hao.below hw3) (har.below hw3) (by omega)).mono ?_
  rintro e u4 ⟨he, hb4⟩
  rw [checkG_bne (unhide Ha)] at he
  subst he
  have hk4 : Below (w.heap.size + 3) u0 u4 := hk3.trans (hb4.mono hn3)
  have hw4 : Below w.heap.size w u4 := hw3.trans (hb4.mono (by omega))
  have hn4 : w.heap.size + 3 ≤ u4.heap.size := by have := hk4.size; omega
  obtain ⟨x0, x1, y0, y1, z0, z1⟩ := unhide Hcells u4 hk4
  go_wp2_with fail
  clear x0 x1 y0 y1 z0 z1
  refine (refused_c _ _ _ _ b w.heap.size _ (hbo.below hw4) (hbr.below hw4) (by omega)).mono ?_
  rintro e u5 ⟨he, hb5⟩
  rw [checkG_bne (unhide Hb)] at he
  subst he
  have hk5 : Below (w.heap.size + 3) u0 u5 := hk4.trans (hb5.mono hn4)
  have hw5 : Below w.heap.size w u5 := hw4.trans (hb5.mono (by omega))
  have hn5 : w.heap.size + 3 ≤ u5.heap.size := by have := hk5.size; omega
  obtain ⟨x0, x1, y0, y1, z0, z1⟩ := unhide Hcells u5 hk5
  go_wp2_with fail
  clear x0 x1 y0 y1 z0 z1
  refine (refused_c _ _ _ _ c w.heap.size _ (hco.below hw5) (hcr.below hw5) (by omega)).mono ?_
  rintro e u6 ⟨he, hb6⟩
  rw [checkG_bne' (unhide Hc)] at he
  subst he
  have hk6 : Below (w.heap.size + 3) u0 u6 := hk5.trans (hb6.mono hn5)
  have hw6 : Below w.heap.size w u6 := hw5.trans (hb6.mono (by omega))
  have hn6 : w.heap.size + 3 ≤ u6.heap.size := by have := hk6.size; omega
  obtain ⟨x0, x1, y0, y1, z0, z1⟩ := unhide Hcells u6 hk6
  go_wp2
  go_ret
  exact ⟨rfl, hw6⟩

theorem sameG_iff (g h : Gr) : sameG g h = true ↔ g = h := by
  cases g; cases h
  simp [sameG, and_comm]
theorem sameG_self (g : Gr) : sameG g g = true := (sameG_iff g g).2 rfl
theorem sameG_comm (g h : Gr) : sameG g h = sameG h g := by
  rw [Bool.eq_iff_iff, sameG_iff, sameG_iff]; exact eq_comm

set_option maxRecDepth 100000 in
set_option maxHeartbeats 2000000 in
theorem like_ok (ao ar bo br eo er : Option Addr) (aoc arc boc brc eoc erc : Nat) (a b c : Gr) (w : World) (hao : Objs w.heap.size w ao a.objs) (har : Vals w.heap.size w ar a.roots) (hbo : Objs w.heap.size w bo b.objs) (hbr : Vals w.heap.size w br b.roots) (hco : Objs w.heap.size w eo c.objs) (hcr : Vals w.heap.size w er c.roots) (na : checkG a = 0) (nb : checkG b = 0) (nc : checkG c = 0) :
    Calls Try.prog 3 #[.agg #[.slice ao a.objs.length aoc, .slice ar a.roots.length arc], .agg #[.slice bo b.objs.length boc, .slice br b.roots.length brc], .agg #[.slice eo c.objs.length eoc, .slice er c.roots.length erc]] w fun e w' => e = .returned (.bool true) ∧ Below w.heap.size w w' := by
  have Ha := hide na
  have Hb := hide nb
  have Hc := hide nc
  clear na nb nc
  have haa := sameG_self (canonG a)
  have hba := sameG_comm (canonG b) (canonG a)
  have htr : sameG (canonG a) (canonG b) = true → sameG (canonG b) (canonG c) = true → sameG (canonG a) (canonG c) = true := by
    rw [sameG_iff, sameG_iff, sameG_iff]; exact Eq.trans
  generalize hAA : sameG (canonG a) (canonG a) = aa at *
  generalize hAB : sameG (canonG a) (canonG b) = ab at *
  generalize hBA : sameG (canonG b) (canonG a) = ba at *
  generalize hBC : sameG (canonG b) (canonG c) = bc at *
  generalize hAC : sameG (canonG a) (canonG c) = ac at *
  have HAA := hide hAA
  have HAB := hide hAB
  have HBA := hide hBA
  have HBC := hide hBC
  have HAC := hide hAC
  have Htr := hide htr
  clear hAA hAB hBA hBC hAC htr
  subst haa hba
  go_enter Try.func3, Try.ntmps3
  go_wp2_with fail
  obtain ⟨u0, hu0⟩ : ∃ u0, ((w.alloc (.cells #[.slice ao a.objs.length aoc, .slice ar a.roots.length arc] 25)).alloc (.cells #[.slice bo b.objs.length boc, .slice br b.roots.length brc] 25)).alloc (.cells #[.slice eo c.objs.length eoc, .slice er c.roots.length erc] 25) = u0 := ⟨_, rfl⟩
  rw [hu0]
  obtain ⟨hsz0, hw0, hcells⟩ := like_boxes ao ar bo br eo er aoc arc boc brc eoc erc a b c w hao har hbo hbr hco hcr u0 hu0
  have Hcells := hide hcells
  clear hu0 hcells
  have hk0 : Below (w.heap.size + 3) u0 u0 := Below.refl _ _
  have hn0 : w.heap.size + 3 ≤ u0.heap.size := by omega
  refine (good_c _ _ _ _ a w.heap.size _ (hao.below hw0) (har.below hw0) (by omega)).mono ?_
  rintro e u1 ⟨he, hb1⟩
  rw [checkG_beq (unhide Ha)] at he
  subst he
  have hk1 : Below (w.heap.size + 3) u0 u1 := hk0.trans (hb1.mono hn0)
  have hw1 : Below w.heap.size w u1 := hw0.trans (hb1.mono (by omega))
  have hn1 : w.heap.size + 3 ≤ u1.heap.size := by have := hk1.size; omega
  obtain ⟨x0, x1, y0, y1, z0, z1⟩ := unhide Hcells u1 hk1
  go_wp2_with fail
  clear x0 x1 y0 y1 z0 z1
  refine (good_c _ _ _ _ b w.heap.size _ (hbo.below hw1) (hbr.below hw1) (by omega)).mono ?_
  rintro e u2 ⟨he, hb2⟩
  rw [checkG_beq (unhide Hb)] at he
  subst he
  have hk2 : Below (w.heap.size + 3) u0 u2 := hk1.trans (hb2.mono hn1)
  have hw2 : Below w.heap.size w u2 := hw1.trans (hb2.mono (by omega))
  have hn2 : w.heap.size + 3 ≤ u2.heap.size := by have := hk2.size; omega
  obtain ⟨x0, x1, y0, y1, z0, z1⟩ := unhide Hcells u2 hk2
  go_wp2_with fail
  clear x0 x1 y0 y1 z0 z1
  refine (good_c _ _ _ _ c w.heap.size _ (hco.below hw2) (hcr.below hw2) (by omega)).mono ?_
  rintro e u3 ⟨he, hb3⟩
  rw [checkG_beq (unhide Hc)] at he
  subst he
  have hk3 : Below (w.heap.size + 3) u0 u3 := hk2.trans (hb3.mono hn2)
  have hw3 : Below w.heap.size w u3 := hw2.trans (hb3.mono (by omega))
  have hn3 : w.heap.size + 3 ≤ u3.heap.size := by have := hk3.size; omega
  obtain ⟨x0, x1, y0, y1, z0, z1⟩ := unhide Hcells u3 hk3
  go_wp2_with fail
  clear x0 x1 y0 y1 z0 z1
  refine (same_ok _ _ _ _ _ _ _ _ a a w.heap.size _ (hao.below hw3) (har.below hw3) (hao.below hw3) (har.below hw3) (by omega) (unhide Ha) (unhide Ha)).mono ?_
  rintro e u4 ⟨he, hb4⟩
  rw [unhide HAA] at he
  subst he
  have hk4 : Below (w.heap.size + 3) u0 u4 := hk3.trans (hb4.mono hn3)
  have hw4 : Below w.heap.size w u4 := hw3.trans (hb4.mono (by omega))
  have hn4 : w.heap.size + 3 ≤ u4.heap.size := by have := hk4.size; omega
  obtain ⟨x0, x1, y0, y1, z0, z1⟩ := unhide Hcells u4 hk4
  go_wp2_with fail
  clear x0 x1 y0 y1 z0 z1
  refine (same_ok _ _ _ _ _ _ _ _ a b w.heap.size _ (hao.below hw4) (har.below hw4) (hbo.below hw4) (hbr.below hw4) (by omega) (unhide Ha) (unhide Hb)).mono ?_
  rintro e u5 ⟨he, hb5⟩
  rw [unhide HAB] at he
  subst he
  have hk5 : Below (w.heap.size + 3) u0 u5 := hk4.trans (hb5.mono hn4)
  have hw5 : Below w.heap.size w u5 := hw4.trans (hb5.mono (by omega))
  have hn5 : w.heap.size + 3 ≤ u5.heap.size := by have := hk5.size; omega
  obtain ⟨x0, x1, y0, y1, z0, z1⟩ := unhide Hcells u5 hk5
  go_wp2_with fail
  clear x0 x1 y0 y1 z0 z1
  refine (same_ok _ _ _ _ _ _ _ _ b a w.heap.size _ (hbo.below hw5) (hbr.below hw5) (hao.below hw5) (har.below hw5) (by omega) (unhide Hb) (unhide Ha)).mono ?_
  rintro e u6 ⟨he, hb6⟩
  rw [unhide HBA] at he
  subst he
  have hk6 : Below (w.heap.size + 3) u0 u6 := hk5.trans (hb6.mono hn5)
  have hw6 : Below w.heap.size w u6 := hw5.trans (hb6.mono (by omega))
  have hn6 : w.heap.size + 3 ≤ u6.heap.size := by have := hk6.size; omega
  obtain ⟨x0, x1, y0, y1, z0, z1⟩ := unhide Hcells u6 hk6
  go_wp2_with fail
  clear x0 x1 y0 y1 z0 z1
  refine (same_ok _ _ _ _ _ _ _ _ b c w.heap.size _ (hbo.below hw6) (hbr.below hw6) (hco.below hw6) (hcr.below hw6) (by omega) (unhide Hb) (unhide Hc)).mono ?_
  rintro e u7 ⟨he, hb7⟩
  rw [unhide HBC] at he
  subst he
  have hk7 : Below (w.heap.size + 3) u0 u7 := hk6.trans (hb7.mono hn6)
  have hw7 : Below w.heap.size w u7 := hw6.trans (hb7.mono (by omega))
  have hn7 : w.heap.size + 3 ≤ u7.heap.size := by have := hk7.size; omega
  obtain ⟨x0, x1, y0, y1, z0, z1⟩ := unhide Hcells u7 hk7
  go_wp2_with fail
  clear x0 x1 y0 y1 z0 z1
  refine (same_ok _ _ _ _ _ _ _ _ a c w.heap.size _ (hao.below hw7) (har.below hw7) (hco.below hw7) (hcr.below hw7) (by omega) (unhide Ha) (unhide Hc)).mono ?_
  rintro e u8 ⟨he, hb8⟩
  rw [unhide HAC] at he
  subst he
  have hk8 : Below (w.heap.size + 3) u0 u8 := hk7.trans (hb8.mono hn7)
  have hw8 : Below w.heap.size w u8 := hw7.trans (hb8.mono (by omega))
  have hn8 : w.heap.size + 3 ≤ u8.heap.size := by have := hk8.size; omega
  obtain ⟨x0, x1, y0, y1, z0, z1⟩ := unhide Hcells u8 hk8
  have htr := unhide Htr
  clear Htr HAA HAB HBA HBC HAC
  cases ba
  · go_wp2
    go_ret
    exact ⟨rfl, hw8⟩
  · cases bc
    · go_wp2
      go_ret
      exact ⟨rfl, hw8⟩
    · obtain rfl : ac = true := htr rfl rfl
      go_wp2
      go_ret
      exact ⟨rfl, hw8⟩

theorem like_c' (ao ar bo br eo er : Option Addr) (aoc arc boc brc eoc erc : Nat) (a b c : Gr) (w : World) (hao : Objs w.heap.size w ao a.objs) (har : Vals w.heap.size w ar a.roots) (hbo : Objs w.heap.size w bo b.objs) (hbr : Vals w.heap.size w br b.roots) (hco : Objs w.heap.size w eo c.objs) (hcr : Vals w.heap.size w er c.roots) :
    Calls Try.prog 3 #[.agg #[.slice ao a.objs.length aoc, .slice ar a.roots.length arc], .agg #[.slice bo b.objs.length boc, .slice br b.roots.length brc], .agg #[.slice eo c.objs.length eoc, .slice er c.roots.length erc]] w fun e w' => e = .returned (.bool true) ∧ Below w.heap.size w w' := by
  by_cases na : checkG a = 0
  · by_cases nb : checkG b = 0
    · by_cases nc : checkG c = 0
      · exact like_ok ao ar bo br eo er aoc arc boc brc eoc erc a b c w hao har hbo hbr hco hcr na nb nc
      · exact like_c ao ar bo br eo er aoc arc boc brc eoc erc a b c w hao har hbo hbr hco hcr na nb nc
    · exact like_b ao ar bo br eo er aoc arc boc brc eoc erc a b c w hao har hbo hbr hco hcr na nb
  · exact like_a ao ar bo br eo er aoc arc boc brc eoc erc a b c w hao har hbo hbr hco hcr na

end Go.Proofs.Ytmelhphhealomaa
