/- Walks: GraphCanons. -/
import Derived.Test.YtmelhphhealomaaProg
import Derived.Test.YtmelhphhealomaaMem
import Derived.Test.YtmelhphhealomaaWs
import Derived.Test.YtmelhphhealomaaWu
import Derived.Test.YtmelhphhealomaaRd
import Derived.Test.YtmelhphhealomaaRe
import Derived.Test.YtmelhphhealomaaRi
import Derived.Test.YtmelhphhealomaaRj
namespace Go.Proofs.Ytmelhphhealomaa
set_option linter.unusedSimpArgs false
set_option linter.unusedVariables false
open Go.RowKit

theorem canons_boxes (ao ar bo br : Option Addr) (aoc arc boc brc : Nat) (a b : Gr) (w : World) :
    ∀ W0, (w.alloc (.cells #[.slice ao a.objs.length aoc, .slice ar a.roots.length arc] 25)).alloc (.cells #[.slice bo b.objs.length boc, .slice br b.roots.length brc] 25) = W0 → W0.heap.size = w.heap.size + 2 ∧ Below w.heap.size w W0 ∧ (∀ X, Below (w.heap.size + 2) W0 X → X.cell? ⟨w.heap.size, 0, none⟩ = some (.slice ao a.objs.length aoc) ∧ X.cell? ⟨w.heap.size, 1, none⟩ = some (.slice ar a.roots.length arc) ∧ X.cell? ⟨w.heap.size + 1, 0, none⟩ = some (.slice bo b.objs.length boc) ∧ X.cell? ⟨w.heap.size + 1, 1, none⟩ = some (.slice br b.roots.length brc)) := by
  intro W0 h
  refine ⟨by rw [← h]; simp, by rw [← h]; exact ((Below.refl _ _).alloc (Nat.le_refl _) _).alloc (by simp) _, fun X hX => ?_⟩
  refine ⟨?_, ?_, ?_, ?_⟩
  · rw [hX.cell (p := ⟨w.heap.size, 0, none⟩) (by simp), ← h]; simp [go_sem]
  · rw [hX.cell (p := ⟨w.heap.size, 1, none⟩) (by simp), ← h]; simp [go_sem]
  · rw [hX.cell (p := ⟨w.heap.size + 1, 0, none⟩) (by simp), ← h]; simp [go_sem]
  · rw [hX.cell (p := ⟨w.heap.size + 1, 1, none⟩) (by simp), ← h]; simp [go_sem]

theorem box_at (x y : Value) (t : TypeId) (w : World) :
    ∀ W0, w.alloc (.cells #[x, y] t) = W0 → W0.heap.size = w.heap.size + 1 ∧ Below w.heap.size w W0 ∧ (∀ X, Below (w.heap.size + 1) W0 X → X.cell? ⟨w.heap.size, 0, none⟩ = some x ∧ X.cell? ⟨w.heap.size, 1, none⟩ = some y) := by
  intro W0 h
  refine ⟨by rw [← h]; simp, by rw [← h]; exact (Below.refl _ _).alloc (Nat.le_refl _) _, fun X hX => ⟨?_, ?_⟩⟩
  · rw [hX.cell (p := ⟨w.heap.size, 0, none⟩) (by simp), ← h]; simp [go_sem]
  · rw [hX.cell (p := ⟨w.heap.size, 1, none⟩) (by simp), ← h]; simp [go_sem]

theorem sameG_same {a b : Gr} (ha : Good a) (hb : Good b) : (sameG (canonG a) (canonG b) == (sameN a b 24).isSome) = true := by
  have h := same_iff ha hb
  have h2 : sameG (canonG a) (canonG b) = true ↔ canonG a = canonG b := by
    simp only [sameG, Bool.and_eq_true, decide_eq_true_eq]
    constructor
    · rintro ⟨h1, h2⟩
      cases hx : canonG a; cases hy : canonG b
      simp only [hx, hy] at h1 h2
      rw [h1, h2]
    · intro e; rw [e]; exact ⟨rfl, rfl⟩
  rw [beq_iff_eq, Bool.eq_iff_iff, h2, h]

set_option maxRecDepth 100000 in
set_option maxHeartbeats 4000000 in
theorem canons_a (ao ar bo br : Option Addr) (aoc arc boc brc : Nat) (a b : Gr) (w : World) (hao : Objs w.heap.size w ao a.objs) (har : Vals w.heap.size w ar a.roots) (hbo : Objs w.heap.size w bo b.objs) (hbr : Vals w.heap.size w br b.roots) (na : checkG a ≠ 0) :
    Calls Try.prog 6 #[.agg #[.slice ao a.objs.length aoc, .slice ar a.roots.length arc], .agg #[.slice bo b.objs.length boc, .slice br b.roots.length brc]] w fun e w' => e = .returned (.bool true) ∧ Below w.heap.size w w' := by
  have Ha := hide na
  have da : (checkG a != 0) = true := by simpa using na
  clear na
  go_enter Try.func6, Try.ntmps6
  go_wp2_with fail
  obtain ⟨u0, hu0⟩ : ∃ u0, (w.alloc (.cells #[.slice ao a.objs.length aoc, .slice ar a.roots.length arc] 25)).alloc (.cells #[.slice bo b.objs.length boc, .slice br b.roots.length brc] 25) = u0 := ⟨_, rfl⟩
  rw [hu0]
  obtain ⟨hsz0, hw0, hcells⟩ := canons_boxes ao ar bo br aoc arc boc brc a b w u0 hu0
  have Hcells := hide hcells
  clear hu0 hcells
  have hk0 : Below (w.heap.size + 2) u0 u0 := Below.refl _ _
  have hn0 : w.heap.size + 2 ≤ u0.heap.size := by omega
  refine (canon_bad _ _ _ _ a w.heap.size _ (hao.below hw0) (har.below hw0) (by omega) (unhide Ha)).mono ?_
  rintro e u1 ⟨rfl, hb1⟩
  have hk1 : Below (w.heap.size + 2) u0 u1 := hk0.trans (hb1.mono hn0)
  have hw1 : Below w.heap.size w u1 := hw0.trans (hb1.mono (by omega))
  have hn1 : w.heap.size + 2 ≤ u1.heap.size := by have := hk1.size; omega
  have hn1a : w.heap.size < u1.heap.size := by omega
  have hn1b : w.heap.size + 1 < u1.heap.size := by omega
  obtain ⟨x0, x1, y0, y1⟩ := unhide Hcells u1 hk1
  go_wp2_with fail
  clear x0 x1 y0 y1
  obtain ⟨u2, hu2⟩ : ∃ u2, u1.alloc (.cells #[.slice none 0 0, .slice none 0 0] 25) = u2 := ⟨_, rfl⟩
  rw [hu2]
  obtain ⟨hsz2, hb2, hcel2⟩ := box_at (.slice none 0 0) (.slice none 0 0) 25 u1 u2 hu2
  have Hcel2 := hide hcel2
  clear hu2 hcel2
  have hk2 : Below (w.heap.size + 2) u0 u2 := hk1.trans (hb2.mono hn1)
  have hw2 : Below w.heap.size w u2 := hw1.trans (hb2.mono (by omega))
  have hn2 : w.heap.size + 2 ≤ u2.heap.size := by have := hk2.size; omega
  have hp2 : Below (u1.heap.size + 1) u2 u2 := Below.refl _ _
  have hq2 : u1.heap.size + 1 ≤ u2.heap.size := by omega
  refine (same_bad1 _ _ _ _ _ _ _ _ a b w.heap.size _ (hao.below hw2) (har.below hw2) (hbo.below hw2) (hbr.below hw2) (by omega) (unhide Ha)).mono ?_
  rintro e u3 ⟨rfl, hb3⟩
  have hk3 : Below (w.heap.size + 2) u0 u3 := hk2.trans (hb3.mono hn2)
  have hw3 : Below w.heap.size w u3 := hw2.trans (hb3.mono (by omega))
  have hp3 : Below (u1.heap.size + 1) u2 u3 := hp2.trans (hb3.mono hq2)
  have hn3 : w.heap.size + 2 ≤ u3.heap.size := by have := hk3.size; omega
  have hq3 : u1.heap.size + 1 ≤ u3.heap.size := by have := hp3.size; omega
  obtain ⟨x0, x1, y0, y1⟩ := unhide Hcells u3 hk3
  obtain ⟨z0, z1⟩ := unhide Hcel2 u3 hp3
  go_wp2_with fail
  clear x0 x1 y0 y1 z0 z1
  refine (graphCheck_c _ _ _ _ a w.heap.size _ (hao.below hw3) (har.below hw3) (by omega)).mono ?_
  rintro e u4 ⟨rfl, hb4⟩
  have hk4 : Below (w.heap.size + 2) u0 u4 := hk3.trans (hb4.mono hn3)
  have hw4 : Below w.heap.size w u4 := hw3.trans (hb4.mono (by omega))
  have hp4 : Below (u1.heap.size + 1) u2 u4 := hp3.trans (hb4.mono hq3)
  have hn4 : w.heap.size + 2 ≤ u4.heap.size := by have := hk4.size; omega
  have hq4 : u1.heap.size + 1 ≤ u4.heap.size := by have := hp4.size; omega
  obtain ⟨x0, x1, y0, y1⟩ := unhide Hcells u4 hk4
  obtain ⟨z0, z1⟩ := unhide Hcel2 u4 hp4
  go_wp2_with fail
  clear x0 x1 y0 y1 z0 z1
  refine (graphCheck_c _ _ _ _ b w.heap.size _ (hbo.below hw4) (hbr.below hw4) (by omega)).mono ?_
  rintro e u5 ⟨rfl, hb5⟩
  have hk5 : Below (w.heap.size + 2) u0 u5 := hk4.trans (hb5.mono hn4)
  have hw5 : Below w.heap.size w u5 := hw4.trans (hb5.mono (by omega))
  have hp5 : Below (u1.heap.size + 1) u2 u5 := hp4.trans (hb5.mono hq4)
  have hn5 : w.heap.size + 2 ≤ u5.heap.size := by have := hk5.size; omega
  have hq5 : u1.heap.size + 1 ≤ u5.heap.size := by have := hp5.size; omega
  obtain ⟨x0, x1, y0, y1⟩ := unhide Hcells u5 hk5
  obtain ⟨z0, z1⟩ := unhide Hcel2 u5 hp5
  go_wp2_with (go_at_call 16; go_must (refine (graphs_c none none none none 0 0 0 0 ⟨[], []⟩ ⟨[], []⟩ w.heap.size _ (objs_nil _ _) (vals_nil _ _) (objs_nil _ _) (vals_nil _ _) (by omega)).mono ?_); rintro e u6 ⟨rfl, hb6⟩)
  go_ret
  exact ⟨ret_bool (sameG_self _), hw5.trans (hb6.mono (by omega))⟩

set_option maxRecDepth 100000 in
set_option maxHeartbeats 4000000 in
theorem canons_b (ao ar bo br : Option Addr) (aoc arc boc brc : Nat) (a b : Gr) (w : World) (hao : Objs w.heap.size w ao a.objs) (har : Vals w.heap.size w ar a.roots) (hbo : Objs w.heap.size w bo b.objs) (hbr : Vals w.heap.size w br b.roots) (na : checkG a = 0) (nb : checkG b ≠ 0) :
    Calls Try.prog 6 #[.agg #[.slice ao a.objs.length aoc, .slice ar a.roots.length arc], .agg #[.slice bo b.objs.length boc, .slice br b.roots.length brc]] w fun e w' => e = .returned (.bool true) ∧ Below w.heap.size w w' := by
  have Ha := hide na
  have Hb := hide nb
  have hGa := good_of_check na
  have db : (checkG b != 0) = true := by simpa using nb
  clear na nb
  go_enter Try.func6, Try.ntmps6
  go_wp2_with fail
  obtain ⟨u0, hu0⟩ : ∃ u0, (w.alloc (.cells #[.slice ao a.objs.length aoc, .slice ar a.roots.length arc] 25)).alloc (.cells #[.slice bo b.objs.length boc, .slice br b.roots.length brc] 25) = u0 := ⟨_, rfl⟩
  rw [hu0]
  obtain ⟨hsz0, hw0, hcells⟩ := canons_boxes ao ar bo br aoc arc boc brc a b w u0 hu0
  have Hcells := hide hcells
  clear hu0 hcells
  have hk0 : Below (w.heap.size + 2) u0 u0 := Below.refl _ _
  have hn0 : w.heap.size + 2 ≤ u0.heap.size := by omega
  refine (canon_ok _ _ _ _ a w.heap.size _ (hao.below hw0) (har.below hw0) (by omega) (unhide Ha)).mono ?_
  rintro e u1 ⟨ao1, co1, ar1, cr1, rfl, hO1, hV1, hb1⟩
  have hk1 : Below (w.heap.size + 2) u0 u1 := hk0.trans (hb1.mono hn0)
  have hw1 : Below w.heap.size w u1 := hw0.trans (hb1.mono (by omega))
  have hn1 : w.heap.size + 2 ≤ u1.heap.size := by have := hk1.size; omega
  have hn1a : w.heap.size < u1.heap.size := by omega
  have hn1b : w.heap.size + 1 < u1.heap.size := by omega
  obtain ⟨x0, x1, y0, y1⟩ := unhide Hcells u1 hk1
  go_wp2_with fail
  clear x0 x1 y0 y1
  obtain ⟨u2, hu2⟩ : ∃ u2, u1.alloc (.cells #[.slice ao1 (canonG a).objs.length co1, .slice ar1 (canonG a).roots.length cr1] 25) = u2 := ⟨_, rfl⟩
  rw [hu2]
  obtain ⟨hsz2, hb2, hcel2⟩ := box_at (.slice ao1 (canonG a).objs.length co1) (.slice ar1 (canonG a).roots.length cr1) 25 u1 u2 hu2
  have Hcel2 := hide hcel2
  clear hu2 hcel2
  have hk2 : Below (w.heap.size + 2) u0 u2 := hk1.trans (hb2.mono hn1)
  have hw2 : Below w.heap.size w u2 := hw1.trans (hb2.mono (by omega))
  have hn2 : w.heap.size + 2 ≤ u2.heap.size := by have := hk2.size; omega
  have hp2 : Below (u1.heap.size + 1) u2 u2 := Below.refl _ _
  have hq2 : u1.heap.size + 1 ≤ u2.heap.size := by omega
  have hO2 := hO1.below2 hb2 (Nat.le_refl _)
  have hV2 := (hV1.below hb2).mono (B' := u2.heap.size) (by omega)
  refine (same_bad2 _ _ _ _ _ _ _ _ a b w.heap.size _ (hao.below hw2) (har.below hw2) (hbo.below hw2) (hbr.below hw2) (by omega) (unhide Ha) (unhide Hb)).mono ?_
  rintro e u3 ⟨rfl, hb3⟩
  have hk3 : Below (w.heap.size + 2) u0 u3 := hk2.trans (hb3.mono hn2)
  have hw3 : Below w.heap.size w u3 := hw2.trans (hb3.mono (by omega))
  have hp3 : Below (u1.heap.size + 1) u2 u3 := hp2.trans (hb3.mono hq2)
  have hn3 : w.heap.size + 2 ≤ u3.heap.size := by have := hk3.size; omega
  have hq3 : u1.heap.size + 1 ≤ u3.heap.size := by have := hp3.size; omega
  have hO3 := hO2.below2 hb3 (Nat.le_refl _)
  have hV3 := (hV2.below hb3).mono (B' := u3.heap.size) hb3.size
  obtain ⟨x0, x1, y0, y1⟩ := unhide Hcells u3 hk3
  obtain ⟨z0, z1⟩ := unhide Hcel2 u3 hp3
  go_wp2_with fail
  clear x0 x1 y0 y1 z0 z1
  refine (graphCheck_c _ _ _ _ a w.heap.size _ (hao.below hw3) (har.below hw3) (by omega)).mono ?_
  rintro e u4 ⟨he4, hb4⟩
  rw [unhide Ha] at he4
  subst he4
  have hk4 : Below (w.heap.size + 2) u0 u4 := hk3.trans (hb4.mono hn3)
  have hw4 : Below w.heap.size w u4 := hw3.trans (hb4.mono (by omega))
  have hp4 : Below (u1.heap.size + 1) u2 u4 := hp3.trans (hb4.mono hq3)
  have hn4 : w.heap.size + 2 ≤ u4.heap.size := by have := hk4.size; omega
  have hq4 : u1.heap.size + 1 ≤ u4.heap.size := by have := hp4.size; omega
  have hO4 := hO3.below2 hb4 (Nat.le_refl _)
  have hV4 := (hV3.below hb4).mono (B' := u4.heap.size) hb4.size
  obtain ⟨x0, x1, y0, y1⟩ := unhide Hcells u4 hk4
  obtain ⟨z0, z1⟩ := unhide Hcel2 u4 hp4
  go_wp2_with fail
  clear x0 x1 y0 y1 z0 z1
  refine (graphCheck_c _ _ _ _ b w.heap.size _ (hbo.below hw4) (hbr.below hw4) (by omega)).mono ?_
  rintro e u5 ⟨rfl, hb5⟩
  have hk5 : Below (w.heap.size + 2) u0 u5 := hk4.trans (hb5.mono hn4)
  have hw5 : Below w.heap.size w u5 := hw4.trans (hb5.mono (by omega))
  have hp5 : Below (u1.heap.size + 1) u2 u5 := hp4.trans (hb5.mono hq4)
  have hn5 : w.heap.size + 2 ≤ u5.heap.size := by have := hk5.size; omega
  have hq5 : u1.heap.size + 1 ≤ u5.heap.size := by have := hp5.size; omega
  have hO5 := hO4.below2 hb5 (Nat.le_refl _)
  have hV5 := (hV4.below hb5).mono (B' := u5.heap.size) hb5.size
  obtain ⟨x0, x1, y0, y1⟩ := unhide Hcells u5 hk5
  obtain ⟨z0, z1⟩ := unhide Hcel2 u5 hp5
  have hw5d : Below w.heap.size w u5.drew := hw5.drew
  have hB5 : w.heap.size ≤ u5.drew.heap.size := by show w.heap.size ≤ u5.heap.size; omega
  have hl5 : u1.heap.size + 1 ≤ u5.heap.size := hq5
  go_wp2_with fail
  go_region_law (first
    | (refine step_call_w (by rfl) 17 #[.agg #[.slice ao a.objs.length aoc, .slice ar a.roots.length arc]] (by go_simp) (fun v w6 => ∃ a6 c6 a7 c7, v = .agg #[.slice a6 (canonG a).objs.length c6, .slice a7 (canonG a).roots.length c7] ∧ Objs w6.heap.size w6 a6 (canonG a).objs ∧ Vals w6.heap.size w6 a7 (canonG a).roots ∧ Below u5.heap.size u5 w6) ((refCanon_c ao ar aoc arc a w.heap.size _ (hao.below hw5d) (har.below hw5d) hB5 hGa).mono (by rintro e w6 ⟨a6, c6, a7, c7, rfl, h1, h2, h3⟩; exact ⟨_, rfl, a6, c6, a7, c7, rfl, h1, h2, (Below.refl _ _).drew.trans h3⟩)) ?_; rintro v6 u6 ⟨a6, c6, a7, c7, rfl, hO6, hV6, hb6⟩; have z06 := (hb6.cell (p := ⟨u1.heap.size, 0, none⟩) (by simp; omega)).trans z0; have z16 := (hb6.cell (p := ⟨u1.heap.size, 1, none⟩) (by simp; omega)).trans z1; have hO56 := hO5.below2 hb6 (Nat.le_refl _); have hV56 := (hV5.below hb6).mono (B' := u6.heap.size) hb6.size)
    | (refine step_call_w (by rfl) 16 #[.agg #[.slice ao1 (canonG a).objs.length co1, .slice ar1 (canonG a).roots.length cr1], .agg #[.slice a6 (canonG a).objs.length c6, .slice a7 (canonG a).roots.length c7]] (by go_simp) (fun v w7 => v = .bool true ∧ Below u6.heap.size u6 w7) ((graphs_c ao1 ar1 a6 a7 co1 cr1 c6 c7 (canonG a) (canonG a) u6.heap.size u6 hO56 hV56 hO6 hV6 (Nat.le_refl _)).mono (by rintro e w7 ⟨rfl, h3⟩; rw [sameG_self]; exact ⟨_, rfl, rfl, h3⟩)) ?_; rintro v7 u7 ⟨rfl, hb7⟩))
  all_goals
    have hk7 : Below (w.heap.size + 2) u0 u7 := (hk5.trans (hb6.mono (by omega))).trans (hb7.mono (by have := hb6.size; omega))
    have hw7 : Below w.heap.size w u7 := (hw5.trans (hb6.mono (by omega))).trans (hb7.mono (by have := hb6.size; omega))
    have hn7 : w.heap.size + 2 ≤ u7.heap.size := by have := hk7.size; omega
    clear z06 z16 x0 x1 y0 y1 z0 z1
    obtain ⟨x0, x1, y0, y1⟩ := unhide Hcells u7 hk7
    go_wp2
    go_ret
    exact ⟨rfl, hw7⟩

set_option maxRecDepth 100000 in
set_option maxHeartbeats 4000000 in
theorem canons_c (ao ar bo br : Option Addr) (aoc arc boc brc : Nat) (a b : Gr) (w : World) (hao : Objs w.heap.size w ao a.objs) (har : Vals w.heap.size w ar a.roots) (hbo : Objs w.heap.size w bo b.objs) (hbr : Vals w.heap.size w br b.roots) (na : checkG a = 0) (nb : checkG b = 0) :
    Calls Try.prog 6 #[.agg #[.slice ao a.objs.length aoc, .slice ar a.roots.length arc], .agg #[.slice bo b.objs.length boc, .slice br b.roots.length brc]] w fun e w' => e = .returned (.bool true) ∧ Below w.heap.size w w' := by
  have Ha := hide na
  have Hb := hide nb
  have hGa := good_of_check na
  have hGb := good_of_check nb
  have dS := sameG_same hGa hGb
  clear na nb
  go_enter Try.func6, Try.ntmps6
  go_wp2_with fail
  obtain ⟨u0, hu0⟩ : ∃ u0, (w.alloc (.cells #[.slice ao a.objs.length aoc, .slice ar a.roots.length arc] 25)).alloc (.cells #[.slice bo b.objs.length boc, .slice br b.roots.length brc] 25) = u0 := ⟨_, rfl⟩
  rw [hu0]
  obtain ⟨hsz0, hw0, hcells⟩ := canons_boxes ao ar bo br aoc arc boc brc a b w u0 hu0
  have Hcells := hide hcells
  clear hu0 hcells
  have hk0 : Below (w.heap.size + 2) u0 u0 := Below.refl _ _
  have hn0 : w.heap.size + 2 ≤ u0.heap.size := by omega
  refine (canon_ok _ _ _ _ a w.heap.size _ (hao.below hw0) (har.below hw0) (by omega) (unhide Ha)).mono ?_
  rintro e u1 ⟨ao1, co1, ar1, cr1, rfl, hO1, hV1, hb1⟩
  have hk1 : Below (w.heap.size + 2) u0 u1 := hk0.trans (hb1.mono hn0)
  have hw1 : Below w.heap.size w u1 := hw0.trans (hb1.mono (by omega))
  have hn1 : w.heap.size + 2 ≤ u1.heap.size := by have := hk1.size; omega
  have hn1a : w.heap.size < u1.heap.size := by omega
  have hn1b : w.heap.size + 1 < u1.heap.size := by omega
  obtain ⟨x0, x1, y0, y1⟩ := unhide Hcells u1 hk1
  go_wp2_with fail
  clear x0 x1 y0 y1
  obtain ⟨u2, hu2⟩ : ∃ u2, u1.alloc (.cells #[.slice ao1 (canonG a).objs.length co1, .slice ar1 (canonG a).roots.length cr1] 25) = u2 := ⟨_, rfl⟩
  rw [hu2]
  obtain ⟨hsz2, hb2, hcel2⟩ := box_at (.slice ao1 (canonG a).objs.length co1) (.slice ar1 (canonG a).roots.length cr1) 25 u1 u2 hu2
  have Hcel2 := hide hcel2
  clear hu2 hcel2
  have hk2 : Below (w.heap.size + 2) u0 u2 := hk1.trans (hb2.mono hn1)
  have hw2 : Below w.heap.size w u2 := hw1.trans (hb2.mono (by omega))
  have hn2 : w.heap.size + 2 ≤ u2.heap.size := by have := hk2.size; omega
  have hp2 : Below (u1.heap.size + 1) u2 u2 := Below.refl _ _
  have hq2 : u1.heap.size + 1 ≤ u2.heap.size := by omega
  have hO2 := hO1.below2 hb2 (Nat.le_refl _)
  have hV2 := (hV1.below hb2).mono (B' := u2.heap.size) (by omega)
  refine (same_ok _ _ _ _ _ _ _ _ a b w.heap.size _ (hao.below hw2) (har.below hw2) (hbo.below hw2) (hbr.below hw2) (by omega) (unhide Ha) (unhide Hb)).mono ?_
  rintro e u3 ⟨rfl, hb3⟩
  have hk3 : Below (w.heap.size + 2) u0 u3 := hk2.trans (hb3.mono hn2)
  have hw3 : Below w.heap.size w u3 := hw2.trans (hb3.mono (by omega))
  have hp3 : Below (u1.heap.size + 1) u2 u3 := hp2.trans (hb3.mono hq2)
  have hn3 : w.heap.size + 2 ≤ u3.heap.size := by have := hk3.size; omega
  have hq3 : u1.heap.size + 1 ≤ u3.heap.size := by have := hp3.size; omega
  have hO3 := hO2.below2 hb3 (Nat.le_refl _)
  have hV3 := (hV2.below hb3).mono (B' := u3.heap.size) hb3.size
  obtain ⟨x0, x1, y0, y1⟩ := unhide Hcells u3 hk3
  obtain ⟨z0, z1⟩ := unhide Hcel2 u3 hp3
  go_wp2_with fail
  clear x0 x1 y0 y1 z0 z1
  refine (graphCheck_c _ _ _ _ a w.heap.size _ (hao.below hw3) (har.below hw3) (by omega)).mono ?_
  rintro e u4 ⟨he4, hb4⟩
  rw [unhide Ha] at he4
  subst he4
  have hk4 : Below (w.heap.size + 2) u0 u4 := hk3.trans (hb4.mono hn3)
  have hw4 : Below w.heap.size w u4 := hw3.trans (hb4.mono (by omega))
  have hp4 : Below (u1.heap.size + 1) u2 u4 := hp3.trans (hb4.mono hq3)
  have hn4 : w.heap.size + 2 ≤ u4.heap.size := by have := hk4.size; omega
  have hq4 : u1.heap.size + 1 ≤ u4.heap.size := by have := hp4.size; omega
  have hO4 := hO3.below2 hb4 (Nat.le_refl _)
  have hV4 := (hV3.below hb4).mono (B' := u4.heap.size) hb4.size
  obtain ⟨x0, x1, y0, y1⟩ := unhide Hcells u4 hk4
  obtain ⟨z0, z1⟩ := unhide Hcel2 u4 hp4
  go_wp2_with fail
  clear x0 x1 y0 y1 z0 z1
  refine (graphCheck_c _ _ _ _ b w.heap.size _ (hbo.below hw4) (hbr.below hw4) (by omega)).mono ?_
  rintro e u5 ⟨he5, hb5⟩
  rw [unhide Hb] at he5
  subst he5
  have hk5 : Below (w.heap.size + 2) u0 u5 := hk4.trans (hb5.mono hn4)
  have hw5 : Below w.heap.size w u5 := hw4.trans (hb5.mono (by omega))
  have hp5 : Below (u1.heap.size + 1) u2 u5 := hp4.trans (hb5.mono hq4)
  have hn5 : w.heap.size + 2 ≤ u5.heap.size := by have := hk5.size; omega
  have hq5 : u1.heap.size + 1 ≤ u5.heap.size := by have := hp5.size; omega
  have hO5 := hO4.below2 hb5 (Nat.le_refl _)
  have hV5 := (hV4.below hb5).mono (B' := u5.heap.size) hb5.size
  obtain ⟨x0, x1, y0, y1⟩ := unhide Hcells u5 hk5
  obtain ⟨z0, z1⟩ := unhide Hcel2 u5 hp5
  have hw5d : Below w.heap.size w u5.drew := hw5.drew
  have hB5 : w.heap.size ≤ u5.drew.heap.size := by show w.heap.size ≤ u5.heap.size; omega
  have hl5 : u1.heap.size + 1 ≤ u5.heap.size := hq5
  go_wp2_with fail
  go_region_law (first
    | (refine step_call_w (by rfl) 17 #[.agg #[.slice ao a.objs.length aoc, .slice ar a.roots.length arc]] (by go_simp) (fun v w6 => ∃ a6 c6 a7 c7, v = .agg #[.slice a6 (canonG a).objs.length c6, .slice a7 (canonG a).roots.length c7] ∧ Objs w6.heap.size w6 a6 (canonG a).objs ∧ Vals w6.heap.size w6 a7 (canonG a).roots ∧ Below u5.heap.size u5 w6) ((refCanon_c ao ar aoc arc a w.heap.size _ (hao.below hw5d) (har.below hw5d) hB5 hGa).mono (by rintro e w6 ⟨a6, c6, a7, c7, rfl, h1, h2, h3⟩; exact ⟨_, rfl, a6, c6, a7, c7, rfl, h1, h2, (Below.refl _ _).drew.trans h3⟩)) ?_; rintro v6 u6 ⟨a6, c6, a7, c7, rfl, hO6, hV6, hb6⟩; have z06 := (hb6.cell (p := ⟨u1.heap.size, 0, none⟩) (by simp; omega)).trans z0; have z16 := (hb6.cell (p := ⟨u1.heap.size, 1, none⟩) (by simp; omega)).trans z1; have hO56 := hO5.below2 hb6 (Nat.le_refl _); have hV56 := (hV5.below hb6).mono (B' := u6.heap.size) hb6.size)
    | (refine step_call_w (by rfl) 16 #[.agg #[.slice ao1 (canonG a).objs.length co1, .slice ar1 (canonG a).roots.length cr1], .agg #[.slice a6 (canonG a).objs.length c6, .slice a7 (canonG a).roots.length c7]] (by go_simp) (fun v w7 => v = .bool true ∧ Below u6.heap.size u6 w7) ((graphs_c ao1 ar1 a6 a7 co1 cr1 c6 c7 (canonG a) (canonG a) u6.heap.size u6 hO56 hV56 hO6 hV6 (Nat.le_refl _)).mono (by rintro e w7 ⟨rfl, h3⟩; rw [sameG_self]; exact ⟨_, rfl, rfl, h3⟩)) ?_; rintro v7 u7 ⟨rfl, hb7⟩))
  all_goals
    have hk7 : Below (w.heap.size + 2) u0 u7 := (hk5.trans (hb6.mono (by omega))).trans (hb7.mono (by have := hb6.size; omega))
    have hw7 : Below w.heap.size w u7 := (hw5.trans (hb6.mono (by omega))).trans (hb7.mono (by have := hb6.size; omega))
    have hn7 : w.heap.size + 2 ≤ u7.heap.size := by have := hk7.size; omega
    clear z06 z16 x0 x1 y0 y1 z0 z1
    obtain ⟨x0, x1, y0, y1⟩ := unhide Hcells u7 hk7
    go_wp2_with (go_at_call 18; go_must (refine (refSame_c ao ar bo br aoc arc boc brc a b w.heap.size _ (hao.below hw7) (har.below hw7) (hbo.below hw7) (hbr.below hw7) (by omega) hGa hGb).mono ?_); rintro e u8 ⟨rfl, hb8⟩)
    go_ret
    exact ⟨ret_bool (by first | rfl | exact dS | simp), hw7.trans (hb8.mono (by omega))⟩

theorem canons_c_all (ao ar bo br : Option Addr) (aoc arc boc brc : Nat) (a b : Gr) (w : World) (hao : Objs w.heap.size w ao a.objs) (har : Vals w.heap.size w ar a.roots) (hbo : Objs w.heap.size w bo b.objs) (hbr : Vals w.heap.size w br b.roots) :
    Calls Try.prog 6 #[.agg #[.slice ao a.objs.length aoc, .slice ar a.roots.length arc], .agg #[.slice bo b.objs.length boc, .slice br b.roots.length brc]] w fun e w' => e = .returned (.bool true) ∧ Below w.heap.size w w' := by
  by_cases na : checkG a = 0
  · by_cases nb : checkG b = 0
    · exact canons_c ao ar bo br aoc arc boc brc a b w hao har hbo hbr na nb
    · exact canons_b ao ar bo br aoc arc boc brc a b w hao har hbo hbr na nb
  · exact canons_a ao ar bo br aoc arc boc brc a b w hao har hbo hbr na

end Go.Proofs.Ytmelhphhealomaa
