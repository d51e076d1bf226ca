/- Walks: the document's answer: Canon, Graphs, Values. -/
import Derived.Test.YtmelhphhealomaaProg
import Derived.Test.YtmelhphhealomaaMem
import Derived.Test.YtmelhphhealomaaRb
import Derived.Test.YtmelhphhealomaaRc
import Derived.Test.YtmelhphhealomaaXa
namespace Go.Proofs.Ytmelhphhealomaa
set_option linter.unusedSimpArgs false
set_option linter.unusedVariables false
open Go.RowKit

set_option maxRecDepth 100000 in
set_option maxHeartbeats 1000000 in
theorem refCanon_c (ao ar : Option Addr) (co cr : Nat) (g : Gr) (B : Nat) (w : World) (ho : Objs B w ao g.objs) (hr : Vals B w ar g.roots) (hB : B ≤ w.heap.size) (hG : Good g) :
    Calls Try.prog 17 #[.agg #[.slice ao g.objs.length co, .slice ar g.roots.length cr]] w fun e w' => ∃ ao' co' ar' cr', e = .returned (.agg #[.slice ao' (canonG g).objs.length co', .slice ar' (canonG g).roots.length cr']) ∧
      Objs w'.heap.size w' ao' (canonG g).objs ∧ Vals w'.heap.size w' ar' (canonG g).roots ∧ Below w.heap.size w w' := by
  have hol := (searchN_ok hG g.objs.length).le
  have hn24 := hG.n24
  obtain ⟨W4, hW4⟩ : ∃ W4, (w.alloc (.cells #[.slice ao g.objs.length co, .slice ar g.roots.length cr] 25)).alloc (.cells #[.slice none 0 0, .slice none 0 0] 25) = W4 := ⟨_, rfl⟩
  have hb1 : Below w.heap.size w W4 := by rw [← hW4]; exact ((Below.refl w.heap.size w).alloc (Nat.le_refl _) _).alloc (by simp) _
  have hs4 : w.heap.size + 1 < W4.heap.size := by rw [← hW4]; simp
  have q0 : W4.cell? ⟨w.heap.size + 1, 0, none⟩ = some (.slice none 0 0) := by rw [← hW4]; simp [go_sem]
  have q1 : W4.cell? ⟨w.heap.size + 1, 1, none⟩ = some (.slice none 0 0) := by rw [← hW4]; simp [go_sem]
  have f0 : W4.frozen? ⟨w.heap.size + 1, 0, none⟩ = false := by rw [← hW4]; simp [go_sem]
  have f1 : W4.frozen? ⟨w.heap.size + 1, 1, none⟩ = false := by rw [← hW4]; simp [go_sem]
  have g0 : W4.cell? ⟨w.heap.size, 0, none⟩ = some (.slice ao g.objs.length co) := by rw [← hW4]; simp [go_sem]
  have g1 : W4.cell? ⟨w.heap.size, 1, none⟩ = some (.slice ar g.roots.length cr) := by rw [← hW4]; simp [go_sem]
  go_enter Try.func17, Try.ntmps17
  go_wp2
  clear hW4
  have ho4 := (ho.below (hb1.mono hB)).below (Below.refl B W4).drew
  have hr4 := (hr.below (hb1.mono hB)).below (Below.refl B W4).drew
  have hB4 : B ≤ W4.drew.heap.size := by show B ≤ W4.heap.size; omega
  go_region_law (first
    | (refine step_call rfl 28 #[.agg #[.slice ao g.objs.length co, .slice ar g.roots.length cr]] (by go_simp) (fun v w6 => ∃ a6 c6, v = .slice a6 (orderOf g).length c6 ∧ Ints w6.heap.size w6 a6 (orderOf g) ∧ Below W4.heap.size W4 w6) ((order_c ao ar co cr g B _ ho4 hr4 hB4 hG).mono (by rintro e w6 ⟨a6, c6, rfl, hI6, hb6⟩; exact ⟨_, rfl, a6, c6, rfl, hI6, (Below.refl _ _).drew.trans hb6⟩)) ?_; rintro v6 w6 ⟨a6, c6, rfl, hI6, hb6⟩; have hs6 := hb6.size; have g06 := (hb6.cell (p := ⟨w.heap.size, 0, none⟩) (by simp; omega)).trans g0; have g16 := (hb6.cell (p := ⟨w.heap.size, 1, none⟩) (by simp; omega)).trans g1; have hbw6 : Below w.heap.size w w6 := hb1.trans (hb6.mono (by omega)); have ho6 : Objs w6.heap.size w6 ao g.objs := (ho.below (hbw6.mono hB)).mono (by have := hbw6.size; omega); have hr6 : Vals w6.heap.size w6 ar g.roots := (hr.below (hbw6.mono hB)).mono (by have := hbw6.size; omega))
    | (refine step_call rfl 27 #[.agg #[.slice ao g.objs.length co, .slice ar g.roots.length cr], .slice a6 (orderOf g).length c6] (by go_simp) (fun v w7 => ∃ ao' co' ar' cr', v = .agg #[.slice ao' (canonG g).objs.length co', .slice ar' (canonG g).roots.length cr'] ∧ (∃ base es, w6.heap.size ≤ base ∧ ObjRow w7 base (.slice ao' (canonG g).objs.length co') (canonG g).objs es) ∧ Vals w7.heap.size w7 ar' (canonG g).roots ∧ (∀ b off, ar' = some ⟨b, off, none⟩ → w6.heap.size ≤ b) ∧ Below w6.heap.size w6 w7) ((renum_c ao ar a6 co cr c6 g (orderOf g) w6 ho6 hr6 hI6 hG (by unfold orderOf; omega) (fun o h => order_ok hG h)).mono (by rintro e w7 ⟨x1, x2, x3, x4, rfl, x5, x6, x7, x8⟩; exact ⟨_, rfl, x1, x2, x3, x4, rfl, x5, x6, x7, x8⟩)) ?_; rintro v7 w7 ⟨ao', co', ar', cr', rfl, ⟨base7, es7, hbase7, hO7⟩, hV7, hbs7, hb7⟩; have q07 := (hb7.cell (p := ⟨w.heap.size + 1, 0, none⟩) (by simp; omega)).trans ((hb6.cell (p := ⟨w.heap.size + 1, 0, none⟩) (by simp; omega)).trans q0); have q17 := (hb7.cell (p := ⟨w.heap.size + 1, 1, none⟩) (by simp; omega)).trans ((hb6.cell (p := ⟨w.heap.size + 1, 1, none⟩) (by simp; omega)).trans q1); have f07 := (hb7.frozen (p := ⟨w.heap.size + 1, 0, none⟩) (by simp; omega)).trans ((hb6.frozen (p := ⟨w.heap.size + 1, 0, none⟩) (by simp; omega)).trans f0); have f17 := (hb7.frozen (p := ⟨w.heap.size + 1, 1, none⟩) (by simp; omega)).trans ((hb6.frozen (p := ⟨w.heap.size + 1, 1, none⟩) (by simp; omega)).trans f1)))
  all_goals
    go_wp2
    refine bodyPost_ret (v := .agg #[.slice ao' (canonG g).objs.length co', .slice ar' (canonG g).roots.length cr']) (by simp [results, Try.results17, go_sem, q07, q17]) rfl ?_
    obtain ⟨va', vc', hv, hO⟩ := ((hO7.setCell (p := ⟨w.heap.size + 1, 0, none⟩) (by simp; omega) (.slice ao' (canonG g).objs.length co')).setCell (p := ⟨w.heap.size + 1, 1, none⟩) (by simp; omega) (.slice ar' (canonG g).roots.length cr')).objs (by simp only [canonG, List.length_map]; unfold orderOf; omega)
    injection hv with h1 _ h3
    subst h1 h3
    refine ⟨_, _, ar', cr', rfl, hO, ?_, ?_⟩
    · refine Vals.mono ((hV7.setCell ⟨w.heap.size + 1, 0, none⟩ (.slice ao' (canonG g).objs.length co') (fun b off e => ?_)).setCell ⟨w.heap.size + 1, 1, none⟩ (.slice ar' (canonG g).roots.length cr') (fun b off e => ?_)) (by simp [World.setCell])
      · have := hbs7 b off e; simp; omega
      · have := hbs7 b off e; simp; omega
    · exact ((hbw6.trans (hb7.mono (by have := hbw6.size; omega))).setCell (p := ⟨w.heap.size + 1, 0, none⟩) (by simp) _).setCell (p := ⟨w.heap.size + 1, 1, none⟩) (by simp) _

end Go.Proofs.Ytmelhphhealomaa
