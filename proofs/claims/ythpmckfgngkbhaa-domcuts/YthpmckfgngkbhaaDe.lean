/- Walks: wayBack. -/
import Derived.Test.YthpmckfgngkbhaaProg
import Derived.Test.YthpmckfgngkbhaaMem
import Derived.Test.YthpmckfgngkbhaaDd
namespace Go.Proofs.Ythpmckfgngkbhaa
set_option linter.unusedSimpArgs false
set_option linter.unusedVariables false
open Go.RowKit Go.Shelf

theorem storeFn (P : Program) (w : World) (a : Addr) (m : Mode) (fn : Fn) (first captured : Array Value) : (store a (.func fn first captured) m).run P w = stored P w a (.func fn first captured) m := run_store P w a _ m rfl
attribute [local go_sem] storeFn

theorem World.alloc_heap_new' (w : World) (o : Obj) (k : Nat) (hk : k = w.heap.size) : (w.alloc o).heap[k]? = some o := by subst hk; exact World.alloc_heap_new w o

theorem seenL_nil (N : Nat) : boolsV (seenL N []) = List.replicate N (.bool false) := by
  refine List.ext_getElem? fun j => ?_
  by_cases hj : j < N
  · simp [boolsV, seenL_get [] hj, hj]
  · rw [List.getElem?_eq_none (by simp [boolsV, seenL_len]; omega), List.getElem?_eq_none (by simp; omega)]

theorem numL_nil (N : Nat) : numL N [] = List.replicate N (-1) := by
  refine List.ext_getElem? fun j => ?_
  by_cases hj : j < N
  · simp [numL_get [] hj, hj, numAt]
  · rw [List.getElem?_eq_none (by simp [numL_len]; omega), List.getElem?_eq_none (by simp; omega)]

theorem refsOkN_roots {g : Gr} (h : Good g) : RefsOkN g.objs.length g.roots := fun v hv hr => h.rr v hv hr

set_option maxRecDepth 100000 in
set_option maxHeartbeats 4000000 in
theorem wayBack_c (ao ar : Option Addr) (co cr : Nat) (g : Gr) (wo : Int) (B : Nat) (w : World) (ho : Objs B w ao g.objs) (hr : Vals B w ar g.roots) (hB : B ≤ w.heap.size) (hG : Good g) :
    Calls Try.prog 21 #[.agg #[.slice ao g.objs.length co, .slice ar g.roots.length cr], .int .i64 wo] w fun e w' => ∃ vo gb, e = .returned (.agg #[vo, .slice (some ⟨gb, 0, none⟩) g.objs.length g.objs.length]) ∧ vo.ownBlock ≠ some gb ∧
      w'.ownsRow w.heap.size 3 1 vo (backL g wo).length (intsV (backL g wo)) ∧ w'.ownsRow w.heap.size 3 1 (.slice (some ⟨gb, 0, none⟩) g.objs.length g.objs.length) g.objs.length (intsV (numL g.objs.length (backL g wo))) ∧ Below w.heap.size w w' := by
  obtain ⟨i4, hi, hz0, hz1, hz2⟩ := info_parts Try.info4
  have ho1 := ho.1
  have hr1 := hr.1
  have hn24 := hG.n24
  have hn8 := hG.n8
  obtain ⟨W3, hW3⟩ : ∃ W3, ((w.alloc (.cells #[.slice ao g.objs.length co, .slice ar g.roots.length cr] 25)).alloc (.cells #[.int .i64 wo] 3)).alloc (.cells #[.slice none 0 0, .slice none 0 0] 43) = W3 := ⟨_, rfl⟩
  have hs3 : W3.heap.size = w.heap.size + 3 := by rw [← hW3]; simp
  have hb3 : Below w.heap.size w W3 := by rw [← hW3]; exact (((Below.refl _ _).alloc (Nat.le_refl _) _).alloc (by simp) _).alloc (by simp; omega) _
  have hg0 : W3.cell? ⟨w.heap.size, 0, none⟩ = some (.slice ao g.objs.length co) := by rw [← hW3]; simp [go_sem]
  have hg1 : W3.cell? ⟨w.heap.size, 1, none⟩ = some (.slice ar g.roots.length cr) := by rw [← hW3]; simp [go_sem]
  have hg2 : W3.cell? ⟨w.heap.size + 1, 0, none⟩ = some (.int .i64 wo) := by rw [← hW3]; simp [go_sem]
  have hgr : W3.heap[w.heap.size + 2]? = some (.cells #[.slice none 0 0, .slice none 0 0] 43) := by rw [← hW3]; exact World.alloc_heap_new' _ _ _ (by simp)
  have hg3 : W3.cell? ⟨w.heap.size + 2, 0, none⟩ = some (.slice none 0 0) := by rw [← hW3]; simp [go_sem]
  have hg4 : W3.cell? ⟨w.heap.size + 2, 1, none⟩ = some (.slice none 0 0) := by rw [← hW3]; simp [go_sem]
  have hg5 : W3.frozen? ⟨w.heap.size + 2, 0, none⟩ = false := by rw [← hW3]; simp [go_sem]
  have hg6 : W3.frozen? ⟨w.heap.size + 2, 1, none⟩ = false := by rw [← hW3]; simp [go_sem]
  go_enter Try.func21, Try.ntmps21
  go_wp2_with fail
  clear hW3
  refine (filled_c g.objs.length (-1) W3 (by omega)).mono ?_
  rintro e w1 ⟨rfl, hrow1, hb1, hs1, _⟩
  rw [hs3] at hs1 hrow1 hb1 ⊢
  have hs1 : w1.heap.size = w.heap.size + 4 := by omega
  have hc0 := (hb1.cell (p := ⟨w.heap.size, 0, none⟩) (by simp)).trans hg0
  have hc1 := (hb1.cell (p := ⟨w.heap.size, 1, none⟩) (by simp)).trans hg1
  have hc2 := (hb1.cell (p := ⟨w.heap.size + 1, 0, none⟩) (by simp)).trans hg2
  have hc3 := (hb1.cell (p := ⟨w.heap.size + 2, 0, none⟩) (by simp)).trans hg3
  have hc4 := (hb1.cell (p := ⟨w.heap.size + 2, 1, none⟩) (by simp)).trans hg4
  have hc5 := (hb1.frozen (p := ⟨w.heap.size + 2, 0, none⟩) (by simp)).trans hg5
  have hc6 := (hb1.frozen (p := ⟨w.heap.size + 2, 1, none⟩) (by simp)).trans hg6
  have hcr2 := (hb1.block (w.heap.size + 2) (by omega)).trans hgr
  have hbw1 : Below w.heap.size w w1 := hb3.trans (hb1.mono (by omega))
  clear hgr hg0 hg1 hg2 hg3 hg4 hg5 hg6 hb1 hb3 hs3
  have hA0 : (w1.alloc (.cells #[.slice none 0 0, .slice (some ⟨w.heap.size + 3, 0, none⟩) g.objs.length g.objs.length] 43)).cell? ⟨w.heap.size + 4, 0, none⟩ = some (.slice none 0 0) := by rw [← hs1]; simp [go_sem]
  have hA1 : (w1.alloc (.cells #[.slice none 0 0, .slice (some ⟨w.heap.size + 3, 0, none⟩) g.objs.length g.objs.length] 43)).cell? ⟨w.heap.size + 4, 1, none⟩ = some (.slice (some ⟨w.heap.size + 3, 0, none⟩) g.objs.length g.objs.length) := by rw [← hs1]; simp [go_sem]
  have hA2 : (w1.alloc (.cells #[.slice none 0 0, .slice (some ⟨w.heap.size + 3, 0, none⟩) g.objs.length g.objs.length] 43)).frozen? ⟨w.heap.size + 4, 0, none⟩ = false := by rw [← hs1]; simp [go_sem]
  have hbA := (Below.refl (w.heap.size + 4) w1).alloc (by omega) (.cells #[.slice none 0 0, .slice (some ⟨w.heap.size + 3, 0, none⟩) g.objs.length g.objs.length] 43)
  go_wp2_with (at_make; go_must (refine wpList_make_at _ rfl _ _ 62 rfl (w.heap.size + 3) 4 i4 _ 1 Try.underlying62 hi hz0 hz1 .i64 .i64 _ _ g.objs.length rfl rfl rfl rfl (by rw [hz2]; omega) (by simp only [maxLen]; omega) (by simp; omega) ?_); go_must (intro w5 hown5 hg5 hs5; simp only [World.size_alloc, hs1, Nat.add_assoc, Nat.reduceAdd] at hown5 hs5 ⊢; have hb5 := hg5.cell hA0 (by simp); have hc5x := (World.frozen?_of_block (a := ⟨w.heap.size + 4, 0, none⟩) (hg5.block (w.heap.size + 4) (by rw [World.size_alloc, hs1]; omega) (by simp))).trans hA2; have hd5 := hg5.cell hA1 (by simp); have hbB := hbA.grown hg5 (by rw [World.size_alloc, hs1]; omega) (fun k e => by cases e); have hcg := (hbB.cell (p := ⟨w.heap.size, 0, none⟩) (by simp)).trans hc0; have hcr := (hbB.cell (p := ⟨w.heap.size, 1, none⟩) (by simp)).trans hc1; have hlt5 : w.heap.size < w5.heap.size := (by omega); have Hs5 := hide hs5; clear hs5))
  simp only [unhide Hs5, Nat.add_assoc, Nat.reduceAdd]
  have hs5 := unhide Hs5
  obtain ⟨W0, hW⟩ : ∃ W0, (w5.alloc (.cells #[.slice (some ⟨w.heap.size + 5, 0, none⟩) g.objs.length g.objs.length] 62)).alloc (.cells #[.func (.func 35) #[] #[.pointer (some ⟨w.heap.size + 1, 0, none⟩), .pointer (some ⟨w.heap.size + 6, 0, none⟩), .pointer (some ⟨w.heap.size + 7, 0, none⟩), .pointer (some ⟨w.heap.size, 0, none⟩), .pointer (some ⟨w.heap.size + 4, 0, none⟩)]] 63) = W0 := ⟨_, rfl⟩
  rw [hW]
  have hk5 : ∀ k, k < w.heap.size + 6 → W0.heap[k]? = w5.heap[k]? := fun k hk => by rw [← hW]; exact (Below.heap_alloc _ _ k (by rw [World.size_alloc]; omega)).trans (Below.heap_alloc _ _ k (by omega))
  have hbW : Below w.heap.size w W0 := by rw [← hW]; exact ((hbw1.trans (hbB.mono (by omega))).alloc (by omega) _).alloc (by rw [World.size_alloc]; omega) _
  have hF0 : WB W0 w.heap.size ao g.objs.length co wo ([], []) (.slice none 0 0) := by
    refine ⟨?_, ?_, ?_, ?_, ?_, ?_, ?_, ?_, ?_, World.ownsRow_nil _ _ _ _, ?_⟩
    · exact (World.cell?_of_block (a := ⟨w.heap.size, 0, none⟩) (hk5 w.heap.size (by omega))).trans hcg
    · exact (World.cell?_of_block (a := ⟨w.heap.size + 1, 0, none⟩) (hk5 (w.heap.size + 1) (by omega))).trans ((hbB.cell (p := ⟨w.heap.size + 1, 0, none⟩) (by simp)).trans hc2)
    · rw [← hW, show w.heap.size + 7 = (w5.alloc (.cells #[.slice (some ⟨w.heap.size + 5, 0, none⟩) g.objs.length g.objs.length] 62)).heap.size by rw [World.size_alloc]; omega]; simp [go_sem]
    · have e : W0.heap[w.heap.size + 6]? = some (.cells #[.slice (some ⟨w.heap.size + 5, 0, none⟩) g.objs.length g.objs.length] 62) := by
        rw [← hW]
        exact (Below.heap_alloc _ _ _ (by rw [World.size_alloc]; omega)).trans (World.alloc_heap_new' _ _ _ (by omega))
      exact cell_of_one e
    · exact (World.cell?_of_block (a := ⟨w.heap.size + 4, 0, none⟩) (hk5 (w.heap.size + 4) (by omega))).trans hb5
    · exact (World.cell?_of_block (a := ⟨w.heap.size + 4, 1, none⟩) (hk5 (w.heap.size + 4) (by omega))).trans hd5
    · exact (World.frozen?_of_block (a := ⟨w.heap.size + 4, 0, none⟩) (hk5 (w.heap.size + 4) (by omega))).trans hc5x
    · rw [seenL_nil]
      have e : (madeCells (Value.bool false).cells (g.objs.length * 1)).toList = List.replicate g.objs.length (.bool false) := by rw [Nat.mul_one]; exact toList_madeCells_one _ _
      rw [e] at hown5
      exact row_block hown5 (hk5 _ (by omega))
    · rw [numL_nil]
      exact row_block hrow1 ((hk5 _ (by omega)).trans (hbB.block _ (by omega)))
    · exact (hk5 _ (by omega)).trans ((hbB.block _ (by omega)).trans hcr2)
  clear hW hk5 hb5 hd5 hc5x hown5 hrow1 hcg hcr hbB hbA hA0 hA1 hA2 hc0 hc1 hc2 hc3 hc4 hc5 hc6
  refine (visit_c g hG wo ao co B w.heap.size hB (g.objs.length + 1) ar cr g.roots ([], []) _ W0 hF0 (ho.below (hbW.mono hB)) (hr.below (hbW.mono hB)) (refsOkN_roots hG) (by omega) (sok_nil _) (by simp)).mono ?_
  rintro e w6 ⟨rfl, ⟨vo, hF⟩, hb6, _⟩
  have hF : WB w6 w.heap.size ao g.objs.length co wo (wayF g wo) vo := hF
  obtain ⟨oa, oc, rfl⟩ := ownsRow_slice hF.ord
  have hc0 := hF.c0
  have hc1 := hF.c1
  have hres := hF.res
  have hr0 : w6.cell? ⟨w.heap.size + 2, 0, none⟩ = some (.slice none 0 0) := by simp [World.cell?, hres]
  have hr1 : w6.cell? ⟨w.heap.size + 2, 1, none⟩ = some (.slice none 0 0) := by simp [World.cell?, hres]
  have hr2 : w6.frozen? ⟨w.heap.size + 2, 0, none⟩ = false := by simp [World.frozen?, hres]
  have hr3 : w6.frozen? ⟨w.heap.size + 2, 1, none⟩ = false := by simp [World.frozen?, hres]
  have Hres := hide hres
  clear hres
  go_wp2
  refine bodyPost_ret (v := .agg #[.slice oa (wayF g wo).2.length oc, .slice (some ⟨w.heap.size + 3, 0, none⟩) g.objs.length g.objs.length]) (by simp [results, Try.results21, go_sem, hr0, hr1]) rfl ⟨_, w.heap.size + 3, rfl, ord_ne hF.ord (by omega), ?_, ?_, ?_⟩
  · have h1 := ownsRow_setCell_other (ownsRow_setCell_other hF.ord (a := ⟨w.heap.size + 2, 0, none⟩) (ord_ne hF.ord (by simp)) (.slice oa (wayF g wo).2.length oc)) (a := ⟨w.heap.size + 2, 1, none⟩) (ord_ne hF.ord (by simp)) (.slice (some ⟨w.heap.size + 3, 0, none⟩) g.objs.length g.objs.length)
    exact ⟨h1.1, h1.2.imp id fun ⟨g', cap, cur, e1, e2, e3⟩ => ⟨g', cap, cur, e1, by omega, e3⟩⟩
  · have h1 := ownsRow_setCell_other (ownsRow_setCell_other hF.num (a := ⟨w.heap.size + 2, 0, none⟩) (by simp [Value.ownBlock]) (.slice oa (wayF g wo).2.length oc)) (a := ⟨w.heap.size + 2, 1, none⟩) (by simp [Value.ownBlock]) (.slice (some ⟨w.heap.size + 3, 0, none⟩) g.objs.length g.objs.length)
    exact ⟨h1.1, h1.2.imp id fun ⟨g', cap, cur, e1, e2, e3⟩ => ⟨g', cap, cur, e1, by omega, e3⟩⟩
  · exact ((hbW.trans hb6).setCell (p := ⟨w.heap.size + 2, 0, none⟩) (by simp) _).setCell (p := ⟨w.heap.size + 2, 1, none⟩) (by simp) _

end Go.Proofs.Ythpmckfgngkbhaa
