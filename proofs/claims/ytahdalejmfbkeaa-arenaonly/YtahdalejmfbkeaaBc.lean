/- Walks: split. -/
import Derived.Test.YtahdalejmfbkeaaBb
namespace Go.Proofs.Ytahdalejmfbkeaa
set_option linter.unusedSimpArgs false
set_option linter.unusedVariables false
open Go.RowKit Go.Shelf

def SplitRes (ws : List Int) (w0 : World) (B : Nat) (e : Ending) (W : World) : Prop :=
  ∃ mb vs vf es M D er, e = .returned (.tuple #[.agg #[vs, vf, .map (some mb)], .int .i64 er]) ∧ w0.heap.size ≤ mb ∧ D.length ≤ 256 ∧ Rowd W w0 B mb D vs vf es M ∧ ((splitR ws = none ∧ er = 4) ∨ (splitR ws = some D ∧ er = 0))

set_option maxRecDepth 100000 in
set_option maxHeartbeats 2000000 in
theorem split_c (a : Option Addr) (cap : Nat) (ws : List Int) (B : Nat) (w : World) (hl : Wds B w a ws) (hU : U64 ws) (hn : ws.length ≤ 256) (hcap : ws.length ≤ cap) (hB : B ≤ w.heap.size) :
    Calls Try.prog 40 #[.slice a ws.length cap] w fun e w' => SplitRes ws w B e w' ∧ Below w.heap.size w w' := by
  have hmm := @run_makeMap Try.prog
  have hW0 : ∀ W0, (((w.alloc (.cells #[.slice none 0 0, .slice none 0 0, .map none] 79)).alloc (.map #[] 0)).alloc (.cells #[.slice none 0 0, .slice none 0 0, .map (some (w.heap.size + 1))] 79)) = W0 →
      Rowd W0 w B (w.heap.size + 1) [] (.slice none 0 0) (.slice none 0 0) [] (.map []) ∧ Below (w.heap.size + 1) (w.alloc (.cells #[.slice none 0 0, .slice none 0 0, .map none] 79)) W0 ∧ Below w.heap.size w W0 ∧ W0.cell? ⟨w.heap.size, 0, none⟩ = some (.slice none 0 0) ∧ W0.cell? ⟨w.heap.size, 1, none⟩ = some (.slice none 0 0) ∧ W0.cell? ⟨w.heap.size, 2, none⟩ = some (.map none) ∧ W0.frozen? ⟨w.heap.size, 0, none⟩ = false ∧ W0.frozen? ⟨w.heap.size, 1, none⟩ = false ∧ W0.frozen? ⟨w.heap.size, 2, none⟩ = false := by
    intro W0 h
    have hmp := World.ownsMap_made (H := Unit) (w.alloc (.cells #[.slice none 0 0, .slice none 0 0, .map none] 79)) Try.prog 3 (plainElem Try.prog 3)
    simp only [World.size_alloc] at hmp
    subst h
    refine ⟨⟨⟨by simp [go_sem], by simp [go_sem], by simp [go_sem], by simp [go_sem], by simp [go_sem]⟩, World.ownsRow_nil _ _ _ _, World.ownsRow_nil _ _ _ _, fun k f h => by simp at h, hmp.alloc _, placeD_nil, by simp [Value.ownBlock]⟩, ?_, ?_, by simp [go_sem], by simp [go_sem], by simp [go_sem], by simp [go_sem], by simp [go_sem], by simp [go_sem]⟩
    · exact ((Below.refl _ _).alloc (by simp) _).alloc (by simp) _
    · exact (((Below.refl _ _).alloc (Nat.le_refl _) _).alloc (by simp) _).alloc (by simp; omega) _
  go_enter Try.func40, Try.ntmps40
  go_wp2_with fail
  obtain ⟨W0, hW⟩ : ∃ W0, (((w.alloc (.cells #[.slice none 0 0, .slice none 0 0, .map none] 79)).alloc (.map #[] 0)).alloc (.cells #[.slice none 0 0, .slice none 0 0, .map (some (w.heap.size + 1))] 79)) = W0 := ⟨_, rfl⟩
  rw [hW]
  obtain ⟨hR0, hb0', hb0, hi0, hi1, hi2, hj0, hj1, hj2⟩ := hW0 W0 hW
  clear hW hW0 hmm
  have hlt0 := hR0.box.lt
  have hR1 : Rowd W0 W0 B (w.heap.size + 1) [] (.slice none 0 0) (.slice none 0 0) [] (.map []) := ⟨hR0.box, hR0.st, hR0.fl, fun k f h => by simp at h, hR0.map, hR0.plc, hR0.apart⟩
  have hcall := walk_c a cap ws B (w.heap.size + 1) W0 W0 _ _ _ _ (hl.below (hb0.mono hB)) hU hn hcap (by omega) (Below.refl _ _) hR1
  have Hb0 := hide hb0
  clear hR0 hb0'
  refine hcall.mono ?_
  rintro e w1 ⟨hres, hb1⟩
  have hs1 := hb1.size
  have hel : ∀ {D es}, ElsOk B W0 D es → ElsOk B w D es := by
    intro D es h k f hk
    obtain ⟨ai, ci, h1, h2⟩ := h k f hk
    refine ⟨ai, ci, h1, ⟨h2.1, fun hne => ?_⟩⟩
    obtain ⟨b, off, rfl, hbB, hc⟩ := h2.2 hne
    exact ⟨b, off, rfl, hbB, fun j v hj => by rw [← hb0.cell (p := ⟨b, off + j, none⟩) (by show b < _; omega)]; exact hc j v hj⟩
  obtain ⟨D, vs, vf, es, M, er, he, hD, hR, hor⟩ : ∃ D vs vf es M er, e = .returned (.int .i64 er) ∧ D.length ≤ 256 ∧ Rowd w1 w B (w.heap.size + 1) D vs vf es M ∧ ((splitR ws = none ∧ er = 4) ∨ (splitR ws = some D ∧ er = 0)) := by
    rcases hres with ⟨h1, h2, D, vs, vf, es, M, h3, h4⟩ | ⟨fs, vs, vf, es, M, h1, h2, h3⟩
    · exact ⟨D, vs, vf, es, M, 4, h2, h3, ⟨h4.box, h4.st, h4.fl, hel h4.el, h4.map, h4.plc, h4.apart⟩, .inl ⟨h1, rfl⟩⟩
    · have := splitR_st h1
      have := tot_len fs
      exact ⟨fs, vs, vf, es, M, 0, h2, by omega, ⟨h3.box, h3.st, h3.fl, hel h3.el, h3.map, h3.plc, h3.apart⟩, .inr ⟨h1, rfl⟩⟩
  subst he
  have Hor := hide hor
  have HR := hide hR
  have c0 := hR.box.c0
  have c1 := hR.box.c1
  have c2 := hR.box.c2
  obtain ⟨sa, sc, rfl⟩ := ownsRow_slice hR.st
  obtain ⟨fa, fc, rfl⟩ := ownsRow_slice hR.fl
  have i0 := (hb1.cell (p := ⟨w.heap.size, 0, none⟩) (by simp)).trans hi0
  have i1 := (hb1.cell (p := ⟨w.heap.size, 1, none⟩) (by simp)).trans hi1
  have i2 := (hb1.cell (p := ⟨w.heap.size, 2, none⟩) (by simp)).trans hi2
  have j0 := (hb1.frozen (p := ⟨w.heap.size, 0, none⟩) (by simp)).trans hj0
  have j1 := (hb1.frozen (p := ⟨w.heap.size, 1, none⟩) (by simp)).trans hj1
  have j2 := (hb1.frozen (p := ⟨w.heap.size, 2, none⟩) (by simp)).trans hj2
  have Hb1 := hide hb1
  clear hres hel hcall hR1 hor hR hb1 hb0 hi0 hi1 hi2 hj0 hj1 hj2
  go_wp2
  refine bodyPost_ret (v := .tuple #[.agg #[.slice sa D.length sc, .slice fa D.length fc, .map (some (w.heap.size + 1))], .int .i64 er]) (by simp [results, Try.results40, go_sem, i0, i1, i2]) rfl ?_
  refine ⟨⟨w.heap.size + 1, _, _, es, M, D, er, rfl, by omega, hD, ?_, unhide Hor⟩, ?_⟩
  · exact (((unhide HR).setCell ⟨w.heap.size, 0, none⟩ (by simp) _).setCell ⟨w.heap.size, 1, none⟩ (by simp) _).setCell ⟨w.heap.size, 2, none⟩ (by simp) _
  · exact ((((unhide Hb0).trans ((unhide Hb1).mono (by omega))).setCell (p := ⟨w.heap.size, 0, none⟩) (by simp) _).setCell (p := ⟨w.heap.size, 1, none⟩) (by simp) _).setCell (p := ⟨w.heap.size, 2, none⟩) (by simp) _

end Go.Proofs.Ytahdalejmfbkeaa
