/- Walks: GraphLike. -/
import Derived.Test.YthpmckfgngkbhaaProg
import Derived.Test.YthpmckfgngkbhaaMem
import Derived.Test.YthpmckfgngkbhaaWs
namespace Go.Proofs.Ythpmckfgngkbhaa
set_option linter.unusedSimpArgs false
set_option linter.unusedVariables false
open Go.RowKit

/-- The value of a graph, as it lies in a variable. -/
def gv (ao : Option Addr) (co : Nat) (ar : Option Addr) (cr : Nat) (g : Gr) : Array Value := #[.slice ao g.objs.length co, .slice ar g.roots.length cr]

theorem checkG_beq {g : Gr} (h : checkG g = 0) : (checkG g == 0) = true := by simpa using h
theorem checkG_bne {g : Gr} (h : checkG g = 0) : (checkG g != 0) = false := by simpa using h
theorem checkG_beq' {g : Gr} (h : checkG g ≠ 0) : (checkG g == 0) = false := by simpa using h
theorem checkG_bne' {g : Gr} (h : checkG g ≠ 0) : (checkG g != 0) = true := by simpa using h

theorem like_boxes (ao ar bo br eo er : Option Addr) (aoc arc boc brc eoc erc : Nat) (a b c : Gr) (w : World) (hao : Objs w.heap.size w ao a.objs) (har : Vals w.heap.size w ar a.roots) (hbo : Objs w.heap.size w bo b.objs) (hbr : Vals w.heap.size w br b.roots) (hco : Objs w.heap.size w eo c.objs) (hcr : Vals w.heap.size w er c.roots) :
    ∀ W0, ((w.alloc (.cells #[.slice ao a.objs.length aoc, .slice ar a.roots.length arc] 25)).alloc (.cells #[.slice bo b.objs.length boc, .slice br b.roots.length brc] 25)).alloc (.cells #[.slice eo c.objs.length eoc, .slice er c.roots.length erc] 25) = W0 → W0.heap.size = w.heap.size + 3 ∧ Below w.heap.size w W0 ∧ (∀ X, Below (w.heap.size + 3) W0 X → X.cell? ⟨w.heap.size, 0, none⟩ = some (.slice ao a.objs.length aoc) ∧ X.cell? ⟨w.heap.size, 1, none⟩ = some (.slice ar a.roots.length arc) ∧ X.cell? ⟨w.heap.size + 1, 0, none⟩ = some (.slice bo b.objs.length boc) ∧ X.cell? ⟨w.heap.size + 1, 1, none⟩ = some (.slice br b.roots.length brc) ∧ X.cell? ⟨w.heap.size + 1 + 1, 0, none⟩ = some (.slice eo c.objs.length eoc) ∧ X.cell? ⟨w.heap.size + 1 + 1, 1, none⟩ = some (.slice er c.roots.length erc)) := by
  intro W0 h
  refine ⟨by rw [← h]; simp, by rw [← h]; exact (((Below.refl _ _).alloc (Nat.le_refl _) _).alloc (by simp) _).alloc (by simp; omega) _, fun X hX => ?_⟩
  refine ⟨?_, ?_, ?_, ?_, ?_, ?_⟩
  · rw [hX.cell (p := ⟨w.heap.size, 0, none⟩) (by simp), ← h]; simp [go_sem]
  · rw [hX.cell (p := ⟨w.heap.size, 1, none⟩) (by simp), ← h]; simp [go_sem]
  · rw [hX.cell (p := ⟨w.heap.size + 1, 0, none⟩) (by simp), ← h]; simp [go_sem]
  · rw [hX.cell (p := ⟨w.heap.size + 1, 1, none⟩) (by simp), ← h]; simp [go_sem]
  · rw [hX.cell (p := ⟨w.heap.size + 1 + 1, 0, none⟩) (by simp), ← h]; simp [go_sem]
  · rw [hX.cell (p := ⟨w.heap.size + 1 + 1, 1, none⟩) (by simp), ← h]; simp [go_sem]

theorem sameG_iff (g h : Gr) : sameG g h = true ↔ g = h := by
  cases g; cases h
  simp [sameG, and_comm]
theorem sameG_self (g : Gr) : sameG g g = true := (sameG_iff g g).2 rfl
theorem sameG_comm (g h : Gr) : sameG g h = sameG h g := by
  rw [Bool.eq_iff_iff, sameG_iff, sameG_iff]; exact eq_comm

end Go.Proofs.Ythpmckfgngkbhaa
