/- Walks: Canon. -/
import Derived.Test.YthpmckfgngkbhaaProg
import Derived.Test.YthpmckfgngkbhaaMem
import Derived.Test.YthpmckfgngkbhaaWp
namespace Go.Proofs.Ythpmckfgngkbhaa
set_option linter.unusedSimpArgs false
set_option linter.unusedVariables false
open Go.RowKit

theorem Vals.setCell {B : Nat} {W : World} {a : Option Addr} {l : List V} (h : Vals B W a l) (p : Addr) (u : Value) (hp : ∀ b off, a = some ⟨b, off, none⟩ → b ≠ p.block) : Vals B (W.setCell p u) a l := by
  refine ⟨h.1, fun hne => ?_⟩
  obtain ⟨b, off, rfl, hB, hc⟩ := h.2 hne
  have hblk := Below.heap_setCell W p u b (hp b off rfl)
  refine ⟨b, off, rfl, hB, fun j v hj => ?_⟩
  rw [World.cell?_of_block (a := ⟨b, off + j * 2, none⟩) hblk, World.cell?_of_block (a := ⟨b, off + j * 2 + 1, none⟩) hblk]
  exact hc j v hj

end Go.Proofs.Ythpmckfgngkbhaa
