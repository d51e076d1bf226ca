/- Walks: the search, walked. -/
import Derived.Test.YtahdalejmfbkeaaProg
import Derived.Test.YtahdalejmfbkeaaMem
import Derived.Test.YtahdalejmfbkeaaWl
namespace Go.Proofs.Ytahdalejmfbkeaa
set_option linter.unusedSimpArgs false
set_option linter.unusedVariables false
open Go.RowKit

theorem Found.drew {W : World} {mb : Nat} {st : List Int × List Int} {vo vd : Value} {D : DataW Unit} (h : Found W mb st vo vd D) : Found W.drew mb st vo vd D :=
  ⟨⟨h.box.c0, h.box.c1, h.box.c2, h.box.f0, h.box.f1⟩, h.ord, h.dis, h.map.drew, h.plc, h.apart⟩

/-- One number of a row of numbers. -/
theorem ints_at {W : World} {base : Nat} {e : TypeId} {v : Value} {l : List Int} (h : W.ownsRow base e 1 v l.length (intsV l)) {k : Nat} (hk : k < l.length) :
    ∃ g cap, v = .slice (some ⟨g, 0, none⟩) l.length cap ∧ W.cell? ⟨g, k, none⟩ = some (.int .i64 l[k]) ∧ g < W.heap.size := by
  rcases h.2 with ⟨_, h0⟩ | ⟨g, cap, cur, rfl, _, hg, _, _, _, htake⟩
  · omega
  · refine ⟨g, cap, rfl, ?_, (Array.getElem?_eq_some_iff.1 hg).1⟩
    rw [cell_of_row W g k cur e (0, 0) hg]
    have h1 : (intsV l)[k]? = some (.int .i64 l[k]) := by simp [intsV, hk]
    rw [← htake, List.getElem?_take] at h1
    split at h1
    · simpa using h1
    · cases h1

theorem searchN_stable (g : Gr) {k : Nat} (h : (searchN g k).1.length ≤ k) : ∀ m, searchN g (k + m) = searchN g k
  | 0 => rfl
  | m + 1 => by
    have ih := searchN_stable g h m
    show searchN g (k + m + 1) = _
    simp only [searchN]
    rw [ih, List.getElem?_eq_none (by omega)]

/-- A box of three cells is kept where a row or a map of the call's own is turned. -/
theorem Found.below {W W' : World} {mb : Nat} {st : List Int × List Int} {vo vd : Value} {D : DataW Unit} (h : Found W mb st vo vd D) (hb : Below W.heap.size W W') : Found W' mb st vo vd D := by
  have hg : W.grownBy W' none := ⟨hb.os, hb.tape, hb.output, hb.size, fun k hk _ => hb.block k hk⟩
  exact h.own hg (fun r e => by cases e)

theorem Found.setCell {W : World} {mb : Nat} {st : List Int × List Int} {vo vd : Value} {D : DataW Unit} (h : Found W mb st vo vd D) (p : Addr) (hp : p.block < mb) (u : Value) : Found (W.setCell p u) mb st vo vd D :=
  ⟨h.box.kept (Below.heap_setCell _ _ _ _ (by omega)), ownsRow_setCell_below h.ord (by omega) u, ownsRow_setCell_below h.dis (by omega) u, h.map.setCell (by omega) u, h.plc, h.apart⟩

end Go.Proofs.Ytahdalejmfbkeaa
