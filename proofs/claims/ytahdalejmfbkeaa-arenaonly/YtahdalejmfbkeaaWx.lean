/- An arena that came in, opened. -/
import Derived.Test.YtahdalejmfbkeaaWt
import Derived.Test.YtahdalejmfbkeaaAa
namespace Go.Proofs.Ytahdalejmfbkeaa
set_option linter.unusedSimpArgs false
set_option maxRecDepth 100000
set_option linter.unusedVariables false
open Go.RowKit Go.Joins Go.Deep Go.ChangeShapes Go.WideShapes

section
variable {H : Type} {enc : TypeId × Value → H} {w : World} {base : Nat} {spare : Nat → Bool} {held : Bool}

theorem words_of_trod {fuel : Nat} {cs : List Value} {x : DataW H × List MemPlace} (h : DataW.trod enc Try.prog w base spare held fuel 22 cs = some x) : ∃ a cap l, cs = [.slice a l.length cap] ∧ Wds w.heap.size w a l ∧ U64 l ∧ l.length ≤ cap := by
  have e3 : Try.prog.cellsOf 54 = 1 := by kernel_rfl
  rcases open_slice1 Try.underlying22 e3 h with ⟨rfl, _⟩ | ⟨a, len, cap, m, n, V', D, Pl, rfl, hb, hl, hm, hmm, _, hx⟩
  · exact ⟨none, 0, [], rfl, ⟨by simp, fun h => absurd rfl h⟩, fun x hx => by simp at hx, by simp⟩
  · have hle : len ≤ m := by rw [hmm]; split <;> omega
    have hex : ∀ i, i < len → ∃ l : Int, w.cell? (a.add i) = some (.int .u64 l) ∧ 0 ≤ l ∧ l < 18446744073709551616 := by
      intro i hi
      obtain ⟨h1, h2⟩ := hx i (by omega)
      obtain ⟨q, hq, _, hwf⟩ := DataW.trod_int Try.underlying54 h2
      simp at hq
      have := bounds_u64 hwf
      exact ⟨q, by rw [h1, hq], this.1, by omega⟩
    obtain ⟨f, hf⟩ := choose_lt (α := Int) (p := fun i l => w.cell? (a.add i) = some (.int .u64 l) ∧ 0 ≤ l ∧ l < 18446744073709551616) hex
    refine ⟨some a, cap, (List.range len).map f, by simp, ⟨by simp only [List.length_map, List.length_range]; simp only [maxLen] at hm; omega, fun hne => ?_⟩, ?_, by simpa using hl⟩
    · have hpos : 0 < len := by
        rcases Nat.eq_zero_or_pos len with h0 | h0
        · subst h0; simp at hne
        · exact h0
      have h00 := (hf 0 hpos).1
      obtain ⟨b, off, rfl, _⟩ := addr_plain (a := a) (i := 0) h00 ⟨_, by simpa [Addr.add] using h00⟩
      have hplain : ∀ i, (⟨b, off, none⟩ : Addr).add i = ⟨b, off + i, none⟩ := fun i => Go.WideShapes.add_plain _ _ _
      refine ⟨b, off, rfl, World.block_lt_of_cell? w ⟨b, off + 0, none⟩ (by rw [← hplain]; exact h00), fun k l hk => ?_⟩
      have hkl : k < len := by
        have := (List.getElem?_eq_some_iff.1 hk).1
        simpa using this
      have hv : f k = l := by simpa [hkl] using hk
      have := (hf k hkl).1
      rw [hv, hplain] at this
      exact this
    · intro x hx
      obtain ⟨i, hi, rfl⟩ := List.mem_map.1 hx
      exact (hf i (List.mem_range.1 hi)).2

theorem arena_of_trod {r : Reach} {b0 : Nat} {v : Value} {d : DataW H} {p : List MemPlace} (hv : Value.okWide Try.prog w r b0 24 v) (h : DataW.Trod enc Try.prog w base spare held 24 v d p) :
    ∃ aw cw ar cr, ∃ ws rs : List Int, v = .agg #[.slice aw ws.length cw, .slice ar rs.length cr] ∧ Wds w.heap.size w aw ws ∧ Wds w.heap.size w ar rs ∧ U64 ws ∧ U64 rs ∧ ws.length ≤ cw := by
  obtain ⟨c0, c1, y0, y1, m, rfl, _, _, hy0, hy1⟩ := open_agg2 Try.underlying24 (by kernel_rfl) (by kernel_rfl) hv h
  obtain ⟨ao, co, L, h0, hO, hU, hc⟩ := words_of_trod hy0
  obtain ⟨ar, cr, l, h1, hV, hU2, _⟩ := words_of_trod hy1
  simp at h0 h1
  exact ⟨ao, co, ar, cr, L, l, by rw [h0, h1], hO, hV, hU, hU2, hc⟩

end
end Go.Proofs.Ytahdalejmfbkeaa
