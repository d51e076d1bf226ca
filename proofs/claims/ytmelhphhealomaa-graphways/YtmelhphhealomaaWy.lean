/- A slice of numbers that came in, opened. -/
import Derived.Test.YtmelhphhealomaaWt
import Derived.Test.YtmelhphhealomaaWv
namespace Go.Proofs.Ytmelhphhealomaa
set_option linter.unusedSimpArgs false
set_option linter.unusedVariables false
open Go.RowKit Go.Joins Go.Deep Go.ChangeShapes Go.WideShapes

section
variable {H : Type} {enc : TypeId × Value → H} {w : World} {base : Nat} {spare : Nat → Bool} {held : Bool}

theorem ints_of_trod {fuel : Nat} {cs : List Value} {x : DataW H × List MemPlace} (h : DataW.trod enc Try.prog w base spare held fuel 31 cs = some x) : ∃ a cap l, cs = [.slice a l.length cap] ∧ Ints w.heap.size w a l := by
  have e3 : Try.prog.cellsOf 3 = 1 := by kernel_rfl
  rcases open_slice1 Try.underlying31 e3 h with ⟨rfl, _⟩ | ⟨a, len, cap, m, n, V', D, Pl, rfl, hb, hl, hm, hmm, _, hx⟩
  · exact ⟨none, 0, [], rfl, by simp, fun h => absurd rfl h⟩
  · have hle : len ≤ m := by rw [hmm]; split <;> omega
    have hex : ∀ i, i < len → ∃ l : Int, w.cell? (a.add i) = some (.int .i64 l) := by
      intro i hi
      obtain ⟨h1, h2⟩ := hx i (by omega)
      obtain ⟨q, hq, _⟩ := DataW.trod_int Try.underlying3 h2
      simp at hq
      exact ⟨q, by rw [h1, hq]⟩
    obtain ⟨f, hf⟩ := choose_lt (α := Int) (p := fun i l => w.cell? (a.add i) = some (.int .i64 l)) hex
    refine ⟨some a, cap, (List.range len).map f, by simp, ⟨by simp only [List.length_map, List.length_range]; simp only [maxLen] at hm; omega, fun hne => ?_⟩⟩
    have hpos : 0 < len := by
      rcases Nat.eq_zero_or_pos len with h0 | h0
      · subst h0; simp at hne
      · exact h0
    have h00 := hf 0 hpos
    obtain ⟨b, off, rfl, _⟩ := addr_plain (a := a) (i := 0) h00 ⟨_, by simpa [Addr.add] using h00⟩
    have hplain : ∀ i, (⟨b, off, none⟩ : Addr).add i = ⟨b, off + i, none⟩ := fun i => Go.WideShapes.add_plain _ _ _
    refine ⟨b, off, rfl, World.block_lt_of_cell? w ⟨b, off + 0, none⟩ (by rw [← hplain]; exact h00), fun k l hk => ?_⟩
    have hkl : k < len := by
      have := (List.getElem?_eq_some_iff.1 hk).1
      simpa using this
    have hv : f k = l := by simpa [hkl] using hk
    have := hf k hkl
    rw [hv, hplain] at this
    exact this

theorem ints_of_Trod {r : Reach} {b0 : Nat} {v : Value} {d : DataW H} {p : List MemPlace} (hv : Value.okWide Try.prog w r b0 31 v) (h : DataW.Trod enc Try.prog w base spare held 31 v d p) :
    ∃ a cap l, v = .slice a l.length cap ∧ Ints w.heap.size w a l := by
  obtain ⟨a0, len, cap, rfl⟩ := okWide_slice Try.underlying31 hv
  obtain ⟨fuel, hf⟩ := h
  obtain ⟨a, c, l, hcs, hI⟩ := ints_of_trod hf
  simp [Value.cells] at hcs
  obtain ⟨rfl, rfl, rfl⟩ := hcs
  exact ⟨_, _, l, rfl, hI⟩

end
end Go.Proofs.Ytmelhphhealomaa
