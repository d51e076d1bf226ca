/- A graph that came in, opened. -/
import Derived.Test.YtmelhphhealomaaProg
import Derived.Test.YtmelhphhealomaaMem
import Derived.ProofKit
import Derived.OpenShut
import Derived.Lib.SmallJoins
import Derived.Deep.Slices
namespace Go.Proofs.Ytmelhphhealomaa
set_option linter.unusedSimpArgs false
set_option linter.unusedVariables false
open Go.RowKit Go.Joins Go.Deep Go.ChangeShapes Go.WideShapes

section
variable {H : Type} {enc : TypeId × Value → H} {w : World} {base : Nat} {spare : Nat → Bool} {held : Bool}

theorem addr_plain {a : Addr} {i : Nat} {v : Value} (h : w.cell? (a.add i) = some v) (h0 : ∃ u, w.cell? a = some u) : ∃ b off, a = ⟨b, off, none⟩ ∧ w.cell? ⟨b, off + i, none⟩ = some v := by
  obtain ⟨b, off, spot⟩ := a
  obtain ⟨u, hu⟩ := h0
  have hspot : spot = none := by simpa using World.cell?_spot hu
  subst hspot
  exact ⟨b, off, rfl, by rw [← Go.WideShapes.add_plain]; exact h⟩

/-- One value, out of its two cells. -/
theorem value_of_trod {fuel : Nat} {cs : List Value} {x : DataW H × List MemPlace} (h : DataW.trod enc Try.prog w base spare held fuel 35 cs = some x) (hl : cs.length = 2) : ∃ r n, cs = [.bool r, .int .i64 n] := by
  obtain ⟨y0, y1, n, _, _, h0, h1⟩ := trod_struct2 Try.underlying35 h
  have e4 : Try.prog.cellsOf 4 = 1 := by kernel_rfl
  have e2 : Try.prog.cellsOf 2 = 1 := by kernel_rfl
  match cs, hl with
  | [c0, c1], _ =>
    simp only [e4, e2, List.drop_zero, List.take_succ_cons, List.take_zero, List.drop_succ_cons] at h0 h1
    obtain ⟨r, hr, _⟩ := DataW.trod_bool Try.underlying4 h0
    obtain ⟨m, hm, _⟩ := DataW.trod_int Try.underlying2 h1
    simp at hr hm
    exact ⟨r, m, by rw [hr, hm]⟩

/-- A slice of values that came in. -/
theorem vals_of_trod {fuel : Nat} {cs : List Value} {x : DataW H × List MemPlace} (h : DataW.trod enc Try.prog w base spare held fuel 23 cs = some x) : ∃ a cap l, cs = [.slice a l.length cap] ∧ Vals w.heap.size w a l := by
  rcases open_slice Try.underlying23 h with ⟨rfl, _⟩ | ⟨a, len, cap, m, n, D, Pl, rfl, hb, hl, hm, hmm, _, hx⟩
  · exact ⟨none, 0, [], rfl, by simp, fun h => absurd rfl h⟩
  · have e35 : Try.prog.cellsOf 35 = 2 := by kernel_rfl
    rw [e35] at hx
    have hle : len ≤ m := by rw [hmm]; split <;> omega
    have hex : ∀ i, i < len → ∃ v : V, w.cell? (a.add (i * 2)) = some (.bool v.1) ∧ w.cell? ((a.add (i * 2)).add 1) = some (.int .i64 v.2) := by
      intro i hi
      obtain ⟨cs', h1, h2⟩ := hx i (by omega)
      obtain ⟨_, hlen, hc⟩ := World.cells?_some h1
      obtain ⟨r, n, rfl⟩ := value_of_trod h2 hlen
      exact ⟨(r, n), by simpa [Addr.add] using hc 0 (by omega), by simpa using hc 1 (by omega)⟩
    obtain ⟨f, hf⟩ := choose_lt (α := V) (p := fun i v => w.cell? (a.add (i * 2)) = some (.bool v.1) ∧ w.cell? ((a.add (i * 2)).add 1) = some (.int .i64 v.2)) hex
    refine ⟨some a, cap, (List.range len).map f, by simp, ⟨by simp only [List.length_map, List.length_range]; simp only [maxLen] at hm; omega, fun hne => ?_⟩⟩
    have hpos : 0 < len := by
      rcases Nat.eq_zero_or_pos len with h0 | h0
      · subst h0; simp at hne
      · exact h0
    have h00 := (hf 0 hpos).1
    obtain ⟨b, off, rfl, _⟩ := addr_plain (a := a) (i := 0) (by simpa using h00) ⟨_, by simpa [Addr.add] using h00⟩
    have hplain : ∀ i, (⟨b, off, none⟩ : Addr).add i = ⟨b, off + i, none⟩ := fun i => Go.WideShapes.add_plain _ _ _
    refine ⟨b, off, rfl, World.block_lt_of_cell? w ⟨b, off + 0 * 2, none⟩ (by rw [← hplain]; exact h00), fun k v hk => ?_⟩
    have hkl : k < len := by
      have := (List.getElem?_eq_some_iff.1 hk).1
      simpa using this
    have hv : f k = v := by simpa [hkl] using hk
    have := hf k hkl
    rw [hv, hplain, Go.WideShapes.add_plain] at this
    exact this

/-- A slice of objects that came in. -/
theorem objs_of_trod {fuel : Nat} {cs : List Value} {x : DataW H × List MemPlace} (h : DataW.trod enc Try.prog w base spare held fuel 22 cs = some x) : ∃ a cap L, cs = [.slice a L.length cap] ∧ Objs w.heap.size w a L := by
  have e43 : Try.prog.cellsOf 43 = 1 := by kernel_rfl
  have e23 : Try.prog.cellsOf 23 = 1 := by kernel_rfl
  rcases open_slice1 Try.underlying22 e43 h with ⟨rfl, _⟩ | ⟨a, len, cap, m, n, V', D, Pl, rfl, hb, hl, hm, hmm, _, hx⟩
  · exact ⟨none, 0, [], rfl, by simp, fun h => absurd rfl h⟩
  · have hle : len ≤ m := by rw [hmm]; split <;> omega
    have hex : ∀ i, i < len → ∃ l : List V, ∃ ai ci, w.cell? (a.add i) = some (.slice ai l.length ci) ∧ Vals w.heap.size w ai l := by
      intro i hi
      obtain ⟨h1, h2⟩ := hx i (by omega)
      obtain ⟨y0, n', _, _, h3⟩ := trod_struct1 Try.underlying43 h2
      simp only [e23, List.drop_zero, List.take_succ_cons, List.take_zero] at h3
      obtain ⟨ai, ci, l, hcs, hv⟩ := vals_of_trod h3
      simp at hcs
      exact ⟨l, ai, ci, by rw [h1, hcs], hv⟩
    obtain ⟨f, hf⟩ := choose_lt (α := List V) (p := fun i l => ∃ ai ci, w.cell? (a.add i) = some (.slice ai l.length ci) ∧ Vals w.heap.size w ai l) hex
    refine ⟨some a, cap, (List.range len).map f, by simp, ⟨by simp only [List.length_map, List.length_range]; simp only [maxLen] at hm; omega, fun hne => ?_⟩⟩
    have hpos : 0 < len := by
      rcases Nat.eq_zero_or_pos len with h0 | h0
      · subst h0; simp at hne
      · exact h0
    obtain ⟨ai0, ci0, h00, _⟩ := hf 0 hpos
    obtain ⟨b, off, rfl, _⟩ := addr_plain (a := a) (i := 0) h00 ⟨_, by simpa [Addr.add] using h00⟩
    have hplain : ∀ i, (⟨b, off, none⟩ : Addr).add i = ⟨b, off + i, none⟩ := fun i => Go.WideShapes.add_plain _ _ _
    refine ⟨b, off, rfl, World.block_lt_of_cell? w ⟨b, off + 0, none⟩ (by rw [← hplain]; exact h00), fun k l hk => ?_⟩
    have hkl : k < len := by
      have := (List.getElem?_eq_some_iff.1 hk).1
      simpa using this
    have hv : f k = l := by simpa [hkl] using hk
    have := hf k hkl
    rw [hv, hplain] at this
    exact this

/-- A graph that came in. -/
theorem graph_of_trod {r : Reach} {b0 : Nat} {v : Value} {d : DataW H} {p : List MemPlace} (hv : Value.okWide Try.prog w r b0 25 v) (h : DataW.Trod enc Try.prog w base spare held 25 v d p) :
    ∃ ao co ar cr, ∃ g : Gr, v = .agg #[.slice ao g.objs.length co, .slice ar g.roots.length cr] ∧ Objs w.heap.size w ao g.objs ∧ Vals w.heap.size w ar g.roots := by
  obtain ⟨c0, c1, y0, y1, m, rfl, _, _, hy0, hy1⟩ := open_agg2 Try.underlying25 (by kernel_rfl) (by kernel_rfl) hv h
  obtain ⟨ao, co, L, h0, hO⟩ := objs_of_trod hy0
  obtain ⟨ar, cr, l, h1, hV⟩ := vals_of_trod hy1
  simp at h0 h1
  exact ⟨ao, co, ar, cr, ⟨L, l⟩, by rw [h0, h1], hO, hV⟩

end
end Go.Proofs.Ytmelhphhealomaa
