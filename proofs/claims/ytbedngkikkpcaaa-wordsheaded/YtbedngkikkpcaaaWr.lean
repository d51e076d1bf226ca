/- A value, a header that came in, opened. -/
import Derived.Test.YtbedngkikkpcaaaProg
import Derived.ProofKit
import Derived.OpenShut
import Derived.Lib.SmallJoins
import Derived.Deep.Slices
namespace Go.Proofs.Ytbedngkikkpcaaa
set_option linter.unusedSimpArgs false
set_option linter.unusedVariables false
open Go.RowKit Go.Joins Go.Deep Go.ChangeShapes Go.WideShapes

section
variable {H : Type} {enc : TypeId × Value → H} {w : World} {base : Nat} {spare : Nat → Bool} {held : Bool}

theorem value_in {r : Reach} {b0 : Nat} {v : Value} {d : DataW H} {p : List MemPlace} (hv : Value.okWide Try.prog w r b0 23 v) (h : DataW.Trod enc Try.prog w base spare held 23 v d p) :
    ∃ q n, v = .agg #[.bool q, .int .i64 n] ∧ -9223372036854775808 ≤ n ∧ n ≤ 9223372036854775807 := by
  obtain ⟨c0, c1, y0, y1, m, rfl, _, _, hy0, hy1⟩ := open_agg2 Try.underlying23 (by kernel_rfl) (by kernel_rfl) hv h
  obtain ⟨q, hq, _⟩ := DataW.trod_bool Try.underlying4 hy0
  obtain ⟨n, hn, _, hw⟩ := DataW.trod_int Try.underlying2 hy1
  simp at hq hn
  exact ⟨q, n, by rw [hq, hn], bounds_i64 hw⟩

theorem header_in {r : Reach} {b0 : Nat} {v : Value} {d : DataW H} {p : List MemPlace} (hv : Value.okWide Try.prog w r b0 32 v) (h : DataW.Trod enc Try.prog w base spare held 32 v d p) :
    ∃ l m a, v = .agg #[.int .i64 l, .bool m, .int .i64 a] := by
  obtain ⟨c0, c1, c2, y0, y1, y2, m, rfl, _, _, hy0, hy1, hy2⟩ := open_agg3 Try.underlying32 (by kernel_rfl) (by kernel_rfl) hv h
  obtain ⟨l, hl, _⟩ := DataW.trod_int Try.underlying3 hy0
  obtain ⟨q, hq, _⟩ := DataW.trod_bool Try.underlying4 hy1
  obtain ⟨a, ha, _⟩ := DataW.trod_int Try.underlying3 hy2
  simp at hq hl ha
  exact ⟨l, q, a, by rw [hq, hl, ha]⟩

end
end Go.Proofs.Ytbedngkikkpcaaa
