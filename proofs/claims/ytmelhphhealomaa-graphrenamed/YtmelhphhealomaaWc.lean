/- Walks. -/
import Derived.Test.YtmelhphhealomaaProg
import Derived.Test.YtmelhphhealomaaMem
namespace Go.Proofs.Ytmelhphhealomaa
set_option linter.unusedSimpArgs false
set_option linter.unusedVariables false
open Go.RowKit

theorem Try.info35 : (Try.prog.info? 35).map (fun i => (i.zero, i.size, i.bytes)) = some (some (.agg #[.bool false, .int .i64 0]), 2, 16) := by kernel_rfl

set_option maxHeartbeats 400000 in
theorem bad_c (r : Bool) (n : Int) (N : Nat) (w : World) :
    Calls Try.prog 25 #[.agg #[.bool r, .int .i64 n], .int .i64 N] w fun e w' => e = .returned (.int .i64 (badV (r, n) N)) ∧ Below w.heap.size w w' := by
  cases r
  · by_cases h1 : n < -4611686018427387904
    · go_enter Try.func25, Try.ntmps25
      go_wp2
      go_ret
      exact ⟨ret_int (by simp [badV, h1]), (Below.refl _ _).alloc (Nat.le_refl _) _⟩
    · have d1 : decide (n < -4611686018427387904) = false := by simpa using h1
      by_cases h2 : 4611686018427387903 < n
      · go_enter Try.func25, Try.ntmps25
        go_wp2
        go_ret
        exact ⟨ret_int (by simp [badV, h2]), (Below.refl _ _).alloc (Nat.le_refl _) _⟩
      · have d2 : decide (4611686018427387903 < n) = false := by simpa using h2
        go_enter Try.func25, Try.ntmps25
        go_wp2
        go_ret
        exact ⟨ret_int (by simp [badV, h1, h2]), (Below.refl _ _).alloc (Nat.le_refl _) _⟩
  · by_cases h1 : n < 0
    · go_enter Try.func25, Try.ntmps25
      go_wp2
      go_ret
      exact ⟨ret_int (by simp [badV, h1]), (Below.refl _ _).alloc (Nat.le_refl _) _⟩
    · have d1 : decide (n < 0) = false := by simpa using h1
      by_cases h2 : (N : Int) ≤ n
      · go_enter Try.func25, Try.ntmps25
        go_wp2
        go_ret
        exact ⟨ret_int (by simp [badV, h2]), (Below.refl _ _).alloc (Nat.le_refl _) _⟩
      · have d2 : decide ((N : Int) ≤ n) = false := by simpa using h2
        go_enter Try.func25, Try.ntmps25
        go_wp2
        go_ret
        exact ⟨ret_int (by simp [badV, h1, h2]), (Below.refl _ _).alloc (Nat.le_refl _) _⟩

end Go.Proofs.Ytmelhphhealomaa
