/- Walks: Pack, twice. -/
import Derived.Test.YtahdalejmfbkeaaProg
import Derived.Test.YtahdalejmfbkeaaVa
namespace Go.Proofs.Ytahdalejmfbkeaa
set_option linter.unusedSimpArgs false
set_option linter.unusedVariables false
open Go.RowKit

set_option maxHeartbeats 400000 in
theorem pack_c (r : Bool) (n : Int) (w : World) (h1 : -9223372036854775808 ≤ n) (h2 : n ≤ 9223372036854775807) :
    Calls Try.prog 47 #[.agg #[.bool r, .int .i64 n]] w fun e w' => e = .returned (.tuple #[.int .u64 (packW r n), .int .i64 (packE r n)]) ∧ Below w.heap.size w w' := by
  cases r
  · by_cases a : n < -4611686018427387904
    · go_enter Try.func47, Try.ntmps47
      go_wp2
      go_ret2
      exact ⟨ret_two (by simp [packW, a]) (by simp [packE, a]), (Below.refl _ _).alloc (Nat.le_refl _) _⟩
    · have d1 : decide (n < -4611686018427387904) = false := by simpa using a
      by_cases b : 4611686018427387903 < n
      · go_enter Try.func47, Try.ntmps47
        go_wp2
        go_ret2
        exact ⟨ret_two (by simp [packW, b]) (by simp [packE, b]), (Below.refl _ _).alloc (Nat.le_refl _) _⟩
      · have d2 : decide (4611686018427387903 < n) = false := by simpa using b
        go_enter Try.func47, Try.ntmps47
        go_wp2
        go_ret2
        exact ⟨ret_two (by rw [pack_or]; simp [packW]; omega) (by simp [packE]; omega), (Below.refl _ _).alloc (Nat.le_refl _) _⟩
  · by_cases a : n < 0
    · go_enter Try.func47, Try.ntmps47
      go_wp2
      go_ret2
      exact ⟨ret_two (by simp [packW, a]) (by simp [packE, a]), (Below.refl _ _).alloc (Nat.le_refl _) _⟩
    · have d1 : decide (n < 0) = false := by simpa using a
      by_cases b : 256 ≤ n
      · go_enter Try.func47, Try.ntmps47
        go_wp2
        go_ret2
        exact ⟨ret_two (by simp [packW, b]) (by simp [packE, b]), (Below.refl _ _).alloc (Nat.le_refl _) _⟩
      · have d2 : decide (256 ≤ n) = false := by simpa using b
        go_enter Try.func47, Try.ntmps47
        go_wp2
        go_ret2
        exact ⟨ret_two (by simp [packW]; omega) (by simp [packE]; omega), (Below.refl _ _).alloc (Nat.le_refl _) _⟩

set_option maxHeartbeats 400000 in
theorem rpack_c (r : Bool) (n : Int) (w : World) (h1 : -9223372036854775808 ≤ n) (h2 : n ≤ 9223372036854775807) :
    Calls Try.prog 48 #[.agg #[.bool r, .int .i64 n]] w fun e w' => e = .returned (.tuple #[.int .u64 (packW r n), .int .i64 (packE r n)]) ∧ Below w.heap.size w w' := by
  cases r
  · by_cases a : n < -4611686018427387904
    · go_enter Try.func48, Try.ntmps48
      go_wp2
      go_ret2
      exact ⟨ret_two (by simp [packW, a]) (by simp [packE, a]), (Below.refl _ _).alloc (Nat.le_refl _) _⟩
    · have d1 : decide (n < -4611686018427387904) = false := by simpa using a
      by_cases b : 4611686018427387903 < n
      · go_enter Try.func48, Try.ntmps48
        go_wp2
        go_ret2
        exact ⟨ret_two (by simp [packW, b]) (by simp [packE, b]), (Below.refl _ _).alloc (Nat.le_refl _) _⟩
      · have d2 : decide (4611686018427387903 < n) = false := by simpa using b
        go_enter Try.func48, Try.ntmps48
        go_wp2
        go_ret2
        exact ⟨ret_two (by rw [IntKind.wrap_u64, IntKind.wrap_u64, IntKind.wrap_u64]; simp [packW]; omega) (by simp [packE]; omega), (Below.refl _ _).alloc (Nat.le_refl _) _⟩
  · by_cases a : n < 0
    · go_enter Try.func48, Try.ntmps48
      go_wp2
      go_ret2
      exact ⟨ret_two (by simp [packW, a]) (by simp [packE, a]), (Below.refl _ _).alloc (Nat.le_refl _) _⟩
    · have d1 : decide (n < 0) = false := by simpa using a
      by_cases b : 256 ≤ n
      · go_enter Try.func48, Try.ntmps48
        go_wp2
        go_ret2
        exact ⟨ret_two (by simp [packW, b]) (by simp [packE, b]), (Below.refl _ _).alloc (Nat.le_refl _) _⟩
      · have d2 : decide (256 ≤ n) = false := by simpa using b
        go_enter Try.func48, Try.ntmps48
        go_wp2
        go_ret2
        exact ⟨ret_two (by simp [packW]; omega) (by simp [packE]; omega), (Below.refl _ _).alloc (Nat.le_refl _) _⟩


end Go.Proofs.Ytahdalejmfbkeaa
