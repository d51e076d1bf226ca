/- Walks: Head, twice. -/
import Derived.Test.YtahdalejmfbkeaaProg
import Derived.Test.YtahdalejmfbkeaaVa
namespace Go.Proofs.Ytahdalejmfbkeaa
set_option linter.unusedSimpArgs false
set_option linter.unusedVariables false
open Go.RowKit

set_option maxHeartbeats 400000 in
theorem head_c (l a : Int) (m : Bool) (w : World) :
    Calls Try.prog 35 #[.agg #[.int .i64 l, .bool m, .int .i64 a]] w fun e w' => e = .returned (.tuple #[.int .u64 (headW l m a), .int .i64 (headE l a)]) ∧ Below w.heap.size w w' := by
  by_cases h1 : l < 0
  · have d1 : decide (l < 0) = true := by simpa using h1
    go_enter Try.func35, Try.ntmps35
    go_wp2
    go_ret2
    exact ⟨ret_two (by simp [headW, headOk]; omega) (by simp [headE, headOk]; omega), (Below.refl _ _).alloc (Nat.le_refl _) _⟩
  · have d1 : decide (l < 0) = false := by simpa using h1
    by_cases h2 : 4 < l
    · have d2 : decide (4 < l) = true := by simpa using h2
      go_enter Try.func35, Try.ntmps35
      go_wp2
      go_ret2
      exact ⟨ret_two (by simp [headW, headOk]; omega) (by simp [headE, headOk]; omega), (Below.refl _ _).alloc (Nat.le_refl _) _⟩
    · have d2 : decide (4 < l) = false := by simpa using h2
      by_cases h3 : a < 0
      · have d3 : decide (a < 0) = true := by simpa using h3
        go_enter Try.func35, Try.ntmps35
        go_wp2
        go_ret2
        exact ⟨ret_two (by simp [headW, headOk]; omega) (by simp [headE, headOk]; omega), (Below.refl _ _).alloc (Nat.le_refl _) _⟩
      · have d3 : decide (a < 0) = false := by simpa using h3
        by_cases h4 : 7 < a
        · have d4 : decide (7 < a) = true := by simpa using h4
          go_enter Try.func35, Try.ntmps35
          go_wp2
          go_ret2
          exact ⟨ret_two (by simp [headW, headOk]; omega) (by simp [headE, headOk]; omega), (Below.refl _ _).alloc (Nat.le_refl _) _⟩
        · have d4 : decide (7 < a) = false := by simpa using h4
          have hk : headOk l a = true := by simp [headOk]; omega
          cases m
          · go_enter Try.func35, Try.ntmps35
            go_wp2
            go_ret2
            refine ⟨ret_two ?_ (by simp [headE, hk]), (Below.refl _ _).alloc (Nat.le_refl _) _⟩
            rw [headW, if_pos hk]
            rw [head_or l a h1 h2 h3 h4]; simp
          · go_enter Try.func35, Try.ntmps35
            go_wp2
            go_ret2
            refine ⟨ret_two ?_ (by simp [headE, hk]), (Below.refl _ _).alloc (Nat.le_refl _) _⟩
            rw [headW, if_pos hk]
            rw [head_mark l a h1 h2 h3 h4]; simp

set_option maxHeartbeats 400000 in
theorem rhead_c (l a : Int) (m : Bool) (w : World) :
    Calls Try.prog 39 #[.agg #[.int .i64 l, .bool m, .int .i64 a]] w fun e w' => e = .returned (.tuple #[.int .u64 (headW l m a), .int .i64 (headE l a)]) ∧ Below w.heap.size w w' := by
  by_cases h1 : l < 0
  · have d1 : decide (l < 0) = true := by simpa using h1
    go_enter Try.func39, Try.ntmps39
    go_wp2
    go_ret2
    exact ⟨ret_two (by simp [headW, headOk]; omega) (by simp [headE, headOk]; omega), (Below.refl _ _).alloc (Nat.le_refl _) _⟩
  · have d1 : decide (l < 0) = false := by simpa using h1
    by_cases h2 : 4 < l
    · have d2 : decide (4 < l) = true := by simpa using h2
      go_enter Try.func39, Try.ntmps39
      go_wp2
      go_ret2
      exact ⟨ret_two (by simp [headW, headOk]; omega) (by simp [headE, headOk]; omega), (Below.refl _ _).alloc (Nat.le_refl _) _⟩
    · have d2 : decide (4 < l) = false := by simpa using h2
      by_cases h3 : a < 0
      · have d3 : decide (a < 0) = true := by simpa using h3
        go_enter Try.func39, Try.ntmps39
        go_wp2
        go_ret2
        exact ⟨ret_two (by simp [headW, headOk]; omega) (by simp [headE, headOk]; omega), (Below.refl _ _).alloc (Nat.le_refl _) _⟩
      · have d3 : decide (a < 0) = false := by simpa using h3
        by_cases h4 : 7 < a
        · have d4 : decide (7 < a) = true := by simpa using h4
          go_enter Try.func39, Try.ntmps39
          go_wp2
          go_ret2
          exact ⟨ret_two (by simp [headW, headOk]; omega) (by simp [headE, headOk]; omega), (Below.refl _ _).alloc (Nat.le_refl _) _⟩
        · have d4 : decide (7 < a) = false := by simpa using h4
          have hk : headOk l a = true := by simp [headOk]; omega
          cases m
          · go_enter Try.func39, Try.ntmps39
            go_wp2
            go_ret2
            refine ⟨ret_two ?_ (by simp [headE, hk]), (Below.refl _ _).alloc (Nat.le_refl _) _⟩
            rw [headW, if_pos hk]
            simp
          · go_enter Try.func39, Try.ntmps39
            go_wp2
            go_ret2
            refine ⟨ret_two ?_ (by simp [headE, hk]), (Below.refl _ _).alloc (Nat.le_refl _) _⟩
            rw [headW, if_pos hk]
            simp

end Go.Proofs.Ytahdalejmfbkeaa
