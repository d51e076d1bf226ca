/- Walks: Unpack, twice. -/
import Derived.Test.YtahdalejmfbkeaaProg
import Derived.Test.YtahdalejmfbkeaaVa
namespace Go.Proofs.Ytahdalejmfbkeaa
set_option linter.unusedSimpArgs false
set_option linter.unusedVariables false
open Go.RowKit

theorem and_one (x : Int) (h1 : 0 ≤ x) (h2 : x < 18446744073709551616) : bits .and .u64 x 1 = x % 2 := by
  rw [u64_and x 1 h1 h2 (by omega) (by omega), show (1 : Int).toNat = 1 from rfl, nat_mask1]; omega

theorem wrap_hi (x : Int) (h1 : 9223372036854775808 ≤ x) (h2 : x < 18446744073709551616) : wrap64 x = x - 18446744073709551616 := by
  unfold wrap64; omega

theorem ret_val {r r' : Bool} {a b c d : Int} (h0 : r = r') (h1 : a = c) (h2 : b = d) : Ending.returned (.tuple #[.agg #[.bool r, .int .i64 a], .int .i64 b]) = .returned (.tuple #[.agg #[.bool r', .int .i64 c], .int .i64 d]) := by rw [h0, h1, h2]

set_option maxHeartbeats 400000 in
theorem unpack_c (x : Int) (w : World) (h1 : 0 ≤ x) (h2 : x < 18446744073709551616) :
    Calls Try.prog 56 #[.int .u64 x] w fun e w' => e = .returned (.tuple #[.agg #[.bool (unRef x), .int .i64 (unNum x)], .int .i64 (unErr x)]) ∧ Below w.heap.size w w' := by
  have ha := and_one x h1 h2
  by_cases a : x % 2 = 0
  · have a' : (x % 2 != 0) = false := by simp [a]
    have a'' : (x % 2 == 0) = true := by simp [a]
    by_cases b : x < 512
    · go_enter Try.func56, Try.ntmps56
      go_wp2
      exact bodyPost_ret (v := .tuple #[.agg #[.bool true, .int .i64 (x / 2)], .int .i64 0]) (by simp [results, Try.results56, go_sem]) rfl ⟨ret_val (by simp [unRef]; try omega) (by simp [unNum]; omega) (by simp [unErr]; try omega), (Below.refl _ _).alloc (Nat.le_refl _) _⟩
    · go_enter Try.func56, Try.ntmps56
      go_wp2
      exact bodyPost_ret (v := .tuple #[.agg #[.bool false, .int .i64 0], .int .i64 2]) (by simp [results, Try.results56, go_sem]) rfl ⟨ret_val (by simp [unRef]; try omega) (by simp [unNum]; omega) (by simp [unErr]; try omega), (Below.refl _ _).alloc (Nat.le_refl _) _⟩
  · have a' : (x % 2 != 0) = true := by simp [a]
    have a'' : (x % 2 == 0) = false := by simp [a]
    by_cases b : x < 9223372036854775808
    · go_enter Try.func56, Try.ntmps56
      go_wp2
      exact bodyPost_ret (v := .tuple #[.agg #[.bool false, .int .i64 (x / 2)], .int .i64 0]) (by simp [results, Try.results56, go_sem]) rfl ⟨ret_val (by simp [unRef]; try omega) (by simp [unNum]; omega) (by simp [unErr]; try omega), (Below.refl _ _).alloc (Nat.le_refl _) _⟩
    · go_enter Try.func56, Try.ntmps56
      go_wp2
      exact bodyPost_ret (v := .tuple #[.agg #[.bool false, .int .i64 (wrap64 x / 2)], .int .i64 0]) (by simp [results, Try.results56, go_sem]) rfl ⟨ret_val (by simp [unRef]; try omega) (by have := wrap_hi x (by omega) h2; simp [unNum]; omega) (by simp [unErr]; try omega), (Below.refl _ _).alloc (Nat.le_refl _) _⟩

set_option maxHeartbeats 400000 in
theorem runpack_c (x : Int) (w : World) (h1 : 0 ≤ x) (h2 : x < 18446744073709551616) :
    Calls Try.prog 28 #[.int .u64 x] w fun e w' => e = .returned (.tuple #[.agg #[.bool (unRef x), .int .i64 (unNum x)], .int .i64 (unErr x)]) ∧ Below w.heap.size w w' := by
  have ha := and_one x h1 h2
  by_cases a : x % 2 = 0
  · have a' : (x % 2 != 0) = false := by simp [a]
    have a'' : (x % 2 == 0) = true := by simp [a]
    by_cases b : x < 512
    · go_enter Try.func28, Try.ntmps28
      go_wp2
      exact bodyPost_ret (v := .tuple #[.agg #[.bool true, .int .i64 (x / 2)], .int .i64 0]) (by simp [results, Try.results28, go_sem]) rfl ⟨ret_val (by simp [unRef]; try omega) (by simp [unNum]; omega) (by simp [unErr]; try omega), (Below.refl _ _).alloc (Nat.le_refl _) _⟩
    · go_enter Try.func28, Try.ntmps28
      go_wp2
      exact bodyPost_ret (v := .tuple #[.agg #[.bool false, .int .i64 0], .int .i64 2]) (by simp [results, Try.results28, go_sem]) rfl ⟨ret_val (by simp [unRef]; try omega) (by simp [unNum]; omega) (by simp [unErr]; try omega), (Below.refl _ _).alloc (Nat.le_refl _) _⟩
  · have a' : (x % 2 != 0) = true := by simp [a]
    have a'' : (x % 2 == 0) = false := by simp [a]
    by_cases b : x < 9223372036854775808
    · go_enter Try.func28, Try.ntmps28
      go_wp2
      exact bodyPost_ret (v := .tuple #[.agg #[.bool false, .int .i64 (x / 2)], .int .i64 0]) (by simp [results, Try.results28, go_sem]) rfl ⟨ret_val (by simp [unRef]; try omega) (by simp [unNum]; omega) (by simp [unErr]; try omega), (Below.refl _ _).alloc (Nat.le_refl _) _⟩
    · go_enter Try.func28, Try.ntmps28
      go_wp2
      exact bodyPost_ret (v := .tuple #[.agg #[.bool false, .int .i64 (x / 2 - 4611686018427387904 - 4611686018427387904)], .int .i64 0]) (by simp [results, Try.results28, go_sem]) rfl ⟨ret_val (by simp [unRef]; try omega) (by simp [unNum]; omega) (by simp [unErr]; try omega), (Below.refl _ _).alloc (Nat.le_refl _) _⟩

end Go.Proofs.Ytahdalejmfbkeaa
