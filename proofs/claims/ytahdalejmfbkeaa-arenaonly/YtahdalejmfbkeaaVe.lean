/- Walks: Unhead, twice. -/
import Derived.Test.YtahdalejmfbkeaaProg
import Derived.Test.YtahdalejmfbkeaaVa
import Derived.Test.YtahdalejmfbkeaaVd
namespace Go.Proofs.Ytahdalejmfbkeaa
set_option linter.unusedSimpArgs false
set_option linter.unusedVariables false
open Go.RowKit

theorem and_mask (x m : Int) (k : Nat) (h1 : 0 ≤ x) (h2 : x < 18446744073709551616) (hm : m = 2 ^ k - 1) (hk : k ≤ 8) : bits .and .u64 x m = x % 2 ^ k := by
  have hm' : m.toNat = 2 ^ k - 1 := by subst hm; have : (0:Int) < 2 ^ k := Int.pow_pos (by omega); have e : ((2 ^ k : Nat) : Int) = 2 ^ k := by simp
                                       omega
  have hp : (2:Nat) ^ k ≤ 2 ^ 8 := Nat.pow_le_pow_right (by omega) hk
  have e : ((2 ^ k : Nat) : Int) = 2 ^ k := by simp
  rw [u64_and x m h1 h2 (by have := Nat.two_pow_pos k; omega) (by omega), hm', Nat.and_two_pow_sub_one_eq_mod]
  rw [Int.natCast_emod, e]; congr 1; omega

theorem ret_head {m m' : Bool} {l l' a a' b d : Int} (h0 : m = m') (h1 : l = l') (h2 : a = a') (h3 : b = d) : Ending.returned (.tuple #[.agg #[.int .i64 l, .bool m, .int .i64 a], .int .i64 b]) = .returned (.tuple #[.agg #[.int .i64 l', .bool m', .int .i64 a'], .int .i64 d]) := by rw [h0, h1, h2, h3]

theorem uh_head (x : Int) (h1 : 0 ≤ x) (h2 : x < 18446744073709551616) (h3 : x % 256 ≤ 4) : headE (x % 256) (x / 512 % 8) = 0 ∧ headW (x % 256) (x / 256 % 2 != 0) (x / 512 % 8) = 11889503016258109440 + x % 4096 := by
  have hk : headOk (x % 256) (x / 512 % 8) = true := by simp [headOk]; omega
  refine ⟨by simp [headE, hk], ?_⟩
  rw [headW, if_pos hk]
  by_cases hm : x / 256 % 2 = 0
  · simp [hm]; omega
  · simp [hm]; omega

theorem uh_bad (x : Int) (h1 : 0 ≤ x) (h3 : 4 < x % 256) : headE (x % 256) (x / 512 % 8) = 3 := by
  have hk : headOk (x % 256) (x / 512 % 8) = false := by simp [headOk]; omega
  simp [headE, hk]

theorem mark_eq (x : Int) (h1 : 0 ≤ x) : (x / 256 % 2 != 0) = decide (x / 256 % 2 = 1) := by
  rw [Bool.eq_iff_iff]; simp; omega

set_option maxHeartbeats 800000 in
theorem unhead_c (x : Int) (w : World) (h1 : 0 ≤ x) (h2 : x < 18446744073709551616) :
    Calls Try.prog 55 #[.int .u64 x] w fun e w' => e = .returned (.tuple #[.agg #[.int .i64 (uhL x), .bool (uhM x), .int .i64 (uhA x)], .int .i64 (uhE x)]) ∧ Below w.heap.size w w' := by
  have m1 := and_mask x 255 8 h1 h2 (by rfl) (by omega)
  have m2 := and_mask (x / 256) 1 1 (by omega) (by omega) (by rfl) (by omega)
  have m3 := and_mask (x / 512) 7 3 (by omega) (by omega) (by rfl) (by omega)
  simp only [Int.reducePow] at m1 m2 m3
  have hb0 : Below w.heap.size w (w.alloc (.cells #[.int .i64 0, .bool false, .int .i64 0] 64)) := (Below.refl _ _).alloc (Nat.le_refl _) _
  have hb1 := hb0.alloc (by simp) (.cells #[.int .i64 (x % 256), .bool (x / 256 % 2 != 0), .int .i64 (x / 512 % 8)] 64)
  go_enter Try.func55, Try.ntmps55
  go_wp2_with fail
  refine (head_c _ _ _ _).mono ?_
  rintro e w2 ⟨rfl, hb2⟩
  simp only [World.size_alloc] at hb2
  have g0 := hb2.cell (p := ⟨w.heap.size, 0, none⟩) (show w.heap.size < _ by omega)
  have g1 := hb2.cell (p := ⟨w.heap.size, 1, none⟩) (show w.heap.size < _ by omega)
  have g2 := hb2.cell (p := ⟨w.heap.size, 2, none⟩) (show w.heap.size < _ by omega)
  have g3 := hb2.cell (p := ⟨w.heap.size + 1, 0, none⟩) (by simp)
  have g4 := hb2.cell (p := ⟨w.heap.size + 1, 1, none⟩) (by simp)
  have g5 := hb2.cell (p := ⟨w.heap.size + 1, 2, none⟩) (by simp)
  have f0 := hb2.frozen (p := ⟨w.heap.size, 0, none⟩) (show w.heap.size < _ by omega)
  have f1 := hb2.frozen (p := ⟨w.heap.size, 1, none⟩) (show w.heap.size < _ by omega)
  have f2 := hb2.frozen (p := ⟨w.heap.size, 2, none⟩) (show w.heap.size < _ by omega)
  simp [go_sem] at g0 g1 g2 g3 g4 g5 f0 f1 f2
  have hbw : Below w.heap.size w w2 := hb1.trans (hb2.mono (by omega))
  have hs2 := hb2.size
  simp only [World.size_alloc] at hs2
  clear hb0 hb1 hb2
  by_cases a : 4 < x % 256
  · have he := uh_bad x h1 a
    have hk : unheadOk x = false := by simp [unheadOk]; omega
    rw [he]
    go_wp2
    exact bodyPost_ret (v := .tuple #[.agg #[.int .i64 0, .bool false, .int .i64 0], .int .i64 4]) (by simp [results, Try.results55, go_sem, g0, g1, g2, f0, f1, f2]) rfl ⟨ret_head (by simp [uhM, hk]) (by simp [uhL, hk]) (by simp [uhA, hk]) (by simp [uhE, hk]), ((hbw.setCell (by simp) _).setCell (by simp) _).setCell (by simp) _⟩
  · obtain ⟨he, hw⟩ := uh_head x h1 h2 (by omega)
    rw [he, hw]
    clear he hw
    by_cases b : x / 4096 = 2902710697328640
    · have hk : unheadOk x = true := by simp [unheadOk]; omega
      have hx : 11889503016258109440 + x % 4096 = x := by omega
      rw [hx]
      clear hx
      go_wp2
      exact bodyPost_ret (v := .tuple #[.agg #[.int .i64 (x % 256), .bool (x / 256 % 2 != 0), .int .i64 (x / 512 % 8)], .int .i64 0]) (by simp [results, Try.results55, go_sem, g0, g1, g2, f0, f1, f2]) rfl ⟨ret_head (by rw [mark_eq x h1]; simp [uhM, hk]) (by simp [uhL, hk]) (by simp [uhA, hk]) (by simp [uhE, hk]), ((hbw.setCell (by simp) _).setCell (by simp) _).setCell (by simp) _⟩
    · have hk : unheadOk x = false := by simp [unheadOk]; omega
      have hx : ¬ 11889503016258109440 + x % 4096 = x := by omega
      have hd : (11889503016258109440 + x % 4096 != x) = true := by simpa using hx
      clear hx
      go_wp2
      exact bodyPost_ret (v := .tuple #[.agg #[.int .i64 0, .bool false, .int .i64 0], .int .i64 4]) (by simp [results, Try.results55, go_sem, g0, g1, g2, f0, f1, f2]) rfl ⟨ret_head (by simp [uhM, hk]) (by simp [uhL, hk]) (by simp [uhA, hk]) (by simp [uhE, hk]), ((hbw.setCell (by simp) _).setCell (by simp) _).setCell (by simp) _⟩

set_option maxHeartbeats 400000 in
theorem runhead_c (x : Int) (w : World) (h1 : 0 ≤ x) (h2 : x < 18446744073709551616) :
    Calls Try.prog 30 #[.int .u64 x] w fun e w' => e = .returned (.tuple #[.agg #[.int .i64 (uhL x), .bool (uhM x), .int .i64 (uhA x)], .int .i64 (uhE x)]) ∧ Below w.heap.size w w' := by
  by_cases a : 4 < x % 256
  · have d : decide (4 < x % 256) = true := by simpa using a
    have hk : unheadOk x = false := by simp [unheadOk]; omega
    go_enter Try.func30, Try.ntmps30
    go_wp2
    exact bodyPost_ret (v := .tuple #[.agg #[.int .i64 0, .bool false, .int .i64 0], .int .i64 4]) (by simp [results, Try.results30, go_sem]) rfl ⟨ret_head (by simp [uhM, hk]) (by simp [uhL, hk]) (by simp [uhA, hk]) (by simp [uhE, hk]), ((Below.refl _ _).alloc (Nat.le_refl _) _).alloc (by simp) _⟩
  · have d : decide (4 < x % 256) = false := by simpa using a
    by_cases b : x / 4096 = 2902710697328640
    · have d2 : (x / 4096 != 2902710697328640) = false := by simpa using b
      have hk : unheadOk x = true := by simp [unheadOk]; omega
      go_enter Try.func30, Try.ntmps30
      go_wp2
      exact bodyPost_ret (v := .tuple #[.agg #[.int .i64 (x % 256), .bool (x / 256 % 2 == 1), .int .i64 (x / 512 % 8)], .int .i64 0]) (by simp [results, Try.results30, go_sem]) rfl ⟨ret_head (by rw [Bool.eq_iff_iff]; simp [uhM, hk]) (by simp [uhL, hk]) (by simp [uhA, hk]) (by simp [uhE, hk]), ((Below.refl _ _).alloc (Nat.le_refl _) _).alloc (by simp) _⟩
    · have d2 : (x / 4096 != 2902710697328640) = true := by simpa using b
      have hk : unheadOk x = false := by simp [unheadOk]; omega
      go_enter Try.func30, Try.ntmps30
      go_wp2
      exact bodyPost_ret (v := .tuple #[.agg #[.int .i64 0, .bool false, .int .i64 0], .int .i64 4]) (by simp [results, Try.results30, go_sem]) rfl ⟨ret_head (by simp [uhM, hk]) (by simp [uhL, hk]) (by simp [uhA, hk]) (by simp [uhE, hk]), ((Below.refl _ _).alloc (Nat.le_refl _) _).alloc (by simp) _⟩

end Go.Proofs.Ytahdalejmfbkeaa
