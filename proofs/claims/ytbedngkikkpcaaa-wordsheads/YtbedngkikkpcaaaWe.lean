/- Walks: WordsPacks, WordsHeads. -/
import Derived.Test.YtbedngkikkpcaaaProg
import Derived.Test.YtbedngkikkpcaaaPa
import Derived.Test.YtbedngkikkpcaaaWa
import Derived.Test.YtbedngkikkpcaaaWb
import Derived.Test.YtbedngkikkpcaaaWd
namespace Go.Proofs.Ytbedngkikkpcaaa
set_option linter.unusedSimpArgs false
set_option linter.unusedVariables false
open Go.RowKit

theorem bcell {W w1 : World} {B : Nat} (hb : Below B W w1) : (∀ b o, b < B → w1.cell? ⟨b, o, none⟩ = W.cell? ⟨b, o, none⟩) ∧ (∀ b o, b < B → w1.frozen? ⟨b, o, none⟩ = W.frozen? ⟨b, o, none⟩) :=
  ⟨fun b o h => hb.cell (p := ⟨b, o, none⟩) h, fun b o h => hb.frozen (p := ⟨b, o, none⟩) h⟩

set_option maxHeartbeats 800000 in
theorem wordsPacks_c (r : Bool) (n x : Int) (w : World) (h1 : 0 ≤ x) (h2 : x < 18446744073709551616) (h3 : -9223372036854775808 ≤ n) (h4 : n ≤ 9223372036854775807) :
    Calls Try.prog 3 #[.agg #[.bool r, .int .i64 n], .int .u64 x] w fun e w' => e = .returned (.bool true) ∧ Below w.heap.size w w' := by
  have hb1 := (Below.refl w.heap.size w).alloc (Nat.le_refl _) (.cells #[.bool r, .int .i64 n] 23)
  go_enter Try.func3, Try.ntmps3
  go_wp2_with fail
  refine (pack_c r n _ h3 h4).mono ?_
  rintro e w2 ⟨rfl, hb2⟩
  simp only [World.size_alloc] at hb2
  have g0 := hb2.cell (p := ⟨w.heap.size, 0, none⟩) (show w.heap.size < _ by simp)
  have g1 := hb2.cell (p := ⟨w.heap.size, 1, none⟩) (show w.heap.size < _ by simp)
  simp [go_sem] at g0 g1
  have hs2 := hb2.size
  simp only [World.size_alloc] at hs2
  have hbw2 := hb1.trans (hb2.mono (by omega))
  clear hb1 hb2
  go_wp2_with fail
  refine (rpack_c r n _ h3 h4).mono ?_
  rintro e w3 ⟨rfl, hb3⟩
  have hbw3 := hbw2.trans (hb3.mono (by omega))
  have hs3 := hb3.size
  clear hbw2 hb3 g0 g1
  go_wp2_with fail
  refine (unpack_c x _ h1 h2).mono ?_
  rintro e w4 ⟨rfl, hb4⟩
  have hbw4 := hbw3.trans (hb4.mono (by omega))
  have hs4 := hb4.size
  clear hbw3 hb4
  go_wp2_with fail
  refine (runpack_c x _ h1 h2).mono ?_
  rintro e w5 ⟨rfl, hb5⟩
  simp only [World.size_alloc] at hb5
  have g0 := hb5.cell (p := ⟨w4.heap.size, 0, none⟩) (show w4.heap.size < _ by simp)
  have g1 := hb5.cell (p := ⟨w4.heap.size, 1, none⟩) (show w4.heap.size < _ by simp)
  simp [go_sem] at g0 g1
  have hs5 := hb5.size
  simp only [World.size_alloc] at hs5
  have hbw5 := (hbw4.alloc (by omega) (.cells #[.bool (unRef x), .int .i64 (unNum x)] 23)).trans (hb5.mono (by omega))
  have hlt : w4.heap.size < w5.heap.size := by omega
  clear hbw4 hb5 hs5
  go_wp2
  go_ret
  exact ⟨by simp, hbw5.alloc (by omega) _⟩

set_option maxHeartbeats 800000 in
theorem wordsHeads_c (l a : Int) (m : Bool) (x : Int) (w : World) (h1 : 0 ≤ x) (h2 : x < 18446744073709551616) :
    Calls Try.prog 4 #[.agg #[.int .i64 l, .bool m, .int .i64 a], .int .u64 x] w fun e w' => e = .returned (.bool true) ∧ Below w.heap.size w w' := by
  have hb1 := (Below.refl w.heap.size w).alloc (Nat.le_refl _) (.cells #[.int .i64 l, .bool m, .int .i64 a] 32)
  go_enter Try.func4, Try.ntmps4
  go_wp2_with fail
  refine (head_c l a m _).mono ?_
  rintro e w2 ⟨rfl, hb2⟩
  simp only [World.size_alloc] at hb2
  have g0 := hb2.cell (p := ⟨w.heap.size, 0, none⟩) (show w.heap.size < _ by simp)
  have g1 := hb2.cell (p := ⟨w.heap.size, 1, none⟩) (show w.heap.size < _ by simp)
  have g2 := hb2.cell (p := ⟨w.heap.size, 2, none⟩) (show w.heap.size < _ by simp)
  simp [go_sem] at g0 g1 g2
  have hs2 := hb2.size
  simp only [World.size_alloc] at hs2
  have hbw2 := hb1.trans (hb2.mono (by omega))
  clear hb1 hb2
  go_wp2_with fail
  refine (rhead_c l a m _).mono ?_
  rintro e w3 ⟨rfl, hb3⟩
  have hbw3 := hbw2.trans (hb3.mono (by omega))
  have hs3 := hb3.size
  clear hbw2 hb3 g0 g1 g2
  go_wp2_with fail
  refine (unhead_c x _ h1 h2).mono ?_
  rintro e w4 ⟨rfl, hb4⟩
  have hbw4 := hbw3.trans (hb4.mono (by omega))
  have hs4 := hb4.size
  clear hbw3 hb4
  go_wp2_with fail
  refine (runhead_c x _ h1 h2).mono ?_
  rintro e w5 ⟨rfl, hb5⟩
  simp only [World.size_alloc] at hb5
  have g0 := hb5.cell (p := ⟨w4.heap.size, 0, none⟩) (show w4.heap.size < _ by simp)
  have g1 := hb5.cell (p := ⟨w4.heap.size, 1, none⟩) (show w4.heap.size < _ by simp)
  have g2 := hb5.cell (p := ⟨w4.heap.size, 2, none⟩) (show w4.heap.size < _ by simp)
  simp [go_sem] at g0 g1 g2
  have hs5 := hb5.size
  simp only [World.size_alloc] at hs5
  have hbw5 := (hbw4.alloc (by omega) (.cells #[.int .i64 (uhL x), .bool (uhM x), .int .i64 (uhA x)] 32)).trans (hb5.mono (by omega))
  have hlt : w4.heap.size < w5.heap.size := by omega
  clear hbw4 hb5 hs5
  go_wp2
  go_ret
  exact ⟨by simp, hbw5.alloc (by omega) _⟩

end Go.Proofs.Ytbedngkikkpcaaa
