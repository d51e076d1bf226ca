/- Walks. -/
import Derived.Test.YtmelhphhealomaaProg
import Derived.Test.YtmelhphhealomaaMem
namespace Go.Proofs.Ytmelhphhealomaa
set_option linter.unusedSimpArgs false
set_option linter.unusedVariables false
open Go.RowKit

set_option maxHeartbeats 400000 in
theorem refers_c (a : Option Addr) (cap : Nat) (l : List V) (j : Int) (B : Nat) (w : World) (hl : Vals B w a l) (hB : B ≤ w.heap.size) :
    Calls Try.prog 14 #[.slice a l.length cap, .int .i64 j] w fun e w' => e = .returned (.bool (refers l j)) ∧ Below B w w' := by
  have hlen := hl.1
  go_enter Try.func14, Try.ntmps14
  go_wp2
  go_loopw [9] (fun i wr => ∃ k : Nat, k ≤ l.length ∧ i = .int .i64 k ∧ refers (l.take k) j = false ∧ Below B w wr) (fun i _ => l.length - (intOf i).toNat)
  case atStart => exact ⟨0, Nat.zero_le _, rfl, by simp [refers], Below.refl _ _⟩
  case round =>
    obtain ⟨k, hk, rfl, hno, hb⟩ := hrel
    by_cases hlt : k < l.length
    · obtain ⟨b, off, r, n, rfl, hbB, hc1, hc2, Hv⟩ := (hl.below hb).at hlt
      have HT := hide (refers_take (j := j) hlt Hv.out)
      cases r
      · go_wp2
        go_roundw
        case rel => exact ⟨k + 1, by omega, by go_num, by rw [unhide HT, hno]; rfl, hb.alloc (by have := hb.size; omega) _⟩
        case measure => simp [intOf]; omega
      · by_cases hj : n = j
        · have hj' : (n == j) = true := by simp [hj]
          go_wp2
          go_ret
          exact ⟨ret_bool (refers_of_take (k := k + 1) (by rw [unhide HT, hno]; simpa using hj)).symm, hb.alloc (by have := hb.size; omega) _⟩
        · have hj' : (n == j) = false := by simp [hj]
          go_wp2
          go_roundw
          case rel => exact ⟨k + 1, by omega, by go_num, by rw [unhide HT, hno]; simpa using hj, hb.alloc (by have := hb.size; omega) _⟩
          case measure => simp [intOf]; omega
    · go_wp2
      go_ret
      exact ⟨ret_bool (by rw [List.take_of_length_le (by omega)] at hno; exact hno.symm), hb⟩

end Go.Proofs.Ytmelhphhealomaa
