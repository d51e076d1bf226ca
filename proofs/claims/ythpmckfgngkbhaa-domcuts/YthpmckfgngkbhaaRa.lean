/- Walks: the document's answer: Has, place, turned, Values, Graphs. -/
import Derived.Test.YthpmckfgngkbhaaProg
import Derived.Test.YthpmckfgngkbhaaMem
import Derived.Test.YthpmckfgngkbhaaWc
import Derived.Test.YthpmckfgngkbhaaWd
import Derived.Test.YthpmckfgngkbhaaWn
import Derived.Test.YthpmckfgngkbhaaWv
namespace Go.Proofs.Ythpmckfgngkbhaa
set_option linter.unusedSimpArgs false
set_option linter.unusedVariables false
open Go.RowKit

theorem mem_take_succ {l : List Int} {k : Nat} (hk : k < l.length) (x : Int) : x ∈ l.take (k + 1) ↔ x ∈ l.take k ∨ x = l[k] := by
  rw [List.take_succ_eq_append_getElem hk]; simp only [List.mem_append, List.mem_singleton]

set_option maxHeartbeats 400000 in
theorem has_c (a : Option Addr) (cap : Nat) (l : List Int) (x : Int) (B : Nat) (w : World) (hl : Ints B w a l) :
    Calls Try.prog 17 #[.slice a l.length cap, .int .i64 x] w fun e w' => e = .returned (.bool (decide (x ∈ l))) ∧ w' = w := by
  have hlen := hl.1
  go_enter Try.func17, Try.ntmps17
  go_wp2
  go_loop [9] (fun i => ∃ k : Nat, k ≤ l.length ∧ i = .int .i64 k ∧ Hid (x ∉ l.take k)) (fun i => l.length - (intOf i).toNat)
  case atStart => exact ⟨0, Nat.zero_le _, rfl, by show x ∉ l.take 0; simp⟩
  case round =>
    obtain ⟨k, hk, rfl, Hno⟩ := hrel
    by_cases hlt : k < l.length
    · obtain ⟨b, off, rfl, hbB, hc⟩ := hl.at hlt
      have HT := hide (mem_take_succ hlt x)
      have HM := hide (List.getElem_mem hlt)
      generalize l[k] = y at *
      by_cases hxy : x = y
      · have d : (x == y) = true := by simpa using hxy
        go_wp2
        go_ret
        exact ⟨ret_bool (by have := unhide HM; simp_all), rfl⟩
      · have d : (x == y) = false := by simpa using hxy
        go_wp2
        go_round
        case rel => exact ⟨k + 1, by omega, by go_num, fun h => by rcases (unhide HT).1 h with h | h; exact unhide Hno h; exact hxy h⟩
        case measure => simp [intOf]; omega
    · obtain rfl : k = l.length := by omega
      have hno := unhide Hno
      rw [List.take_length] at hno
      go_wp2
      go_ret
      exact ⟨ret_bool (by simp [hno]), rfl⟩

theorem idxOf_first {l : List Int} {k : Nat} {x : Int} (hk : k < l.length) (hx : l[k] = x) (hno : x ∉ l.take k) : l.idxOf x = k := by
  have hm : x ∈ l := hx ▸ List.getElem_mem hk
  have h1 := List.idxOf_lt_length_iff.2 hm
  have h2 := List.getElem_idxOf h1
  rcases Nat.lt_trichotomy (l.idxOf x) k with h3 | h3 | h3
  · exfalso
    apply hno
    rw [List.mem_take_iff_getElem]
    exact ⟨l.idxOf x, by omega, h2⟩
  · exact h3
  · exfalso
    have h4 := List.not_of_lt_findIdx (p := (· == x)) (xs := l) (i := k) h3
    simp [hx] at h4

end Go.Proofs.Ythpmckfgngkbhaa
