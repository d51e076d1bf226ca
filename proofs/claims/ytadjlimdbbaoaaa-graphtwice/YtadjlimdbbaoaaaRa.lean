/- Walks: the document's answer: Has, place, turned, Values, Graphs. -/
import Derived.Test.YtadjlimdbbaoaaaProg
import Derived.Test.YtadjlimdbbaoaaaMem
import Derived.Test.YtadjlimdbbaoaaaWc
import Derived.Test.YtadjlimdbbaoaaaWd
import Derived.Test.YtadjlimdbbaoaaaWn
import Derived.Test.YtadjlimdbbaoaaaWv
namespace Go.Proofs.Ytadjlimdbbaoaaa
set_option linter.unusedSimpArgs false
set_option linter.unusedVariables false
open Go.RowKit

theorem mem_take_succ {l : List Int} {k : Nat} (hk : k < l.length) (x : Int) : x ∈ l.take (k + 1) ↔ x ∈ l.take k ∨ x = l[k] := by
  rw [List.take_succ_eq_append_getElem hk]; simp only [List.mem_append, List.mem_singleton]

set_option maxHeartbeats 400000 in
theorem has_c (a : Option Addr) (cap : Nat) (l : List Int) (x : Int) (B : Nat) (w : World) (hl : Ints B w a l) :
    Calls Try.prog 32 #[.slice a l.length cap, .int .i64 x] w fun e w' => e = .returned (.bool (decide (x ∈ l))) ∧ w' = w := by
  have hlen := hl.1
  go_enter Try.func32, Try.ntmps32
  go_wp2
  go_loop [9] (fun i => ∃ k : Nat, k ≤ l.length ∧ i = .int .i64 k ∧ Hid (x ∉ l.take k)) (fun i => l.length - (intOf i).toNat)
  case atStart => exact ⟨0, Nat.zero_le _, rfl, by show x ∉ l.take 0; simp⟩
  case round =>
    obtain ⟨k, hk, rfl, Hno⟩ := hrel
    by_cases hlt : k < l.length
    · obtain ⟨b, off, rfl, hbB, hc⟩ := hl.at hlt
      have HT := hide (mem_take_succ hlt x)
      have HM := hide (List.getElem_mem hlt)
      generalize l[k] = y at *
      by_cases hxy : x = y
      · have d : (x == y) = true := by simpa using hxy
        go_wp2
        go_ret
        exact ⟨ret_bool (by have := unhide HM; simp_all), rfl⟩
      · have d : (x == y) = false := by simpa using hxy
        go_wp2
        go_round
        case rel => exact ⟨k + 1, by omega, by go_num, fun h => by rcases (unhide HT).1 h with h | h; exact unhide Hno h; exact hxy h⟩
        case measure => simp [intOf]; omega
    · obtain rfl : k = l.length := by omega
      have hno := unhide Hno
      rw [List.take_length] at hno
      go_wp2
      go_ret
      exact ⟨ret_bool (by simp [hno]), rfl⟩

theorem idxOf_first {l : List Int} {k : Nat} {x : Int} (hk : k < l.length) (hx : l[k] = x) (hno : x ∉ l.take k) : l.idxOf x = k := by
  have hm : x ∈ l := hx ▸ List.getElem_mem hk
  have h1 := List.idxOf_lt_length_iff.2 hm
  have h2 := List.getElem_idxOf h1
  rcases Nat.lt_trichotomy (l.idxOf x) k with h3 | h3 | h3
  · exfalso
    apply hno
    rw [List.mem_take_iff_getElem]
    exact ⟨l.idxOf x, by omega, h2⟩
  · exact h3
  · exfalso
    have h4 := List.not_of_lt_findIdx (p := (· == x)) (xs := l) (i := k) h3
    simp [hx] at h4

set_option maxHeartbeats 400000 in
theorem place_c (a : Option Addr) (cap : Nat) (l : List Int) (x : Int) (B : Nat) (w : World) (hl : Ints B w a l) :
    Calls Try.prog 43 #[.slice a l.length cap, .int .i64 x] w fun e w' => e = .returned (.int .i64 (placeOf l x)) ∧ w' = w := by
  have hlen := hl.1
  go_enter Try.func43, Try.ntmps43
  go_wp2
  go_loop [5] (fun i => ∃ k : Nat, k ≤ l.length ∧ i = .int .i64 k ∧ Hid (x ∉ l.take k)) (fun i => l.length - (intOf i).toNat)
  case atStart => exact ⟨0, Nat.zero_le _, rfl, by show x ∉ l.take 0; simp⟩
  case round =>
    obtain ⟨k, hk, rfl, Hno⟩ := hrel
    by_cases hlt : k < l.length
    · obtain ⟨b, off, rfl, hbB, hc⟩ := hl.at hlt
      have HT := hide (mem_take_succ hlt x)
      have HM := hide (List.getElem_mem hlt)
      have HI := hide (fun e => idxOf_first (x := x) hlt e)
      generalize l[k] = y at *
      by_cases hxy : y = x
      · have d : (y == x) = true := by simpa using hxy
        go_wp2
        go_ret
        refine ⟨ret_int ?_, rfl⟩
        rw [placeOf, if_pos (by rw [← hxy]; exact unhide HM), unhide HI hxy (unhide Hno)]
      · have d : (y == x) = false := by simpa using hxy
        go_wp2
        go_round
        case rel => exact ⟨k + 1, by omega, by go_num, fun h => by rcases (unhide HT).1 h with h | h; exact unhide Hno h; exact hxy h.symm⟩
        case measure => simp [intOf]; omega
    · obtain rfl : k = l.length := by omega
      have hno := unhide Hno
      rw [List.take_length] at hno
      go_wp2
      go_ret
      exact ⟨ret_int (by rw [placeOf, if_neg hno]), rfl⟩

end Go.Proofs.Ytadjlimdbbaoaaa
