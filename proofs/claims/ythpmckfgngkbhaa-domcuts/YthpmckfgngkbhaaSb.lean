/- Walks: lists of numbers: Ints, rising, within, inside. -/
import Derived.Test.YthpmckfgngkbhaaProg
import Derived.Test.YthpmckfgngkbhaaMem
import Derived.Test.YthpmckfgngkbhaaRa
import Derived.Test.YthpmckfgngkbhaaWl
namespace Go.Proofs.Ythpmckfgngkbhaa
set_option linter.unusedSimpArgs false
set_option linter.unusedVariables false
open Go.RowKit

set_option maxRecDepth 100000 in
set_option maxHeartbeats 1000000 in
theorem ints_eq_c (a1 a2 : Option Addr) (c1 c2 : Nat) (l1 l2 : List Int) (B : Nat) (w : World) (h1 : Ints B w a1 l1) (h2 : Ints B w a2 l2) (hB : B ≤ w.heap.size) :
    Calls Try.prog 10 #[.slice a1 l1.length c1, .slice a2 l2.length c2] w fun e w' => e = .returned (.bool (decide (l1 = l2))) ∧ Below w.heap.size w w' := by
  have hl1 := h1.1
  have hl2 := h2.1
  by_cases hl : l1.length = l2.length
  · have d1 : ((l1.length : Int) != (l2.length : Int)) = false := by simp [hl]
    have d2 : ((l2.length : Int) != (l2.length : Int)) = false := by simp
    rw [hl]
    have Hl := hide hl
    have hle : l1.length ≤ l2.length := by omega
    have hge : l2.length ≤ l1.length := by omega
    clear hl
    go_enter Try.func10, Try.ntmps10
    go_wp2
    go_loopw [5] (fun i wr => ∃ k : Nat, k ≤ l2.length ∧ i = .int .i64 k ∧ Hid (l1.take k = l2.take k) ∧ Below w.heap.size w wr) (fun i _ => l2.length - (intOf i).toNat)
    case atStart => exact ⟨0, Nat.zero_le _, rfl, by show l1.take 0 = l2.take 0; simp, Below.refl _ _⟩
    case round =>
      obtain ⟨k, hk, rfl, Heq, hb⟩ := hrel
      by_cases hlt : k < l2.length
      · have hlt1 : k < l1.length := by omega
        obtain ⟨b1, o1, rfl, hbB1, hx1⟩ := (h1.below (hb.mono hB)).at hlt1
        obtain ⟨b2, o2, rfl, hbB2, hx2⟩ := (h2.below (hb.mono hB)).at hlt
        have hltI : (k : Int) < (l2.length : Int) := by omega
        have HT1 := hide (List.take_succ_eq_append_getElem hlt1)
        have HT2 := hide (List.take_succ_eq_append_getElem hlt)
        have HN : Hid (l1 = l2 → l1[k] = l2[k]) := by intro e; subst e; rfl
        generalize l1[k] = x at *
        generalize l2[k] = y at *
        by_cases hxy : x = y
        · have d : (x != y) = false := by simpa using hxy
          have Hxy := hide hxy
          clear hxy
          go_wp2
          go_still Try.mixed
          go_wp2
          go_roundw
          case rel => exact ⟨k + 1, by omega, by go_num, by show l1.take (k + 1) = _; rw [unhide HT1, unhide HT2, unhide Heq, unhide Hxy], hb.trans (Below.refl _ _).drew⟩
          case measure => simp [intOf]; omega
        · have d : (x != y) = true := by simpa using hxy
          have Hxy := hide hxy
          clear hxy
          go_wp2
          go_still Try.mixed
          go_wp2
          go_ret
          exact ⟨ret_bool (Eq.symm (decide_eq_false (fun e => unhide Hxy (unhide HN e)))), hb.trans (Below.refl _ _).drew⟩
      · obtain rfl : k = l2.length := by omega
        have Hfin : Hid (l1 = l2) := by
          have := unhide Heq
          rw [List.take_length, List.take_of_length_le hle] at this
          exact this
        go_wp2
        go_ret
        exact ⟨ret_bool (Eq.symm (decide_eq_true (unhide Hfin))), hb⟩
  · have d1 : ((l1.length : Int) != (l2.length : Int)) = true := by simp; omega
    go_enter Try.func10, Try.ntmps10
    go_wp2
    go_ret
    exact ⟨ret_bool (Eq.symm (decide_eq_false (fun e => hl (by rw [e])))), Below.refl _ _⟩

/-- A list that rises, strictly. -/
def risingL (l : List Int) : Bool := (List.range (l.length - 1)).all fun k => decide (l.getD k 0 < l.getD (k + 1) 0)

set_option maxRecDepth 100000 in
set_option maxHeartbeats 1000000 in
theorem rising_c (a : Option Addr) (c : Nat) (l : List Int) (B : Nat) (w : World) (h : Ints B w a l) (hB : B ≤ w.heap.size) (hr : ∀ (i j : Nat) (x y : Int), i + 1 = j → l[i]? = some x → l[j]? = some y → x < y) :
    Calls Try.prog 16 #[.slice a l.length c] w fun e w' => e = .returned (.bool true) ∧ Below w.heap.size w w' := by
  have hl := h.1
  go_enter Try.func16, Try.ntmps16
  go_wp2
  go_loopw [3] (fun i wr => ∃ m : Nat, i = .int .i64 m ∧ 1 ≤ m ∧ Below w.heap.size w wr) (fun i _ => l.length + 1 - (intOf i).toNat)
  case atStart => exact ⟨1, by go_num, Nat.le_refl _, Below.refl _ _⟩
  case round =>
    obtain ⟨m, rfl, hm, hb⟩ := hrel
    by_cases hlt : m < l.length
    · obtain ⟨k, Hk⟩ : ∃ k, Hid (k + 1 = m) := ⟨m - 1, by show m - 1 + 1 = m; omega⟩
      have hlt0 : k < l.length := by have := unhide Hk; omega
      obtain ⟨b1, o1, rfl, hbB1, hx1⟩ := (h.below (hb.mono hB)).at hlt0
      obtain ⟨b2, o2, e2, hbB2, hx2⟩ := (h.below (hb.mono hB)).at hlt
      injection e2 with e2
      injection e2 with e3 e4
      subst e3 e4
      have hxy := hr k m _ _ (unhide Hk) (List.getElem?_eq_getElem hlt0) (List.getElem?_eq_getElem hlt)
      have hltI : (m : Int) < (l.length : Int) := by omega
      have hltI0 : (k : Int) < (l.length : Int) := by omega
      generalize l[k] = x at *
      generalize l[m] = y at *
      have d : decide (x ≥ y) = false := by simp; omega
      have d' : decide (y ≤ x) = false := by simp; omega
      have w2 : IntKind.i64.wrap ((m : Int) - 1) = (k : Int) := by have := unhide Hk; rw [IntKind.wrap_i64]; omega
      go_wp2
      go_still Try.mixed
      go_wp2
      go_roundw
      case rel => exact ⟨m + 1, by go_num, by omega, hb.trans (Below.refl _ _).drew⟩
      case measure => simp [intOf]; omega
    · have hltI : ¬ ((m : Int) < (l.length : Int)) := by omega
      go_wp2
      go_ret
      exact ⟨rfl, hb⟩

set_option maxRecDepth 100000 in
set_option maxHeartbeats 1000000 in
theorem inside_c (a1 a2 : Option Addr) (c1 c2 : Nat) (l1 l2 : List Int) (B : Nat) (w : World) (h1 : Ints B w a1 l1) (h2 : Ints B w a2 l2) (hr : ∀ x ∈ l1, x ∈ l2) :
    Calls Try.prog 20 #[.slice a1 l1.length c1, .slice a2 l2.length c2] w fun e w' => e = .returned (.bool true) ∧ w' = w := by
  have hl := h1.1
  go_enter Try.func20, Try.ntmps20
  go_wp2
  go_loop [9] (fun i => ∃ k : Nat, k ≤ l1.length ∧ i = .int .i64 k) (fun i => l1.length - (intOf i).toNat)
  case atStart => exact ⟨0, Nat.zero_le _, rfl⟩
  case round =>
    obtain ⟨k, hk, rfl⟩ := hrel
    by_cases hlt : k < l1.length
    · obtain ⟨b, off, rfl, hbB, hc⟩ := h1.at hlt
      have Hx := hide (hr _ (List.getElem_mem hlt))
      generalize l1[k] = y at *
      go_wp2_with (go_at_call 17; go_must (refine (has_c _ _ l2 y B _ h2).mono ?_); go_must (rintro e w3 ⟨he, hw3⟩; rw [decide_eq_true (unhide Hx)] at he; subst he; have hw3 := hw3.symm; subst hw3))
      go_round
      case rel => exact ⟨k + 1, by omega, by go_num⟩
      case measure => simp [intOf]; omega
    · obtain rfl : k = l1.length := by omega
      go_wp2
      go_ret
      exact ⟨rfl, rfl⟩

end Go.Proofs.Ythpmckfgngkbhaa
