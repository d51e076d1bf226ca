/- Walks. -/
import Derived.Test.YtmelhphhealomaaProg
import Derived.Test.YtmelhphhealomaaMem
import Derived.Test.YtmelhphhealomaaWa
import Derived.Test.YtmelhphhealomaaWe
namespace Go.Proofs.Ytmelhphhealomaa
set_option linter.unusedSimpArgs false
set_option linter.unusedVariables false
open Go.RowKit

def isObj (n : Int) (N : Nat) : Bool := decide (0 ≤ n) && decide (n < (N : Int))

set_option maxHeartbeats 400000 in
theorem isObject_c (ao ar : Option Addr) (no co nr cr : Nat) (n : Int) (w : World) :
    Calls Try.prog 32 #[.agg #[.slice ao no co, .slice ar nr cr], .int .i64 n] w fun e w' => e = .returned (.bool (isObj n no)) ∧ w' = w.alloc (.cells #[.slice ao no co, .slice ar nr cr] 25) := by
  unfold isObj
  by_cases h : 0 ≤ n
  · go_enter Try.func32, Try.ntmps32
    go_wp2
    go_ret
    exact ⟨ret_bool (by simp [h]), rfl⟩
  · have hd : decide (0 ≤ n) = false := by simp [h]
    go_enter Try.func32, Try.ntmps32
    go_wp2
    go_ret
    exact ⟨ret_bool (by simp), rfl⟩

set_option maxHeartbeats 400000 in
theorem indexLarge_c (ao : Option Addr) (co : Nat) (L : List (List V)) (B : Nat) (w : World) (ho : Objs B w ao L) (hB : B ≤ w.heap.size) :
    Calls Try.prog 46 #[.slice ao L.length co, .func (.func 43) #[] #[]] w fun e w' => (∃ n : Int, e = .returned (.int .i64 n) ∧ decide (0 ≤ n) = L.any (fun l => decide (4 < l.length))) ∧ Below B w w' := by
  have ho1 := ho.1
  go_enter Try.func46, Try.ntmps46
  go_wp2
  go_loopw [8] (fun i wr => ∃ k : Nat, k ≤ L.length ∧ i = .int .i64 k ∧ (L.take k).any (fun l => decide (4 < l.length)) = false ∧ Below B w wr) (fun i _ => L.length - (intOf i).toNat)
  case atStart => exact ⟨0, Nat.zero_le _, rfl, by simp, Below.refl _ _⟩
  case round =>
    obtain ⟨k, hk, rfl, hno, hb⟩ := hrel
    have hsz := hb.size
    by_cases hlt : k < L.length
    · obtain ⟨b, off, ai, ci, rfl, hbB, hc, hva⟩ := (ho.below hb).at hlt
      have HT := hide (any_snoc (fun l : List V => decide (4 < l.length)) hlt)
      have HA := hide (fun h => any_take (fun l : List V => decide (4 < l.length)) (l := L) (k := k + 1) h)
      generalize L[k] = fs at *
      by_cases h4 : 4 < fs.length
      · have d3 : (4 : Int) < (fs.length : Int) := by omega
        have d4 : decide ((4 : Int) < (fs.length : Int)) = true := by simp; omega
        go_wp2_with (go_at_call 43; go_must (refine (isLarge1_c _ _ _ _).mono ?_); rintro e w3 ⟨he, hb3⟩; rw [d4] at he; subst he)
        go_ret
        exact ⟨⟨_, rfl, by rw [unhide HA (by rw [unhide HT]; simp [h4])]; simp⟩, hb.trans (hb3.mono (by omega))⟩
      · have d4 : decide ((4 : Int) < (fs.length : Int)) = false := by simp; omega
        go_wp2_with (go_at_call 43; go_must (refine (isLarge1_c _ _ _ _).mono ?_); rintro e w3 ⟨he, hb3⟩; rw [d4] at he; subst he)
        go_roundw
        case rel => exact ⟨k + 1, by omega, by go_num, by rw [unhide HT, hno]; simpa using h4, hb.trans (hb3.mono (by omega))⟩
        case measure => simp [intOf]; omega
    · obtain rfl : k = L.length := by omega
      rw [List.take_length] at hno
      go_wp2
      go_ret
      exact ⟨⟨_, rfl, by rw [hno]; rfl⟩, hb⟩

set_option maxHeartbeats 400000 in
theorem containsLarge_c (ao : Option Addr) (co : Nat) (L : List (List V)) (B : Nat) (w : World) (ho : Objs B w ao L) (hB : B ≤ w.heap.size) :
    Calls Try.prog 42 #[.slice ao L.length co, .func (.func 43) #[] #[]] w fun e w' => e = .returned (.bool (L.any (fun l => decide (4 < l.length)))) ∧ Below B w w' := by
  go_enter Try.func42, Try.ntmps42
  go_wp2_with (go_at_call 46; go_must (refine (indexLarge_c _ _ L B _ ho hB).mono ?_); rintro e w3 ⟨⟨n, rfl, hn⟩, hb3⟩; have Hn := hide hn; clear hn)
  go_ret
  exact ⟨ret_bool (unhide Hn), hb3⟩

set_option maxHeartbeats 400000 in
theorem isLarge_c (ao ar : Option Addr) (co cr : Nat) (g : Gr) (B : Nat) (w : World) (ho : Objs B w ao g.objs) (hr : Vals B w ar g.roots) (hB : B ≤ w.heap.size) :
    Calls Try.prog 30 #[.agg #[.slice ao g.objs.length co, .slice ar g.roots.length cr]] w fun e w' => e = .returned (.bool (isLargeG g)) ∧ Below B w w' := by
  have ho1 := ho.1
  have hr1 := hr.1
  by_cases h24 : 24 < g.objs.length
  · have d1 : (24 : Int) < (g.objs.length : Int) := by omega
    go_enter Try.func30, Try.ntmps30
    go_wp2
    go_ret
    exact ⟨ret_bool (by simp [isLargeG, h24]), (Below.refl _ _).alloc hB _⟩
  · have d1 : decide ((24 : Int) < (g.objs.length : Int)) = false := by simp; omega
    by_cases h8 : 8 < g.roots.length
    · have d2 : (8 : Int) < (g.roots.length : Int) := by omega
      go_enter Try.func30, Try.ntmps30
      go_wp2
      go_ret
      exact ⟨ret_bool (by simp [isLargeG, h8]), (Below.refl _ _).alloc hB _⟩
    · have d2 : decide ((8 : Int) < (g.roots.length : Int)) = false := by simp; omega
      have hb1 := (Below.refl B w).alloc hB (.cells #[.slice ao g.objs.length co, .slice ar g.roots.length cr] 25)
      go_enter Try.func30, Try.ntmps30
      go_wp2_with (go_at_call 42; go_must (refine (containsLarge_c _ _ g.objs B _ (ho.below hb1) (by simp; omega)).mono ?_); rintro e w3 ⟨rfl, hb3⟩)
      go_ret
      exact ⟨ret_bool (by simp [isLargeG, h24, h8]), hb1.trans hb3⟩

end Go.Proofs.Ytmelhphhealomaa
