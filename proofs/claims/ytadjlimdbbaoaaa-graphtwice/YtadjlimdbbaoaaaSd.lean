/- Walks: masked. -/
import Derived.Test.YtadjlimdbbaoaaaProg
import Derived.Test.YtadjlimdbbaoaaaMem
import Derived.Test.YtadjlimdbbaoaaaWz
namespace Go.Proofs.Ytadjlimdbbaoaaa
set_option linter.unusedSimpArgs false
set_option linter.unusedVariables false
open Go.RowKit

set_option maxRecDepth 100000 in
set_option maxHeartbeats 1000000 in
theorem masked_c (n : Nat) (m : Int) (w : World) (hn : n ≤ 1000) (hm0 : 0 ≤ m) (hm1 : m < 4294967296) :
    Calls Try.prog 18 #[.int .i64 n, .int .u32 m] w fun e w' => ∃ a c l, e = .returned (.slice a l.length c) ∧ Ints w'.heap.size w' a l ∧ (∀ x ∈ l, 0 ≤ x ∧ x < (n : Int)) ∧ Below w.heap.size w w' := by
  obtain ⟨i0, hi, hz0, hz1, hz2⟩ := info_parts Try.info3
  go_enter Try.func18, Try.ntmps18
  go_wp2
  go_loopw [5, 6] (fun s i wr => ∃ (k : Nat) (l : List Int), k ≤ n ∧ k ≤ 32 ∧ i = .int .i64 k ∧ wr.ownsRow w.heap.size 3 1 s l.length (intsV l) ∧ l.length ≤ k ∧ Hid (∀ x ∈ l, 0 ≤ x ∧ x < (n : Int)) ∧ Below w.heap.size w wr) (fun _ i _ => n - (intOf i).toNat)
  case atStart => exact ⟨0, [], Nat.zero_le _, Nat.zero_le _, rfl, World.ownsRow_nil _ _ _ _, Nat.le_refl _, by intro x hx; simp at hx, Below.refl _ _⟩
  case round =>
    obtain ⟨k, l, hk, hk2, rfl, hown, hlen, Hr, hb⟩ := hrel
    have hsz := hb.size
    by_cases hlt : k < n
    · by_cases h32 : k < 32
      · have hltI : (k : Int) < (n : Int) := by omega
        have h32I : (k : Int) < 32 := by omega
        have hmx : l.length + 1 ≤ maxLen := by simp only [maxLen]; omega
        have hmy : (l.length + 1) * 8 ≤ 140737488355328 := by omega
        cases hd : ((m / 2 ^ k).tmod 2 == 1)
        · go_wp2
          go_roundw
          case rel => exact ⟨k + 1, l, by omega, by omega, by go_num, hown, by omega, Hr, hb⟩
          case measure => simp [intOf]; omega
        · go_wp2_with (at_builtin; go_must (refine wpList_append_own _ rfl _ _ 28 rfl w.heap.size 3 i0 _ 1 8 Try.underlying28 hi hz0 hz1 hz2 rfl (by decide) _ _ _ rfl (hown.alloc _) ⟨wr.heap.size, 0, none⟩ 1 1 [.int .i64 k] rfl rfl (cell_one_at _ _ _ _ (by simp)) (by simp [Value.oneCell']) hmx hmy (by simp; omega) ?_); intro v' w1 hown' hgrow _)
          go_roundw
          case rel => exact ⟨k + 1, l ++ [(k : Int)], by omega, by omega, by go_num, by rw [intsV_snoc, List.length_append]; exact hown', by simp; omega, by
            intro x hx
            rcases List.mem_append.1 hx with hx | hx
            · exact unhide Hr x hx
            · simp at hx; omega, (hb.alloc hsz _).grown hgrow (by simp; omega) (fun q e => (hown.lt q e).1)⟩
          case measure => simp [intOf]; omega
      · obtain rfl : k = 32 := by omega
        obtain ⟨a', c', rfl, hI, _⟩ := ints_of_owns hown rfl (by omega)
        have hltI : ((32 : Nat) : Int) < (n : Int) := by omega
        go_wp2
        go_ret
        exact ⟨a', c', l, rfl, hI, unhide Hr, hb⟩
    · obtain ⟨a', c', rfl, hI, _⟩ := ints_of_owns hown rfl (by omega)
      have hltI : ¬ (k : Int) < (n : Int) := by omega
      have hltD : decide ((k : Int) < (n : Int)) = false := by simp; omega
      go_wp2
      go_ret
      exact ⟨a', c', l, rfl, hI, unhide Hr, hb⟩

end Go.Proofs.Ytadjlimdbbaoaaa
