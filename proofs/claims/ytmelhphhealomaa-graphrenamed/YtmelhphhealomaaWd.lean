/- Walks. -/
import Derived.Test.YtmelhphhealomaaProg
import Derived.Test.YtmelhphhealomaaMem
import Derived.Test.YtmelhphhealomaaWc
namespace Go.Proofs.Ytmelhphhealomaa
set_option linter.unusedSimpArgs false
set_option linter.unusedVariables false
open Go.RowKit

theorem snoc_take {l : List V} {k : Nat} (hk : k < l.length) {r : Bool} {n : Int} (h : l[k] = (r, n)) (pre : List V) : cellsV (pre ++ l.take (k + 1)) = cellsV (pre ++ l.take k) ++ [.bool r, .int .i64 n] := by
  rw [List.take_succ_eq_append_getElem hk, h, ← List.append_assoc, cellsV_snoc]

theorem flat_le : ∀ (L : List (List V)), (∀ l ∈ L, l.length ≤ 4) → L.flatten.length ≤ 4 * L.length
  | [], _ => by simp
  | l :: L, h => by
    have h1 := h l (by simp)
    have h2 := flat_le L (fun x hx => h x (by simp [hx]))
    simp only [List.flatten_cons, List.length_append, List.length_cons]
    omega

theorem flat_snoc {L : List (List V)} {k : Nat} (hk : k < L.length) : (L.take (k + 1)).flatten = (L.take k).flatten ++ L[k] := by
  rw [List.take_succ_eq_append_getElem hk, List.flatten_append]; simp only [List.flatten_cons, List.flatten_nil, List.append_nil]

set_option maxHeartbeats 1000000 in
theorem all_c (ao ar : Option Addr) (co cr : Nat) (g : Gr) (B : Nat) (w : World) (ho : Objs B w ao g.objs) (hr : Vals B w ar g.roots) (hB : B ≤ w.heap.size)
    (h24 : g.objs.length ≤ 24) (h8 : g.roots.length ≤ 8) (h4 : ∀ l ∈ g.objs, l.length ≤ 4) :
    Calls Try.prog 24 #[.agg #[.slice ao g.objs.length co, .slice ar g.roots.length cr]] w fun e w' => ∃ a cap, e = .returned (.slice a (allV g).length cap) ∧ Vals w'.heap.size w' a (allV g) ∧ Below w.heap.size w w' := by
  obtain ⟨i0, hi, hz0, hz1, hz2⟩ := info_parts Try.info35
  go_enter Try.func24, Try.ntmps24
  go_wp2
  go_loopw [3, 13] (fun s i wr => ∃ k : Nat, k ≤ g.roots.length ∧ i = .int .i64 k ∧ wr.ownsRow (w.heap.size + 1) 35 2 s k (cellsV ([] ++ g.roots.take k)) ∧ Below (w.heap.size + 1) (w.alloc (.cells #[.slice ao g.objs.length co, .slice ar g.roots.length cr] 25)) wr) (fun _ i _ => g.roots.length - (intOf i).toNat)
  case atStart => exact ⟨0, Nat.zero_le _, rfl, by simpa [cellsV] using World.ownsRow_nil _ _ _ _, Below.refl _ _⟩
  case round =>
    obtain ⟨k, hk, rfl, hown, hb⟩ := hrel
    by_cases hlt : k < g.roots.length
    · have hb' : Below B w wr := ((Below.refl B w).alloc hB _).trans (hb.mono (by omega))
      have hsz : w.heap.size + 1 ≤ wr.heap.size := by have := hb.size; simpa using this
      obtain ⟨b, off, r, n, rfl, hbB, hc1, hc2, Hv⟩ := (hr.below hb').at hlt
      have HT := hide (snoc_take hlt Hv.out [])
      go_wp2_with (at_builtin; go_must (refine wpList_append_own _ rfl _ _ 23 rfl (w.heap.size + 1) 35 i0 _ 2 16 Try.underlying23 hi hz0 hz1 hz2 rfl (by decide) _ _ _ rfl ((hown.alloc _).alloc _) ⟨wr.heap.size + 1, 0, none⟩ 1 1 [.bool r, .int .i64 n] rfl rfl (cell_two_at _ _ _ _ _ (by simp)) (by simp [Value.oneCell']) (by simp only [maxLen]; omega) (by omega) (by simp; omega) ?_); intro v' w1 hown' hgrow _)
      go_roundw
      case rel => exact ⟨k + 1, by omega, by go_num, by rw [unhide HT]; exact hown', ((hb.alloc hsz _).alloc (by simp; omega) _).grown hgrow (by simp; omega) (fun q e => (hown.lt q e).1)⟩
      case measure => simp [intOf]; omega
    · obtain rfl : k = g.roots.length := by omega
      have hsz : w.heap.size + 1 ≤ wr.heap.size := by have := hb.size; simpa using this
      have hbx : wr.cell? ⟨w.heap.size, 0, none⟩ = some (.slice ao g.objs.length co) := by rw [hb.cell (p := ⟨w.heap.size, 0, none⟩) (by simp)]; simp [go_sem]
      go_wp2
      go_loopw [3, 25] (fun s i wr => ∃ k : Nat, k ≤ g.objs.length ∧ i = .int .i64 k ∧ wr.ownsRow (w.heap.size + 1) 35 2 s (g.roots ++ (g.objs.take k).flatten).length (cellsV (g.roots ++ (g.objs.take k).flatten)) ∧ Below (w.heap.size + 1) (w.alloc (.cells #[.slice ao g.objs.length co, .slice ar g.roots.length cr] 25)) wr) (fun _ i _ => g.objs.length - (intOf i).toNat)
      case atStart => exact ⟨0, Nat.zero_le _, rfl, by simpa using hown, hb⟩
      case round =>
        clear hown hb hsz hbx
        obtain ⟨k, hk, rfl, hown, hb⟩ := hrel
        by_cases hlt : k < g.objs.length
        · have hb' : Below B w wr := ((Below.refl B w).alloc hB _).trans (hb.mono (by omega))
          have hsz : w.heap.size + 1 ≤ wr.heap.size := by have := hb.size; simpa using this
          obtain ⟨b, off, ai, ci, rfl, hbB, hc, hva⟩ := (ho.below hb').at hlt
          have hva0 : Vals B w ai g.objs[k] := hva.below' hb'
          have hn4 := h4 _ (List.getElem_mem hlt)
          have hnp : (g.roots ++ (g.objs.take k).flatten).length ≤ 104 := by
            have := flat_le (g.objs.take k) (fun l hl => h4 l (List.mem_of_mem_take hl))
            simp only [List.length_append, List.length_take] at *
            omega
          have HF := hide (flat_snoc hlt)
          generalize hpre : g.roots ++ (g.objs.take k).flatten = pre at *
          have Hpre := hide hpre
          clear hpre
          generalize hfs : g.objs[k] = fs at *

          clear hfs
          go_wp2
          go_loopw [3, 32] (fun s i wi => ∃ j : Nat, j ≤ fs.length ∧ i = .int .i64 j ∧ wi.ownsRow (w.heap.size + 1) 35 2 s (pre.length + j) (cellsV (pre ++ fs.take j)) ∧ Below (w.heap.size + 1) (w.alloc (.cells #[.slice (some ⟨b, off, none⟩) g.objs.length co, .slice ar g.roots.length cr] 25)) wi) (fun _ i _ => fs.length - (intOf i).toNat)
          case atStart => exact ⟨0, Nat.zero_le _, rfl, by simpa using hown.alloc _, hb.alloc hsz _⟩
          case round =>
            clear hown hb hsz hb' hc hva
            obtain ⟨j, hj, rfl, hown, hb⟩ := hrel
            by_cases hlt2 : j < fs.length
            · have hb' : Below B w wr := ((Below.refl B w).alloc hB _).trans (hb.mono (by omega))
              have hsz : w.heap.size + 1 ≤ wr.heap.size := by have := hb.size; simpa using this
              obtain ⟨b2, off2, r, n, rfl, hbB2, hc1, hc2, Hv⟩ := (hva0.below hb').at hlt2
              have HT := hide (snoc_take hlt2 Hv.out pre)
              go_wp2_with (at_builtin; go_must (refine wpList_append_own _ rfl _ _ 23 rfl (w.heap.size + 1) 35 i0 _ 2 16 Try.underlying23 hi hz0 hz1 hz2 rfl (by decide) _ _ _ rfl ((hown.alloc _).alloc _) ⟨wr.heap.size + 1, 0, none⟩ 1 1 [.bool r, .int .i64 n] rfl rfl (cell_two_at _ _ _ _ _ (by simp)) (by simp [Value.oneCell']) (by simp only [maxLen]; omega) (by omega) (by simp; omega) ?_); intro v' w1 hown' hgrow _)
              go_roundw
              case rel => exact ⟨j + 1, by omega, by go_num, by rw [unhide HT]; exact hown', ((hb.alloc hsz _).alloc (by simp; omega) _).grown hgrow (by simp; omega) (fun q e => (hown.lt q e).1)⟩
              case measure => simp [intOf]; omega
            · obtain rfl : j = fs.length := by omega
              go_wp2
              go_roundw
              case rel => exact ⟨k + 1, by omega, by go_num, by rw [unhide HF, ← List.append_assoc, unhide Hpre, List.length_append]; simpa using hown, hb⟩
              case measure => simp [intOf]; omega
        · obtain rfl : k = g.objs.length := by omega
          rw [List.take_length] at hown
          obtain ⟨a, cap, hv, hV, _⟩ := vals_of_owns hown rfl (by have := flat_le _ h4; simp only [List.length_append]; omega)
          go_wp2
          go_ret
          refine ⟨a, cap, ?_, hV, ((Below.refl _ w).alloc (Nat.le_refl _) _).trans (hb.mono (by omega))⟩
          exact congrArg Ending.returned hv

end Go.Proofs.Ytmelhphhealomaa
