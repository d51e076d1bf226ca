/- Walks: the iterator over all values of a graph. -/
import Derived.Test.YtmelhphhealomaaProg
import Derived.Test.YtmelhphhealomaaMem
import Derived.Test.YtmelhphhealomaaWd
import Derived.RangeFuncNested
import Derived.RangeFuncBound
import Derived.RangeFuncCalls
import Derived.RangeFuncLeaves
import Derived.Shelf.Abstract
import Derived.Shelf.RegionOpen
import Derived.OwnWalkIn
import Derived.TacticsInMore
import Derived.LoopNIn
import Derived.LoopIn
namespace Go.Proofs.Ytmelhphhealomaa
set_option linter.unusedSimpArgs false
set_option linter.unusedVariables false
open Go.RowKit Go.Shelf
attribute [local go_sem] Oper.semAt_some

/-- A value as yield is handed it. -/
def encV (v : V) : Array Value := #[.agg #[.bool v.1, .int .i64 v.2]]

theorem take_snoc {α : Type} {l : List α} {k : Nat} (hk : k < l.length) {v : α} (h : l[k] = v) (pre : List α) : pre ++ l.take (k + 1) = (pre ++ l.take k) ++ [v] := by
  rw [List.take_succ_eq_append_getElem hk, h, ← List.append_assoc]

theorem flat_split {g : Gr} {k : Nat} (hk : k < g.objs.length) : allV g = g.roots ++ (g.objs.take k).flatten ++ g.objs[k] ++ (g.objs.drop (k + 1)).flatten := by
  have h : g.objs = g.objs.take k ++ [g.objs[k]] ++ g.objs.drop (k + 1) := by
    rw [← List.take_succ_eq_append_getElem hk, List.take_append_drop]
  unfold allV
  conv => lhs; rw [h]
  simp only [List.flatten_append, List.flatten_cons, List.flatten_nil, List.append_nil, List.append_assoc]

set_option maxRecDepth 100000 in
set_option maxHeartbeats 2000000 in
theorem values1_in (n : Nat) (hn : 1 ≤ n) (l Bs n₀ : Nat) (ao ar : Option Addr) (co cr : Nat) (g : Gr) (J Jx : List V → World → Prop)
    (hY : ∀ pre x W, J pre W → pre.length < (allV g).length → YieldAt Fence.wide (n - 1) Try.prog l (encV x) W fun e W' =>
      (e = .returned (.bool true) ∧ J (pre ++ [x]) W' ∧ Below n₀ W W') ∨ (e = .returned (.bool false) ∧ Jx (pre ++ [x]) W'))
    (W : World) (hJa : ∀ pre X o, J pre X → J pre (X.alloc o)) (hn0 : n₀ ≤ W.heap.size) (hBs : Bs < n₀) (hc0 : W.cell? ⟨Bs, 0, none⟩ = some (.slice ao g.objs.length co)) (hc1 : W.cell? ⟨Bs, 1, none⟩ = some (.slice ar g.roots.length cr))
    (ho : Objs n₀ W ao g.objs) (hr : Vals n₀ W ar g.roots) (h0 : J [] W) :
    CallsIn Fence.wide n Try.prog 44 #[.func (.yield l) #[] #[], .pointer (some ⟨Bs, 0, none⟩)] W fun e W' => (∃ v, e = .returned v) ∧
      ((∃ ys, ys = allV g ∧ J ys W') ∨ (∃ pre, pre <+: allV g ∧ Jx pre W')) := by
  have hr1 := hr.1
  have ho1 := ho.1
  refine callsIn_of_wp Try.func44 rfl trivial ?_ rfl
  simp only [Try.ntmps44, List.size_toArray, List.length_cons, List.length_nil, Nat.reduceAdd, Nat.reduceSub, Array.replicate_succ, Array.replicate_zero, List.push_toArray, List.append_toArray, List.nil_append, List.cons_append]
  gi_wp2
  gi_loopw [12] (fun i wr => ∃ k : Nat, k ≤ g.roots.length ∧ i = .int .i64 k ∧ J ([] ++ g.roots.take k) wr ∧ Below n₀ W wr) (fun i _ => g.roots.length - (intOf i).toNat)
  case atStart => exact ⟨0, Nat.zero_le _, rfl, h0, Below.refl _ _⟩
  case round =>
    obtain ⟨k, hk, rfl, hJ, hb⟩ := hrel
    have hsz := hb.size
    by_cases hlt : k < g.roots.length
    · obtain ⟨b, off, r, m, rfl, hbB, hd1, hd2, Hv⟩ := (hr.below hb).at hlt
      have HT := hide (take_snoc hlt Hv.out [])
      obtain ⟨fn, tmps, assign, body, hy, hR⟩ := hY _ (r, m) (wr.alloc (.cells #[.bool r, .int .i64 m] 35)) (hJa _ _ _ hJ) (by simp [allV]; omega)
      dsimp only [encV] at hy
      gi_wp2
      refine hR.mono ?_
      rintro e W3 (⟨rfl, hJ3, hk3⟩ | ⟨rfl, hJx3⟩)
      · gi_wp2
        go_roundw
        case rel => exact ⟨k + 1, by omega, by go_num, by rw [unhide HT]; exact hJ3, (hb.alloc (by omega) _).trans hk3⟩
        case measure => simp [intOf]; omega
      · gi_wp2
        refine bodyPost_ret (results_none rfl _ _ _) rfl ?_
        exact ⟨⟨_, rfl⟩, .inr ⟨_, ⟨g.roots.drop (k + 1) ++ g.objs.flatten, by rw [← unhide HT]; simp [allV, ← List.append_assoc]⟩, hJx3⟩⟩
    · obtain rfl : k = g.roots.length := by omega
      rw [List.take_length] at hJ
      have hd0 := (hb.cell (p := ⟨Bs, 0, none⟩) hBs).trans hc0
      gi_wp2
      gi_loopw [24] (fun i wr => ∃ k : Nat, k ≤ g.objs.length ∧ i = .int .i64 k ∧ J (g.roots ++ (g.objs.take k).flatten) wr ∧ Below n₀ W wr) (fun i _ => g.objs.length - (intOf i).toNat)
      case atStart => exact ⟨0, Nat.zero_le _, rfl, by simpa using hJ, hb⟩
      case round =>
        clear hJ hb hsz hd0
        obtain ⟨k, hk, rfl, hJ, hb⟩ := hrel
        have hsz := hb.size
        by_cases hlt : k < g.objs.length
        · obtain ⟨b, off, ai, ci, rfl, hbB, hc, hva⟩ := (ho.below hb).at hlt
          have hva0 : Vals n₀ W ai g.objs[k] := hva.below' hb
          have hva1 := hva0.1
          have HF := hide (flat_snoc hlt)
          have HP := hide (flat_split hlt)
          generalize hpre : g.roots ++ (g.objs.take k).flatten = pre at *
          have Hpre := hide hpre
          clear hpre
          generalize g.objs[k] = fs at *
          gi_wp2
          gi_loopw [31] (fun i wi => ∃ j : Nat, j ≤ fs.length ∧ i = .int .i64 j ∧ J (pre ++ fs.take j) wi ∧ Below n₀ W wi) (fun i _ => fs.length - (intOf i).toNat)
          case atStart => exact ⟨0, Nat.zero_le _, rfl, by simpa using hJa _ _ _ hJ, hb.alloc (by omega) _⟩
          case round =>
            clear hJ hb hsz hc hva
            obtain ⟨j, hj, rfl, hJ, hb⟩ := hrel
            have hsz := hb.size
            by_cases hlt2 : j < fs.length
            · obtain ⟨b2, off2, r, m, rfl, hbB2, hd1, hd2, Hv⟩ := (hva0.below hb).at hlt2
              have HT := hide (take_snoc hlt2 Hv.out pre)
              obtain ⟨fn, tmps, assign, body, hy, hR⟩ := hY _ (r, m) (wr.alloc (.cells #[.bool r, .int .i64 m] 35)) (hJa _ _ _ hJ) (by rw [unhide HP, ← unhide Hpre]; simp only [List.length_append, List.length_take]; omega)
              dsimp only [encV] at hy
              gi_wp2
              refine hR.mono ?_
              rintro e W3 (⟨rfl, hJ3, hk3⟩ | ⟨rfl, hJx3⟩)
              · gi_wp2
                go_roundw
                case rel => exact ⟨j + 1, by omega, by go_num, by rw [unhide HT]; exact hJ3, (hb.alloc (by omega) _).trans hk3⟩
                case measure => simp [intOf]; omega
              · gi_wp2
                refine bodyPost_ret (results_none rfl _ _ _) rfl ?_
                exact ⟨⟨_, rfl⟩, .inr ⟨_, ⟨fs.drop (j + 1) ++ (g.objs.drop (k + 1)).flatten, by rw [← unhide HT, unhide HP]; simp only [← List.append_assoc]; rw [List.append_assoc pre, List.take_append_drop]⟩, hJx3⟩⟩
            · obtain rfl : j = fs.length := by omega
              gi_wp2
              go_roundw
              case rel => exact ⟨k + 1, by omega, by go_num, by rw [unhide HF, ← List.append_assoc, unhide Hpre]; simpa using hJ, hb⟩
              case measure => simp [intOf]; omega
        · obtain rfl : k = g.objs.length := by omega
          rw [List.take_length] at hJ
          gi_wp2
          go_end0
          exact ⟨⟨_, rfl⟩, .inl ⟨_, rfl, hJ⟩⟩

theorem values1_stops (n : Nat) (hn : 1 ≤ n) (Bs n₀ : Nat) (ao ar : Option Addr) (co cr : Nat) (g : Gr) (w : World) (hn0 : n₀ ≤ w.heap.size) (hBs : Bs < n₀)
    (hc0 : w.cell? ⟨Bs, 0, none⟩ = some (.slice ao g.objs.length co)) (hc1 : w.cell? ⟨Bs, 1, none⟩ = some (.slice ar g.roots.length cr)) (ho : Objs n₀ w ao g.objs) (hr : Vals n₀ w ar g.roots) :
    SeqStopsK Fence.wide n Try.prog 44 #[.pointer (some ⟨Bs, 0, none⟩)] encV (Below n₀) (fun ys => ys = allV g) (fun pre => pre <+: allV g) (allV g).length w := fun l J Jx W hW hJ _ hY h0 => by
  have hW' := hW.mono hn0
  have := hW.size
  exact values1_in n hn l Bs n₀ ao ar co cr g J Jx hY W (fun pre X o hj => hJ pre X _ none hj (World.grownBy_alloc X o none) (fun r e => by cases e)) (by omega) hBs
    ((hW'.cell (p := ⟨Bs, 0, none⟩) hBs).trans hc0) ((hW'.cell (p := ⟨Bs, 1, none⟩) hBs).trans hc1) (ho.below hW') (hr.below hW') h0

end Go.Proofs.Ytmelhphhealomaa
