/- Walks: the document's answer: Reach; GraphTells. -/
import Derived.Test.YthpmckfgngkbhaaProg
import Derived.Test.YthpmckfgngkbhaaMem
import Derived.Test.YthpmckfgngkbhaaWe
import Derived.Test.YthpmckfgngkbhaaWh
import Derived.Test.YthpmckfgngkbhaaSa
import Derived.Test.YthpmckfgngkbhaaSb
import Derived.Test.YthpmckfgngkbhaaSi
namespace Go.Proofs.Ythpmckfgngkbhaa
set_option linter.unusedSimpArgs false
set_option linter.unusedVariables false
open Go.RowKit

/-- The first k objects, those that can be come to. -/
def reachK (g : Gr) (k : Nat) : List Int := ((List.range k).filter (fun (i : Nat) => decide (0 ≤ dG g i))).map (fun (i : Nat) => (i : Int))

theorem reachK_yes {g : Gr} {k : Nat} (h : 0 ≤ dG g k) : reachK g (k + 1) = reachK g k ++ [(k : Int)] := by
  unfold reachK; rw [List.range_succ, List.filter_append, List.map_append]; simp [h]
theorem reachK_no {g : Gr} {k : Nat} (h : dG g k < 0) : reachK g (k + 1) = reachK g k := by
  unfold reachK; rw [List.range_succ, List.filter_append, List.map_append]; simp; omega
theorem reachK_len (g : Gr) (k : Nat) : (reachK g k).length ≤ k := by
  unfold reachK; rw [List.length_map]; have := List.length_filter_le (fun i => decide (0 ≤ dG g i)) (List.range k); simpa using this

theorem reach_same {g : Gr} (h : Good g) : sortL (orderOf g) = reachK g g.objs.length := by
  have hs : (reachK g g.objs.length).Pairwise (· < ·) := by
    unfold reachK
    rw [List.pairwise_map]
    exact (List.pairwise_lt_range.filter _).imp (fun h => by omega)
  have hnd : (reachK g g.objs.length).Nodup := by
    rw [List.nodup_iff_pairwise_ne]; exact hs.imp (fun h => by omega)
  refine List.Perm.eq_of_pairwise (le := (· ≤ ·)) (fun a b _ _ h1 h2 => by omega) (sortL_sorted _) (hs.imp (fun h => by omega)) ?_
  refine (List.perm_ext_iff_of_nodup (sortL_nodup (order_nodup h)) hnd).2 fun x => ?_
  rw [sortL_mem]
  unfold reachK
  simp only [List.mem_map, List.mem_filter, List.mem_range, decide_eq_true_eq]
  constructor
  · intro hx
    have hr := order_ok h hx
    obtain ⟨i, rfl⟩ := Int.eq_ofNat_of_zero_le hr.1
    exact ⟨i, ⟨by omega, (distAt_nonneg h _).2 hx⟩, rfl⟩
  · rintro ⟨i, ⟨_, hd⟩, rfl⟩
    exact (distAt_nonneg h _).1 hd

set_option maxRecDepth 100000 in
set_option maxHeartbeats 1000000 in
theorem refReach_c (ao ar : Option Addr) (co cr : Nat) (g : Gr) (B : Nat) (w : World) (ho : Objs B w ao g.objs) (hr : Vals B w ar g.roots) (hB : B ≤ w.heap.size) (hG : Good g) :
    Calls Try.prog 19 #[.agg #[.slice ao g.objs.length co, .slice ar g.roots.length cr]] w fun e w' => ∃ a cap, e = .returned (.slice a (reachK g g.objs.length).length cap) ∧ Ints w'.heap.size w' a (reachK g g.objs.length) ∧ Below w.heap.size w w' := by
  obtain ⟨i0, hi, hz0, hz1, hz2⟩ := info_parts Try.info3
  have hn24 := hG.n24
  have hb1 := (Below.refl w.heap.size w).alloc (Nat.le_refl _) (.cells #[.slice ao g.objs.length co, .slice ar g.roots.length cr] 25)
  go_enter Try.func19, Try.ntmps19
  go_wp2_with fail
  refine (refDist_c ao ar co cr g B _ (ho.below (hb1.mono hB)) (hr.below (hb1.mono hB)) (by simp; omega) hG).mono ?_
  rintro e w2 ⟨ad, cd, rfl, hI2, hb2⟩
  have hbw2 : Below w.heap.size w w2 := hb1.trans (hb2.mono (by simp))
  clear hb1 hb2
  have hlD : (distL g).length = g.objs.length := distL_len g
  have HlD := hide hlD
  have hDk : Hid (∀ k, k < g.objs.length → (distL g)[k]? = some (dG g k)) := fun k hk => by simp [distL, List.getElem?_map, List.getElem?_range hk, dG]
  rw [hlD]
  clear hlD
  generalize distL g = D at *
  go_wp2
  go_loopw [3, 9] (fun s i wr => ∃ k : Nat, k ≤ g.objs.length ∧ i = .int .i64 k ∧ wr.ownsRow w2.heap.size 3 1 s (reachK g k).length (intsV (reachK g k)) ∧ Below w2.heap.size w2 wr) (fun _ i _ => g.objs.length - (intOf i).toNat)
  case atStart => exact ⟨0, Nat.zero_le _, rfl, World.ownsRow_nil _ _ _ _, Below.refl _ _⟩
  case round =>
    obtain ⟨k, hk, rfl, hown, hb⟩ := hrel
    have hsz := hb.size
    have hkl := reachK_len g k
    by_cases hlt : k < g.objs.length
    · have hltD : k < D.length := by rw [unhide HlD]; exact hlt
      obtain ⟨bd, od, rfl, hbd, hcd⟩ := (hI2.below hb).at hltD
      have hx := unhide hDk k hlt
      rw [List.getElem?_eq_getElem hltD] at hx
      injection hx with hx
      rw [hx] at hcd
      have Hyes := hide (fun h => reachK_yes (g := g) (k := k) h)
      have Hno := hide (fun h => reachK_no (g := g) (k := k) h)
      clear hx
      generalize dG g k = x at *
      have hmx : (reachK g k).length + 1 ≤ maxLen := by simp only [maxLen]; omega
      have hmy : ((reachK g k).length + 1) * 8 ≤ 140737488355328 := by omega
      by_cases hx0 : 0 ≤ x
      · have d : decide (x ≥ 0) = true := by simpa using hx0
        have d' : decide (0 ≤ x) = true := by simpa using hx0
        have HT := hide (unhide Hyes hx0)
        go_wp2_with (at_builtin; go_must (refine wpList_append_own _ rfl _ _ 26 rfl w2.heap.size 3 i0 _ 1 8 Try.underlying26 hi hz0 hz1 hz2 rfl (by decide) _ _ _ rfl (hown.alloc _) ⟨wr.heap.size, 0, none⟩ 1 1 [.int .i64 k] rfl rfl (cell_one_at _ _ _ _ (by simp)) (by simp [Value.oneCell']) hmx hmy (by simp; omega) ?_); intro v' w1 hown' hgrow _)
        go_roundw
        case rel => exact ⟨k + 1, by omega, by go_num, by rw [unhide HT, intsV_snoc, List.length_append]; exact hown', (hb.alloc hsz _).grown hgrow (by simp; omega) (fun q e => (hown.lt q e).1)⟩
        case measure => simp [intOf]; omega
      · have d : decide (x ≥ 0) = false := by simp; omega
        have d' : decide (0 ≤ x) = false := by simp; omega
        have HT := hide (unhide Hno (by omega))
        go_wp2
        go_roundw
        case rel => exact ⟨k + 1, by omega, by go_num, by rw [unhide HT]; exact hown, hb⟩
        case measure => simp [intOf]; omega
    · obtain rfl : k = g.objs.length := by omega
      obtain ⟨a', cap', hv, hV, _⟩ := ints_of_owns hown rfl (by omega)
      have Hv := hide hv
      clear hv
      go_wp2
      go_ret
      exact ⟨a', cap', congrArg Ending.returned (unhide Hv), hV, hbw2.trans (hb.mono hbw2.size)⟩

end Go.Proofs.Ythpmckfgngkbhaa
