/- Walks: Comps, Round. -/
import Derived.Test.YtohofkfajmeohaaProg
import Derived.Test.YtohofkfajmeohaaMem
import Derived.Test.YtohofkfajmeohaaWh
import Derived.Test.YtohofkfajmeohaaWp
import Derived.Test.YtohofkfajmeohaaCl
import Derived.Test.YtohofkfajmeohaaWz
namespace Go.Proofs.Ytohofkfajmeohaa
set_option linter.unusedSimpArgs false
set_option linter.unusedVariables false
open Go.RowKit

set_option maxRecDepth 100000 in
set_option maxHeartbeats 400000 in
theorem comps_bad (ao ar : Option Addr) (co cr : Nat) (g : Gr) (B : Nat) (w : World) (ho : Objs B w ao g.objs) (hr : Vals B w ar g.roots) (hB : B ≤ w.heap.size) (hc : checkG g ≠ 0) :
    Calls Try.prog 6 #[.agg #[.slice ao g.objs.length co, .slice ar g.roots.length cr]] w fun e w' => e = .returned (.tuple #[.slice none 0 0, .int .i64 (checkG g)]) ∧ Below w.heap.size w w' := by
  have hd : (checkG g != 0) = true := by simpa using hc
  clear hc
  have hb1 := (Below.refl w.heap.size w).alloc (Nat.le_refl _) (.cells #[.slice ao g.objs.length co, .slice ar g.roots.length cr] 25)
  go_enter Try.func6, Try.ntmps6
  go_wp2_with (go_at_call 20; go_must (refine (check_c _ _ _ _ g B _ (ho.below (hb1.mono hB)) (hr.below (hb1.mono hB)) (by simp; omega)).mono ?_); go_must (rintro e w2 ⟨rfl, hb2⟩))
  go_ret2
  exact ⟨rfl, hb1.trans (hb2.mono (by simp))⟩

set_option maxRecDepth 100000 in
set_option maxHeartbeats 400000 in
theorem round_bad (ao ar : Option Addr) (co cr : Nat) (g : Gr) (B : Nat) (w : World) (ho : Objs B w ao g.objs) (hr : Vals B w ar g.roots) (hB : B ≤ w.heap.size) (hc : checkG g ≠ 0) :
    Calls Try.prog 7 #[.agg #[.slice ao g.objs.length co, .slice ar g.roots.length cr]] w fun e w' => e = .returned (.tuple #[.slice none 0 0, .int .i64 (checkG g)]) ∧ Below w.heap.size w w' := by
  have hd : (checkG g != 0) = true := by simpa using hc
  clear hc
  have hb1 := (Below.refl w.heap.size w).alloc (Nat.le_refl _) (.cells #[.slice ao g.objs.length co, .slice ar g.roots.length cr] 25)
  go_enter Try.func7, Try.ntmps7
  go_wp2_with (go_at_call 20; go_must (refine (check_c _ _ _ _ g B _ (ho.below (hb1.mono hB)) (hr.below (hb1.mono hB)) (by simp; omega)).mono ?_); go_must (rintro e w2 ⟨rfl, hb2⟩))
  go_ret2
  exact ⟨rfl, hb1.trans (hb2.mono (by simp))⟩

set_option maxRecDepth 100000 in
set_option maxHeartbeats 4000000 in
theorem comps_ok (ao ar : Option Addr) (co cr : Nat) (g : Gr) (B : Nat) (w : World) (ho : Objs B w ao g.objs) (hr : Vals B w ar g.roots) (hB : B ≤ w.heap.size) (hc : checkG g = 0) :
    Calls Try.prog 6 #[.agg #[.slice ao g.objs.length co, .slice ar g.roots.length cr]] w fun e w' => ∃ v cs, e = .returned (.tuple #[v, .int .i64 0]) ∧ LRow w' w.heap.size v cs (outF g) ∧ Below w.heap.size w w' := by
  have hG := good_of_check hc
  have Hcc := hide hc
  clear hc
  have hn24 := hG.n24
  have hb1 := (Below.refl w.heap.size w).alloc (Nat.le_refl _) (.cells #[.slice ao g.objs.length co, .slice ar g.roots.length cr] 25)
  go_enter Try.func6, Try.ntmps6
  go_wp2_with fail
  refine (check_c _ _ _ _ g B _ (ho.below (hb1.mono hB)) (hr.below (hb1.mono hB)) (by simp; omega)).mono ?_
  rintro e w2 ⟨he, hb2⟩
  rw [unhide Hcc] at he
  subst he
  simp only [World.size_alloc] at hb2
  have g0 := hb2.cell (p := ⟨w.heap.size, 0, none⟩) (by simp)
  have g1 := hb2.cell (p := ⟨w.heap.size, 1, none⟩) (by simp)
  simp [go_sem] at g0 g1
  have hs2 := hb2.size
  simp at hs2
  have hbw2 : Below w.heap.size w w2 := hb1.trans (hb2.mono (by omega))
  clear hb1 hb2
  go_wp2_with fail
  refine (newSearch_c _ _ _ _ g B _ (ho.below (hbw2.mono hB)) (by omega) hG).mono ?_
  rintro e w3 ⟨al, cl, base, ms, rfl, hbase, hL3, hb3⟩
  have hs3 := hb3.size
  have hbw3 : Below w.heap.size w w3 := hbw2.trans (hb3.mono (by omega))
  go_wp2
  have hX0 : SBox (w3.alloc (.cells #[.slice ao g.objs.length co, .slice ar g.roots.length cr, .slice al g.objs.length cl] 47)) w3.heap.size ao ar g.objs.length co g.roots.length cr (.slice al g.objs.length cl) := ⟨by simp [go_sem], by simp [go_sem], by simp [go_sem], by simp [go_sem]⟩
  have hb4 := (Below.refl w3.heap.size w3).alloc (Nat.le_refl _) (.cells #[.slice ao g.objs.length co, .slice ar g.roots.length cr, .slice al g.objs.length cl] 47)
  generalize hW : w3.alloc (.cells #[.slice ao g.objs.length co, .slice ar g.roots.length cr, .slice al g.objs.length cl] 47) = w4 at *
  have hs4 : w4.heap.size = w3.heap.size + 1 := by rw [← hW]; simp
  clear hW
  have hbw4 : Below w.heap.size w w4 := hbw3.trans (hb4.mono (by omega))
  have hL4 := hL3.below hb4
  have hx0 := hX0.c0
  have hx1 := hX0.c1
  have hx2 := hX0.c2
  refine wp_region_hoist _ [2, 3, 4] (fun i => match i with
      | 0 => .agg #[.slice ao g.objs.length co, .slice ar g.roots.length cr, .slice al g.objs.length cl]
      | 1 => .agg #[.slice ao g.objs.length co, .slice ar g.roots.length cr, .slice al g.objs.length cl]
      | _ => .int .i64 0)
    (fun vs W => match vs with
      | [] => Below w4.heap.size w4 W
      | [v2] => (∃ cs, LRow W w4.heap.size v2 cs (compsK g g.objs.length)) ∧ Below w4.heap.size w4 W
      | [v2, v3] => (∃ cs, LRow W w4.heap.size v3 cs (outF g)) ∧ Below w.heap.size w W
      | [v2, v3, v4] => v4 = v3 ∧ (∃ cs, LRow W w4.heap.size v3 cs (outF g)) ∧ Below w.heap.size w W
      | _ => False) Try.mixed (laid_of (by kernel_rfl)) (Below.refl _ _).drew ?_ ?_ ?_
  · intro i o hio hiT vs a W K hGv hlate hag hdep hK
    have t5 := hag.tm (k := 5) (by simp [dsOf])
    simp at t5
    rcases i with _ | _ | _ | _ | _ | _ | i
    · have hl1 : vs.length ≤ 1 := hlate 1 3 _ rfl rfl ⟨⟨0, .data⟩, by simp, rfl, rfl⟩
      have hBW : Below w4.heap.size w4 W := by
        match vs, hGv, hl1 with
        | [], h, _ => exact h
        | [_], ⟨_, h⟩, _ => exact h
      have d0 := (hBW.cell (p := ⟨w3.heap.size, 0, none⟩) (by simp; omega)).trans hx0
      have d1 := (hBW.cell (p := ⟨w3.heap.size, 1, none⟩) (by simp; omega)).trans hx1
      have d2 := (hBW.cell (p := ⟨w3.heap.size, 2, none⟩) (by simp; omega)).trans hx2
      cases hio
      clear hGv
      unfold Oper.wp
      go_simp
      exact hK
    · have hl0 : vs.length ≤ 0 := hlate 0 2 _ rfl rfl ⟨⟨1, .data⟩, by simp, rfl, rfl⟩
      obtain rfl : vs = [] := List.length_eq_zero_iff.1 (by omega)
      have d0 := (hGv.cell (p := ⟨w3.heap.size, 0, none⟩) (by simp; omega)).trans hx0
      have d1 := (hGv.cell (p := ⟨w3.heap.size, 1, none⟩) (by simp; omega)).trans hx1
      have d2 := (hGv.cell (p := ⟨w3.heap.size, 2, none⟩) (by simp; omega)).trans hx2
      cases hio
      clear hGv
      unfold Oper.wp
      go_simp
      exact hK
    · exact absurd (by simp) hiT
    · exact absurd (by simp) hiT
    · exact absurd (by simp) hiT
    · cases hio
      clear hGv
      unfold Oper.wp
      go_simp
      exact hK
    · simp at hio
  · intro j i o hj hio vs a W K hvl hGv hag hdep hK
    rcases j with _ | _ | _ | j
    · obtain rfl : 2 = i := by simpa using hj
      obtain rfl : vs = [] := List.length_eq_zero_iff.1 hvl
      have s14 : a.tmps[14]?.getD undef = .agg #[.slice ao g.objs.length co, .slice ar g.roots.length cr, .slice al g.objs.length cl] := hdep ⟨1, .data⟩ (by cases hio; simp) rfl 14 rfl
      cases hio
      refine op_call 23 #[.agg #[.slice ao g.objs.length co, .slice ar g.roots.length cr, .slice al g.objs.length cl]] (by go_simp) ?_
      have hBW : Below w4.heap.size w4 W := hGv
      refine (components_c ao ar al co g.roots.length cr g.objs.length cl g base ms W (hL4.below hBW) hG).mono ?_
      rintro e w' ⟨v, cs, rfl, h1, h2⟩
      exact ⟨_, rfl, hK _ _ ⟨⟨cs, h1.mono hBW.size⟩, hBW.trans (h2.mono hBW.size)⟩⟩
    · obtain rfl : 3 = i := by simpa using hj
      obtain ⟨v2, rfl⟩ : ∃ v2, vs = [v2] := by
        match vs, hvl with
        | [v2], _ => exact ⟨v2, rfl⟩
      obtain ⟨⟨cs, h1⟩, h2⟩ := hGv
      have s13 : a.tmps[13]?.getD undef = .agg #[.slice ao g.objs.length co, .slice ar g.roots.length cr, .slice al g.objs.length cl] := hdep ⟨0, .data⟩ (by cases hio; simp) rfl 13 rfl
      have s15 : a.tmps[15]?.getD undef = v2 := hdep ⟨2, .data⟩ (by cases hio; simp) rfl 15 rfl
      cases hio
      refine op_call 22 #[.agg #[.slice ao g.objs.length co, .slice ar g.roots.length cr, .slice al g.objs.length cl], v2] (by go_simp) ?_
      have hsW := h2.size
      refine (order_c ao ar al g.objs.length co g.roots.length cr g.objs.length cl g base w4.heap.size w.heap.size ms v2 cs W (hL4.below h2) h1 hG (by omega) (by omega) (by omega)).mono ?_
      rintro e w' ⟨v, cs', rfl, h3, h4⟩
      exact ⟨_, rfl, hK _ _ ⟨⟨cs', h3⟩, (hbw4.trans (h2.mono (by omega))).trans h4⟩⟩
    · obtain rfl : 4 = i := by simpa using hj
      obtain ⟨v2, v3, rfl⟩ : ∃ v2 v3, vs = [v2, v3] := by
        match vs, hvl with
        | [v2, v3], _ => exact ⟨v2, v3, rfl⟩
      obtain ⟨⟨cs, h1⟩, h2⟩ := hGv
      have s16 : a.tmps[16]?.getD undef = v3 := hdep ⟨3, .data⟩ (by cases hio; simp) rfl 16 rfl
      cases hio
      unfold Oper.wp
      go_simp
      exact hK _ _ ⟨rfl, ⟨cs, h1⟩, h2⟩
    · simp at hj
  · intro vs W hvl hGv
    obtain ⟨v2, v3, v4, rfl⟩ : ∃ v2 v3 v4, vs = [v2, v3, v4] := by
      match vs, hvl with
      | [v2, v3, v4], _ => exact ⟨v2, v3, v4, rfl⟩
    obtain ⟨rfl, ⟨cs, h1⟩, h2⟩ := hGv
    simp only [List.length_cons, List.length_nil, Nat.reduceAdd]
    simp [endAct, dstAt, valAt, List.idxOf?, List.findIdx?, List.findIdx?.go, Act.put]
    go_wp2
    go_ret2
    exact ⟨_, cs, rfl, h1.mono (by omega), h2⟩

/-- The first k objects, those that lead to themselves. -/
def roundK (g : Gr) (k : Nat) : List Int := (nums k).filter fun o => decide (o ∈ ledL g o)

theorem roundK_yes {g : Gr} {k : Nat} (h : (k : Int) ∈ ledL g k) : roundK g (k + 1) = roundK g k ++ [(k : Int)] := by
  unfold roundK; rw [nums_succ, List.filter_append]; simp [h]
theorem roundK_no {g : Gr} {k : Nat} (h : (k : Int) ∉ ledL g k) : roundK g (k + 1) = roundK g k := by
  unfold roundK; rw [nums_succ, List.filter_append]; simp [h]
theorem roundK_len (g : Gr) (k : Nat) : (roundK g k).length ≤ k := by
  unfold roundK; have := List.length_filter_le (fun o => decide (o ∈ ledL g o)) (nums k); rwa [nums_len] at this

set_option maxRecDepth 100000 in
set_option maxHeartbeats 4000000 in
theorem round_ok (ao ar : Option Addr) (co cr : Nat) (g : Gr) (B : Nat) (w : World) (ho : Objs B w ao g.objs) (hr : Vals B w ar g.roots) (hB : B ≤ w.heap.size) (hc : checkG g = 0) :
    Calls Try.prog 7 #[.agg #[.slice ao g.objs.length co, .slice ar g.roots.length cr]] w fun e w' => ∃ a cap, e = .returned (.tuple #[.slice a (roundK g g.objs.length).length cap, .int .i64 0]) ∧ Ints w'.heap.size w' a (roundK g g.objs.length) ∧ Below w.heap.size w w' := by
  obtain ⟨i0, hi, hz0, hz1, hz2⟩ := info_parts Try.info3
  have hG := good_of_check hc
  have Hcc := hide hc
  clear hc
  have hn24 := hG.n24
  have hb1 := (Below.refl w.heap.size w).alloc (Nat.le_refl _) (.cells #[.slice ao g.objs.length co, .slice ar g.roots.length cr] 25)
  go_enter Try.func7, Try.ntmps7
  go_wp2_with fail
  refine (check_c _ _ _ _ g B _ (ho.below (hb1.mono hB)) (hr.below (hb1.mono hB)) (by simp; omega)).mono ?_
  rintro e w2 ⟨he, hb2⟩
  rw [unhide Hcc] at he
  subst he
  simp only [World.size_alloc] at hb2
  have g0 := hb2.cell (p := ⟨w.heap.size, 0, none⟩) (by simp)
  have g1 := hb2.cell (p := ⟨w.heap.size, 1, none⟩) (by simp)
  simp [go_sem] at g0 g1
  have hs2 := hb2.size
  simp at hs2
  have hbw2 : Below w.heap.size w w2 := hb1.trans (hb2.mono (by omega))
  clear hb1 hb2
  go_wp2_with fail
  refine (newSearch_c _ _ _ _ g B _ (ho.below (hbw2.mono hB)) (by omega) hG).mono ?_
  rintro e w3 ⟨al, cl, base, ms, rfl, hbase, hL3, hb3⟩
  have hs3 := hb3.size
  have hbw3 : Below w.heap.size w w3 := hbw2.trans (hb3.mono (by omega))
  go_wp2
  have hX0 : SBox (w3.alloc (.cells #[.slice ao g.objs.length co, .slice ar g.roots.length cr, .slice al g.objs.length cl] 47)) w3.heap.size ao ar g.objs.length co g.roots.length cr (.slice al g.objs.length cl) := ⟨by simp [go_sem], by simp [go_sem], by simp [go_sem], by simp [go_sem]⟩
  have hb4 := (Below.refl w3.heap.size w3).alloc (Nat.le_refl _) (.cells #[.slice ao g.objs.length co, .slice ar g.roots.length cr, .slice al g.objs.length cl] 47)
  generalize hW : w3.alloc (.cells #[.slice ao g.objs.length co, .slice ar g.roots.length cr, .slice al g.objs.length cl] 47) = w4 at *
  have hs4 : w4.heap.size = w3.heap.size + 1 := by rw [← hW]; simp
  clear hW
  have hbw4 : Below w.heap.size w w4 := hbw3.trans (hb4.mono (by omega))
  have hL4 := hL3.below hb4
  have hkk : Hid (∀ k : Nat, k < g.objs.length → (ledK g g.objs.length)[k]? = some (ledL g k)) := fun k hk => by simp [ledK, nums, List.getElem?_map, List.getElem?_range hk]
  have Hkl := hide (ledK_len g g.objs.length)
  clear g0 g1
  go_loopw [6, 19] (fun s i wr => ∃ k : Nat, k ≤ g.objs.length ∧ i = .int .i64 k ∧ wr.ownsRow w4.heap.size 3 1 s (roundK g k).length (intsV (roundK g k)) ∧ Below w4.heap.size w4 wr) (fun _ i _ => g.objs.length - (intOf i).toNat)
  case atStart => exact ⟨0, Nat.zero_le _, rfl, World.ownsRow_nil _ _ _ _, Below.refl _ _⟩
  case round =>
    obtain ⟨k, hk, rfl, hown, hb⟩ := hrel
    have hsz := hb.size
    have hX := hX0.kept (hb.block w3.heap.size (by omega))
    have hc0 := hX.c0
    have hc1 := hX.c1
    have hc2 := hX.c2
    have hrl := roundK_len g k
    have hLr := hL4.below hb
    by_cases hlt : k < g.objs.length
    · have hKk := unhide hkk k hlt
      have HKk := hide hKk
      have Hyes := hide (fun h => roundK_yes (g := g) (k := k) h)
      have Hno := hide (fun h => roundK_no (g := g) (k := k) h)
      clear hKk
      have hmx : (roundK g k).length + 1 ≤ maxLen := by simp only [maxLen]; omega
      have hmy : ((roundK g k).length + 1) * 8 ≤ 140737488355328 := by omega
      by_cases ha : (k : Int) ∈ ledL g k
      · have HT := hide (unhide Hyes ha)
        have Hda := hide (show decide ((k : Int) ∈ ledL g k) = true by simpa using ha)
        clear ha Hyes Hno
        go_wp2_with fail
        refine (leads_c _ _ _ _ _ _ _ _ _ k (k : Int) base ms _ (ledL g k) _ hLr (unhide HKk) (by rw [unhide Hkl]; omega) (by omega) (by omega)).mono ?_
        rintro e wa ⟨rfl, hba⟩
        rw [unhide Hda]
        have hsa := hba.size
        have hown2 := hown.kept (grownBy_of_below hba) (own_none _)
        have hbB : Below w4.heap.size w4 wa := hb.trans (hba.mono (by omega))
        go_wp2_with (at_builtin; go_must (refine wpList_append_own _ rfl _ _ 30 rfl w4.heap.size 3 i0 _ 1 8 Try.underlying30 hi hz0 hz1 hz2 rfl (by decide) _ _ _ rfl (hown2.alloc _) ⟨wa.heap.size, 0, none⟩ 1 1 [.int .i64 k] rfl rfl (cell_one_at _ _ _ _ (by simp)) (by simp [Value.oneCell']) hmx hmy (by simp; omega) ?_); intro v' w1 hown' hgrow _)
        go_roundw
        case rel => exact ⟨k + 1, by omega, by go_num, by rw [unhide HT, intsV_snoc, List.length_append]; exact hown', (hbB.alloc (by omega) _).grown hgrow (by simp; omega) (fun q e => (hown2.lt q e).1)⟩
        case measure => simp [intOf]; omega
      · have HT := hide (unhide Hno ha)
        have Hda := hide (show decide ((k : Int) ∈ ledL g k) = false by simpa using ha)
        clear ha Hyes Hno
        go_wp2_with fail
        refine (leads_c _ _ _ _ _ _ _ _ _ k (k : Int) base ms _ (ledL g k) _ hLr (unhide HKk) (by rw [unhide Hkl]; omega) (by omega) (by omega)).mono ?_
        rintro e wa ⟨rfl, hba⟩
        rw [unhide Hda]
        have hown2 := hown.kept (grownBy_of_below hba) (own_none _)
        have hbB : Below w4.heap.size w4 wa := hb.trans (hba.mono (by omega))
        go_wp2
        go_roundw
        case rel => exact ⟨k + 1, by omega, by go_num, by rw [unhide HT]; exact hown2, hbB⟩
        case measure => simp [intOf]; omega
    · obtain rfl : k = g.objs.length := by omega
      obtain ⟨a', cap', hv, hV, _⟩ := ints_of_owns hown rfl (by omega)
      have Hv := hide hv
      clear hv
      go_wp2
      go_ret2
      exact ⟨a', cap', by rw [unhide Hv]; rfl, hV, hbw4.trans (hb.mono hbw4.size)⟩

end Go.Proofs.Ytohofkfajmeohaa
