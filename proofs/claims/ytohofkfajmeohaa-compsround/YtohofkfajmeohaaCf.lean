/- Walks: leads, component. -/
import Derived.Test.YtohofkfajmeohaaProg
import Derived.Test.YtohofkfajmeohaaMem
import Derived.Test.YtohofkfajmeohaaCe
namespace Go.Proofs.Ytohofkfajmeohaa
set_option linter.unusedSimpArgs false
set_option linter.unusedVariables false
open Go.RowKit

/-- One set of the row. -/
theorem Led.get {W : World} {base : Nat} {v : Value} {ms : List Nat} {Ks : List (List Int)} (h : Led W base v ms Ks) {i : Nat} {K : List Int} (hK : Ks[i]? = some K) :
    ∃ g cap m n D, v = .slice (some ⟨g, 0, none⟩) Ks.length cap ∧ ms[i]? = some m ∧ W.cell? ⟨g, i, none⟩ = some (.map (some m)) ∧ g < W.heap.size ∧ SetAt W m n D K := by
  have hl := (List.getElem?_eq_some_iff.1 hK).1
  rw [h.len] at hl
  obtain ⟨n, D, hs⟩ := h.set i ms[i] K (List.getElem?_eq_getElem hl) hK
  rcases h.row.2 with ⟨_, h0⟩ | ⟨g, cap, cur, rfl, _, hg, _, _, _, htake⟩
  · omega
  · refine ⟨g, cap, ms[i], n, D, by rw [h.len], List.getElem?_eq_getElem hl, ?_, (Array.getElem?_eq_some_iff.1 hg).1, hs⟩
    rw [cell_of_row W g i cur 65 (0, 0) hg]
    have h1 : (mapsV ms)[i]? = some (.map (some ms[i])) := by simp [mapsV, hl]
    rw [← htake, List.getElem?_take] at h1
    split at h1
    · simpa using h1
    · cases h1

set_option maxRecDepth 100000 in
set_option maxHeartbeats 1000000 in
theorem leads_c (ao ar al : Option Addr) (no co nr cr nl cl : Nat) (i : Nat) (j : Int) (base : Nat) (ms : List Nat) (Ks : List (List Int)) (K : List Int) (w : World) (hL : Led w base (.slice al nl cl) ms Ks) (hK : Ks[i]? = some K) (hn : Ks.length ≤ 1000) (h0 : 0 ≤ j) (h1 : j < 1000) :
    Calls Try.prog 24 #[.agg #[.slice ao no co, .slice ar nr cr, .slice al nl cl], .int .i64 (i : Int), .int .i64 j] w fun e w' => e = .returned (.bool (decide (j ∈ K))) ∧ Below w.heap.size w w' := by
  obtain ⟨g, cap, m, n, D, hv, hm, hc, hgl, hs⟩ := hL.get hK
  have hil := (List.getElem?_eq_some_iff.1 hK).1
  injection hv with e1 e2 e3
  subst e1 e2 e3
  have hs1 := hs.alloc (.cells #[.slice ao no co, .slice ar nr cr, .slice (some ⟨g, 0, none⟩) Ks.length cl] 47)
  have hhas := hs.has j
  have Hkey := hide (Maps.keyOf_int_mk Try.underlying3 (wf_i64 h0 (by omega)))
  have hc1 : (w.alloc (.cells #[.slice ao no co, .slice ar nr cr, .slice (some ⟨g, 0, none⟩) Ks.length cl] 47)).cell? ⟨g, i, none⟩ = some (.map (some m)) := (World.grownBy_alloc w _ none).cell hc (by simp)
  clear hK hL
  go_enter Try.func24, Try.ntmps24
  go_wp2_with (at_lookup; go_must (refine wpList_lookup_own_unit _ rfl _ _ 65 rfl 3 71 (Maps.int_keyed Try.underlying3) Try.underlying65 (Try.zeroValue71 _) m _ D rfl hs1.map _ _ rfl (unhide Hkey) ?_))
  go_ret
  exact ⟨rfl, ((Below.refl _ _).alloc (Nat.le_refl _) _).alloc (by simp) _⟩

theorem own_none (v : Value) : v.ownBlock = none ∨ v.ownBlock ≠ none := by cases v.ownBlock <;> simp

set_option maxRecDepth 100000 in
set_option maxHeartbeats 4000000 in
theorem component_c (ao ar al : Option Addr) (co nr cr nl cl : Nat) (g : Gr) (o : Nat) (base : Nat) (ms : List Nat) (w : World) (hL : Led w base (.slice al nl cl) ms (ledK g g.objs.length)) (hG : Good g) (hoN : o < g.objs.length) :
    Calls Try.prog 38 #[.agg #[.slice ao g.objs.length co, .slice ar nr cr, .slice al nl cl], .int .i64 (o : Int)] w fun e w' => ∃ v, e = .returned v ∧ w'.ownsRow w.heap.size 3 1 v (compL g o).length (intsV (compL g o)) ∧ Below w.heap.size w w' := by
  obtain ⟨i0, hi, hz0, hz1, hz2⟩ := info_parts Try.info3
  have hn24 := hG.n24
  have hb1 := (Below.refl w.heap.size w).alloc (Nat.le_refl _) (.cells #[.slice ao g.objs.length co, .slice ar nr cr, .slice al nl cl] 47)
  have hX0 : SBox (w.alloc (.cells #[.slice ao g.objs.length co, .slice ar nr cr, .slice al nl cl] 47)) w.heap.size ao ar g.objs.length co nr cr (.slice al nl cl) := ⟨by simp [go_sem], by simp [go_sem], by simp [go_sem], by simp [go_sem]⟩
  have hkk : Hid (∀ k : Nat, k < g.objs.length → (ledK g g.objs.length)[k]? = some (ledL g k)) := fun k hk => by simp [ledK, nums, List.getElem?_map, List.getElem?_range hk]
  have hkl := ledK_len g g.objs.length
  go_enter Try.func38, Try.ntmps38
  go_wp2
  generalize hW : w.alloc (.cells #[.slice ao g.objs.length co, .slice ar nr cr, .slice al nl cl] 47) = W0 at *
  have hs0 : W0.heap.size = w.heap.size + 1 := by rw [← hW]; simp
  clear hW
  go_loopw [5, 11] (fun s i wr => ∃ k : Nat, k ≤ g.objs.length ∧ i = .int .i64 k ∧ wr.ownsRow W0.heap.size 3 1 s (compK g o k).length (intsV (compK g o k)) ∧ Below W0.heap.size W0 wr) (fun _ i _ => g.objs.length - (intOf i).toNat)
  case atStart => exact ⟨0, Nat.zero_le _, rfl, World.ownsRow_nil _ _ _ _, Below.refl _ _⟩
  case round =>
    obtain ⟨k, hk, rfl, hown, hb⟩ := hrel
    have hsz := hb.size
    have hcl := compK_len g o k
    have hbw : Below w.heap.size w wr := hb1.trans (hb.mono (by omega))
    have hX := hX0.kept (hb.block w.heap.size (by omega))
    have hc0 := hX.c0
    have hc1 := hX.c1
    have hc2 := hX.c2
    have hLr := hL.below hbw
    have Hyes := hide (fun h => compK_yes (g := g) (o := o) (k := k) h)
    have Hno := hide (fun h => compK_no (g := g) (o := o) (k := k) h)
    have hmx : (compK g o k).length + 1 ≤ maxLen := by simp only [maxLen]; omega
    have hmy : ((compK g o k).length + 1) * 8 ≤ 140737488355328 := by omega
    by_cases hlt : k < g.objs.length
    · have hKo := unhide hkk o hoN
      have hKk := unhide hkk k hlt
      have HKo := hide hKo
      have HKk := hide hKk
      clear hKo hKk
      have hone : Hid (inOne g o k = (decide ((k : Int) = o) || (decide ((k : Int) ∈ ledL g o) && decide ((o : Int) ∈ ledL g k)))) := rfl
      by_cases hko : k = o
      · subst hko
        have HT := hide (unhide Hyes (inOne_refl _ _))
        go_wp2_with (at_builtin; go_must (refine wpList_append_own _ rfl _ _ 30 rfl W0.heap.size 3 i0 _ 1 8 Try.underlying30 hi hz0 hz1 hz2 rfl (by decide) _ _ _ rfl (hown.alloc _) ⟨wr.heap.size, 0, none⟩ 1 1 [.int .i64 k] rfl rfl (cell_one_at _ _ _ _ (by simp)) (by simp [Value.oneCell']) hmx hmy (by simp; omega) ?_); intro v' w1 hown' hgrow _)
        go_roundw
        case rel => exact ⟨k + 1, by omega, by go_num, by rw [unhide HT, intsV_snoc, List.length_append]; exact hown', (hb.alloc hsz _).grown hgrow (by simp; omega) (fun q e => (hown.lt q e).1)⟩
        case measure => simp [intOf]; omega
      · have hne : ¬ (k : Int) = (o : Int) := by omega
        have d1 : decide ((k : Int) = (o : Int)) = false := by simp; omega
        have d1' : ((k : Int) == (o : Int)) = false := by simp; omega
        by_cases ha : (k : Int) ∈ ledL g o
        · have da : decide ((k : Int) ∈ ledL g o) = true := by simpa using ha
          by_cases hc : (o : Int) ∈ ledL g k
          · have dc : decide ((o : Int) ∈ ledL g k) = true := by simpa using hc
            have HT := hide (unhide Hyes (by rw [unhide hone, da, dc]; simp))
            have Hda := hide da
            have Hdc := hide dc
            clear ha hc hone Hyes Hno da dc
            generalize hK1 : ledL g o = K1 at *
            generalize hK2 : ledL g k = K2 at *
            clear hK1 hK2
            go_wp2_with fail
            refine (leads_c _ _ _ _ _ _ _ _ _ o (k : Int) base ms _ K1 _ hLr (unhide HKo) (by omega) (by omega) (by omega)).mono ?_
            rintro e wa ⟨rfl, hba⟩
            rw [unhide Hda]
            have hLa := hLr.below hba
            have hXa := hX.kept (hba.block w.heap.size (by omega))
            have hca0 := hXa.c0
            have hca1 := hXa.c1
            have hca2 := hXa.c2
            have hsa := hba.size
            clear hc0 hc1 hc2
            go_wp2_with fail
            refine (leads_c _ _ _ _ _ _ _ _ _ k (o : Int) base ms _ K2 _ hLa (unhide HKk) (by omega) (by omega) (by omega)).mono ?_
            rintro e wb ⟨rfl, hbb⟩
            rw [unhide Hdc]
            have hsb := hbb.size
            have hown2 := (hown.kept (grownBy_of_below hba) (own_none _)).kept (grownBy_of_below hbb) (own_none _)
            have hbB : Below W0.heap.size W0 wb := (hb.trans (hba.mono (by omega))).trans (hbb.mono (by omega))
            go_wp2_with (at_builtin; go_must (refine wpList_append_own _ rfl _ _ 30 rfl W0.heap.size 3 i0 _ 1 8 Try.underlying30 hi hz0 hz1 hz2 rfl (by decide) _ _ _ rfl (hown2.alloc _) ⟨wb.heap.size, 0, none⟩ 1 1 [.int .i64 k] rfl rfl (cell_one_at _ _ _ _ (by simp)) (by simp [Value.oneCell']) hmx hmy (by simp; omega) ?_); intro v' w1 hown' hgrow _)
            go_roundw
            case rel => exact ⟨k + 1, by omega, by go_num, by rw [unhide HT, intsV_snoc, List.length_append]; exact hown', (hbB.alloc (by omega) _).grown hgrow (by simp; omega) (fun q e => (hown2.lt q e).1)⟩
            case measure => simp [intOf]; omega
          · have dc : decide ((o : Int) ∈ ledL g k) = false := by simpa using hc
            have HT := hide (unhide Hno (by rw [unhide hone, da, dc, d1]; simp))
            have Hda := hide da
            have Hdc := hide dc
            clear ha hc hone Hyes Hno da dc
            generalize hK1 : ledL g o = K1 at *
            generalize hK2 : ledL g k = K2 at *
            clear hK1 hK2
            go_wp2_with fail
            refine (leads_c _ _ _ _ _ _ _ _ _ o (k : Int) base ms _ K1 _ hLr (unhide HKo) (by omega) (by omega) (by omega)).mono ?_
            rintro e wa ⟨rfl, hba⟩
            rw [unhide Hda]
            have hLa := hLr.below hba
            have hXa := hX.kept (hba.block w.heap.size (by omega))
            have hca0 := hXa.c0
            have hca1 := hXa.c1
            have hca2 := hXa.c2
            have hsa := hba.size
            clear hc0 hc1 hc2
            go_wp2_with fail
            refine (leads_c _ _ _ _ _ _ _ _ _ k (o : Int) base ms _ K2 _ hLa (unhide HKk) (by omega) (by omega) (by omega)).mono ?_
            rintro e wb ⟨rfl, hbb⟩
            rw [unhide Hdc]
            have hsb := hbb.size
            have hown2 := (hown.kept (grownBy_of_below hba) (own_none _)).kept (grownBy_of_below hbb) (own_none _)
            have hbB : Below W0.heap.size W0 wb := (hb.trans (hba.mono (by omega))).trans (hbb.mono (by omega))
            go_wp2
            go_roundw
            case rel => exact ⟨k + 1, by omega, by go_num, by rw [unhide HT]; exact hown2, hbB⟩
            case measure => simp [intOf]; omega
        · have da : decide ((k : Int) ∈ ledL g o) = false := by simpa using ha
          have HT := hide (unhide Hno (by rw [unhide hone, da, d1]; simp))
          have Hda := hide da
          clear ha hone Hyes Hno da
          generalize hK1 : ledL g o = K1 at *
          clear hK1
          go_wp2_with fail
          refine (leads_c _ _ _ _ _ _ _ _ _ o (k : Int) base ms _ K1 _ hLr (unhide HKo) (by omega) (by omega) (by omega)).mono ?_
          rintro e wa ⟨rfl, hba⟩
          rw [unhide Hda]
          have hLa := hLr.below hba
          have hXa := hX.kept (hba.block w.heap.size (by omega))
          have hca0 := hXa.c0
          have hca1 := hXa.c1
          have hca2 := hXa.c2
          have hsa := hba.size
          clear hc0 hc1 hc2
          have hown2 := hown.kept (grownBy_of_below hba) (own_none _)
          have hbB : Below W0.heap.size W0 wa := hb.trans (hba.mono (by omega))
          go_wp2
          go_roundw
          case rel => exact ⟨k + 1, by omega, by go_num, by rw [unhide HT]; exact hown2, hbB⟩
          case measure => simp [intOf]; omega
    · obtain rfl : k = g.objs.length := by omega
      have Hc : Hid (compK g o g.objs.length = compL g o) := rfl
      have Hown := hide hown
      clear hown
      obtain ⟨sa, sc, hv⟩ := ownsRow_slice (unhide Hown)
      subst hv
      go_wp2
      go_ret
      refine ⟨_, rfl, ?_, hbw⟩
      rw [← unhide Hc]
      exact ⟨(unhide Hown).1, (unhide Hown).2.imp id fun ⟨g', cap, cur, h1, h2, h3⟩ => ⟨g', cap, cur, h1, by omega, h3⟩⟩

end Go.Proofs.Ytohofkfajmeohaa
