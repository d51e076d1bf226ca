/- Walks: the document's answer: Order. -/
import Derived.Test.YtmelhphhealomaaProg
import Derived.Test.YtmelhphhealomaaMem
import Derived.Test.YtmelhphhealomaaRa
import Derived.Test.YtmelhphhealomaaWz
import Derived.BigQuiet
import Derived.Deep.QuietTactic
namespace Go.Proofs.Ytmelhphhealomaa
set_option linter.unusedSimpArgs false
set_option linter.unusedVariables false
open Go.RowKit

theorem refsL_no {l : List V} {k : Nat} (hk : k < l.length) {n : Int} (h : l[k] = (false, n)) : refsL (l.take (k + 1)) = refsL (l.take k) := by
  unfold refsL; rw [obsOf_no hk h]
theorem refsL_yes {l : List V} {k : Nat} (hk : k < l.length) {n : Int} (h : l[k] = (true, n)) (hn : 0 ≤ n ∧ n < 24) : refsL (l.take (k + 1)) = refsL (l.take k) ++ [n] := by
  unfold refsL; rw [obsOf_yes hk h hn]; simp [valsOf]

/-- One round of Order: a value of a list is found, if it refers to what isn't there. -/
theorem findA_yes {d : Int} {st : List Int × List Int} {xs : List Int} {o : Int} (h : o ∈ (findA d st xs).1) : findA d st (xs ++ [o]) = findA d st xs := by
  rw [findA_snoc, findS, if_pos h]
theorem findA_no {d : Int} {st : List Int × List Int} {xs : List Int} {o : Int} (h : o ∉ (findA d st xs).1) : (findA d st (xs ++ [o])).1 = (findA d st xs).1 ++ [o] := by
  rw [findA_snoc, findS, if_neg h]

set_option maxRecDepth 100000 in
set_option maxHeartbeats 1000000 in
theorem order_c (ao ar : Option Addr) (co cr : Nat) (g : Gr) (B : Nat) (w : World) (ho : Objs B w ao g.objs) (hr : Vals B w ar g.roots) (hB : B ≤ w.heap.size) (hG : Good g) :
    Calls Try.prog 28 #[.agg #[.slice ao g.objs.length co, .slice ar g.roots.length cr]] w fun e w' => ∃ a cap, e = .returned (.slice a (orderOf g).length cap) ∧ Ints w'.heap.size w' a (orderOf g) ∧ Below w.heap.size w w' := by
  obtain ⟨i0, hi, hz0, hz1, hz2⟩ := info_parts Try.info3
  have hn24 := hG.n24
  have hn8 := hG.n8
  obtain ⟨W0, hW0⟩ : ∃ W0, w.alloc (.cells #[.slice ao g.objs.length co, .slice ar g.roots.length cr] 25) = W0 := ⟨_, rfl⟩
  have hb0 : Below w.heap.size w W0 := by rw [← hW0]; exact (Below.refl _ _).alloc (Nat.le_refl _) _
  have hs0 : w.heap.size < W0.heap.size := by rw [← hW0]; simp
  have g0 : W0.cell? ⟨w.heap.size, 0, none⟩ = some (.slice ao g.objs.length co) := by rw [← hW0]; simp [go_sem]
  have g1 : W0.cell? ⟨w.heap.size, 1, none⟩ = some (.slice ar g.roots.length cr) := by rw [← hW0]; simp [go_sem]
  go_enter Try.func28, Try.ntmps28
  go_wp2
  clear hW0
  go_loopw [3, 12] (fun s i wr => ∃ k : Nat, k ≤ g.roots.length ∧ i = .int .i64 k ∧ wr.ownsRow W0.heap.size 3 1 s (findA 0 ([], []) (refsL (g.roots.take k))).1.length (intsV (findA 0 ([], []) (refsL (g.roots.take k))).1) ∧ Below W0.heap.size W0 wr) (fun _ i _ => g.roots.length - (intOf i).toNat)
  case atStart => exact ⟨0, Nat.zero_le _, rfl, World.ownsRow_nil _ _ _ _, Below.refl _ _⟩
  case round =>
    obtain ⟨k, hk, rfl, hown, hb⟩ := hrel
    have hsz := hb.size
    have hbw : Below B w wr := (hb0.mono hB).trans (hb.mono (by omega))
    by_cases hlt : k < g.roots.length
    · obtain ⟨b, off, r, n, rfl, hbB, hc1, hc2, Hv⟩ := (hr.below hbw).at hlt
      have hlen := findA_len 0 (refsL (g.roots.take k)) ([], [])
      have hlr : (refsL (g.roots.take k)).length ≤ 8 := by
        have h1 := obsOf_len (g.roots.take k)
        simp only [refsL, valsOf, List.length_map, List.length_take] at *
        omega
      simp only [List.length_nil, Nat.zero_add] at hlen
      cases r
      · have HT := hide (refsL_no hlt Hv.out)
        go_wp2
        go_roundw
        case rel => exact ⟨k + 1, by omega, by go_num, by rw [unhide HT]; exact hown.alloc _, hb.alloc hsz _⟩
        case measure => simp [intOf]; omega
      · have hn := hG.refsRoots _ (List.getElem_mem hlt)
        rw [Hv.out] at hn
        have hn := hn rfl
        have HT := hide (refsL_yes hlt Hv.out hn)
        by_cases hm : n ∈ (findA 0 ([], []) (refsL (g.roots.take k))).1
        · have HF := hide (findA_yes hm)
          have Hm := hide (show decide (n ∈ (findA 0 ([], []) (refsL (g.roots.take k))).1) = true from by simpa using hm)
          clear hm
          generalize hst : (findA 0 ([], []) (refsL (g.roots.take k))).1 = st at *
          have Hst := hide hst
          clear hst
          obtain ⟨sa, sc, rfl, hI, _⟩ := ints_of_owns hown rfl (by omega)
          have hIa := (hI.below ((Below.refl wr.heap.size wr).alloc (Nat.le_refl _) (.cells #[.bool true, .int .i64 n] 35)))
          go_wp2_with (go_at_call 40; go_must (refine (has_c _ _ st n wr.heap.size _ hIa).mono ?_); go_must (rintro e w3 ⟨he, hw3⟩; rw [unhide Hm] at he; subst he; subst hw3))
          go_roundw
          case rel => exact ⟨k + 1, by omega, by go_num, by rw [unhide HT, unhide HF, unhide Hst]; exact hown.alloc _, hb.alloc hsz _⟩
          case measure => simp [intOf]; omega
        · have HF := hide (findA_no hm)
          have Hm := hide (show decide (n ∈ (findA 0 ([], []) (refsL (g.roots.take k))).1) = false from by simpa using hm)
          clear hm
          generalize hst : (findA 0 ([], []) (refsL (g.roots.take k))).1 = st at *
          have Hst := hide hst
          clear hst
          obtain ⟨sa, sc, rfl, hI, _⟩ := ints_of_owns hown rfl (by omega)
          have hIa := (hI.below ((Below.refl wr.heap.size wr).alloc (Nat.le_refl _) (.cells #[.bool true, .int .i64 n] 35)))
          have hmx : st.length + 1 ≤ maxLen := by simp only [maxLen]; omega
          have hmy : (st.length + 1) * 8 ≤ 140737488355328 := by omega
          go_wp2_with (first
            | (go_at_call 40; go_must (refine (has_c _ _ st n wr.heap.size _ hIa).mono ?_); go_must (rintro e w3 ⟨he, hw3⟩; rw [unhide Hm] at he; subst he; subst hw3))
            | (at_builtin; go_must (refine wpList_append_own _ rfl _ _ 31 rfl W0.heap.size 3 i0 _ 1 8 Try.underlying31 hi hz0 hz1 hz2 rfl (by decide) _ _ _ rfl ((hown.alloc _).alloc _) ⟨wr.heap.size + 1, 0, none⟩ 1 1 [.int .i64 n] rfl rfl (cell_one_at _ _ _ _ (by simp)) (by simp [Value.oneCell']) hmx hmy (by simp; omega) ?_); intro v' w1 hown' hgrow _))
          go_roundw
          case rel => exact ⟨k + 1, by omega, by go_num, by rw [unhide HT, unhide HF, intsV_snoc, List.length_append]; exact hown', ((hb.alloc hsz _).alloc (by simp; omega) _).grown hgrow (by simp; omega) (fun q e => (hown.lt q e).1)⟩
          case measure => simp [intOf]; omega
    · obtain rfl : k = g.roots.length := by omega
      rw [List.take_length] at hown
      have hown : wr.ownsRow W0.heap.size 3 1 u3 (searchN g 0).1.length (intsV (searchN g 0).1) := hown
      go_wp2
      go_loopw [3, 6] (fun s i wr => ∃ k : Nat, k ≤ (searchN g k).1.length ∧ i = .int .i64 k ∧ wr.ownsRow W0.heap.size 3 1 s (searchN g k).1.length (intsV (searchN g k).1) ∧ Below W0.heap.size W0 wr) (fun _ i _ => g.objs.length - (intOf i).toNat)
      case atStart => exact ⟨0, Nat.zero_le _, rfl, hown, hb⟩
      case round =>
        clear hown hb hsz hbw
        obtain ⟨k, hk, rfl, hown, hb⟩ := hrel
        have hsz := hb.size
        have hbw : Below B w wr := (hb0.mono hB).trans (hb.mono (by omega))
        have hok := searchN_ok hG k
        have hkN := hok.le
        obtain ⟨sa, sc, rfl, hI, _⟩ := ints_of_owns hown rfl (by omega)
        by_cases hlt : k < (searchN g k).1.length
        · have hro := hok.rng _ (List.getElem_mem hlt)
          have HS : Hid (searchN g (k + 1) = findA (((searchN g k).2[k]?).getD 0 + 1) (searchN g k) (refsL (fieldsOf g (searchN g k).1[k]))) := by
            show searchN g (k + 1) = _
            rw [searchN_succ, List.getElem?_eq_getElem hlt]
          have g0 := (hb.cell (p := ⟨w.heap.size, 0, none⟩) (by simp; omega)).trans g0
          obtain ⟨gg, og, rfl, hgl, hx1⟩ := hI.at hlt
          generalize (searchN g k).1[k] = o at *
          obtain ⟨o, rfl⟩ := Int.eq_ofNat_of_zero_le hro.1
          have hoN : o < g.objs.length := by omega
          obtain ⟨b, off, ai, ci, rfl, hbB, hcb, hva⟩ := (ho.below hbw).at hoN
          have hva0 := hva.below' hbw
          have Hfs := hide (show fieldsOf g (o : Int) = g.objs[o] by simp [fieldsOf, hoN])
          have hl4 := hG.n4 _ (List.getElem_mem hoN)
          have hrf := hG.refsObjs (List.getElem_mem hoN)
          rw [unhide Hfs] at HS
          clear Hfs
          generalize g.objs[o] = fs at *
          generalize ((searchN g k).2[k]?).getD 0 + 1 = d at *
          have hoI : (o : Int) < (g.objs.length : Int) := by omega
          have hkI : (k : Int) < ((searchN g k).1.length : Int) := by omega
          have hsl := (searchN_ok hG k).le
          generalize searchN g k = sk at *
          go_wp2
          go_still Try.mixed
          go_wp2
          clear hx1 hI
          go_loopw [3, 47] (fun s i wi => ∃ j : Nat, j ≤ fs.length ∧ i = .int .i64 j ∧ wi.ownsRow W0.heap.size 3 1 s (findA d sk (refsL (fs.take j))).1.length (intsV (findA d sk (refsL (fs.take j))).1) ∧ Below W0.heap.size W0 wi) (fun _ i _ => fs.length - (intOf i).toNat)
          case atStart => exact ⟨0, Nat.zero_le _, rfl, hown, hb.trans (Below.refl _ _).drew⟩
          case round =>
            clear hown hb hsz hbw g0 hcb hva
            obtain ⟨j, hj, rfl, hown, hb⟩ := hrel
            have hsz := hb.size
            have hbw : Below B w wr := (hb0.mono hB).trans (hb.mono (by omega))
            by_cases hlt2 : j < fs.length
            · obtain ⟨b2, off2, r, n, rfl, hbB2, hc1, hc2, Hv⟩ := (hva0.below hbw).at hlt2
              have hlen := findA_len d (refsL (fs.take j)) sk
              have hlr : (refsL (fs.take j)).length ≤ 4 := by
                have h1 := obsOf_len (fs.take j)
                simp only [refsL, valsOf, List.length_map, List.length_take] at *
                omega
              cases r
              · have HT := hide (refsL_no hlt2 Hv.out)
                go_wp2
                go_roundw
                case rel => exact ⟨j + 1, by omega, by go_num, by rw [unhide HT]; exact hown.alloc _, hb.alloc hsz _⟩
                case measure => simp [intOf]; omega
              · have hn := hrf _ (List.getElem_mem hlt2)
                rw [Hv.out] at hn
                have hn := hn rfl
                have HT := hide (refsL_yes hlt2 Hv.out hn)
                by_cases hm : n ∈ (findA d sk (refsL (fs.take j))).1
                · have HF := hide (findA_yes hm)
                  have Hm := hide (show decide (n ∈ (findA d sk (refsL (fs.take j))).1) = true from by simpa using hm)
                  clear hm
                  generalize hst : (findA d sk (refsL (fs.take j))).1 = st at *
                  have Hst := hide hst
                  clear hst
                  obtain ⟨sa, sc, rfl, hI, _⟩ := ints_of_owns hown rfl (by omega)
                  have hIa := (hI.below ((Below.refl wr.heap.size wr).alloc (Nat.le_refl _) (.cells #[.bool true, .int .i64 n] 35)))
                  go_wp2_with (go_at_call 40; go_must (refine (has_c _ _ st n wr.heap.size _ hIa).mono ?_); go_must (rintro e w3 ⟨he, hw3⟩; rw [unhide Hm] at he; subst he; subst hw3))
                  go_roundw
                  case rel => exact ⟨j + 1, by omega, by go_num, by rw [unhide HT, unhide HF, unhide Hst]; exact hown.alloc _, hb.alloc hsz _⟩
                  case measure => simp [intOf]; omega
                · have HF := hide (findA_no hm)
                  have Hm := hide (show decide (n ∈ (findA d sk (refsL (fs.take j))).1) = false from by simpa using hm)
                  clear hm
                  generalize hst : (findA d sk (refsL (fs.take j))).1 = st at *
                  have Hst := hide hst
                  clear hst
                  obtain ⟨sa, sc, rfl, hI, _⟩ := ints_of_owns hown rfl (by omega)
                  have hIa := (hI.below ((Below.refl wr.heap.size wr).alloc (Nat.le_refl _) (.cells #[.bool true, .int .i64 n] 35)))
                  have hmx : st.length + 1 ≤ maxLen := by simp only [maxLen]; omega
                  have hmy : (st.length + 1) * 8 ≤ 140737488355328 := by omega
                  go_wp2_with (first
                    | (go_at_call 40; go_must (refine (has_c _ _ st n wr.heap.size _ hIa).mono ?_); go_must (rintro e w3 ⟨he, hw3⟩; rw [unhide Hm] at he; subst he; subst hw3))
                    | (at_builtin; go_must (refine wpList_append_own _ rfl _ _ 31 rfl W0.heap.size 3 i0 _ 1 8 Try.underlying31 hi hz0 hz1 hz2 rfl (by decide) _ _ _ rfl ((hown.alloc _).alloc _) ⟨wr.heap.size + 1, 0, none⟩ 1 1 [.int .i64 n] rfl rfl (cell_one_at _ _ _ _ (by simp)) (by simp [Value.oneCell']) hmx hmy (by simp; omega) ?_); intro v' w1 hown' hgrow _))
                  go_roundw
                  case rel => exact ⟨j + 1, by omega, by go_num, by rw [unhide HT, unhide HF, intsV_snoc, List.length_append]; exact hown', ((hb.alloc hsz _).alloc (by simp; omega) _).grown hgrow (by simp; omega) (fun q e => (hown.lt q e).1)⟩
                  case measure => simp [intOf]; omega
            · obtain rfl : j = fs.length := by omega
              rw [List.take_length] at hown
              have hgr := (findA_prefix d (refsL fs) sk).1.length_le
              go_wp2
              go_roundw
              case rel => exact ⟨k + 1, by rw [unhide HS]; omega, by go_num, by rw [unhide HS]; exact hown, hb⟩
              case measure => simp [intOf]; omega
        · have HS := hide (show orderOf g = (searchN g k).1 from by
            have := searchN_stable g (k := k) (by omega) (g.objs.length - k)
            rw [show k + (g.objs.length - k) = g.objs.length from by omega] at this
            unfold orderOf; rw [this])
          generalize (searchN g k).1 = sk at *
          go_wp2
          go_ret
          refine ⟨sa, sc, ?_, by rw [unhide HS]; exact hI, hb0.trans (hb.mono (by omega))⟩
          rw [unhide HS]; rfl

end Go.Proofs.Ytmelhphhealomaa
