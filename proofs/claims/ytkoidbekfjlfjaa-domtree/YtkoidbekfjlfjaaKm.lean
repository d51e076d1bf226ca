/- Walks: DomTree. -/
import Derived.Test.YtkoidbekfjlfjaaProg
import Derived.Test.YtkoidbekfjlfjaaMem
import Derived.Test.YtkoidbekfjlfjaaKl
namespace Go.Proofs.Ytkoidbekfjlfjaa
set_option linter.unusedSimpArgs false
set_option linter.unusedVariables false
open Go.RowKit Go.Shelf

set_option maxRecDepth 100000 in
set_option maxHeartbeats 2000000 in
theorem domTree_bad (ao ar : Option Addr) (aoc arc : Nat) (a : Gr) (w : World) (hao : Objs w.heap.size w ao a.objs) (har : Vals w.heap.size w ar a.roots) (na : checkG a ≠ 0) :
    Calls Try.prog 5 #[.agg #[.slice ao a.objs.length aoc, .slice ar a.roots.length arc]] w fun e w' => e = .returned (.bool true) ∧ Below w.heap.size w w' := by
  have Ha := hide na
  clear na
  go_enter Try.func5, Try.ntmps5
  go_wp2_with fail
  obtain ⟨wu0, hu0⟩ : ∃ u0, w.alloc (.cells #[.slice ao a.objs.length aoc, .slice ar a.roots.length arc] 25) = u0 := ⟨_, rfl⟩
  rw [hu0]
  obtain ⟨hsz0, hw0, hcells⟩ := law_box _ _ 25 w wu0 hu0
  have Hcells := hide hcells
  clear hu0 hcells
  have hn0 : w.heap.size + 1 ≤ wu0.heap.size := by omega
  refine (good_c _ _ _ _ a w.heap.size _ (hao.below hw0) (har.below hw0) (by omega)).mono ?_
  rintro e wu1 ⟨he, hb1⟩
  have hk1 : Below (w.heap.size + 1) wu0 wu1 := hb1.mono hn0
  have hw1 : Below w.heap.size w wu1 := hw0.trans (hb1.mono (by omega))
  have hn1 : w.heap.size + 1 ≤ wu1.heap.size := by have := hb1.size; omega
  obtain ⟨x0, x1⟩ := unhide Hcells wu1 hk1
  rw [checkG_beq' (unhide Ha)] at he
  subst he
  go_wp2_with fail
  clear x0 x1
  refine (refused_c _ _ _ _ a w.heap.size _ (hao.below hw1) (har.below hw1) (by omega)).mono ?_
  rintro e wu2 ⟨he, hb2⟩
  rw [checkG_bne' (unhide Ha)] at he
  subst he
  go_wp2
  go_ret
  exact ⟨rfl, hw1.trans (hb2.mono (by omega))⟩

set_option maxRecDepth 100000 in
set_option maxHeartbeats 4000000 in
theorem domTree_ok (ao ar : Option Addr) (aoc arc : Nat) (a : Gr) (w : World) (hao : Objs w.heap.size w ao a.objs) (har : Vals w.heap.size w ar a.roots) (na : checkG a = 0) :
    Calls Try.prog 5 #[.agg #[.slice ao a.objs.length aoc, .slice ar a.roots.length arc]] w fun e w' => e = .returned (.bool true) ∧ Below w.heap.size w w' := by
  have Ha := hide na
  have hG := good_of_check na
  have hn24 := hG.n24
  have hao1 := hao.1
  obtain ⟨i26, hi26, hy0, hy1, hy2⟩ := info_parts Try.info26
  obtain ⟨i3, hi3, hz0, hz1, hz2⟩ := info_parts Try.info3
  clear na
  go_enter Try.func5, Try.ntmps5
  go_wp2_with fail
  obtain ⟨wu0, hu0⟩ : ∃ u0, w.alloc (.cells #[.slice ao a.objs.length aoc, .slice ar a.roots.length arc] 25) = u0 := ⟨_, rfl⟩
  rw [hu0]
  obtain ⟨hsz0, hw0, hcells⟩ := law_box _ _ 25 w wu0 hu0
  have Hcells := hide hcells
  clear hu0 hcells
  have hn0 : w.heap.size + 1 ≤ wu0.heap.size := by omega
  refine (good_c _ _ _ _ a w.heap.size _ (hao.below hw0) (har.below hw0) (by omega)).mono ?_
  rintro e wu1 ⟨he, hb1⟩
  have hk1 : Below (w.heap.size + 1) wu0 wu1 := hb1.mono hn0
  have hw1 : Below w.heap.size w wu1 := hw0.trans (hb1.mono (by omega))
  have hn1 : w.heap.size + 1 ≤ wu1.heap.size := by have := hb1.size; omega
  obtain ⟨x0, x1⟩ := unhide Hcells wu1 hk1
  rw [checkG_beq (unhide Ha)] at he
  subst he
  go_wp2_with fail
  clear x0 x1
  refine (idom_ok _ _ _ _ a w.heap.size _ (hao.below hw1) (har.below hw1) (by omega) (unhide Ha)).mono ?_
  rintro e wu2 ⟨da, dc, D, rfl, HDl, hID, Hnear, hb2⟩
  have hk2 : Below (w.heap.size + 1) wu0 wu2 := hk1.trans (hb2.mono hn1)
  have hw2 : Below w.heap.size w wu2 := hw1.trans (hb2.mono (by omega))
  have hn2 : w.heap.size + 1 ≤ wu2.heap.size := by have := hb2.size; omega
  obtain ⟨x0, x1⟩ := unhide Hcells wu2 hk2
  have dN : ((a.objs.length : Int) != (a.objs.length : Int)) = false := by simp
  go_wp2
  clear x0 x1
  go_loopw [5, 6] (fun s i wr => ∃ (k : Nat) (es : List Value), k ≤ a.objs.length ∧ i = .int .i64 k ∧ IRow wr wu2.heap.size s (keptK a k) es ∧ Below wu2.heap.size wu2 wr) (fun _ i _ => a.objs.length - (intOf i).toNat)
  case atStart => exact ⟨0, [], Nat.zero_le _, rfl, irow_nil _ _, Below.refl _ _⟩
  case round =>
    obtain ⟨k, es, hk, rfl, hrow, hb⟩ := hrel
    have hsz := hb.size
    have hkr : Below (w.heap.size + 1) wu0 wr := hk2.trans (hb.mono hn2)
    have hwr : Below w.heap.size w wr := hw2.trans (hb.mono (by omega))
    by_cases hlt : k < a.objs.length
    · obtain ⟨x0, x1⟩ := unhide Hcells wr hkr
      have hltI : (k : Int) < (a.objs.length : Int) := by omega
      go_wp2_with fail
      clear x0 x1
      refine (ret_f _ _ _ _ a (k : Int) w.heap.size _ (hao.below hwr) (har.below hwr) (by have := hwr.size; omega) (unhide Ha) (by omega) (by omega)).mono ?_
      rintro e wu4 ⟨a4, c4, rfl, hI4, hb4, hfr4⟩
      have hrow4 := hrow.below hb4
      have hs4 := hb4.size
      have hlk := hrow4.row
      rw [keptK_len] at hlk
      have Hkl := hide (ret_len hG (k : Int))
      have HKs := hide (keptK_succ a k)
      have Hfr := hide hfr4
      clear hfr4
      generalize retL a (k : Int) = l4 at *
      have hmx : k + 1 ≤ maxLen := by simp only [maxLen]; omega
      have hmy : (k + 1) * 24 ≤ 140737488355328 := by omega
      go_wp2_with (at_builtin; go_must (refine wpList_append_own_at _ rfl _ _ 40 rfl wu2.heap.size 26 i26 _ 1 24 Try.underlying40 hi26 hy0 hy1 hy2 rfl (by decide) _ _ _ rfl (hlk.alloc _) ⟨wu4.heap.size, 0, none⟩ 1 1 [.slice a4 l4.length c4] rfl rfl (cell_one_at _ _ _ _ rfl) (by simp [Value.oneCell']) hmx hmy (by simp; omega) ?_); go_must (intro v' w1 hown' hgrow _ hat))
      go_roundw
      case rel =>
        have hal : Below wu4.heap.size wu4 (wu4.alloc (.cells #[.slice a4 l4.length c4] 26)) := (Below.refl _ _).alloc (Nat.le_refl _) _
        have hsn := (hrow4.below hal).snoc (ai := a4) (ci := c4) (l := l4) ((hI4.below hal).mono hal.size) (fun b off e hv => by
          have h1 := (hrow.row.lt b hv).2
          have h2 := unhide Hfr b off e
          omega) (by rw [keptK_len]; exact hown') hgrow hat
        refine ⟨k + 1, _, by omega, by go_num, by rw [unhide HKs]; exact hsn, ?_⟩
        exact ((hb.trans (hb4.mono hsz)).alloc (by omega) _).grown hgrow (by simp; omega) (fun q e => (hrow.row.lt q e).1)
      case measure => simp [intOf]; omega
    · obtain rfl : k = a.objs.length := by omega
      obtain ⟨ka, kc, hv, hT⟩ := hrow.tab (by rw [keptK_len]; omega)
      rw [keptK_len] at hv
      subst hv
      obtain ⟨w3, hw3⟩ : ∃ w3, w3 = wr := ⟨_, rfl⟩
      subst hw3
      go_wp2
      clear hrow
      go_loopw [9] (fun j wx => ∃ i : Nat, i ≤ a.objs.length ∧ j = .int .i64 i ∧ Below w3.heap.size w3 wx) (fun j _ => a.objs.length - (intOf j).toNat)
      case atStart => exact ⟨0, Nat.zero_le _, rfl, Below.refl _ _⟩
      case round =>
        obtain ⟨i, hi, rfl, hbo⟩ := hrel
        obtain ⟨wo, hwo⟩ : ∃ wo, wo = wr := ⟨_, rfl⟩
        subst hwo
        have hso := hbo.size
        by_cases hlti : i < a.objs.length
        · obtain ⟨d0, hd0, hn0'⟩ := unhide Hnear i hlti
          have hiD : i < D.length := by rw [unhide HDl]; exact hlti
          have Hd0 := hide hd0
          have Hn0' := hide hn0'
          have hltiI : (i : Int) < (a.objs.length : Int) := by omega
          clear hd0 hn0'
          go_wp2
          go_loopw [10, 11] (fun s j wr => ∃ (u : List Int) (kz : Int), j = .int .i64 kz ∧ wr.ownsRow wo.heap.size 3 1 s u.length (intsV u) ∧ Hid (u.length ≤ a.objs.length) ∧ Hid (UpI a i d0 u kz) ∧ Below wo.heap.size wo wr) (fun s _ _ => a.objs.length + 1 - (match s with | .slice _ n _ => n | _ => 0))
          case atStart => exact ⟨[], i, rfl, World.ownsRow_nil _ _ _ _, hide (Nat.zero_le _), hide (upI_start hG (by omega) (unhide Hn0')), Below.refl _ _⟩
          case round =>
            obtain ⟨u, kz, rfl, hown, Hul, HU, hb3⟩ := hrel
            have hs3 := hb3.size
            have hul := unhide Hul
            have hTr : Tab wr.heap.size wr ka (keptK a a.objs.length) := ((hT.below (hbo.trans (hb3.mono hso))).mono (by omega))
            have hwx : Below wu2.heap.size wu2 wr := hb.trans ((hbo.trans (hb3.mono hso)).mono (by omega))
            have hIDr := hID.below hwx
            obtain ⟨ua, uc, hvu, hIu, hr9⟩ := ints_of_owns hown rfl (by omega)
            subst hvu
            clear hr9
            obtain ⟨bd, od, hda, hbd, hcd⟩ := hIDr.at hiD
            subst hda
            have hd1 := unhide Hd0
            rw [List.getElem?_eq_getElem hiD] at hd1
            injection hd1 with hd1
            rw [hd1] at hcd
            clear hd1
            rcases unhide HU with ⟨rfl, hu0, rfl, hno⟩ | ⟨hd2, hU⟩
            · have Hfin : Hid (∀ v : Int, decide ((i : Int) ∈ retL a v) = decide (v ∈ u)) := fun v => by rw [hu0]; exact ret_off hno v
              have dk : decide ((i : Int) ≥ 0) = true := by simp
              have dl : decide ((u.length : Int) ≤ (a.objs.length : Int)) = true := by simp; omega
              clear hno HU Hul hu0
              go_wp2
              go_loop [12] (fun j => ∃ q : Nat, q ≤ a.objs.length ∧ j = .int .i64 q) (fun j => a.objs.length - (intOf j).toNat)
              case atStart => exact ⟨0, Nat.zero_le _, rfl⟩
              case round =>
                obtain ⟨q, hq, rfl⟩ := hrel
                by_cases hltq : q < a.objs.length
                · have hqK : q < (keptK a a.objs.length).length := by rw [keptK_len]; exact hltq
                  obtain ⟨bt, ot, ai, ci, eta, hbt, hct, hIt⟩ := hTr.at hqK
                  subst eta
                  rw [keptK_get hltq] at hct hIt
                  have hqI : (q : Int) < (a.objs.length : Int) := by omega
                  have Hf := hide (unhide Hfin (q : Int))
                  clear hqK
                  generalize retL a (q : Int) = lq at *
                  go_wp2_with fail
                  refine (has_c ai ci lq (i : Int) wr.heap.size _ hIt).mono ?_
                  rintro e w7 ⟨he7, hw7⟩
                  have hw7 := hw7.symm
                  subst hw7
                  rw [unhide Hf] at he7
                  subst he7
                  go_wp2_with fail
                  refine (has_c ua uc u (q : Int) wr.heap.size _ hIu).mono ?_
                  rintro e w7 ⟨rfl, hw7⟩
                  have hw7 := hw7.symm
                  subst hw7
                  generalize decide ((q : Int) ∈ u) = bb at *
                  have dbb : (bb != bb) = false := by cases bb <;> rfl
                  go_wp2
                  go_round
                  case rel => exact ⟨q + 1, by omega, by go_num⟩
                  case measure => simp [intOf]; omega
                · obtain rfl : q = a.objs.length := by omega
                  go_wp2
                  go_roundw
                  case rel => exact ⟨i + 1, by omega, by go_num, hbo.trans (hb3.mono hbo.size)⟩
                  case measure => simp [intOf]; omega
            · have dd : (d0 != -2) = true := by simpa using hd2
              have HUk := hide hU
              have Hd2 := hide hd2
              clear hd2 HU
              by_cases hkz : kz < 0
              · have Hfin := hide (fun v => hU.fin hkz v)
                have dk : decide (kz ≥ 0) = false := by simp; omega
                have dk' : decide (0 ≤ kz) = false := by simp; omega
                clear hU
                go_wp2
                go_loop [12] (fun j => ∃ q : Nat, q ≤ a.objs.length ∧ j = .int .i64 q) (fun j => a.objs.length - (intOf j).toNat)
                case atStart => exact ⟨0, Nat.zero_le _, rfl⟩
                case round =>
                  obtain ⟨q, hq, rfl⟩ := hrel
                  by_cases hltq : q < a.objs.length
                  · have hqK : q < (keptK a a.objs.length).length := by rw [keptK_len]; exact hltq
                    obtain ⟨bt, ot, ai, ci, eta, hbt, hct, hIt⟩ := hTr.at hqK
                    subst eta
                    rw [keptK_get hltq] at hct hIt
                    have hqI : (q : Int) < (a.objs.length : Int) := by omega
                    have Hf := hide (unhide Hfin (q : Int))
                    clear hqK
                    generalize retL a (q : Int) = lq at *
                    go_wp2_with fail
                    refine (has_c ai ci lq (i : Int) wr.heap.size _ hIt).mono ?_
                    rintro e w7 ⟨he7, hw7⟩
                    have hw7 := hw7.symm
                    subst hw7
                    rw [unhide Hf] at he7
                    subst he7
                    go_wp2_with fail
                    refine (has_c ua uc u (q : Int) wr.heap.size _ hIu).mono ?_
                    rintro e w7 ⟨rfl, hw7⟩
                    have hw7 := hw7.symm
                    subst hw7
                    generalize decide ((q : Int) ∈ u) = bb at *
                    have dbb : (bb != bb) = false := by cases bb <;> rfl
                    go_wp2
                    go_round
                    case rel => exact ⟨q + 1, by omega, by go_num⟩
                    case measure => simp [intOf]; omega
                  · obtain rfl : q = a.objs.length := by omega
                    go_wp2
                    go_roundw
                    case rel => exact ⟨i + 1, by omega, by go_num, hbo.trans (hb3.mono hbo.size)⟩
                    case measure => simp [intOf]; omega
              · have hlu := hU.lt hG (by omega)
                have hko := order_ok hG (hU.kin (by omega))
                have Hst := hide (fun d hd => hU.step hG (k := kz) (d := d) (by omega) hd)
                clear hU
                obtain ⟨kq, rfl⟩ := Int.eq_ofNat_of_zero_le (show 0 ≤ kz by omega)
                have dk : decide ((kq : Int) ≥ 0) = true := by simp
                have dl : decide ((u.length : Int) ≤ (a.objs.length : Int)) = true := by simp; omega
                have hkN : kq < a.objs.length := by omega
                have dg : decide ((kq : Int) ≥ (a.objs.length : Int)) = false := by simp; omega
                have dg' : decide ((a.objs.length : Int) ≤ (kq : Int)) = false := by simp; omega
                have hkNI : (kq : Int) < (a.objs.length : Int) := by omega
                have hmx : u.length + 1 ≤ maxLen := by simp only [maxLen]; omega
                have hmy : (u.length + 1) * 8 ≤ 140737488355328 := by omega
                obtain ⟨dq, hdq, hnq⟩ := unhide Hnear kq hkN
                have hkD : kq < D.length := by rw [unhide HDl]; exact hkN
                have HUn := hide (unhide Hst dq hnq)
                rw [List.getElem?_eq_getElem hkD] at hdq
                injection hdq with hdq
                clear hnq Hst
                have hIDa := (hID.below (hwx.alloc (by have := hwx.size; omega) (.cells #[.int .i64 (kq : Int)] 3)))
                go_wp2_with (at_builtin; go_must (refine wpList_append_own_at _ rfl _ _ 26 rfl wo.heap.size 3 i3 _ 1 8 Try.underlying26 hi3 hz0 hz1 hz2 rfl (by decide) _ _ _ rfl (hown.alloc _) ⟨wr.heap.size, 0, none⟩ 1 1 [.int .i64 (kq : Int)] rfl rfl (cell_one_at _ _ _ _ rfl) (by simp [Value.oneCell']) hmx hmy (by simp; omega) ?_); go_must (intro v' w1 hown' hgrow _ hat; have hbw1 : Below wo.heap.size wo w1 := (hb3.alloc hs3 _).grown hgrow (by simp; omega) (fun q e => (hown.lt q e).1); obtain ⟨bd2, od2, hda2, hbd2, hcd2⟩ := (hID.below (hb.trans ((hbo.trans (hbw1.mono hso)).mono (by omega)))).at hkD; injection hda2 with hda2; injection hda2 with hdb hdo; subst hdb hdo; rw [hdq] at hcd2))
                go_roundw
                case rel => exact ⟨u ++ [(kq : Int)], dq, rfl, by rw [intsV_snoc, List.length_append]; exact hown', hide (by simp; omega), hide (.inr ⟨unhide Hd2, unhide HUn⟩), hbw1⟩
                case measure =>
                  obtain ⟨gv, cv, rfl⟩ := ownsRow_succ hown'
                  simp
                  omega
        · obtain rfl : i = a.objs.length := by omega
          go_wp2
          go_ret
          exact ⟨rfl, hw2.trans ((hb.trans (hbo.mono (by omega))).mono (by omega))⟩

theorem domTree_c (ao ar : Option Addr) (aoc arc : Nat) (a : Gr) (w : World) (hao : Objs w.heap.size w ao a.objs) (har : Vals w.heap.size w ar a.roots) :
    Calls Try.prog 5 #[.agg #[.slice ao a.objs.length aoc, .slice ar a.roots.length arc]] w fun e w' => e = .returned (.bool true) ∧ Below w.heap.size w w' := by
  by_cases na : checkG a = 0
  · exact domTree_ok ao ar aoc arc a w hao har na
  · exact domTree_bad ao ar aoc arc a w hao har na

end Go.Proofs.Ytkoidbekfjlfjaa
