/- Walks: the document's answer: Comps. -/
import Derived.Test.YtohofkfajmeohaaProg
import Derived.Test.YtohofkfajmeohaaMem
import Derived.Test.YtohofkfajmeohaaCs
namespace Go.Proofs.Ytohofkfajmeohaa
set_option linter.unusedSimpArgs false
set_option linter.unusedVariables false
open Go.RowKit

set_option maxRecDepth 100000 in
set_option maxHeartbeats 8000000 in
theorem refComps_c (ao ar : Option Addr) (co cr : Nat) (g : Gr) (B : Nat) (w : World) (ho : Objs B w ao g.objs) (hB : B ≤ w.heap.size) (hG : Good g) :
    Calls Try.prog 11 #[.agg #[.slice ao g.objs.length co, .slice ar g.roots.length cr]] w fun e w' => ∃ v cs, e = .returned v ∧ LRow w' w.heap.size v cs (outF g) ∧ Below w.heap.size w w' := by
  obtain ⟨i3, hi3, hy0, hy1, hy2⟩ := info_parts Try.info3
  obtain ⟨i30, hi30, hz0, hz1, hz2⟩ := info_parts Try.info30
  have hn24 := hG.n24
  have hb1 := (Below.refl w.heap.size w).alloc (Nat.le_refl _) (.cells #[.slice ao g.objs.length co, .slice ar g.roots.length cr] 25)
  go_enter Try.func11, Try.ntmps11
  go_wp2_with fail
  refine (ways_c ao ar co cr g B _ (ho.below (hb1.mono hB)) (by simp; omega) hG).mono ?_
  rintro e w2 ⟨tb, q, hq, rfl, htb, htab, hb2⟩
  have hq576 : q ≤ 576 := by have := mul24 hn24 hn24; omega
  have Hq := hide hq
  have Htab := hide htab
  have hbw2 : Below w.heap.size w w2 := hb1.trans (hb2.mono (by simp))
  clear hq htab hb1 hb2
  go_wp2
  go_loopw [5, 6] (fun vo vd wr => ∃ (k : Nat) (cs : List Sl), (outN g k).length = k ∧ LRow wr w2.heap.size vo cs (outN g k) ∧ wr.ownsRow w2.heap.size 3 1 vd (outN g k).flatten.length (intsV (outN g k).flatten) ∧ (∀ b, vd.ownBlock = some b → ∀ s ∈ cs, (encS s).ownBlock ≠ some b) ∧ Below w2.heap.size w2 wr) (fun _ vd _ => g.objs.length - lenOf vd)
  case atStart => exact ⟨0, [], rfl, lrow_nil _ _, World.ownsRow_nil _ _ _ _, fun b e => by simp [Value.ownBlock] at e, Below.refl _ _⟩
  case round =>
    obtain ⟨k, cs, hkl, hR, hD, hap, hb⟩ := hrel
    generalize hE : wr = wA at *
    clear hE
    have hsA := hb.size
    have hok := outN_ok hG k
    have hfl24 := flat_len hok
    have hcs24 : cs.length ≤ 24 := by rw [← hR.len]; have := outs_le hok; omega
    obtain ⟨da, dc, rfl⟩ := ownsRow_slice hD
    obtain ⟨oa, oc, rfl⟩ := ownsRow_slice hR.row
    have Hkl := hide hkl
    have Hap := hide hap
    clear hkl hap hok
    by_cases hlt : (outN g k).flatten.length < g.objs.length
    · obtain ⟨o, hN⟩ := out_next hG k hlt
      have HN := hide hN
      clear hN
      obtain ⟨fl, hfl⟩ : ∃ fl, (outN g k).flatten = fl := ⟨_, rfl⟩
      have Hfl := hide hfl
      rw [hfl] at hD hlt hfl24 HN Hap ⊢
      clear hfl
      go_wp2
      go_loopw [7, 8] (fun vb iv wr => ∃ i : Nat, i ≤ g.objs.length ∧ iv = .int .i64 ((i : Int) - 1) ∧ wr.ownsRow wA.heap.size 3 1 vb (bestL g fl i).length (intsV (bestL g fl i)) ∧ Below wA.heap.size wA wr) (fun _ iv _ => (intOf iv + 1).toNat)
      case atStart => exact ⟨g.objs.length, Nat.le_refl _, rfl, by unfold bestL; rw [bestI_end]; exact World.ownsRow_nil _ _ _ _, Below.refl _ _⟩
      case round =>
        obtain ⟨i1, hi1, rfl, hBst, hbB⟩ := hrel
        generalize hE : wr = wB at *
        clear hE
        have hsB := hbB.size
        have hDB := hD.kept (grownBy_of_below hbB) (own_none _)
        have hbl24 := bestL_len g fl i1
        obtain ⟨ba, bc, rfl⟩ := ownsRow_slice hBst
        by_cases hpos : 0 < i1
        · obtain ⟨i, rfl⟩ : ∃ i, i1 = i + 1 := ⟨i1 - 1, by omega⟩
          have hii : ((i + 1 : Nat) : Int) - 1 = (i : Int) := by omega
          rw [hii]
          clear hii
          have hin : i < g.objs.length := by omega
          obtain ⟨da', dc', hvd, hId, _⟩ := ints_of_owns hDB rfl (by omega)
          injection hvd with e1 _ e3
          subst e1 e3
          have HbY := hide (fun h => bestL_yes (g := g) (done := fl) hin h)
          have HbN := hide (fun h => bestL_no (g := g) (done := fl) hin h)
          have hII : (0 : Int) ≤ (i : Int) := by omega
          by_cases hdn : (i : Int) ∈ fl
          · have HT := hide (unhide HbN (by unfold predH; simp [hdn]))
            have dH : decide ((i : Int) ∈ fl) = true := by simpa using hdn
            have HH := hide (has_c da dc fl (i : Int) wB.heap.size wB hId)
            rw [dH] at HH
            clear hdn dH HbY HbN
            go_wp2_with fail
            refine (unhide HH).mono ?_
            rintro e wc ⟨rfl, hwc⟩
            have hwc' := hwc.symm
            clear hwc
            subst hwc'
            go_wp2
            go_roundw
            case rel => exact ⟨i, by omega, by go_num, by rw [unhide HT]; exact hBst, hbB⟩
            case measure => simp [intOf]
          · have dH : decide ((i : Int) ∈ fl) = false := by simpa using hdn
            have HH := hide (has_c da dc fl (i : Int) wB.heap.size wB hId)
            rw [dH] at HH
            have Hdn := hide hdn
            clear hdn dH
            go_wp2_with fail
            refine (unhide HH).mono ?_
            rintro e wc ⟨rfl, hwc⟩
            have hwc' := hwc.symm
            clear hwc
            subst hwc'
            obtain ⟨pi, hpi⟩ : ∃ p, i * g.objs.length = p := ⟨_, rfl⟩
            have hwmi := wrap_mul (by omega) hn24 hpi
            have hpi576 : pi ≤ 576 := by have := mul24 (x := i) (by omega) hn24; omega
            have Hpi := hide hpi
            have Hidi : Hid (∀ y, y < g.objs.length → pi + y < q) := fun y hy => by have := idx_lt hin hy; rw [unhide Hq, ← unhide Hpi]; exact this
            clear hpi
            go_wp2
            go_loopw [9, 10, 11] (fun vc rd jv wr => ∃ j : Nat, j ≤ g.objs.length ∧ jv = .int .i64 j ∧ rd = .bool (readyK g fl i j) ∧ wr.ownsRow wB.heap.size 3 1 vc (compK g i j).length (intsV (compK g i j)) ∧ Below wB.heap.size wB wr) (fun _ _ jv _ => g.objs.length - (intOf jv).toNat)
            case atStart => exact ⟨0, Nat.zero_le _, rfl, rfl, World.ownsRow_nil _ _ _ _, Below.refl _ _⟩
            case round =>
              obtain ⟨j, hj, rfl, rfl, hC, hbC⟩ := hrel
              have hsC := hbC.size
              have hcl24 := compK_len g i j
              by_cases hltj : j < g.objs.length
              · obtain ⟨pj, hpj⟩ : ∃ p, j * g.objs.length = p := ⟨_, rfl⟩
                have hwmj := wrap_mul (by omega) hn24 hpj
                have hpj576 : pj ≤ 576 := by have := mul24 (x := j) (by omega) hn24; omega
                have hpji : pj + i < q := by have := idx_lt hltj hin; rw [unhide Hq, ← hpj]; exact this
                have hpij := unhide Hidi j hltj
                have hbC2 : Below w2.heap.size w2 wr := hb.trans ((hbB.mono (by omega)).trans (hbC.mono (by omega)))
                have c1 := (hbC2.cell (p := ⟨tb, i * g.objs.length + j, none⟩) htb).trans (unhide Htab i j hin hltj)
                have c2 := (hbC2.cell (p := ⟨tb, j * g.objs.length + i, none⟩) htb).trans (unhide Htab j i hltj hin)
                rw [unhide Hpi] at c1
                rw [hpj] at c2
                have hpijI : (pi : Int) + (j : Int) < (q : Int) := by omega
                have hpjiI : (pj : Int) + (i : Int) < (q : Int) := by omega
                have HR0 := hide (readyK_succ g fl (i : Int) j)
                have HTy := hide (fun h => compK_yes (g := g) (o := (i : Int)) (k := j) h)
                have HTn := hide (fun h => compK_no (g := g) (o := (i : Int)) (k := j) h)
                have hone : Hid (inOne g i j = (decide ((j : Int) = i) || (decide ((j : Int) ∈ ledL g i) && decide ((i : Int) ∈ ledL g j)))) := rfl
                clear hpj
                generalize readyK g fl (i : Int) j = rj at *
                by_cases hij : j = i
                · subst hij
                  have HT := hide (unhide HTy (inOne_refl _ _))
                  have HR : Hid (readyK g fl (j : Int) (j + 1) = rj) := by show _ = _; rw [unhide HR0, inOne_refl]; simp
                  clear HR0 HTy HTn hone c1 c2
                  go_wp2_with (at_builtin; go_must (refine wpList_append_own _ rfl _ _ 30 rfl wB.heap.size 3 i3 _ 1 8 Try.underlying30 hi3 hy0 hy1 hy2 rfl (by decide) _ _ _ rfl (hC.alloc _) ⟨wr.heap.size, 0, none⟩ 1 1 [.int .i64 (j : Int)] rfl rfl (cell_one_at _ _ _ _ (by simp)) (by simp [Value.oneCell']) (by simp only [maxLen]; omega) (by omega) (by simp; omega) ?_); intro v' w1 hC' hgrow _)
                  go_roundw
                  case rel => exact ⟨j + 1, by omega, by go_num, by rw [unhide HR], by rw [unhide HT, intsV_snoc, List.length_append]; exact hC', (hbC.alloc (by omega) _).grown hgrow (by simp; omega) (fun b e => (hC.lt b e).1)⟩
                  case measure => simp [intOf]; omega
                · have hne : ¬ (i : Int) = (j : Int) := by omega
                  have hne' : ¬ (j : Int) = (i : Int) := by omega
                  have d1 : ((i : Int) == (j : Int)) = false := beq_eq_false_iff_ne.2 hne
                  have d2 : decide ((j : Int) = (i : Int)) = false := by simpa using hne'
                  rw [d2] at hone
                  clear d2
                  cases hm1 : decide ((j : Int) ∈ ledL g i)
                  · rw [hm1] at c1 hone HR0
                    have hno : inOne g i j = false := by rw [unhide hone]; rfl
                    have HT := hide (unhide HTn hno)
                    have HR : Hid (readyK g fl (i : Int) (j + 1) = rj) := by show _ = _; rw [unhide HR0, hno]; simp
                    clear HR0 HTy HTn hone c2 hm1 hno
                    go_wp2
                    go_roundw
                    case rel => exact ⟨j + 1, by omega, by go_num, by rw [unhide HR], by rw [unhide HT]; exact hC, hbC⟩
                    case measure => simp [intOf]; omega
                  · rw [hm1] at c1 hone HR0
                    clear hm1
                    cases hm2 : decide ((i : Int) ∈ ledL g j)
                    · rw [hm2] at c2 hone
                      have hno : inOne g i j = false := by rw [unhide hone]; rfl
                      have HT := hide (unhide HTn hno)
                      have hIdC := (hId.below hbC).mono (B' := wr.heap.size) hsC
                      cases hm3 : decide ((j : Int) ∈ fl)
                      · have HH := hide (has_c da dc fl (j : Int) wr.heap.size wr hIdC)
                        rw [hm3] at HH HR0
                        have HR : Hid (readyK g fl (i : Int) (j + 1) = false) := by show _ = _; rw [unhide HR0, hno]; simp
                        clear HR0 HTy HTn hone hm2 hno hm3
                        go_wp2_with fail
                        refine (unhide HH).mono ?_
                        rintro e wc ⟨rfl, hwc⟩
                        have hwc' := hwc.symm
                        clear hwc
                        subst hwc'
                        go_wp2
                        go_roundw
                        case rel => exact ⟨j + 1, by omega, by go_num, by rw [unhide HR], by rw [unhide HT]; exact hC, hbC⟩
                        case measure => simp [intOf]; omega
                      · have HH := hide (has_c da dc fl (j : Int) wr.heap.size wr hIdC)
                        rw [hm3] at HH HR0
                        have HR : Hid (readyK g fl (i : Int) (j + 1) = rj) := by show _ = _; rw [unhide HR0, hno]; simp
                        clear HR0 HTy HTn hone hm2 hno hm3
                        go_wp2_with fail
                        refine (unhide HH).mono ?_
                        rintro e wc ⟨rfl, hwc⟩
                        have hwc' := hwc.symm
                        clear hwc
                        subst hwc'
                        go_wp2
                        go_roundw
                        case rel => exact ⟨j + 1, by omega, by go_num, by rw [unhide HR], by rw [unhide HT]; exact hC, hbC⟩
                        case measure => simp [intOf]; omega
                    · rw [hm2] at c2 hone
                      have hyes : inOne g i j = true := by rw [unhide hone]; rfl
                      have HT := hide (unhide HTy hyes)
                      have HR : Hid (readyK g fl (i : Int) (j + 1) = rj) := by show _ = _; rw [unhide HR0, hyes]; simp
                      clear HR0 HTy HTn hone hm2 hyes
                      go_wp2_with (at_builtin; go_must (refine wpList_append_own _ rfl _ _ 30 rfl wB.heap.size 3 i3 _ 1 8 Try.underlying30 hi3 hy0 hy1 hy2 rfl (by decide) _ _ _ rfl (hC.alloc _) ⟨wr.heap.size, 0, none⟩ 1 1 [.int .i64 (j : Int)] rfl rfl (cell_one_at _ _ _ _ (by simp)) (by simp [Value.oneCell']) (by simp only [maxLen]; omega) (by omega) (by simp; omega) ?_); intro v' w1 hC' hgrow _)
                      go_roundw
                      case rel => exact ⟨j + 1, by omega, by go_num, by rw [unhide HR], by rw [unhide HT, intsV_snoc, List.length_append]; exact hC', (hbC.alloc (by omega) _).grown hgrow (by simp; omega) (fun b e => (hC.lt b e).1)⟩
                      case measure => simp [intOf]; omega
              · obtain rfl : j = g.objs.length := by omega
                have HrE := hide (readyK_end hG fl (i : Int))
                have HcE : Hid (compK g i g.objs.length = compL g i) := rfl
                have hBst2 := hBst.kept (grownBy_of_below hbC) (own_none _)
                have hbB2 : Below wA.heap.size wA wr := hbB.trans (hbC.mono (by omega))
                have HpE : Hid (predH g fl i = (isHead g i && ready g fl i)) := by
                  show _ = _
                  unfold predH
                  have : decide ((i : Int) ∈ fl) = false := by simpa using unhide Hdn
                  rw [this]; simp
                rw [unhide HrE]
                cases hrd : ready g fl i
                · rw [hrd] at HpE
                  have HT := hide (unhide HbN (by rw [unhide HpE]; simp))
                  clear hrd HpE HbN HbY HrE
                  go_wp2
                  go_roundw
                  case rel => exact ⟨i, by omega, by go_num, by rw [unhide HT]; exact hBst2, hbB2⟩
                  case measure => simp [intOf]
                · rw [hrd] at HpE
                  rw [unhide HcE] at hC
                  have hhd : 0 < (compL g i).length := List.length_pos_of_mem (head_mem (by omega) (by omega))
                  obtain ⟨gc, capc, rfl, hcc, hgl⟩ := ints_at hC hhd
                  have hh := head_get (g := g) (o := (i : Int)) (by omega) (by omega)
                  rw [List.getElem?_eq_getElem hhd] at hh
                  injection hh with hh
                  rw [hh] at hcc
                  have hclL : (compL g i).length ≤ g.objs.length := compK_len g i g.objs.length
                  clear hh hrd HrE
                  by_cases hhe : headOf g i = (i : Int)
                  · have HT := hide (unhide HbY (by rw [unhide HpE]; simp [isHead, hhe]))
                    rw [hhe] at hcc
                    clear HpE HbN HbY hhe HcE
                    go_wp2
                    go_roundw
                    case rel => exact ⟨i, by omega, by go_num, by rw [unhide HT]; exact row_mono hC (by omega), hbB2⟩
                    case measure => simp [intOf]
                  · have HT := hide (unhide HbN (by rw [unhide HpE]; simp [isHead, hhe]))
                    have d1 : (headOf g i == (i : Int)) = false := beq_eq_false_iff_ne.2 hhe
                    have d2 : decide (headOf g i = (i : Int)) = false := by simpa using hhe
                    clear HpE HbN HbY HcE
                    generalize headOf g i = hd at *
                    go_wp2
                    go_roundw
                    case rel => exact ⟨i, by omega, by go_num, by rw [unhide HT]; exact hBst2, hbB2⟩
                    case measure => simp [intOf]
        · obtain rfl : i1 = 0 := by omega
          have Hc0 : Hid (bestL g fl 0 = compL g o) := by show _ = _; unfold bestL; rw [bestI_zero, unhide HN]
          rw [unhide Hc0] at hBst hbl24 ⊢
          have hpos0 : 0 < (compL g o).length := by
            have hs := next_spec (unhide HN)
            exact List.length_pos_of_mem (comp_self hs.1.1 hs.1.2)
          have Hout : Hid (outN g (k + 1) = outN g k ++ [compL g o]) := out_succ (by rw [unhide Hfl]; exact unhide HN)
          have Hfl2 : Hid ((outN g (k + 1)).flatten = fl ++ compL g o) := by show _ = _; rw [unhide Hout, List.flatten_append, unhide Hfl]; simp
          have hflc : fl.length + (compL g o).length ≤ g.objs.length := by
            have := flat_len (outN_ok hG (k + 1))
            rw [unhide Hfl2, List.length_append] at this
            exact this
          clear Hc0
          generalize compL g o = c at *
          have hRB := hR.below hbB
          have hal := (Below.refl wB.heap.size wB).alloc (Nat.le_refl _) (.cells #[.slice ba c.length bc] 30)
          have hneg : ¬ (0 : Int) ≤ ((0 : Nat) : Int) - 1 := by omega
          go_wp2_with (at_builtin; go_must (refine wpList_append_own_at _ rfl _ _ 26 rfl w2.heap.size 30 i30 _ 1 24 Try.underlying26 hi30 hz0 hz1 hz2 rfl (by decide) _ _ _ rfl (hRB.row.alloc _) ⟨wB.heap.size, 0, none⟩ 1 1 [.slice ba c.length bc] rfl rfl (cell_one_at _ _ _ _ (by simp)) (by simp [Value.oneCell']) (by simp only [maxLen]; omega) (by omega) (by simp; omega) ?_); intro vo' wD hrowD hgD _ hatD)
          have hsD := hgD.size
          simp only [World.size_alloc] at hsD
          have hno := noInts_row (hRB.row.alloc (.cells #[.slice ba c.length bc] 30))
          have hRD := LRow.snoc (s := (ba, c.length, bc)) (hRB.below hal) (row_mono (hBst.alloc _) (by omega)) hrowD hgD
          rw [← unhide Hout] at hRD
          have hDD := ints_kept (hDB.alloc (.cells #[.slice ba c.length bc] 30)) hgD hno
          have hbD : Below w2.heap.size w2 wD := ((hb.trans (hbB.mono (by omega))).alloc (by omega) _).grown hgD (by simp; omega) (fun b e => (hRB.row.lt b e).1)
          have hsep : ∀ b, (Value.slice da fl.length dc).ownBlock = some b → ∀ s ∈ cs ++ [(ba, c.length, bc)], (encS s).ownBlock ≠ some b := by
            intro b e s hs e'
            rcases List.mem_append.1 hs with hs | hs
            · exact unhide Hap b e s hs e'
            · simp only [List.mem_singleton] at hs
              subst hs
              have h1 := (hBst.lt b e').1
              have h2 := (hD.lt b e).2
              omega
          have hclen : cs.length = (outN g k).length := hR.len.symm
          obtain ⟨oa', oc', rfl⟩ := ownsRow_slice hRD.row
          obtain ⟨lcs, hlcs⟩ : ∃ lcs, (cs ++ [((ba, c.length, bc) : Sl)]).length = lcs := ⟨_, rfl⟩
          have Hlast : Hid (∀ W, LRow W w2.heap.size (.slice oa' lcs oc') (cs ++ [(ba, c.length, bc)]) (outN g (k + 1)) → W.ownsRow w2.heap.size 3 1 (.slice ba c.length bc) c.length (intsV c)) := fun W h => by
            have := h.each cs.length (ba, c.length, bc) c (by simp) (by rw [unhide Hout, hclen]; simp)
            exact this
          rw [hlcs] at hRD
          rw [hlcs]
          clear hlcs hal hRB hrowD hgD hatD hno hclen Hap hR hD hBst hDB hbB
          generalize cs ++ [((ba, c.length, bc) : Sl)] = cs2 at *
          go_wp2
          go_loopw [6, 93] (fun vd jv wr => ∃ j : Nat, j ≤ c.length ∧ jv = .int .i64 j ∧ wr.ownsRow w2.heap.size 3 1 vd (fl ++ c.take j).length (intsV (fl ++ c.take j)) ∧ LRow wr w2.heap.size (.slice oa' lcs oc') cs2 (outN g (k + 1)) ∧ (∀ b, vd.ownBlock = some b → ∀ s ∈ cs2, (encS s).ownBlock ≠ some b) ∧ Below w2.heap.size w2 wr) (fun _ jv _ => c.length - (intOf jv).toNat)
          case atStart => exact ⟨0, Nat.zero_le _, rfl, by simpa using hDD, hRD, hsep, hbD⟩
          case round =>
            clear hDD hRD hsep hbD
            obtain ⟨j, hj, rfl, hDr, hRr, hsp, hbr⟩ := hrel
            have hsr := hbr.size
            have Hsp := hide hsp
            clear hsp
            by_cases hltj : j < c.length
            · have hbest := unhide Hlast wr hRr
              obtain ⟨gb, capb, hvb, hxb, hgb⟩ := ints_at hbest hltj
              injection hvb with e1 _ e3
              subst e1 e3
              have HT := hide (List.take_succ_eq_append_getElem hltj)
              have hflj : (fl ++ c.take j).length ≤ 24 := by rw [List.length_append, List.length_take]; omega
              have hal := (Below.refl wr.heap.size wr).alloc (Nat.le_refl _) (.cells #[.int .i64 c[j]] 3)
              obtain ⟨xa, xc, rfl⟩ := ownsRow_slice hDr
              have HDr := hide hDr
              obtain ⟨F, hF⟩ : ∃ F, fl ++ c.take j = F := ⟨_, rfl⟩
              have HF := hide hF
              rw [hF] at hDr hflj HDr ⊢
              rw [hF] at Hsp
              clear hF hbest
              generalize c[j] = x at *
              go_wp2_with (at_builtin; go_must (refine wpList_append_own_at _ rfl _ _ 30 rfl w2.heap.size 3 i3 _ 1 8 Try.underlying30 hi3 hy0 hy1 hy2 rfl (by decide) _ _ _ rfl (hDr.alloc _) ⟨wr.heap.size, 0, none⟩ 1 1 [.int .i64 x] rfl rfl (cell_one_at _ _ _ _ (by simp)) (by simp [Value.oneCell']) (by simp only [maxLen]; omega) (by omega) (by simp; omega) ?_); intro v' w1 hD' hgrow _ hat')
              simp only [World.size_alloc] at hat'
              go_roundw
              case rel =>
                refine ⟨j + 1, by omega, by go_num, ?_, ?_, ?_, (hbr.alloc (by omega) _).grown hgrow (by simp; omega) (fun b e => (hDr.lt b e).1)⟩
                · rw [unhide HT, ← List.append_assoc, unhide HF, intsV_snoc, List.length_append]; exact hD'
                · refine (hRr.below hal).ownSep hgrow (rows_apart (hRr.row.alloc (.cells #[.int .i64 x] 3)) (hDr.alloc (.cells #[.int .i64 x] 3))) (fun s hs => ?_)
                  cases hv : (encS s).ownBlock with
                  | none => exact .inl rfl
                  | some b => exact .inr fun e => unhide Hsp b e.symm s hs hv
                · intro b e s hs e'
                  rcases hat' with h | h
                  · exact unhide Hsp b (h ▸ e) s hs e'
                  · rw [h] at e
                    injection e with e
                    have := hRr.lts s hs b e'
                    omega
              case measure => simp [intOf]; omega
            · obtain rfl : j = c.length := by omega
              have HF : Hid (fl ++ c.take c.length = (outN g (k + 1)).flatten) := by show _ = _; rw [List.take_length, unhide Hfl2]
              have hlk1 : Hid ((outN g (k + 1)).length = k + 1) := by show _ = _; rw [unhide Hout, List.length_append, unhide Hkl]; rfl
              rw [unhide HF] at hDr
              obtain ⟨xa, xc, rfl⟩ := ownsRow_slice hDr
              have hfln : (outN g (k + 1)).flatten.length = fl.length + c.length := by rw [unhide Hfl2, List.length_append]
              have Hfln := hide hfln
              clear hfln
              go_wp2
              go_roundw
              case rel => exact ⟨k + 1, cs2, unhide hlk1, hRr, hDr, unhide Hsp, hbr⟩
              case measure =>
                show g.objs.length - (outN g (k + 1)).flatten.length < g.objs.length - fl.length
                rw [unhide Hfln]
                omega
    · have HE := hide (outF_eq hG (unhide Hkl) (.inl (by omega)))
      obtain ⟨fl, hfl⟩ : ∃ fl, (outN g k).flatten = fl := ⟨_, rfl⟩
      rw [hfl] at hD hlt hfl24 ⊢
      clear hfl Hap
      go_wp2
      go_ret
      exact ⟨_, cs, rfl, by rw [unhide HE]; exact hR.mono (by have := hbw2.size; omega), hbw2.trans (hb.mono hbw2.size)⟩

end Go.Proofs.Ytohofkfajmeohaa
