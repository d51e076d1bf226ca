/- Walks: CompsMutual. -/
import Derived.Test.YtohofkfajmeohaaProg
import Derived.Test.YtohofkfajmeohaaMem
import Derived.Test.YtohofkfajmeohaaCo
import Derived.BigQuiet
import Derived.Deep.QuietTactic
namespace Go.Proofs.Ytohofkfajmeohaa
set_option linter.unusedSimpArgs false
set_option linter.unusedVariables false
open Go.RowKit

theorem flat_uniq : ∀ (l : List (List Int)), l.flatten.Nodup → ∀ (j k : Nat) (c d : List Int) (x : Int), l[j]? = some c → l[k]? = some d → x ∈ c → x ∈ d → j = k
  | [], _, j, k, c, d, x, hj, _, _, _ => by simp at hj
  | e :: l, hn, j, k, c, d, x, hj, hk, hc, hd => by
    rw [List.flatten_cons, List.nodup_append] at hn
    cases j with
    | zero =>
      cases k with
      | zero => rfl
      | succ k =>
        simp at hj hk
        subst hj
        exact absurd rfl (hn.2.2 x hc x (List.mem_flatten.2 ⟨d, List.mem_of_getElem? hk, hd⟩))
    | succ j =>
      cases k with
      | zero =>
        simp at hj hk
        subst hk
        exact absurd rfl (hn.2.2 x hd x (List.mem_flatten.2 ⟨c, List.mem_of_getElem? hj, hc⟩))
      | succ k =>
        have := flat_uniq l hn.2.1 j k c d x (by simpa using hj) (by simpa using hk) hc hd
        omega

theorem below_drewN {B : Nat} {a w : World} (h : Below B a w) (n : Nat) : Below B a (w.drewN n) := h.trans ⟨rfl, rfl, rfl, Nat.le_refl _, fun _ _ => rfl⟩

/-- Where an object's component stands, from 1 on. -/
def plc (g : Gr) (x : Int) : Int := (((outF g).findIdx (fun c => decide (x ∈ c)) : Nat) : Int) + 1

theorem plc_pos (g : Gr) (x : Int) : 1 ≤ plc g x := by unfold plc; omega

theorem plc_at {g : Gr} (hg : Good g) {k : Nat} {c : List Int} {x : Int} (hk : (outF g)[k]? = some c) (hx : x ∈ c) : plc g x = (k : Int) + 1 := by
  unfold plc
  have hex : ∃ y ∈ outF g, (fun c => decide (x ∈ c)) y = true := ⟨c, List.mem_of_getElem? hk, by simpa using hx⟩
  have hlt := List.findIdx_lt_length_of_exists hex
  have hp := List.findIdx_getElem (w := hlt)
  have hm : x ∈ (outF g)[(outF g).findIdx (fun c => decide (x ∈ c))] := by simpa using hp
  have := flat_uniq _ (outF_ok hg).nd _ k _ c x (List.getElem?_eq_getElem hlt) hk hm hx
  rw [this]

theorem outF_mem {g : Gr} (hg : Good g) {x : Int} (h0 : 0 ≤ x) (h1 : x < g.objs.length) : ∃ (k : Nat) (c : List Int), (outF g)[k]? = some c ∧ x ∈ c := by
  have hok := outF_ok hg
  have hall := outF_all hg
  have hm : x ∈ (outF g).flatten := by
    refine Classical.byContradiction fun hc => ?_
    have hnd : (x :: (outF g).flatten).Nodup := List.nodup_cons.2 ⟨hc, hok.nd⟩
    have := nodup_length hnd (N := g.objs.length) (by
      intro y hy
      rcases List.mem_cons.1 hy with rfl | hy
      · exact ⟨h0, h1⟩
      · exact hok.rng y hy)
    rw [List.length_cons] at this
    omega
  obtain ⟨c, hc, hx⟩ := List.mem_flatten.1 hm
  obtain ⟨k, hk⟩ := List.getElem?_of_mem hc
  exact ⟨k, c, hk, hx⟩

theorem plc_both {g : Gr} (hg : Good g) {i j : Int} (i0 : 0 ≤ i) (i1 : i < g.objs.length) (j0 : 0 ≤ j) (j1 : j < g.objs.length) : plc g i = plc g j ↔ inOne g i j = true := by
  obtain ⟨k, c, hk, hi⟩ := outF_mem hg i0 i1
  obtain ⟨k', c', hk', hj⟩ := outF_mem hg j0 j1
  rw [plc_at hg hk hi, plc_at hg hk' hj]
  obtain ⟨o, _, _, rfl⟩ := (outF_ok hg).each c (List.mem_of_getElem? hk)
  constructor
  · intro h
    obtain rfl : k = k' := by omega
    rw [hk] at hk'
    injection hk' with hk'
    subst hk'
    exact inOne_trans hg (inOne_symm (mem_comp.1 hi).2) (mem_comp.1 hj).2
  · intro h
    have hjc : j ∈ compL g o := mem_comp.2 ⟨⟨j0, j1⟩, inOne_trans hg (mem_comp.1 hi).2 h⟩
    have := flat_uniq _ (outF_ok hg).nd _ _ _ _ j hk hk' hjc hj
    omega

theorem plc_led {g : Gr} (hg : Good g) {i j : Int} (i0 : 0 ≤ i) (i1 : i < g.objs.length) (h : j ∈ ledL g i) : plc g j ≤ plc g i := by
  obtain ⟨k, c, hk, hi⟩ := outF_mem hg i0 i1
  have hm := (outF_ok hg).led k c hk i hi j h
  obtain ⟨d, hd, hj⟩ := List.mem_flatten.1 hm
  obtain ⟨b, hb⟩ := List.getElem?_of_mem hd
  rw [List.getElem?_take] at hb
  split at hb
  · rw [plc_at hg hk hi, plc_at hg hb hj]
    omega
  · cases hb

theorem flat_take {l : List (List Int)} {k : Nat} {c : List Int} (h : l[k]? = some c) : (l.take (k + 1)).flatten = (l.take k).flatten ++ c := by
  obtain ⟨hk, rfl⟩ := List.getElem?_eq_some_iff.1 h
  rw [List.take_succ_eq_append_getElem hk, List.flatten_append]
  simp

set_option maxRecDepth 100000 in
set_option maxHeartbeats 2000000 in
theorem compsMutual_bad (ao ar : Option Addr) (aoc arc : Nat) (a : Gr) (w : World) (hao : Objs w.heap.size w ao a.objs) (har : Vals w.heap.size w ar a.roots) (na : checkG a ≠ 0) :
    Calls Try.prog 4 #[.agg #[.slice ao a.objs.length aoc, .slice ar a.roots.length arc]] w fun e w' => e = .returned (.bool true) ∧ Below w.heap.size w w' := by
  have Ha := hide na
  clear na
  go_enter Try.func4, Try.ntmps4
  go_wp2_with fail
  obtain ⟨wu0, hu0⟩ : ∃ u0, w.alloc (.cells #[.slice ao a.objs.length aoc, .slice ar a.roots.length arc] 25) = u0 := ⟨_, rfl⟩
  rw [hu0]
  obtain ⟨hsz0, hw0, hcells⟩ := law_box _ _ 25 w wu0 hu0
  have Hcells := hide hcells
  clear hu0 hcells
  have hn0 : w.heap.size + 1 ≤ wu0.heap.size := by omega
  refine (good_c _ _ _ _ a w.heap.size _ (hao.below hw0) (har.below hw0) (by omega)).mono ?_
  rintro e wu1 ⟨he, hb1⟩
  rw [checkG_beq' (unhide Ha)] at he
  subst he
  have hw1 : Below w.heap.size w wu1 := hw0.trans (hb1.mono (by omega))
  have hn1 : w.heap.size + 1 ≤ wu1.heap.size := by have := hb1.size; omega
  obtain ⟨x0, x1⟩ := unhide Hcells wu1 (hb1.mono hn0)
  go_wp2_with fail
  clear x0 x1
  refine (refused_c _ _ _ _ a w.heap.size _ (hao.below hw1) (har.below hw1) (by omega)).mono ?_
  rintro e wu2 ⟨he, hb2⟩
  rw [checkG_bne' (unhide Ha)] at he
  subst he
  go_wp2
  go_ret
  exact ⟨rfl, hw1.trans (hb2.mono (by omega))⟩

set_option maxRecDepth 100000 in
set_option maxHeartbeats 8000000 in
theorem compsMutual_ok (ao ar : Option Addr) (aoc arc : Nat) (a : Gr) (w : World) (hao : Objs w.heap.size w ao a.objs) (har : Vals w.heap.size w ar a.roots) (na : checkG a = 0) :
    Calls Try.prog 4 #[.agg #[.slice ao a.objs.length aoc, .slice ar a.roots.length arc]] w fun e w' => e = .returned (.bool true) ∧ Below w.heap.size w w' := by
  obtain ⟨i0, hi, hz0, hz1, hz2⟩ := info_parts Try.info3
  have Ha := hide na
  have hG := good_of_check na
  clear na
  have hn24 := hG.n24
  go_enter Try.func4, Try.ntmps4
  go_wp2_with fail
  obtain ⟨wu0, hu0⟩ : ∃ u0, w.alloc (.cells #[.slice ao a.objs.length aoc, .slice ar a.roots.length arc] 25) = u0 := ⟨_, rfl⟩
  rw [hu0]
  obtain ⟨hsz0, hw0, hcells⟩ := law_box _ _ 25 w wu0 hu0
  have Hcells := hide hcells
  clear hu0 hcells
  have hn0 : w.heap.size + 1 ≤ wu0.heap.size := by omega
  refine (good_c _ _ _ _ a w.heap.size _ (hao.below hw0) (har.below hw0) (by omega)).mono ?_
  rintro e wu1 ⟨he, hb1⟩
  rw [checkG_beq (unhide Ha)] at he
  subst he
  have hk1 : Below (w.heap.size + 1) wu0 wu1 := hb1.mono hn0
  have hw1 : Below w.heap.size w wu1 := hw0.trans (hb1.mono (by omega))
  have hn1 : w.heap.size + 1 ≤ wu1.heap.size := by have := hb1.size; omega
  obtain ⟨x0, x1⟩ := unhide Hcells wu1 hk1
  go_wp2_with fail
  clear x0 x1
  refine (comps_ok _ _ _ _ a w.heap.size _ (hao.below hw1) (har.below hw1) (by omega) (unhide Ha)).mono ?_
  rintro e wu2 ⟨vl, cs, rfl, hR2, hb2⟩
  have hk2 : Below (w.heap.size + 1) wu0 wu2 := hk1.trans (hb2.mono hn1)
  have hw2 : Below w.heap.size w wu2 := hw1.trans (hb2.mono (by omega))
  have hn2 : w.heap.size + 1 ≤ wu2.heap.size := by have := hb2.size; omega
  obtain ⟨x0, x1⟩ := unhide Hcells wu2 hk2
  obtain ⟨va, vc, rfl⟩ := ownsRow_slice hR2.row
  have Hcl := hide hR2.len
  have hcl24 : cs.length ≤ 24 := by rw [← hR2.len]; have := outF_len hG; omega
  go_wp2_with (at_make; go_must (refine wpList_make_full _ rfl _ _ 30 rfl wu2.heap.size 3 i0 _ 1 Try.underlying30 hi hz0 hz1 .i64 .i64 _ _ a.objs.length rfl rfl rfl rfl (by rw [hz2]; omega) (by simp only [maxLen]; omega) (Nat.le_refl _) ?_); go_must (intro w5 hown5 hg5))
  clear x0 x1
  generalize (madeCells _ _).toList = cs0 at *
  have hb5 : Below wu2.heap.size wu2 w5 := (Below.refl _ wu2).grown hg5 (Nat.le_refl _) (fun k e => by cases e)
  clear hg5
  go_loopw [6, 34] (fun m i wr => ∃ (k : Nat) (vs : List Value), k ≤ cs.length ∧ i = .int .i64 k ∧ m = .int .i64 (((outF a).take k).flatten.length : Nat) ∧ wr.ownsRow wu2.heap.size 3 1 (.slice (some ⟨wu2.heap.size, 0, none⟩) a.objs.length a.objs.length) a.objs.length vs ∧ (∀ x ∈ ((outF a).take k).flatten, vs[x.toNat]? = some (.int .i64 (plc a x))) ∧ Below wu2.heap.size wu2 wr) (fun _ i _ => cs.length - (intOf i).toNat)
  case atStart => exact ⟨0, cs0, Nat.zero_le _, rfl, by simp, hown5, by simp, hb5⟩
  case round =>
    clear hown5 hb5
    obtain ⟨k, vs, hk, rfl, rfl, hown, hvs, hb⟩ := hrel
    have Hvs := hide hvs
    clear hvs
    have hkr : Below (w.heap.size + 1) wu0 wr := hk2.trans (hb.mono hn2)
    have hwr : Below w.heap.size w wr := hw2.trans (hb.mono (by omega))
    obtain ⟨x0, x1⟩ := unhide Hcells wr hkr
    have hsz := hb.size
    by_cases hlt : k < cs.length
    · have hlk : (outF a)[k]? = some ((outF a)[k]'(by rw [unhide Hcl]; exact hlt)) := List.getElem?_eq_getElem _
      obtain ⟨gg, cap, ca, cc, hv, hsk, hc, hgl, hrow⟩ := hR2.get hlk
      injection hv with e1 e2 e3
      subst e1 e3
      obtain ⟨o, ho0, ho1, hco⟩ := (outF_ok hG).each _ (List.mem_of_getElem? hlk)
      rw [hco] at hlk hc hrow hsk
      have hcl : (compL a o).length ≤ a.objs.length := compK_len a o a.objs.length
      obtain ⟨ia, icap, hv2, hIc, _⟩ := ints_of_owns hrow rfl (by omega)
      injection hv2 with e4 _ e5
      subst e4 e5
      have Hlk := hide hlk
      have hc' := (hb.cell (p := ⟨gg, k, none⟩) hgl).trans hc
      have hIw := (hIc.below hb).mono (B' := wr.heap.size) hsz
      have Hflr : Hid (∀ x ∈ ((outF a).take k).flatten, 0 ≤ x) := fun x hx => by
        obtain ⟨d, hd, hxd⟩ := List.mem_flatten.1 hx
        exact ((outF_ok hG).rng x (List.mem_flatten.2 ⟨d, List.mem_of_mem_take hd, hxd⟩)).1
      have hpos : 0 < (compL a o).length := List.length_pos_of_mem (comp_self ho0 ho1)
      have Hrng : Hid (∀ x ∈ compL a o, 0 ≤ x ∧ x < (a.objs.length : Int)) := fun x hx => (mem_comp.1 hx).1
      have Hris := hide (rises_of (comp_lt a o))
      have Hpl : Hid (∀ x ∈ compL a o, plc a x = (k : Int) + 1) := fun x hx => plc_at hG hlk hx
      have Hfl := hide (flat_take hlk)
      have hfl24 : ((outF a).take k).flatten.length + (compL a o).length ≤ a.objs.length := by
        have h1 : (((outF a).take (k + 1)).flatten).length ≤ (outF a).flatten.length := by
          have : (outF a).flatten = ((outF a).take (k + 1)).flatten ++ ((outF a).drop (k + 1)).flatten := by rw [← List.flatten_append, List.take_append_drop]
          rw [this, List.length_append]; omega
        rw [flat_take hlk, List.length_append, outF_all hG] at h1
        exact h1
      clear hlk hco hsk hrow e2 hc
      obtain ⟨fl, hfl⟩ : ∃ fl, ((outF a).take k).flatten = fl := ⟨_, rfl⟩
      rw [hfl] at Hvs Hfl hfl24 Hflr ⊢
      clear hfl
      generalize compL a o = c at *
      go_wp2_with fail
      refine (within_c ca cc a.objs.length c wr.heap.size _ hIw (unhide Hrng)).mono ?_
      rintro e wu3 ⟨rfl, hu3⟩
      subst hu3
      go_wp2_with fail
      clear x0 x1
      refine (rising_c ca cc c wu3.heap.size _ hIw (Nat.le_refl _) (unhide Hris)).mono ?_
      rintro e wu4 ⟨rfl, hb4⟩
      have hs4 := hb4.size
      have hown4 := hown.kept (grownBy_of_below hb4) (own_none _)
      have hbb4 : Below wu2.heap.size wu2 wu4 := hb.trans (hb4.mono hsz)
      have d0 : ((c.length : Int) == 0) = false := beq_eq_false_iff_ne.2 (by omega)
      have d0' : ¬ (c.length : Int) = 0 := by omega
      go_wp2
      go_loopw [6, 57] (fun m i wr => ∃ (q : Nat) (vs : List Value), q ≤ c.length ∧ i = .int .i64 q ∧ m = .int .i64 ((fl.length + q : Nat) : Int) ∧ wr.ownsRow wu2.heap.size 3 1 (.slice (some ⟨wu2.heap.size, 0, none⟩) a.objs.length a.objs.length) a.objs.length vs ∧ (∀ x ∈ fl ++ c.take q, vs[x.toNat]? = some (.int .i64 (plc a x))) ∧ Below wu2.heap.size wu2 wr) (fun _ i _ => c.length - (intOf i).toNat)
      case atStart => exact ⟨0, vs, Nat.zero_le _, rfl, by simp, hown4, by simpa using unhide Hvs, hbb4⟩
      case round =>
        clear hown hown4 Hvs hIw hc' hbb4 hkr hwr hsz hb
        obtain ⟨q, vs, hq, rfl, rfl, hown, hvs, hb⟩ := hrel
        have Hvs := hide hvs
        clear hvs
        have hsz := hb.size
        have hIcr := hIc.below hb
        by_cases hltq : q < c.length
        · obtain ⟨xn, hxn⟩ : ∃ xn : Nat, c[q] = (xn : Int) := ⟨(c[q]).toNat, by have := unhide Hrng c[q] (List.getElem_mem hltq); omega⟩
          have hxr := unhide Hrng c[q] (List.getElem_mem hltq)
          have hxp := unhide Hpl c[q] (List.getElem_mem hltq)
          have HT := hide (List.take_succ_eq_append_getElem hltq)
          obtain ⟨bc, oc, hca, hbc, hcc⟩ := hIcr.at hltq
          subst hca
          rw [hxn] at hcc hxr hxp HT
          have Hxp := hide hxp
          have hxlt : xn < a.objs.length := by omega
          have hcl0 := hown.1
          have hx0 : ∃ v, wr.cell? ⟨wu2.heap.size, xn, none⟩ = some v := ⟨vs[xn]'(by omega), by
            have := hown.cells (g := wu2.heap.size) rfl xn (vs[xn]'(by omega)) (by rw [List.getElem?_eq_getElem])
            have hadd : (⟨wu2.heap.size, 0, none⟩ : Addr).add xn = ⟨wu2.heap.size, xn, none⟩ := by unfold Addr.add; split <;> simp_all
            rwa [hadd] at this⟩
          obtain ⟨y0, hx0⟩ := hx0
          have hf0 := hown.frozenAt xn
          have hxI : (xn : Int) < (a.objs.length : Int) := by omega
          have hst := (hown.stored xn (.int .i64 ((k : Int) + 1))).1
          have hbst := hb.setCell (p := ⟨wu2.heap.size, xn, none⟩) (Nat.le_refl _) (.int .i64 ((k : Int) + 1))
          have Hst := hide hst
          have Hcl0 := hide hcl0
          clear hxn hxp hcl0 hst hIcr
          go_wp2
          go_roundw
          case rel =>
            refine ⟨q + 1, _, by omega, by go_num, by go_num, unhide Hst, fun y hy => ?_, hbst⟩
            rw [unhide HT, ← List.append_assoc, List.mem_append] at hy
            by_cases e : y.toNat = xn
            · have hy0 : 0 ≤ y := by
                rcases hy with hy | hy
                · rcases List.mem_append.1 hy with hy | hy
                  · exact unhide Hflr y hy
                  · exact (unhide Hrng y (List.mem_of_mem_take hy)).1
                · simp at hy; omega
              have : y = (xn : Int) := by omega
              subst this
              rw [unhide Hxp, e, List.getElem?_set_self (by have := unhide Hcl0; omega)]
            · rw [List.getElem?_set_ne (fun e' => e e'.symm)]
              refine unhide Hvs y ?_
              rcases hy with hy | hy
              · exact hy
              · simp at hy; subst hy; exact absurd (Int.toNat_natCast xn) e
          case measure => simp [intOf]; omega
        · obtain rfl : q = c.length := by omega
          have HT := hide (List.take_length (l := c))
          go_wp2
          go_roundw
          case rel => exact ⟨k + 1, vs, by omega, by go_num, by rw [unhide Hfl, List.length_append], hown, by rw [unhide Hfl]; have := unhide Hvs; rwa [unhide HT] at this, hb⟩
          case measure => simp [intOf]; omega
    · obtain rfl : k = cs.length := by omega
      have HT : Hid (((outF a).take cs.length).flatten = (outF a).flatten) := by
        show _ = _
        rw [← unhide Hcl, List.take_length]
      have Hm : Hid ((((outF a).take cs.length).flatten.length : Nat) = a.objs.length) := by
        show _ = _
        rw [unhide HT, outF_all hG]
      have hvv : vs = intsV ((nums a.objs.length).map (plc a)) := by
        have hl := hown.1
        apply List.ext_getElem?
        intro i
        by_cases hi : i < a.objs.length
        · have hm : (i : Int) ∈ (outF a).flatten := by
            obtain ⟨kk, c, hk, hx⟩ := outF_mem hG (x := (i : Int)) (by omega) (by omega)
            exact List.mem_flatten.2 ⟨c, List.mem_of_getElem? hk, hx⟩
          have := unhide Hvs (i : Int) (by rw [unhide HT]; exact hm)
          rw [Int.toNat_natCast] at this
          rw [this]
          simp [intsV, nums, List.getElem?_map, List.getElem?_range hi]
        · rw [List.getElem?_eq_none (by omega), List.getElem?_eq_none (by simp [intsV, nums_len]; omega)]
      have hol : ((nums a.objs.length).map (plc a)).length = a.objs.length := by rw [List.length_map, nums_len]
      rw [hvv] at hown
      obtain ⟨oa, ocap, hvo, hIo, _⟩ := ints_of_owns hown hol.symm (by omega)
      injection hvo with e1 e2 e3
      subst e1
      rw [unhide Hm]
      have Hol := hide hol
      have Hget : Hid (∀ i : Nat, i < a.objs.length → ((nums a.objs.length).map (plc a))[i]? = some (plc a i)) := fun i hi => by
        simp [nums, List.getElem?_map, List.getElem?_range hi]
      clear hvv hol e2 e3 HT Hm Hvs hown
      generalize (nums a.objs.length).map (plc a) = ofl at *
      have hIo' : Ints wr.heap.size wr (some ⟨wu2.heap.size, 0, none⟩) ofl := hIo
      go_wp2
      clear x0 x1
      have hnr : w.heap.size + 1 ≤ wr.heap.size := by omega
      generalize hE : wr = wE at *
      clear hE
      go_loopw [11] (fun i wv => ∃ k : Nat, k ≤ a.objs.length ∧ i = .int .i64 k ∧ Below wE.heap.size wE wv) (fun i _ => a.objs.length - (intOf i).toNat)
      case atStart => exact ⟨0, Nat.zero_le _, rfl, Below.refl _ _⟩
      case round =>
        generalize hE : wr = wv at *
        clear hE
        obtain ⟨i, hi', rfl, hbv⟩ := hrel
        have hkv : Below (w.heap.size + 1) wu0 wv := hkr.trans (hbv.mono hnr)
        have hwv : Below w.heap.size w wv := hwr.trans (hbv.mono (by omega))
        have hnv : w.heap.size + 1 ≤ wv.heap.size := by have := hbv.size; omega
        obtain ⟨x0, x1⟩ := unhide Hcells wv hkv
        have hIv := (hIo'.below hbv).mono (B' := wv.heap.size) hbv.size
        by_cases hlti : i < a.objs.length
        · have hil : i < ofl.length := by rw [unhide Hol]; exact hlti
          obtain ⟨bo, oo, hoa, hbo, hci⟩ := hIv.at hil
          injection hoa with hoa
          injection hoa with hoa1 hoa2
          subst hoa1 hoa2
          have hgi := unhide Hget i hlti
          rw [List.getElem?_eq_getElem hil] at hgi
          injection hgi with hgi
          rw [hgi] at hci
          rw [Nat.zero_add] at hci
          have Hpi := hide (plc_pos a (i : Int))
          have hpi0 : ¬ plc a (i : Int) = 0 := by have := unhide Hpi; omega
          have dpi : (plc a (i : Int) == 0) = false := beq_eq_false_iff_ne.2 hpi0
          clear hgi
          go_wp2_with fail
          clear x0 x1
          refine (leadsLaw_c _ _ _ _ a i w.heap.size _ (hao.below hwv) (by omega) (unhide Ha) hlti).mono ?_
          rintro e wx ⟨ta, tc, rfl, hIt, hbx⟩
          have hbx' : Below wE.heap.size wE wx := hbv.trans (hbx.mono hbv.size)
          have hsx := hbx.size
          have HL1 : Hid (∀ x : Int, x ∈ sortL (ledL a i) ↔ x ∈ ledL a i) := fun x => sortL_mem _ _
          generalize sortL (ledL a i) = L1 at *
          clear hpi0 dpi hci
          go_wp2
          go_loopw [14] (fun j wy => ∃ k : Nat, k ≤ a.objs.length ∧ j = .int .i64 k ∧ Below wx.heap.size wx wy) (fun j _ => a.objs.length - (intOf j).toNat)
          case atStart => exact ⟨0, Nat.zero_le _, rfl, Below.refl _ _⟩
          case round =>
            generalize hE : wr = wy at *
            clear hE
            obtain ⟨j, hj', rfl, hby⟩ := hrel
            have hky : Below (w.heap.size + 1) wu0 wy := hkv.trans ((hbx.mono hnv).trans (hby.mono (by omega)))
            have hwy : Below w.heap.size w wy := hwv.trans ((hbx.mono (by omega)).trans (hby.mono (by omega)))
            obtain ⟨x0, x1⟩ := unhide Hcells wy hky
            have hsy := hby.size
            by_cases hltj : j < a.objs.length
            · go_wp2_with fail
              clear x0 x1
              refine (leadsLaw_c _ _ _ _ a j w.heap.size _ (hao.below hwy) (by omega) (unhide Ha) hltj).mono ?_
              rintro e wz ⟨ba, bcap, rfl, hIb, hbz0⟩
              have hbz : Below wx.heap.size wx wz := hby.trans (hbz0.mono hby.size)
              have hsz0 := hbz0.size
              have hbw : Below wE.heap.size wE wz := hbx'.trans (hbz.mono (by have := hbx'.size; omega))
              have hIz := (hIo'.below hbw).mono (B' := wz.heap.size) hbw.size
              have hItz := (hIt.below hbz).mono (B' := wz.heap.size) hbz.size
              have hil : i < ofl.length := by rw [unhide Hol]; exact hlti
              have hjl : j < ofl.length := by rw [unhide Hol]; exact hltj
              obtain ⟨bo, oo, hoa, hbo, hci⟩ := hIz.at hil
              injection hoa with hoa
              injection hoa with hoa1 hoa2
              subst hoa1 hoa2
              obtain ⟨bo, oo, hoa, hbo, hcj⟩ := hIz.at hjl
              injection hoa with hoa
              injection hoa with hoa1 hoa2
              subst hoa1 hoa2
              have hgi := unhide Hget i hlti
              rw [List.getElem?_eq_getElem hil] at hgi
              injection hgi with hgi
              rw [hgi, Nat.zero_add] at hci
              have hgj := unhide Hget j hltj
              rw [List.getElem?_eq_getElem hjl] at hgj
              injection hgj with hgj
              rw [hgj, Nat.zero_add] at hcj
              have Hb := hide (plc_both hG (i := (i : Int)) (j := (j : Int)) (by omega) (by omega) (by omega) (by omega))
              have Hl : Hid ((j : Int) ∈ L1 → plc a j ≤ plc a i) := fun h => plc_led hG (by omega) (by omega) ((unhide HL1 _).1 h)
              have Hone : Hid (¬ (j : Int) = (i : Int) → (inOne a i j = true ↔ (j : Int) ∈ L1 ∧ (i : Int) ∈ sortL (ledL a j))) := fun hn => by
                rw [inOne_iff, unhide HL1, sortL_mem]
                exact ⟨fun h => h.resolve_left hn, .inr⟩
              have hH : ∀ k, Calls Try.prog 18 #[.slice ta L1.length tc, .int .i64 (j : Int)] (wz.drewN k) fun e w' => e = .returned (.bool (decide ((j : Int) ∈ L1))) ∧ w' = wz.drewN k := fun k => has_c ta tc _ (j : Int) wz.heap.size (wz.drewN k) (hItz.below (below_drewN (Below.refl _ _) k))
              have HB := hide (has_c ba bcap (sortL (ledL a j)) (i : Int) wz.heap.size wz hIb)
              clear hgi hgj hil hjl
              generalize sortL (ledL a j) = L2 at *
              have hji : i < a.objs.length := hlti
              by_cases hij : j = i
              · subst hij
                have hni : ¬ plc a (j : Int) > plc a (j : Int) := by omega
                have hlt0 : decide (plc a (j : Int) < plc a (j : Int)) = false := by simp
                have hgt0 : decide (plc a (j : Int) > plc a (j : Int)) = false := by simp
                clear Hb Hl Hone HB
                by_cases hm : (j : Int) ∈ L1
                · simp only [hm, decide_true] at hH
                  clear hm
                  go_wp2
                  go_quiet ((go_at_call 18; exact Calls.quiet_of_same (hH _)))
                  have hbz := below_drewN hbz nq
                  clear hH hcj hci
                  generalize wz.drewN nq = wq at *
                  go_wp2
                  refine ⟨⟨j + 1, by omega, by go_num, hbz⟩, ?_⟩
                  simp [intOf]; omega
                · simp only [hm, decide_false] at hH
                  clear hm
                  go_wp2
                  go_quiet ((go_at_call 18; exact Calls.quiet_of_same (hH _)))
                  have hbz := below_drewN hbz nq
                  clear hH hcj hci
                  generalize wz.drewN nq = wq at *
                  go_wp2
                  refine ⟨⟨j + 1, by omega, by go_num, hbz⟩, ?_⟩
                  simp [intOf]; omega
              · have hne : ¬ (j : Int) = (i : Int) := by omega
                have hne' : ¬ (i : Int) = (j : Int) := by omega
                have d1 : ((i : Int) == (j : Int)) = false := beq_eq_false_iff_ne.2 hne'
                have Hone2 := hide (unhide Hone hne)
                by_cases hm : (j : Int) ∈ L1
                · have hle := unhide Hl hm
                  have hgt : decide (plc a (j : Int) > plc a (i : Int)) = false := by simp; omega
                  have hgt' : decide (plc a (i : Int) < plc a (j : Int)) = false := by simp; omega
                  by_cases hm2 : (i : Int) ∈ L2
                  · have heq : plc a (i : Int) = plc a (j : Int) := (unhide Hb).2 ((unhide Hone2).2 ⟨hm, hm2⟩)
                    have db : (plc a (i : Int) == plc a (j : Int)) = true := by simpa using heq
                    have HB2 := hide (show Calls Try.prog 18 #[.slice ba L2.length bcap, .int .i64 (i : Int)] wz fun e w' => e = .returned (.bool true) ∧ w' = wz by have := unhide HB; simpa only [hm2, decide_true] using this)
                    simp only [hm, decide_true] at hH
                    have hH0 := hide (hH 0)
                    clear hm hm2 heq hle Hb Hl Hone Hone2 HB
                    go_wp2_with fail
                    refine (unhide hH0).mono ?_
                    rintro e wt ⟨rfl, ht⟩
                    have ht' : wz = wt := ht.symm
                    clear ht
                    subst ht'
                    go_wp2_with fail
                    refine (unhide HB2).mono ?_
                    rintro e wt ⟨rfl, ht⟩
                    have ht' := ht.symm
                    clear ht
                    subst ht'
                    go_wp2
                    go_quiet ((go_at_call 18; exact Calls.quiet_of_same (hH _)))
                    have hbz := below_drewN hbz nq
                    clear hH hcj hci
                    generalize wz.drewN nq = wq at *
                    go_wp2
                    refine ⟨⟨j + 1, by omega, by go_num, hbz⟩, ?_⟩
                    simp [intOf]; omega
                  · have hne2 : ¬ plc a (i : Int) = plc a (j : Int) := fun h => hm2 ((unhide Hone2).1 ((unhide Hb).1 h)).2
                    have db : (plc a (i : Int) == plc a (j : Int)) = false := beq_eq_false_iff_ne.2 hne2
                    have HB2 := hide (show Calls Try.prog 18 #[.slice ba L2.length bcap, .int .i64 (i : Int)] wz fun e w' => e = .returned (.bool false) ∧ w' = wz by have := unhide HB; simpa only [hm2, decide_false] using this)
                    simp only [hm, decide_true] at hH
                    have hH0 := hide (hH 0)
                    clear hm hm2 hle Hb Hl Hone Hone2 HB
                    go_wp2_with fail
                    refine (unhide hH0).mono ?_
                    rintro e wt ⟨rfl, ht⟩
                    have ht' : wz = wt := ht.symm
                    clear ht
                    subst ht'
                    go_wp2_with fail
                    refine (unhide HB2).mono ?_
                    rintro e wt ⟨rfl, ht⟩
                    have ht' := ht.symm
                    clear ht
                    subst ht'
                    go_wp2
                    go_quiet ((go_at_call 18; exact Calls.quiet_of_same (hH _)))
                    have hbz := below_drewN hbz nq
                    clear hH hcj hci
                    generalize wz.drewN nq = wq at *
                    go_wp2
                    refine ⟨⟨j + 1, by omega, by go_num, hbz⟩, ?_⟩
                    simp [intOf]; omega
                · have hne2 : ¬ plc a (i : Int) = plc a (j : Int) := fun h => hm ((unhide Hone2).1 ((unhide Hb).1 h)).1
                  have db : (plc a (i : Int) == plc a (j : Int)) = false := beq_eq_false_iff_ne.2 hne2
                  simp only [hm, decide_false] at hH
                  have hH0 := hide (hH 0)
                  clear hm Hb Hl Hone Hone2 HB
                  go_wp2_with fail
                  refine (unhide hH0).mono ?_
                  rintro e wt ⟨rfl, ht⟩
                  have ht' : wz = wt := ht.symm
                  clear ht
                  subst ht'
                  go_wp2
                  go_quiet ((go_at_call 18; exact Calls.quiet_of_same (hH _)))
                  have hbz := below_drewN hbz nq
                  clear hH hcj hci
                  generalize wz.drewN nq = wq at *
                  go_wp2
                  refine ⟨⟨j + 1, by omega, by go_num, hbz⟩, ?_⟩
                  simp [intOf]; omega
            · obtain rfl : j = a.objs.length := by omega
              go_wp2
              clear x0 x1
              go_roundw
              case rel => exact ⟨i + 1, by omega, by go_num, hbx'.trans (hby.mono (by have := hbx'.size; omega))⟩
              case measure => simp [intOf]; omega
        · obtain rfl : i = a.objs.length := by omega
          go_wp2
          go_ret
          exact ⟨rfl, hwv⟩

theorem compsMutual_c (ao ar : Option Addr) (aoc arc : Nat) (a : Gr) (w : World) (hao : Objs w.heap.size w ao a.objs) (har : Vals w.heap.size w ar a.roots) :
    Calls Try.prog 4 #[.agg #[.slice ao a.objs.length aoc, .slice ar a.roots.length arc]] w fun e w' => e = .returned (.bool true) ∧ Below w.heap.size w w' := by
  by_cases na : checkG a = 0
  · exact compsMutual_ok ao ar aoc arc a w hao har na
  · exact compsMutual_bad ao ar aoc arc a w hao har na

end Go.Proofs.Ytohofkfajmeohaa
