/- Walks: GraphTwice. -/
import Derived.Test.YtadjlimdbbaoaaaProg
import Derived.Test.YtadjlimdbbaoaaaMem
import Derived.Test.YtadjlimdbbaoaaaWs
import Derived.Test.YtadjlimdbbaoaaaWu
import Derived.Test.YtadjlimdbbaoaaaRe
import Derived.Test.YtadjlimdbbaoaaaRi
import Derived.Test.YtadjlimdbbaoaaaSa
import Derived.Test.YtadjlimdbbaoaaaSe
import Derived.Test.YtadjlimdbbaoaaaSf
import Derived.BigQuiet
import Derived.Deep.QuietTactic
namespace Go.Proofs.Ytadjlimdbbaoaaa
set_option linter.unusedSimpArgs false
set_option linter.unusedVariables false
open Go.RowKit

theorem twice_canon {g : Gr} (h : Good g) : canonG (canonG g) = canonG g := canon_ren h (whole_order h)
theorem twice_check {g : Gr} (h : checkG g = 0) : checkG (canonG g) = 0 := check_ren h (whole_order (good_of_check h))

theorem placeOf_at {O : List Int} (h : O.Nodup) {i : Nat} {o : Int} (ho : O[i]? = some o) : placeOf O o = i := by
  unfold placeOf
  rw [if_pos (List.mem_of_getElem? ho), idx_of h ho]

theorem twice_dist {g : Gr} (hc : checkG g = 0) : distL (canonG g) = distOf g := by
  have h := good_of_check hc
  have hC := good_of_check (twice_check hc)
  obtain ⟨e1, e2⟩ := order_ren h (whole_order h)
  have e1 : orderOf (canonG g) = (orderOf g).map (placeOf (orderOf g)) := e1
  have e2 : distOf (canonG g) = distOf g := e2
  have hln : (distOf g).length = (orderOf g).length := (searchN_ok h g.objs.length).len
  have hcl : (canonG g).objs.length = (orderOf g).length := by simp [canonG]
  apply List.ext_getElem?
  intro i
  by_cases hi : i < (orderOf g).length
  · have ho := List.getElem?_eq_getElem hi
    have hd := List.getElem?_eq_getElem (show i < (distOf g).length by omega)
    have ho2 : (orderOf (canonG g))[i]? = some (i : Int) := by rw [e1, List.getElem?_map, ho, Option.map_some, placeOf_at (order_nodup h) ho]
    have := distAt_of hC ho2 (by rw [e2]; exact hd)
    rw [hd]
    simp only [distL, List.getElem?_map]
    rw [List.getElem?_range (by omega), Option.map_some, this]
  · rw [List.getElem?_eq_none (by rw [distL_len]; omega), List.getElem?_eq_none (by omega)]

theorem twice_pos {g : Gr} (h : Good g) : ∀ (i : Nat) (x : Int), (distOf g)[i]? = some x → 0 ≤ x := fun i x hx => ((searchN_ok h g.objs.length).pos i x hx).1
theorem twice_mono {g : Gr} (h : Good g) : ∀ (i j : Nat) (x y : Int), i + 1 = j → (distOf g)[i]? = some x → (distOf g)[j]? = some y → x ≤ y := fun i j x y hij hx hy => (bfs g g.objs.length).mono i j x y (by omega) hx hy

set_option maxRecDepth 100000 in
set_option maxHeartbeats 2000000 in
theorem twice_bad (ao ar : Option Addr) (aoc arc : Nat) (a : Gr) (w : World) (hao : Objs w.heap.size w ao a.objs) (har : Vals w.heap.size w ar a.roots) (na : checkG a ≠ 0) :
    Calls Try.prog 5 #[.agg #[.slice ao a.objs.length aoc, .slice ar a.roots.length arc]] w fun e w' => e = .returned (.bool true) ∧ Below w.heap.size w w' := by
  have Ha := hide na
  clear na
  go_enter Try.func5, Try.ntmps5
  go_wp2_with fail
  obtain ⟨wu0, hu0⟩ : ∃ wu0, w.alloc (.cells #[.slice ao a.objs.length aoc, .slice ar a.roots.length arc] 25) = wu0 := ⟨_, rfl⟩
  rw [hu0]
  obtain ⟨hsz0, hw0, hcells⟩ := least_box _ _ 25 w wu0 hu0
  have Hcells := hide hcells
  clear hu0 hcells
  have hn0 : w.heap.size + 1 ≤ wu0.heap.size := by omega
  refine (good_c _ _ _ _ a w.heap.size _ (hao.below hw0) (har.below hw0) (by omega)).mono ?_
  rintro e wu1 ⟨he, hb1⟩
  rw [checkG_beq' (unhide Ha)] at he
  subst he
  have hw1 : Below w.heap.size w wu1 := hw0.trans (hb1.mono (by omega))
  have hn1 : w.heap.size + 1 ≤ wu1.heap.size := by have := hb1.size; omega
  obtain ⟨x0, x1⟩ := unhide Hcells wu1 (hb1.mono hn0)
  go_wp2_with fail
  clear x0 x1
  refine (refused_c _ _ _ _ a w.heap.size _ (hao.below hw1) (har.below hw1) (by omega)).mono ?_
  rintro e wu2 ⟨he, hb2⟩
  rw [checkG_bne' (unhide Ha)] at he
  subst he
  go_wp2
  go_ret
  exact ⟨rfl, hw1.trans (hb2.mono (by omega))⟩

set_option maxRecDepth 100000 in
set_option maxHeartbeats 8000000 in
theorem twice_ok (ao ar : Option Addr) (aoc arc : Nat) (a : Gr) (w : World) (hao : Objs w.heap.size w ao a.objs) (har : Vals w.heap.size w ar a.roots) (na : checkG a = 0) :
    Calls Try.prog 5 #[.agg #[.slice ao a.objs.length aoc, .slice ar a.roots.length arc]] w fun e w' => e = .returned (.bool true) ∧ Below w.heap.size w w' := by
  have Ha := hide na
  have hG := good_of_check na
  have HcC := hide (twice_check na)
  have HCC := hide (twice_canon hG)
  have HD := hide (twice_dist na)
  have Hpos := hide (twice_pos hG)
  have Hmono := hide (twice_mono hG)
  have HlenC : Hid ((sortL (orderOf a)).length = (canonG a).objs.length) := by show _ = _; rw [sortL_len]; simp [canonG]
  have Hsame : Hid ((sameN a (canonG a) 24).isSome = true) := (same_iff hG (good_of_check (twice_check na))).2 (twice_canon hG).symm
  have hGC := good_of_check (twice_check na)
  clear na
  have hn24 := hG.n24
  have hm24 := hGC.n24
  go_enter Try.func5, Try.ntmps5
  go_wp2_with fail
  obtain ⟨wu0, hu0⟩ : ∃ wu0, w.alloc (.cells #[.slice ao a.objs.length aoc, .slice ar a.roots.length arc] 25) = wu0 := ⟨_, rfl⟩
  rw [hu0]
  obtain ⟨hsz0, hw0, hcells⟩ := least_box _ _ 25 w wu0 hu0
  have Hcells := hide hcells
  clear hu0 hcells
  have hn0 : w.heap.size + 1 ≤ wu0.heap.size := by omega
  refine (good_c _ _ _ _ a w.heap.size _ (hao.below hw0) (har.below hw0) (by omega)).mono ?_
  rintro e wu1 ⟨he, hb1⟩
  rw [checkG_beq (unhide Ha)] at he
  subst he
  have hk1 : Below (w.heap.size + 1) wu0 wu1 := hb1.mono hn0
  have hw1 : Below w.heap.size w wu1 := hw0.trans (hb1.mono (by omega))
  have hn1 : w.heap.size + 1 ≤ wu1.heap.size := by have := hb1.size; omega
  obtain ⟨x0, x1⟩ := unhide Hcells wu1 hk1
  go_wp2_with fail
  clear x0 x1
  refine (canon_ok _ _ _ _ a w.heap.size _ (hao.below hw1) (har.below hw1) (by omega) (unhide Ha)).mono ?_
  rintro e wu2 ⟨ao2, co2, ar2, cr2, rfl, hO2, hV2, hb2⟩
  generalize canonG a = C at *
  have hk2 : Below (w.heap.size + 1) wu0 wu2 := hk1.trans (hb2.mono hn1)
  have hw2 : Below w.heap.size w wu2 := hw1.trans (hb2.mono (by omega))
  have hn2 : w.heap.size + 1 ≤ wu2.heap.size := by have := hk2.size; omega
  have hn2a : w.heap.size < wu2.heap.size := by omega
  obtain ⟨x0, x1⟩ := unhide Hcells wu2 hk2
  go_wp2_with fail
  clear x0 x1
  obtain ⟨wu3, hu3⟩ : ∃ wu3, wu2.alloc (.cells #[.slice ao2 C.objs.length co2, .slice ar2 C.roots.length cr2] 25) = wu3 := ⟨_, rfl⟩
  rw [hu3]
  obtain ⟨hsz3, hb3, hcel3⟩ := least_box _ _ 25 wu2 wu3 hu3
  have Hcel3 := hide hcel3
  clear hu3 hcel3
  have hk3 : Below (w.heap.size + 1) wu0 wu3 := hk2.trans (hb3.mono hn2)
  have hw3 : Below w.heap.size w wu3 := hw2.trans (hb3.mono (by omega))
  have hn3 : w.heap.size + 1 ≤ wu3.heap.size := by omega
  have hq3 : wu2.heap.size + 1 ≤ wu3.heap.size := by omega
  have hO3 := hO2.below2 hb3 (Nat.le_refl _)
  have hV3 := (hV2.below hb3).mono (B' := wu3.heap.size) hb3.size
  refine (canon_ok _ _ _ _ C wu3.heap.size _ hO3 hV3 (by omega) (unhide HcC)).mono ?_
  rintro e wu4 ⟨ao4, co4, ar4, cr4, he4, hO4, hV4, hb4⟩
  rw [unhide HCC] at he4 hO4 hV4
  subst he4
  have hk4 : Below (w.heap.size + 1) wu0 wu4 := hk3.trans (hb4.mono hn3)
  have hp4 : Below (wu2.heap.size + 1) wu3 wu4 := hb4.mono hq3
  have hw4 : Below w.heap.size w wu4 := hw3.trans (hb4.mono (by omega))
  have hn4 : w.heap.size + 1 ≤ wu4.heap.size := by have := hk4.size; omega
  have hq4 : wu2.heap.size + 1 ≤ wu4.heap.size := by have := hp4.size; omega
  have hn4a : w.heap.size < wu4.heap.size := by omega
  have hq4a : wu2.heap.size < wu4.heap.size := by omega
  have hO34 := hO3.below2 hb4 (Nat.le_refl _)
  have hV34 := (hV3.below hb4).mono (B' := wu4.heap.size) hb4.size
  obtain ⟨x0, x1⟩ := unhide Hcells wu4 hk4
  obtain ⟨y0, y1⟩ := unhide Hcel3 wu4 hp4
  go_wp2_with fail
  clear x0 x1 y0 y1
  obtain ⟨wu5, hu5⟩ : ∃ wu5, wu4.alloc (.cells #[.slice ao4 C.objs.length co4, .slice ar4 C.roots.length cr4] 25) = wu5 := ⟨_, rfl⟩
  rw [hu5]
  obtain ⟨hsz5, hb5, hcel5⟩ := least_box _ _ 25 wu4 wu5 hu5
  have Hcel5 := hide hcel5
  clear hu5 hcel5
  have hk5 : Below (w.heap.size + 1) wu0 wu5 := hk4.trans (hb5.mono hn4)
  have hp5 : Below (wu2.heap.size + 1) wu3 wu5 := hp4.trans (hb5.mono hq4)
  have hw5 : Below w.heap.size w wu5 := hw4.trans (hb5.mono (by omega))
  have hn5 : w.heap.size + 1 ≤ wu5.heap.size := by omega
  have hq5 : wu2.heap.size + 1 ≤ wu5.heap.size := by omega
  have hr5 : wu4.heap.size + 1 ≤ wu5.heap.size := by omega
  have hO35 := hO34.below2 hb5 (Nat.le_refl _)
  have hV35 := (hV34.below hb5).mono (B' := wu5.heap.size) hb5.size
  have hO45 := hO4.below2 hb5 (Nat.le_refl _)
  have hV45 := (hV4.below hb5).mono (B' := wu5.heap.size) hb5.size
  refine (reach_ok _ _ _ _ a w.heap.size _ (hao.below hw5) (har.below hw5) (by omega) (unhide Ha)).mono ?_
  rintro e wu6 ⟨al, cl, rfl, hI6, hb6⟩
  have hll : (sortL (orderOf a)).length ≤ 24 := by rw [unhide HlenC]; exact hm24
  have d1 : ((C.objs.length : Int) != ((sortL (orderOf a)).length : Int)) = false := by rw [unhide HlenC]; simp
  generalize sortL (orderOf a) = l at *
  have hk6 : Below (w.heap.size + 1) wu0 wu6 := hk5.trans (hb6.mono hn5)
  have hp6 : Below (wu2.heap.size + 1) wu3 wu6 := hp5.trans (hb6.mono hq5)
  have hs6 : Below (wu4.heap.size + 1) wu5 wu6 := hb6.mono hr5
  have hw6 : Below w.heap.size w wu6 := hw5.trans (hb6.mono (by omega))
  have hn6 : w.heap.size + 1 ≤ wu6.heap.size := by have := hk6.size; omega
  have hq6 : wu2.heap.size + 1 ≤ wu6.heap.size := by have := hp6.size; omega
  have hr6 : wu4.heap.size + 1 ≤ wu6.heap.size := by have := hs6.size; omega
  have hO36 := hO35.below2 hb6 (Nat.le_refl _)
  have hV36 := (hV35.below hb6).mono (B' := wu6.heap.size) hb6.size
  have hO46 := hO45.below2 hb6 (Nat.le_refl _)
  have hV46 := (hV45.below hb6).mono (B' := wu6.heap.size) hb6.size
  obtain ⟨x0, x1⟩ := unhide Hcells wu6 hk6
  obtain ⟨y0, y1⟩ := unhide Hcel3 wu6 hp6
  go_wp2_with fail
  clear x0 x1 y0 y1
  refine (dist_ok _ _ _ _ C wu6.heap.size _ hO36 hV36 (Nat.le_refl _) (unhide HcC)).mono ?_
  rintro e wu7 ⟨ad, cd, rfl, hI7, hb7⟩
  have hlD : (distL C).length = C.objs.length := distL_len C
  rw [unhide HD] at hI7 hlD
  have HlD := hide hlD
  clear hlD
  generalize distOf a = D at *
  have hk7 : Below (w.heap.size + 1) wu0 wu7 := hk6.trans (hb7.mono hn6)
  have hp7 : Below (wu2.heap.size + 1) wu3 wu7 := hp6.trans (hb7.mono hq6)
  have hs7 : Below (wu4.heap.size + 1) wu5 wu7 := hs6.trans (hb7.mono hr6)
  have hw7 : Below w.heap.size w wu7 := hw6.trans (hb7.mono (by omega))
  have hn7 : w.heap.size + 1 ≤ wu7.heap.size := by have := hk7.size; omega
  have hq7 : wu2.heap.size + 1 ≤ wu7.heap.size := by have := hp7.size; omega
  have hr7 : wu4.heap.size + 1 ≤ wu7.heap.size := by have := hs7.size; omega
  have hO37 := hO36.below2 hb7 (Nat.le_refl _)
  have hV37 := (hV36.below hb7).mono (B' := wu7.heap.size) hb7.size
  have hO47 := hO46.below2 hb7 (Nat.le_refl _)
  have hV47 := (hV46.below hb7).mono (B' := wu7.heap.size) hb7.size
  obtain ⟨x0, x1⟩ := unhide Hcells wu7 hk7
  obtain ⟨y0, y1⟩ := unhide Hcel3 wu7 hp7
  obtain ⟨z0, z1⟩ := unhide Hcel5 wu7 hs7
  go_wp2_with fail
  clear x0 x1 y0 y1 z0 z1
  refine (graphs_c ao4 ar4 ao2 ar2 co4 cr4 co2 cr2 C C wu7.heap.size _ hO47 hV47 hO37 hV37 (Nat.le_refl _)).mono ?_
  rintro e wu8 ⟨he8, hb8⟩
  rw [sameG_self] at he8
  subst he8
  have hk8 : Below (w.heap.size + 1) wu0 wu8 := hk7.trans (hb8.mono hn7)
  have hp8 : Below (wu2.heap.size + 1) wu3 wu8 := hp7.trans (hb8.mono hq7)
  have hw8 : Below w.heap.size w wu8 := hw7.trans (hb8.mono (by omega))
  have hn8 : w.heap.size + 1 ≤ wu8.heap.size := by have := hk8.size; omega
  have hq8 : wu2.heap.size + 1 ≤ wu8.heap.size := by have := hp8.size; omega
  have hI8 := (hI7.below hb8).mono (B' := wu8.heap.size) hb8.size
  have hO38 := hO37.below2 hb8 (Nat.le_refl _)
  have hV38 := (hV37.below hb8).mono (B' := wu8.heap.size) hb8.size
  obtain ⟨x0, x1⟩ := unhide Hcells wu8 hk8
  obtain ⟨y0, y1⟩ := unhide Hcel3 wu8 hp8
  go_wp2
  clear x0 x1 y0 y1
  go_loopw [11] (fun i wr => ∃ m : Nat, i = .int .i64 m ∧ m ≤ C.objs.length ∧ Below wu8.heap.size wu8 wr) (fun i _ => C.objs.length - (intOf i).toNat)
  case atStart => exact ⟨0, rfl, Nat.zero_le _, Below.refl _ _⟩
  case round =>
    obtain ⟨m, rfl, hm, hb⟩ := hrel
    by_cases hlt : m < C.objs.length
    · have hltD : m < D.length := by rw [unhide HlD]; exact hlt
      obtain ⟨bd, od, rfl, hbd, hcd⟩ := (hI8.below hb).at hltD
      have hx0 := unhide Hpos m _ (List.getElem?_eq_getElem hltD)
      have HxD := hide (List.getElem?_eq_getElem hltD)
      have hltI : (m : Int) < (C.objs.length : Int) := by omega
      generalize D[m] = x at *
      have dx : decide (x < 0) = false := by simp; omega
      by_cases hm0 : m = 0
      · subst hm0
        simp only [Nat.add_zero] at hcd
        go_wp2
        go_quiet (fail)
        go_wp2
        go_roundw
        case rel => exact ⟨1, by go_num, by omega, below_drewN hb _⟩
        case measure => simp [intOf]; omega
      · obtain ⟨k, Hk⟩ : ∃ k, Hid (k + 1 = m) := ⟨m - 1, by show m - 1 + 1 = m; omega⟩
        have hltk : k < D.length := by have := unhide Hk; omega
        obtain ⟨b2, o2, e2, hbB2, hck⟩ := (hI8.below hb).at hltk
        injection e2 with e2
        injection e2 with e3 e4
        subst e3 e4
        have hxy := unhide Hmono k m _ _ (unhide Hk) (List.getElem?_eq_getElem hltk) (unhide HxD)
        generalize D[k] = y at *
        have dxy : decide (x < y) = false := by simp; omega
        have dm : (0 : Int) < (m : Int) := by omega
        have dmN : 0 < m := by omega
        have dgt : decide ((0 : Int) < (m : Int)) = true := by simpa using dmN
        have dgN : decide (0 < m) = true := by simpa using dmN
        have hltK : (k : Int) < (C.objs.length : Int) := by have := unhide Hk; omega
        have w2 : IntKind.i64.wrap ((m : Int) - 1) = (k : Int) := by have := unhide Hk; rw [IntKind.wrap_i64]; omega
        go_wp2
        go_quiet (fail)
        go_wp2
        go_roundw
        case rel => exact ⟨m + 1, by go_num, by omega, below_drewN hb _⟩
        case measure => simp [intOf]; omega
    · obtain rfl : m = C.objs.length := by omega
      have hk9 : Below (w.heap.size + 1) wu0 wr := hk8.trans (hb.mono hn8)
      have hp9 : Below (wu2.heap.size + 1) wu3 wr := hp8.trans (hb.mono hq8)
      have hw9 : Below w.heap.size w wr := hw8.trans (hb.mono (by omega))
      have hs9 := hb.size
      obtain ⟨x0, x1⟩ := unhide Hcells wr hk9
      obtain ⟨y0, y1⟩ := unhide Hcel3 wr hp9
      have hO39 := hO38.below2 hb (Nat.le_refl _)
      have hV39 := (hV38.below hb).mono (B' := wr.heap.size) hb.size
      go_wp2_with (go_at_call 22; go_must (refine (refSame_c ao ar ao2 ar2 aoc arc co2 cr2 a C wr.heap.size _ ((hao.below hw9).mono (by omega)) ((har.below hw9).mono (by omega)) hO39 hV39 (Nat.le_refl _) hG hGC).mono ?_); rintro e wX ⟨he, hb10⟩; rw [unhide Hsame] at he; subst he)
      go_ret
      exact ⟨rfl, hw9.trans (hb10.mono (by omega))⟩

theorem twice_c (ao ar : Option Addr) (aoc arc : Nat) (a : Gr) (w : World) (hao : Objs w.heap.size w ao a.objs) (har : Vals w.heap.size w ar a.roots) :
    Calls Try.prog 5 #[.agg #[.slice ao a.objs.length aoc, .slice ar a.roots.length arc]] w fun e w' => e = .returned (.bool true) ∧ Below w.heap.size w w' := by
  by_cases na : checkG a = 0
  · exact twice_ok ao ar aoc arc a w hao har na
  · exact twice_bad ao ar aoc arc a w hao har na

end Go.Proofs.Ytadjlimdbbaoaaa
