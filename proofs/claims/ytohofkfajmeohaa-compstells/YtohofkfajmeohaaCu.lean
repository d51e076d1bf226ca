/- Walks: Lists, CompsTells. -/
import Derived.Test.YtohofkfajmeohaaProg
import Derived.Test.YtohofkfajmeohaaMem
import Derived.Test.YtohofkfajmeohaaWe
import Derived.Test.YtohofkfajmeohaaCo
import Derived.Test.YtohofkfajmeohaaCt
namespace Go.Proofs.Ytohofkfajmeohaa
set_option linter.unusedSimpArgs false
set_option linter.unusedVariables false
open Go.RowKit

set_option maxRecDepth 100000 in
set_option maxHeartbeats 2000000 in
theorem lists_c (v1 v2 : Value) (b1 b2 : Nat) (cs1 cs2 : List Sl) (LL : List (List Int)) (w : World) (h1 : LRow w b1 v1 cs1 LL) (h2 : LRow w b2 v2 cs2 LL) (hl : LL.length ≤ 1000) (he : ∀ l ∈ LL, l.length ≤ 1000) :
    Calls Try.prog 10 #[v1, v2] w fun e w' => e = .returned (.bool true) ∧ Below w.heap.size w w' := by
  obtain ⟨a1, c1, rfl⟩ := ownsRow_slice h1.row
  obtain ⟨a2, c2, rfl⟩ := ownsRow_slice h2.row
  have e1 := h1.len
  have e2 := h2.len
  rw [← e1, ← e2]
  have He1 := hide e1
  have He2 := hide e2
  clear e1 e2
  go_enter Try.func10, Try.ntmps10
  go_wp2
  go_loopw [5] (fun i wr => ∃ k : Nat, k ≤ LL.length ∧ i = .int .i64 k ∧ Below w.heap.size w wr) (fun i _ => LL.length - (intOf i).toNat)
  case atStart => exact ⟨0, Nat.zero_le _, rfl, Below.refl _ _⟩
  case round =>
    obtain ⟨k, hk, rfl, hb⟩ := hrel
    by_cases hlt : k < LL.length
    · have hlk := List.getElem?_eq_getElem hlt
      have hle := he _ (List.getElem_mem hlt)
      obtain ⟨g1, p1, s1, t1, hv1, _, hx1, hg1, hr1⟩ := (h1.below hb).get hlk
      obtain ⟨g2, p2, s2, t2, hv2, _, hx2, hg2, hr2⟩ := (h2.below hb).get hlk
      injection hv1 with q1 _ q3
      injection hv2 with q4 _ q6
      subst q1 q3 q4 q6
      obtain ⟨u1, z1, hy1, hI1, _⟩ := ints_of_owns hr1 rfl (by omega)
      obtain ⟨u2, z2, hy2, hI2, _⟩ := ints_of_owns hr2 rfl (by omega)
      injection hy1 with q1 _ q3
      injection hy2 with q4 _ q6
      subst q1 q3 q4 q6
      have HC := hide (ints_eq_c s1 s2 t1 t2 LL[k] LL[k] wr.heap.size wr.drew (hI1.below (Below.refl _ _).drew) (hI2.below (Below.refl _ _).drew) (Nat.le_refl _))
      clear hlk hr1 hr2 hI1 hI2
      generalize LL[k] = l at *
      go_wp2
      go_still_tail 8, Try.mixed
      go_wp2_with fail
      refine (unhide HC).mono ?_
      rintro e wa ⟨he', hba⟩
      have hee : e = .returned (.bool true) := by rw [he']; simp
      clear he'
      subst hee
      go_wp2
      go_roundw
      case rel => exact ⟨k + 1, by omega, by go_num, hb.drew.trans (hba.mono (by have := hb.size; simp; omega))⟩
      case measure => simp [intOf]; omega
    · go_wp2
      go_ret
      exact ⟨rfl, hb⟩

set_option maxRecDepth 100000 in
set_option maxHeartbeats 2000000 in
theorem compsTells_bad (ao ar : Option Addr) (aoc arc : Nat) (a : Gr) (w : World) (hao : Objs w.heap.size w ao a.objs) (har : Vals w.heap.size w ar a.roots) (na : checkG a ≠ 0) :
    Calls Try.prog 3 #[.agg #[.slice ao a.objs.length aoc, .slice ar a.roots.length arc]] w fun e w' => e = .returned (.bool true) ∧ Below w.heap.size w w' := by
  have Ha := hide na
  clear na
  go_enter Try.func3, Try.ntmps3
  go_wp2_with fail
  obtain ⟨wu0, hu0⟩ : ∃ u0, w.alloc (.cells #[.slice ao a.objs.length aoc, .slice ar a.roots.length arc] 25) = u0 := ⟨_, rfl⟩
  rw [hu0]
  obtain ⟨hsz0, hw0, hcells⟩ := law_box _ _ 25 w wu0 hu0
  have Hcells := hide hcells
  clear hu0 hcells
  have hn0 : w.heap.size + 1 ≤ wu0.heap.size := by omega
  refine (comps_bad _ _ _ _ a w.heap.size _ (hao.below hw0) (har.below hw0) (by omega) (unhide Ha)).mono ?_
  rintro e wu1 ⟨rfl, hb1⟩
  have hk1 : Below (w.heap.size + 1) wu0 wu1 := hb1.mono hn0
  have hw1 : Below w.heap.size w wu1 := hw0.trans (hb1.mono (by omega))
  have hn1 : w.heap.size + 1 ≤ wu1.heap.size := by have := hb1.size; omega
  obtain ⟨x0, x1⟩ := unhide Hcells wu1 hk1
  go_wp2_with fail
  clear x0 x1
  refine (round_bad _ _ _ _ a w.heap.size _ (hao.below hw1) (har.below hw1) (by omega) (unhide Ha)).mono ?_
  rintro e wu2 ⟨rfl, hb2⟩
  have hk2 : Below (w.heap.size + 1) wu0 wu2 := hk1.trans (hb2.mono hn1)
  have hw2 : Below w.heap.size w wu2 := hw1.trans (hb2.mono (by omega))
  have hn2 : w.heap.size + 1 ≤ wu2.heap.size := by have := hb2.size; omega
  obtain ⟨x0, x1⟩ := unhide Hcells wu2 hk2
  go_wp2_with fail
  clear x0 x1
  refine (graphCheck_c _ _ _ _ a w.heap.size _ (hao.below hw2) (har.below hw2) (by omega)).mono ?_
  rintro e wu3 ⟨rfl, hb3⟩
  have d1 : (checkG a != 0) = true := by simpa using unhide Ha
  have hw3 : Below w.heap.size w wu3 := hw2.trans (hb3.mono (by omega))
  generalize checkG a = x at *
  go_wp2
  go_ret
  exact ⟨rfl, hw3⟩

set_option maxRecDepth 100000 in
set_option maxHeartbeats 8000000 in
theorem compsTells_ok (ao ar : Option Addr) (aoc arc : Nat) (a : Gr) (w : World) (hao : Objs w.heap.size w ao a.objs) (har : Vals w.heap.size w ar a.roots) (na : checkG a = 0) :
    Calls Try.prog 3 #[.agg #[.slice ao a.objs.length aoc, .slice ar a.roots.length arc]] w fun e w' => e = .returned (.bool true) ∧ Below w.heap.size w w' := by
  obtain ⟨i0, hi, hz0, hz1, hz2⟩ := info_parts Try.info3
  have Ha := hide na
  have hG := good_of_check na
  clear na
  have hn24 := hG.n24
  go_enter Try.func3, Try.ntmps3
  go_wp2_with fail
  obtain ⟨wu0, hu0⟩ : ∃ u0, w.alloc (.cells #[.slice ao a.objs.length aoc, .slice ar a.roots.length arc] 25) = u0 := ⟨_, rfl⟩
  rw [hu0]
  obtain ⟨hsz0, hw0, hcells⟩ := law_box _ _ 25 w wu0 hu0
  have Hcells := hide hcells
  clear hu0 hcells
  have hn0 : w.heap.size + 1 ≤ wu0.heap.size := by omega
  refine (comps_ok _ _ _ _ a w.heap.size _ (hao.below hw0) (har.below hw0) (by omega) (unhide Ha)).mono ?_
  rintro e wu1 ⟨vl, cs, rfl, hR1, hb1⟩
  have hk1 : Below (w.heap.size + 1) wu0 wu1 := hb1.mono hn0
  have hw1 : Below w.heap.size w wu1 := hw0.trans (hb1.mono (by omega))
  have hn1 : w.heap.size + 1 ≤ wu1.heap.size := by have := hb1.size; omega
  obtain ⟨x0, x1⟩ := unhide Hcells wu1 hk1
  obtain ⟨va, vc, rfl⟩ := ownsRow_slice hR1.row
  go_wp2_with fail
  clear x0 x1
  refine (round_ok _ _ _ _ a w.heap.size _ (hao.below hw1) (har.below hw1) (by omega) (unhide Ha)).mono ?_
  rintro e wu2 ⟨ra, rc, rfl, hI2, hb2⟩
  have hR2 := hR1.below hb2
  have hk2 : Below (w.heap.size + 1) wu0 wu2 := hk1.trans (hb2.mono hn1)
  have hw2 : Below w.heap.size w wu2 := hw1.trans (hb2.mono (by omega))
  have hn2 : w.heap.size + 1 ≤ wu2.heap.size := by have := hb2.size; omega
  obtain ⟨x0, x1⟩ := unhide Hcells wu2 hk2
  have hrl24 := roundK_len a a.objs.length
  obtain ⟨rl, hrl⟩ : ∃ rl, roundK a a.objs.length = rl := ⟨_, rfl⟩
  rw [hrl] at hI2 hrl24 ⊢
  have Hrl := hide hrl
  clear hrl
  go_wp2_with fail
  clear x0 x1
  refine (graphCheck_c _ _ _ _ a w.heap.size _ (hao.below hw2) (har.below hw2) (by omega)).mono ?_
  rintro e wu3 ⟨he, hb3⟩
  rw [unhide Ha] at he
  subst he
  have hR3 := hR2.below hb3
  have hI3 := (hI2.below hb3).mono (B' := wu3.heap.size) hb3.size
  have hk3 : Below (w.heap.size + 1) wu0 wu3 := hk2.trans (hb3.mono hn2)
  have hw3 : Below w.heap.size w wu3 := hw2.trans (hb3.mono (by omega))
  have hn3 : w.heap.size + 1 ≤ wu3.heap.size := by have := hb3.size; omega
  obtain ⟨x0, x1⟩ := unhide Hcells wu3 hk3
  go_wp2_with fail
  clear x0 x1
  refine (ways_c _ _ _ _ a w.heap.size _ (hao.below hw3) (by omega) hG).mono ?_
  rintro e wu4 ⟨tb, q, hq, rfl, htb, htab, hb4⟩
  have hq576 : q ≤ 576 := by have := mul24 hn24 hn24; omega
  have Hq := hide hq
  have Htab := hide htab
  clear hq htab
  have hR4 := hR3.below hb4
  have hI4 := (hI3.below hb4).mono (B' := wu4.heap.size) hb4.size
  have hk4 : Below (w.heap.size + 1) wu0 wu4 := hk3.trans (hb4.mono hn3)
  have hw4 : Below w.heap.size w wu4 := hw3.trans (hb4.mono (by omega))
  have hn4 : w.heap.size + 1 ≤ wu4.heap.size := by have := hb4.size; omega
  go_wp2
  go_loopw [9, 10] (fun s iv wr => ∃ k : Nat, k ≤ a.objs.length ∧ iv = .int .i64 k ∧ wr.ownsRow wu4.heap.size 3 1 s (roundK a k).length (intsV (roundK a k)) ∧ Below wu4.heap.size wu4 wr) (fun _ iv _ => a.objs.length - (intOf iv).toNat)
  case atStart => exact ⟨0, Nat.zero_le _, rfl, World.ownsRow_nil _ _ _ _, Below.refl _ _⟩
  case round =>
    obtain ⟨k, hk, rfl, hown, hb⟩ := hrel
    have hsz := hb.size
    have hkr : Below (w.heap.size + 1) wu0 wr := hk4.trans (hb.mono hn4)
    have hwr : Below w.heap.size w wr := hw4.trans (hb.mono (by omega))
    obtain ⟨x0, x1⟩ := unhide Hcells wr hkr
    have hrk := roundK_len a k
    by_cases hlt : k < a.objs.length
    · obtain ⟨p, hp⟩ : ∃ p, k * a.objs.length = p := ⟨_, rfl⟩
      have hwm := wrap_mul (by omega) hn24 hp
      have hp576 : p ≤ 576 := by have := mul24 (x := k) (by omega) hn24; omega
      have hpk : p + k < q := by have := idx_lt hlt hlt; rw [unhide Hq, ← hp]; exact this
      have hpkI : (p : Int) + (k : Int) < (q : Int) := by omega
      have hcc := (hb.cell (p := ⟨tb, k * a.objs.length + k, none⟩) htb).trans (unhide Htab k k hlt hlt)
      rw [hp] at hcc
      clear hp
      have Hyes := hide (fun h => roundK_yes (g := a) (k := k) h)
      have Hno := hide (fun h => roundK_no (g := a) (k := k) h)
      cases hm : decide ((k : Int) ∈ ledL a k)
      · have HT := hide (unhide Hno (by simpa using hm))
        rw [hm] at hcc
        clear hm Hyes Hno
        go_wp2
        clear x0 x1
        go_roundw
        case rel => exact ⟨k + 1, by omega, by go_num, by rw [unhide HT]; exact hown, hb⟩
        case measure => simp [intOf]; omega
      · have HT := hide (unhide Hyes (by simpa using hm))
        rw [hm] at hcc
        clear hm Hyes Hno
        go_wp2_with (at_builtin; go_must (refine wpList_append_own _ rfl _ _ 30 rfl wu4.heap.size 3 i0 _ 1 8 Try.underlying30 hi hz0 hz1 hz2 rfl (by decide) _ _ _ rfl (hown.alloc _) ⟨wr.heap.size, 0, none⟩ 1 1 [.int .i64 (k : Int)] rfl rfl (cell_one_at _ _ _ _ (by simp)) (by simp [Value.oneCell']) (by simp only [maxLen]; omega) (by omega) (by simp; omega) ?_); intro v' w1 hown' hgrow _)
        clear x0 x1
        go_roundw
        case rel => exact ⟨k + 1, by omega, by go_num, by rw [unhide HT, intsV_snoc, List.length_append]; exact hown', (hb.alloc (by omega) _).grown hgrow (by simp; omega) (fun b e => (hown.lt b e).1)⟩
        case measure => simp [intOf]; omega
    · obtain rfl : k = a.objs.length := by omega
      rw [unhide Hrl] at hown hrk
      have hRr := hR4.below hb
      have hIr := (hI4.below hb).mono (B' := wr.heap.size) hb.size
      obtain ⟨sa, sc, hvs, hIs, _⟩ := ints_of_owns hown rfl (by omega)
      have hnr : w.heap.size + 1 ≤ wr.heap.size := by omega
      subst hvs
      generalize hE : wr = wE at *
      clear hE
      go_wp2_with fail
      clear x0 x1
      refine (refComps_c _ _ _ _ a w.heap.size _ (hao.below hwr) (by omega) hG).mono ?_
      rintro e wu5 ⟨v5, cs5, rfl, hR5, hb5⟩
      have hRr5 := hRr.below hb5
      have hIr5 := (hIr.below hb5).mono (B' := wu5.heap.size) hb5.size
      have hIs5 := (hIs.below hb5).mono (B' := wu5.heap.size) hb5.size
      have hw5 : Below w.heap.size w wu5 := hwr.trans (hb5.mono (by omega))
      have hs5 := hb5.size
      have HLc := hide (lists_c _ _ _ _ cs cs5 (outF a) wu5 hRr5 hR5 (by have := outF_len hG; omega) (fun l hl => by
        obtain ⟨o, _, _, rfl⟩ := (outF_ok hG).each l hl
        have h1 : (compL a o).length ≤ a.objs.length := compK_len a o a.objs.length
        omega))
      go_wp2_with fail
      refine (unhide HLc).mono ?_
      rintro e wu6 ⟨rfl, hb6⟩
      have hI6 := (hIr5.below hb6).mono (B' := wu6.heap.size) hb6.size
      have hJ6 := (hIs5.below hb6).mono (B' := wu6.heap.size) hb6.size
      have hw6 : Below w.heap.size w wu6 := hw5.trans (hb6.mono (by omega))
      have hs6 := hb6.size
      have HIc := hide (ints_eq_c ra sa rc sc rl rl wu6.heap.size wu6 hI6 hJ6 (Nat.le_refl _))
      go_wp2_with fail
      refine (unhide HIc).mono ?_
      rintro e wu7 ⟨he, hb7⟩
      have hee : e = .returned (.bool true) := by rw [he]; simp
      clear he
      subst hee
      go_wp2
      go_ret
      exact ⟨rfl, hw6.trans (hb7.mono (by omega))⟩

theorem compsTells_c (ao ar : Option Addr) (aoc arc : Nat) (a : Gr) (w : World) (hao : Objs w.heap.size w ao a.objs) (har : Vals w.heap.size w ar a.roots) :
    Calls Try.prog 3 #[.agg #[.slice ao a.objs.length aoc, .slice ar a.roots.length arc]] w fun e w' => e = .returned (.bool true) ∧ Below w.heap.size w w' := by
  by_cases na : checkG a = 0
  · exact compsTells_ok ao ar aoc arc a w hao har na
  · exact compsTells_bad ao ar aoc arc a w hao har na

end Go.Proofs.Ytohofkfajmeohaa
