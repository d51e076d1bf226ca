/- Walks: CompsRound. -/
import Derived.Test.YtohofkfajmeohaaProg
import Derived.Test.YtohofkfajmeohaaMem
import Derived.Test.YtohofkfajmeohaaWs
import Derived.Test.YtohofkfajmeohaaWu
import Derived.Test.YtohofkfajmeohaaRa
import Derived.Test.YtohofkfajmeohaaSb
import Derived.Test.YtohofkfajmeohaaCn
namespace Go.Proofs.Ytohofkfajmeohaa
set_option linter.unusedSimpArgs false
set_option linter.unusedVariables false
open Go.RowKit

theorem law_box (x y : Value) (t : TypeId) (w : World) :
    ∀ W0, w.alloc (.cells #[x, y] t) = W0 → W0.heap.size = w.heap.size + 1 ∧ Below w.heap.size w W0 ∧ (∀ X, Below (w.heap.size + 1) W0 X → X.cell? ⟨w.heap.size, 0, none⟩ = some x ∧ X.cell? ⟨w.heap.size, 1, none⟩ = some y) := by
  intro W0 h
  refine ⟨by rw [← h]; simp, by rw [← h]; exact (Below.refl _ _).alloc (Nat.le_refl _) _, fun X hX => ⟨?_, ?_⟩⟩
  · rw [hX.cell (p := ⟨w.heap.size, 0, none⟩) (by simp), ← h]; simp [go_sem]
  · rw [hX.cell (p := ⟨w.heap.size, 1, none⟩) (by simp), ← h]; simp [go_sem]

theorem rises_of {l : List Int} (h : l.Pairwise (· < ·)) : ∀ (i j : Nat) (x y : Int), i + 1 = j → l[i]? = some x → l[j]? = some y → x < y := by
  intro i j x y hij hx hy
  obtain ⟨hi, rfl⟩ := List.getElem?_eq_some_iff.1 hx
  obtain ⟨hj, rfl⟩ := List.getElem?_eq_some_iff.1 hy
  exact (List.pairwise_iff_getElem.1 h) i j hi hj (by omega)

theorem roundK_lt (g : Gr) (k : Nat) : (roundK g k).Pairwise (· < ·) := (nums_lt _).filter _

theorem mem_roundK {g : Gr} {k : Nat} {x : Int} : x ∈ roundK g k ↔ (0 ≤ x ∧ x < k) ∧ x ∈ ledL g x := by
  unfold roundK; rw [List.mem_filter, mem_nums]; simp

/-- In the end all have come. -/
theorem outF_all {g : Gr} (hg : Good g) : (outF g).flatten.length = g.objs.length := by
  have hok := outN_ok hg g.objs.length
  have hle := flat_len hok
  refine Nat.le_antisymm hle ?_
  refine Classical.byContradiction fun hc => ?_
  have hlt : (outN g g.objs.length).flatten.length < g.objs.length := by
    have : (outF g).flatten.length = (outN g g.objs.length).flatten.length := rfl
    omega
  have h1 := (outN_len hg g.objs.length hlt).1
  have h2 := outs_le hok
  omega

theorem outF_ok {g : Gr} (hg : Good g) : OutOk g (outF g) := outN_ok hg g.objs.length

theorem outF_len {g : Gr} (hg : Good g) : (outF g).length ≤ g.objs.length := by
  have h1 := outs_le (outF_ok hg)
  have h2 := flat_len (outF_ok hg)
  omega

theorem outF_pos {g : Gr} (hg : Good g) (h : 0 < g.objs.length) : 0 < (outF g).length := by
  have h1 := outF_all hg
  rcases Nat.eq_zero_or_pos (outF g).length with h0 | h0
  · rw [List.length_eq_zero_iff.1 h0] at h1
    simp at h1
    omega
  · exact h0

/-- Of a component of more than one, each leads to itself. -/
theorem comp_round {g : Gr} (hg : Good g) {o : Int} (hl : 1 < (compL g o).length) : ∀ x ∈ compL g o, x ∈ roundK g g.objs.length := by
  intro x hx
  have hxm := mem_comp.1 hx
  have : ∃ y ∈ compL g o, y ≠ x := by
    refine Classical.byContradiction fun hc => ?_
    have hall : ∀ y ∈ compL g o, y ∈ [x] := fun y hy => by
      have : y = x := Classical.byContradiction fun hn => hc ⟨y, hy, hn⟩
      simp [this]
    have := nodup_sub_len _ _ (comp_nodup g o) hall
    simp at this
    omega
  obtain ⟨y, hy, hne⟩ := this
  have h1 := inOne_trans hg (inOne_symm hxm.2) (mem_comp.1 hy).2
  rcases inOne_iff.1 h1 with e | e
  · exact absurd e hne
  · exact mem_roundK.2 ⟨hxm.1, led_trans hg e.1 e.2⟩

set_option maxRecDepth 100000 in
set_option maxHeartbeats 2000000 in
theorem compsRound_bad (ao ar : Option Addr) (aoc arc : Nat) (a : Gr) (w : World) (hao : Objs w.heap.size w ao a.objs) (har : Vals w.heap.size w ar a.roots) (na : checkG a ≠ 0) :
    Calls Try.prog 5 #[.agg #[.slice ao a.objs.length aoc, .slice ar a.roots.length arc]] w fun e w' => e = .returned (.bool true) ∧ Below w.heap.size w w' := by
  have Ha := hide na
  clear na
  go_enter Try.func5, Try.ntmps5
  go_wp2_with fail
  obtain ⟨wu0, hu0⟩ : ∃ u0, w.alloc (.cells #[.slice ao a.objs.length aoc, .slice ar a.roots.length arc] 25) = u0 := ⟨_, rfl⟩
  rw [hu0]
  obtain ⟨hsz0, hw0, hcells⟩ := law_box _ _ 25 w wu0 hu0
  have Hcells := hide hcells
  clear hu0 hcells
  have hn0 : w.heap.size + 1 ≤ wu0.heap.size := by omega
  refine (good_c _ _ _ _ a w.heap.size _ (hao.below hw0) (har.below hw0) (by omega)).mono ?_
  rintro e wu1 ⟨he, hb1⟩
  rw [checkG_beq' (unhide Ha)] at he
  subst he
  have hw1 : Below w.heap.size w wu1 := hw0.trans (hb1.mono (by omega))
  have hn1 : w.heap.size + 1 ≤ wu1.heap.size := by have := hb1.size; omega
  obtain ⟨x0, x1⟩ := unhide Hcells wu1 (hb1.mono hn0)
  go_wp2_with fail
  clear x0 x1
  refine (refused_c _ _ _ _ a w.heap.size _ (hao.below hw1) (har.below hw1) (by omega)).mono ?_
  rintro e wu2 ⟨he, hb2⟩
  rw [checkG_bne' (unhide Ha)] at he
  subst he
  go_wp2
  go_ret
  exact ⟨rfl, hw1.trans (hb2.mono (by omega))⟩

set_option maxRecDepth 100000 in
set_option maxHeartbeats 4000000 in
theorem compsRound_ok (ao ar : Option Addr) (aoc arc : Nat) (a : Gr) (w : World) (hao : Objs w.heap.size w ao a.objs) (har : Vals w.heap.size w ar a.roots) (na : checkG a = 0) :
    Calls Try.prog 5 #[.agg #[.slice ao a.objs.length aoc, .slice ar a.roots.length arc]] w fun e w' => e = .returned (.bool true) ∧ Below w.heap.size w w' := by
  have Ha := hide na
  have hG := good_of_check na
  clear na
  have hn24 := hG.n24
  go_enter Try.func5, Try.ntmps5
  go_wp2_with fail
  obtain ⟨wu0, hu0⟩ : ∃ u0, w.alloc (.cells #[.slice ao a.objs.length aoc, .slice ar a.roots.length arc] 25) = u0 := ⟨_, rfl⟩
  rw [hu0]
  obtain ⟨hsz0, hw0, hcells⟩ := law_box _ _ 25 w wu0 hu0
  have Hcells := hide hcells
  clear hu0 hcells
  have hn0 : w.heap.size + 1 ≤ wu0.heap.size := by omega
  refine (good_c _ _ _ _ a w.heap.size _ (hao.below hw0) (har.below hw0) (by omega)).mono ?_
  rintro e wu1 ⟨he, hb1⟩
  rw [checkG_beq (unhide Ha)] at he
  subst he
  have hk1 : Below (w.heap.size + 1) wu0 wu1 := hb1.mono hn0
  have hw1 : Below w.heap.size w wu1 := hw0.trans (hb1.mono (by omega))
  have hn1 : w.heap.size + 1 ≤ wu1.heap.size := by have := hb1.size; omega
  obtain ⟨x0, x1⟩ := unhide Hcells wu1 hk1
  go_wp2_with fail
  clear x0 x1
  refine (comps_ok _ _ _ _ a w.heap.size _ (hao.below hw1) (har.below hw1) (by omega) (unhide Ha)).mono ?_
  rintro e wu2 ⟨vl, cs, rfl, hR2, hb2⟩
  have hk2 : Below (w.heap.size + 1) wu0 wu2 := hk1.trans (hb2.mono hn1)
  have hw2 : Below w.heap.size w wu2 := hw1.trans (hb2.mono (by omega))
  have hn2 : w.heap.size + 1 ≤ wu2.heap.size := by have := hb2.size; omega
  obtain ⟨x0, x1⟩ := unhide Hcells wu2 hk2
  obtain ⟨va, vc, rfl⟩ := ownsRow_slice hR2.row
  have Hcl := hide hR2.len
  have hcl24 : cs.length ≤ 24 := by rw [← hR2.len]; have := outF_len hG; omega
  go_wp2_with fail
  clear x0 x1
  refine (round_ok _ _ _ _ a w.heap.size _ (hao.below hw2) (har.below hw2) (by omega) (unhide Ha)).mono ?_
  rintro e wu3 ⟨ra, rc, rfl, hI3, hb3⟩
  have hR3 := hR2.below hb3
  have hk3 : Below (w.heap.size + 1) wu0 wu3 := hk2.trans (hb3.mono hn2)
  have hw3 : Below w.heap.size w wu3 := hw2.trans (hb3.mono (by omega))
  have hn3 : w.heap.size + 1 ≤ wu3.heap.size := by have := hb3.size; omega
  have Hrise := hide (rises_of (roundK_lt a a.objs.length))
  have Hround : Hid (∀ i : Nat, i < a.objs.length → decide ((i : Int) ∈ sortL (ledL a i)) = decide ((i : Int) ∈ roundK a a.objs.length)) := fun i hi => by
    rw [Bool.eq_iff_iff, decide_eq_true_eq, decide_eq_true_eq, sortL_mem, mem_roundK]
    exact ⟨fun h => ⟨⟨by omega, by omega⟩, h⟩, fun h => h.2⟩
  have Hin : Hid (∀ (k : Nat) (c : List Int), (outF a)[k]? = some c → 1 < c.length → ∀ x ∈ c, x ∈ roundK a a.objs.length) := fun k c hc hl => by
    obtain ⟨o, _, _, rfl⟩ := (outF_ok hG).each c (List.mem_of_getElem? hc)
    exact comp_round hG hl
  have Hpos : Hid (0 < a.objs.length → 0 < cs.length) := fun h => by rw [← unhide Hcl]; exact outF_pos hG h
  generalize roundK a a.objs.length = r at *
  go_wp2_with fail
  refine (rising_c ra rc r wu3.heap.size _ hI3 (Nat.le_refl _) (unhide Hrise)).mono ?_
  rintro e wu4 ⟨rfl, hb4⟩
  have hR4 := hR3.below hb4
  have hI4 := (hI3.below hb4).mono (B' := wu4.heap.size) hb4.size
  have hk4 : Below (w.heap.size + 1) wu0 wu4 := hk3.trans (hb4.mono hn3)
  have hw4 : Below w.heap.size w wu4 := hw3.trans (hb4.mono (by omega))
  have hn4 : w.heap.size + 1 ≤ wu4.heap.size := by have := hb4.size; omega
  obtain ⟨x0, x1⟩ := unhide Hcells wu4 hk4
  by_cases hz : cs.length = 0
  · have hn : a.objs.length = 0 := by
      rcases Nat.eq_zero_or_pos a.objs.length with h | h
      · exact h
      · have := unhide Hpos h; omega
    have d0 : ((cs.length : Int) == 0) = true := by rw [hz]; rfl
    have d3 : decide ((a.objs.length : Int) > 0) = false := by rw [hn]; rfl
    have d4 : decide (0 < (a.objs.length : Int)) = false := by rw [hn]; rfl
    have hlz : ¬ 0 < cs.length := by omega
    have hnz : ¬ 0 < a.objs.length := by omega
    have Hz := hide hz
    have Hn := hide hn
    clear hz hn
    go_wp2
    clear x0 x1
    go_loopw [7] (fun i wr => ∃ k : Nat, k ≤ a.objs.length ∧ i = .int .i64 k ∧ Below wu4.heap.size wu4 wr) (fun i _ => a.objs.length - (intOf i).toNat)
    case atStart => exact ⟨0, Nat.zero_le _, rfl, Below.refl _ _⟩
    case round =>
      obtain ⟨k, hk, rfl, hb⟩ := hrel
      have hkr : Below (w.heap.size + 1) wu0 wr := hk4.trans (hb.mono hn4)
      have hwr : Below w.heap.size w wr := hw4.trans (hb.mono (by omega))
      have hnr : w.heap.size + 1 ≤ wr.heap.size := by have := hb.size; omega
      obtain ⟨x0, x1⟩ := unhide Hcells wr hkr
      have hIr := (hI4.below hb).mono (B' := wr.heap.size) hb.size
      have hRr := hR4.below hb
      by_cases hlt : k < a.objs.length
      · exact absurd hlt (by omega)
      · obtain rfl : k = a.objs.length := by omega
        go_wp2
        clear x0 x1
        go_loopw [75] (fun i wr => ∃ k : Nat, k ≤ cs.length ∧ i = .int .i64 k ∧ Below wu4.heap.size wu4 wr) (fun i _ => cs.length - (intOf i).toNat)
        case atStart => exact ⟨0, Nat.zero_le _, rfl, hb⟩
        case round =>
          clear hkr hwr hnr hIr hRr
          obtain ⟨k, hk, rfl, hb⟩ := hrel
          have hwr : Below w.heap.size w wr := hw4.trans (hb.mono (by omega))
          have hIr := (hI4.below hb).mono (B' := wr.heap.size) hb.size
          have hRr := hR4.below hb
          by_cases hlt2 : k < cs.length
          · exact absurd hlt2 (by omega)
          · go_wp2
            go_ret
            exact ⟨rfl, hwr⟩
  · have d0 : ((cs.length : Int) == 0) = false := beq_eq_false_iff_ne.2 (by omega)
    have d5 : ¬ (cs.length : Int) = 0 := by omega
    go_wp2
    clear x0 x1
    go_loopw [7] (fun i wr => ∃ k : Nat, k ≤ a.objs.length ∧ i = .int .i64 k ∧ Below wu4.heap.size wu4 wr) (fun i _ => a.objs.length - (intOf i).toNat)
    case atStart => exact ⟨0, Nat.zero_le _, rfl, Below.refl _ _⟩
    case round =>
      obtain ⟨k, hk, rfl, hb⟩ := hrel
      have hkr : Below (w.heap.size + 1) wu0 wr := hk4.trans (hb.mono hn4)
      have hwr : Below w.heap.size w wr := hw4.trans (hb.mono (by omega))
      have hnr : w.heap.size + 1 ≤ wr.heap.size := by have := hb.size; omega
      obtain ⟨x0, x1⟩ := unhide Hcells wr hkr
      have hIr := (hI4.below hb).mono (B' := wr.heap.size) hb.size
      have hRr := hR4.below hb
      by_cases hlt : k < a.objs.length
      · have Hrk := hide (unhide Hround k hlt)
        go_wp2_with fail
        clear x0 x1
        refine (leadsLaw_c _ _ _ _ a k w.heap.size _ (hao.below hwr) (by omega) (unhide Ha) hlt).mono ?_
        rintro e wu5 ⟨ta, tc, rfl, hI5, hb5⟩
        have hIr5 := (hIr.below hb5).mono (B' := wu5.heap.size) hb5.size
        generalize sortL (ledL a k) = to at *
        go_wp2_with fail
        refine (has_c ta tc to (k : Int) wu5.heap.size _ hI5).mono ?_
        rintro e wu6 ⟨rfl, hu6⟩
        subst hu6
        go_wp2_with fail
        refine (has_c ra rc r (k : Int) wu6.heap.size _ hIr5).mono ?_
        rintro e wu7 ⟨rfl, hu7⟩
        subst hu7
        rw [unhide Hrk]
        obtain ⟨bb, hbb⟩ : ∃ bb, decide ((k : Int) ∈ r) = bb := ⟨_, rfl⟩
        rw [hbb]
        clear hbb
        cases bb
        · go_wp2
          go_roundw
          case rel => exact ⟨k + 1, by omega, by go_num, hb.trans (hb5.mono hb.size)⟩
          case measure => simp [intOf]; omega
        · go_wp2
          go_roundw
          case rel => exact ⟨k + 1, by omega, by go_num, hb.trans (hb5.mono hb.size)⟩
          case measure => simp [intOf]; omega
      · obtain rfl : k = a.objs.length := by omega
        go_wp2
        clear x0 x1
        go_loopw [75] (fun i wr => ∃ k : Nat, k ≤ cs.length ∧ i = .int .i64 k ∧ Below wu4.heap.size wu4 wr) (fun i _ => cs.length - (intOf i).toNat)
        case atStart => exact ⟨0, Nat.zero_le _, rfl, hb⟩
        case round =>
          clear hkr hwr hnr hIr hRr
          obtain ⟨k, hk, rfl, hb⟩ := hrel
          have hwr : Below w.heap.size w wr := hw4.trans (hb.mono (by omega))
          have hIr := (hI4.below hb).mono (B' := wr.heap.size) hb.size
          have hRr := hR4.below hb
          by_cases hlt2 : k < cs.length
          · have hlk : (outF a)[k]? = some ((outF a)[k]'(by rw [unhide Hcl]; exact hlt2)) := List.getElem?_eq_getElem _
            obtain ⟨gg, cap, ca, cc, hv, hsk, hc, hgl, hrow⟩ := hRr.get hlk
            injection hv with e1 e2 e3
            subst e1 e3
            have Hik := hide (unhide Hin k _ hlk)
            have hcl : ((outF a)[k]'(by rw [unhide Hcl]; exact hlt2)).length ≤ 1000 := by
              obtain ⟨o, _, _, e⟩ := (outF_ok hG).each _ (List.mem_of_getElem? hlk)
              rw [e]
              have := compK_len a o a.objs.length
              have : (compL a o).length ≤ a.objs.length := this
              omega
            obtain ⟨ia, icap, hv2, hIc, _⟩ := ints_of_owns hrow rfl (by omega)
            injection hv2 with e4 _ e5
            subst e4 e5
            clear hlk hsk hrow e2
            generalize (outF a)[k]'(by rw [unhide Hcl]; exact hlt2) = c at *
            by_cases hl1 : 1 < c.length
            · have Hi2 := hide (unhide Hik hl1)
              go_wp2_with fail
              refine (inside_c ca ra cc rc c r wr.heap.size _ hIc hIr (unhide Hi2)).mono ?_
              rintro e wu7 ⟨rfl, hu7⟩
              subst hu7
              go_wp2
              go_roundw
              case rel => exact ⟨k + 1, by omega, by go_num, hb⟩
              case measure => simp [intOf]; omega
            · have d1 : decide ((1 : Int) < (c.length : Int)) = false := by simp; omega
              have d2 : decide ((c.length : Int) > 1) = false := by simp; omega
              go_wp2
              go_roundw
              case rel => exact ⟨k + 1, by omega, by go_num, hb⟩
              case measure => simp [intOf]; omega
          · go_wp2
            go_ret
            exact ⟨rfl, hwr⟩

theorem compsRound_c (ao ar : Option Addr) (aoc arc : Nat) (a : Gr) (w : World) (hao : Objs w.heap.size w ao a.objs) (har : Vals w.heap.size w ar a.roots) :
    Calls Try.prog 5 #[.agg #[.slice ao a.objs.length aoc, .slice ar a.roots.length arc]] w fun e w' => e = .returned (.bool true) ∧ Below w.heap.size w w' := by
  by_cases na : checkG a = 0
  · exact compsRound_ok ao ar aoc arc a w hao har na
  · exact compsRound_bad ao ar aoc arc a w hao har na

end Go.Proofs.Ytohofkfajmeohaa
