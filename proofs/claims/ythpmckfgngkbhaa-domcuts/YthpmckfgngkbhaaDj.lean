/- Walks: DomCuts. -/
import Derived.Test.YthpmckfgngkbhaaProg
import Derived.Test.YthpmckfgngkbhaaMem
import Derived.Test.YthpmckfgngkbhaaDi
namespace Go.Proofs.Ythpmckfgngkbhaa
set_option linter.unusedSimpArgs false
set_option linter.unusedVariables false
open Go.RowKit

theorem rises_of {l : List Int} (h : l.Pairwise (· < ·)) : ∀ (i j : Nat) (x y : Int), i + 1 = j → l[i]? = some x → l[j]? = some y → x < y := by
  intro i j x y hij hx hy
  obtain ⟨hi, rfl⟩ := List.getElem?_eq_some_iff.1 hx
  obtain ⟨hj, rfl⟩ := List.getElem?_eq_some_iff.1 hy
  exact (List.pairwise_iff_getElem.1 h) i j hi hj (by omega)

theorem sortL_lt {l : List Int} (h : l.Nodup) : (sortL l).Pairwise (· < ·) := by
  have h1 := sortL_sorted l
  have h2 := List.nodup_iff_pairwise_ne.1 (sortL_nodup h)
  exact (h1.and h2).imp (fun ⟨a, b⟩ => by omega)

theorem ret_lt {g : Gr} (h : Good g) (v : Int) : (retL g v).Pairwise (· < ·) := (sortL_lt (order_nodup h)).filter _

theorem left_len {g : Gr} (h : Good g) (v : Int) : (retL g v).length + (sortL (orderOf (cutG g v))).length = (sortL (orderOf g)).length := by
  have h1 : (sortL (orderOf (cutG g v))).Perm ((sortL (orderOf g)).filter fun o => decide (o ∈ leftL g v)) := by
    refine (List.perm_ext_iff_of_nodup (sortL_nodup (order_nodup (good_cut h v))) ((sortL_nodup (order_nodup h)).filter _)).2 fun x => ?_
    rw [sortL_mem, List.mem_filter, sortL_mem]
    constructor
    · intro hx
      have hx : x ∈ leftL g v := hx
      exact ⟨left_sub h hx, by simpa using hx⟩
    · intro hx
      have h2 : x ∈ leftL g v := by simpa using hx.2
      exact h2
  rw [h1.length_eq]
  unfold retL
  generalize sortL (orderOf g) = L
  have : ∀ L : List Int, (L.filter fun o => !decide (o ∈ leftL g v)).length + (L.filter fun o => decide (o ∈ leftL g v)).length = L.length := by
    intro L
    induction L with
    | nil => rfl
    | cons x L ih =>
      by_cases hx : x ∈ leftL g v
      · rw [List.filter_cons_of_neg (by simp [hx]), List.filter_cons_of_pos (by simp [hx])]; simp only [List.length_cons]; omega
      · rw [List.filter_cons_of_pos (by simp [hx]), List.filter_cons_of_neg (by simp [hx])]; simp only [List.length_cons]; omega
  exact this L

theorem check_cut {g : Gr} (h : checkG g = 0) (v : Int) : checkG (cutG g v) = 0 := by
  have e1 : isLargeG (cutG g v) = isLargeG g := by
    unfold isLargeG cutG
    simp only [List.length_map, List.any_map]
    have e : ((fun l => decide (4 < l.length)) ∘ fun x => List.map (cutV v) x) = fun l : List V => decide (4 < l.length) := by funext l; simp
    rw [e]
  have e2 : allV (cutG g v) = (allV g).map (cutV v) := by
    unfold allV cutG
    simp only [List.map_append, List.map_flatten]
  have e3 : ∀ k : Int, k ≠ 0 → (allV g).any (fun u => badV u g.objs.length == k) = false → (allV (cutG g v)).any (fun u => badV u (cutG g v).objs.length == k) = false := by
    intro k hk0 hk
    rw [List.any_eq_false] at hk ⊢
    intro u hu
    rw [e2, List.mem_map] at hu
    obtain ⟨u', hu', rfl⟩ := hu
    rw [cut_len]
    unfold cutV
    split
    · simp [badV]; exact fun e => hk0 e.symm
    · exact hk u' hu'
  unfold checkG at h ⊢
  rw [e1]
  cases hl : isLargeG g with
  | true => rw [hl] at h; simp at h
  | false =>
    rw [hl] at h
    simp only [Bool.false_eq_true, if_false] at h ⊢
    cases h2 : (allV g).any (fun u => badV u g.objs.length == 2) with
    | true => rw [h2] at h; simp at h
    | false =>
      rw [h2] at h
      simp only [Bool.false_eq_true, if_false] at h
      cases h3 : (allV g).any (fun u => badV u g.objs.length == 3) with
      | true => rw [h3] at h; simp at h
      | false => rw [e3 2 (by omega) h2, e3 3 (by omega) h3]; simp

set_option maxRecDepth 100000 in
set_option maxHeartbeats 2000000 in
theorem domCuts_bad (ao ar : Option Addr) (aoc arc : Nat) (a : Gr) (v : Int) (w : World) (hao : Objs w.heap.size w ao a.objs) (har : Vals w.heap.size w ar a.roots) (na : checkG a ≠ 0) :
    Calls Try.prog 4 #[.agg #[.slice ao a.objs.length aoc, .slice ar a.roots.length arc], .int .i64 v] w fun e w' => e = .returned (.bool true) ∧ Below w.heap.size w w' := by
  have Ha := hide na
  have He := hide (retE_bad na v)
  clear na
  go_enter Try.func4, Try.ntmps4
  go_wp2_with fail
  obtain ⟨wu0, hu0⟩ : ∃ u0, w.alloc (.cells #[.slice ao a.objs.length aoc, .slice ar a.roots.length arc] 25) = u0 := ⟨_, rfl⟩
  rw [hu0]
  obtain ⟨hsz0, hw0, hcells⟩ := law_box _ _ 25 w wu0 hu0
  have Hcells := hide hcells
  clear hu0 hcells
  have hn0 : w.heap.size + 1 ≤ wu0.heap.size := by omega
  refine (good_c _ _ _ _ a w.heap.size _ (hao.below hw0) (har.below hw0) (by omega)).mono ?_
  rintro e wu1 ⟨he, hb1⟩
  have hk1 : Below (w.heap.size + 1) wu0 wu1 := hb1.mono hn0
  have hw1 : Below w.heap.size w wu1 := hw0.trans (hb1.mono (by omega))
  have hn1 : w.heap.size + 1 ≤ wu1.heap.size := by have := hb1.size; omega
  obtain ⟨x0, x1⟩ := unhide Hcells wu1 hk1
  rw [checkG_beq' (unhide Ha)] at he
  subst he
  go_wp2_with fail
  clear x0 x1
  refine (ret_c _ _ _ _ a v w.heap.size _ (hao.below hw1) (har.below hw1) (by omega)).mono ?_
  rintro e wu2 ⟨a2, c2, rfl, hI2, hb2⟩
  have d1 : (retE a v != 0) = true := by simpa using unhide He
  generalize retE a v = e1 at *
  generalize retR a v = l1 at *
  go_wp2
  go_ret
  exact ⟨rfl, hw1.trans (hb2.mono (by omega))⟩

set_option maxRecDepth 100000 in
set_option maxHeartbeats 2000000 in
theorem domCuts_arg (ao ar : Option Addr) (aoc arc : Nat) (a : Gr) (v : Int) (w : World) (hao : Objs w.heap.size w ao a.objs) (har : Vals w.heap.size w ar a.roots) (na : checkG a = 0) (hv : v < 0 ∨ (a.objs.length : Int) ≤ v) :
    Calls Try.prog 4 #[.agg #[.slice ao a.objs.length aoc, .slice ar a.roots.length arc], .int .i64 v] w fun e w' => e = .returned (.bool true) ∧ Below w.heap.size w w' := by
  have Ha := hide na
  have hao1 := hao.1
  have He : Hid (retE a v ≠ 0) := by rw [retE_arg na hv]; exact (by decide : (2 : Int) ≠ 0)
  have Hv := hide hv
  clear na hv
  go_enter Try.func4, Try.ntmps4
  go_wp2_with fail
  obtain ⟨wu0, hu0⟩ : ∃ u0, w.alloc (.cells #[.slice ao a.objs.length aoc, .slice ar a.roots.length arc] 25) = u0 := ⟨_, rfl⟩
  rw [hu0]
  obtain ⟨hsz0, hw0, hcells⟩ := law_box _ _ 25 w wu0 hu0
  have Hcells := hide hcells
  clear hu0 hcells
  have hn0 : w.heap.size + 1 ≤ wu0.heap.size := by omega
  refine (good_c _ _ _ _ a w.heap.size _ (hao.below hw0) (har.below hw0) (by omega)).mono ?_
  rintro e wu1 ⟨he, hb1⟩
  have hk1 : Below (w.heap.size + 1) wu0 wu1 := hb1.mono hn0
  have hw1 : Below w.heap.size w wu1 := hw0.trans (hb1.mono (by omega))
  have hn1 : w.heap.size + 1 ≤ wu1.heap.size := by have := hb1.size; omega
  obtain ⟨x0, x1⟩ := unhide Hcells wu1 hk1
  rw [checkG_beq (unhide Ha)] at he
  subst he
  by_cases v0 : v < 0
  · have dv0 : decide (v < 0) = true := by simpa using v0
    go_wp2_with fail
    clear x0 x1
    refine (ret_c _ _ _ _ a v w.heap.size _ (hao.below hw1) (har.below hw1) (by omega)).mono ?_
    rintro e wu2 ⟨a2, c2, rfl, hI2, hb2⟩
    have d1 : (retE a v != 0) = true := by simpa using unhide He
    generalize retE a v = e1 at *
    generalize retR a v = l1 at *
    go_wp2
    go_ret
    exact ⟨rfl, hw1.trans (hb2.mono (by omega))⟩
  · have dv0 : decide (v < 0) = false := by simpa using v0
    have v1 : (a.objs.length : Int) ≤ v := by have := unhide Hv; omega
    have dv1 : decide (v ≥ (a.objs.length : Int)) = true := by simpa using v1
    have dv1' : decide ((a.objs.length : Int) ≤ v) = true := by simpa using v1
    go_wp2_with fail
    clear x0 x1
    refine (ret_c _ _ _ _ a v w.heap.size _ (hao.below hw1) (har.below hw1) (by omega)).mono ?_
    rintro e wu2 ⟨a2, c2, rfl, hI2, hb2⟩
    have d1 : (retE a v != 0) = true := by simpa using unhide He
    generalize retE a v = e1 at *
    generalize retR a v = l1 at *
    go_wp2
    go_ret
    exact ⟨rfl, hw1.trans (hb2.mono (by omega))⟩

set_option maxRecDepth 100000 in
set_option maxHeartbeats 4000000 in
theorem domCuts_ok (ao ar : Option Addr) (aoc arc : Nat) (a : Gr) (v : Int) (w : World) (hao : Objs w.heap.size w ao a.objs) (har : Vals w.heap.size w ar a.roots) (na : checkG a = 0) (v0 : 0 ≤ v) (v1 : v < a.objs.length) :
    Calls Try.prog 4 #[.agg #[.slice ao a.objs.length aoc, .slice ar a.roots.length arc], .int .i64 v] w fun e w' => e = .returned (.bool true) ∧ Below w.heap.size w w' := by
  have Ha := hide na
  have hG := good_of_check na
  have hn24 := hG.n24
  have hao1 := hao.1
  have Hcc := hide (check_cut na v)
  have Hlen := hide (left_len hG v)
  have Hri := hide (rises_of (ret_lt hG v))
  have h24 : (sortL (orderOf a)).length ≤ 24 := by rw [sortL_len]; have := (searchN_ok hG a.objs.length).le; unfold orderOf; omega
  have Hself : Hid (decide (v ∈ sortL (orderOf a)) = decide (v ∈ retL a v)) := by
    show _ = _
    rw [Bool.eq_iff_iff, decide_eq_true_eq, decide_eq_true_eq, ret_self hG, sortL_mem]
  have Hel : Hid (∀ x ∈ retL a v, x ∉ sortL (orderOf (cutG a v)) ∧ x ∈ sortL (orderOf a)) := fun x hx => by
    rw [mem_ret] at hx
    rw [sortL_mem, sortL_mem]
    exact ⟨hx.2, hx.1⟩
  clear na
  go_enter Try.func4, Try.ntmps4
  go_wp2_with fail
  obtain ⟨wu0, hu0⟩ : ∃ u0, w.alloc (.cells #[.slice ao a.objs.length aoc, .slice ar a.roots.length arc] 25) = u0 := ⟨_, rfl⟩
  rw [hu0]
  obtain ⟨hsz0, hw0, hcells⟩ := law_box _ _ 25 w wu0 hu0
  have Hcells := hide hcells
  clear hu0 hcells
  have hn0 : w.heap.size + 1 ≤ wu0.heap.size := by omega
  refine (good_c _ _ _ _ a w.heap.size _ (hao.below hw0) (har.below hw0) (by omega)).mono ?_
  rintro e wu1 ⟨he, hb1⟩
  have hk1 : Below (w.heap.size + 1) wu0 wu1 := hb1.mono hn0
  have hw1 : Below w.heap.size w wu1 := hw0.trans (hb1.mono (by omega))
  have hn1 : w.heap.size + 1 ≤ wu1.heap.size := by have := hb1.size; omega
  obtain ⟨x0, x1⟩ := unhide Hcells wu1 hk1
  rw [checkG_beq (unhide Ha)] at he
  subst he
  have dv0 : decide (v < 0) = false := by simp; omega
  have dv1 : decide (v ≥ (a.objs.length : Int)) = false := by simp; omega
  have dv1' : decide ((a.objs.length : Int) ≤ v) = false := by simp; omega
  go_wp2_with fail
  clear x0 x1
  refine (ret_ok _ _ _ _ a v w.heap.size _ (hao.below hw1) (har.below hw1) (by omega) (unhide Ha) v0 v1).mono ?_
  rintro e wu2 ⟨a2, c2, rfl, hI2, hb2⟩
  have hk2 : Below (w.heap.size + 1) wu0 wu2 := hk1.trans (hb2.mono hn1)
  have hw2 : Below w.heap.size w wu2 := hw1.trans (hb2.mono (by omega))
  have hn2 : w.heap.size + 1 ≤ wu2.heap.size := by have := hb2.size; omega
  generalize retL a v = l1 at *
  obtain ⟨x0, x1⟩ := unhide Hcells wu2 hk2
  go_wp2_with fail
  clear x0 x1
  refine (reach_ok _ _ _ _ a w.heap.size _ (hao.below hw2) (har.below hw2) (by omega) (unhide Ha)).mono ?_
  rintro e wu3 ⟨a3, c3, rfl, hI3, hb3⟩
  have hk3 : Below (w.heap.size + 1) wu0 wu3 := hk2.trans (hb3.mono hn2)
  have hw3 : Below w.heap.size w wu3 := hw2.trans (hb3.mono (by omega))
  have hn3 : w.heap.size + 1 ≤ wu3.heap.size := by have := hb3.size; omega
  have hI2 := (hI2.below hb3).mono (B' := wu3.heap.size) hb3.size
  generalize sortL (orderOf a) = l3 at *
  obtain ⟨x0, x1⟩ := unhide Hcells wu3 hk3
  go_wp2_with fail
  clear x0 x1
  refine (cut_c _ _ _ _ a v _ ((hao.below hw3).mono (by omega)) ((har.below hw3).mono (by omega)) hG).mono ?_
  rintro e wu4 ⟨o4, oc4, r4, rc4, rfl, hO4, hR4, hb4⟩
  have hw4 : Below w.heap.size w wu4 := hw3.trans (hb4.mono (by omega))
  have hI2 := (hI2.below hb4).mono (B' := wu4.heap.size) hb4.size
  have hI3 := (hI3.below hb4).mono (B' := wu4.heap.size) hb4.size
  go_wp2_with fail
  refine (reach_ok _ _ _ _ (cutG a v) wu4.heap.size _ hO4 hR4 (Nat.le_refl _) (unhide Hcc)).mono ?_
  rintro e wu5 ⟨a5, c5, rfl, hI5, hb5⟩
  have hw5 : Below w.heap.size w wu5 := hw4.trans (hb5.mono (by have := hw4.size; omega))
  have hI2 := (hI2.below hb5).mono (B' := wu5.heap.size) hb5.size
  have hI3 := (hI3.below hb5).mono (B' := wu5.heap.size) hb5.size
  generalize sortL (orderOf (cutG a v)) = l5 at *
  have b1 : l1.length ≤ 24 := by have := unhide Hlen; omega
  have b5 : l5.length ≤ 24 := by have := unhide Hlen; omega
  have dsum : (((l1.length : Int) + (l5.length : Int)) != (l3.length : Int)) = false := by have := unhide Hlen; simp; omega
  generalize cutG a v = ga at *
  go_wp2_with fail
  refine (rising_c a2 c2 l1 wu5.heap.size _ hI2 (Nat.le_refl _) (unhide Hri)).mono ?_
  rintro e wu6 ⟨rfl, hb6⟩
  have hw6 : Below w.heap.size w wu6 := hw5.trans (hb6.mono (by have := hw5.size; omega))
  have hI2 := (hI2.below hb6).mono (B' := wu6.heap.size) hb6.size
  have hI3 := (hI3.below hb6).mono (B' := wu6.heap.size) hb6.size
  have hI5 := (hI5.below hb6).mono (B' := wu6.heap.size) hb6.size
  go_wp2
  go_loop [82] (fun i => ∃ k : Nat, k ≤ l1.length ∧ i = .int .i64 k) (fun i => l1.length - (intOf i).toNat)
  case atStart => exact ⟨0, Nat.zero_le _, rfl⟩
  case round =>
    obtain ⟨k, hk, rfl⟩ := hrel
    by_cases hlt : k < l1.length
    · obtain ⟨b, off, rfl, hbB, hc⟩ := hI2.at hlt
      have Hx := hide (unhide Hel _ (List.getElem_mem hlt))
      generalize l1[k] = y at *
      go_wp2_with fail
      refine (has_c a5 c5 l5 y wu6.heap.size _ hI5).mono ?_
      rintro e w7 ⟨he, hw7⟩
      rw [decide_eq_false (unhide Hx).1] at he
      subst he
      have hw7 := hw7.symm
      subst hw7
      go_wp2_with fail
      refine (has_c a3 c3 l3 y wu6.heap.size _ hI3).mono ?_
      rintro e w7 ⟨he, hw7⟩
      rw [decide_eq_true (unhide Hx).2] at he
      subst he
      have hw7 := hw7.symm
      subst hw7
      go_wp2
      go_round
      case rel => exact ⟨k + 1, by omega, by go_num⟩
      case measure => simp [intOf]; omega
    · obtain rfl : k = l1.length := by omega
      go_wp2_with fail
      refine (has_c a3 c3 l3 v wu6.heap.size _ hI3).mono ?_
      rintro e w7 ⟨he, hw7⟩
      rw [unhide Hself] at he
      subst he
      have hw7 := hw7.symm
      subst hw7
      go_wp2_with fail
      refine (has_c a2 c2 l1 v wu6.heap.size _ hI2).mono ?_
      rintro e w7 ⟨rfl, hw7⟩
      have hw7 := hw7.symm
      subst hw7
      generalize decide (v ∈ l1) = bb at *
      have dbb : (bb == bb) = true := by cases bb <;> rfl
      go_wp2
      go_ret
      exact ⟨rfl, hw6⟩

theorem domCuts_c (ao ar : Option Addr) (aoc arc : Nat) (a : Gr) (v : Int) (w : World) (hao : Objs w.heap.size w ao a.objs) (har : Vals w.heap.size w ar a.roots) :
    Calls Try.prog 4 #[.agg #[.slice ao a.objs.length aoc, .slice ar a.roots.length arc], .int .i64 v] w fun e w' => e = .returned (.bool true) ∧ Below w.heap.size w w' := by
  by_cases na : checkG a = 0
  · by_cases hv : v < 0 ∨ (a.objs.length : Int) ≤ v
    · exact domCuts_arg ao ar aoc arc a v w hao har na hv
    · exact domCuts_ok ao ar aoc arc a v w hao har na (by omega) (by omega)
  · exact domCuts_bad ao ar aoc arc a v w hao har na

end Go.Proofs.Ythpmckfgngkbhaa
