/- Merged texts: Kp Kq. -/
import Derived.Test.YthpmckfgngkbhaaProg
import Derived.Test.YthpmckfgngkbhaaDomTellsD

/- Walks: the document's answer: Retained, Idom. -/
namespace Go.Proofs.Ythpmckfgngkbhaa
set_option linter.unusedSimpArgs false
set_option linter.unusedVariables false
open Go.RowKit Go.Shelf

theorem filt_yes {p : Int → Bool} {l : List Int} {k : Nat} (hk : k < l.length) (h : p l[k] = true) : (l.take (k + 1)).filter p = (l.take k).filter p ++ [l[k]] := by
  rw [List.take_succ_eq_append_getElem hk, List.filter_append]; simp [h]
theorem filt_no {p : Int → Bool} {l : List Int} {k : Nat} (hk : k < l.length) (h : p l[k] = false) : (l.take (k + 1)).filter p = (l.take k).filter p := by
  rw [List.take_succ_eq_append_getElem hk, List.filter_append]; simp [h]

set_option maxRecDepth 100000 in
set_option maxHeartbeats 2000000 in
theorem refRet_c (ao ar : Option Addr) (co cr : Nat) (g : Gr) (v : Int) (B : Nat) (w : World) (ho : Objs B w ao g.objs) (hr : Vals B w ar g.roots) (hB : B ≤ w.heap.size) (hG : Good g) :
    Calls Try.prog 12 #[.agg #[.slice ao g.objs.length co, .slice ar g.roots.length cr], .int .i64 v] w fun e w' => ∃ a cap, e = .returned (.slice a (retL g v).length cap) ∧ Ints w'.heap.size w' a (retL g v) ∧ Below w.heap.size w w' ∧ (∀ b off, a = some ⟨b, off, none⟩ → w.heap.size ≤ b) := by
  obtain ⟨i0, hi, hz0, hz1, hz2⟩ := info_parts Try.info3
  have hn24 := hG.n24
  have hb1 := (Below.refl w.heap.size w).alloc (Nat.le_refl _) (.cells #[.slice ao g.objs.length co, .slice ar g.roots.length cr] 25)
  go_enter Try.func12, Try.ntmps12
  go_wp2_with fail
  obtain ⟨wu0, hu0⟩ : ∃ u0, w.alloc (.cells #[.slice ao g.objs.length co, .slice ar g.roots.length cr] 25) = u0 := ⟨_, rfl⟩
  rw [hu0]
  obtain ⟨hsz0, hw0, hcells⟩ := law_box _ _ 25 w wu0 hu0
  have Hcells := hide hcells
  clear hu0 hcells hb1
  have hn0 : w.heap.size + 1 ≤ wu0.heap.size := by omega
  refine (without_c _ _ _ _ g v _ ((ho.below (hw0.mono hB)).mono (by omega)) ((hr.below (hw0.mono hB)).mono (by omega)) hG).mono ?_
  rintro e wu1 ⟨la, lc, rfl, hIl, hb1⟩
  have hk1 : Below (w.heap.size + 1) wu0 wu1 := hb1.mono hn0
  have hw1 : Below w.heap.size w wu1 := hw0.trans (hb1.mono (by omega))
  have hn1 : w.heap.size + 1 ≤ wu1.heap.size := by have := hb1.size; omega
  have Hleft := hide (fun x => w_reach hG v x)
  generalize reachK (wG g v) (wG g v).objs.length = LL at *
  obtain ⟨x0, x1⟩ := unhide Hcells wu1 hk1
  go_wp2_with fail
  clear x0 x1
  refine (refReach_c _ _ _ _ g w.heap.size _ ((ho.below (hw1.mono hB)).mono hB) ((hr.below (hw1.mono hB)).mono hB) (by omega) hG).mono ?_
  rintro e wu2 ⟨ra, rc, rfl, hIr, hb2⟩
  have hw2 : Below w.heap.size w wu2 := hw1.trans (hb2.mono (by omega))
  have hIl2 := (hIl.below hb2).mono (B' := wu2.heap.size) hb2.size
  have hl24 : (reachK g g.objs.length).length ≤ 24 := by have := reachK_len g g.objs.length; omega
  have Hret : Hid ((reachK g g.objs.length).filter (fun o => !decide (o ∈ LL)) = retL g v) := by
    show _ = _
    unfold retL
    rw [reach_same hG]
    refine List.filter_congr fun x _ => ?_
    rw [Bool.eq_iff_iff]
    simp [unhide Hleft x]
  generalize reachK g g.objs.length = L at *
  clear Hleft hIl
  go_wp2
  go_loopw [5, 15] (fun s i wr => ∃ k : Nat, k ≤ L.length ∧ i = .int .i64 k ∧ wr.ownsRow wu2.heap.size 3 1 s ((L.take k).filter (fun o => !decide (o ∈ LL))).length (intsV ((L.take k).filter (fun o => !decide (o ∈ LL)))) ∧ Below wu2.heap.size wu2 wr) (fun _ i _ => L.length - (intOf i).toNat)
  case atStart => exact ⟨0, Nat.zero_le _, rfl, World.ownsRow_nil _ _ _ _, Below.refl _ _⟩
  case round =>
    obtain ⟨k, hk, rfl, hown, hb⟩ := hrel
    have hsz := hb.size
    have hfl : ((L.take k).filter (fun o => !decide (o ∈ LL))).length ≤ 24 := by
      have := List.length_filter_le (fun o => !decide (o ∈ LL)) (L.take k)
      have : (L.take k).length ≤ L.length := by simp; omega
      omega
    by_cases hlt : k < L.length
    · obtain ⟨b, off, rfl, hbB, hcx⟩ := (hIr.below hb).at hlt
      have hIl3 := (hIl2.below hb).mono (B' := wr.heap.size) hsz
      have Hyes := hide (fun h => filt_yes (p := fun o => !decide (o ∈ LL)) hlt h)
      have Hno := hide (fun h => filt_no (p := fun o => !decide (o ∈ LL)) hlt h)
      generalize L[k] = x at *
      generalize (L.take k).filter (fun o => !decide (o ∈ LL)) = lk at *
      have hmx : lk.length + 1 ≤ maxLen := by simp only [maxLen]; omega
      have hmy : (lk.length + 1) * 8 ≤ 140737488355328 := by omega
      go_wp2_with fail
      refine (has_c la lc LL x wr.heap.size _ hIl3).mono ?_
      rintro e w4 ⟨he4, hw4⟩
      have hw4 := hw4.symm
      subst hw4
      by_cases hx : x ∈ LL
      · rw [decide_eq_true hx] at he4
        subst he4
        have HF := hide (unhide Hno (by simp [hx]))
        clear hx Hyes Hno
        go_wp2
        go_roundw
        case rel => exact ⟨k + 1, by omega, by go_num, by rw [unhide HF]; exact hown, hb⟩
        case measure => simp [intOf]; omega
      · rw [decide_eq_false hx] at he4
        subst he4
        have HF := hide (unhide Hyes (by simp [hx]))
        clear hx Hyes Hno
        go_wp2_with (at_builtin; go_must (refine wpList_append_own _ rfl _ _ 26 rfl wu2.heap.size 3 i0 _ 1 8 Try.underlying26 hi hz0 hz1 hz2 rfl (by decide) _ _ _ rfl (hown.alloc _) ⟨wr.heap.size, 0, none⟩ 1 1 [.int .i64 x] rfl rfl (cell_one_at _ _ _ _ (by simp)) (by simp [Value.oneCell']) hmx hmy (by simp; omega) ?_); intro v' w1 hown' hgrow _)
        go_roundw
        case rel => exact ⟨k + 1, by omega, by go_num, by rw [unhide HF, intsV_snoc, List.length_append]; exact hown', (hb.alloc hsz _).grown hgrow (by simp; omega) (fun q e => (hown.lt q e).1)⟩
        case measure => simp [intOf]; omega
    · obtain rfl : k = L.length := by omega
      rw [List.take_length, unhide Hret] at hown
      have hrl := ret_len hG v
      obtain ⟨a', cap', hv, hV, hfr⟩ := ints_of_owns hown rfl (by omega)
      have Hv := hide hv
      have Hfr := hide hfr
      clear hv hfr hfl
      go_wp2
      go_ret
      exact ⟨a', cap', congrArg Ending.returned (unhide Hv), hV, hw2.trans (hb.mono hw2.size), fun b off e => by have := unhide Hfr b off e; have := hw2.size; omega⟩

/-- The best of the first n objects that keep i. -/
def BestOk (g : Gr) (i : Int) (n : Nat) (d : Int) : Prop :=
  (d = -1 ∧ ∀ u : Nat, u < n → i ∈ retL g u → (u : Int) = i) ∨ ∃ b : Nat, d = (b : Int) ∧ b < n ∧ (b : Int) ≠ i ∧ i ∈ retL g b ∧ ∀ u : Nat, u < n → i ∈ retL g u → (u : Int) ≠ i → (b : Int) ∈ retL g u

theorem best_start (g : Gr) (i : Int) : BestOk g i 0 (-1) := .inl ⟨rfl, fun u h => by omega⟩

theorem best_skip {g : Gr} {i : Int} {n : Nat} {d : Int} (h : BestOk g i n d) (hn : (n : Int) = i ∨ i ∉ retL g n) : BestOk g i (n + 1) d := by
  rcases h with ⟨rfl, h⟩ | ⟨b, rfl, h1, h2, h3, h4⟩
  · refine .inl ⟨rfl, fun u hu hk => ?_⟩
    by_cases e : u = n
    · subst e; rcases hn with hn | hn
      · exact hn
      · exact absurd hk hn
    · exact h u (by omega) hk
  · refine .inr ⟨b, rfl, by omega, h2, h3, fun u hu hk hne => ?_⟩
    by_cases e : u = n
    · subst e; rcases hn with hn | hn
      · exact absurd hn hne
      · exact absurd hk hn
    · exact h4 u (by omega) hk hne

theorem best_first {g : Gr} (hG : Good g) {i : Int} {n : Nat} (h : BestOk g i n (-1)) (hn : (n : Int) ≠ i) (hk : i ∈ retL g n) : BestOk g i (n + 1) (n : Int) := by
  rcases h with ⟨_, h⟩ | ⟨b, e, _⟩
  · refine .inr ⟨n, rfl, by omega, hn, hk, fun u hu hku hne => ?_⟩
    by_cases e : u = n
    · subst e; exact (ret_self hG _).2 (ret_order hG hk)
    · exact absurd (h u (by omega) hku) hne
  · omega

theorem best_next {g : Gr} (hG : Good g) {i : Int} {n b : Nat} (h : BestOk g i n (b : Int)) (hn : (n : Int) ≠ i) (hk : i ∈ retL g n) (hb : (n : Int) ∈ retL g b) : BestOk g i (n + 1) (n : Int) := by
  rcases h with ⟨e, _⟩ | ⟨b', e, h1, h2, h3, h4⟩
  · omega
  · obtain rfl : b = b' := by omega
    refine .inr ⟨n, rfl, by omega, hn, hk, fun u hu hku hne => ?_⟩
    by_cases e : u = n
    · subst e; exact (ret_self hG _).2 (ret_order hG hk)
    · exact ret_trans hG (h4 u (by omega) hku hne) hb

theorem best_stay {g : Gr} (hG : Good g) {i : Int} {n b : Nat} (h : BestOk g i n (b : Int)) (hn : (n : Int) ≠ i) (hk : i ∈ retL g n) (hb : (n : Int) ∉ retL g b) : BestOk g i (n + 1) (b : Int) := by
  rcases h with ⟨e, _⟩ | ⟨b', e, h1, h2, h3, h4⟩
  · omega
  · obtain rfl : b = b' := by omega
    refine .inr ⟨b, rfl, by omega, h2, h3, fun u hu hku hne => ?_⟩
    by_cases e : u = n
    · subst e
      rcases ret_lin hG hk h3 with e | e
      · exact absurd e hb
      · exact e
    · exact h4 u (by omega) hku hne

theorem best_lt {g : Gr} {i : Int} {n : Nat} {d : Int} (h : BestOk g i n d) (hd : d ≠ -1) : ∃ b : Nat, d = (b : Int) ∧ b < n := by
  rcases h with ⟨e, _⟩ | ⟨b, e, h1, _⟩
  · exact absurd e hd
  · exact ⟨b, e, h1⟩

theorem best_near {g : Gr} (hG : Good g) {i : Int} {d : Int} (ho : i ∈ orderOf g) (h : BestOk g i g.objs.length d) : Near g i d := by
  have hin : ∀ v, i ∈ retL g v → ∃ u : Nat, v = (u : Int) ∧ u < g.objs.length := fun v hv => by
    have := ret_nonneg hG hv
    exact ⟨v.toNat, by omega, by omega⟩
  refine .inr ⟨ho, ?_⟩
  rcases h with ⟨rfl, h⟩ | ⟨b, rfl, h1, h2, h3, h4⟩
  · refine .inl ⟨rfl, fun v hv => ?_⟩
    obtain ⟨u, rfl, hu⟩ := hin v hv
    exact h u hu hv
  · refine .inr ⟨h2, h3, fun v hv hne => ?_⟩
    obtain ⟨u, rfl, hu⟩ := hin v hv
    exact h4 u hu hv hne

set_option maxRecDepth 100000 in
set_option maxHeartbeats 8000000 in
theorem refIdom_c (ao ar : Option Addr) (co cr : Nat) (g : Gr) (B : Nat) (w : World) (ho : Objs B w ao g.objs) (hr : Vals B w ar g.roots) (hB : B ≤ w.heap.size) (hG : Good g) :
    Calls Try.prog 11 #[.agg #[.slice ao g.objs.length co, .slice ar g.roots.length cr]] w fun e w' => ∃ a cap O, e = .returned (.slice a O.length cap) ∧ O.length = g.objs.length ∧ Ints w'.heap.size w' a O ∧ (∀ i : Nat, i < g.objs.length → ∃ d, O[i]? = some d ∧ Near g i d) ∧ Below w.heap.size w w' := by
  obtain ⟨i26, hi26, hy0, hy1, hy2⟩ := info_parts Try.info26
  obtain ⟨i3, hi3, hz0, hz1, hz2⟩ := info_parts Try.info3
  have hn24 := hG.n24
  have ho1 := ho.1
  go_enter Try.func11, Try.ntmps11
  go_wp2
  obtain ⟨wu0, hu0⟩ : ∃ u0, w.alloc (.cells #[.slice ao g.objs.length co, .slice ar g.roots.length cr] 25) = u0 := ⟨_, rfl⟩
  rw [hu0]
  obtain ⟨hsz0, hw0, hcells⟩ := law_box _ _ 25 w wu0 hu0
  have Hcells := hide hcells
  clear hu0 hcells
  have hn0 : w.heap.size + 1 ≤ wu0.heap.size := by omega
  go_loopw [4, 5] (fun s i wr => ∃ (k : Nat) (es : List Value), k ≤ g.objs.length ∧ i = .int .i64 k ∧ IRow wr wu0.heap.size s (keptK g k) es ∧ Below wu0.heap.size wu0 wr) (fun _ i _ => g.objs.length - (intOf i).toNat)
  case atStart => exact ⟨0, [], Nat.zero_le _, rfl, irow_nil _ _, Below.refl _ _⟩
  case round =>
    obtain ⟨k, es, hk, rfl, hrow, hb⟩ := hrel
    have hsz := hb.size
    have hkr : Below (w.heap.size + 1) wu0 wr := hb.mono hn0
    have hwr : Below w.heap.size w wr := hw0.trans (hb.mono (by omega))
    obtain ⟨x0, x1⟩ := unhide Hcells wr hkr
    by_cases hlt : k < g.objs.length
    · have hltI : (k : Int) < (g.objs.length : Int) := by omega
      go_wp2_with fail
      clear x0 x1
      refine (refRet_c _ _ _ _ g (k : Int) B _ (ho.below (hwr.mono hB)) (hr.below (hwr.mono hB)) (by have := hwr.size; omega) hG).mono ?_
      rintro e wu4 ⟨a4, c4, rfl, hI4, hb4, hfr4⟩
      have hrow4 := hrow.below hb4
      have hs4 := hb4.size
      have hlk := hrow4.row
      rw [keptK_len] at hlk
      have HKs := hide (keptK_succ g k)
      have Hfr := hide hfr4
      clear hfr4
      generalize retL g (k : Int) = l4 at *
      have hmx : k + 1 ≤ maxLen := by simp only [maxLen]; omega
      have hmy : (k + 1) * 24 ≤ 140737488355328 := by omega
      go_wp2_with (at_builtin; go_must (refine wpList_append_own_at _ rfl _ _ 40 rfl wu0.heap.size 26 i26 _ 1 24 Try.underlying40 hi26 hy0 hy1 hy2 rfl (by decide) _ _ _ rfl (hlk.alloc _) ⟨wu4.heap.size, 0, none⟩ 1 1 [.slice a4 l4.length c4] rfl rfl (cell_one_at _ _ _ _ rfl) (by simp [Value.oneCell']) hmx hmy (by simp; omega) ?_); go_must (intro v' w1 hown' hgrow _ hat))
      go_roundw
      case rel =>
        have hal : Below wu4.heap.size wu4 (wu4.alloc (.cells #[.slice a4 l4.length c4] 26)) := (Below.refl _ _).alloc (Nat.le_refl _) _
        have hsn := (hrow4.below hal).snoc (ai := a4) (ci := c4) (l := l4) ((hI4.below hal).mono hal.size) (fun b off e hv => by
          have h1 := (hrow.row.lt b hv).2
          have h2 := unhide Hfr b off e
          omega) (by rw [keptK_len]; exact hown') hgrow hat
        refine ⟨k + 1, _, by omega, by go_num, by rw [unhide HKs]; exact hsn, ?_⟩
        exact ((hb.trans (hb4.mono hsz)).alloc (by omega) _).grown hgrow (by simp; omega) (fun q e => (hrow.row.lt q e).1)
      case measure => simp [intOf]; omega
    · obtain rfl : k = g.objs.length := by omega
      obtain ⟨ka, kc, hv, hT⟩ := hrow.tab (by rw [keptK_len]; omega)
      rw [keptK_len] at hv
      subst hv
      go_wp2_with fail
      clear x0 x1 hrow
      refine (refReach_c _ _ _ _ g B _ (ho.below (hwr.mono hB)) (hr.below (hwr.mono hB)) (by have := hwr.size; omega) hG).mono ?_
      rintro e w3 ⟨ra, rc, rfl, hIr, hb3⟩
      have hs3 := hb3.size
      have hw3 : Below w.heap.size w w3 := hwr.trans (hb3.mono hwr.size)
      have hT3 := (hT.below hb3).mono (B' := w3.heap.size) hs3
      have Hreach : Hid (∀ x, x ∈ reachK g g.objs.length ↔ x ∈ orderOf g) := fun x => by rw [← reach_same hG, sortL_mem]
      generalize reachK g g.objs.length = RL at *
      clear hT hb hkr hsz
      go_wp2
      go_loopw [7, 8] (fun s j wx => ∃ (i : Nat) (O : List Int), i ≤ g.objs.length ∧ j = .int .i64 i ∧ Hid (O.length = i) ∧ wx.ownsRow w3.heap.size 3 1 s O.length (intsV O) ∧ Hid (∀ j : Nat, j < i → ∃ d, O[j]? = some d ∧ Near g j d) ∧ Below w3.heap.size w3 wx) (fun _ j _ => g.objs.length - (intOf j).toNat)
      case atStart => exact ⟨0, [], Nat.zero_le _, rfl, hide rfl, World.ownsRow_nil _ _ _ _, hide (fun j hj => by omega), Below.refl _ _⟩
      case round =>
        obtain ⟨i, O, hi, rfl, HOl, hownO, HO, hbo⟩ := hrel
        obtain ⟨wo, hwo⟩ : ∃ wo, wo = wr := ⟨_, rfl⟩
        subst hwo
        have hso := hbo.size
        have hTo := (hT3.below hbo).mono (B' := wo.heap.size) hso
        have hIro := (hIr.below hbo).mono (B' := wo.heap.size) hso
        have hOl : O.length ≤ 24 := by rw [unhide HOl]; omega
        by_cases hlti : i < g.objs.length
        · have hltiI : (i : Int) < (g.objs.length : Int) := by omega
          go_wp2_with fail
          refine (has_c ra rc RL (i : Int) wo.heap.size _ hIro).mono ?_
          rintro e w7 ⟨he7, hw7⟩
          have hw7 := hw7.symm
          subst hw7
          by_cases hio : (i : Int) ∈ RL
          · rw [decide_eq_true hio] at he7
            subst he7
            have Hord := hide ((unhide Hreach i).1 hio)
            clear hio
            go_wp2
            go_loop [9, 10] (fun s j => ∃ (q : Nat) (dd : Int), q ≤ g.objs.length ∧ s = .int .i64 dd ∧ j = .int .i64 q ∧ Hid (BestOk g i q dd)) (fun _ j => g.objs.length - (intOf j).toNat)
            case atStart => exact ⟨0, -1, Nat.zero_le _, rfl, rfl, hide (best_start g i)⟩
            case round =>
              obtain ⟨q, dd, hq, rfl, rfl, HB⟩ := hrel
              by_cases hltq : q < g.objs.length
              · have hqI : (q : Int) < (g.objs.length : Int) := by omega
                by_cases hqi : q = i
                · subst hqi
                  have d1 : ((q : Int) != (q : Int)) = false := by simp
                  have HB2 := hide (best_skip (unhide HB) (.inl rfl))
                  go_wp2
                  go_round
                  case rel => exact ⟨q + 1, _, by omega, rfl, by go_num, HB2⟩
                  case measure => simp [intOf]; omega
                · have d1 : ((q : Int) != (i : Int)) = true := by simp; omega
                  have hqi' : ¬ (q : Int) = (i : Int) := by omega
                  have hqK : q < (keptK g g.objs.length).length := by rw [keptK_len]; exact hltq
                  obtain ⟨bt, ot, ai, ci, eta, hbt, hct, hIt⟩ := hTo.at hqK
                  subst eta
                  rw [keptK_get hltq] at hct hIt
                  clear hqK
                  obtain ⟨lq, hlq⟩ : ∃ lq, retL g (q : Int) = lq := ⟨_, rfl⟩
                  rw [hlq] at hct hIt
                  have Hlq := hide hlq
                  clear hlq
                  go_wp2_with fail
                  refine (has_c ai ci lq (i : Int) wo.heap.size _ hIt).mono ?_
                  rintro e w7 ⟨he7, hw7⟩
                  have hw7 := hw7.symm
                  subst hw7
                  by_cases hin : (i : Int) ∈ lq
                  · rw [decide_eq_true hin] at he7
                    subst he7
                    have Hin : Hid ((i : Int) ∈ retL g (q : Int)) := by show _ ∈ _; rw [unhide Hlq]; exact hin
                    have Hne := hide hqi'
                    clear hin
                    by_cases hd1 : dd = -1
                    · subst hd1
                      have HB2 := hide (best_first hG (unhide HB) (unhide Hne) (unhide Hin))
                      go_wp2
                      go_round
                      case rel => exact ⟨q + 1, _, by omega, rfl, by go_num, HB2⟩
                      case measure => simp [intOf]; omega
                    · obtain ⟨bq, rfl, hbq⟩ := best_lt (unhide HB) hd1
                      have d2 : decide ((bq : Int) < 0) = false := by simp
                      clear hd1
                      have hbN : bq < g.objs.length := by omega
                      have hbI : (bq : Int) < (g.objs.length : Int) := by omega
                      have hbK : bq < (keptK g g.objs.length).length := by rw [keptK_len]; exact hbN
                      obtain ⟨bt2, ot2, ai2, ci2, eta2, hbt2, hct2, hIt2⟩ := hTo.at hbK
                      injection eta2 with eta2
                      injection eta2 with e21 e22
                      subst e21 e22
                      rw [keptK_get hbN] at hct2 hIt2
                      clear hbK
                      obtain ⟨lb, hlb⟩ : ∃ lb, retL g (bq : Int) = lb := ⟨_, rfl⟩
                      rw [hlb] at hct2 hIt2
                      have Hlb := hide hlb
                      clear hlb
                      go_wp2_with fail
                      refine (has_c ai2 ci2 lb (q : Int) wo.heap.size _ hIt2).mono ?_
                      rintro e w7 ⟨he8, hw7⟩
                      have hw7 := hw7.symm
                      subst hw7
                      by_cases hin2 : (q : Int) ∈ lb
                      · rw [decide_eq_true hin2] at he8
                        subst he8
                        have HB2 := hide (best_next hG (unhide HB) (unhide Hne) (unhide Hin) (by rw [unhide Hlb]; exact hin2))
                        clear hin2
                        go_wp2
                        go_round
                        case rel => exact ⟨q + 1, _, by omega, rfl, by go_num, HB2⟩
                        case measure => simp [intOf]; omega
                      · rw [decide_eq_false hin2] at he8
                        subst he8
                        have HB2 := hide (best_stay hG (unhide HB) (unhide Hne) (unhide Hin) (by rw [unhide Hlb]; exact hin2))
                        clear hin2
                        go_wp2
                        go_round
                        case rel => exact ⟨q + 1, _, by omega, rfl, by go_num, HB2⟩
                        case measure => simp [intOf]; omega
                  · rw [decide_eq_false hin] at he7
                    subst he7
                    have HB2 := hide (best_skip (unhide HB) (.inr (by rw [unhide Hlq]; exact hin)))
                    clear hin
                    go_wp2
                    go_round
                    case rel => exact ⟨q + 1, _, by omega, rfl, by go_num, HB2⟩
                    case measure => simp [intOf]; omega
              · obtain rfl : q = g.objs.length := by omega
                have HN := hide (best_near hG (unhide Hord) (unhide HB))
                clear HB
                have hmx : O.length + 1 ≤ maxLen := by simp only [maxLen]; omega
                have hmy : (O.length + 1) * 8 ≤ 140737488355328 := by omega
                go_wp2_with (at_builtin; go_must (refine wpList_append_own _ rfl _ _ 26 rfl w3.heap.size 3 i3 _ 1 8 Try.underlying26 hi3 hz0 hz1 hz2 rfl (by decide) _ _ _ rfl (hownO.alloc _) ⟨wo.heap.size, 0, none⟩ 1 1 [.int .i64 (dd)] rfl rfl (cell_one_at _ _ _ _ (by simp)) (by simp [Value.oneCell']) hmx hmy (by simp; omega) ?_); intro v' w1 hown' hgrow _)
                go_roundw
                case rel => exact ⟨i + 1, O ++ [dd], by omega, by go_num, hide (by simp [unhide HOl]), by rw [intsV_snoc, List.length_append]; exact hown', hide (fun j hj => by
                    by_cases e : j = i
                    · subst e; exact ⟨dd, by rw [List.getElem?_append_right (by rw [unhide HOl]; omega)]; simp [unhide HOl], unhide HN⟩
                    · obtain ⟨d, h1, h2⟩ := unhide HO j (by omega)
                      exact ⟨d, by rw [List.getElem?_append_left (by rw [unhide HOl]; omega)]; exact h1, h2⟩), (hbo.alloc hso _).grown hgrow (by simp; omega) (fun q e => (hownO.lt q e).1)⟩
                case measure => simp [intOf]; omega
          · rw [decide_eq_false hio] at he7
            subst he7
            have HN : Hid (Near g i (-2)) := .inl ⟨fun e => hio ((unhide Hreach i).2 e), rfl⟩
            clear hio
            have hmx : O.length + 1 ≤ maxLen := by simp only [maxLen]; omega
            have hmy : (O.length + 1) * 8 ≤ 140737488355328 := by omega
            go_wp2_with (at_builtin; go_must (refine wpList_append_own _ rfl _ _ 26 rfl w3.heap.size 3 i3 _ 1 8 Try.underlying26 hi3 hz0 hz1 hz2 rfl (by decide) _ _ _ rfl (hownO.alloc _) ⟨wo.heap.size, 0, none⟩ 1 1 [.int .i64 (-2)] rfl rfl (cell_one_at _ _ _ _ (by simp)) (by simp [Value.oneCell']) hmx hmy (by simp; omega) ?_); intro v' w1 hown' hgrow _)
            go_roundw
            case rel => exact ⟨i + 1, O ++ [-2], by omega, by go_num, hide (by simp [unhide HOl]), by rw [intsV_snoc, List.length_append]; exact hown', hide (fun j hj => by
                by_cases e : j = i
                · subst e; exact ⟨-2, by rw [List.getElem?_append_right (by rw [unhide HOl]; omega)]; simp [unhide HOl], unhide HN⟩
                · obtain ⟨d, h1, h2⟩ := unhide HO j (by omega)
                  exact ⟨d, by rw [List.getElem?_append_left (by rw [unhide HOl]; omega)]; exact h1, h2⟩), (hbo.alloc hso _).grown hgrow (by simp; omega) (fun q e => (hownO.lt q e).1)⟩
            case measure => simp [intOf]; omega
        · obtain rfl : i = g.objs.length := by omega
          obtain ⟨oa, oc, hvo, hIo, hr9⟩ := ints_of_owns hownO rfl (by omega)
          subst hvo
          clear hr9
          go_wp2
          go_ret
          exact ⟨oa, oc, O, rfl, unhide HOl, hIo, unhide HO, hw3.trans (hbo.mono hw3.size)⟩

end Go.Proofs.Ythpmckfgngkbhaa

/- Walks: DomTells. -/
namespace Go.Proofs.Ythpmckfgngkbhaa
set_option linter.unusedSimpArgs false
set_option linter.unusedVariables false
open Go.RowKit Go.Shelf

theorem near_lists {g : Gr} (h : Good g) {D O : List Int} (h1 : D.length = g.objs.length) (h2 : O.length = g.objs.length) (h3 : ∀ i : Nat, i < g.objs.length → ∃ d, D[i]? = some d ∧ Near g i d) (h4 : ∀ i : Nat, i < g.objs.length → ∃ d, O[i]? = some d ∧ Near g i d) : D = O := by
  refine List.ext_getElem (by rw [h1, h2]) fun i hi hi2 => ?_
  obtain ⟨d, e, n⟩ := h3 i (by omega)
  obtain ⟨d', e', n'⟩ := h4 i (by omega)
  rw [List.getElem?_eq_getElem hi] at e
  rw [List.getElem?_eq_getElem hi2] at e'
  injection e with e
  injection e' with e'
  rw [e, e']
  exact near_one h n n'

set_option maxRecDepth 100000 in
set_option maxHeartbeats 2000000 in
theorem domTells_bad (ao ar : Option Addr) (aoc arc : Nat) (a : Gr) (v : Int) (w : World) (hao : Objs w.heap.size w ao a.objs) (har : Vals w.heap.size w ar a.roots) (na : checkG a ≠ 0) :
    Calls Try.prog 3 #[.agg #[.slice ao a.objs.length aoc, .slice ar a.roots.length arc], .int .i64 v] w fun e w' => e = .returned (.bool true) ∧ Below w.heap.size w w' := by
  have Ha := hide na
  have d1 : (checkG a != 0) = true := by simpa using na
  have d2 : (checkG a == checkG a) = true := by simp
  clear na
  go_enter Try.func3, Try.ntmps3
  go_wp2_with fail
  obtain ⟨wu0, hu0⟩ : ∃ u0, w.alloc (.cells #[.slice ao a.objs.length aoc, .slice ar a.roots.length arc] 25) = u0 := ⟨_, rfl⟩
  rw [hu0]
  obtain ⟨hsz0, hw0, hcells⟩ := law_box _ _ 25 w wu0 hu0
  have Hcells := hide hcells
  clear hu0 hcells
  have hn0 : w.heap.size + 1 ≤ wu0.heap.size := by omega
  refine (ret_bad _ _ _ _ a v w.heap.size _ (hao.below hw0) (har.below hw0) (by omega) (unhide Ha)).mono ?_
  rintro e wu1 ⟨rfl, hb1⟩
  have hk1 : Below (w.heap.size + 1) wu0 wu1 := hb1.mono hn0
  have hw1 : Below w.heap.size w wu1 := hw0.trans (hb1.mono (by omega))
  have hn1 : w.heap.size + 1 ≤ wu1.heap.size := by have := hb1.size; omega
  obtain ⟨x0, x1⟩ := unhide Hcells wu1 hk1
  go_wp2_with fail
  clear x0 x1
  refine (idom_bad _ _ _ _ a w.heap.size _ (hao.below hw1) (har.below hw1) (by omega) (unhide Ha)).mono ?_
  rintro e wu2 ⟨rfl, hb2⟩
  have hk2 : Below (w.heap.size + 1) wu0 wu2 := hk1.trans (hb2.mono hn1)
  have hw2 : Below w.heap.size w wu2 := hw1.trans (hb2.mono (by omega))
  have hn2 : w.heap.size + 1 ≤ wu2.heap.size := by have := hb2.size; omega
  obtain ⟨x0, x1⟩ := unhide Hcells wu2 hk2
  go_wp2_with fail
  clear x0 x1
  refine (graphCheck_c _ _ _ _ a w.heap.size _ (hao.below hw2) (har.below hw2) (by omega)).mono ?_
  rintro e wu3 ⟨he, hb3⟩
  have hk3 : Below (w.heap.size + 1) wu0 wu3 := hk2.trans (hb3.mono hn2)
  have hw3 : Below w.heap.size w wu3 := hw2.trans (hb3.mono (by omega))
  have hn3 : w.heap.size + 1 ≤ wu3.heap.size := by have := hb3.size; omega
  subst he
  generalize checkG a = c at *
  go_wp2
  go_ret
  exact ⟨rfl, hw3⟩

set_option maxRecDepth 100000 in
set_option maxHeartbeats 4000000 in
theorem domTells_arg (ao ar : Option Addr) (aoc arc : Nat) (a : Gr) (v : Int) (w : World) (hao : Objs w.heap.size w ao a.objs) (har : Vals w.heap.size w ar a.roots) (na : checkG a = 0) (hv : v < 0 ∨ (a.objs.length : Int) ≤ v) :
    Calls Try.prog 3 #[.agg #[.slice ao a.objs.length aoc, .slice ar a.roots.length arc], .int .i64 v] w fun e w' => e = .returned (.bool true) ∧ Below w.heap.size w w' := by
  have Ha := hide na
  have hG := good_of_check na
  have hao1 := hao.1
  have Hv := hide hv
  clear na hv
  go_enter Try.func3, Try.ntmps3
  go_wp2_with fail
  obtain ⟨wu0, hu0⟩ : ∃ u0, w.alloc (.cells #[.slice ao a.objs.length aoc, .slice ar a.roots.length arc] 25) = u0 := ⟨_, rfl⟩
  rw [hu0]
  obtain ⟨hsz0, hw0, hcells⟩ := law_box _ _ 25 w wu0 hu0
  have Hcells := hide hcells
  clear hu0 hcells
  have hn0 : w.heap.size + 1 ≤ wu0.heap.size := by omega
  refine (ret_arg _ _ _ _ a v w.heap.size _ (hao.below hw0) (har.below hw0) (by omega) (unhide Ha) (unhide Hv)).mono ?_
  rintro e wu1 ⟨rfl, hb1⟩
  have hk1 : Below (w.heap.size + 1) wu0 wu1 := hb1.mono hn0
  have hw1 : Below w.heap.size w wu1 := hw0.trans (hb1.mono (by omega))
  have hn1 : w.heap.size + 1 ≤ wu1.heap.size := by have := hb1.size; omega
  obtain ⟨x0, x1⟩ := unhide Hcells wu1 hk1
  go_wp2_with fail
  clear x0 x1
  refine (idom_ok _ _ _ _ a w.heap.size _ (hao.below hw1) (har.below hw1) (by omega) (unhide Ha)).mono ?_
  rintro e wu2 ⟨da, dc, D, rfl, HDl, hID, Hnear, hb2⟩
  have hk2 : Below (w.heap.size + 1) wu0 wu2 := hk1.trans (hb2.mono hn1)
  have hw2 : Below w.heap.size w wu2 := hw1.trans (hb2.mono (by omega))
  have hn2 : w.heap.size + 1 ≤ wu2.heap.size := by have := hb2.size; omega
  obtain ⟨x0, x1⟩ := unhide Hcells wu2 hk2
  go_wp2_with fail
  clear x0 x1
  refine (graphCheck_c _ _ _ _ a w.heap.size _ (hao.below hw2) (har.below hw2) (by omega)).mono ?_
  rintro e wu3 ⟨he, hb3⟩
  have hk3 : Below (w.heap.size + 1) wu0 wu3 := hk2.trans (hb3.mono hn2)
  have hw3 : Below w.heap.size w wu3 := hw2.trans (hb3.mono (by omega))
  have hn3 : w.heap.size + 1 ≤ wu3.heap.size := by have := hb3.size; omega
  rw [unhide Ha] at he
  subst he
  have hID := (hID.below hb3).mono (B' := wu3.heap.size) hb3.size
  obtain ⟨x0, x1⟩ := unhide Hcells wu3 hk3
  go_wp2_with fail
  clear x0 x1
  refine (refIdom_c _ _ _ _ a w.heap.size _ (hao.below hw3) (har.below hw3) (by omega) hG).mono ?_
  rintro e wu4 ⟨oa, oc, O, rfl, hOl, hIO, hON, hb4⟩
  have hk4 : Below (w.heap.size + 1) wu0 wu4 := hk3.trans (hb4.mono hn3)
  have hw4 : Below w.heap.size w wu4 := hw3.trans (hb4.mono (by omega))
  have hn4 : w.heap.size + 1 ≤ wu4.heap.size := by have := hb4.size; omega
  have hID := (hID.below hb4).mono (B' := wu4.heap.size) hb4.size
  have Heq := hide (near_lists hG (unhide HDl) hOl (unhide Hnear) hON)
  have HDO := hide (ints_eq_c da oa dc oc D O wu4.heap.size wu4 hID hIO (Nat.le_refl _))
  rw [unhide HDl] at HDO
  have HOl := hide hOl
  clear hOl hON Hnear
  go_wp2_with fail
  refine (unhide HDO).mono ?_
  rintro e wu5 ⟨he5, hb5⟩
  rw [decide_eq_true (unhide Heq)] at he5
  subst he5
  have hk5 : Below (w.heap.size + 1) wu0 wu5 := hk4.trans (hb5.mono hn4)
  have hw5 : Below w.heap.size w wu5 := hw4.trans (hb5.mono (by omega))
  have hn5 : w.heap.size + 1 ≤ wu5.heap.size := by have := hb5.size; omega
  obtain ⟨x0, x1⟩ := unhide Hcells wu5 hk5
  clear HDO Heq HDl HOl
  by_cases v0 : v < 0
  · have dv0 : decide (v < 0) = true := by simpa using v0
    go_wp2
    go_ret
    exact ⟨rfl, hw5⟩
  · have dv0 : decide (v < 0) = false := by simpa using v0
    have v1 : (a.objs.length : Int) ≤ v := by have := unhide Hv; omega
    have dv1 : decide (v ≥ (a.objs.length : Int)) = true := by simpa using v1
    have dv1' : decide ((a.objs.length : Int) ≤ v) = true := by simpa using v1
    go_wp2
    go_ret
    exact ⟨rfl, hw5⟩

set_option maxRecDepth 100000 in
set_option maxHeartbeats 4000000 in
theorem domTells_ok (ao ar : Option Addr) (aoc arc : Nat) (a : Gr) (v : Int) (w : World) (hao : Objs w.heap.size w ao a.objs) (har : Vals w.heap.size w ar a.roots) (na : checkG a = 0) (v0 : 0 ≤ v) (v1 : v < a.objs.length) :
    Calls Try.prog 3 #[.agg #[.slice ao a.objs.length aoc, .slice ar a.roots.length arc], .int .i64 v] w fun e w' => e = .returned (.bool true) ∧ Below w.heap.size w w' := by
  have Ha := hide na
  have hG := good_of_check na
  have hao1 := hao.1
  clear na
  go_enter Try.func3, Try.ntmps3
  go_wp2_with fail
  obtain ⟨wu0, hu0⟩ : ∃ u0, w.alloc (.cells #[.slice ao a.objs.length aoc, .slice ar a.roots.length arc] 25) = u0 := ⟨_, rfl⟩
  rw [hu0]
  obtain ⟨hsz0, hw0, hcells⟩ := law_box _ _ 25 w wu0 hu0
  have Hcells := hide hcells
  clear hu0 hcells
  have hn0 : w.heap.size + 1 ≤ wu0.heap.size := by omega
  refine (ret_ok _ _ _ _ a v w.heap.size _ (hao.below hw0) (har.below hw0) (by omega) (unhide Ha) v0 v1).mono ?_
  rintro e wu1 ⟨la, lc, rfl, hIl, hb1⟩
  have hk1 : Below (w.heap.size + 1) wu0 wu1 := hb1.mono hn0
  have hw1 : Below w.heap.size w wu1 := hw0.trans (hb1.mono (by omega))
  have hn1 : w.heap.size + 1 ≤ wu1.heap.size := by have := hb1.size; omega
  obtain ⟨x0, x1⟩ := unhide Hcells wu1 hk1
  go_wp2_with fail
  clear x0 x1
  refine (idom_ok _ _ _ _ a w.heap.size _ (hao.below hw1) (har.below hw1) (by omega) (unhide Ha)).mono ?_
  rintro e wu2 ⟨da, dc, D, rfl, HDl, hID, Hnear, hb2⟩
  have hk2 : Below (w.heap.size + 1) wu0 wu2 := hk1.trans (hb2.mono hn1)
  have hw2 : Below w.heap.size w wu2 := hw1.trans (hb2.mono (by omega))
  have hn2 : w.heap.size + 1 ≤ wu2.heap.size := by have := hb2.size; omega
  obtain ⟨x0, x1⟩ := unhide Hcells wu2 hk2
  go_wp2_with fail
  clear x0 x1
  refine (graphCheck_c _ _ _ _ a w.heap.size _ (hao.below hw2) (har.below hw2) (by omega)).mono ?_
  rintro e wu3 ⟨he, hb3⟩
  have hk3 : Below (w.heap.size + 1) wu0 wu3 := hk2.trans (hb3.mono hn2)
  have hw3 : Below w.heap.size w wu3 := hw2.trans (hb3.mono (by omega))
  have hn3 : w.heap.size + 1 ≤ wu3.heap.size := by have := hb3.size; omega
  have hIl := (hIl.below hb2).mono (B' := wu2.heap.size) hb2.size
  have hIl := (hIl.below hb3).mono (B' := wu3.heap.size) hb3.size
  obtain ⟨LL, hLL⟩ : ∃ LL, retL a v = LL := ⟨_, rfl⟩
  rw [hLL] at hIl ⊢
  have HLL := hide hLL
  clear hLL
  rw [unhide Ha] at he
  subst he
  have hID := (hID.below hb3).mono (B' := wu3.heap.size) hb3.size
  obtain ⟨x0, x1⟩ := unhide Hcells wu3 hk3
  go_wp2_with fail
  clear x0 x1
  refine (refIdom_c _ _ _ _ a w.heap.size _ (hao.below hw3) (har.below hw3) (by omega) hG).mono ?_
  rintro e wu4 ⟨oa, oc, O, rfl, hOl, hIO, hON, hb4⟩
  have hk4 : Below (w.heap.size + 1) wu0 wu4 := hk3.trans (hb4.mono hn3)
  have hw4 : Below w.heap.size w wu4 := hw3.trans (hb4.mono (by omega))
  have hn4 : w.heap.size + 1 ≤ wu4.heap.size := by have := hb4.size; omega
  have hID := (hID.below hb4).mono (B' := wu4.heap.size) hb4.size
  have Heq := hide (near_lists hG (unhide HDl) hOl (unhide Hnear) hON)
  have HDO := hide (ints_eq_c da oa dc oc D O wu4.heap.size wu4 hID hIO (Nat.le_refl _))
  rw [unhide HDl] at HDO
  have HOl := hide hOl
  clear hOl hON Hnear
  go_wp2_with fail
  refine (unhide HDO).mono ?_
  rintro e wu5 ⟨he5, hb5⟩
  rw [decide_eq_true (unhide Heq)] at he5
  subst he5
  have hk5 : Below (w.heap.size + 1) wu0 wu5 := hk4.trans (hb5.mono hn4)
  have hw5 : Below w.heap.size w wu5 := hw4.trans (hb5.mono (by omega))
  have hn5 : w.heap.size + 1 ≤ wu5.heap.size := by have := hb5.size; omega
  obtain ⟨x0, x1⟩ := unhide Hcells wu5 hk5
  clear HDO Heq HDl HOl
  have hIl := (hIl.below hb4).mono (B' := wu4.heap.size) hb4.size
  have hIl := (hIl.below hb5).mono (B' := wu5.heap.size) hb5.size
  have dv0 : decide (v < 0) = false := by simp; omega
  have dv1 : decide (v ≥ (a.objs.length : Int)) = false := by simp; omega
  have dv1' : decide ((a.objs.length : Int) ≤ v) = false := by simp; omega
  go_wp2_with fail
  clear x0 x1
  refine (refRet_c _ _ _ _ a v w.heap.size _ (hao.below hw5) (har.below hw5) (by omega) hG).mono ?_
  rintro e wu6 ⟨ma, mc, rfl, hIm, hb6, hfr6⟩
  clear hfr6
  have hIl := (hIl.below hb6).mono (B' := wu6.heap.size) hb6.size
  rw [unhide HLL] at hIm ⊢
  have hw6 : Below w.heap.size w wu6 := hw5.trans (hb6.mono (by omega))
  go_wp2_with fail
  refine (ints_eq_c la ma lc mc LL LL wu6.heap.size wu6 hIl hIm (Nat.le_refl _)).mono ?_
  rintro e wu7 ⟨he7, hb7⟩
  rw [decide_eq_true rfl] at he7
  subst he7
  go_wp2
  go_ret
  exact ⟨rfl, hw6.trans (hb7.mono hw6.size)⟩

theorem domTells_c (ao ar : Option Addr) (aoc arc : Nat) (a : Gr) (v : Int) (w : World) (hao : Objs w.heap.size w ao a.objs) (har : Vals w.heap.size w ar a.roots) :
    Calls Try.prog 3 #[.agg #[.slice ao a.objs.length aoc, .slice ar a.roots.length arc], .int .i64 v] w fun e w' => e = .returned (.bool true) ∧ Below w.heap.size w w' := by
  by_cases na : checkG a = 0
  · by_cases hv : v < 0 ∨ (a.objs.length : Int) ≤ v
    · exact domTells_arg ao ar aoc arc a v w hao har na hv
    · exact domTells_ok ao ar aoc arc a v w hao har na (by omega) (by omega)
  · exact domTells_bad ao ar aoc arc a v w hao har na

end Go.Proofs.Ythpmckfgngkbhaa
