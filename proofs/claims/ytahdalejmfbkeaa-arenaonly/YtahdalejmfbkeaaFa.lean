/- Walks: the document's Words, Arenas, packed. -/
import Derived.Test.YtahdalejmfbkeaaDb
namespace Go.Proofs.Ytahdalejmfbkeaa
set_option linter.unusedSimpArgs false
set_option linter.unusedVariables false
open Go.RowKit Go.Shelf

set_option maxRecDepth 100000 in
set_option maxHeartbeats 1000000 in
theorem words_eq_c (a1 a2 : Option Addr) (c1 c2 : Nat) (l1 l2 : List Int) (B : Nat) (w : World) (h1 : Wds B w a1 l1) (h2 : Wds B w a2 l2) (hB : B ≤ w.heap.size) :
    Calls Try.prog 24 #[.slice a1 l1.length c1, .slice a2 l2.length c2] w fun e w' => e = .returned (.bool (decide (l1 = l2))) ∧ Below w.heap.size w w' := by
  have hl1 := h1.1
  have hl2 := h2.1
  by_cases hl : l1.length = l2.length
  · have d1 : ((l1.length : Int) != (l2.length : Int)) = false := by simp [hl]
    have d2 : ((l2.length : Int) != (l2.length : Int)) = false := by simp
    rw [hl]
    have Hl := hide hl
    have hle : l1.length ≤ l2.length := by omega
    have hge : l2.length ≤ l1.length := by omega
    clear hl
    go_enter Try.func24, Try.ntmps24
    go_wp2
    go_loopw [5] (fun i wr => ∃ k : Nat, k ≤ l2.length ∧ i = .int .i64 k ∧ Hid (l1.take k = l2.take k) ∧ Below w.heap.size w wr) (fun i _ => l2.length - (intOf i).toNat)
    case atStart => exact ⟨0, Nat.zero_le _, rfl, by show l1.take 0 = l2.take 0; simp, Below.refl _ _⟩
    case round =>
      obtain ⟨k, hk, rfl, Heq, hb⟩ := hrel
      by_cases hlt : k < l2.length
      · have hlt1 : k < l1.length := by omega
        obtain ⟨b1, o1, rfl, hbB1, hx1⟩ := (h1.below (hb.mono hB)).at hlt1
        obtain ⟨b2, o2, rfl, hbB2, hx2⟩ := (h2.below (hb.mono hB)).at hlt
        have hltI : (k : Int) < (l2.length : Int) := by omega
        have HT1 := hide (List.take_succ_eq_append_getElem hlt1)
        have HT2 := hide (List.take_succ_eq_append_getElem hlt)
        have HN : Hid (l1 = l2 → l1[k] = l2[k]) := by intro e; subst e; rfl
        generalize l1[k] = x at *
        generalize l2[k] = y at *
        by_cases hxy : x = y
        · have d : (x != y) = false := by simpa using hxy
          have Hxy := hide hxy
          clear hxy
          go_wp2
          go_still Try.mixed
          go_wp2
          go_roundw
          case rel => exact ⟨k + 1, by omega, by go_num, by show l1.take (k + 1) = _; rw [unhide HT1, unhide HT2, unhide Heq, unhide Hxy], hb.trans (Below.refl _ _).drew⟩
          case measure => simp [intOf]; omega
        · have d : (x != y) = true := by simpa using hxy
          have Hxy := hide hxy
          clear hxy
          go_wp2
          go_still Try.mixed
          go_wp2
          go_ret
          exact ⟨ret_bool (Eq.symm (decide_eq_false (fun e => unhide Hxy (unhide HN e)))), hb.trans (Below.refl _ _).drew⟩
      · obtain rfl : k = l2.length := by omega
        have Hfin : Hid (l1 = l2) := by
          have := unhide Heq
          rw [List.take_length, List.take_of_length_le hle] at this
          exact this
        go_wp2
        go_ret
        exact ⟨ret_bool (Eq.symm (decide_eq_true (unhide Hfin))), hb⟩
  · have d1 : ((l1.length : Int) != (l2.length : Int)) = true := by simp; omega
    go_enter Try.func24, Try.ntmps24
    go_wp2
    go_ret
    exact ⟨ret_bool (Eq.symm (decide_eq_false (fun e => hl (by rw [e])))), Below.refl _ _⟩

set_option maxRecDepth 100000 in
set_option maxHeartbeats 1000000 in
theorem arenas_eq_c (aw ar bw br : Option Addr) (cw cr dw dr : Nat) (ws rs vs us : List Int) (B : Nat) (w : World) (h1 : Wds B w aw ws) (h2 : Wds B w ar rs) (h3 : Wds B w bw vs) (h4 : Wds B w br us) (hB : B ≤ w.heap.size) :
    Calls Try.prog 18 #[.agg #[.slice aw ws.length cw, .slice ar rs.length cr], .agg #[.slice bw vs.length dw, .slice br us.length dr]] w fun e w' => e = .returned (.bool (decide (ws = vs) && decide (rs = us))) ∧ Below w.heap.size w w' := by
  obtain ⟨W0, hW0⟩ : ∃ W0, (w.alloc (.cells #[.slice aw ws.length cw, .slice ar rs.length cr] 24)).alloc (.cells #[.slice bw vs.length dw, .slice br us.length dr] 24) = W0 := ⟨_, rfl⟩
  have hb0 : Below w.heap.size w W0 := by rw [← hW0]; exact ((Below.refl _ _).alloc (Nat.le_refl _) _).alloc (by simp) _
  have hs0 : w.heap.size + 1 < W0.heap.size := by rw [← hW0]; simp
  have g0 : W0.cell? ⟨w.heap.size, 0, none⟩ = some (.slice aw ws.length cw) := by rw [← hW0]; simp [go_sem]
  have g1 : W0.cell? ⟨w.heap.size, 1, none⟩ = some (.slice ar rs.length cr) := by rw [← hW0]; simp [go_sem]
  have k0 : W0.cell? ⟨w.heap.size + 1, 0, none⟩ = some (.slice bw vs.length dw) := by rw [← hW0]; simp [go_sem]
  have k1 : W0.cell? ⟨w.heap.size + 1, 1, none⟩ = some (.slice br us.length dr) := by rw [← hW0]; simp [go_sem]
  have Hc1 := hide (words_eq_c aw bw cw dw ws vs B W0 (h1.below (hb0.mono hB)) (h3.below (hb0.mono hB)) (by omega))
  go_enter Try.func18, Try.ntmps18
  go_wp2_with fail
  refine (unhide Hc1).mono ?_
  rintro e w2 ⟨he, hb2⟩
  subst he
  clear hW0 Hc1
  have hs2 := hb2.size
  have hbw2 : Below w.heap.size w w2 := hb0.trans (hb2.mono (by omega))
  replace g1 := (hb2.cell (p := ⟨w.heap.size, 1, none⟩) (by simp; omega)).trans g1
  replace k1 := (hb2.cell (p := ⟨w.heap.size + 1, 1, none⟩) hs0).trans k1
  cases hd : decide (ws = vs)
  · have Hd := hide hd
    clear hd
    go_wp2
    go_ret
    exact ⟨ret_bool (by have := unhide Hd; simp at this; simp [this]), hbw2⟩
  · have Hd := hide hd
    clear hd
    have Hc2 := hide (words_eq_c ar br cr dr rs us B w2 (h2.below (hbw2.mono hB)) (h4.below (hbw2.mono hB)) (by omega))
    go_wp2_with fail
    refine (unhide Hc2).mono ?_
    rintro e w3 ⟨he, hb3⟩
    subst he
    go_wp2
    go_ret
    exact ⟨ret_bool (by have := unhide Hd; simp at this; simp [this]), hbw2.trans (hb3.mono (by omega))⟩

theorem words_take_succ {l : List V} {st : List Int} {k : Nat} (hk : k < l.length) {x : Int} (h : packV st l[k] = x) : wordsV ((l.map (packV st)).take (k + 1)) = wordsV ((l.map (packV st)).take k) ++ [.int .u64 x] := by
  rw [List.take_succ_eq_append_getElem (by simpa using hk), List.getElem_map, h, wordsV_snoc]

set_option maxRecDepth 100000 in
set_option maxHeartbeats 2000000 in
theorem rpacked_c (a s0 : Option Addr) (cap caps : Nat) (l : List V) (st : List Int) (B : Nat) (w : World) (hV : Vals B w a l) (hS : Ints B w s0 st) (hB : B ≤ w.heap.size) (hl : l.length ≤ 1000)
    (hr : ∀ v ∈ l, v.1 = true → 0 ≤ v.2 ∧ v.2 < st.length) (hst : ∀ x ∈ st, 0 ≤ x ∧ x ≤ 9223372036854775807) (hn : ∀ v ∈ l, v.1 = false → -9223372036854775808 ≤ v.2 ∧ v.2 ≤ 9223372036854775807) (hsl : st.length ≤ 1000) :
    Calls Try.prog 38 #[.slice a l.length cap, .slice s0 st.length caps] w fun e w' => ∃ a' cap', e = .returned (.slice a' (l.map (packV st)).length cap') ∧ WdsF w.heap.size w' a' (l.map (packV st)) ∧ Below w.heap.size w w' := by
  obtain ⟨i0, hi, hz0, hz1, hz2⟩ := info_parts Try.info54
  go_enter Try.func38, Try.ntmps38
  go_wp2
  go_loopw [5, 12] (fun s i wr => ∃ k : Nat, k ≤ l.length ∧ i = .int .i64 k ∧ wr.ownsRow w.heap.size 54 1 s k (wordsV ((l.map (packV st)).take k)) ∧ Below w.heap.size w wr) (fun _ i _ => l.length - (intOf i).toNat)
  case atStart => exact ⟨0, Nat.zero_le _, rfl, by simpa [wordsV] using World.ownsRow_nil _ _ _ _, Below.refl _ _⟩
  case round =>
    obtain ⟨k, hk, rfl, hown, hb⟩ := hrel
    have hsz := hb.size
    by_cases hlt : k < l.length
    · obtain ⟨b, off, r, m, rfl, hbB, hc1, hc2, Hv⟩ := (hV.below (hb.mono hB)).at hlt
      have hmem : (r, m) ∈ l := by rw [← Hv.out]; exact List.getElem_mem hlt
      have HT := hide (fun x h => words_take_succ (st := st) hlt (x := x) h)
      rw [Hv.out] at HT
      cases r
      · have hrng := hn _ hmem rfl
        have HT2 := hide (unhide HT _ packV_num)
        clear HT Hv
        have Hc := hide (rpack_c false m (wr.alloc (.cells #[.bool false, .int .i64 m] 59)) hrng.1 hrng.2)
        go_wp2_with fail
        refine (unhide Hc).mono ?_
        rintro e w3 ⟨he, hb3⟩
        subst he
        simp only [World.size_alloc] at hb3
        have hs3 := hb3.size
        simp only [World.size_alloc] at hs3
        have hown3 := ownsRow_below (hown.alloc (.cells #[.bool false, .int .i64 m] 59)) (by simpa using hb3)
        have hbw3 : Below w.heap.size w w3 := (hb.alloc (by omega) _).trans (hb3.mono (by omega))
        clear hown Hc
        go_wp2_with (at_builtin; go_must (refine wpList_append_own _ rfl _ _ 22 rfl w.heap.size 54 i0 _ 1 8 Try.underlying22 hi hz0 hz1 hz2 rfl (by decide) _ _ _ rfl (hown3.alloc _) ⟨w3.heap.size, 0, none⟩ 1 1 [.int .u64 (packW false m)] rfl rfl (cell_one_at _ _ _ _ (by simp)) (by simp [Value.oneCell']) (by simp only [maxLen]; omega) (by omega) (by simp; omega) ?_); intro v' w1 hown' hgrow _)
        go_roundw
        case rel => exact ⟨k + 1, by omega, by go_num, by rw [unhide HT2]; exact hown', (hbw3.alloc (by omega) _).grown hgrow (by simp; omega) (fun q e => (hown3.lt q e).1)⟩
        case measure => simp [intOf]; omega
      · have hrng := hr _ hmem rfl
        obtain ⟨mn, rfl⟩ := Int.eq_ofNat_of_zero_le hrng.1
        have hmn : mn < st.length := by have := hrng.2; simp at this; omega
        have hxr := hst _ (List.getElem_mem hmn)
        obtain ⟨b2, off2, rfl, hbB2, hx⟩ := (hS.below (hb.mono hB)).at hmn
        have HT2 := hide (unhide HT (packW true st[mn]) (by simp [packV, List.getD_eq_getElem?_getD, hmn]))
        have hmnI : (mn : Int) < (st.length : Int) := by omega
        have hb2w : b2 < wr.heap.size := by omega
        clear HT Hv hrng
        generalize st[mn] = p at *
        have Hc := hide (rpack_c true p (wr.alloc (.cells #[.bool true, .int .i64 p] 59)) (by omega) (by omega))
        go_wp2_with fail
        refine (unhide Hc).mono ?_
        rintro e w3 ⟨he, hb3⟩
        subst he
        simp only [World.size_alloc] at hb3
        have hs3 := hb3.size
        simp only [World.size_alloc] at hs3
        have hown3 := ownsRow_below (hown.alloc (.cells #[.bool true, .int .i64 p] 59)) (by simpa using hb3)
        have hbw3 : Below w.heap.size w w3 := (hb.alloc (by omega) _).trans (hb3.mono (by omega))
        clear hown Hc
        go_wp2_with (at_builtin; go_must (refine wpList_append_own _ rfl _ _ 22 rfl w.heap.size 54 i0 _ 1 8 Try.underlying22 hi hz0 hz1 hz2 rfl (by decide) _ _ _ rfl (hown3.alloc _) ⟨w3.heap.size, 0, none⟩ 1 1 [.int .u64 (packW true p)] rfl rfl (cell_one_at _ _ _ _ (by simp)) (by simp [Value.oneCell']) (by simp only [maxLen]; omega) (by omega) (by simp; omega) ?_); intro v' w1 hown' hgrow _)
        go_roundw
        case rel => exact ⟨k + 1, by omega, by go_num, by rw [unhide HT2]; exact hown', (hbw3.alloc (by omega) _).grown hgrow (by simp; omega) (fun q e => (hown3.lt q e).1)⟩
        case measure => simp [intOf]; omega
    · obtain rfl : k = l.length := by omega
      rw [List.take_of_length_le (by simp)] at hown
      obtain ⟨a', cap', hv, hWF, _⟩ := wordsF_of_owns hown (by simp) (by omega)
      have HW := hide hWF
      clear hWF
      subst hv
      go_wp2
      go_ret
      exact ⟨a', cap', rfl, unhide HW, hb⟩

end Go.Proofs.Ytahdalejmfbkeaa
