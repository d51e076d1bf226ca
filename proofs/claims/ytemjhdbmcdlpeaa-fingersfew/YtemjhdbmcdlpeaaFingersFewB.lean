/- Merged texts: Wx Ab Ac Ad Ae Ba Bb Bc Bd Wr Be Da Ha Db. -/
import Derived.Test.YtemjhdbmcdlpeaaProg
import Derived.Test.YtemjhdbmcdlpeaaFingersFewA
import Derived.Maps.OwnSet
import Derived.Maps.AppendAt
import Derived.OwnWalk
import Derived.Laws.OwnMore
import Derived.Maps.OwnOps
import Derived.Orders

/- An arena that came in, opened. -/
namespace Go.Proofs.Ytemjhdbmcdlpeaa
set_option linter.unusedSimpArgs false
set_option maxRecDepth 100000
set_option linter.unusedVariables false
open Go.RowKit Go.Joins Go.Deep Go.ChangeShapes Go.WideShapes

section
variable {H : Type} {enc : TypeId × Value → H} {w : World} {base : Nat} {spare : Nat → Bool} {held : Bool}

theorem words_of_trod {fuel : Nat} {cs : List Value} {x : DataW H × List MemPlace} (h : DataW.trod enc Try.prog w base spare held fuel 22 cs = some x) : ∃ a cap l, cs = [.slice a l.length cap] ∧ Wds w.heap.size w a l ∧ U64 l ∧ l.length ≤ cap := by
  have e3 : Try.prog.cellsOf 56 = 1 := by kernel_rfl
  rcases open_slice1 Try.underlying22 e3 h with ⟨rfl, _⟩ | ⟨a, len, cap, m, n, V', D, Pl, rfl, hb, hl, hm, hmm, _, hx⟩
  · exact ⟨none, 0, [], rfl, ⟨by simp, fun h => absurd rfl h⟩, fun x hx => by simp at hx, by simp⟩
  · have hle : len ≤ m := by rw [hmm]; split <;> omega
    have hex : ∀ i, i < len → ∃ l : Int, w.cell? (a.add i) = some (.int .u64 l) ∧ 0 ≤ l ∧ l < 18446744073709551616 := by
      intro i hi
      obtain ⟨h1, h2⟩ := hx i (by omega)
      obtain ⟨q, hq, _, hwf⟩ := DataW.trod_int Try.underlying56 h2
      simp at hq
      have := bounds_u64 hwf
      exact ⟨q, by rw [h1, hq], this.1, by omega⟩
    obtain ⟨f, hf⟩ := choose_lt (α := Int) (p := fun i l => w.cell? (a.add i) = some (.int .u64 l) ∧ 0 ≤ l ∧ l < 18446744073709551616) hex
    refine ⟨some a, cap, (List.range len).map f, by simp, ⟨by simp only [List.length_map, List.length_range]; simp only [maxLen] at hm; omega, fun hne => ?_⟩, ?_, by simpa using hl⟩
    · have hpos : 0 < len := by
        rcases Nat.eq_zero_or_pos len with h0 | h0
        · subst h0; simp at hne
        · exact h0
      have h00 := (hf 0 hpos).1
      obtain ⟨b, off, rfl, _⟩ := addr_plain (a := a) (i := 0) h00 ⟨_, by simpa [Addr.add] using h00⟩
      have hplain : ∀ i, (⟨b, off, none⟩ : Addr).add i = ⟨b, off + i, none⟩ := fun i => Go.WideShapes.add_plain _ _ _
      refine ⟨b, off, rfl, World.block_lt_of_cell? w ⟨b, off + 0, none⟩ (by rw [← hplain]; exact h00), fun k l hk => ?_⟩
      have hkl : k < len := by
        have := (List.getElem?_eq_some_iff.1 hk).1
        simpa using this
      have hv : f k = l := by simpa [hkl] using hk
      have := (hf k hkl).1
      rw [hv, hplain] at this
      exact this
    · intro x hx
      obtain ⟨i, hi, rfl⟩ := List.mem_map.1 hx
      exact (hf i (List.mem_range.1 hi)).2

theorem arena_of_trod {r : Reach} {b0 : Nat} {v : Value} {d : DataW H} {p : List MemPlace} (hv : Value.okWide Try.prog w r b0 24 v) (h : DataW.Trod enc Try.prog w base spare held 24 v d p) :
    ∃ aw cw ar cr, ∃ ws rs : List Int, v = .agg #[.slice aw ws.length cw, .slice ar rs.length cr] ∧ Wds w.heap.size w aw ws ∧ Wds w.heap.size w ar rs ∧ U64 ws ∧ U64 rs ∧ ws.length ≤ cw := by
  obtain ⟨c0, c1, y0, y1, m, rfl, _, _, hy0, hy1⟩ := open_agg2 Try.underlying24 (by kernel_rfl) (by kernel_rfl) hv h
  obtain ⟨ao, co, L, h0, hO, hU, hc⟩ := words_of_trod hy0
  obtain ⟨ar, cr, l, h1, hV, hU2, _⟩ := words_of_trod hy1
  simp at h0 h1
  exact ⟨ao, co, ar, cr, L, l, by rw [h0, h1], hO, hV, hU, hU2, hc⟩

end
end Go.Proofs.Ytemjhdbmcdlpeaa

/- Walks: the document's Starts. -/
namespace Go.Proofs.Ytemjhdbmcdlpeaa
set_option linter.unusedSimpArgs false
set_option linter.unusedVariables false
open Go.RowKit

def StRes (ws : List Int) (e : Ending) (W : World) : Prop :=
  (splitR ws = none ∧ e = .returned (.tuple #[.slice none 0 0, .bool false])) ∨ ∃ fs a cap, splitR ws = some fs ∧ e = .returned (.tuple #[.slice a (stF 0 fs).length cap, .bool true]) ∧ Ints W.heap.size W a (stF 0 fs)

theorem uhE_bad {x : Int} (h : unheadOk x = false) : uhE x = 4 := by simp [uhE, h]
theorem uhE_ok {x : Int} (h : unheadOk x = true) : uhE x = 0 := by simp [uhE, h]

set_option maxRecDepth 100000 in
set_option maxHeartbeats 1000000 in
theorem rstarts_c (a : Option Addr) (cap : Nat) (ws : List Int) (B : Nat) (w : World) (hl : Wds B w a ws) (hU : U64 ws) (hB : B ≤ w.heap.size) (hn : ws.length ≤ 256) :
    Calls Try.prog 25 #[.slice a ws.length cap] w fun e w' => StRes ws e w' ∧ Below w.heap.size w w' := by
  obtain ⟨i0, hi, hz0, hz1, hz2⟩ := info_parts Try.info3
  go_enter Try.func25, Try.ntmps25
  go_wp2
  go_loopw [4, 5] (fun s i wr => ∃ D : List (List Int), Hid (SpAt ws D) ∧ i = .int .i64 (tot D : Nat) ∧ wr.ownsRow w.heap.size 3 1 s D.length (intsV (stF 0 D)) ∧ Below w.heap.size w wr) (fun _ i _ => ws.length - (intOf i).toNat)
  case atStart => exact ⟨[], hide (spAt_nil _), rfl, by simpa [intsV, stF] using World.ownsRow_nil _ _ _ _, Below.refl _ _⟩
  case round =>
    obtain ⟨D, Hsp, rfl, hown, hb⟩ := hrel
    have hsz := hb.size
    have hle := (unhide Hsp).le
    have hDl := tot_len D
    have Hsn : Hid (∀ f, intsV (stF 0 (D ++ [f])) = intsV (stF 0 D) ++ [.int .i64 (tot D : Nat)]) := fun f => by rw [stF_snoc, intsV_snoc, Nat.zero_add]
    by_cases hlt : tot D < ws.length
    · obtain ⟨b, off, rfl, hbB, hc⟩ := (hl.below (hb.mono hB)).at hlt
      have hu := hU _ (List.getElem_mem hlt)
      have Hst := hide (fun h1 h2 => (unhide Hsp).step hlt h1 h2)
      have Hbad := hide (fun h => (unhide Hsp).bad hlt h)
      generalize ws[tot D] = x at *
      generalize hp : tot D = p at *
      have Hp := hide hp
      clear hp Hsp
      cases hk : unheadOk x
      · have HE := hide (uhE_bad hk)
        have Hn := hide (unhide Hbad (.inl hk))
        clear hk
        go_wp2_with (go_at_call 28; go_must (refine (runhead_c x _ hu.1 hu.2).mono ?_); go_must (rintro e w3 ⟨he, hb3⟩; rw [unhide HE] at he; subst he))
        go_ret2
        exact ⟨.inl ⟨unhide Hn, rfl⟩, (hb.trans (hb3.mono (by omega))).alloc (by have := hb3.size; omega) _⟩
      · have HE := hide (uhE_ok hk)
        have HL := hide (uhL_wlen hk)
        have h4 := wlen_le hk
        by_cases hend : p + 1 + wlen x ≤ ws.length
        · have Hst2 := hide (unhide Hst hk hend)
          clear hk Hst Hbad
          generalize (ws.drop (p + 1)).take (wlen x) = f at *
          generalize wlen x = n at *
          go_wp2_with (first
            | (go_at_call 28; go_must (refine (runhead_c x _ hu.1 hu.2).mono ?_); go_must (rintro e w3 ⟨he, hb3⟩; rw [unhide HE, unhide HL] at he; subst he; have hs3 := hb3.size; have hown3 := ownsRow_below hown hb3))
            | (at_builtin; go_must (refine wpList_append_own _ rfl _ _ 38 rfl w.heap.size 3 i0 _ 1 8 Try.underlying38 hi hz0 hz1 hz2 rfl (by decide) _ _ _ rfl ((hown3.alloc _).alloc _) ⟨w3.heap.size + 1, 0, none⟩ 1 1 [.int .i64 (p : Int)] rfl rfl (cell_one_at _ _ _ _ (by simp)) (by simp [Value.oneCell']) (by simp only [maxLen]; omega) (by omega) (by simp; omega) ?_); go_must (intro v' w1 hown' hgrow _; have hc6 := hgrow.cell (a := ⟨w3.heap.size, 0, none⟩) (v := .int .i64 (n : Int)) (by simp [go_sem]) (fun e => by have := (hown3.lt _ e.symm).2; simp at this))))
          go_roundw
          case rel =>
            refine ⟨D ++ [f], hide (unhide Hst2).1, by rw [(unhide Hst2).2]; go_num, ?_, ?_⟩
            · rw [unhide Hsn, List.length_append]; exact hown'
            · exact (((hb.trans (hb3.mono hsz)).alloc (by omega) _).alloc (by simp; omega) _).grown hgrow (by simp; omega) (fun q e => (hown3.lt q e).1)
          case measure => simp [intOf]; omega
        · have Hn := hide (unhide Hbad (.inr (by omega)))
          clear hk Hst Hbad
          generalize wlen x = n at *
          go_wp2_with (go_at_call 28; go_must (refine (runhead_c x _ hu.1 hu.2).mono ?_); go_must (rintro e w3 ⟨he, hb3⟩; rw [unhide HE, unhide HL] at he; subst he))
          go_ret2
          exact ⟨.inl ⟨unhide Hn, rfl⟩, (hb.trans (hb3.mono (by omega))).alloc (by have := hb3.size; omega) _⟩
    · have Hfin := hide ((unhide Hsp).fin (by omega))
      obtain ⟨a', cap', hv, hI, hr9⟩ := ints_of_owns hown (stF_len D 0).symm (by omega)
      clear hr9
      generalize tot D = p at *
      subst hv
      go_wp2
      go_ret2
      exact ⟨.inr ⟨D, a', cap', unhide Hfin, rfl, hI⟩, hb⟩

end Go.Proofs.Ytemjhdbmcdlpeaa

/- Walks: the document's Fields, unpacked. -/
namespace Go.Proofs.Ytemjhdbmcdlpeaa
set_option linter.unusedSimpArgs false
set_option linter.unusedVariables false
open Go.RowKit

theorem Try.info56 : (Try.prog.info? 56).map (fun i => (i.zero, i.size, i.bytes)) = some (some (.int .u64 0), 1, 8) := by kernel_rfl

/-- The fields behind a header. -/
def fieldsAt (ws : List Int) (p : Nat) : List Int := (ws.drop (p + 1)).take (wlen (ws.getD p 0))

theorem fieldsAt_len {ws : List Int} {p : Nat} (hp : p < ws.length) (he : p + 1 + wlen ws[p] ≤ ws.length) : (fieldsAt ws p).length = wlen ws[p] := by
  unfold fieldsAt
  rw [List.length_take, List.length_drop, List.getD_eq_getElem?_getD, List.getElem?_eq_getElem hp, Option.getD_some]
  omega

theorem fieldsAt_get {ws : List Int} {p j : Nat} (hj : j < (fieldsAt ws p).length) : ∃ h : p + (j + 1) < ws.length, (fieldsAt ws p)[j] = ws[p + (j + 1)] := by
  have hl : (fieldsAt ws p).length ≤ ws.length - (p + 1) := by unfold fieldsAt; rw [List.length_take, List.length_drop]; omega
  refine ⟨by omega, ?_⟩
  simp only [fieldsAt, List.getElem_take, List.getElem_drop]
  congr 1
  omega

set_option maxRecDepth 100000 in
set_option maxHeartbeats 1000000 in
theorem rfields_c (a : Option Addr) (cap : Nat) (ws : List Int) (B : Nat) (w : World) (hl : Wds B w a ws) (hU : U64 ws) (hB : B ≤ w.heap.size) (hn : ws.length ≤ 256) (p : Nat) (hp : p < ws.length) (hk : unheadOk ws[p] = true) (he : p + 1 + wlen ws[p] ≤ ws.length) :
    Calls Try.prog 26 #[.slice a ws.length cap, .int .i64 p] w fun e w' => ∃ a' cap', e = .returned (.slice a' (fieldsAt ws p).length cap') ∧ Wds w'.heap.size w' a' (fieldsAt ws p) ∧ Below w.heap.size w w' ∧ Hid (∀ b off, a' = some ⟨b, off, none⟩ → w.heap.size ≤ b) := by
  obtain ⟨i0, hi, hz0, hz1, hz2⟩ := info_parts Try.info56
  have Hfl := hide (fieldsAt_len hp he)
  have Hfg := hide (fun j (hj : j < (fieldsAt ws p).length) => fieldsAt_get hj)
  obtain ⟨b, off, rfl, hbB, hc⟩ := hl.at hp
  have hu := hU _ (List.getElem_mem hp)
  have HE := hide (uhE_ok hk)
  have HL := hide ((uhL_wlen hk).trans (by rw [unhide Hfl] : (wlen ws[p] : Int) = ((fieldsAt ws p).length : Int)))
  have h4 : (fieldsAt ws p).length ≤ 4 := by rw [unhide Hfl]; exact wlen_le hk
  have hfin : p + 1 + (fieldsAt ws p).length ≤ ws.length := by rw [unhide Hfl]; exact he
  clear hk he Hfl
  generalize ws[p] = x at *
  generalize fieldsAt ws p = f at *
  go_enter Try.func26, Try.ntmps26
  go_wp2_with (go_at_call 28; go_must (refine (runhead_c x _ hu.1 hu.2).mono ?_); go_must (rintro e w3 ⟨he, hb3⟩; rw [unhide HE, unhide HL] at he; subst he))
  have hs3 := hb3.size
  go_loopw [7, 8] (fun s i wr => ∃ j : Nat, j ≤ f.length ∧ i = .int .i64 ((j + 1 : Nat) : Int) ∧ wr.ownsRow (w3.heap.size + 1) 56 1 s j (wordsV (f.take j)) ∧ Below (w3.heap.size + 1) (w3.alloc (.cells #[.int .i64 (f.length : Int), .bool (uhM x), .int .i64 (uhA x)] 32)) wr) (fun _ i _ => f.length + 1 - (intOf i).toNat)
  case atStart => exact ⟨0, Nat.zero_le _, rfl, by simpa [wordsV] using World.ownsRow_nil _ _ _ _, Below.refl _ _⟩
  case round =>
    obtain ⟨j, hj, rfl, hown, hb⟩ := hrel
    have hsz : w3.heap.size + 1 ≤ wr.heap.size := by have := hb.size; simpa using this
    have hbx : wr.cell? ⟨w3.heap.size, 0, none⟩ = some (.int .i64 (f.length : Int)) := by rw [hb.cell (p := ⟨w3.heap.size, 0, none⟩) (by simp)]; simp [go_sem]
    have hbw : Below w.heap.size w wr := (hb3.alloc hs3 _).trans (hb.mono (by omega))
    by_cases hlt : j < f.length
    · obtain ⟨hq, Hg⟩ := unhide Hfg j hlt
      have Hg := hide Hg
      obtain ⟨b', off', e', hbB', hc'⟩ := (hl.below (hbw.mono hB)).at hq
      injection e' with e'
      injection e' with e1 e2
      subst e1 e2
      have HT := hide (show wordsV (f.take (j + 1)) = wordsV (f.take j) ++ [.int .u64 (ws[p + (j + 1)])] from by rw [List.take_succ_eq_append_getElem hlt, unhide Hg, wordsV_snoc])
      generalize ws[p + (j + 1)] = y at *
      have hji : decide (((j + 1 : Nat) : Int) ≤ (f.length : Int)) = true := by simp; omega
      have hwr : IntKind.i64.wrap ((p : Int) + ((j + 1 : Nat) : Int)) = ((p + (j + 1) : Nat) : Int) := by rw [IntKind.wrap_i64]; omega
      clear Hg
      go_wp2_with (at_builtin; go_must (refine wpList_append_own _ rfl _ _ 22 rfl (w3.heap.size + 1) 56 i0 _ 1 8 Try.underlying22 hi hz0 hz1 hz2 rfl (by decide) _ _ _ rfl (hown.alloc _) ⟨wr.heap.size, 0, none⟩ 1 1 [.int .u64 y] rfl rfl (cell_one_at _ _ _ _ (by simp)) (by simp [Value.oneCell']) (by simp only [maxLen]; omega) (by omega) (by simp; omega) ?_); intro v' w1 hown' hgrow _)
      go_roundw
      case rel => exact ⟨j + 1, by omega, by go_num, by rw [unhide HT]; exact hown', (hb.alloc hsz _).grown hgrow (by simp; omega) (fun q e => (hown.lt q e).1)⟩
      case measure => simp [intOf]; omega
    · obtain rfl : j = f.length := by omega
      rw [List.take_length] at hown
      obtain ⟨a', cap', hv, hW, Hr9⟩ := words_of_owns hown rfl (by omega)
      have hji : decide (((f.length + 1 : Nat) : Int) ≤ (f.length : Int)) = false := by simp; omega
      subst hv
      go_wp2
      go_ret
      exact ⟨a', cap', rfl, hW, hbw, hide (fun b off e => by have := unhide Hr9 b off e; omega)⟩

theorem Try.info64' : (Try.prog.info? 64).map (fun i => (i.zero, i.size, i.bytes)) = some (some (.agg #[.bool false, .int .i64 0]), 2, 16) := by kernel_rfl

theorem valW_ref {st : List Int} {x : Int} (h : unRef x = true) : valW st x = (true, placeOf st (unNum x)) := by simp [valW, h]
theorem valW_num {st : List Int} {x : Int} (h : unRef x = false) : valW st x = (false, unNum x) := by simp [valW, h]
theorem cells_take_succ {ws st : List Int} {k : Nat} (hk : k < ws.length) {r : Bool} {n : Int} (h : valW st ws[k] = (r, n)) : cellsV ((ws.map (valW st)).take (k + 1)) = cellsV ((ws.map (valW st)).take k) ++ [.bool r, .int .i64 n] := by
  rw [List.take_succ_eq_append_getElem (by simpa using hk), List.getElem_map, h, cellsV_snoc]

set_option maxRecDepth 100000 in
set_option maxHeartbeats 1000000 in
theorem runpacked_c (a s0 : Option Addr) (cap caps : Nat) (ws st : List Int) (B : Nat) (w : World) (hl : Wds B w a ws) (hU : U64 ws) (hS : Ints B w s0 st) (hB : B ≤ w.heap.size) (hn : ws.length ≤ 256) :
    Calls Try.prog 36 #[.slice a ws.length cap, .slice s0 st.length caps] w fun e w' => ∃ a' cap', e = .returned (.slice a' (ws.map (valW st)).length cap') ∧ Vals w'.heap.size w' a' (ws.map (valW st)) ∧ Below w.heap.size w w' := by
  obtain ⟨i0, hi, hz0, hz1, hz2⟩ := info_parts Try.info64'
  go_enter Try.func36, Try.ntmps36
  go_wp2
  go_loopw [5, 12] (fun s i wr => ∃ k : Nat, k ≤ ws.length ∧ i = .int .i64 k ∧ wr.ownsRow w.heap.size 64 2 s k (cellsV ((ws.map (valW st)).take k)) ∧ Below w.heap.size w wr) (fun _ i _ => ws.length - (intOf i).toNat)
  case atStart => exact ⟨0, Nat.zero_le _, rfl, by simpa [cellsV] using World.ownsRow_nil _ _ _ _, Below.refl _ _⟩
  case round =>
    obtain ⟨k, hk, rfl, hown, hb⟩ := hrel
    have hsz := hb.size
    by_cases hlt : k < ws.length
    · obtain ⟨b, off, rfl, hbB, hc⟩ := (hl.below (hb.mono hB)).at hlt
      have hu := hU _ (List.getElem_mem hlt)
      have HT := hide (fun r n => cells_take_succ (st := st) hlt (r := r) (n := n))
      generalize ws[k] = x at *
      cases hr : unRef x
      · have HT2 := hide (unhide HT _ _ (valW_num hr))
        have Hr := hide hr
        clear hr HT
        go_wp2_with (first
          | (go_at_call 27; go_must (refine (runpack_c x _ hu.1 hu.2).mono ?_); go_must (rintro e w3 ⟨he, hb3⟩; rw [unhide Hr] at he; subst he; have hs3 := hb3.size; have hown3 := ownsRow_below hown hb3))
          | (at_builtin; go_must (refine wpList_append_own _ rfl _ _ 41 rfl w.heap.size 64 i0 _ 2 16 Try.underlying41 hi hz0 hz1 hz2 rfl (by decide) _ _ _ rfl ((hown3.alloc _).alloc _) ⟨w3.heap.size + 1, 0, none⟩ 1 1 [.bool false, .int .i64 (unNum x)] rfl rfl (cell_two_at _ _ _ _ _ (by simp)) (by simp [Value.oneCell']) (by simp only [maxLen]; omega) (by omega) (by simp; omega) ?_); intro v' w1 hown' hgrow _))
        go_roundw
        case rel => exact ⟨k + 1, by omega, by go_num, by rw [unhide HT2]; exact hown', (((hb.trans (hb3.mono hsz)).alloc (by omega) _).alloc (by simp; omega) _).grown hgrow (by simp; omega) (fun q e => (hown3.lt q e).1)⟩
        case measure => simp [intOf]; omega
      · have HT2 := hide (unhide HT _ _ (valW_ref hr))
        have Hr := hide hr
        clear hr HT
        go_wp2_with (first
          | (go_at_call 27; go_must (refine (runpack_c x _ hu.1 hu.2).mono ?_); go_must (rintro e w3 ⟨he, hb3⟩; rw [unhide Hr] at he; subst he; have hs3 := hb3.size; have hown3 := ownsRow_below hown hb3; have hS3 := hS.below ((hb.mono hB).trans (hb3.mono (Nat.le_trans hB hsz)))))
          | (go_at_call 51; go_must (refine (place_c _ _ st (unNum x) B _ (hS3.below ((Below.refl _ _).alloc (by omega) _))).mono ?_); go_must (rintro e w4 ⟨he, hw4⟩; subst he; have hw4 := hw4.symm; subst hw4))
          | (at_builtin; go_must (refine wpList_append_own _ rfl _ _ 41 rfl w.heap.size 64 i0 _ 2 16 Try.underlying41 hi hz0 hz1 hz2 rfl (by decide) _ _ _ rfl ((hown3.alloc _).alloc _) ⟨w3.heap.size + 1, 0, none⟩ 1 1 [.bool true, .int .i64 (placeOf st (unNum x))] rfl rfl (cell_two_at _ _ _ _ _ (by simp)) (by simp [Value.oneCell']) (by simp only [maxLen]; omega) (by omega) (by simp; omega) ?_); intro v' w1 hown' hgrow _))
        go_roundw
        case rel => exact ⟨k + 1, by omega, by go_num, by rw [unhide HT2]; exact hown', (((hb.trans (hb3.mono hsz)).alloc (by omega) _).alloc (by simp; omega) _).grown hgrow (by simp; omega) (fun q e => (hown3.lt q e).1)⟩
        case measure => simp [intOf]; omega
    · obtain rfl : k = ws.length := by omega
      rw [List.take_of_length_le (by simp)] at hown
      obtain ⟨a', cap', hv, hV, hr9⟩ := vals_of_owns hown (by simp) (by omega)
      clear hr9
      subst hv
      go_wp2
      go_ret
      exact ⟨a', cap', rfl, hV, hb⟩

end Go.Proofs.Ytemjhdbmcdlpeaa

/- Walks: the document's ArenaCheck. -/
namespace Go.Proofs.Ytemjhdbmcdlpeaa
set_option linter.unusedSimpArgs false
set_option linter.unusedVariables false
open Go.RowKit

/-- Each object, where it stands. -/
theorem split_at : ∀ (n : Nat) (ws : List Int) (fs : List (List Int)), ws.length ≤ n → splitR ws = some fs → ∀ (k : Nat) (f : List Int), fs[k]? = some f →
    ∃ x, ws[tot (fs.take k)]? = some x ∧ unheadOk x = true ∧ tot (fs.take k) + 1 + wlen x ≤ ws.length ∧ (ws.drop (tot (fs.take k) + 1)).take (wlen x) = f
  | n, [], fs, _, h, k, f, hf => by
    rw [splitR_nil] at h
    injection h with h
    subst h
    simp at hf
  | 0, x :: r, fs, hn, h, k, f, hf => by simp at hn
  | n + 1, x :: r, fs, hn, h, k, f, hf => by
    rw [splitR_cons] at h
    split at h
    · rename_i hc
      cases hs : splitR (r.drop (wlen x)) with
      | none => rw [hs] at h; simp at h
      | some gs =>
        rw [hs] at h
        simp only [Option.map_some, Option.some.injEq] at h
        subst h
        cases k with
        | zero =>
          simp at hf
          refine ⟨x, by simp [tot], hc.1, by simp [tot]; omega, by simpa [tot] using hf⟩
        | succ k =>
          obtain ⟨y, h1, h2, h3, h4⟩ := split_at n _ gs (by simp at hn ⊢; omega) hs k f (by simpa using hf)
          have e : tot ((r.take (wlen x) :: gs).take (k + 1)) = wlen x + tot (gs.take k) + 1 := by
            rw [List.take_succ_cons, tot_cons, List.length_take]; omega
          rw [List.getElem?_drop] at h1
          rw [List.drop_drop] at h4
          rw [List.length_drop] at h3
          refine ⟨y, by rw [e, List.getElem?_cons_succ]; exact h1, h2, by rw [e]; simp; omega, ?_⟩
          rw [e, List.drop_succ_cons]
          rw [show wlen x + tot (gs.take k) + 1 = wlen x + (tot (gs.take k) + 1) from by omega]
          exact h4
    · cases h

theorem split_obj {ws : List Int} {fs : List (List Int)} (h : splitR ws = some fs) {k : Nat} (hk : k < fs.length) :
    ∃ hp : tot (fs.take k) < ws.length, unheadOk ws[tot (fs.take k)] = true ∧ tot (fs.take k) + 1 + wlen ws[tot (fs.take k)] ≤ ws.length ∧ fieldsAt ws (tot (fs.take k)) = fs[k] := by
  obtain ⟨x, h1, h2, h3, h4⟩ := split_at ws.length ws fs (Nat.le_refl _) h k fs[k] (List.getElem?_eq_getElem hk)
  obtain ⟨hp, e⟩ := List.getElem?_eq_some_iff.1 h1
  subst e
  refine ⟨hp, h2, h3, ?_⟩
  unfold fieldsAt
  rw [List.getD_eq_getElem?_getD, h1, Option.getD_some]
  exact h4

theorem u64_fields {ws : List Int} {fs : List (List Int)} (h : splitR ws = some fs) (hW : U64 ws) : ∀ f ∈ fs, U64 f := by
  intro f hf
  obtain ⟨k, hk, e⟩ := List.getElem_of_mem hf
  obtain ⟨hp, _, _, e2⟩ := split_obj h hk
  rw [← e, ← e2]
  exact (hW.drop _).take _

theorem u64_all {ws rs : List Int} {fs : List (List Int)} (h : splitR ws = some fs) (hW : U64 ws) (hR : U64 rs) : U64 (rs ++ fs.flatten) := by
  intro x hx
  rcases List.mem_append.1 hx with hx | hx
  · exact hR x hx
  · obtain ⟨f, hf, hx⟩ := List.mem_flatten.1 hx
    exact u64_fields h hW f hf x hx

theorem unErr_two {x : Int} (h : unErr x ≠ 0) : unErr x = 2 := by
  unfold unErr at *
  split at h
  · split at h
    · exact absurd rfl h
    · simp_all
  · exact absurd rfl h

theorem arenaE_large {ws rs : List Int} (h : 256 < ws.length ∨ 8 < rs.length) : arenaE ws rs = 1 := by unfold arenaE; rw [if_pos h]
theorem arenaE_form {ws rs : List Int} (h1 : ws.length ≤ 256) (h2 : rs.length ≤ 8) (h : splitR ws = none) : arenaE ws rs = 4 := by unfold arenaE; rw [if_neg (by omega), h]
theorem arenaE_bad {ws rs : List Int} {fs : List (List Int)} (h1 : ws.length ≤ 256) (h2 : rs.length ≤ 8) (h : splitR ws = some fs) (ha : (rs ++ fs.flatten).all (okW (stF 0 fs)) = false) : arenaE ws rs = 2 := by unfold arenaE; rw [if_neg (by omega), h]; simp only [ha]; rfl
theorem arenaE_ok {ws rs : List Int} {fs : List (List Int)} (h1 : ws.length ≤ 256) (h2 : rs.length ≤ 8) (h : splitR ws = some fs) (ha : (rs ++ fs.flatten).all (okW (stF 0 fs)) = true) : arenaE ws rs = 0 := by unfold arenaE; rw [if_neg (by omega), h]; simp only [ha]; rfl

theorem all_take {l : List Int} {p : Int → Bool} {k : Nat} (hk : k < l.length) (h : (l.take k).all p = true) (hp : p l[k] = true) : (l.take (k + 1)).all p = true := by
  rw [List.take_succ_eq_append_getElem hk, List.all_append, h]; simp [hp]
theorem all_not {l : List Int} {p : Int → Bool} {k : Nat} (hk : k < l.length) (hp : p l[k] = false) : l.all p = false := by
  rw [List.all_eq_false]; exact ⟨l[k], List.getElem_mem hk, by simp [hp]⟩

theorem wflat_snoc {L : List (List Int)} {k : Nat} (hk : k < L.length) : (L.take (k + 1)).flatten = (L.take k).flatten ++ L[k] := by
  rw [List.take_succ_eq_append_getElem hk, List.flatten_append]; simp only [List.flatten_cons, List.flatten_nil, List.append_nil]

theorem flat_take_le {α : Type} (fs : List (List α)) (k : Nat) : (fs.take k).flatten.length ≤ tot fs := by
  have h1 := tot_flat (fs.take k)
  have h2 := tot_take_le fs k
  omega

theorem w_take_snoc {l : List Int} {j : Nat} (h : j < l.length) (pre : List Int) : wordsV (pre ++ l.take (j + 1)) = wordsV (pre ++ l.take j) ++ [.int .u64 l[j]] := by
  rw [List.take_succ_eq_append_getElem h, ← List.append_assoc, wordsV_snoc]

set_option maxRecDepth 100000 in
set_option maxHeartbeats 2000000 in
theorem rcheck_some (aw ar : Option Addr) (cw cr : Nat) (ws rs : List Int) (fs : List (List Int)) (B : Nat) (w : World) (hW : Wds B w aw ws) (hR : Wds B w ar rs) (hUW : U64 ws) (hUR : U64 rs) (hB : B ≤ w.heap.size)
    (h256 : ws.length ≤ 256) (h8 : rs.length ≤ 8) (hs : splitR ws = some fs) :
    Calls Try.prog 7 #[.agg #[.slice aw ws.length cw, .slice ar rs.length cr]] w fun e w' => e = .returned (.int .i64 (arenaE ws rs)) ∧ Below w.heap.size w w' := by
  obtain ⟨i0, hi, hz0, hz1, hz2⟩ := info_parts Try.info56
  have Hs := hide hs
  have htot := (splitR_st hs).1
  have hfl := tot_len fs
  clear hs
  have hb1 := (Below.refl w.heap.size w).alloc (Nat.le_refl _) (.cells #[.slice aw ws.length cw, .slice ar rs.length cr] 24)
  go_enter Try.func7, Try.ntmps7
  go_wp2_with fail
  refine (rstarts_c _ _ ws B _ (hW.below (hb1.mono hB)) hUW (by simp; omega) h256).mono ?_
  rintro e w2 ⟨hres, hb2⟩
  obtain ⟨fs', a', cap', he', hres⟩ := hres.resolve_left (fun h => by rw [unhide Hs] at h; cases h.1)
  rw [unhide Hs] at he'
  injection he' with he'
  subst he'
  obtain ⟨he, hI⟩ := hres
  subst he
  have hs2 := hb2.size
  simp only [World.size_alloc] at hs2 hb2
  have c0 : w2.cell? ⟨w.heap.size, 0, none⟩ = some (.slice aw ws.length cw) := by rw [hb2.cell (p := ⟨w.heap.size, 0, none⟩) (by simp)]; simp [go_sem]
  have c1 : w2.cell? ⟨w.heap.size, 1, none⟩ = some (.slice ar rs.length cr) := by rw [hb2.cell (p := ⟨w.heap.size, 1, none⟩) (by simp)]; simp [go_sem]
  have hbw : Below w.heap.size w w2 := hb1.trans (hb2.mono (by omega))
  have Hst := hide (stF_len fs 0)
  have Hsg := hide (fun k hk => stF_get fs 0 k hk)
  have HI := hide hI
  clear hb1 hb2 hI
  go_wp2
  go_loopw [5, 37] (fun s i wr => ∃ k : Nat, k ≤ rs.length ∧ i = .int .i64 k ∧ wr.ownsRow w2.heap.size 56 1 s k (wordsV ([] ++ rs.take k)) ∧ Below w2.heap.size w2 wr) (fun _ i _ => rs.length - (intOf i).toNat)
  case atStart => exact ⟨0, Nat.zero_le _, rfl, by simpa [wordsV] using World.ownsRow_nil _ _ _ _, Below.refl _ _⟩
  case round =>
    obtain ⟨k, hk, rfl, hown, hb⟩ := hrel
    have hsz := hb.size
    by_cases hlt : k < rs.length
    · obtain ⟨b, off, rfl, hbB, hc⟩ := (hR.below ((hbw.mono hB).trans (hb.mono (by omega)))).at hlt
      have HT := hide (w_take_snoc hlt [])
      generalize rs[k] = x at *
      go_wp2_with (at_builtin; go_must (refine wpList_append_own _ rfl _ _ 22 rfl w2.heap.size 56 i0 _ 1 8 Try.underlying22 hi hz0 hz1 hz2 rfl (by decide) _ _ _ rfl (hown.alloc _) ⟨wr.heap.size, 0, none⟩ 1 1 [.int .u64 x] rfl rfl (cell_one_at _ _ _ _ (by simp)) (by simp [Value.oneCell']) (by simp only [maxLen]; omega) (by omega) (by simp; omega) ?_); intro v' w1 hown' hgrow _)
      go_roundw
      case rel => exact ⟨k + 1, by omega, by go_num, by rw [unhide HT]; exact hown', (hb.alloc hsz _).grown hgrow (by simp; omega) (fun q e => (hown.lt q e).1)⟩
      case measure => simp [intOf]; omega
    · obtain rfl : k = rs.length := by omega
      go_wp2
      go_loopw [5, 48] (fun s i wr => ∃ k : Nat, k ≤ fs.length ∧ i = .int .i64 k ∧ wr.ownsRow w2.heap.size 56 1 s (rs ++ (fs.take k).flatten).length (wordsV (rs ++ (fs.take k).flatten)) ∧ Below w2.heap.size w2 wr) (fun _ i _ => fs.length - (intOf i).toNat)
      case atStart => exact ⟨0, Nat.zero_le _, rfl, by simpa using hown, hb⟩
      case round =>
        clear hown hb hsz
        obtain ⟨k, hk, rfl, hown, hb⟩ := hrel
        have hsz := hb.size
        have hbx : wr.cell? ⟨w.heap.size, 0, none⟩ = some (.slice aw ws.length cw) := by rw [hb.cell (p := ⟨w.heap.size, 0, none⟩) (by simp; omega)]; exact c0
        have hnp := flat_take_le fs k
        by_cases hlt : k < fs.length
        · obtain ⟨hp, hk1, hk2, hf0⟩ := split_obj (unhide Hs) hlt
          have Hf := hide hf0
          clear hf0
          have hltS : k < (stF 0 fs).length := by rw [unhide Hst]; exact hlt
          obtain ⟨b, off, rfl, hbB, hc⟩ := ((unhide HI).below hb).at hltS
          have Hsk := hide (show (stF 0 fs)[k] = ((tot (fs.take k) : Nat) : Int) from by have := unhide Hsg k hlt; rw [List.getElem?_eq_getElem hltS, Option.some.injEq, Nat.zero_add] at this; exact this)
          rw [unhide Hsk] at hc
          have HF := hide (wflat_snoc hlt)
          have hlP : (rs ++ (fs.take k).flatten).length ≤ 264 := by rw [List.length_append]; omega
          have hkI : (k : Int) < ((stF 0 fs).length : Int) := by omega
          generalize hpre : rs ++ (fs.take k).flatten = pre at *
          have Hpre := hide hpre
          clear hpre
          have Hcall := hide (rfields_c aw cw ws B wr (hW.below ((hbw.mono hB).trans (hb.mono (by omega)))) hUW (by omega) h256 _ hp hk1 hk2)
          have h4 : (fieldsAt ws (tot (fs.take k))).length ≤ 4 := by rw [fieldsAt_len hp hk2]; exact wlen_le hk1
          rw [← unhide Hf] at HF
          clear hk1 hk2 hp Hsk hltS Hf
          generalize fieldsAt ws (tot (fs.take k)) = f at *
          generalize tot (fs.take k) = p at *
          go_wp2_with fail
          refine (unhide Hcall).mono ?_
          rintro e w4 ⟨a4, cap4, he, hW4, hb4, Hr4⟩
          subst he
          have hs4 := hb4.size
          have hown4 := ownsRow_below hown hb4
          have HN4 : Hid (∀ q, (∀ x, q = some x → x < wr.heap.size) → WdsN q w4 a4 f) := fun q hq => ⟨hW4, fun _ b off ha e => by have := unhide Hr4 b off ha; have := hq b e; omega⟩
          have HN5 := hide (unhide HN4 _ (fun x hx => (hown.lt x hx).2))
          clear Hcall hown HN4 Hr4 hW4
          go_wp2
          go_loopw [5, 57] (fun s i wi => ∃ j : Nat, j ≤ f.length ∧ i = .int .i64 j ∧ wi.ownsRow w2.heap.size 56 1 s (pre.length + j) (wordsV (pre ++ f.take j)) ∧ Below w2.heap.size w2 wi ∧ Hid (WdsN s.ownBlock wi a4 f)) (fun _ i _ => f.length - (intOf i).toNat)
          case atStart => exact ⟨0, Nat.zero_le _, rfl, by simpa using hown4, hb.trans (hb4.mono hsz), HN5⟩
          case round =>
            clear hown4 hb hsz hb4 HN5 hbx hs4 hc
            obtain ⟨j, hj, rfl, hown, hb, HN⟩ := hrel
            have hsz := hb.size
            by_cases hlt2 : j < f.length
            · obtain ⟨b2, off2, rfl, hbB2, hc2⟩ := (unhide HN).1.at hlt2
              have HT := hide (w_take_snoc hlt2 pre)
              have HN2 := hide ((unhide HN).below ((Below.refl _ _).alloc (Nat.le_refl _) (.cells #[.int .u64 f[j]] 56)))
              generalize f[j] = y at *
              go_wp2_with (at_builtin; go_must (refine wpList_append_own_at _ rfl _ _ 22 rfl w2.heap.size 56 i0 _ 1 8 Try.underlying22 hi hz0 hz1 hz2 rfl (by decide) _ _ _ rfl (hown.alloc _) ⟨wr.heap.size, 0, none⟩ 1 1 [.int .u64 y] rfl rfl (cell_one_at _ _ _ _ (by simp)) (by simp [Value.oneCell']) (by simp only [maxLen]; omega) (by omega) (by simp; omega) ?_); go_must (intro v' w1 hown' hgrow _ hat))
              go_roundw
              case rel => exact ⟨j + 1, by omega, by go_num, by rw [unhide HT]; exact hown', (hb.alloc hsz _).grown hgrow (by simp; omega) (fun q e => (hown.lt q e).1), hide ((unhide HN2).append hgrow hat)⟩
              case measure => simp [intOf]; omega
            · obtain rfl : j = f.length := by omega
              go_wp2
              go_roundw
              case rel => exact ⟨k + 1, by omega, by go_num, by rw [unhide HF, ← List.append_assoc, unhide Hpre, List.length_append]; simpa using hown, hb⟩
              case measure => simp [intOf]; omega
        · obtain rfl : k = fs.length := by omega
          rw [List.take_length] at hown hnp
          have hbS := (unhide HI).below hb
          have hnl : (rs ++ fs.flatten).length ≤ 264 := by rw [List.length_append]; omega
          have HUl : Hid (U64 (rs ++ fs.flatten)) := u64_all (unhide Hs) hUW hUR
          have Hbad := hide (fun ha => arenaE_bad h256 h8 (unhide Hs) ha)
          have Hok := hide (fun ha => arenaE_ok h256 h8 (unhide Hs) ha)
          obtain ⟨al, cl, hv, hWl, Hr9⟩ := words_of_owns hown rfl (by omega)
          clear Hr9 hown hnp Hs Hsg
          have hkI : ¬ ((fs.length : Int) < ((stF 0 fs).length : Int)) := by rw [unhide Hst]; omega
          subst hv
          generalize rs ++ fs.flatten = l at *
          generalize stF 0 fs = st at *
          go_wp2
          go_loopw [69] (fun i wi => ∃ k : Nat, k ≤ l.length ∧ i = .int .i64 k ∧ Hid ((l.take k).all (okW st) = true) ∧ Below wr.heap.size wr wi) (fun i _ => l.length - (intOf i).toNat)
          case atStart => exact ⟨0, Nat.zero_le _, rfl, by show (l.take 0).all (okW st) = true; simp, Below.refl _ _⟩
          case round =>
            obtain ⟨k, hk, rfl, Ha, hbi⟩ := hrel
            by_cases hlt : k < l.length
            · obtain ⟨b, off, rfl, hbB, hc⟩ := (hWl.below hbi).at hlt
              have hu := unhide HUl _ (List.getElem_mem hlt)
              have HA := hide (fun hp => all_take (p := okW st) hlt (unhide Ha) hp)
              have HB := hide (fun hp => all_not (p := okW st) hlt hp)
              generalize l[k] = x at *
              by_cases hE : unErr x = 0
              · have HE := hide hE
                cases hr : unRef x
                · have Hr := hide hr
                  have Hnx := hide (unhide HA (by simp [okW, hE, hr]))
                  clear hE hr
                  go_wp2_with (go_at_call 27; go_must (refine (runpack_c x _ hu.1 hu.2).mono ?_); go_must (rintro e w3 ⟨he, hb3⟩; rw [unhide Hr, unhide HE] at he; subst he))
                  go_roundw
                  case rel => exact ⟨k + 1, by omega, by go_num, Hnx, (hbi.trans (hb3.mono hbi.size)).alloc (by have := hb3.size; have := hbi.size; omega) _⟩
                  case measure => simp [intOf]; omega
                · have Hr := hide hr
                  by_cases hm : unNum x ∈ st
                  · have Hnx := hide (unhide HA (by simp [okW, hE, hr, hm]))
                    have Hm := hide hm
                    clear hE hr hm
                    go_wp2_with (first
                      | (go_at_call 27; go_must (refine (runpack_c x _ hu.1 hu.2).mono ?_); go_must (rintro e w3 ⟨he, hb3⟩; rw [unhide Hr, unhide HE] at he; subst he; have hS3 := (hbS.mono hsz).below (hbi.trans (hb3.mono hbi.size))))
                      | (go_at_call 16; go_must (refine (has_c _ _ st (unNum x) _ _ (hS3.below ((Below.refl _ _).alloc (by have := hb3.size; have := hbi.size; omega) _))).mono ?_); go_must (rintro e w4 ⟨he, hw4⟩; rw [decide_eq_true (unhide Hm)] at he; subst he; have hw4 := hw4.symm; subst hw4)))
                    go_roundw
                    case rel => exact ⟨k + 1, by omega, by go_num, Hnx, (hbi.trans (hb3.mono hbi.size)).alloc (by have := hb3.size; have := hbi.size; omega) _⟩
                    case measure => simp [intOf]; omega
                  · have Hno := hide (unhide Hbad (unhide HB (by simp [okW, hE, hr, hm])))
                    have Hm := hide hm
                    clear hE hr hm
                    go_wp2_with (first
                      | (go_at_call 27; go_must (refine (runpack_c x _ hu.1 hu.2).mono ?_); go_must (rintro e w3 ⟨he, hb3⟩; rw [unhide Hr, unhide HE] at he; subst he; have hS3 := (hbS.mono hsz).below (hbi.trans (hb3.mono hbi.size))))
                      | (go_at_call 16; go_must (refine (has_c _ _ st (unNum x) _ _ (hS3.below ((Below.refl _ _).alloc (by have := hb3.size; have := hbi.size; omega) _))).mono ?_); go_must (rintro e w4 ⟨he, hw4⟩; rw [decide_eq_false (unhide Hm)] at he; subst he; have hw4 := hw4.symm; subst hw4)))
                    go_ret
                    exact ⟨ret_int (unhide Hno).symm, hbw.trans ((hb.trans ((hbi.trans (hb3.mono hbi.size)).mono hsz)).mono (by omega) |>.alloc (by have := hb3.size; have := hbi.size; omega) _)⟩
              · have HE := hide (unErr_two hE)
                have Hno := hide (unhide Hbad (unhide HB (by simp [okW, hE])))
                clear hE
                go_wp2_with (go_at_call 27; go_must (refine (runpack_c x _ hu.1 hu.2).mono ?_); go_must (rintro e w3 ⟨he, hb3⟩; rw [unhide HE] at he; subst he))
                go_ret
                exact ⟨ret_int (unhide Hno).symm, hbw.trans ((hb.trans ((hbi.trans (hb3.mono hbi.size)).mono hsz)).mono (by omega) |>.alloc (by have := hb3.size; have := hbi.size; omega) _)⟩
            · obtain rfl : k = l.length := by omega
              have ha := unhide Ha
              rw [List.take_length] at ha
              have Hz := hide (unhide Hok ha)
              clear ha
              go_wp2
              go_ret
              exact ⟨ret_int (unhide Hz).symm, hbw.trans ((hb.trans (hbi.mono hsz)).mono (by omega))⟩

end Go.Proofs.Ytemjhdbmcdlpeaa

/- Walks: ArenaCheck whole; sound. -/
namespace Go.Proofs.Ytemjhdbmcdlpeaa
set_option linter.unusedSimpArgs false
set_option linter.unusedVariables false
open Go.RowKit

set_option maxRecDepth 100000 in
set_option maxHeartbeats 1000000 in
theorem rcheck_c (aw ar : Option Addr) (cw cr : Nat) (ws rs : List Int) (B : Nat) (w : World) (hW : Wds B w aw ws) (hR : Wds B w ar rs) (hUW : U64 ws) (hUR : U64 rs) (hB : B ≤ w.heap.size) :
    Calls Try.prog 7 #[.agg #[.slice aw ws.length cw, .slice ar rs.length cr]] w fun e w' => e = .returned (.int .i64 (arenaE ws rs)) ∧ Below w.heap.size w w' := by
  have hb1 := (Below.refl w.heap.size w).alloc (Nat.le_refl _) (.cells #[.slice aw ws.length cw, .slice ar rs.length cr] 24)
  have hw1 := hW.1
  have hr1 := hR.1
  by_cases h256 : ws.length ≤ 256
  · by_cases h8 : rs.length ≤ 8
    · cases hs : splitR ws with
      | some fs => exact rcheck_some aw ar cw cr ws rs fs B w hW hR hUW hUR hB h256 h8 hs
      | none =>
        have HE := hide (arenaE_form h256 h8 hs)
        have Hs := hide hs
        clear hs
        go_enter Try.func7, Try.ntmps7
        go_wp2_with fail
        refine (rstarts_c _ _ ws B _ (hW.below (hb1.mono hB)) hUW (by simp; omega) h256).mono ?_
        rintro e w2 ⟨hres, hb2⟩
        obtain ⟨_, he⟩ := hres.resolve_right (fun ⟨_, _, _, h, _⟩ => by rw [unhide Hs] at h; cases h)
        subst he
        go_wp2
        go_ret
        exact ⟨ret_int (unhide HE).symm, hb1.trans (hb2.mono (by simp))⟩
    · have HE := hide (arenaE_large (ws := ws) (.inr (show 8 < rs.length by omega)))
      have d1 : decide (256 < (ws.length : Int)) = false := by simp; omega
      have d2 : decide (8 < (rs.length : Int)) = true := by simp; omega
      go_enter Try.func7, Try.ntmps7
      go_wp2
      go_ret
      exact ⟨ret_int (unhide HE).symm, hb1⟩
  · have HE := hide (arenaE_large (rs := rs) (.inl (show 256 < ws.length by omega)))
    have d1 : decide (256 < (ws.length : Int)) = true := by simp; omega
    go_enter Try.func7, Try.ntmps7
    go_wp2
    go_ret
    exact ⟨ret_int (unhide HE).symm, hb1⟩

set_option maxRecDepth 100000 in
set_option maxHeartbeats 400000 in
theorem sound_c (aw ar : Option Addr) (cw cr : Nat) (ws rs : List Int) (B : Nat) (w : World) (hW : Wds B w aw ws) (hR : Wds B w ar rs) (hUW : U64 ws) (hUR : U64 rs) (hB : B ≤ w.heap.size) :
    Calls Try.prog 11 #[.agg #[.slice aw ws.length cw, .slice ar rs.length cr]] w fun e w' => e = .returned (.bool (arenaE ws rs == 0)) ∧ Below w.heap.size w w' := by
  have hb1 := (Below.refl w.heap.size w).alloc (Nat.le_refl _) (.cells #[.slice aw ws.length cw, .slice ar rs.length cr] 24)
  go_enter Try.func11, Try.ntmps11
  go_wp2_with (go_at_call 7; go_must (refine (rcheck_c _ _ _ _ ws rs B _ (hW.below (hb1.mono hB)) (hR.below (hb1.mono hB)) hUW hUR (by simp; omega)).mono ?_); rintro e w2 ⟨rfl, hb2⟩)
  go_ret
  exact ⟨rfl, hb1.trans (hb2.mono (by simp))⟩

end Go.Proofs.Ytemjhdbmcdlpeaa

/- Walks: the closure of split. -/
namespace Go.Proofs.Ytemjhdbmcdlpeaa
set_option linter.unusedSimpArgs false
set_option linter.unusedVariables false
open Go.RowKit Go.Shelf

theorem Try.info22 : (Try.prog.info? 22).map (fun i => (i.zero, i.size, i.bytes)) = some (some (.slice none 0 0), 1, 24) := by kernel_rfl

/-- The elements of a row of parts of words. -/
def ElsOk (B : Nat) (w0 : World) (D : List (List Int)) (es : List Value) : Prop :=
  ∀ (k : Nat) (f : List Int), D[k]? = some f → ∃ ai ci, es[k]? = some (.slice ai f.length ci) ∧ Wds B w0 ai f

theorem elsOk_snoc {B : Nat} {w0 : World} {D : List (List Int)} {es : List Value} (h : ElsOk B w0 D es) (hl : es.length = D.length) {f : List Int} {ai : Option Addr} {ci : Nat} (hf : Wds B w0 ai f) : ElsOk B w0 (D ++ [f]) (es ++ [.slice ai f.length ci]) := by
  intro k g hk
  by_cases hlt : k < D.length
  · rw [List.getElem?_append_left hlt] at hk
    obtain ⟨a, c, h1, h2⟩ := h k g hk
    exact ⟨a, c, by rw [List.getElem?_append_left (by omega)]; exact h1, h2⟩
  · rw [List.getElem?_append_right (by omega)] at hk
    rcases Nat.eq_zero_or_pos (k - D.length) with h0 | h0
    · rw [h0] at hk
      simp at hk
      subst hk
      refine ⟨ai, ci, ?_, hf⟩
      rw [List.getElem?_append_right (by omega), show k - es.length = 0 from by omega]; rfl
    · rw [List.getElem?_eq_none (by simp; omega)] at hk; cases hk

/-- A row of words, so far split, in memory. -/
structure Rowd (W w0 : World) (B mb : Nat) (D : List (List Int)) (vs vf : Value) (es : List Value) (M : DataW Unit) : Prop where
  box : FBox W mb vs vf
  st : W.ownsRow (mb + 2) 3 1 vs D.length (intsV (stF 0 D))
  fl : W.ownsRow (mb + 2) 22 1 vf D.length es
  el : ElsOk B w0 D es
  map : W.ownsMap Try.prog 3 (plainElem Try.prog 3) mb D.length M
  plc : PlaceD M (stF 0 D)
  apart : ∀ k, vs.ownBlock = some k → vf.ownBlock ≠ some k

theorem grown_none {W W' : World} (hb : Below W.heap.size W W') : W.grownBy W' none := ⟨hb.os, hb.tape, hb.output, hb.size, fun k hk _ => hb.block k hk⟩

theorem Rowd.below {W W' w0 : World} {B mb : Nat} {D : List (List Int)} {vs vf : Value} {es : List Value} {M : DataW Unit} (h : Rowd W w0 B mb D vs vf es M) (hb : Below W.heap.size W W') : Rowd W' w0 B mb D vs vf es M :=
  ⟨h.box.kept (hb.block _ h.box.lt), ownsRow_below h.st hb, ownsRow_below h.fl hb, h.el, h.map.kept (grown_none hb) (by simp), h.plc, h.apart⟩

theorem Rowd.setCell {W w0 : World} {B mb : Nat} {D : List (List Int)} {vs vf : Value} {es : List Value} {M : DataW Unit} (h : Rowd W w0 B mb D vs vf es M) (p : Addr) (hp : p.block < mb) (u : Value) : Rowd (W.setCell p u) w0 B mb D vs vf es M :=
  ⟨h.box.kept (Below.heap_setCell _ _ _ _ (by omega)), ownsRow_setCell_below h.st (by omega) u, ownsRow_setCell_below h.fl (by omega) u, h.el, h.map.setCell (by omega) u, h.plc, h.apart⟩

theorem row_step {X w0 w1 w2 w3 : World} {B mb : Nat} {D : List (List Int)} {vs vf v1 v2 : Value} {es : List Value} {M : DataW Unit} {f : List Int} {ai : Option Addr} {ci : Nat} {o1 o2 : Obj}
    (hR : Rowd X w0 B mb D vs vf es M) (hf : Wds B w0 ai f) (hg1 : X.grownBy w1 (some mb)) (hm1 : w1.ownsMap Try.prog 3 (plainElem Try.prog 3) mb (D.length + 1) (M.put (.int .i64 (tot D : Nat)) (.lit (.int .i64 D.length))))
    (hst2 : w2.ownsRow (mb + 2) 3 1 v1 (D.length + 1) (intsV (stF 0 D) ++ [.int .i64 (tot D : Nat)])) (hg2 : (w1.alloc o1).grownBy w2 vs.ownBlock) (hat2 : v1.ownBlock = vs.ownBlock ∨ v1.ownBlock = some (w1.alloc o1).heap.size)
    (hfl4 : w3.ownsRow (mb + 2) 22 1 v2 (D.length + 1) (es ++ [.slice ai f.length ci])) (hg3 : ((w2.setCell ⟨mb + 1, 0, none⟩ v1).alloc o2).grownBy w3 vf.ownBlock)
    (hat3 : v2.ownBlock = vf.ownBlock ∨ v2.ownBlock = some ((w2.setCell ⟨mb + 1, 0, none⟩ v1).alloc o2).heap.size) :
    Rowd (w3.setCell ⟨mb + 1, 1, none⟩ v2) w0 B mb (D ++ [f]) v1 v2 (es ++ [.slice ai f.length ci]) (M.put (.int .i64 (tot D : Nat)) (.lit (.int .i64 D.length))) ∧ Below mb X (w3.setCell ⟨mb + 1, 1, none⟩ v2) := by
  have hlX := hR.box.lt
  have hbox1 : FBox w1 mb vs vf := hR.box.kept (hg1.block _ hlX (by simp))
  have hst1 := hR.st.kept hg1 (.inr fun e => by have := (hR.st.lt _ e).1; omega)
  have hfl1 := hR.fl.kept hg1 (.inr fun e => by have := (hR.fl.lt _ e).1; omega)
  have hl1 := hbox1.lt
  have hs1 := hg1.size
  have hs2 := hg2.size
  have hs3 := hg3.size
  simp only [World.size_alloc] at hs2 hat2
  have hsz : ((w2.setCell ⟨mb + 1, 0, none⟩ v1).alloc o2).heap.size = w2.heap.size + 1 := by simp [World.setCell]
  rw [hsz] at hs3 hat3
  have lo := fun k e => (hst1.lt k e)
  have ld := fun k e => (hfl1.lt k e)
  have hbox2 := (hbox1.kept (Below.heap_alloc _ o1 _ hl1)).kept (hg2.block _ (by simp; omega) (fun e => by have := (lo _ e.symm).1; omega))
  have hfl2 := (hfl1.alloc o1).kept hg2 (apart_inr hR.apart)
  have hmp2 := (hm1.alloc o1).kept hg2 (fun e => by have := (lo _ e.symm).1; omega)
  have hbox3 := hbox2.set0 v1
  have hst3 := ownsRow_setCell_below hst2 (a := ⟨mb + 1, 0, none⟩) (by simp) v1
  have hmp3 := hmp2.setCell (a := ⟨mb + 1, 0, none⟩) (by simp) v1
  have hbox4 := (hbox3.kept (Below.heap_alloc _ o2 _ hbox3.lt)).kept (hg3.block _ (by rw [hsz]; omega) (fun e => by have := (ld _ e.symm).1; omega))
  have hv1d : ∀ k, v1.ownBlock = some k → vf.ownBlock ≠ some k := by
    intro k hk hd
    rcases hat2 with h | h
    · exact hR.apart k (h ▸ hk) hd
    · have := (ld k hd).2; rw [h] at hk; injection hk; omega
  have hst4 := (hst3.alloc o2).kept hg3 (by cases hv : v1.ownBlock with | none => exact .inl rfl | some k => exact .inr fun e => hv1d k hv e.symm)
  have hmp4 := (hmp3.alloc o2).kept hg3 (fun e => by have := (ld _ e.symm).1; omega)
  have hbox5 := hbox4.set1 v2
  have hx : ((tot D : Nat) : Int) ∉ stF 0 D := fun h => by have := stF_mem D 0 _ h; omega
  have hplc := placeD_put hR.plc hR.map.isMap hx
  rw [stF_len] at hplc
  have esn : stF 0 (D ++ [f]) = stF 0 D ++ [((tot D : Nat) : Int)] := by rw [stF_snoc, Nat.zero_add]
  refine ⟨⟨hbox5, ?_, ?_, elsOk_snoc hR.el (by have := hR.fl.1; omega) hf, ?_, by rw [esn]; exact hplc, ?_⟩, ?_⟩
  · rw [esn, intsV_snoc, List.length_append]
    exact ownsRow_setCell_below hst4 (a := ⟨mb + 1, 1, none⟩) (by simp) v2
  · rw [List.length_append]
    exact ownsRow_setCell_below hfl4 (a := ⟨mb + 1, 1, none⟩) (by simp) v2
  · rw [List.length_append]
    exact hmp4.setCell (a := ⟨mb + 1, 1, none⟩) (by simp) v2
  · intro k hk hd
    rcases hat3 with h | h
    · exact hv1d k hk (h ▸ hd)
    · have := (hst2.lt k hk).2; rw [h] at hd; injection hd; omega
  · have b1 : Below mb X w1 := (Below.refl mb X).grown hg1 (by omega) (fun k e => by injection e; omega)
    have b2 : Below mb X w2 := (b1.alloc (by omega) o1).grown hg2 (by simp; omega) (fun k e => by have := (lo _ e).1; omega)
    have b3 := (b2.setCell (p := ⟨mb + 1, 0, none⟩) (by simp) v1).alloc (by simp [World.setCell]; omega) o2
    exact (b3.grown hg3 (by rw [hsz]; omega) (fun k e => by have := (ld _ e).1; omega)).setCell (p := ⟨mb + 1, 1, none⟩) (by simp) v2

set_option maxRecDepth 100000 in
set_option maxHeartbeats 2000000 in
theorem split1_c (mb B : Nat) (D : List (List Int)) (f : List Int) (ai : Option Addr) (ci : Nat) (vs vf : Value) (es : List Value) (M : DataW Unit) (X w0 : World)
    (hR : Rowd X w0 B mb D vs vf es M) (hf : Wds B w0 ai f) (hD : tot D ≤ 256) :
    Calls Try.prog 67 #[.int .i64 (tot D : Nat), .slice ai f.length ci, .pointer (some ⟨mb + 1, 0, none⟩)] X fun e W' => e = .returned (.tuple #[]) ∧ (∃ vs vf es M, Rowd W' w0 B mb (D ++ [f]) vs vf es M) ∧ Below mb X W' := by
  obtain ⟨i0, hi, hz0, hz1, hz2⟩ := info_parts Try.info3
  obtain ⟨i1, hi1, hy0, hy1, hy2⟩ := info_parts Try.info22
  have hlX := hR.box.lt
  have hDl := tot_len D
  have hc0 := hR.box.c0
  have hc1 := hR.box.c1
  have hc2 := hR.box.c2
  obtain ⟨sa, sc, rfl⟩ := ownsRow_slice hR.st
  obtain ⟨fa, fc, rfl⟩ := ownsRow_slice hR.fl
  have Hkey := hide (Maps.keyOf_int_mk Try.underlying3 (wf_i64 (x := ((tot D : Nat) : Int)) (by omega) (by omega)))
  have Hval := hide (show plainElem (H := Unit) Try.prog 3 (.int .i64 (D.length : Int)) = some (.lit (.int .i64 (D.length : Int)), []) from plainElem_int Try.underlying3 (wf_i64 (by omega) (by omega)))
  have Hstep := hide (fun w1 w2 w3 v1 v2 o1 o2 => @row_step X w0 w1 w2 w3 B mb D (.slice sa D.length sc) (.slice fa D.length fc) v1 v2 es M f ai ci o1 o2 hR hf)
  have hsl := hR.st
  have hfl := hR.fl
  have hmp := hR.map
  have Hbox := hide hR.box
  have Hap := hide hR.apart
  clear hR
  generalize hp : tot D = p at *
  clear hp
  generalize stF 0 D = st at *
  generalize hn : D.length = n at *
  clear hn
  go_enter Try.func67, Try.ntmps67
  go_wp2_with (first
    | (at_mapUpdate; go_must (refine wpList_mapUpdate_own _ rfl _ _ _ 52 rfl 3 3 (Maps.int_keyed Try.underlying3) Try.underlying52 _ mb n M rfl hmp (by simp only [maxLen]; omega) _ _ _ rfl rfl (unhide Hkey) _ [] (unhide Hval) ?_); go_must (intro w1 hmap1 hg1; have hs11 := hg1.size; have hblk1 := hg1.block _ hlX (by simp); have hbox1 := (unhide Hbox).kept hblk1; have hsl1 := hsl.kept hg1 (.inr fun e => by have := (hsl.lt _ e).1; omega); have hfl1 := hfl.kept hg1 (.inr fun e => by have := (hfl.lt _ e).1; omega); have hd0 := hbox1.c0; have hd1 := hbox1.c1; have he0 := hbox1.f0; have hq1 : mb + 1 < w1.heap.size := hbox1.lt))
    | (at_builtin; refine wpList_append_own_at _ rfl _ _ 102 rfl (mb + 2) 22 i1 _ 1 24 Try.underlying102 hi1 hy0 hy1 hy2 rfl (by decide) _ _ _ rfl hfl3 _ 1 1 [.slice ai f.length ci] rfl rfl (cell_one_at _ _ _ _ (by simp)) (by simp [Value.oneCell']) (by simp only [maxLen]; omega) (by omega) (by simp; omega) ?_; go_must (intro v2 w3 hfl4 hg3 _ hat3; obtain ⟨g2, cap2, hv2⟩ := ownsRow_succ hfl4; subst hv2; have hbox4 := (hbox3.kept (Below.heap_alloc _ (.cells #[.slice ai f.length ci] 22) _ hbox3.lt)).kept (hg3.block _ (by have := hbox3.lt; simp at this; simp; omega) (fun e => by have := (hfl1.lt _ e.symm).1; omega)); have hd4 := hbox4.c1; have he4 := hbox4.f1))
    | (at_builtin; go_must (refine wpList_append_own_at _ rfl _ _ 38 rfl (mb + 2) 3 i0 _ 1 8 Try.underlying38 hi hz0 hz1 hz2 rfl (by decide) _ _ _ rfl (hsl1.alloc _) ⟨w1.heap.size, 0, none⟩ 1 1 [.int .i64 (p : Int)] rfl rfl (cell_one_at _ _ _ _ (by simp)) (by simp [Value.oneCell']) (by simp only [maxLen]; omega) (by omega) (by simp; omega) ?_); go_must (intro v1 w2 hst2 hg2 _ hat2; obtain ⟨g1, cap1, hv1⟩ := ownsRow_succ hst2; subst hv1; have hg2s := hg2.size; simp only [World.size_alloc] at hg2s; have hbox2 := (hbox1.kept (Below.heap_alloc _ (.cells #[.int .i64 (p : Int)] 3) _ hq1)).kept (hg2.block _ (by simp; omega) (fun e => by have := (hsl1.lt _ e.symm).1; omega)); have hfl2 := (hfl1.alloc (.cells #[.int .i64 (p : Int)] 3)).kept hg2 (apart_inr (unhide Hap)); have hd2 := hbox2.c0; have he2 := hbox2.f0; have hbox3 := hbox2.set0 (.slice (some ⟨g1, 0, none⟩) (n + 1) cap1); have hfl3 := (ownsRow_setCell_below hfl2 (a := ⟨mb + 1, 0, none⟩) (by simp) (.slice (some ⟨g1, 0, none⟩) (n + 1) cap1)).alloc (.cells #[.slice ai f.length ci] 22); have hd3 := hbox3.c1)))
  obtain ⟨r1, r2⟩ := unhide Hstep _ _ _ _ _ _ _ hg1 hmap1 hst2 hg2 hat2 hfl4 hg3 hat3
  exact bodyPost_end (v := .tuple #[]) (results_none rfl _ _ _) rfl ⟨rfl, ⟨_, _, _, _, r1⟩, r2⟩

end Go.Proofs.Ytemjhdbmcdlpeaa

/- Walks: walk. -/
namespace Go.Proofs.Ytemjhdbmcdlpeaa
set_option linter.unusedSimpArgs false
set_option linter.unusedVariables false
open Go.RowKit Go.Shelf

theorem wds_nil {B : Nat} {w : World} {a : Option Addr} {l : List Int} (h : l.length = 0) : Wds B w a l := ⟨by omega, fun hne => absurd (List.eq_nil_of_length_eq_zero h) hne⟩

def WalkRes (ws : List Int) (w0 : World) (B mb : Nat) (e : Ending) (W : World) : Prop :=
  (splitR ws = none ∧ e = .returned (.int .i64 4) ∧ ∃ D vs vf es M, D.length ≤ 256 ∧ Rowd W w0 B mb D vs vf es M) ∨ ∃ fs vs vf es M, splitR ws = some fs ∧ e = .returned (.int .i64 0) ∧ Rowd W w0 B mb fs vs vf es M

set_option maxRecDepth 100000 in
set_option maxHeartbeats 2000000 in
theorem walk_c (a : Option Addr) (cap : Nat) (ws : List Int) (B mb : Nat) (w0 W : World) (vs0 vf0 : Value) (es0 : List Value) (M0 : DataW Unit) (hl : Wds B w0 a ws) (hU : U64 ws) (hn : ws.length ≤ 256) (hcap : ws.length ≤ cap)
    (hB : B ≤ mb) (hb0 : Below mb w0 W) (hR0 : Rowd W w0 B mb [] vs0 vf0 es0 M0) :
    Calls Try.prog 66 #[.slice a ws.length cap, .func (.func 67) #[] #[.pointer (some ⟨mb + 1, 0, none⟩)]] W fun e w' => WalkRes ws w0 B mb e w' ∧ Below mb W w' := by
  go_enter Try.func66, Try.ntmps66
  go_wp2
  go_loopw [5] (fun i wr => ∃ D : List (List Int), Hid (SpAt ws D) ∧ i = .int .i64 (tot D : Nat) ∧ Hid (∃ vs vf es M, Rowd wr w0 B mb D vs vf es M) ∧ Below mb W wr) (fun i _ => ws.length - (intOf i).toNat)
  case atStart => exact ⟨[], hide (spAt_nil _), rfl, hide ⟨_, _, _, _, hR0⟩, Below.refl _ _⟩
  case round =>
    obtain ⟨D, Hsp, rfl, HR, hb⟩ := hrel
    have hle := (unhide Hsp).le
    have hDl := tot_len D
    have hlt0 : mb + 1 < wr.heap.size := by obtain ⟨vs, vf, es, M, h⟩ := unhide HR; exact h.box.lt
    have HRb : Hid (∀ W', Below wr.heap.size wr W' → ∃ D vs vf es M, D.length ≤ 256 ∧ Rowd W' w0 B mb D vs vf es M) := fun W' h => by obtain ⟨vs, vf, es, M, hr⟩ := unhide HR; exact ⟨_, _, _, _, _, by omega, hr.below h⟩
    by_cases hlt : tot D < ws.length
    · obtain ⟨b, off, rfl, hbB, hc⟩ := (hl.below ((hb0.trans hb).mono hB)).at hlt
      have hu := hU _ (List.getElem_mem hlt)
      have Hst := hide (fun h1 h2 => (unhide Hsp).step hlt h1 h2)
      have Hbad := hide (fun h => (unhide Hsp).bad hlt h)
      have Hsub := hide (hl.sub (tot D + 1) (wlen ws[tot D]))
      generalize ws[tot D] = x at *
      cases hk : unheadOk x
      · have HE := hide (uhE_bad hk)
        have Hn := hide (unhide Hbad (.inl hk))
        clear hk Hsub Hst Hbad Hsp
        generalize tot D = p at *
        go_wp2_with (go_at_call 59; go_must (refine (unhead_c x _ hu.1 hu.2).mono ?_); go_must (rintro e w3 ⟨he, hb3⟩; rw [unhide HE] at he; subst he))
        go_ret
        have hba := hb3.alloc (by have := hb3.size; omega) (.cells #[.int .i64 (uhL x), .bool (uhM x), .int .i64 (uhA x)] 32)
        exact ⟨.inl ⟨unhide Hn, rfl, unhide HRb _ hba⟩, hb.trans (hba.mono (by omega))⟩
      · have HE := hide (uhE_ok hk)
        have HL := hide (uhL_wlen hk)
        have h4 := wlen_le hk
        by_cases hend : tot D + 1 + wlen x ≤ ws.length
        · have Hst2 := hide (unhide Hst hk hend)
          have Hfl : Hid (((ws.drop (tot D + 1)).take (wlen x)).length = wlen x) := by show _ = _; rw [List.length_take, List.length_drop]; omega
          have Hcall : Hid (∀ ai ci W', Wds B w0 ai ((ws.drop (tot D + 1)).take (wlen x)) → Below wr.heap.size wr W' → Calls Try.prog 67 #[.int .i64 (tot D : Nat), .slice ai (wlen x) ci, .pointer (some ⟨mb + 1, 0, none⟩)] W' fun e W'' => e = .returned (.tuple #[]) ∧ (∃ vs vf es M, Rowd W'' w0 B mb (D ++ [(ws.drop (tot D + 1)).take (wlen x)]) vs vf es M) ∧ Below mb W' W'') := by
            intro ai ci W' hai hb'
            obtain ⟨vs, vf, es, M, hr⟩ := unhide HR
            have := split1_c mb B D ((ws.drop (tot D + 1)).take (wlen x)) ai ci vs vf es M W' w0 (hr.below hb') hai (by omega)
            rw [unhide Hfl] at this
            exact this
          clear hk Hst Hbad Hsp HR HRb
          generalize hpp : (ws.drop (tot D + 1)).take (wlen x) = f at *
          clear hpp
          generalize hD2 : D ++ [f] = D2 at *
          clear hD2
          generalize wlen x = n at *
          generalize tot D = p at *
          have w1 : IntKind.i64.wrap ((p : Int) + 1) = (p : Int) + 1 := by rw [IntKind.wrap_i64]; omega
          have w2 : IntKind.i64.wrap ((p : Int) + 1 + (n : Int)) = (p : Int) + 1 + (n : Int) := by rw [IntKind.wrap_i64]; omega
          have d1 : decide ((p : Int) + 1 + (n : Int) > (ws.length : Int)) = false := by simp; omega
          have d2 : decide ((ws.length : Int) < (p : Int) + 1 + (n : Int)) = false := by simp; omega
          by_cases hcp : cap = p + 1
          · subst hcp
            go_wp2_with (first
              | (go_at_call 59; go_must (refine (unhead_c x _ hu.1 hu.2).mono ?_); go_must (rintro e w3 ⟨he, hb3⟩; rw [unhide HE, unhide HL] at he; subst he; have hs3 := hb3.size))
              | fail)
            refine (unhide Hcall _ _ _ (by first | exact unhide Hsub | exact wds_nil (by have := unhide Hfl; omega)) (hb3.alloc hs3 _)).mono ?_
            rintro e w4 ⟨rfl, hR4, hb4⟩
            have HR4 := hide hR4
            clear hR4
            go_wp2
            go_roundw
            case rel => exact ⟨D2, hide (unhide Hst2).1, by rw [(unhide Hst2).2]; go_num, HR4, (hb.trans ((hb3.alloc hs3 _).mono (by omega))).trans hb4⟩
            case measure => simp [intOf]; omega
          · have hcp1 : p + 1 < cap := by omega
            go_wp2_with (first
              | (go_at_call 59; go_must (refine (unhead_c x _ hu.1 hu.2).mono ?_); go_must (rintro e w3 ⟨he, hb3⟩; rw [unhide HE, unhide HL] at he; subst he; have hs3 := hb3.size))
              | fail)
            refine (unhide Hcall _ _ _ (by first | exact unhide Hsub | exact wds_nil (by have := unhide Hfl; omega)) (hb3.alloc hs3 _)).mono ?_
            rintro e w4 ⟨rfl, hR4, hb4⟩
            have HR4 := hide hR4
            clear hR4
            go_wp2
            go_roundw
            case rel => exact ⟨D2, hide (unhide Hst2).1, by rw [(unhide Hst2).2]; go_num, HR4, (hb.trans ((hb3.alloc hs3 _).mono (by omega))).trans hb4⟩
            case measure => simp [intOf]; omega
        · have Hn := hide (unhide Hbad (.inr (by omega)))
          clear hk Hst Hbad Hsub Hsp
          generalize wlen x = n at *
          generalize tot D = p at *
          have w1 : IntKind.i64.wrap ((p : Int) + 1) = (p : Int) + 1 := by rw [IntKind.wrap_i64]; omega
          have w2 : IntKind.i64.wrap ((p : Int) + 1 + (n : Int)) = (p : Int) + 1 + (n : Int) := by rw [IntKind.wrap_i64]; omega
          have d2 : decide ((ws.length : Int) < (p : Int) + 1 + (n : Int)) = true := by simp; omega
          go_wp2_with (go_at_call 59; go_must (refine (unhead_c x _ hu.1 hu.2).mono ?_); go_must (rintro e w3 ⟨he, hb3⟩; rw [unhide HE, unhide HL] at he; subst he))
          go_ret
          have hba := hb3.alloc (by have := hb3.size; omega) (.cells #[.int .i64 (n : Int), .bool (uhM x), .int .i64 (uhA x)] 32)
          exact ⟨.inl ⟨unhide Hn, rfl, unhide HRb _ hba⟩, hb.trans (hba.mono (by omega))⟩
    · have Hfin := hide ((unhide Hsp).fin (by omega))
      generalize tot D = p at *
      go_wp2
      go_ret
      obtain ⟨vs, vf, es, M, hr⟩ := unhide HR
      exact ⟨.inr ⟨D, vs, vf, es, M, unhide Hfin, rfl, hr⟩, hb⟩

end Go.Proofs.Ytemjhdbmcdlpeaa

/- Walks: split. -/
namespace Go.Proofs.Ytemjhdbmcdlpeaa
set_option linter.unusedSimpArgs false
set_option linter.unusedVariables false
open Go.RowKit Go.Shelf

def SplitRes (ws : List Int) (w0 : World) (B : Nat) (e : Ending) (W : World) : Prop :=
  ∃ mb vs vf es M D er, e = .returned (.tuple #[.agg #[vs, vf, .map (some mb)], .int .i64 er]) ∧ w0.heap.size ≤ mb ∧ D.length ≤ 256 ∧ Rowd W w0 B mb D vs vf es M ∧ ((splitR ws = none ∧ er = 4) ∨ (splitR ws = some D ∧ er = 0))

set_option maxRecDepth 100000 in
set_option maxHeartbeats 2000000 in
theorem split_c (a : Option Addr) (cap : Nat) (ws : List Int) (B : Nat) (w : World) (hl : Wds B w a ws) (hU : U64 ws) (hn : ws.length ≤ 256) (hcap : ws.length ≤ cap) (hB : B ≤ w.heap.size) :
    Calls Try.prog 61 #[.slice a ws.length cap] w fun e w' => SplitRes ws w B e w' ∧ Below w.heap.size w w' := by
  have hmm := @run_makeMap Try.prog
  have hW0 : ∀ W0, (((w.alloc (.cells #[.slice none 0 0, .slice none 0 0, .map none] 104)).alloc (.map #[] 0)).alloc (.cells #[.slice none 0 0, .slice none 0 0, .map (some (w.heap.size + 1))] 104)) = W0 →
      Rowd W0 w B (w.heap.size + 1) [] (.slice none 0 0) (.slice none 0 0) [] (.map []) ∧ Below (w.heap.size + 1) (w.alloc (.cells #[.slice none 0 0, .slice none 0 0, .map none] 104)) W0 ∧ Below w.heap.size w W0 ∧ W0.cell? ⟨w.heap.size, 0, none⟩ = some (.slice none 0 0) ∧ W0.cell? ⟨w.heap.size, 1, none⟩ = some (.slice none 0 0) ∧ W0.cell? ⟨w.heap.size, 2, none⟩ = some (.map none) ∧ W0.frozen? ⟨w.heap.size, 0, none⟩ = false ∧ W0.frozen? ⟨w.heap.size, 1, none⟩ = false ∧ W0.frozen? ⟨w.heap.size, 2, none⟩ = false := by
    intro W0 h
    have hmp := World.ownsMap_made (H := Unit) (w.alloc (.cells #[.slice none 0 0, .slice none 0 0, .map none] 104)) Try.prog 3 (plainElem Try.prog 3)
    simp only [World.size_alloc] at hmp
    subst h
    refine ⟨⟨⟨by simp [go_sem], by simp [go_sem], by simp [go_sem], by simp [go_sem], by simp [go_sem]⟩, World.ownsRow_nil _ _ _ _, World.ownsRow_nil _ _ _ _, fun k f h => by simp at h, hmp.alloc _, placeD_nil, by simp [Value.ownBlock]⟩, ?_, ?_, by simp [go_sem], by simp [go_sem], by simp [go_sem], by simp [go_sem], by simp [go_sem], by simp [go_sem]⟩
    · exact ((Below.refl _ _).alloc (by simp) _).alloc (by simp) _
    · exact (((Below.refl _ _).alloc (Nat.le_refl _) _).alloc (by simp) _).alloc (by simp; omega) _
  go_enter Try.func61, Try.ntmps61
  go_wp2_with fail
  obtain ⟨W0, hW⟩ : ∃ W0, (((w.alloc (.cells #[.slice none 0 0, .slice none 0 0, .map none] 104)).alloc (.map #[] 0)).alloc (.cells #[.slice none 0 0, .slice none 0 0, .map (some (w.heap.size + 1))] 104)) = W0 := ⟨_, rfl⟩
  rw [hW]
  obtain ⟨hR0, hb0', hb0, hi0, hi1, hi2, hj0, hj1, hj2⟩ := hW0 W0 hW
  clear hW hW0 hmm
  have hlt0 := hR0.box.lt
  have hR1 : Rowd W0 W0 B (w.heap.size + 1) [] (.slice none 0 0) (.slice none 0 0) [] (.map []) := ⟨hR0.box, hR0.st, hR0.fl, fun k f h => by simp at h, hR0.map, hR0.plc, hR0.apart⟩
  have hcall := walk_c a cap ws B (w.heap.size + 1) W0 W0 _ _ _ _ (hl.below (hb0.mono hB)) hU hn hcap (by omega) (Below.refl _ _) hR1
  have Hb0 := hide hb0
  clear hR0 hb0'
  refine hcall.mono ?_
  rintro e w1 ⟨hres, hb1⟩
  have hs1 := hb1.size
  have hel : ∀ {D es}, ElsOk B W0 D es → ElsOk B w D es := by
    intro D es h k f hk
    obtain ⟨ai, ci, h1, h2⟩ := h k f hk
    refine ⟨ai, ci, h1, ⟨h2.1, fun hne => ?_⟩⟩
    obtain ⟨b, off, rfl, hbB, hc⟩ := h2.2 hne
    exact ⟨b, off, rfl, hbB, fun j v hj => by rw [← hb0.cell (p := ⟨b, off + j, none⟩) (by show b < _; omega)]; exact hc j v hj⟩
  obtain ⟨D, vs, vf, es, M, er, he, hD, hR, hor⟩ : ∃ D vs vf es M er, e = .returned (.int .i64 er) ∧ D.length ≤ 256 ∧ Rowd w1 w B (w.heap.size + 1) D vs vf es M ∧ ((splitR ws = none ∧ er = 4) ∨ (splitR ws = some D ∧ er = 0)) := by
    rcases hres with ⟨h1, h2, D, vs, vf, es, M, h3, h4⟩ | ⟨fs, vs, vf, es, M, h1, h2, h3⟩
    · exact ⟨D, vs, vf, es, M, 4, h2, h3, ⟨h4.box, h4.st, h4.fl, hel h4.el, h4.map, h4.plc, h4.apart⟩, .inl ⟨h1, rfl⟩⟩
    · have := splitR_st h1
      have := tot_len fs
      exact ⟨fs, vs, vf, es, M, 0, h2, by omega, ⟨h3.box, h3.st, h3.fl, hel h3.el, h3.map, h3.plc, h3.apart⟩, .inr ⟨h1, rfl⟩⟩
  subst he
  have Hor := hide hor
  have HR := hide hR
  have c0 := hR.box.c0
  have c1 := hR.box.c1
  have c2 := hR.box.c2
  obtain ⟨sa, sc, rfl⟩ := ownsRow_slice hR.st
  obtain ⟨fa, fc, rfl⟩ := ownsRow_slice hR.fl
  have i0 := (hb1.cell (p := ⟨w.heap.size, 0, none⟩) (by simp)).trans hi0
  have i1 := (hb1.cell (p := ⟨w.heap.size, 1, none⟩) (by simp)).trans hi1
  have i2 := (hb1.cell (p := ⟨w.heap.size, 2, none⟩) (by simp)).trans hi2
  have j0 := (hb1.frozen (p := ⟨w.heap.size, 0, none⟩) (by simp)).trans hj0
  have j1 := (hb1.frozen (p := ⟨w.heap.size, 1, none⟩) (by simp)).trans hj1
  have j2 := (hb1.frozen (p := ⟨w.heap.size, 2, none⟩) (by simp)).trans hj2
  have Hb1 := hide hb1
  clear hres hel hcall hR1 hor hR hb1 hb0 hi0 hi1 hi2 hj0 hj1 hj2
  go_wp2
  refine bodyPost_ret (v := .tuple #[.agg #[.slice sa D.length sc, .slice fa D.length fc, .map (some (w.heap.size + 1))], .int .i64 er]) (by simp [results, Try.results61, go_sem, i0, i1, i2]) rfl ?_
  refine ⟨⟨w.heap.size + 1, _, _, es, M, D, er, rfl, by omega, hD, ?_, unhide Hor⟩, ?_⟩
  · exact (((unhide HR).setCell ⟨w.heap.size, 0, none⟩ (by simp) _).setCell ⟨w.heap.size, 1, none⟩ (by simp) _).setCell ⟨w.heap.size, 2, none⟩ (by simp) _
  · exact ((((unhide Hb0).trans ((unhide Hb1).mono (by omega))).setCell (p := ⟨w.heap.size, 0, none⟩) (by simp) _).setCell (p := ⟨w.heap.size, 1, none⟩) (by simp) _).setCell (p := ⟨w.heap.size, 2, none⟩) (by simp) _

end Go.Proofs.Ytemjhdbmcdlpeaa

/- Walks: values. -/
namespace Go.Proofs.Ytemjhdbmcdlpeaa
set_option linter.unusedSimpArgs false
set_option linter.unusedVariables false
open Go.RowKit Go.Shelf

/-- A made row lies in one new block. -/
theorem wpList_make_at {P : Program} (w : World) {ops : Array Oper} {rest : List Oper} {o : Oper} {a : Act} {Q : Exit → Act → World → Prop}
    (hg : o.guard = none) (l c : Operand) (t : TypeId) (hop : o.op = Op.makeSlice t l c)
    (base : Nat) (e : TypeId) (i : TypeInfo) (z : Value) (size : Nat) (h1 : P.underlying t = some (.slice e)) (h2 : P.info? e = some i) (h3 : i.zero = some z) (h4 : i.size = size)
    (kl kc : IntKind) (L C : Int) (n : Nat) (hl : a.eval l = .int kl L) (hc : a.eval c = .int kc C) (hL : L = (n : Int)) (hC : C = (n : Int)) (b2 : i.bytes * n ≤ 281474976710656) (b3 : n ≤ maxLen) (b4 : base ≤ w.heap.size)
    (hK : ∀ w', w'.ownsRow base e size (.slice (some ⟨w.heap.size, 0, none⟩) n n) n (madeCells z.cells (n * size)).toList → w.grownBy w' none → w'.heap.size = w.heap.size + 1 → wpList P ops Q rest (a.put o.dst (.slice (some ⟨w.heap.size, 0, none⟩) n n)) w') :
    wpList P ops Q (o :: rest) a w := by
  refine wpList_plain hg fun K hK' => ?_
  subst h4
  have h63' : (n : Int) ≤ 9223372036854775807 := by
    have h := b3
    simp [maxLen] at h
    omega
  have hb' : (i.bytes : Int) * (n : Int) ≤ 281474976710656 := by
    have h : ((i.bytes * n : Nat) : Int) ≤ 281474976710656 := by omega
    rwa [Int.natCast_mul] at h
  have hr := run_make (P := P) w t e i z h1 h2 h3 kl kc n n (by omega) (Int.le_refl _) hb' h63'
  simp only [Int.toNat_natCast] at hr
  subst hL
  subst hC
  unfold Oper.wp
  simp [execOp, hop, hl, hc, hr, Result.andThen]
  exact hK' _ _ (hK _ (World.ownsRow_lit w _ n b4 b3 (size_madeCells _ _)) (World.grownBy_alloc w _ none) (by simp))

theorem cellRow_at {W : World} {base gb n cap k size : Nat} {e : TypeId} {vs : List Value} {u : Value} (h : W.ownsRow base e size (.slice (some ⟨gb, 0, none⟩) n cap) n vs) (hk : vs[k]? = some u) : W.cell? ⟨gb, k, none⟩ = some u := by
  have := h.cells (g := gb) rfl k u hk
  have hadd : (⟨gb, 0, none⟩ : Addr).add k = ⟨gb, k, none⟩ := by unfold Addr.add; split <;> simp_all
  rwa [hadd] at this

theorem take_setv2 {cs : List Value} {k : Nat} (h : k * 2 + 1 < cs.length) (a b : Value) : ((cs.set (k * 2) a).set (k * 2 + 1) b).take ((k + 1) * 2) = cs.take (k * 2) ++ [a, b] := by
  refine List.ext_getElem? fun j => ?_
  rw [List.getElem?_take]
  by_cases h1 : j < k * 2
  · rw [if_pos (by omega), List.getElem?_set_ne (by omega), List.getElem?_set_ne (by omega), List.getElem?_append_left (by simp; omega), List.getElem?_take, if_pos h1]
  · have hl : (cs.take (k * 2)).length = k * 2 := by rw [List.length_take]; omega
    rw [List.getElem?_append_right (by omega), hl]
    by_cases h2 : j = k * 2
    · subst h2
      rw [if_pos (by omega), List.getElem?_set_ne (by omega), List.getElem?_set_self (by omega)]
      simp
    · by_cases h3 : j = k * 2 + 1
      · subst h3
        rw [if_pos (by omega), List.getElem?_set_self (by simp; omega)]
        simp
      · rw [if_neg (by omega), List.getElem?_eq_none (by simp; omega)]

theorem map_below {w w' : World} {B mb n : Nat} {M : DataW Unit} (h : w.ownsMap Try.prog 3 (plainElem Try.prog 3) mb n M) (hb : Below B w w') (hlt : mb < B) : w'.ownsMap Try.prog 3 (plainElem Try.prog 3) mb n M := by
  obtain ⟨es, clock, hbk, F, hs, hD⟩ := h
  exact ⟨es, clock, (hb.block mb hlt).trans hbk, F, hs, hD⟩

theorem placeD_at {M : DataW Unit} {st : List Int} (h : PlaceD M st) {x : Int} (hx : x ∈ st) : M.atKey (.int .i64 x) (.lit (.int .i64 0)) = .lit (.int .i64 (placeOf st x)) := by
  have hi := List.idxOf_lt_length_iff.2 hx
  have hg := List.getElem_idxOf hi
  rw [placeOf, if_pos hx]
  exact h.2.2 _ x (by rw [List.getElem?_eq_getElem hi, hg])

theorem unRef_rng {x : Int} (h0 : 0 ≤ x) (h : unRef x = true) : 0 ≤ unNum x ∧ unNum x < 256 := by
  simp [unRef] at h
  unfold unNum
  rw [if_pos h.1, if_pos h.2]
  omega

def ValRes (ws st : List Int) (base : Nat) (e : Ending) (W : World) : Prop :=
  (ws.all (okW st) = false ∧ e = .returned (.tuple #[.slice none 0 0, .int .i64 2])) ∨ (ws.all (okW st) = true ∧ ∃ a' cap', e = .returned (.tuple #[.slice a' (ws.map (valW st)).length cap', .int .i64 0]) ∧ Vals W.heap.size W a' (ws.map (valW st)) ∧ Hid (∀ b off, a' = some ⟨b, off, none⟩ → base ≤ b))

set_option maxRecDepth 100000 in
set_option maxHeartbeats 2000000 in
theorem aval_c (va : Option Addr) (vl vc : Nat) (fa : Option Addr) (fl fc : Nat) (mb n : Nat) (M : DataW Unit) (a : Option Addr) (cap : Nat) (ws st : List Int) (B : Nat) (w : World) (hl : Wds B w a ws) (hU : U64 ws) (hB : B ≤ w.heap.size) (hn : ws.length ≤ 256)
    (hmp : w.ownsMap Try.prog 3 (plainElem Try.prog 3) mb n M) (hpl : PlaceD M st) :
    Calls Try.prog 68 #[.agg #[.slice va vl vc, .slice fa fl fc, .map (some mb)], .slice a ws.length cap] w fun e w' => ValRes ws st w.heap.size e w' ∧ Below w.heap.size w w' := by
  obtain ⟨i0, hi, hz0, hz1, hz2⟩ := info_parts Try.info64'
  go_enter Try.func68, Try.ntmps68
  go_wp2_with (at_make; go_must (refine wpList_make_at _ rfl _ _ 41 rfl (w.heap.size + 1) 64 i0 _ 2 Try.underlying41 hi hz0 hz1 .i64 .i64 _ _ ws.length rfl rfl rfl rfl (by rw [hz2]; omega) (by simp only [maxLen]; omega) (by simp) ?_); go_must (intro w5 hown5 hg5 hs5))
  generalize (madeCells _ _).toList = cs0 at *
  simp only [World.size_alloc] at hs5 hown5
  have hb5 : Below w.heap.size w w5 := ((Below.refl w.heap.size w).alloc (Nat.le_refl _) _).grown hg5 (by simp) (fun k e => by cases e)
  have b2 : w5.cell? ⟨w.heap.size, 2, none⟩ = some (.map (some mb)) := hg5.cell (by simp [go_sem]) (by simp)
  have hmp5 := (hmp.alloc (.cells #[.slice va vl vc, .slice fa fl fc, .map (some mb)] 104)).kept hg5 (by simp)
  have hmb : mb < w.heap.size := by obtain ⟨_, _, h, _⟩ := hmp; exact (Array.getElem?_eq_some_iff.1 h).1
  have hse' : w.heap.size + 2 ≤ w5.heap.size := by omega
  clear hs5 hg5 hmp
  go_loopw [18] (fun i wr => ∃ (k : Nat) (cs : List Value), k ≤ ws.length ∧ i = .int .i64 k ∧ wr.ownsRow (w.heap.size + 1) 64 2 (.slice (some ⟨w.heap.size + 1, 0, none⟩) ws.length ws.length) ws.length cs ∧ Hid (cs.take (k * 2) = cellsV ((ws.map (valW st)).take k)) ∧ Hid ((ws.take k).all (okW st) = true) ∧ Below (w.heap.size + 1) w5 wr) (fun i _ => ws.length - (intOf i).toNat)
  case atStart => exact ⟨0, cs0, Nat.zero_le _, rfl, hown5, hide (by simp [cellsV]), hide (by simp), Below.refl _ _⟩
  case round =>
    clear hown5
    obtain ⟨k, cs, hk, rfl, hown, Hcs, Ha, hb⟩ := hrel
    have hsz := hb.size
    have hbw : Below w.heap.size w wr := hb5.trans (hb.mono (by omega))
    have hl0 := hown.1
    have c2 := (hb.cell (p := ⟨w.heap.size, 2, none⟩) (by simp)).trans b2
    have hmpr : wr.ownsMap Try.prog 3 (plainElem Try.prog 3) mb n M := map_below hmp5 hb (by omega)
    by_cases hlt : k < ws.length
    · obtain ⟨b, off, rfl, hbB, hc⟩ := (hl.below (hbw.mono hB)).at hlt
      have hu := hU _ (List.getElem_mem hlt)
      have HT := hide (fun r n => cells_take_succ (st := st) hlt (r := r) (n := n))
      have HA := hide (fun hp => all_take (p := okW st) hlt (unhide Ha) hp)
      have HB := hide (fun hp => all_not (p := okW st) hlt hp)
      generalize ws[k] = x at *
      obtain ⟨u1, hu1⟩ : ∃ u, cs[k * 2]? = some u := ⟨cs[k * 2]'(by omega), List.getElem?_eq_getElem _⟩
      obtain ⟨u2, hu2⟩ : ∃ u, cs[k * 2 + 1]? = some u := ⟨cs[k * 2 + 1]'(by omega), List.getElem?_eq_getElem _⟩
      have Hl0 := hide hl0
      have Hlast : Hid (∀ (W : World) r m, W.ownsRow (w.heap.size + 1) 64 2 (.slice (some ⟨w.heap.size + 1, 0, none⟩) ws.length ws.length) ws.length cs → valW st x = (r, m) →
          ∃ cs', ((W.setCell ⟨w.heap.size + 1, k * 2, none⟩ (.bool r)).setCell ⟨w.heap.size + 1, k * 2 + 1, none⟩ (.int .i64 m)).ownsRow (w.heap.size + 1) 64 2 (.slice (some ⟨w.heap.size + 1, 0, none⟩) ws.length ws.length) ws.length cs' ∧ cs'.take ((k + 1) * 2) = cellsV ((ws.map (valW st)).take (k + 1))) := by
        intro W r m hW hv
        refine ⟨_, ((hW.stored (k * 2) (.bool r)).1.stored (k * 2 + 1) (.int .i64 m)).1, ?_⟩
        rw [take_setv2 (by have := unhide Hl0; omega), unhide HT r m hv, unhide Hcs]
      clear hl0 HT Hcs
      by_cases hE : unErr x = 0
      · have HE := hide hE
        cases hr : unRef x
        · have Hr := hide hr
          have Hnx := hide (unhide HA (by simp [okW, hE, hr]))
          have Hl := hide (fun W hW => unhide Hlast W _ _ hW (valW_num hr))
          clear hE hr HA HB Hlast
          go_wp2_with fail
          refine (unpack_c x _ hu.1 hu.2).mono ?_
          rintro e w3 ⟨he, hb3⟩
          rw [unhide Hr, unhide HE] at he
          subst he
          have hs3 := hb3.size
          have hown3 := ownsRow_below hown hb3
          have x1 := cellRow_at hown3 hu1
          have x2 := cellRow_at hown3 hu2
          have y1 := hown3.frozenAt (k * 2)
          have y2 := hown3.frozenAt (k * 2 + 1)
          have hlt3 : w.heap.size + 1 < w3.heap.size := by omega
          have HL3 := hide (unhide Hl _ hown3)
          clear hown3 hown
          go_wp2
          go_roundw
          case rel =>
            obtain ⟨cs', h1, h2⟩ := unhide HL3
            refine ⟨k + 1, cs', by omega, by go_num, h1.alloc _, hide h2, Hnx, ?_⟩
            exact (((hb.trans (hb3.mono (by omega))).setCell (p := ⟨w.heap.size + 1, k * 2, none⟩) (by simp) _).setCell (p := ⟨w.heap.size + 1, k * 2 + 1, none⟩) (by simp) _).alloc (by simp [World.setCell]; omega) _
          case measure => simp [intOf]; omega
        · have Hr := hide hr
          have hrg := unRef_rng hu.1 hr
          have Hkey := hide (Maps.keyOf_int_mk Try.underlying3 (wf_i64 (x := unNum x) (by omega) (by omega)))
          have hhas := hpl.1 (unNum x)
          by_cases hm : unNum x ∈ st
          · have Hnx := hide (unhide HA (by simp [okW, hE, hr, hm]))
            have Hl := hide (fun W hW => unhide Hlast W _ _ hW (valW_ref hr))
            have Hat := hide (placeD_at hpl hm)
            have hhas' : Maps.has M (.int .i64 (unNum x)) = true := by rw [hhas]; simpa using hm
            clear hE hr HA HB Hlast hhas hm
            go_wp2_with fail
            refine (unpack_c x _ hu.1 hu.2).mono ?_
            rintro e w3 ⟨he, hb3⟩
            rw [unhide Hr, unhide HE] at he
            subst he
            have hs3 := hb3.size
            have hlt3 : w.heap.size + 1 < w3.heap.size := by omega
            have hlt4 : w.heap.size < w3.heap.size := by omega
            have hmp3 := (map_below hmpr hb3 (by omega)).alloc (.cells #[.bool true, .int .i64 (unNum x)] 64)
            have d2 := (hb3.cell (p := ⟨w.heap.size, 2, none⟩) (by simp; omega)).trans c2
            have hown3 := ownsRow_below hown hb3
            have x1 := cellRow_at hown3 hu1
            have x2 := cellRow_at hown3 hu2
            have y1 := hown3.frozenAt (k * 2)
            have y2 := hown3.frozenAt (k * 2 + 1)
            have HL3 := hide (unhide Hl _ hown3)
            clear hown3 hown
            go_wp2_with (at_lookup; go_must (refine wpList_lookup_own_ok_int _ rfl _ _ 52 rfl 3 3 .i64 (Maps.int_keyed Try.underlying3) Try.underlying52 Try.underlying3 (Try.zeroValue3 _) mb _ M rfl hmp3 _ _ rfl (unhide Hkey) ?_); go_must (intro c hat hwc; rw [unhide Hat] at hat; injection hat with hat; injection hat with _ hat; subst hat; clear hwc))
            go_roundw
            case rel =>
              obtain ⟨cs', h1, h2⟩ := unhide HL3
              refine ⟨k + 1, cs', by omega, by go_num, h1.alloc _, hide h2, Hnx, ?_⟩
              exact (((hb.trans (hb3.mono (by omega))).setCell (p := ⟨w.heap.size + 1, k * 2, none⟩) (by simp) _).setCell (p := ⟨w.heap.size + 1, k * 2 + 1, none⟩) (by simp) _).alloc (by simp [World.setCell]; omega) _
            case measure => simp [intOf]; omega
          · have Hno := hide (unhide HB (by simp [okW, hE, hr, hm]))
            have hhas' : Maps.has M (.int .i64 (unNum x)) = false := by rw [hhas]; simpa using hm
            clear hE hr HA HB Hlast hhas hm
            go_wp2_with fail
            refine (unpack_c x _ hu.1 hu.2).mono ?_
            rintro e w3 ⟨he, hb3⟩
            rw [unhide Hr, unhide HE] at he
            subst he
            have hs3 := hb3.size
            have hmp3 := (map_below hmpr hb3 (by omega)).alloc (.cells #[.bool true, .int .i64 (unNum x)] 64)
            have d2 := (hb3.cell (p := ⟨w.heap.size, 2, none⟩) (by simp; omega)).trans c2
            have hlt3 : w.heap.size + 1 < w3.heap.size := by omega
            have hlt4 : w.heap.size < w3.heap.size := by omega
            go_wp2_with (at_lookup; go_must (refine wpList_lookup_own_ok_int _ rfl _ _ 52 rfl 3 3 .i64 (Maps.int_keyed Try.underlying3) Try.underlying52 Try.underlying3 (Try.zeroValue3 _) mb _ M rfl hmp3 _ _ rfl (unhide Hkey) ?_); go_must (intro c hat hwc; clear hwc hat))
            go_ret2
            exact ⟨.inl ⟨unhide Hno, rfl⟩, (hbw.trans (hb3.mono (by omega))).alloc (by omega) _⟩
      · have HE := hide (unErr_two hE)
        have Hno := hide (unhide HB (by simp [okW, hE]))
        clear hE HA HB Hlast
        go_wp2_with (go_at_call 43; go_must (refine (unpack_c x _ hu.1 hu.2).mono ?_); go_must (rintro e w3 ⟨he, hb3⟩; rw [unhide HE] at he; subst he; have hs3 := hb3.size))
        go_ret2
        exact ⟨.inl ⟨unhide Hno, rfl⟩, (hbw.trans (hb3.mono (by omega))).alloc (by omega) _⟩
    · obtain rfl : k = ws.length := by omega
      have ha := unhide Ha
      have hcs := unhide Hcs
      rw [List.take_length] at ha
      rw [List.take_of_length_le (by omega), List.take_of_length_le (by simp)] at hcs
      subst hcs
      obtain ⟨a', cap', hv, hV, hr9⟩ := vals_of_owns hown (by simp) (by omega)
      have Hr9 := hide hr9
      have Hv := hide hv
      have Ha2 := hide ha
      clear hr9 ha hv hl0
      go_wp2
      go_ret2
      exact ⟨.inr ⟨unhide Ha2, a', cap', by rw [unhide Hv]; rfl, hV, hide (fun b off e => by have := unhide Hr9 b off e; omega)⟩, hbw⟩

end Go.Proofs.Ytemjhdbmcdlpeaa

/- Walks: Canon. -/
namespace Go.Proofs.Ytemjhdbmcdlpeaa
set_option linter.unusedSimpArgs false
set_option linter.unusedVariables false
open Go.RowKit

theorem Vals.setCell {B : Nat} {W : World} {a : Option Addr} {l : List V} (h : Vals B W a l) (p : Addr) (u : Value) (hp : ∀ b off, a = some ⟨b, off, none⟩ → b ≠ p.block) : Vals B (W.setCell p u) a l := by
  refine ⟨h.1, fun hne => ?_⟩
  obtain ⟨b, off, rfl, hB, hc⟩ := h.2 hne
  have hblk := Below.heap_setCell W p u b (hp b off rfl)
  refine ⟨b, off, rfl, hB, fun j v hj => ?_⟩
  rw [World.cell?_of_block (a := ⟨b, off + j * 2, none⟩) hblk, World.cell?_of_block (a := ⟨b, off + j * 2 + 1, none⟩) hblk]
  exact hc j v hj

end Go.Proofs.Ytemjhdbmcdlpeaa

/- Walks: asGraph. -/
namespace Go.Proofs.Ytemjhdbmcdlpeaa
set_option linter.unusedSimpArgs false
set_option linter.unusedVariables false
open Go.RowKit Go.Shelf

theorem Try.info76' : (Try.prog.info? 76).map (fun i => (i.zero, i.size, i.bytes)) = some (some (.agg #[.slice none 0 0]), 1, 24) := by kernel_rfl

/-- A slice of slices of words, below block B. -/
def FTab (B : Nat) (w : World) (a : Option Addr) (F : List (List Int)) : Prop :=
  F.length ≤ 9223372036854775807 ∧ (F ≠ [] → ∃ b off, a = some ⟨b, off, none⟩ ∧ b < B ∧ ∀ k l, F[k]? = some l → ∃ ai ci, w.cell? ⟨b, off + k, none⟩ = some (.slice ai l.length ci) ∧ Wds B w ai l)

theorem FTab.below {B : Nat} {w w' : World} {a : Option Addr} {F : List (List Int)} (h : FTab B w a F) (hb : Below B w w') : FTab B w' a F := by
  refine ⟨h.1, fun hne => ?_⟩
  obtain ⟨b, off, rfl, hB, hc⟩ := h.2 hne
  refine ⟨b, off, rfl, hB, fun k v hk => ?_⟩
  obtain ⟨ai, ci, h1, h2⟩ := hc k v hk
  refine ⟨ai, ci, ?_, h2.below hb⟩
  rw [hb.cell (p := ⟨b, off + k, none⟩) hB]
  exact h1

theorem FTab.at {B : Nat} {w : World} {a : Option Addr} {F : List (List Int)} (h : FTab B w a F) {k : Nat} (hk : k < F.length) :
    ∃ b off ai ci, a = some ⟨b, off, none⟩ ∧ b < B ∧ w.cell? ⟨b, off + k, none⟩ = some (.slice ai F[k].length ci) ∧ Wds B w ai F[k] := by
  obtain ⟨b, off, rfl, hB, hc⟩ := h.2 (by intro e; subst e; simp at hk)
  obtain ⟨ai, ci, h1, h2⟩ := hc k F[k] (by simp [hk])
  exact ⟨b, off, ai, ci, rfl, hB, h1, h2⟩

theorem Rowd.tab {W : World} {B mb : Nat} {D : List (List Int)} {vs vf : Value} {es : List Value} {M : DataW Unit} (h : Rowd W W B mb D vs vf es M) (hB : B ≤ W.heap.size) (hs : D.length ≤ 256) : ∃ a cap, vf = .slice a D.length cap ∧ FTab W.heap.size W a D := by
  rcases h.fl.2 with ⟨rfl, h0⟩ | ⟨g, cap, cur, rfl, hb, hg, hc1, hc2, hc3, htake⟩
  · refine ⟨none, 0, by rw [h0], by omega, fun hne => ?_⟩
    exact absurd (List.eq_nil_of_length_eq_zero h0) hne
  · refine ⟨_, cap, rfl, by omega, fun _ => ⟨g, 0, rfl, (Array.getElem?_eq_some_iff.1 hg).1, fun k l hk => ?_⟩⟩
    obtain ⟨ai, ci, h1, h2⟩ := h.el k l hk
    refine ⟨ai, ci, ?_, h2.mono hB⟩
    rw [← htake, List.getElem?_take] at h1
    rw [Nat.zero_add, cell_of_row W g k cur 22 (0, 0) hg]
    split at h1
    · simpa using h1
    · cases h1

def objsOf (st : List Int) (fs : List (List Int)) : List (List V) := fs.map fun f => f.map (valW st)
theorem objsOf_len (st : List Int) (fs : List (List Int)) : (objsOf st fs).length = fs.length := by simp [objsOf]
theorem objsOf_succ (st : List Int) {fs : List (List Int)} {k : Nat} (h : k < fs.length) : objsOf st (fs.take (k + 1)) = objsOf st (fs.take k) ++ [fs[k].map (valW st)] := by
  unfold objsOf; rw [List.take_succ_eq_append_getElem h, List.map_append]; rfl

/-- A slice of objects in new memory. -/
def ObjsF (base : Nat) (W : World) (a : Option Addr) (L : List (List V)) : Prop :=
  L.length ≤ 9223372036854775807 ∧ (L ≠ [] → ∃ b off, a = some ⟨b, off, none⟩ ∧ base ≤ b ∧ b < W.heap.size ∧ ∀ k l, L[k]? = some l → ∃ ai ci, W.cell? ⟨b, off + k, none⟩ = some (.slice ai l.length ci) ∧ Vals W.heap.size W ai l ∧ ∀ b off, ai = some ⟨b, off, none⟩ → base ≤ b)

theorem ObjsF.objs {base : Nat} {W : World} {a : Option Addr} {L : List (List V)} (h : ObjsF base W a L) : Objs W.heap.size W a L := by
  refine ⟨h.1, fun hne => ?_⟩
  obtain ⟨b, off, rfl, _, hB, hc⟩ := h.2 hne
  refine ⟨b, off, rfl, hB, fun k l hk => ?_⟩
  obtain ⟨ai, ci, h1, h2, _⟩ := hc k l hk
  exact ⟨ai, ci, h1, h2⟩

theorem ObjsF.below {base : Nat} {W W' : World} {a : Option Addr} {L : List (List V)} (h : ObjsF base W a L) (hb : Below W.heap.size W W') : ObjsF base W' a L := by
  refine ⟨h.1, fun hne => ?_⟩
  obtain ⟨b, off, rfl, h0, hB, hc⟩ := h.2 hne
  refine ⟨b, off, rfl, h0, by have := hb.size; omega, fun k l hk => ?_⟩
  obtain ⟨ai, ci, h1, h2, h3⟩ := hc k l hk
  exact ⟨ai, ci, (hb.cell (p := ⟨b, off + k, none⟩) hB).trans h1, (h2.below hb).mono hb.size, h3⟩

theorem ObjsF.setCell {base : Nat} {W : World} {a : Option Addr} {L : List (List V)} (h : ObjsF base W a L) {p : Addr} (hp : p.block < base) (u : Value) : ObjsF base (W.setCell p u) a L := by
  have hs : (W.setCell p u).heap.size = W.heap.size := by simp [World.setCell]
  refine ⟨h.1, fun hne => ?_⟩
  obtain ⟨b, off, rfl, h0, hB, hc⟩ := h.2 hne
  refine ⟨b, off, rfl, h0, by rw [hs]; exact hB, fun k l hk => ?_⟩
  obtain ⟨ai, ci, h1, h2, h3⟩ := hc k l hk
  refine ⟨ai, ci, (World.cell?_of_block (a := ⟨b, off + k, none⟩) (Below.heap_setCell W p u b (by omega))).trans h1, ?_, h3⟩
  rw [hs]
  exact h2.setCell p u (fun b' off' e => by have := h3 b' off' e; omega)

theorem ObjRow.objsF {W : World} {base : Nat} {v : Value} {L : List (List V)} {es : List Value} (h : ObjRow W base v L es) (hs : L.length ≤ 9223372036854775807) : ∃ a cap, v = .slice a L.length cap ∧ ObjsF base W a L := by
  rcases h.row.2 with ⟨rfl, h0⟩ | ⟨g, cap, cur, rfl, hb, hg, hc1, hc2, hc3, htake⟩
  · refine ⟨none, 0, by rw [h0], hs, fun hne => ?_⟩
    exact absurd (List.eq_nil_of_length_eq_zero h0) hne
  · refine ⟨_, cap, rfl, hs, fun _ => ⟨g, 0, rfl, hb, (Array.getElem?_eq_some_iff.1 hg).1, fun k l hk => ?_⟩⟩
    obtain ⟨ai, ci, h1, h2, h3⟩ := h.el k l hk
    refine ⟨ai, ci, ?_, h2.1, h3⟩
    rw [← htake, List.getElem?_take] at h1
    rw [Nat.zero_add, cell_of_row W g k cur 76 (0, 0) hg]
    split at h1
    · simpa using h1
    · cases h1

theorem ObjsF.base {base base' : Nat} {W : World} {a : Option Addr} {L : List (List V)} (h : ObjsF base W a L) (hb : base' ≤ base) : ObjsF base' W a L := by
  refine ⟨h.1, fun hne => ?_⟩
  obtain ⟨b, off, rfl, h0, hB, hc⟩ := h.2 hne
  refine ⟨b, off, rfl, by omega, hB, fun k l hk => ?_⟩
  obtain ⟨ai, ci, h1, h2, h3⟩ := hc k l hk
  exact ⟨ai, ci, h1, h2, fun b off e => by have := h3 b off e; omega⟩

/-- A slice of values in new memory. -/
def ValsF (base : Nat) (W : World) (a : Option Addr) (l : List V) : Prop := Vals W.heap.size W a l ∧ ∀ b off, a = some ⟨b, off, none⟩ → base ≤ b

theorem ValsF.below {base : Nat} {W W' : World} {a : Option Addr} {l : List V} (h : ValsF base W a l) (hb : Below W.heap.size W W') : ValsF base W' a l := ⟨(h.1.below hb).mono hb.size, h.2⟩
theorem ValsF.setCell {base : Nat} {W : World} {a : Option Addr} {l : List V} (h : ValsF base W a l) {p : Addr} (hp : p.block < base) (u : Value) : ValsF base (W.setCell p u) a l := by
  have hs : (W.setCell p u).heap.size = W.heap.size := by simp [World.setCell]
  refine ⟨?_, h.2⟩
  rw [hs]
  exact h.1.setCell p u (fun b' off' e => by have := h.2 b' off' e; omega)

def GRes (base : Nat) (fs : List (List Int)) (rs : List Int) (e : Ending) (W : World) : Prop :=
  ((rs ++ fs.flatten).all (okW (stF 0 fs)) = false ∧ e = .returned (.tuple #[.agg #[.slice none 0 0, .slice none 0 0], .int .i64 2])) ∨
  ((rs ++ fs.flatten).all (okW (stF 0 fs)) = true ∧ ∃ ao co ar cr, e = .returned (.tuple #[.agg #[.slice ao (objsOf (stF 0 fs) fs).length co, .slice ar (rs.map (valW (stF 0 fs))).length cr], .int .i64 0]) ∧ ObjsF base W ao (objsOf (stF 0 fs) fs) ∧ ValsF base W ar (rs.map (valW (stF 0 fs))))

set_option maxRecDepth 100000 in
set_option maxHeartbeats 4000000 in
theorem asGraph_c (va : Option Addr) (vl vc : Nat) (fa : Option Addr) (fc : Nat) (fs : List (List Int)) (mb n : Nat) (M : DataW Unit) (ar : Option Addr) (cr : Nat) (rs : List Int) (B : Nat) (w : World) (hT : FTab B w fa fs) (hr : Wds B w ar rs) (hUr : U64 rs) (hUf : ∀ f ∈ fs, U64 f) (hB : B ≤ w.heap.size) (h8 : rs.length ≤ 8) (h4 : ∀ f ∈ fs, f.length ≤ 4) (hfl : fs.length ≤ 256)
    (hmp : w.ownsMap Try.prog 3 (plainElem Try.prog 3) mb n M) (hpl : PlaceD M (stF 0 fs)) :
    Calls Try.prog 62 #[.agg #[.slice va vl vc, .slice fa fs.length fc, .map (some mb)], .slice ar rs.length cr] w fun e w' => GRes w.heap.size fs rs e w' ∧ Below w.heap.size w w' := by
  have hmb : mb < w.heap.size := by obtain ⟨_, _, h, _⟩ := hmp; exact (Array.getElem?_eq_some_iff.1 h).1
  obtain ⟨i0, hi, hz0, hz1, hz2⟩ := info_parts Try.info76'
  obtain ⟨W4, hW4⟩ : ∃ W4, (w.alloc (.cells #[.slice va vl vc, .slice fa fs.length fc, .map (some mb)] 104)).alloc (.cells #[.slice none 0 0, .slice none 0 0] 43) = W4 := ⟨_, rfl⟩
  have hb1 : Below w.heap.size w W4 := by rw [← hW4]; exact ((Below.refl w.heap.size w).alloc (Nat.le_refl _) _).alloc (by simp) _
  have hs4 : w.heap.size + 1 < W4.heap.size := by rw [← hW4]; simp
  have q0 : W4.cell? ⟨w.heap.size + 1, 0, none⟩ = some (.slice none 0 0) := by rw [← hW4]; simp [go_sem]
  have q1 : W4.cell? ⟨w.heap.size + 1, 1, none⟩ = some (.slice none 0 0) := by rw [← hW4]; simp [go_sem]
  have f0 : W4.frozen? ⟨w.heap.size + 1, 0, none⟩ = false := by rw [← hW4]; simp [go_sem]
  have f1 : W4.frozen? ⟨w.heap.size + 1, 1, none⟩ = false := by rw [← hW4]; simp [go_sem]
  have g0 : W4.cell? ⟨w.heap.size, 0, none⟩ = some (.slice va vl vc) := by rw [← hW4]; simp [go_sem]
  have g1 : W4.cell? ⟨w.heap.size, 1, none⟩ = some (.slice fa fs.length fc) := by rw [← hW4]; simp [go_sem]
  have g2 : W4.cell? ⟨w.heap.size, 2, none⟩ = some (.map (some mb)) := by rw [← hW4]; simp [go_sem]
  have hcall := aval_c va vl vc fa fs.length fc mb n M ar cr rs (stF 0 fs) B W4 (hr.below (hb1.mono hB)) hUr (by omega) (by omega) (map_below hmp hb1 hmb) hpl
  go_enter Try.func62, Try.ntmps62
  go_wp2_with fail
  refine hcall.mono ?_
  rintro e w5 ⟨hres, hb5⟩
  clear hW4 hcall
  have hs5 := hb5.size
  replace q0 := (hb5.cell (p := ⟨w.heap.size + 1, 0, none⟩) (by simp; omega)).trans q0
  replace q1 := (hb5.cell (p := ⟨w.heap.size + 1, 1, none⟩) (by simp; omega)).trans q1
  replace f0 := (hb5.frozen (p := ⟨w.heap.size + 1, 0, none⟩) (by simp; omega)).trans f0
  replace f1 := (hb5.frozen (p := ⟨w.heap.size + 1, 1, none⟩) (by simp; omega)).trans f1
  replace g0 := (hb5.cell (p := ⟨w.heap.size, 0, none⟩) (by simp; omega)).trans g0
  replace g1 := (hb5.cell (p := ⟨w.heap.size, 1, none⟩) (by simp; omega)).trans g1
  replace g2 := (hb5.cell (p := ⟨w.heap.size, 2, none⟩) (by simp; omega)).trans g2
  have hbw5 : Below w.heap.size w w5 := hb1.trans (hb5.mono (by omega))
  clear hb1 hb5
  rcases hres with ⟨hno, rfl⟩ | ⟨hok, ar', cr', rfl, hV5, Hbs5⟩
  · have Hno : Hid ((rs ++ fs.flatten).all (okW (stF 0 fs)) = false) := by show _ = _; rw [List.all_append, hno]; rfl
    clear hno
    go_wp2
    exact bodyPost_ret (v := .tuple #[.agg #[.slice none 0 0, .slice none 0 0], .int .i64 2]) (by simp [results, Try.results62, go_sem, q0, q1, f0, f1]) rfl ⟨.inl ⟨unhide Hno, rfl⟩, (hbw5.setCell (p := ⟨w.heap.size + 1, 0, none⟩) (by simp) _).setCell (p := ⟨w.heap.size + 1, 1, none⟩) (by simp) _⟩
  · have Hok := hide hok
    clear hok
    have hlt5 : w.heap.size < w5.heap.size := by omega
    have hlt6 : w.heap.size + 1 < w5.heap.size := by omega
    have HV5 := hide hV5
    clear hV5
    generalize hrl : (rs.map (valW (stF 0 fs))).length = rl at *
    have Hrl := hide hrl
    clear hrl
    go_wp2
    go_loopw [28] (fun i wr => ∃ (k : Nat) (x : Value) (es : List Value), k ≤ fs.length ∧ i = .int .i64 k ∧ Below w5.heap.size w5 wr ∧ wr.cell? ⟨w5.heap.size, 0, none⟩ = some x ∧ wr.frozen? ⟨w5.heap.size, 0, none⟩ = false ∧ wr.cell? ⟨w5.heap.size, 1, none⟩ = some (.slice ar' rl cr') ∧
        ObjRow wr (w5.heap.size + 1) x (objsOf (stF 0 fs) (fs.take k)) es ∧ Hid ((fs.take k).flatten.all (okW (stF 0 fs)) = true)) (fun i _ => fs.length - (intOf i).toNat)
    case atStart => exact ⟨0, .slice none 0 0, [], Nat.zero_le _, rfl, (Below.refl _ _).alloc (Nat.le_refl _) _, by simp [go_sem], by simp [go_sem], by simp [go_sem], objRow_nil _ _, hide (by simp)⟩
    case round =>
      obtain ⟨k, x, es, hk, rfl, hb, c0, cf0, c1, hrow, Hall⟩ := hrel
      have hsz := hb.size
      have hbwr : Below w.heap.size w wr := hbw5.trans (hb.mono (by have := hbw5.size; omega))
      by_cases hlt : k < fs.length
      · obtain ⟨b, off, ai, ci, rfl, hbB, hcb, hva⟩ := (hT.below (hbwr.mono hB)).at hlt
        have hf4 := h4 _ (List.getElem_mem hlt)
        have hUk := hUf _ (List.getElem_mem hlt)
        have HO := hide (objsOf_succ (stF 0 fs) hlt)
        have HF := hide (wflat_snoc hlt)
        have Hbad : Hid (fs[k].all (okW (stF 0 fs)) = false → (rs ++ fs.flatten).all (okW (stF 0 fs)) = false) := by
          intro h
          obtain ⟨y, hy1, hy2⟩ := List.all_eq_false.1 h
          exact List.all_eq_false.2 ⟨y, List.mem_append.2 (.inr (List.mem_flatten.2 ⟨_, List.getElem_mem hlt, hy1⟩)), hy2⟩
        have Hcall := hide (aval_c va vl vc (some ⟨b, off, none⟩) fs.length fc mb n M ai ci fs[k] (stF 0 fs) B wr hva hUk (by have := hbwr.size; omega) (by omega) (map_below hmp hbwr hmb) hpl)
        clear hva hUk
        generalize fs[k] = f at *
        have g0r := (hb.cell (p := ⟨w.heap.size, 0, none⟩) (by simp; omega)).trans g0
        have g1r := (hb.cell (p := ⟨w.heap.size, 1, none⟩) (by simp; omega)).trans g1
        have g2r := (hb.cell (p := ⟨w.heap.size, 2, none⟩) (by simp; omega)).trans g2
        have hq : w5.heap.size < wr.heap.size := World.block_lt_of_cell? wr _ c0
        go_wp2_with fail
        refine (unhide Hcall).mono ?_
        rintro e w6 ⟨hres, hb6⟩
        have hs6 := hb6.size
        clear Hcall g0r g1r g2r
        rcases hres with ⟨hno, rfl⟩ | ⟨hok, a6, c6, rfl, hV6, Hbs6⟩
        · have Hno := hide (unhide Hbad hno)
          clear hno Hbad
          have p0 := (hb6.cell (p := ⟨w.heap.size + 1, 0, none⟩) (by simp; omega)).trans ((hb.cell (p := ⟨w.heap.size + 1, 0, none⟩) (by simp; omega)).trans q0)
          have p1 := (hb6.cell (p := ⟨w.heap.size + 1, 1, none⟩) (by simp; omega)).trans ((hb.cell (p := ⟨w.heap.size + 1, 1, none⟩) (by simp; omega)).trans q1)
          have e0 := (hb6.frozen (p := ⟨w.heap.size + 1, 0, none⟩) (by simp; omega)).trans ((hb.frozen (p := ⟨w.heap.size + 1, 0, none⟩) (by simp; omega)).trans f0)
          have e1 := (hb6.frozen (p := ⟨w.heap.size + 1, 1, none⟩) (by simp; omega)).trans ((hb.frozen (p := ⟨w.heap.size + 1, 1, none⟩) (by simp; omega)).trans f1)
          go_wp2
          exact bodyPost_ret (v := .tuple #[.agg #[.slice none 0 0, .slice none 0 0], .int .i64 2]) (by simp [results, Try.results62, go_sem, p0, p1, e0, e1]) rfl ⟨.inl ⟨unhide Hno, rfl⟩, ((hbwr.trans (hb6.mono (by omega))).setCell (p := ⟨w.heap.size + 1, 0, none⟩) (by simp) _).setCell (p := ⟨w.heap.size + 1, 1, none⟩) (by simp) _⟩
        · have Hall2 : Hid ((fs.take (k + 1)).flatten.all (okW (stF 0 fs)) = true) := by show _ = _; rw [unhide HF, List.all_append, unhide Hall, hok]; rfl
          clear hok Hbad HF
          have HLk := hide (show (objsOf (stF 0 fs) (fs.take k)).length = k by rw [objsOf_len, List.length_take]; omega)
          have hrr := hrow.row
          rw [unhide HLk] at hrr
          obtain ⟨ca, cc, rfl⟩ := ownsRow_slice hrr
          have hlm : (f.map (valW (stF 0 fs))).length ≤ 4 := by simp; exact hf4
          have HR := hide hrow
          have c06 := (hb6.cell (p := ⟨w5.heap.size, 0, none⟩) hq).trans c0
          have cf6 := (hb6.frozen (p := ⟨w5.heap.size, 0, none⟩) hq).trans cf0
          have hq6 : w5.heap.size < w6.heap.size := by omega
          have hrow6 := ownsRow_below hrr hb6
          have hncb : Value.ownBlock (.slice ca k cc) ≠ some w5.heap.size := fun e => by have := (hrr.lt _ e).1; omega
          have HV6 := hide hV6
          clear hV6 hrow hrr
          generalize f.map (valW (stF 0 fs)) = lv at *
          go_wp2_with (at_builtin; go_must (refine wpList_append_own_at _ rfl _ _ 40 rfl (w5.heap.size + 1) 76 i0 _ 1 24 Try.underlying40 hi hz0 hz1 hz2 rfl (by decide) _ _ _ rfl (hrow6.alloc _) ⟨w6.heap.size, 0, none⟩ 1 1 [.slice a6 lv.length c6] rfl rfl (cell_one_at _ _ _ _ (by simp)) (by simp [Value.oneCell']) (by simp only [maxLen]; omega) (by omega) (by simp; omega) ?_); go_must (intro v' w7 hrow7 hg7 _ hat7; obtain ⟨g7, cap7, hv7⟩ := ownsRow_succ hrow7; subst hv7; have c07 := hg7.cell ((World.grownBy_alloc w6 (.cells #[.slice a6 lv.length c6] 76) none).cell c06 (by simp)) (fun e => hncb e.symm); have cf7 := (hg7.block w5.heap.size (by simp; omega) (fun e => hncb e.symm)); have cf8 := (World.frozen?_of_block (a := ⟨w5.heap.size, 0, none⟩) cf7).trans ((World.frozen?_of_block (a := ⟨w5.heap.size, 0, none⟩) (Below.heap_alloc w6 _ _ hq6)).trans cf6); have Hcf7 := hide cf7; clear cf7))
          go_roundw
          case rel =>
            obtain ⟨r1, r2⟩ := obj_step (l := lv) (ci := c6) (unhide HR) (by omega) (unhide HV6) hb6 (unhide Hbs6) (by rw [unhide HLk]; exact hrow7) hg7 hat7 rfl
            refine ⟨k + 1, _, _, by omega, by go_num, hb.trans r2, World.cell?_setCell_same' _ _ _ (by rw [c07]; rfl), by rw [World.frozen?_setCell]; exact cf8, ?_, by rw [unhide HO]; exact r1, Hall2⟩
            rw [World.cell?_setCell_other _ _ _ _ (by simp)]
            exact (World.cell?_of_block (a := ⟨w5.heap.size, 1, none⟩) (unhide Hcf7)).trans ((World.cell?_of_block (a := ⟨w5.heap.size, 1, none⟩) (Below.heap_alloc w6 _ _ hq6)).trans ((hb6.cell (p := ⟨w5.heap.size, 1, none⟩) hq).trans c1))
          case measure => simp [intOf]; omega
      · obtain rfl : k = fs.length := by omega
        rw [List.take_length] at hrow Hall
        have Hfin : Hid ((rs ++ fs.flatten).all (okW (stF 0 fs)) = true) := by show _ = _; rw [List.all_append, unhide Hok, unhide Hall]; rfl
        have hol := objsOf_len (stF 0 fs) fs
        obtain ⟨va', vc', hv, hO⟩ := hrow.objs (by omega)
        subst hv
        have HR := hide hrow
        have Hol := hide hol
        have hV6 := ((unhide HV5).below hb).mono (B' := wr.heap.size) (by omega)
        have HV6 := hide hV6
        clear hO hrow hol hV6
        replace q0 := (hb.cell (p := ⟨w.heap.size + 1, 0, none⟩) (by simp; omega)).trans q0
        replace q1 := (hb.cell (p := ⟨w.heap.size + 1, 1, none⟩) (by simp; omega)).trans q1
        replace f0 := (hb.frozen (p := ⟨w.heap.size + 1, 0, none⟩) (by simp; omega)).trans f0
        replace f1 := (hb.frozen (p := ⟨w.heap.size + 1, 1, none⟩) (by simp; omega)).trans f1
        generalize hL : objsOf (stF 0 fs) fs = L at *
        have HL := hide hL
        clear hL
        go_wp2
        refine bodyPost_ret (v := .tuple #[.agg #[.slice va' L.length vc', .slice ar' rl cr'], .int .i64 0]) (by simp [results, Try.results62, go_sem, q0, q1]) rfl ?_
        have hO := ((unhide HR).setCell (p := ⟨w.heap.size + 1, 0, none⟩) (by simp; omega) (.slice va' L.length vc')).setCell (p := ⟨w.heap.size + 1, 1, none⟩) (by simp; omega) (.slice ar' rl cr')
        obtain ⟨va2, vc2, hv2, hO2⟩ := hO.objsF (by rw [unhide Hol]; omega)
        injection hv2 with e1 _ e3
        subst e1 e3
        refine ⟨.inr ⟨unhide Hfin, va', vc', ar', cr', by rw [unhide HL, unhide Hrl], by rw [unhide HL]; exact hO2.base (by omega), ?_⟩, ?_⟩
        · have hVF : ValsF W4.heap.size wr ar' (rs.map (valW (stF 0 fs))) := ⟨unhide HV6, unhide Hbs5⟩
          have hV2 := (hVF.setCell (p := ⟨w.heap.size + 1, 0, none⟩) (by simp; omega) (.slice va' L.length vc')).setCell (p := ⟨w.heap.size + 1, 1, none⟩) (by simp; omega) (.slice ar' rl cr')
          exact ⟨hV2.1, fun b off e => by have := hV2.2 b off e; omega⟩
        · exact (hbwr.setCell (p := ⟨w.heap.size + 1, 0, none⟩) (by simp) _).setCell (p := ⟨w.heap.size + 1, 1, none⟩) (by simp) _

end Go.Proofs.Ytemjhdbmcdlpeaa

/- Walks: places, pack. -/
namespace Go.Proofs.Ytemjhdbmcdlpeaa
set_option linter.unusedSimpArgs false
set_option linter.unusedVariables false
open Go.RowKit Go.Shelf

theorem tot_le5 {α : Type} : ∀ (L : List (List α)), (∀ l ∈ L, l.length ≤ 4) → tot L ≤ 5 * L.length
  | [], _ => by simp [tot]
  | l :: L, h => by
    have h1 := h l (by simp)
    have h2 := tot_le5 L (fun x hx => h x (by simp [hx]))
    rw [tot_cons]; simp only [List.length_cons]; omega

/-- The map tells where each object comes to stand. -/
def LocD (M : DataW Unit) (L : List (List V)) (k : Nat) : Prop := ∀ i : Nat, i < k → M.atKey (.int .i64 (i : Int)) (.lit (.int .i64 0)) = .lit (.int .i64 ((tot (L.take i) : Nat) : Int))

theorem locD_put {M : DataW Unit} {L : List (List V)} {k : Nat} (h : LocD M L k) (hM : Maps.IsMap M) : LocD (M.put (.int .i64 (k : Int)) (.lit (.int .i64 ((tot (L.take k) : Nat) : Int)))) L (k + 1) := by
  intro i hi
  have hk : WideAt.IsKeyLit (.int .i64 (k : Int)) := trivial
  by_cases e : i = k
  · subst e; rw [Maps.atKey_put_same hM hk]
  · rw [Maps.atKey_put_other (by simp; omega)]; exact h i (by omega)

def PlRes (L : List (List V)) (base : Nat) (e : Ending) (W : World) : Prop :=
  ∃ mb n M, e = .returned (.map (some mb)) ∧ base ≤ mb ∧ W.ownsMap Try.prog 3 (plainElem Try.prog 3) mb n M ∧ LocD M L L.length

theorem packV_ref {L : List (List V)} {n : Int} (h0 : 0 ≤ n) (h1 : n < L.length) : packV (stF 0 L) (true, n) = packW true ((tot (L.take n.toNat) : Nat) : Int) := by
  have := stF_get L 0 n.toNat (by omega)
  simp [packV, List.getD_eq_getElem?_getD, this]
theorem packV_num {st : List Int} {n : Int} : packV st (false, n) = packW false n := by simp [packV]

theorem words_set {ws : List Int} {cs : List Value} {k : Nat} {x : Int} (hk : k < cs.length) (hkw : k < ws.length) (hx : ws[k] = x) (h : cs.take k = wordsV (ws.take k)) : (cs.set k (.int .u64 x)).take (k + 1) = wordsV (ws.take (k + 1)) := by
  rw [List.take_succ_eq_append_getElem hkw, wordsV_snoc, hx, ← h, List.take_succ_eq_append_getElem (by simpa using hk), List.getElem_set_self, List.take_set_of_le (Nat.le_refl _)]

def PkRes (ws : List Int) (base : Nat) (e : Ending) (W : World) : Prop :=
  e = .returned (.slice (some ⟨base, 0, none⟩) ws.length ws.length) ∧ W.ownsRow base 56 1 (.slice (some ⟨base, 0, none⟩) ws.length ws.length) ws.length (wordsV ws)

end Go.Proofs.Ytemjhdbmcdlpeaa

/- A rule for a region that draws its order and writes: the operations that only read may come at any time, those that write stand in a chain. -/
namespace Go.Proofs.Ytemjhdbmcdlpeaa
set_option linter.unusedSimpArgs false
set_option linter.unusedVariables false
open Go.RowKit

section
variable {P : Program} {md : Region.Mode} {ops : Array Oper} {Q : Exit → Act → World → Prop}

theorem getD_both {l : Array Bool} {i : Nat} (hi : i < l.size) (h : l.getD i true = true) : l.getD i false = true := by
  simp [hi] at h ⊢; exact h

/-- Each operation waits for earlier ones alone: then, where none may come up, all are done. -/
theorem ready_none {listed : Array Bool} (hord : ∀ (i : Nat) (o : Oper), ops[i]? = some o → ∀ e ∈ o.after, e.on < i) (hsz : listed.size = ops.size) (h : Region.ready md ops listed = []) : ∀ i, i < ops.size → listed.getD i false = true := by
  intro i
  induction i using Nat.strongRecOn with
  | ind i ih =>
    intro hi
    refine getD_both (by omega) ?_
    cases hl : listed.getD i true with
    | true => rfl
    | false =>
      exfalso
      have hm : i ∈ Region.ready md ops listed := mem_ready.2 ⟨hl, ops[i], Array.getElem?_eq_getElem hi, fun e he _ => by
        have h1 := hord i _ (Array.getElem?_eq_getElem hi) e he
        exact ih e.on h1 (by omega)⟩
      rw [h] at hm
      cases hm

theorem count_less {listed : Array Bool} {i : Nat} (h : listed.getD i true = false) : (listed.setIfInBounds i true).toList.count false + 1 = listed.toList.count false := by
  have hi : i < listed.size := by
    rcases Nat.lt_or_ge i listed.size with h1 | h1
    · exact h1
    · simp [Array.getElem?_eq_none h1] at h
  have hv : listed[i] = false := by simpa [hi] using h
  have hpos : 0 < listed.toList.count false := List.count_pos_iff.2 (by rw [← hv]; simp)
  rw [Array.toList_setIfInBounds, List.count_set (by simpa using hi)]
  rw [if_pos (by simp [hv]), if_neg (by decide)]
  omega

theorem wpAny_inv (I : Array Bool → Act → World → Prop) (hsz : ∀ listed a w, I listed a w → listed.size = ops.size)
    (hstep : ∀ listed a w i, I listed a w → i ∈ Region.ready md ops listed → wpOp P ops Q i (I (listed.setIfInBounds i true)) a w)
    (hdone : ∀ listed a w, I listed a w → Region.ready md ops listed = [] → Q .normal a w) :
    ∀ (fuel : Nat) (listed : Array Bool) (a : Act) (w : World), listed.toList.count false ≤ fuel → I listed a w → wpAny P md ops Q fuel listed a w
  | 0, listed, a, w, hc, hI => by
    have hr : Region.ready md ops listed = [] := by
      cases hr : Region.ready md ops listed with
      | nil => rfl
      | cons x xs =>
        have hm : x ∈ Region.ready md ops listed := by rw [hr]; simp
        have := count_less (mem_ready.1 hm).1
        omega
    exact ⟨hr, hdone _ _ _ hI hr⟩
  | fuel + 1, listed, a, w, hc, hI =>
    ⟨hdone _ _ _ hI, fun i hi => wpOp_mono (fun a' w' h => wpAny_inv I hsz hstep hdone fuel _ a' w' (by have := count_less (mem_ready.1 hi).1; omega) h) (hstep _ _ _ _ hI hi)⟩

theorem wp_region_inv {id : Nat} {a : Act} {w : World} (hm : P.follows .mixedOrders = true) (I : Array Bool → Act → World → Prop) (hsz : ∀ listed a w, I listed a w → listed.size = ops.size)
    (h0 : I (Array.replicate ops.size false) a w.drew)
    (hstep : ∀ listed a w i, I listed a w → i ∈ Region.ready .any ops listed → wpOp P ops Q i (I (listed.setIfInBounds i true)) a w)
    (hdone : ∀ listed a w, I listed a w → Region.ready .any ops listed = [] → Q .normal a w) : (Code.region id ops true).wp P Q a w :=
  wp_region_any hm (wpAny_inv I hsz hstep hdone _ _ _ _ (by simp) h0)

/-- One operation, wanted, by its own step. -/
theorem wpOp_of {i : Nat} {o : Oper} {K : Act → World → Prop} {a : Act} {w : World} (ho : ops[i]? = some o) (hg : o.guard = none) (h : o.wp P a w K Q) : wpOp P ops Q i K a w := by
  unfold wpOp
  simp only [ho]
  rw [if_pos (by simp [Region.wanted, hg])]
  exact .inl h
end

/-- A frame that is another one but for some slots. -/
structure Agr (ds : List Nat) (a0 a : Act) : Prop where
  size : a.tmps.size = a0.tmps.size
  defers : a.defers = a0.defers
  same : ∀ k, k ∉ ds → a.tmps[k]? = a0.tmps[k]?

theorem Agr.refl (ds : List Nat) (a : Act) : Agr ds a a := ⟨rfl, rfl, fun _ _ => rfl⟩

theorem Agr.put {ds : List Nat} {a0 a : Act} (h : Agr ds a0 a) {d : Option Nat} (hd : ∀ x, d = some x → x ∈ ds) (v : Value) : Agr ds a0 (a.put d v) := by
  cases d with
  | none => exact h
  | some d =>
    refine ⟨by simp [Act.put, h.size], h.defers, fun k hk => ?_⟩
    have hne : d ≠ k := fun e => hk (e ▸ hd d rfl)
    simp only [Act.put, Array.getElem?_setIfInBounds_ne hne]
    exact h.same k hk

theorem Agr.tm {ds : List Nat} {a0 a : Act} (h : Agr ds a0 a) {k : Nat} (hk : k ∉ ds) : a.tmps[k]?.getD undef = a0.tmps[k]?.getD undef := by rw [h.same k hk]

theorem agr_ext {ds : List Nat} {a0 a b : Act} (ha : Agr ds a0 a) (hb : Agr ds a0 b) (h : ∀ d ∈ ds, a.tmps[d]?.getD undef = b.tmps[d]?.getD undef) : a = b := by
  obtain ⟨at', ad⟩ := a
  obtain ⟨bt, bd⟩ := b
  have e2 : ad = bd := (ha.defers).trans hb.defers.symm
  have hsz : at'.size = bt.size := (ha.size).trans hb.size.symm
  have e1 : at' = bt := by
    apply Array.ext'
    apply List.ext_getElem?
    intro k
    simp only [Array.getElem?_toList]
    by_cases hk : k ∈ ds
    · have := h k hk
      simp only at this
      by_cases hl : k < at'.size
      · rw [Array.getElem?_eq_getElem hl, Array.getElem?_eq_getElem (by omega)] at this ⊢
        simpa using this
      · rw [Array.getElem?_eq_none (by omega), Array.getElem?_eq_none (by omega)]
    · exact (ha.same k hk).trans (hb.same k hk).symm
  rw [e1, e2]

/-- The slot of an operation. -/
def dstAt (l : List Oper) (k : Nat) : Option Nat := (l[k]?).bind Oper.dst

/-- What an operation hands back: those of the chain what is told, the others what is known. -/
def valAt (T : List Nat) (val : Nat → Value) (vs : List Value) (k : Nat) : Value := match T.idxOf? k with
  | some j => vs.getD j undef
  | none => val k

def SlotOk (l : List Oper) (T : List Nat) (val : Nat → Value) (vs : List Value) (a : Act) (k : Nat) : Prop := ∀ d, dstAt l k = some d → a.tmps[d]?.getD undef = valAt T val vs k

/-- The frame behind them all. -/
def endAct (l : List Oper) (T : List Nat) (val : Nat → Value) (vs : List Value) (a0 : Act) : Nat → Act
  | 0 => a0
  | k + 1 => (endAct l T val vs a0 k).put (dstAt l k) (valAt T val vs k)

structure Laid (l : List Oper) (T : List Nat) (a0 : Act) : Prop where
  nd : ∀ i j d, dstAt l i = some d → dstAt l j = some d → i = j
  lt : ∀ i d, dstAt l i = some d → d < a0.tmps.size
  gd : ∀ o ∈ l, o.guard = none
  ord : ∀ (i : Nat) (o : Oper), l[i]? = some o → ∀ e ∈ o.after, e.on < i
  tnd : T.Nodup
  tlt : ∀ k ∈ T, k < l.length
  chain : ∀ j k k', T[j]? = some k → T[j + 1]? = some k' → ∃ (o : Oper) (e : Edge), l[k']? = some o ∧ e ∈ o.after ∧ Region.binds .any e = true ∧ e.on = k

theorem tm_put_same {a : Act} {d : Nat} (h : d < a.tmps.size) (v : Value) : (a.put (some d) v).tmps[d]?.getD undef = v := by
  simp [Act.put, h]
theorem tm_put_ne {a : Act} {d k : Nat} (h : d ≠ k) (v : Value) : (a.put (some d) v).tmps[k]?.getD undef = a.tmps[k]?.getD undef := by
  simp only [Act.put, Array.getElem?_setIfInBounds_ne h]

theorem size_put' (a : Act) (d : Option Nat) (v : Value) : (a.put d v).tmps.size = a.tmps.size := by cases d <;> simp [Act.put]

def dsOf (l : List Oper) : List Nat := l.filterMap Oper.dst

theorem mem_dsOf {l : List Oper} {d : Nat} : d ∈ dsOf l ↔ ∃ k, dstAt l k = some d := by
  unfold dsOf dstAt
  rw [List.mem_filterMap]
  constructor
  · rintro ⟨o, ho, hd⟩
    obtain ⟨k, hk⟩ := List.getElem?_of_mem ho
    exact ⟨k, by rw [hk]; exact hd⟩
  · rintro ⟨k, hk⟩
    cases ho : l[k]? with
    | none => rw [ho] at hk; cases hk
    | some o => rw [ho] at hk; exact ⟨o, List.mem_of_getElem? ho, hk⟩

theorem endAct_ok {l : List Oper} {T : List Nat} {val : Nat → Value} {vs : List Value} {a0 : Act} (hL : Laid l T a0) : ∀ n, Agr (dsOf l) a0 (endAct l T val vs a0 n) ∧ (endAct l T val vs a0 n).tmps.size = a0.tmps.size ∧ ∀ k, k < n → SlotOk l T val vs (endAct l T val vs a0 n) k
  | 0 => ⟨Agr.refl _ _, rfl, fun k h => by omega⟩
  | n + 1 => by
    obtain ⟨h1, h2, h3⟩ := endAct_ok hL n
    refine ⟨h1.put (fun x hx => mem_dsOf.2 ⟨n, hx⟩) _, by rw [endAct, size_put']; exact h2, fun k hk d hd => ?_⟩
    rw [endAct]
    by_cases e : k = n
    · subst e
      rw [hd]
      exact tm_put_same (by rw [h2]; exact hL.lt k d hd) _
    · cases hn : dstAt l n with
      | none => exact h3 k (by omega) d hd
      | some d' =>
        have hne : d' ≠ d := fun ee => e (hL.nd k n d hd (ee ▸ hn))
        rw [tm_put_ne hne]
        exact h3 k (by omega) d hd

theorem valAt_snoc {T : List Nat} {val : Nat → Value} {vs : List Value} {v : Value} {k : Nat} (h : ∀ j, T.idxOf? k = some j → j < vs.length) : valAt T val (vs ++ [v]) k = valAt T val vs k := by
  unfold valAt
  cases hj : T.idxOf? k with
  | none => rfl
  | some j =>
    have := h j hj
    simp only [List.getD_eq_getElem?_getD, List.getElem?_append_left this]

theorem hidx_get {T : List Nat} {j k : Nat} (h : T.idxOf? k = some j) : T[j]? = some k := by
  rw [List.idxOf?, List.findIdx?_eq_some_iff_getElem] at h
  obtain ⟨hl, he, _⟩ := h
  rw [List.getElem?_eq_getElem hl]
  simpa using he

theorem hidx_of {T : List Nat} (hn : T.Nodup) {j k : Nat} (h : T[j]? = some k) : T.idxOf? k = some j := by
  cases hx : T.idxOf? k with
  | none =>
    rw [List.idxOf?, List.findIdx?_eq_none_iff] at hx
    have := hx k (List.mem_of_getElem? h)
    simp at this
  | some j' =>
    have h' := hidx_get hx
    have hl := (List.getElem?_eq_some_iff.1 h).1
    have hl' := (List.getElem?_eq_some_iff.1 h').1
    have := (List.getElem?_inj hl hn).1 (h.trans h'.symm)
    rw [this]

theorem wp_region_hoist {P : Program} {Q : Exit → Act → World → Prop} {id : Nat} {w : World} {a0 : Act} (l : List Oper) (T : List Nat) (val : Nat → Value) (G : List Value → World → Prop) (hm : P.follows .mixedOrders = true) (hL : Laid l T a0)
    (hG : G [] w.drew)
    (hS : ∀ (i : Nat) (o : Oper), l[i]? = some o → i ∉ T → ∀ (vs : List Value) (a : Act) (w : World) (K : Act → World → Prop), G vs w → (∀ (j k : Nat) (o' : Oper), T[j]? = some k → l[k]? = some o' → (∃ e ∈ o'.after, Region.binds .any e = true ∧ e.on = i) → vs.length ≤ j) → Agr (dsOf l) a0 a → (∀ e ∈ o.after, Region.binds .any e = true → SlotOk l T val vs a e.on) → K (a.put o.dst (val i)) w → o.wp P a w K Q)
    (hT : ∀ (j i : Nat) (o : Oper), T[j]? = some i → l[i]? = some o → ∀ (vs : List Value) (a : Act) (w : World) (K : Act → World → Prop), vs.length = j → G vs w → Agr (dsOf l) a0 a → (∀ e ∈ o.after, Region.binds .any e = true → SlotOk l T val vs a e.on) → (∀ v w', G (vs ++ [v]) w' → K (a.put o.dst v) w') → o.wp P a w K Q)
    (hD : ∀ vs w', vs.length = T.length → G vs w' → Q .normal (endAct l T val vs a0 l.length) w') : (Code.region id l.toArray true).wp P Q a0 w := by
  refine wp_region_inv hm (fun listed a w => listed.size = l.length ∧ ∃ vs : List Value, vs.length ≤ T.length ∧ (∀ j k, T[j]? = some k → (listed.getD k false = true ↔ j < vs.length)) ∧ Agr (dsOf l) a0 a ∧ (∀ k, k < l.length → listed.getD k false = true → SlotOk l T val vs a k) ∧ (∀ (k : Nat) (o : Oper), l[k]? = some o → listed.getD k false = true → ∀ e ∈ o.after, Region.binds .any e = true → listed.getD e.on false = true) ∧ G vs w) (fun _ _ _ h => by simpa using h.1) ?_ ?_ ?_
  · have hrep : ∀ k, (Array.replicate l.toArray.size false).getD k false = false := by intro k; simp only [Array.getD_eq_getD_getElem?, Array.getElem?_replicate]; split <;> rfl
    refine ⟨by simp, [], by simp, fun j k _ => ?_, Agr.refl _ _, fun k _ h => ?_, fun k o _ h => ?_, hG⟩
    · rw [hrep]; simp
    · rw [hrep] at h; cases h
    · rw [hrep] at h; cases h
  · rintro listed a w i ⟨hsz, vs, hvl, hTl, hag, hsl, hcl, hg⟩ hi
    obtain ⟨hnl, o, ho, hdep⟩ := mem_ready.1 hi
    have ho' : l[i]? = some o := by simpa using ho
    have hil : i < l.length := (List.getElem?_eq_some_iff.1 ho').1
    have hgd := hL.gd o (List.mem_of_getElem? ho')
    have hdst : dstAt l i = o.dst := by unfold dstAt; rw [ho']; rfl
    have hdeps : ∀ e ∈ o.after, Region.binds .any e = true → SlotOk l T val vs a e.on := fun e he hb => hsl e.on (by have := hL.ord i o ho' e he; omega) (hdep e he hb)
    have hnf : listed.getD i false = false := by
      cases h : listed.getD i false with
      | false => rfl
      | true =>
        exfalso
        have hlt : i < listed.size := by omega
        simp [hlt] at h hnl
        rw [h] at hnl; cases hnl
    have hset : ∀ k, (listed.setIfInBounds i true).getD k false = if k = i then true else listed.getD k false := by
      intro k
      by_cases e : k = i
      · subst e; have : k < listed.size := by omega
        simp [this]
      · rw [if_neg e]
        simp only [Array.getD_eq_getD_getElem?, Array.getElem?_setIfInBounds_ne (fun h => e h.symm)]
    have hcl' : ∀ (k : Nat) (o : Oper), l[k]? = some o → (listed.setIfInBounds i true).getD k false = true → ∀ e ∈ o.after, Region.binds .any e = true → (listed.setIfInBounds i true).getD e.on false = true := by
      intro k o2 hk hkl e he hb
      rw [hset] at hkl ⊢
      by_cases e2 : e.on = i
      · rw [if_pos e2]
      · rw [if_neg e2]
        by_cases e1 : k = i
        · subst e1
          rw [ho'] at hk; injection hk with hk; subst hk
          exact hdep e he hb
        · rw [if_neg e1] at hkl
          exact hcl k o2 hk hkl e he hb
    have haput : ∀ v, Agr (dsOf l) a0 (a.put o.dst v) := fun v => hag.put (fun x hx => mem_dsOf.2 ⟨i, by rw [hdst]; exact hx⟩) v
    refine wpOp_of ho hgd ?_
    by_cases hiT : i ∈ T
    · obtain ⟨j, hj⟩ := List.getElem?_of_mem hiT
      have hjl : j = vs.length := by
        have h1 : ¬ j < vs.length := fun h => by have := (hTl j i hj).2 h; rw [hnf] at this; cases this
        cases j with
        | zero => omega
        | succ j =>
          have hjl := (List.getElem?_eq_some_iff.1 hj).1
          obtain ⟨k, hk⟩ : ∃ k, T[j]? = some k := ⟨T[j], List.getElem?_eq_getElem (by omega)⟩
          obtain ⟨o2, e, ho2, he, hb, hek⟩ := hL.chain j k i hk hj
          rw [ho'] at ho2; injection ho2 with ho2; subst ho2
          have h2 := (hTl j k hk).1 (by rw [← hek]; exact hdep e he hb)
          omega
      refine hT j i o hj ho' vs a w _ hjl.symm hg hag hdeps fun v w' hg' => ?_
      have hjT := (List.getElem?_eq_some_iff.1 hj).1
      refine ⟨by simp [hsz], vs ++ [v], by simp; omega, fun j' k hk => ?_, haput v, fun k hk hkl d hd => ?_, hcl', hg'⟩
      · rw [hset k]
        by_cases e : k = i
        · subst e
          rw [if_pos rfl]
          have : j' = j := by
            have h1 := hidx_of hL.tnd hk
            have h2 := hidx_of hL.tnd hj
            rw [h1] at h2; injection h2
          simp; omega
        · rw [if_neg e, hTl j' k hk]
          have : j' ≠ j := fun ee => by subst ee; rw [hj] at hk; injection hk with hk; exact e hk.symm
          simp; omega
      · rw [hset k] at hkl
        by_cases e : k = i
        · subst e
          have hdd : o.dst = some d := by rw [← hdst]; exact hd
          rw [hdd, tm_put_same (by rw [hag.size]; exact hL.lt k d hd)]
          unfold valAt
          rw [hidx_of hL.tnd hj]
          simp [hjl]
        · rw [if_neg e] at hkl
          have h1 := hsl k hk hkl d hd
          rw [valAt_snoc (fun j' hj' => (hTl j' k (hidx_get hj')).1 hkl)]
          cases hn : o.dst with
          | none => exact h1
          | some d' =>
            have hne : d' ≠ d := fun ee => e (hL.nd k i d hd (by rw [hdst, hn, ee]))
            rw [tm_put_ne hne]
            exact h1
    · have hlate : ∀ (j k : Nat) (o' : Oper), T[j]? = some k → l[k]? = some o' → (∃ e ∈ o'.after, Region.binds .any e = true ∧ e.on = i) → vs.length ≤ j := by
        rintro j k o2 hj hk ⟨e, he, hb, hei⟩
        refine Classical.byContradiction fun hc => ?_
        have hkl := (hTl j k hj).2 (by omega)
        have := hcl k o2 hk hkl e he hb
        rw [hei, hnf] at this
        cases this
      refine hS i o ho' hiT vs a w _ hg hlate hag hdeps ?_
      refine ⟨by simp [hsz], vs, hvl, fun j' k hk => ?_, haput _, fun k hk hkl d hd => ?_, hcl', hg⟩
      · have hne : ¬ k = i := fun e => hiT (e ▸ List.mem_of_getElem? hk)
        rw [hset k, if_neg hne]
        exact hTl j' k hk
      · rw [hset k] at hkl
        by_cases e : k = i
        · subst e
          have hdd : o.dst = some d := by rw [← hdst]; exact hd
          rw [hdd, tm_put_same (by rw [hag.size]; exact hL.lt k d hd)]
          unfold valAt
          cases hx : T.idxOf? k with
          | none => rfl
          | some j => exact absurd (List.mem_of_getElem? (hidx_get hx)) hiT
        · rw [if_neg e] at hkl
          have h1 := hsl k hk hkl d hd
          cases hn : o.dst with
          | none => exact h1
          | some d' =>
            have hne : d' ≠ d := fun ee => e (hL.nd k i d hd (by rw [hdst, hn, ee]))
            rw [tm_put_ne hne]
            exact h1
  · rintro listed a w ⟨hsz, vs, hvl, hTl, hag, hsl, hcl, hg⟩ hr
    have hall := ready_none (ops := l.toArray) (md := .any) (fun i o ho => hL.ord i o (by simpa using ho)) (by simpa using hsz) hr
    have hvT : vs.length = T.length := by
      refine Nat.le_antisymm hvl ?_
      refine Classical.byContradiction fun hc => ?_
      obtain ⟨k, hk⟩ : ∃ k, T[vs.length]? = some k := ⟨T[vs.length], List.getElem?_eq_getElem (by omega)⟩
      have := (hTl _ k hk).1 (hall k (by have := hL.tlt k (List.mem_of_getElem? hk); simpa using this))
      omega
    obtain ⟨e1, e2, e3⟩ := endAct_ok (val := val) (vs := vs) hL l.length
    have hae : a = endAct l T val vs a0 l.length := by
      refine agr_ext hag e1 fun d hd => ?_
      obtain ⟨k, hk⟩ := mem_dsOf.1 hd
      have hkl : k < l.length := by
        unfold dstAt at hk
        cases ho : l[k]? with
        | none => rw [ho] at hk; cases hk
        | some o => exact (List.getElem?_eq_some_iff.1 ho).1
      rw [hsl k hkl (hall k (by simpa using hkl)) d hk, e3 k hkl d hk]
    rw [hae]
    exact hD vs w hvT hg

/-- All that the rule asks of the operations, by a test. -/
def laidB (l : List Oper) (T : List Nat) (n : Nat) : Bool :=
  ((List.range l.length).all fun i => (List.range l.length).all fun j => i == j || (dstAt l i).isNone || dstAt l i != dstAt l j) &&
  ((List.range l.length).all fun i => match dstAt l i with | none => true | some d => decide (d < n)) &&
  (l.all fun o => o.guard.isNone) &&
  ((List.range l.length).all fun i => match l[i]? with | none => true | some o => o.after.toList.all fun e => decide (e.on < i)) &&
  decide T.Nodup && (T.all fun k => decide (k < l.length)) &&
  ((List.range (T.length - 1)).all fun j => match l[T.getD (j + 1) 0]? with | none => false | some o => o.after.toList.any fun e => Region.binds .any e && e.on == T.getD j 0)

theorem dstAt_lt {l : List Oper} {k d : Nat} (h : dstAt l k = some d) : k < l.length := by
  unfold dstAt at h
  cases ho : l[k]? with
  | none => rw [ho] at h; cases h
  | some o => exact (List.getElem?_eq_some_iff.1 ho).1

theorem laid_of {l : List Oper} {T : List Nat} {a0 : Act} (h : laidB l T a0.tmps.size = true) : Laid l T a0 := by
  unfold laidB at h
  simp only [Bool.and_eq_true] at h
  obtain ⟨⟨⟨⟨⟨⟨h1, h2⟩, h3⟩, h4⟩, h5⟩, h6⟩, h7⟩ := h
  refine ⟨fun i j d hi hj => ?_, fun i d hi => ?_, fun o ho => ?_, fun i o ho e he => ?_, by simpa using h5, fun k hk => ?_, fun j k k' hk hk' => ?_⟩
  · have := List.all_eq_true.1 (List.all_eq_true.1 h1 i (List.mem_range.2 (dstAt_lt hi))) j (List.mem_range.2 (dstAt_lt hj))
    rw [hi, hj] at this
    simpa using this
  · have := List.all_eq_true.1 h2 i (List.mem_range.2 (dstAt_lt hi))
    rw [hi] at this
    simpa using this
  · have := List.all_eq_true.1 h3 o ho
    simpa using this
  · have := List.all_eq_true.1 h4 i (List.mem_range.2 (List.getElem?_eq_some_iff.1 ho).1)
    rw [ho] at this
    have := List.all_eq_true.1 this e (by simpa using he)
    simpa using this
  · have := List.all_eq_true.1 h6 k hk
    simpa using this
  · have hl := (List.getElem?_eq_some_iff.1 hk').1
    have := List.all_eq_true.1 h7 j (List.mem_range.2 (by omega))
    simp only [List.getD_eq_getElem?_getD, hk, hk', Option.getD_some] at this
    cases ho : l[k']? with
    | none => rw [ho] at this; cases this
    | some o =>
      rw [ho] at this
      obtain ⟨e, he, hb⟩ := List.any_eq_true.1 this
      simp only [Bool.and_eq_true, beq_iff_eq] at hb
      exact ⟨o, e, rfl, by simpa using he, hb.1, hb.2⟩

/-- A call. -/
theorem op_call {P : Program} {o : Oper} {a : Act} {w : World} {K : Act → World → Prop} {Q : Exit → Act → World → Prop} (f : FuncId) (args : Array Value)
    (hex : (execOp a.eval o).run P w = .ok (.enter f args) w) (hc : Calls P f args w fun e w' => ∃ v, e = .returned v ∧ K (a.put o.dst v) w') : Oper.wp P o a w K Q := by
  unfold Oper.wp
  rw [hex, Oper.upon_enter]
  refine hc.mono ?_
  rintro e w' ⟨v, rfl, hr⟩
  exact hr

/-- An append to a row of the call's own. -/
theorem op_append {P : Program} {o : Oper} {a : Act} {w : World} {K : Act → World → Prop} {Q : Exit → Act → World → Prop} (s x : Operand) (t : TypeId)
    (ho : o.op = .call { callee := .builtin .append, args := #[s, x], argTypes := #[t, t] })
    (base : Nat) (e : TypeId) (i : TypeInfo) (z : Value) (size bytes : Nat) (ht : P.underlying t = some (.slice e)) (hi : P.info? e = some i) (hz : i.zero = some z)
    (hsize : i.size = size) (hby : i.bytes = bytes) (hzs : z.cells.size = size) (hsz : 0 < size)
    (v : Value) (n : Nat) (xs : List Value) (hs : a.eval s = v) (hown : w.ownsRow base e size v n xs)
    (ad : Addr) (m c : Nat) (news : List Value) (hx : a.eval x = .slice (some ad) m c) (hl : news.length = m * size) (hnews : ∀ j u, news[j]? = some u → w.cell? (ad.add j) = some u) (h1 : ∀ u ∈ news, u.oneCell' = true)
    (h63 : n + m ≤ maxLen) (hbytes : (n + m) * bytes ≤ 140737488355328) (hbase : base ≤ w.heap.size)
    (h : ∀ v' w', w'.ownsRow base e size v' (n + m) (xs ++ news) → w.grownBy w' v.ownBlock → (v'.ownBlock = v.ownBlock ∨ v'.ownBlock = some w.heap.size) → K (a.put o.dst v') w') :
    Oper.wp P o a w K Q := by
  obtain ⟨v', w', hr, h2, h3, _, h5⟩ := run_append_own_at (P := P) w base t o.type e i z size bytes ht hi hz hsize hby hzs hsz v n xs hown ad m c news hl hnews h1 h63 hbytes hbase
  unfold Oper.wp execOp
  simp only [ho, resolve, invoke, builtin, Sem.run_bind, Sem.run_pure, Result.andThen_ok, List.map_toArray, List.map_cons, List.map_nil, hs, hx, hr]
  exact h v' w' h2 h3 h5

end Go.Proofs.Ytemjhdbmcdlpeaa

/- Walks: Lay. -/
namespace Go.Proofs.Ytemjhdbmcdlpeaa
set_option linter.unusedSimpArgs false
set_option linter.unusedVariables false
open Go.RowKit Go.Shelf

theorem joinW_snoc : ∀ (hs : List Int) (fs : List (List Int)) (h : Int) (f : List Int), hs.length = fs.length → joinW (hs ++ [h]) (fs ++ [f]) = joinW hs fs ++ ([h] ++ f)
  | [], [], h, f, _ => by simp [joinW]
  | [], g :: fs, h, f, e => by simp at e
  | x :: hs, [], h, f, e => by simp at e
  | x :: hs, g :: fs, h, f, e => by
    have := joinW_snoc hs fs h f (by simpa using e)
    simp only [List.cons_append, joinW, this, List.append_assoc]

/-- The words of the first k objects. -/
def layK (st : List Int) (L : List (List V)) (k : Nat) : List Int := joinW (layHeads (L.take k)) (layFields st (L.take k))

theorem layK_succ (st : List Int) {L : List (List V)} {k : Nat} (h : k < L.length) : layK st L (k + 1) = layK st L k ++ ([headW (L[k].length : Nat) false 0] ++ L[k].map (packV st)) := by
  unfold layK layHeads layFields
  rw [List.take_succ_eq_append_getElem h, List.map_append, List.map_append]
  exact joinW_snoc _ _ _ _ (by simp)

theorem layK_len (st : List Int) (L : List (List V)) (k : Nat) : (layK st L k).length = tot (L.take k) := by
  unfold layK
  rw [joinW_len _ _ (by simp [layHeads, layFields])]
  unfold tot layFields
  rw [List.map_map]
  congr 1
  apply List.map_congr_left
  intro l _
  simp

theorem layK_all (g : Gr) : layK (stF 0 g.objs) g.objs g.objs.length = layWords g := by unfold layK layWords; rw [List.take_length]

/-- Words in new memory. -/
def WdsF (base : Nat) (W : World) (a : Option Addr) (l : List Int) : Prop := Wds W.heap.size W a l ∧ ∀ b off, a = some ⟨b, off, none⟩ → base ≤ b

theorem WdsF.below {base : Nat} {W W' : World} {a : Option Addr} {l : List Int} (h : WdsF base W a l) (hb : Below W.heap.size W W') : WdsF base W' a l := ⟨(h.1.below hb).mono hb.size, h.2⟩
theorem WdsF.setCell {base : Nat} {W : World} {a : Option Addr} {l : List Int} (h : WdsF base W a l) {p : Addr} (hp : p.block < base) (u : Value) : WdsF base (W.setCell p u) a l := by
  have hs : (W.setCell p u).heap.size = W.heap.size := by simp [World.setCell]
  refine ⟨⟨h.1.1, fun hne => ?_⟩, h.2⟩
  obtain ⟨b, off, rfl, hB, hc⟩ := h.1.2 hne
  have h3 := h.2 b off rfl
  refine ⟨b, off, rfl, by rw [hs]; exact hB, fun k v hk => ?_⟩
  exact (World.cell?_of_block (a := ⟨b, off + k, none⟩) (Below.heap_setCell W p u b (by omega))).trans (hc k v hk)
theorem WdsF.base {base base' : Nat} {W : World} {a : Option Addr} {l : List Int} (h : WdsF base W a l) (hb : base' ≤ base) : WdsF base' W a l := ⟨h.1, fun b off e => by have := h.2 b off e; omega⟩

theorem wordsF_of_owns {w : World} {base : Nat} {e : TypeId} {v : Value} {n : Nat} {l : List Int} (h : w.ownsRow base e 1 v n (wordsV l)) (hn : n = l.length) (hs : n ≤ 9223372036854775807) :
    ∃ a cap, v = .slice a l.length cap ∧ WdsF base w a l ∧ l.length ≤ cap := by
  obtain ⟨a, cap, h1, h2, h3⟩ := words_of_owns h hn hs
  refine ⟨a, cap, h1, ⟨h2, unhide h3⟩, ?_⟩
  rcases h.2 with ⟨rfl, h0⟩ | ⟨g, cap', cur, rfl, hb, hg, hc1, hc2, hc3, htake⟩
  · injection h1 with _ e2 e3; omega
  · injection h1 with _ e2 e3; omega

structure NumOk (l : List V) : Prop where
  num : ∀ v ∈ l, v.1 = false → -4611686018427387904 ≤ v.2 ∧ v.2 ≤ 4611686018427387903

theorem NumOk.wide {l : List V} (h : NumOk l) : ∀ v ∈ l, v.1 = false → -9223372036854775808 ≤ v.2 ∧ v.2 ≤ 9223372036854775807 := fun v hv hr => by have := h.num v hv hr; omega

theorem nums_of_check {g : Gr} (h : checkG g = 0) : NumOk g.roots ∧ ∀ l ∈ g.objs, NumOk l := by
  have h3 : (allV g).any (fun v => badV v g.objs.length == 3) = false := by
    unfold checkG at h
    split at h
    · omega
    · split at h
      · omega
      · split at h
        · omega
        · rename_i h3; simpa using h3
  rw [List.any_eq_false] at h3
  have key : ∀ v ∈ allV g, v.1 = false → -4611686018427387904 ≤ v.2 ∧ v.2 ≤ 4611686018427387903 := by
    intro v hv hr
    have := h3 v hv
    unfold badV at this
    rw [hr] at this
    simp at this
    omega
  refine ⟨⟨fun v hv => key v (by simp [allV, hv])⟩, fun l hl => ⟨fun v hv => key v ?_⟩⟩
  unfold allV
  exact List.mem_append.2 (.inr (List.mem_flatten.2 ⟨l, hl, hv⟩))

def LayRes (base : Nat) (g : Gr) (e : Ending) (W : World) : Prop :=
  (checkG g ≠ 0 ∧ e = .returned (.tuple #[.agg #[.slice none 0 0, .slice none 0 0], .int .i64 (checkG g)])) ∨
  (checkG g = 0 ∧ ∃ aw cw ar cr, e = .returned (.tuple #[.agg #[.slice aw (layWords g).length cw, .slice ar (layRoots g).length cr], .int .i64 0]) ∧ WdsF base W aw (layWords g) ∧ WdsF base W ar (layRoots g) ∧ (layWords g).length ≤ cw)

end Go.Proofs.Ytemjhdbmcdlpeaa
