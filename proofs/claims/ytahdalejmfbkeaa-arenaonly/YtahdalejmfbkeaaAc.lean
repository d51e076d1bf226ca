/- Walks: the document's Fields, unpacked. -/
import Derived.Test.YtahdalejmfbkeaaAb
namespace Go.Proofs.Ytahdalejmfbkeaa
set_option linter.unusedSimpArgs false
set_option linter.unusedVariables false
open Go.RowKit

theorem Try.info54 : (Try.prog.info? 54).map (fun i => (i.zero, i.size, i.bytes)) = some (some (.int .u64 0), 1, 8) := by kernel_rfl

/-- The fields behind a header. -/
def fieldsAt (ws : List Int) (p : Nat) : List Int := (ws.drop (p + 1)).take (wlen (ws.getD p 0))

theorem fieldsAt_len {ws : List Int} {p : Nat} (hp : p < ws.length) (he : p + 1 + wlen ws[p] ≤ ws.length) : (fieldsAt ws p).length = wlen ws[p] := by
  unfold fieldsAt
  rw [List.length_take, List.length_drop, List.getD_eq_getElem?_getD, List.getElem?_eq_getElem hp, Option.getD_some]
  omega

theorem fieldsAt_get {ws : List Int} {p j : Nat} (hj : j < (fieldsAt ws p).length) : ∃ h : p + (j + 1) < ws.length, (fieldsAt ws p)[j] = ws[p + (j + 1)] := by
  have hl : (fieldsAt ws p).length ≤ ws.length - (p + 1) := by unfold fieldsAt; rw [List.length_take, List.length_drop]; omega
  refine ⟨by omega, ?_⟩
  simp only [fieldsAt, List.getElem_take, List.getElem_drop]
  congr 1
  omega

set_option maxRecDepth 100000 in
set_option maxHeartbeats 1000000 in
theorem rfields_c (a : Option Addr) (cap : Nat) (ws : List Int) (B : Nat) (w : World) (hl : Wds B w a ws) (hU : U64 ws) (hB : B ≤ w.heap.size) (hn : ws.length ≤ 256) (p : Nat) (hp : p < ws.length) (hk : unheadOk ws[p] = true) (he : p + 1 + wlen ws[p] ≤ ws.length) :
    Calls Try.prog 27 #[.slice a ws.length cap, .int .i64 p] w fun e w' => ∃ a' cap', e = .returned (.slice a' (fieldsAt ws p).length cap') ∧ Wds w'.heap.size w' a' (fieldsAt ws p) ∧ Below w.heap.size w w' ∧ Hid (∀ b off, a' = some ⟨b, off, none⟩ → w.heap.size ≤ b) := by
  obtain ⟨i0, hi, hz0, hz1, hz2⟩ := info_parts Try.info54
  have Hfl := hide (fieldsAt_len hp he)
  have Hfg := hide (fun j (hj : j < (fieldsAt ws p).length) => fieldsAt_get hj)
  obtain ⟨b, off, rfl, hbB, hc⟩ := hl.at hp
  have hu := hU _ (List.getElem_mem hp)
  have HE := hide (uhE_ok hk)
  have HL := hide ((uhL_wlen hk).trans (by rw [unhide Hfl] : (wlen ws[p] : Int) = ((fieldsAt ws p).length : Int)))
  have h4 : (fieldsAt ws p).length ≤ 4 := by rw [unhide Hfl]; exact wlen_le hk
  have hfin : p + 1 + (fieldsAt ws p).length ≤ ws.length := by rw [unhide Hfl]; exact he
  clear hk he Hfl
  generalize ws[p] = x at *
  generalize fieldsAt ws p = f at *
  go_enter Try.func27, Try.ntmps27
  go_wp2_with (go_at_call 30; go_must (refine (runhead_c x _ hu.1 hu.2).mono ?_); go_must (rintro e w3 ⟨he, hb3⟩; rw [unhide HE, unhide HL] at he; subst he))
  have hs3 := hb3.size
  go_loopw [7, 8] (fun s i wr => ∃ j : Nat, j ≤ f.length ∧ i = .int .i64 ((j + 1 : Nat) : Int) ∧ wr.ownsRow (w3.heap.size + 1) 54 1 s j (wordsV (f.take j)) ∧ Below (w3.heap.size + 1) (w3.alloc (.cells #[.int .i64 (f.length : Int), .bool (uhM x), .int .i64 (uhA x)] 64)) wr) (fun _ i _ => f.length + 1 - (intOf i).toNat)
  case atStart => exact ⟨0, Nat.zero_le _, rfl, by simpa [wordsV] using World.ownsRow_nil _ _ _ _, Below.refl _ _⟩
  case round =>
    obtain ⟨j, hj, rfl, hown, hb⟩ := hrel
    have hsz : w3.heap.size + 1 ≤ wr.heap.size := by have := hb.size; simpa using this
    have hbx : wr.cell? ⟨w3.heap.size, 0, none⟩ = some (.int .i64 (f.length : Int)) := by rw [hb.cell (p := ⟨w3.heap.size, 0, none⟩) (by simp)]; simp [go_sem]
    have hbw : Below w.heap.size w wr := (hb3.alloc hs3 _).trans (hb.mono (by omega))
    by_cases hlt : j < f.length
    · obtain ⟨hq, Hg⟩ := unhide Hfg j hlt
      have Hg := hide Hg
      obtain ⟨b', off', e', hbB', hc'⟩ := (hl.below (hbw.mono hB)).at hq
      injection e' with e'
      injection e' with e1 e2
      subst e1 e2
      have HT := hide (show wordsV (f.take (j + 1)) = wordsV (f.take j) ++ [.int .u64 (ws[p + (j + 1)])] from by rw [List.take_succ_eq_append_getElem hlt, unhide Hg, wordsV_snoc])
      generalize ws[p + (j + 1)] = y at *
      have hji : decide (((j + 1 : Nat) : Int) ≤ (f.length : Int)) = true := by simp; omega
      have hwr : IntKind.i64.wrap ((p : Int) + ((j + 1 : Nat) : Int)) = ((p + (j + 1) : Nat) : Int) := by rw [IntKind.wrap_i64]; omega
      clear Hg
      go_wp2_with (at_builtin; go_must (refine wpList_append_own _ rfl _ _ 22 rfl (w3.heap.size + 1) 54 i0 _ 1 8 Try.underlying22 hi hz0 hz1 hz2 rfl (by decide) _ _ _ rfl (hown.alloc _) ⟨wr.heap.size, 0, none⟩ 1 1 [.int .u64 y] rfl rfl (cell_one_at _ _ _ _ (by simp)) (by simp [Value.oneCell']) (by simp only [maxLen]; omega) (by omega) (by simp; omega) ?_); intro v' w1 hown' hgrow _)
      go_roundw
      case rel => exact ⟨j + 1, by omega, by go_num, by rw [unhide HT]; exact hown', (hb.alloc hsz _).grown hgrow (by simp; omega) (fun q e => (hown.lt q e).1)⟩
      case measure => simp [intOf]; omega
    · obtain rfl : j = f.length := by omega
      rw [List.take_length] at hown
      obtain ⟨a', cap', hv, hW, Hr9⟩ := words_of_owns hown rfl (by omega)
      have hji : decide (((f.length + 1 : Nat) : Int) ≤ (f.length : Int)) = false := by simp; omega
      subst hv
      go_wp2
      go_ret
      exact ⟨a', cap', rfl, hW, hbw, hide (fun b off e => by have := unhide Hr9 b off e; omega)⟩

theorem Try.info59' : (Try.prog.info? 59).map (fun i => (i.zero, i.size, i.bytes)) = some (some (.agg #[.bool false, .int .i64 0]), 2, 16) := by kernel_rfl

theorem valW_ref {st : List Int} {x : Int} (h : unRef x = true) : valW st x = (true, placeOf st (unNum x)) := by simp [valW, h]
theorem valW_num {st : List Int} {x : Int} (h : unRef x = false) : valW st x = (false, unNum x) := by simp [valW, h]
theorem cells_take_succ {ws st : List Int} {k : Nat} (hk : k < ws.length) {r : Bool} {n : Int} (h : valW st ws[k] = (r, n)) : cellsV ((ws.map (valW st)).take (k + 1)) = cellsV ((ws.map (valW st)).take k) ++ [.bool r, .int .i64 n] := by
  rw [List.take_succ_eq_append_getElem (by simpa using hk), List.getElem_map, h, cellsV_snoc]

set_option maxRecDepth 100000 in
set_option maxHeartbeats 1000000 in
theorem runpacked_c (a s0 : Option Addr) (cap caps : Nat) (ws st : List Int) (B : Nat) (w : World) (hl : Wds B w a ws) (hU : U64 ws) (hS : Ints B w s0 st) (hB : B ≤ w.heap.size) (hn : ws.length ≤ 256) :
    Calls Try.prog 31 #[.slice a ws.length cap, .slice s0 st.length caps] w fun e w' => ∃ a' cap', e = .returned (.slice a' (ws.map (valW st)).length cap') ∧ Vals w'.heap.size w' a' (ws.map (valW st)) ∧ Below w.heap.size w w' := by
  obtain ⟨i0, hi, hz0, hz1, hz2⟩ := info_parts Try.info59'
  go_enter Try.func31, Try.ntmps31
  go_wp2
  go_loopw [5, 12] (fun s i wr => ∃ k : Nat, k ≤ ws.length ∧ i = .int .i64 k ∧ wr.ownsRow w.heap.size 59 2 s k (cellsV ((ws.map (valW st)).take k)) ∧ Below w.heap.size w wr) (fun _ i _ => ws.length - (intOf i).toNat)
  case atStart => exact ⟨0, Nat.zero_le _, rfl, by simpa [cellsV] using World.ownsRow_nil _ _ _ _, Below.refl _ _⟩
  case round =>
    obtain ⟨k, hk, rfl, hown, hb⟩ := hrel
    have hsz := hb.size
    by_cases hlt : k < ws.length
    · obtain ⟨b, off, rfl, hbB, hc⟩ := (hl.below (hb.mono hB)).at hlt
      have hu := hU _ (List.getElem_mem hlt)
      have HT := hide (fun r n => cells_take_succ (st := st) hlt (r := r) (n := n))
      generalize ws[k] = x at *
      cases hr : unRef x
      · have HT2 := hide (unhide HT _ _ (valW_num hr))
        have Hr := hide hr
        clear hr HT
        go_wp2_with (first
          | (go_at_call 28; go_must (refine (runpack_c x _ hu.1 hu.2).mono ?_); go_must (rintro e w3 ⟨he, hb3⟩; rw [unhide Hr] at he; subst he; have hs3 := hb3.size; have hown3 := ownsRow_below hown hb3))
          | (at_builtin; go_must (refine wpList_append_own _ rfl _ _ 31 rfl w.heap.size 59 i0 _ 2 16 Try.underlying31 hi hz0 hz1 hz2 rfl (by decide) _ _ _ rfl ((hown3.alloc _).alloc _) ⟨w3.heap.size + 1, 0, none⟩ 1 1 [.bool false, .int .i64 (unNum x)] rfl rfl (cell_two_at _ _ _ _ _ (by simp)) (by simp [Value.oneCell']) (by simp only [maxLen]; omega) (by omega) (by simp; omega) ?_); intro v' w1 hown' hgrow _))
        go_roundw
        case rel => exact ⟨k + 1, by omega, by go_num, by rw [unhide HT2]; exact hown', (((hb.trans (hb3.mono hsz)).alloc (by omega) _).alloc (by simp; omega) _).grown hgrow (by simp; omega) (fun q e => (hown3.lt q e).1)⟩
        case measure => simp [intOf]; omega
      · have HT2 := hide (unhide HT _ _ (valW_ref hr))
        have Hr := hide hr
        clear hr HT
        go_wp2_with (first
          | (go_at_call 28; go_must (refine (runpack_c x _ hu.1 hu.2).mono ?_); go_must (rintro e w3 ⟨he, hb3⟩; rw [unhide Hr] at he; subst he; have hs3 := hb3.size; have hown3 := ownsRow_below hown hb3; have hS3 := hS.below ((hb.mono hB).trans (hb3.mono (Nat.le_trans hB hsz)))))
          | (go_at_call 42; go_must (refine (place_c _ _ st (unNum x) B _ (hS3.below ((Below.refl _ _).alloc (by omega) _))).mono ?_); go_must (rintro e w4 ⟨he, hw4⟩; subst he; have hw4 := hw4.symm; subst hw4))
          | (at_builtin; go_must (refine wpList_append_own _ rfl _ _ 31 rfl w.heap.size 59 i0 _ 2 16 Try.underlying31 hi hz0 hz1 hz2 rfl (by decide) _ _ _ rfl ((hown3.alloc _).alloc _) ⟨w3.heap.size + 1, 0, none⟩ 1 1 [.bool true, .int .i64 (placeOf st (unNum x))] rfl rfl (cell_two_at _ _ _ _ _ (by simp)) (by simp [Value.oneCell']) (by simp only [maxLen]; omega) (by omega) (by simp; omega) ?_); intro v' w1 hown' hgrow _))
        go_roundw
        case rel => exact ⟨k + 1, by omega, by go_num, by rw [unhide HT2]; exact hown', (((hb.trans (hb3.mono hsz)).alloc (by omega) _).alloc (by simp; omega) _).grown hgrow (by simp; omega) (fun q e => (hown3.lt q e).1)⟩
        case measure => simp [intOf]; omega
    · obtain rfl : k = ws.length := by omega
      rw [List.take_of_length_le (by simp)] at hown
      obtain ⟨a', cap', hv, hV, hr9⟩ := vals_of_owns hown (by simp) (by omega)
      clear hr9
      subst hv
      go_wp2
      go_ret
      exact ⟨a', cap', rfl, hV, hb⟩

end Go.Proofs.Ytahdalejmfbkeaa
