/- Walks: Dist. -/
import Derived.Test.YtmelhphhealomaaProg
import Derived.Test.YtmelhphhealomaaMem
import Derived.Test.YtmelhphhealomaaWp
import Derived.Test.YtmelhphhealomaaWv
import Derived.Test.YtmelhphhealomaaXa
namespace Go.Proofs.Ytmelhphhealomaa
set_option linter.unusedSimpArgs false
set_option linter.unusedVariables false
open Go.RowKit

/-- How far an object is; -1, if it can't be come to. -/
def distAt (g : Gr) (o : Int) : Int := if o ∈ orderOf g then ((distOf g)[(orderOf g).idxOf o]?).getD 0 else -1
def distL (g : Gr) : List Int := (List.range g.objs.length).map (fun (k : Nat) => distAt g (k : Int))

theorem distL_len (g : Gr) : (distL g).length = g.objs.length := by simp [distL]

theorem distL_take (g : Gr) {k : Nat} (hk : k < g.objs.length) : (distL g).take (k + 1) = (distL g).take k ++ [distAt g (k : Int)] := by
  rw [List.take_succ_eq_append_getElem (by rw [distL_len]; exact hk)]
  simp [distL]

theorem take_set1 {cs : List Value} {k : Nat} {pre : List Value} {x : Value} (h : cs.take k = pre) (hl : k < cs.length) : (cs.set k x).take (k + 1) = pre ++ [x] := by
  rw [← h]
  apply List.ext_getElem?
  intro i
  rw [List.getElem?_take]
  by_cases h1 : i < k
  · rw [if_pos (by omega), List.getElem?_append_left (by simp; omega), List.getElem?_set_ne (by omega), List.getElem?_take, if_pos h1]
  · rw [List.getElem?_append_right (by simp; omega)]
    have hmin : (List.take k cs).length = k := by simp; omega
    rw [hmin]
    by_cases h2 : i = k
    · subst h2
      rw [if_pos (by omega), List.getElem?_set_self (by omega)]; simp
    · rw [if_neg (by omega), List.getElem?_eq_none (by simp; omega)]

theorem ints_of_owns {w : World} {base : Nat} {e : TypeId} {v : Value} {n : Nat} {l : List Int} (h : w.ownsRow base e 1 v n (intsV l)) (hn : n = l.length) (hs : n ≤ 9223372036854775807) :
    ∃ a cap, v = .slice a l.length cap ∧ Ints w.heap.size w a l ∧ ∀ b off, a = some ⟨b, off, none⟩ → base ≤ b := by
  obtain ⟨_, h2⟩ := h
  rcases h2 with ⟨rfl, h0⟩ | ⟨g, cap, cur, rfl, hb, hg, hc1, hc2, hc3, htake⟩
  · refine ⟨none, 0, by rw [← hn, h0], ⟨by omega, fun hne => ?_⟩, fun b off e => by cases e⟩
    have : l = [] := List.eq_nil_of_length_eq_zero (by omega)
    exact absurd this hne
  · refine ⟨_, cap, by rw [hn], ⟨by omega, fun _ => ⟨g, 0, rfl, (Array.getElem?_eq_some_iff.1 hg).1, fun k v hk => ?_⟩⟩, fun b off e => by injection e with e; injection e with e1; omega⟩
    have h1 : (intsV l)[k]? = some (.int .i64 v) := by simp [intsV, hk]
    rw [← htake, List.getElem?_take] at h1
    rw [Nat.zero_add, cell_of_row w g k cur e (0, 0) hg]
    split at h1
    · simpa using h1
    · cases h1

set_option maxRecDepth 100000 in
set_option maxHeartbeats 1000000 in
theorem dist_bad (ao ar : Option Addr) (co cr : Nat) (g : Gr) (B : Nat) (w : World) (ho : Objs B w ao g.objs) (hr : Vals B w ar g.roots) (hB : B ≤ w.heap.size) (hc : checkG g ≠ 0) :
    Calls Try.prog 13 #[.agg #[.slice ao g.objs.length co, .slice ar g.roots.length cr]] w fun e w' => e = .returned (.tuple #[.slice none 0 0, .int .i64 (checkG g)]) ∧ Below w.heap.size w w' := by
  have hd : (checkG g != 0) = true := by simpa using hc
  generalize hcc : checkG g = c at *
  have Hcc := hide hcc
  clear hcc hc
  have hb1 := (Below.refl w.heap.size w).alloc (Nat.le_refl _) (.cells #[.slice ao g.objs.length co, .slice ar g.roots.length cr] 25)
  go_enter Try.func13, Try.ntmps13
  go_wp2_with (go_at_call 20; go_must (refine (check_c _ _ _ _ g B _ (ho.below (hb1.mono hB)) (hr.below (hb1.mono hB)) (by simp; omega)).mono ?_); go_must (rintro e w2 ⟨he, hb2⟩; rw [unhide Hcc] at he; subst he))
  go_ret2
  exact ⟨rfl, hb1.trans (hb2.mono (by simp))⟩

set_option maxRecDepth 100000 in
set_option maxHeartbeats 1000000 in
theorem dist_ok (ao ar : Option Addr) (co cr : Nat) (g : Gr) (B : Nat) (w : World) (ho : Objs B w ao g.objs) (hr : Vals B w ar g.roots) (hB : B ≤ w.heap.size) (hc : checkG g = 0) :
    Calls Try.prog 13 #[.agg #[.slice ao g.objs.length co, .slice ar g.roots.length cr]] w fun e w' => ∃ a cap, e = .returned (.tuple #[.slice a g.objs.length cap, .int .i64 0]) ∧ Ints w'.heap.size w' a (distL g) ∧ Below w.heap.size w w' := by
  have hG := good_of_check hc
  have Hcc := hide hc
  clear hc
  obtain ⟨i0, hi, hz0, hz1, hz2⟩ := info_parts Try.info3
  have hb1 := (Below.refl w.heap.size w).alloc (Nat.le_refl _) (.cells #[.slice ao g.objs.length co, .slice ar g.roots.length cr] 25)
  go_enter Try.func13, Try.ntmps13
  go_wp2_with fail
  refine (check_c _ _ _ _ g B _ (ho.below (hb1.mono hB)) (hr.below (hb1.mono hB)) (by simp; omega)).mono ?_
  rintro e w2 ⟨he, hb2⟩
  rw [unhide Hcc] at he
  subst he
  simp only [World.size_alloc] at hb2
  have g0 := hb2.cell (p := ⟨w.heap.size, 0, none⟩) (by simp)
  have g1 := hb2.cell (p := ⟨w.heap.size, 1, none⟩) (by simp)
  simp [go_sem] at g0 g1
  have hs2 := hb2.size
  simp at hs2
  have hbw2 : Below w.heap.size w w2 := hb1.trans (hb2.mono (by omega))
  clear hb1 hb2
  go_wp2_with fail
  refine (search_c _ _ _ _ g B _ (ho.below (hbw2.mono hB)) (hr.below (hbw2.mono hB)) (by omega) hG).mono ?_
  rintro e w3 ⟨vo, vd, D, mb, rfl, hmb, hF, hb3⟩
  obtain ⟨oa, oc, rfl⟩ := ownsRow_slice hF.ord
  obtain ⟨da, dc, rfl⟩ := ownsRow_slice hF.dis
  have hs3 := hb3.size
  have g0 := (hb3.cell (p := ⟨w.heap.size, 0, none⟩) (by simp; omega)).trans g0
  have hbw3 : Below w.heap.size w w3 := hbw2.trans (hb3.mono (by omega))
  have hq3 : w.heap.size < w3.heap.size := by omega
  have hok := searchN_ok hG g.objs.length
  have hlen := hok.le
  have hn24 := hG.n24
  have HO : Hid ((searchN g g.objs.length).1 = orderOf g) := rfl
  have HD : Hid ((searchN g g.objs.length).2 = distOf g) := rfl
  generalize searchN g g.objs.length = st at *
  obtain ⟨W4, hW4⟩ : ∃ W4, w3.alloc (.cells #[.slice oa st.1.length oc, .slice da st.2.length dc, .map (some mb)] 51) = W4 := ⟨_, rfl⟩
  have hs4 : W4.heap.size = w3.heap.size + 1 := by rw [← hW4]; simp
  have hb4 : Below w3.heap.size w3 W4 := by rw [← hW4]; exact (Below.refl _ _).alloc (Nat.le_refl _) _
  have k1 : W4.cell? ⟨w3.heap.size, 1, none⟩ = some (.slice da st.2.length dc) := by rw [← hW4]; simp [go_sem]
  have k2 : W4.cell? ⟨w3.heap.size, 2, none⟩ = some (.map (some mb)) := by rw [← hW4]; simp [go_sem]
  have hF4 := hF.below hb4
  have hbw4 : Below w.heap.size w W4 := hbw3.trans (hb4.mono (by omega))
  have g0 := (hb4.cell (p := ⟨w.heap.size, 0, none⟩) (by simp; omega)).trans g0
  have hq4 : w.heap.size < W4.heap.size := by omega
  have hs4' : w3.heap.size < W4.heap.size := by omega
  clear hs4
  go_wp2_with (at_make; go_must (refine wpList_make_full _ rfl _ _ 31 rfl W4.heap.size 3 i0 _ 1 Try.underlying31 hi hz0 hz1 .i64 .i64 _ _ g.objs.length rfl rfl rfl rfl (by rw [hz2]; omega) (by simp only [maxLen]; omega) (Nat.le_refl _) ?_); go_must (intro w5 hown hg5))
  have hcl := hown.1
  generalize (madeCells _ _).toList = cs0 at *
  have hb5 : Below W4.heap.size W4 w5 := (Below.refl _ W4).grown hg5 (Nat.le_refl _) (fun k e => by cases e)
  clear hW4 hg5 g0 hF
  go_loopw [23] (fun i wr => ∃ (k : Nat) (cs : List Value), k ≤ g.objs.length ∧ i = .int .i64 k ∧ wr.ownsRow W4.heap.size 3 1 (.slice (some ⟨W4.heap.size, 0, none⟩) g.objs.length g.objs.length) g.objs.length cs ∧ cs.take k = intsV ((distL g).take k) ∧ Below W4.heap.size W4 wr) (fun i _ => g.objs.length - (intOf i).toNat)
  case atStart => exact ⟨0, cs0, Nat.zero_le _, rfl, hown, by simp [intsV], hb5⟩
  case round =>
    clear hown hcl hb5
    obtain ⟨k, cs, hk, rfl, hown, htk, hb⟩ := hrel
    have Htk := hide htk
    clear htk
    have hsz := hb.size
    have hcl := hown.1
    by_cases hlt : k < g.objs.length
    · have hFr := hF4.below hb
      have k1 := (hb.cell (p := ⟨w3.heap.size, 1, none⟩) (by simp; omega)).trans k1
      have k2 := (hb.cell (p := ⟨w3.heap.size, 2, none⟩) (by simp; omega)).trans k2
      have hgb : W4.heap.size < wr.heap.size := (hown.lt W4.heap.size rfl).2
      have hx0 : ∃ v, wr.cell? ⟨W4.heap.size, k, none⟩ = some v := ⟨cs[k], by
        have := hown.cells (g := W4.heap.size) rfl k cs[k] (by rw [List.getElem?_eq_getElem])
        have hadd : (⟨W4.heap.size, 0, none⟩ : Addr).add k = ⟨W4.heap.size, k, none⟩ := by unfold Addr.add; split <;> simp_all
        rwa [hadd] at this⟩
      obtain ⟨x0, hx0⟩ := hx0
      have hf0 := hown.frozenAt k
      have hltI : (k : Int) < (g.objs.length : Int) := by omega
      have Hkey := hide (Maps.keyOf_int_mk Try.underlying3 (wf_i64 (x := (k : Int)) (by omega) (by omega)))
      have hhas := hFr.plc.1 (k : Int)
      have HT := hide (distL_take g hlt)
      have hbx : Below W4.heap.size W4 (wr.setCell ⟨W4.heap.size, k, none⟩ (.int .i64 (-1))) := hb.setCell (p := ⟨W4.heap.size, k, none⟩) (Nat.le_refl _) _
      have hFs := hF4.below hbx
      have k1 := (World.cell?_setCell_other wr ⟨W4.heap.size, k, none⟩ ⟨w3.heap.size, 1, none⟩ (.int .i64 (-1)) (fun e => by injection e; omega)).trans k1
      have k2 := (World.cell?_setCell_other wr ⟨W4.heap.size, k, none⟩ ⟨w3.heap.size, 2, none⟩ (.int .i64 (-1)) (fun e => by injection e; omega)).trans k2
      by_cases hm : (k : Int) ∈ st.1
      · have hh : Maps.has D (.int .i64 (k : Int)) = true := by rw [hhas]; simpa using hm
        have hix : st.1.idxOf (k : Int) < st.1.length := List.idxOf_lt_length_iff.2 hm
        have hix2 : st.1.idxOf (k : Int) < st.2.length := by rw [hok.len]; exact hix
        have Hpl := hide (show placeOf st.1 (k : Int) = ((st.1.idxOf (k : Int) : Nat) : Int) from by rw [placeOf, if_pos hm])
        have Hda := hide (show distAt g (k : Int) = st.2[st.1.idxOf (k : Int)] from by
          rw [distAt, ← unhide HO, if_pos hm, ← unhide HD, List.getElem?_eq_getElem hix2]; rfl)
        obtain ⟨gd, cd, hvd, hxd, hgd⟩ := ints_at hFs.dis hix2
        generalize st.2[st.1.idxOf (k : Int)] = dd at *
        generalize st.1.idxOf (k : Int) = ix at *
        injection hvd with hv1 _ hv3
        subst hv1 hv3
        clear hhas
        have hixI : (ix : Int) < (st.2.length : Int) := by omega
        go_wp2_with (at_lookup; go_must (refine wpList_lookup_own_ok_int _ rfl _ _ 49 rfl 3 3 .i64 (Maps.int_keyed Try.underlying3) Try.underlying49 Try.underlying3 (Try.zeroValue3 _) mb _ D rfl hFs.map _ _ rfl (unhide Hkey) ?_); go_must (intro c hat hwc; rw [atKey_place hFs.plc, unhide Hpl] at hat; injection hat with hat; injection hat with _ hat; subst hat))
        refine ⟨⟨k + 1, _, by omega, by go_num, ((hown.stored k (.int .i64 (-1))).1.stored k (.int .i64 dd)).1, ?_, hbx.setCell (p := ⟨W4.heap.size, k, none⟩) (Nat.le_refl _) _⟩, by simp [intOf]; omega⟩
        rw [List.set_set, take_set1 (unhide Htk) (by omega), unhide HT, intsV_snoc, unhide Hda]
      · have hh : Maps.has D (.int .i64 (k : Int)) = false := by rw [hhas]; simpa using hm
        have Hda := hide (show distAt g (k : Int) = -1 from by rw [distAt, ← unhide HO, if_neg hm])
        clear hhas
        go_wp2_with (at_lookup; go_must (refine wpList_lookup_own_ok_int _ rfl _ _ 49 rfl 3 3 .i64 (Maps.int_keyed Try.underlying3) Try.underlying49 Try.underlying3 (Try.zeroValue3 _) mb _ D rfl hFs.map _ _ rfl (unhide Hkey) ?_); intro c hat hwc)
        go_roundw
        case rel => exact ⟨k + 1, _, by omega, by go_num, (hown.stored k (.int .i64 (-1))).1, by rw [take_set1 (unhide Htk) (by omega), unhide HT, intsV_snoc, unhide Hda], hbx⟩
        case measure => simp [intOf]; omega
    · obtain rfl : k = g.objs.length := by omega
      have htk := unhide Htk
      rw [List.take_of_length_le (l := distL g) (by rw [distL_len]; omega), List.take_of_length_le (l := cs) (by omega)] at htk
      rw [htk] at hown
      obtain ⟨a', cap', hv, hV, _⟩ := ints_of_owns hown (distL_len g).symm (by omega)
      rw [distL_len] at hv
      have Hv := hide hv
      clear hv
      go_wp2
      go_ret2
      exact ⟨a', cap', congrArg (fun v => Ending.returned (.tuple #[v, .int .i64 0])) (unhide Hv), hV, hbw4.trans (hb.mono (by omega))⟩

end Go.Proofs.Ytmelhphhealomaa
