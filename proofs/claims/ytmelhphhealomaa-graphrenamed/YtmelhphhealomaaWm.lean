/- Walks: the search, walked. -/
import Derived.Test.YtmelhphhealomaaProg
import Derived.Test.YtmelhphhealomaaMem
import Derived.Test.YtmelhphhealomaaWl
namespace Go.Proofs.Ytmelhphhealomaa
set_option linter.unusedSimpArgs false
set_option linter.unusedVariables false
open Go.RowKit

theorem Found.drew {W : World} {mb : Nat} {st : List Int × List Int} {vo vd : Value} {D : DataW Unit} (h : Found W mb st vo vd D) : Found W.drew mb st vo vd D :=
  ⟨⟨h.box.c0, h.box.c1, h.box.c2, h.box.f0, h.box.f1⟩, h.ord, h.dis, h.map.drew, h.plc, h.apart⟩

/-- One number of a row of numbers. -/
theorem ints_at {W : World} {base : Nat} {e : TypeId} {v : Value} {l : List Int} (h : W.ownsRow base e 1 v l.length (intsV l)) {k : Nat} (hk : k < l.length) :
    ∃ g cap, v = .slice (some ⟨g, 0, none⟩) l.length cap ∧ W.cell? ⟨g, k, none⟩ = some (.int .i64 l[k]) ∧ g < W.heap.size := by
  rcases h.2 with ⟨_, h0⟩ | ⟨g, cap, cur, rfl, _, hg, _, _, _, htake⟩
  · omega
  · refine ⟨g, cap, rfl, ?_, (Array.getElem?_eq_some_iff.1 hg).1⟩
    rw [cell_of_row W g k cur e (0, 0) hg]
    have h1 : (intsV l)[k]? = some (.int .i64 l[k]) := by simp [intsV, hk]
    rw [← htake, List.getElem?_take] at h1
    split at h1
    · simpa using h1
    · cases h1

theorem searchN_stable (g : Gr) {k : Nat} (h : (searchN g k).1.length ≤ k) : ∀ m, searchN g (k + m) = searchN g k
  | 0 => rfl
  | m + 1 => by
    have ih := searchN_stable g h m
    show searchN g (k + m + 1) = _
    simp only [searchN]
    rw [ih, List.getElem?_eq_none (by omega)]

/-- A box of three cells is kept where a row or a map of the call's own is turned. -/
theorem Found.below {W W' : World} {mb : Nat} {st : List Int × List Int} {vo vd : Value} {D : DataW Unit} (h : Found W mb st vo vd D) (hb : Below W.heap.size W W') : Found W' mb st vo vd D := by
  have hg : W.grownBy W' none := ⟨hb.os, hb.tape, hb.output, hb.size, fun k hk _ => hb.block k hk⟩
  exact h.own hg (fun r e => by cases e)

theorem Found.setCell {W : World} {mb : Nat} {st : List Int × List Int} {vo vd : Value} {D : DataW Unit} (h : Found W mb st vo vd D) (p : Addr) (hp : p.block < mb) (u : Value) : Found (W.setCell p u) mb st vo vd D :=
  ⟨h.box.kept (Below.heap_setCell _ _ _ _ (by omega)), ownsRow_setCell_below h.ord (by omega) u, ownsRow_setCell_below h.dis (by omega) u, h.map.setCell (by omega) u, h.plc, h.apart⟩

set_option maxRecDepth 100000 in
set_option maxHeartbeats 2000000 in
theorem search_c (ao ar : Option Addr) (co cr : Nat) (g : Gr) (B : Nat) (w : World) (ho : Objs B w ao g.objs) (hr : Vals B w ar g.roots) (hB : B ≤ w.heap.size) (hG : Good g) :
    Calls Try.prog 22 #[.agg #[.slice ao g.objs.length co, .slice ar g.roots.length cr]] w fun e w' => ∃ vo vd D mb, e = .returned (.agg #[vo, vd, .map (some mb)]) ∧ w.heap.size ≤ mb ∧ Found w' mb (searchN g g.objs.length) vo vd D ∧ Below w.heap.size w w' := by
  have hmm := @run_makeMap Try.prog
  have ho1 := ho.1
  have hr1 := hr.1
  go_enter Try.func22, Try.ntmps22
  have hW0 : ∀ W0, ((((w.alloc (.cells #[.slice ao g.objs.length co, .slice ar g.roots.length cr] 25)).alloc (.cells #[.slice none 0 0, .slice none 0 0, .map none] 51)).alloc (.map #[] 0)).alloc (.cells #[.slice none 0 0, .slice none 0 0, .map (some (w.heap.size + 1 + 1))] 51)) = W0 →
      Found W0 (w.heap.size + 1 + 1) ([], []) (.slice none 0 0) (.slice none 0 0) (.map []) ∧ Below w.heap.size w W0 ∧ W0.cell? ⟨w.heap.size, 0, none⟩ = some (.slice ao g.objs.length co) ∧ (W0.cell? ⟨w.heap.size + 1, 0, none⟩).isSome = true ∧ (W0.cell? ⟨w.heap.size + 1, 1, none⟩).isSome = true ∧ (W0.cell? ⟨w.heap.size + 1, 2, none⟩).isSome = true ∧ W0.frozen? ⟨w.heap.size + 1, 0, none⟩ = false ∧ W0.frozen? ⟨w.heap.size + 1, 1, none⟩ = false ∧ W0.frozen? ⟨w.heap.size + 1, 2, none⟩ = false := by
    intro W0 h
    have hmp := World.ownsMap_made (H := Unit) ((w.alloc (.cells #[.slice ao g.objs.length co, .slice ar g.roots.length cr] 25)).alloc (.cells #[.slice none 0 0, .slice none 0 0, .map none] 51)) Try.prog 3 (plainElem Try.prog 3)
    simp only [World.size_alloc] at hmp
    subst h
    refine ⟨⟨⟨by simp [go_sem], by simp [go_sem], by simp [go_sem], by simp [go_sem], by simp [go_sem]⟩, World.ownsRow_nil _ _ _ _, World.ownsRow_nil _ _ _ _, hmp.alloc _, placeD_nil, by simp [Value.ownBlock]⟩, ?_, by simp [go_sem], by simp [go_sem], by simp [go_sem], by simp [go_sem], by simp [go_sem], by simp [go_sem], by simp [go_sem]⟩
    exact ((((Below.refl _ _).alloc (Nat.le_refl _) _).alloc (by simp) _).alloc (by simp; omega) _).alloc (by simp; omega) _
  go_wp2_with fail
  obtain ⟨W0, hW⟩ : ∃ W0, ((((w.alloc (.cells #[.slice ao g.objs.length co, .slice ar g.roots.length cr] 25)).alloc (.cells #[.slice none 0 0, .slice none 0 0, .map none] 51)).alloc (.map #[] 0)).alloc (.cells #[.slice none 0 0, .slice none 0 0, .map (some (w.heap.size + 1 + 1))] 51)) = W0 := ⟨_, rfl⟩
  rw [hW]
  obtain ⟨hF0, hb0, hg0, hi0, hi1, hi2, hj0, hj1, hj2⟩ := hW0 W0 hW
  clear hW hW0
  obtain ⟨mb, hmb⟩ : ∃ mb, w.heap.size + 1 + 1 = mb := ⟨_, rfl⟩
  rw [hmb] at hF0
  rw [hmb]
  have Hmb := hide hmb
  have hmb1 : w.heap.size + 1 < mb := by omega
  clear hmb
  refine (find_c mb ar cr g.roots 0 ([], []) _ _ _ W0 hF0 ((hr.below (hb0.mono hB)).mono (by omega)) hG.refsRoots (by simp) (by simp) (by have := hG.n8; omega)).mono ?_
  rintro e w1 ⟨rfl, hF1, hb1⟩
  have hF1 : ∃ vo vd D, Found w1 mb (searchN g 0) vo vd D := hF1
  go_wp2
  go_loopw [5] (fun i wr => ∃ k : Nat, i = .int .i64 k ∧ k ≤ (searchN g k).1.length ∧ (∃ vo vd D, Found wr mb (searchN g k) vo vd D) ∧ Below mb W0 wr) (fun i _ => g.objs.length - (intOf i).toNat)
  case atStart => exact ⟨0, rfl, Nat.zero_le _, hF1, hb1⟩
  case round =>
    obtain ⟨k, rfl, hk, ⟨vo, vd, D, hF⟩, hb⟩ := hrel
    have hok := searchN_ok hG k
    have hkN := hok.le
    have hn24 := hG.n24
    have hb' : Below B w wr := (hb0.mono hB).trans (hb.mono (by omega))
    have hc0 := hF.box.c0
    have hc1 := hF.box.c1
    have hc2 := hF.box.c2
    have hgx := (hb.cell (p := ⟨w.heap.size, 0, none⟩) (by simp; omega)).trans hg0
    by_cases hlt : k < (searchN g k).1.length
    · have hlt2 : k < (searchN g k).2.length := by rw [hok.len]; exact hlt
      have hp := hok.pos k _ (List.getElem?_eq_getElem hlt2)
      have hro := hok.rng _ (List.getElem_mem hlt)
      have HS : Hid (searchN g (k + 1) = findA ((searchN g k).2[k] + 1) (searchN g k) (valsOf (obsOf ((g.objs[((searchN g k).1[k]).toNat]?).getD [])))) := by
        show searchN g (k + 1) = _
        simp only [searchN]
        rw [List.getElem?_eq_getElem hlt, List.getElem?_eq_getElem hlt2]; rfl
      obtain ⟨g1, cap1, hv1, hx1, hgl1⟩ := ints_at hF.ord hlt
      obtain ⟨g2, cap2, hv2, hx2, hgl2⟩ := ints_at hF.dis hlt2
      subst hv1 hv2
      generalize hO : (searchN g k).1[k] = o at *
      generalize hD : (searchN g k).2[k] = dd at *
      obtain ⟨o, rfl⟩ := Int.eq_ofNat_of_zero_le hro.1
      have hoN : o < g.objs.length := by omega
      obtain ⟨b, off, ai, ci, rfl, hbB, hcb, hva⟩ := (ho.below hb').at hoN
      have Hfs := hide (show (g.objs[((o : Int)).toNat]?).getD [] = g.objs[o] by simp [hoN])
      have hl4 := hG.n4 _ (List.getElem_mem hoN)
      have hrf := hG.refsObjs (List.getElem_mem hoN)
      have Hrf := hide hrf
      clear hO hD hrf
      generalize g.objs[o] = fs at *
      have hlen2 := hok.len
      generalize hst : searchN g k = st at *
      go_wp2
      go_still_tail 17, Try.mixed
      go_wp2_with (go_at_call 37; go_must (refine (find_c mb ai ci fs (dd + 1) st _ _ D _ hF.drew ((hva.mono (by omega)).below (Below.refl _ _).drew) (unhide Hrf) (by omega) (by omega) (by omega)).mono ?_); rintro e w3 ⟨rfl, hF3, hb3⟩)
      have hgr := findA_grows (dd + 1) (valsOf (obsOf fs)) st
      go_roundw
      case rel =>
        refine ⟨k + 1, by go_num, ?_, ?_, hb.trans ((Below.refl mb wr).drew.trans hb3)⟩
        · rw [unhide HS, unhide Hfs]; omega
        · rw [unhide HS, unhide Hfs]; exact hF3
      case measure => simp [intOf]; omega
    · have hkk : k = (searchN g k).1.length := by omega
      have HS := hide (show searchN g g.objs.length = searchN g k from by
        have := searchN_stable g (k := k) (by omega) (g.objs.length - k)
        rwa [show k + (g.objs.length - k) = g.objs.length from by omega] at this)
      have Hkk := hide hkk
      clear hkk
      obtain ⟨oa, oc, rfl⟩ := ownsRow_slice hF.ord
      obtain ⟨da, dc, rfl⟩ := ownsRow_slice hF.dis
      have hi0 := (congrArg Option.isSome (hb.cell (p := ⟨w.heap.size + 1, 0, none⟩) (by simp; omega))).trans hi0
      have hi1 := (congrArg Option.isSome (hb.cell (p := ⟨w.heap.size + 1, 1, none⟩) (by simp; omega))).trans hi1
      have hi2 := (congrArg Option.isSome (hb.cell (p := ⟨w.heap.size + 1, 2, none⟩) (by simp; omega))).trans hi2
      have hj0 := (hb.frozen (p := ⟨w.heap.size + 1, 0, none⟩) (by simp; omega)).trans hj0
      have hj1 := (hb.frozen (p := ⟨w.heap.size + 1, 1, none⟩) (by simp; omega)).trans hj1
      have hj2 := (hb.frozen (p := ⟨w.heap.size + 1, 2, none⟩) (by simp; omega)).trans hj2
      obtain ⟨x0, hi0⟩ := Option.isSome_iff_exists.1 hi0
      obtain ⟨x1, hi1⟩ := Option.isSome_iff_exists.1 hi1
      obtain ⟨x2, hi2⟩ := Option.isSome_iff_exists.1 hi2
      generalize hst : searchN g k = st at *
      go_wp2
      refine bodyPost_ret (v := .agg #[.slice oa st.1.length oc, .slice da st.2.length dc, .map (some mb)]) (by simp [results, Try.results22, go_sem, hi0, hi1, hi2]) rfl ⟨_, _, D, mb, rfl, by omega, ?_, ?_⟩
      · rw [unhide HS]
        exact ((hF.setCell _ (by simp; omega) _).setCell _ (by simp; omega) _).setCell _ (by simp; omega) _
      · exact (((hb0.trans (hb.mono (by omega))).setCell (p := ⟨w.heap.size + 1, 0, none⟩) (by simp) _).setCell (p := ⟨w.heap.size + 1, 1, none⟩) (by simp) _).setCell (p := ⟨w.heap.size + 1, 2, none⟩) (by simp) _

end Go.Proofs.Ytmelhphhealomaa
