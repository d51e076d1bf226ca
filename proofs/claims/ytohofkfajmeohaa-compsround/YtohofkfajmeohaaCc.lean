/- Walks: follow. -/
import Derived.Test.YtohofkfajmeohaaProg
import Derived.Test.YtohofkfajmeohaaMem
import Derived.Test.YtohofkfajmeohaaCb
import Derived.StillTailTactics
namespace Go.Proofs.Ytohofkfajmeohaa
set_option linter.unusedSimpArgs false
set_option linter.unusedVariables false
open Go.RowKit Go.Shelf
attribute [local go_sem] Oper.semAt_some

theorem ownsRow_new (w : World) (v : Value) (e : TypeId) (base m : Nat) (hm : m = w.heap.size) (hb : base ≤ m) : (w.alloc (.cells #[v] e)).ownsRow base e 1 (.slice (some ⟨m, 0, none⟩) 1 1) 1 [v] := by
  subst hm
  refine ⟨rfl, .inr ⟨w.heap.size, 1, #[v], rfl, hb, World.alloc_heap_new w _, by simp, by simp [maxLen], by simp, by simp⟩⟩

set_option maxRecDepth 100000 in
set_option maxHeartbeats 4000000 in
theorem follow_c (ao ar al : Option Addr) (co cr ll cl : Nat) (g : Gr) (o : Int) (B : Nat) (w : World) (ho : Objs B w ao g.objs) (hB : B ≤ w.heap.size) (hG : Good g) (h0 : 0 ≤ o) (h1 : o < g.objs.length) :
    Calls Try.prog 33 #[.agg #[.slice ao g.objs.length co, .slice ar g.roots.length cr, .slice al ll cl], .int .i64 o] w fun e w' => ∃ mb n D, e = .returned (.map (some mb)) ∧ w.heap.size ≤ mb ∧ mb < w'.heap.size ∧ SetAt w' mb n D (ledL g o) ∧ Below w.heap.size w w' := by
  obtain ⟨i0, hi, hz0, hz1, hz2⟩ := info_parts Try.info3
  have hmm := @run_makeMap Try.prog
  have ho1 := ho.1
  have hn24 := hG.n24
  refine (callsIn_wide (n := 8)).1 ?_
  refine callsIn_of_wp_marks Try.func33 rfl trivial (wpIn_wide.2 ?_) rfl
  simp only [Try.ntmps33, List.size_toArray, List.length_cons, List.length_nil, Nat.reduceAdd, Nat.reduceSub, Array.replicate_succ, Array.replicate_zero, List.push_toArray, List.append_toArray, List.nil_append, List.cons_append]
  have hW0 : ∀ W0, (((((w.alloc (.cells #[.slice ao g.objs.length co, .slice ar g.roots.length cr, .slice al ll cl] 47)).alloc (.map #[] 0)).alloc (.cells #[.map (some (w.heap.size + 1))] 65)).alloc (.cells #[.int .i64 o] 3)).alloc (.cells #[.slice (some ⟨w.heap.size + 1 + 1 + 1, 0, none⟩) 1 1] 30)) = W0 →
      Fol W0 (w.heap.size + 1) o [] (.slice (some ⟨w.heap.size + 1 + 2, 0, none⟩) 1 1) (.map []) ∧ Below w.heap.size w W0 ∧ W0.cell? ⟨w.heap.size, 0, none⟩ = some (.slice ao g.objs.length co) ∧ W0.heap.size = w.heap.size + 5 := by
    intro W0 h
    have hmp := World.ownsMap_made (H := Unit) (w.alloc (.cells #[.slice ao g.objs.length co, .slice ar g.roots.length cr, .slice al ll cl] 47)) Try.prog 3 unitElem
    simp only [World.size_alloc] at hmp
    have hrw := ownsRow_new (((w.alloc (.cells #[.slice ao g.objs.length co, .slice ar g.roots.length cr, .slice al ll cl] 47)).alloc (.map #[] 0)).alloc (.cells #[.map (some (w.heap.size + 1))] 65)) (.int .i64 o) 3 (w.heap.size + 1 + 2) (w.heap.size + 1 + 2) (by simp) (Nat.le_refl _)
    subst h
    refine ⟨⟨by simp [go_sem], by simp [go_sem], by simp [go_sem], hrw.alloc _, ⟨((hmp.alloc _).alloc _).alloc _, fun x => by simp [Maps.has_eq], by simp [Maps.size]⟩, by simp [Value.ownBlock]⟩, ?_, by simp [go_sem], by simp⟩
    exact (((((Below.refl _ _).alloc (Nat.le_refl _) _).alloc (by simp) _).alloc (by simp; omega) _).alloc (by simp; omega) _).alloc (by simp; omega) _
  go_wp2
  obtain ⟨W0, hW⟩ : ∃ W0, (((((w.alloc (.cells #[.slice ao g.objs.length co, .slice ar g.roots.length cr, .slice al ll cl] 47)).alloc (.map #[] 0)).alloc (.cells #[.map (some (w.heap.size + 1))] 65)).alloc (.cells #[.int .i64 o] 3)).alloc (.cells #[.slice (some ⟨w.heap.size + 1 + 1 + 1, 0, none⟩) 1 1] 30)) = W0 := ⟨_, rfl⟩
  rw [hW]
  obtain ⟨hF0, hb0, hg0, hs0⟩ := hW0 W0 hW
  clear hW hW0
  obtain ⟨mb, hmb⟩ : ∃ mb, w.heap.size + 1 = mb := ⟨_, rfl⟩
  rw [hmb] at hF0
  rw [hmb]
  have Hmb := hide hmb
  have hmb1 : w.heap.size < mb := by omega
  clear hmb
  have hb0' : Below B w W0 := hb0.mono hB
  refine wp_loop (fun a' wr => ∃ (k : Nat) (Ds : List Nat) (u8 u9 u10 u14 u15 u16 u17 u18 u19 u20 u21 u22 u23 u24 u25 u26 u27 u28 u29 u30 u31 u32 u33 u34 u35 u36 u37 u38 u39 u40 u41 u42 u43 u44 u45 u46 : Value), (k ≤ (folN g o k).length + 1 ∧ (∃ vw D, Fol wr mb o (folN g o k) vw D) ∧ Marks (mb + 4) wr Ds ∧ Below mb W0 wr) ∧ a' = { tmps := #[.agg #[.slice ao g.objs.length co, .slice ar g.roots.length cr, .slice al ll cl], .int .i64 o, .pointer (some ⟨w.heap.size, 0, none⟩), undef, .map none, .pointer (some ⟨mb + 1, 0, none⟩), .pointer (some ⟨mb + 3, 0, none⟩), .int .i64 (k : Int), u8, u9, u10, .map (some mb), .int .i64 o, .slice (some ⟨mb + 2, 0, none⟩) 1 1, u14, u15, u16, u17, u18, u19, u20, u21, u22, u23, u24, u25, u26, u27, u28, u29, u30, u31, u32, u33, u34, u35, u36, u37, u38, u39, u40, u41, u42, u43, u44, u45, u46, undef], defers := Ds.map markOf }) (fun a' _ => g.objs.length + 2 - (intOf (a'.tmps.getD 7 undef)).toNat) ?_ ?_
  · refine ⟨0, [], ?_⟩
    (repeat apply Exists.intro)
    refine ⟨?_, rfl⟩
    exact ⟨by simp, ⟨_, _, hF0⟩, Marks.nil _ _, Below.refl _ _⟩
  rintro _ wr ⟨k, Ds, u8, u9, u10, u14, u15, u16, u17, u18, u19, u20, u21, u22, u23, u24, u25, u26, u27, u28, u29, u30, u31, u32, u33, u34, u35, u36, u37, u38, u39, u40, u41, u42, u43, u44, u45, u46, ⟨hk, ⟨vw, D, hF⟩, hM, hb⟩, rfl⟩
  dsimp only
  have hfk := folN_ok hG o k
  have hlt0 := hF.lt
  have hgx := (hb.cell (p := ⟨w.heap.size, 0, none⟩) (by simp; omega)).trans hg0
  have hb' : Below B w wr := hb0'.trans (hb.mono (by omega))
  have hcw := hF.cw
  have hcm := hF.cm
  obtain ⟨va, vc, hvw⟩ := ownsRow_slice hF.row
  by_cases hlt : k < (folN g o k).length + 1
  · have hltc : k < (o :: folN g o k).length := by simpa using hlt
    have hpp : ∃ p : Nat, p < g.objs.length ∧ (o :: folN g o k)[k] = (p : Int) := by
      have hm := List.getElem_mem hltc
      have hr : 0 ≤ (o :: folN g o k)[k] ∧ (o :: folN g o k)[k] < g.objs.length := by
        rcases List.mem_cons.1 hm with e | e
        · rw [e]; exact ⟨h0, h1⟩
        · exact hfk.2.1 _ e
      exact ⟨((o :: folN g o k)[k]).toNat, by omega, by omega⟩
    obtain ⟨p, hpN, hpe⟩ := hpp
    have hrow : wr.ownsRow (mb + 2) 3 1 vw (o :: folN g o k).length (intsV (o :: folN g o k)) := by simpa using hF.row
    obtain ⟨g1, cap1, hv1, hx1, hgl1⟩ := ints_at hrow hltc
    rw [hpe] at hx1
    have HS : Hid (folN g o (k + 1) = addL (folN g o k) (refsL g.objs[p])) := by
      show folN g o (k + 1) = _
      rw [folN_succ, List.getElem?_eq_getElem hltc, hpe]
      simp [fieldsOf, hpN]
    obtain ⟨b, off, ai, ci, rfl, hbB, hcb, hva⟩ := (ho.below hb').at hpN
    have hl4 := hG.n4 _ (List.getElem_mem hpN)
    have hrf := hG.refsObjs (List.getElem_mem hpN)
    have Hrf := hide hrf
    clear hpe hrf hrow hltc
    subst hv1
    simp only [List.length_cons] at *
    generalize g.objs[p] = fs at *
    have hKl := hfk.2.2
    generalize hK : folN g o k = K at *
    go_wp2
    go_still_tail 10, Try.mixed
    go_wp2_with (go_at_call 44; go_must (refine (refs_c _ _ _ _).mono ?_); rintro e w3 ⟨rfl, hw3⟩; subst hw3)
    clear hK
    obtain ⟨W1, hW1⟩ : ∃ W1, (wr.alloc (.cells #[.slice ai fs.length ci] 23)).drew = W1 := ⟨_, rfl⟩
    rw [hW1]
    have hs1 : W1.heap.size = wr.heap.size + 1 := by rw [← hW1]; simp
    have hbl : W1.cell? ⟨wr.heap.size, 0, none⟩ = some (.slice ai fs.length ci) := by rw [← hW1]; simp [go_sem]
    have hBw : Below wr.heap.size wr W1 := by rw [← hW1]; exact ((Below.refl _ _).alloc (Nat.le_refl _) _).drew
    have hF1 := hF.below hBw
    have hDl := hM.lt
    have hM1 : Marks (mb + 4) W1 Ds := ⟨hM.1, fun D hD => ⟨(hM.2 D hD).1, by rw [hBw.block D (hDl D hD)]; exact (hM.2 D hD).2⟩⟩
    have hb1 : Below mb W0 W1 := hb.trans (hBw.mono (by omega))
    have hva1 : Vals mb W1 ai fs := (hva.mono (by omega)).below (hBw.mono (by omega))
    clear hW1
    refine wpIn_wide.1 (wpIn_rangeFunc_ownG (F := Fence.wide) (n := 8) rfl (by omega) (gf := 49) (lb := #[.pointer (some ⟨wr.heap.size, 0, none⟩)]) rfl trivial (enters_of Try.func49 (by kernel_rfl) rfl)
      (refs1_stops 7 (by omega) wr.heap.size mb ai ci fs (unhide Hrf) W1 (by omega) (by omega) hbl hva1) belowK_t (belowK_b (by omega)) (Below.refl _ _) (fun _ => rfl)
      (fun pre X => (∃ vw D, Fol X mb o (addL K (valsOf pre)) vw D) ∧ Marks (mb + 4) X Ds ∧ Below mb W0 X)
      (fun _ _ _ => False)
      (by
        rintro pre X Y row ⟨⟨vw, D, h1⟩, h2, h3⟩ hg hr
        exact ⟨⟨vw, D, h1.own hg (fun r e => ⟨by have := (hr r e).1; omega, (hr r e).2⟩)⟩, h2.own hg (fun r e hD => by have := (hr r e).1; have := hDl r hD; omega), h3.grown hg (by have := h1.lt; omega) (fun k e => by have := (hr k e).1; omega)⟩)
      (fun _ _ _ _ _ hs _ _ => hs)
      ⟨⟨_, _, hF1⟩, hM1, hb1⟩
      (fun x => { tmps := #[.agg #[.slice (some ⟨b, off, none⟩) g.objs.length co, .slice ar g.roots.length cr, .slice al ll cl], .int .i64 o, .pointer (some ⟨w.heap.size, 0, none⟩), undef, .map none, .pointer (some ⟨mb + 1, 0, none⟩), .pointer (some ⟨mb + 3, 0, none⟩), .int .i64 (k : Int), .int .i64 x.1, u9, u10, .map (some mb), .int .i64 o, .slice (some ⟨mb + 2, 0, none⟩) 1 1, .int .i64 (k : Int), .slice (some ⟨g1, 0, none⟩) (K.length + 1) vc, .int .i64 ((K.length : Int) + 1), .bool true, u18, u19, .pointer (some ⟨w.heap.size, 0, none⟩), .pointer (some ⟨w.heap.size, 0, none⟩), .slice (some ⟨b, off, none⟩) g.objs.length co, .slice (some ⟨g1, 0, none⟩) (K.length + 1) vc, .int .i64 (k : Int), .pointer (some ⟨g1, k, none⟩), .int .i64 (p : Int), .pointer (some ⟨b, off + p, none⟩), .pointer (some ⟨b, off + p, none⟩), .slice ai fs.length ci, .func (.func 49) #[] #[.pointer (some ⟨wr.heap.size, 0, none⟩)], .int .i64 x.1, u32, u33, u34, u35, u36, u37, u38, u39, u40, u41, u42, u43, u44, u45, u46, undef], defers := [] }) ?assign ?body ?done ?stop)
    case assign =>
      intro l x X K hK
      unfold encO
      gi_wp2
      exact hK
    case body =>
      rintro l' pre x X ⟨⟨vw, D, hF⟩, hM, hB⟩ hpre
      obtain ⟨x, hx0, hx1⟩ := x
      have hlen := addL_len (valsOf pre) K
      have hpl : (valsOf pre).length = pre.length := by simp [valsOf]
      have Hst := hide (show addL K (valsOf (pre ++ [⟨x, hx0, hx1⟩])) = addS (addL K (valsOf pre)) x from by rw [← addL_snoc]; simp [valsOf])
      generalize addL K (valsOf pre) = s1 at *
      have hsX := hB.size
      have hkey := Maps.keyOf_int_mk Try.underlying3 (wf_i64 hx0 (by omega))
      have hhas := hF.set.has x
      have Hkey := hide hkey
      clear hkey
      have hcm := hF.cm
      have hcw := hF.cw
      have hfw := hF.fw
      obtain ⟨oa, oc, rfl⟩ := ownsRow_slice hF.row
      by_cases hm : x ∈ s1
      · have hhas' : Maps.has D (.int .i64 x) = true := by rw [hhas]; simpa using hm
        clear hhas
        gi_wp2_with (gi_at_lookup; go_must (refine wpListIn_lookup_own_unit _ rfl _ _ 65 rfl 3 71 (Maps.int_keyed Try.underlying3) Try.underlying65 (Try.zeroValue71 _) mb _ D rfl hF.set.map _ _ rfl (unhide Hkey) ?_))
        exact ⟨((KeepsOthers.alloc _ _).from _), (Below.refl _ _).alloc (by have := hF.lt; omega) _, ⟨_, D, by rw [unhide Hst, addS, if_pos hm]; exact hF.alloc _⟩, hM.keeps ((KeepsOthers.alloc _ _).from _), hB.alloc (by have := hF.lt; omega) _⟩
      · have hhas' : Maps.has D (.int .i64 x) = false := by rw [hhas]; simpa using hm
        clear hhas
        have Hm := hide hm
        clear hm
        have hFa := hF.alloc (.cells #[] 71)
        have hcma := hFa.cm
        have hcwa := hFa.cw
        have hfwa := hFa.fw
        have hltX := hF.lt
        have hval : unitElem (H := Unit) (.agg #[]) = some (.agg [], []) := unitElem_mk
        have Hval := hide hval
        clear hval
        gi_wp2_with (first
          | (gi_at_lookup; go_must (refine wpListIn_lookup_own_unit _ rfl _ _ 65 rfl 3 71 (Maps.int_keyed Try.underlying3) Try.underlying65 (Try.zeroValue71 _) mb _ D rfl hF.set.map _ _ rfl (unhide Hkey) ?_))
          | (gi_at_mapUpdate; go_must (refine wpListIn_mapUpdate_own _ rfl _ _ _ 65 rfl 3 71 (Maps.int_keyed Try.underlying3) Try.underlying65 _ mb s1.length D rfl hFa.set.map (by simp only [maxLen]; omega) _ _ _ rfl rfl (unhide Hkey) _ [] (unhide Hval) ?_); go_must (intro w1 hmap1 hg1; have hs11 := hg1.size; simp only [World.size_alloc] at hs11; have hrow1 := hFa.row.kept hg1 (.inr fun e => by have := (hFa.row.lt _ e).1; omega); have hc3 := (World.cell?_of_block (a := ⟨mb + 3, 0, none⟩) (hg1.block (mb + 3) (by simp; omega) (by simp))).trans hFa.cw; have hf3 := (World.frozen?_of_block (a := ⟨mb + 3, 0, none⟩) (hg1.block (mb + 3) (by simp; omega) (by simp))).trans hFa.fw))
          | (gi_at_builtin; go_must (refine wpListIn_append_own_at _ rfl _ _ 30 rfl (mb + 2) 3 i0 _ 1 8 Try.underlying30 hi hz0 hz1 hz2 rfl (by decide) _ _ _ rfl (hrow1.alloc _) ⟨w1.heap.size, 0, none⟩ 1 1 [.int .i64 x] rfl rfl (cell_one_at _ _ _ _ (by simp)) (by simp [Value.oneCell']) (by simp only [maxLen]; omega) (by omega) (by simp; omega) ?_); go_must (intro v1 w2 hrow2 hg2 _ hat2; obtain ⟨g1', cap1', hv1⟩ := ownsRow_succ hrow2; subst hv1; have hg2s := hg2.size; simp only [World.size_alloc] at hg2s; have hb3 := (hg2.block (mb + 3) (by simp; omega) (fun e => hF.ne e.symm)).trans (Below.heap_alloc w1 (.cells #[.int .i64 x] 3) (mb + 3) (by omega)); have hc4 := (World.cell?_of_block (a := ⟨mb + 3, 0, none⟩) hb3).trans hc3; have hf4 := (World.frozen?_of_block (a := ⟨mb + 3, 0, none⟩) hb3).trans hf3)))
        obtain ⟨r1, r2, r3⟩ := fol_step hF (unhide Hm) rfl hg1 hmap1 hrow2 hg2 hat2
        exact ⟨r2 _ (by omega), r3, ⟨_, _, by rw [unhide Hst]; exact r1⟩, hM.keeps (r2 _ (by omega)), hB.trans r3⟩
    case done =>
      rintro D' xs X hD rfl ⟨⟨vw, D, hF⟩, hM, hB⟩ hK
      have HS2 : Hid (folN g o (k + 1) = addL K (valsOf (obsOf fs))) := unhide HS
      have hgr := (addL_len (valsOf (obsOf fs)) K).1
      have hM2 : Marks (mb + 4) X (D' :: Ds) := ⟨List.nodup_cons.2 ⟨fun h => by have := hDl D' h; omega, hM.1⟩, fun y hy => by
        rcases List.mem_cons.1 hy with rfl | hy
        · exact ⟨by omega, hK⟩
        · exact hM.2 y hy⟩
      clear hK HS
      generalize addL K (valsOf (obsOf fs)) = K2 at *
      go_wp2
      refine ⟨⟨k + 1, D' :: Ds, ?_⟩, ?_⟩
      · (repeat apply Exists.intro)
        refine ⟨?_, rfl⟩
        refine ⟨?_, ?_, hM2, hB⟩
        · rw [unhide HS2]; omega
        · rw [unhide HS2]; exact ⟨vw, D, hF⟩
      · simp [intOf]; omega
    case stop =>
      rintro D' c pre X _ _ h _
      exact h.elim
  · have hkk : k = (folN g o k).length + 1 := by omega
    have HE := hide (folN_end hG o hkk)
    have Hkk := hide hkk
    have hlk : k ≤ 25 := by omega
    clear hkk
    subst hvw
    generalize hK : folN g o k = K at *
    clear hK
    go_wp2
    refine leaves_marks (mb + 4) (fun X => Fol X mb o K (.slice va (K.length + 1) vc) D ∧ Below mb W0 X) ?_ ?_ Ds _ hM ⟨hF, hb⟩
    · rintro X D' hD hX ⟨h1, h2⟩
      exact ⟨h1.own (grownBy_putObj' X D' _) (fun r e => by cases e; exact ⟨by omega, _, hX, rfl⟩), h2.grown (grownBy_putObj' X D' _) (by have := h1.lt; omega) (fun r e => by cases e; omega)⟩
    · rintro X ⟨h1, h2⟩
      refine ⟨.map (some mb), by simp [results, Try.results33, go_sem], mb, K.length, D, rfl, by omega, by have := h1.lt; omega, ?_, hb0.trans (h2.mono (by omega))⟩
      rw [← unhide HE]
      exact h1.set
end Go.Proofs.Ytohofkfajmeohaa
