/- Merged texts: Wr Ia Io Xa Wq Wn Wv Ra Wz Xb Sf Im Iq Ib Hq Ic Id. -/
import Derived.Test.YtlolcdgbidboeaaProg
import Derived.Test.YtlolcdgbidboeaaIdealSplitsUptoA
import Derived.Deep.RegionWith
import Derived.RegionTactic
import Derived.BigQuiet
import Derived.Deep.RegionLaw
import Derived.Deep.CutRange
import Derived.OwnWalk
import Derived.Lib.SmallJoins
import Derived.Laws.StructEq
import Derived.Deep.Quiet
import Derived.Lib.QuietBelow
import Derived.StillTail
import Derived.StillTailTactics
import Derived.BigRegion

/- Walks: Canon. -/
namespace Go.Proofs.Ytlolcdgbidboeaa
set_option linter.unusedSimpArgs false
set_option linter.unusedVariables false
open Go.RowKit

set_option maxRecDepth 100000 in
set_option maxHeartbeats 1000000 in
theorem canon_bad (ao ar : Option Addr) (co cr : Nat) (g : Gr) (B : Nat) (w : World) (ho : Objs B w ao g.objs) (hr : Vals B w ar g.roots) (hB : B ≤ w.heap.size) (hc : checkV g ≠ 0) :
    Calls Try.prog 17 #[.agg #[.slice ao g.objs.length co, .slice ar g.roots.length cr]] w fun e w' => e = .returned (.tuple #[.agg #[.slice none 0 0, .slice none 0 0], .int .i64 (checkV g)]) ∧ Below w.heap.size w w' := by
  have hd : (checkV g != 0) = true := by simpa using hc
  generalize hcc : checkV g = c at *
  have Hcc := hide hcc
  clear hcc hc
  have hb1 := ((Below.refl w.heap.size w).alloc (Nat.le_refl _) (.cells #[.slice ao g.objs.length co, .slice ar g.roots.length cr] 25)).alloc (by simp) (.cells #[.slice none 0 0, .slice none 0 0] 25)
  go_enter Try.func17, Try.ntmps17
  go_wp2_with (go_at_call 27; go_must (refine (checkV_c _ _ _ _ g B _ (ho.below (hb1.mono hB)) (hr.below (hb1.mono hB)) (by simp; omega)).mono ?_); go_must (rintro e w2 ⟨he, hb2⟩; rw [unhide Hcc] at he; subst he; simp only [World.size_alloc] at hb2; have q0 := hb2.cell (p := ⟨w.heap.size + 1, 0, none⟩) (by simp); have q1 := hb2.cell (p := ⟨w.heap.size + 1, 1, none⟩) (by simp); have f0 := hb2.frozen (p := ⟨w.heap.size + 1, 0, none⟩) (by simp); have f1 := hb2.frozen (p := ⟨w.heap.size + 1, 1, none⟩) (by simp); simp [go_sem] at q0 q1 f0 f1))
  refine bodyPost_ret (v := .tuple #[.agg #[.slice none 0 0, .slice none 0 0], .int .i64 c]) (by simp [results, Try.results17, go_sem, q0, q1]) rfl ⟨rfl, ?_⟩
  exact ((hb1.trans (hb2.mono (by omega))).setCell (p := ⟨w.heap.size + 1, 0, none⟩) (by simp) _).setCell (p := ⟨w.heap.size + 1, 1, none⟩) (by simp) _

set_option maxRecDepth 100000 in
set_option maxHeartbeats 1000000 in
theorem canon_ok (ao ar : Option Addr) (co cr : Nat) (g : Gr) (B : Nat) (w : World) (ho : Objs B w ao g.objs) (hr : Vals B w ar g.roots) (hB : B ≤ w.heap.size) (hc : checkV g = 0) (hG : Good g) :
    Calls Try.prog 17 #[.agg #[.slice ao g.objs.length co, .slice ar g.roots.length cr]] w fun e w' => ∃ ao' co' ar' cr', e = .returned (.tuple #[.agg #[.slice ao' (canonG g).objs.length co', .slice ar' (canonG g).roots.length cr'], .int .i64 0]) ∧
      ObjsF w.heap.size w' ao' (canonG g).objs ∧ ValsF w.heap.size w' ar' (canonG g).roots ∧ Below w.heap.size w w' := by
  have Hcc := hide hc
  clear hc
  have hb1 := ((Below.refl w.heap.size w).alloc (Nat.le_refl _) (.cells #[.slice ao g.objs.length co, .slice ar g.roots.length cr] 25)).alloc (by simp) (.cells #[.slice none 0 0, .slice none 0 0] 25)
  go_enter Try.func17, Try.ntmps17
  go_wp2_with fail
  refine (checkV_c _ _ _ _ g B _ (ho.below (hb1.mono hB)) (hr.below (hb1.mono hB)) (by simp; omega)).mono ?_
  rintro e w2 ⟨he, hb2⟩
  rw [unhide Hcc] at he
  subst he
  simp only [World.size_alloc] at hb2
  have q0 := hb2.cell (p := ⟨w.heap.size + 1, 0, none⟩) (by simp)
  have q1 := hb2.cell (p := ⟨w.heap.size + 1, 1, none⟩) (by simp)
  have f0 := hb2.frozen (p := ⟨w.heap.size + 1, 0, none⟩) (by simp)
  have f1 := hb2.frozen (p := ⟨w.heap.size + 1, 1, none⟩) (by simp)
  have g0 := hb2.cell (p := ⟨w.heap.size, 0, none⟩) (by simp; omega)
  have g1 := hb2.cell (p := ⟨w.heap.size, 1, none⟩) (by simp; omega)
  simp [go_sem] at q0 q1 f0 f1 g0 g1
  have hs2 := hb2.size
  simp at hs2
  have hbw2 : Below w.heap.size w w2 := hb1.trans (hb2.mono (by omega))
  clear hb1 hb2
  go_wp2_with fail
  refine (search_c _ _ _ _ g B _ (ho.below (hbw2.mono hB)) (hr.below (hbw2.mono hB)) (by omega) hG).mono ?_
  rintro e w3 ⟨vo, vd, D, mb, rfl, hmb, hF, hb3⟩
  obtain ⟨oa, oc, rfl⟩ := ownsRow_slice hF.ord
  obtain ⟨da, dc, rfl⟩ := ownsRow_slice hF.dis
  have hs3 := hb3.size
  have q0 := (hb3.cell (p := ⟨w.heap.size + 1, 0, none⟩) (by simp; omega)).trans q0
  have q1 := (hb3.cell (p := ⟨w.heap.size + 1, 1, none⟩) (by simp; omega)).trans q1
  have f0 := (hb3.frozen (p := ⟨w.heap.size + 1, 0, none⟩) (by simp; omega)).trans f0
  have f1 := (hb3.frozen (p := ⟨w.heap.size + 1, 1, none⟩) (by simp; omega)).trans f1
  have g0 := (hb3.cell (p := ⟨w.heap.size, 0, none⟩) (by simp; omega)).trans g0
  have g1 := (hb3.cell (p := ⟨w.heap.size, 1, none⟩) (by simp; omega)).trans g1
  have hbw3 : Below w.heap.size w w3 := hbw2.trans (hb3.mono (by omega))
  have hq3 : w.heap.size < w3.heap.size := by omega
  have hok := searchN_ok hG g.objs.length
  have hlen := hok.le
  have hn24 := hG.n24
  have hn8 := hG.n8
  have HO : Hid ((searchN g g.objs.length).1 = orderOf g) := rfl
  generalize searchN g g.objs.length = st at *
  go_wp2_with fail
  obtain ⟨W4, hW4⟩ : ∃ W4, w3.alloc (.cells #[.slice oa st.1.length oc, .slice da st.2.length dc, .map (some mb)] 83) = W4 := ⟨_, rfl⟩
  rw [hW4]
  have hs4 : W4.heap.size = w3.heap.size + 1 := by rw [← hW4]; simp
  have hb4 : Below w3.heap.size w3 W4 := by rw [← hW4]; exact (Below.refl _ _).alloc (Nat.le_refl _) _
  have k0 : W4.cell? ⟨w3.heap.size, 0, none⟩ = some (.slice oa st.1.length oc) := by rw [← hW4]; simp [go_sem]
  have k2 : W4.cell? ⟨w3.heap.size, 2, none⟩ = some (.map (some mb)) := by rw [← hW4]; simp [go_sem]
  clear hW4
  have hF4 := hF.below hb4
  have hbw4 : Below w.heap.size w W4 := hbw3.trans (hb4.mono (by omega))
  refine (renumber_c ar cr g.roots mb _ D st.1 W4 ((hr.below (hbw4.mono hB)).mono (by omega)) hG.refsRoots (by omega) hF4.map hF4.plc).mono ?_
  rintro e w5 ⟨ar', cr', rfl, hV5, hbs5, hb5⟩
  have hs5 := hb5.size
  have q0 := (hb5.cell (p := ⟨w.heap.size + 1, 0, none⟩) (by simp; omega)).trans ((hb4.cell (p := ⟨w.heap.size + 1, 0, none⟩) (by simp; omega)).trans q0)
  have q1 := (hb5.cell (p := ⟨w.heap.size + 1, 1, none⟩) (by simp; omega)).trans ((hb4.cell (p := ⟨w.heap.size + 1, 1, none⟩) (by simp; omega)).trans q1)
  have f0 := (hb5.frozen (p := ⟨w.heap.size + 1, 0, none⟩) (by simp; omega)).trans ((hb4.frozen (p := ⟨w.heap.size + 1, 0, none⟩) (by simp; omega)).trans f0)
  have f1 := (hb5.frozen (p := ⟨w.heap.size + 1, 1, none⟩) (by simp; omega)).trans ((hb4.frozen (p := ⟨w.heap.size + 1, 1, none⟩) (by simp; omega)).trans f1)
  have g0 := (hb5.cell (p := ⟨w.heap.size, 0, none⟩) (by simp; omega)).trans ((hb4.cell (p := ⟨w.heap.size, 0, none⟩) (by simp; omega)).trans g0)
  have k0 := (hb5.cell (p := ⟨w3.heap.size, 0, none⟩) (by simp; omega)).trans k0
  have k2 := (hb5.cell (p := ⟨w3.heap.size, 2, none⟩) (by simp; omega)).trans k2
  have hF5 := hF4.below hb5
  have hbw5 : Below w.heap.size w w5 := hbw4.trans (hb5.mono (by omega))
  have hq5 : w3.heap.size < w5.heap.size := by omega
  clear hb3 hb4 hb5 hF hF4 g1 hbw2 hbw3 hbw4
  go_wp2
  go_loopw [26] (fun i wr => ∃ (k : Nat) (v : Value) (es : List Value), k ≤ st.1.length ∧ i = .int .i64 k ∧ Below w5.heap.size w5 wr ∧ wr.cell? ⟨w5.heap.size, 0, none⟩ = some v ∧ wr.frozen? ⟨w5.heap.size, 0, none⟩ = false ∧ wr.cell? ⟨w5.heap.size, 1, none⟩ = some (.slice ar' g.roots.length cr') ∧
      ObjRow wr (w5.heap.size + 1) v ((st.1.take k).map (fun o => (fieldsOf g o).map (renV st.1))) es) (fun i _ => st.1.length - (intOf i).toNat)
  case atStart => exact ⟨0, .slice none 0 0, [], Nat.zero_le _, rfl, (Below.refl _ _).alloc (Nat.le_refl _) _, by simp [go_sem], by simp [go_sem], by simp [go_sem], objRow_nil _ _⟩
  case round =>
    obtain ⟨k, v, es, hk, rfl, hb, c0, cf0, c1, hrow⟩ := hrel
    have hsz := hb.size
    by_cases hlt : k < st.1.length
    · have hFr := hF5.below hb
      have g0 := (hb.cell (p := ⟨w.heap.size, 0, none⟩) (by simp; omega)).trans g0
      have k2 := (hb.cell (p := ⟨w3.heap.size, 2, none⟩) (by simp; omega)).trans k2
      obtain ⟨gg, capg, hvo, hx1, hgl1⟩ := ints_at hFr.ord hlt
      have hro := hok.rng _ (List.getElem_mem hlt)
      have HT := hide (List.take_succ_eq_append_getElem hlt)
      generalize st.1[k] = o at *
      obtain ⟨o, rfl⟩ := Int.eq_ofNat_of_zero_le hro.1
      have hoN : o < g.objs.length := by omega
      have hbwr : Below B w wr := (hbw5.mono hB).trans (hb.mono (by have := hbw5.size; omega))
      obtain ⟨b, off, ai, ci, rfl, hbB, hcb, hva⟩ := (ho.below hbwr).at hoN
      have Hfs := hide (show fieldsOf g (o : Int) = g.objs[o] by simp [fieldsOf, hoN])
      have hl4 := hG.n4 _ (List.getElem_mem hoN)
      have Hrf := hide (hG.refsObjs (List.getElem_mem hoN))
      generalize g.objs[o] = fs at *
      injection hvo with hv1 hv2 hv3
      subst hv1 hv3
      have hLk : ((st.1.take k).map (fun o => (fieldsOf g o).map (renV st.1))).length = k := by simp; omega
      have hrr := hrow.row
      rw [hLk] at hrr
      obtain ⟨ca, cc, rfl⟩ := ownsRow_slice hrr
      obtain ⟨i0, hi, hz0, hz1, hz2⟩ := info_parts Try.info62
      have hoI : (o : Int) < (g.objs.length : Int) := by omega
      have hq : w5.heap.size < wr.heap.size := World.block_lt_of_cell? wr _ c0
      have hvr : Vals wr.drew.heap.size wr.drew ai fs := (hva.mono (B' := wr.heap.size) (by have := hbwr.size; omega)).below (Below.refl _ _).drew
      have hfl : fs.length ≤ 1000 := by omega
      have hmx : k + 1 ≤ maxLen := by simp only [maxLen]; omega
      have hmy : (k + 1) * 24 ≤ 140737488355328 := by omega
      have HL := hide hLk
      have HR := hide hrow
      clear hLk
      go_wp2
      go_region_law (first
        | (refine step_append_at rfl _ _ 22 rfl (w5.heap.size + 1) 62 i0 _ 1 24 Try.underlying22 hi hz0 hz1 hz2 rfl (Nat.zero_lt_one) (.slice ca k cc) k es rfl hrow6 ⟨w6.heap.size, 0, none⟩ 1 1 [.slice a6 fs.length c6] rfl rfl (cell_one_at _ _ _ _ rfl) hone hmx hmy hbase6 ?_; intro v' w7 hrow7 hg7 hat7; obtain ⟨g7, cap7, hv7⟩ := ownsRow_succ hrow7; subst hv7; have c07 := hg7.cell ((World.grownBy_alloc w6 (.cells #[.slice a6 fs.length c6] 62) none).cell c06 (by simp)) (fun e => hncb e.symm); have cf7 := (hg7.block w5.heap.size (by simp; omega) (fun e => hncb e.symm)); have cf8 := (World.frozen?_of_block (a := ⟨w5.heap.size, 0, none⟩) cf7).trans cf6a; have Hcf7 := hide cf7; clear cf7)
        | (refine step_call rfl 35 #[.slice ai fs.length ci, .map (some mb)] (by go_simp) (fun v w6 => ∃ a6 c6, v = .slice a6 fs.length c6 ∧ Vals w6.heap.size w6 a6 (fs.map (renV st.1)) ∧ (∀ b off, a6 = some ⟨b, off, none⟩ → wr.heap.size ≤ b) ∧ Below wr.heap.size wr w6) ((renumber_c ai ci fs mb _ D st.1 _ hvr (unhide Hrf) hfl hFr.drew.map hFr.plc).mono (by rintro e w6 ⟨a6, c6, rfl, hV6, hbs6, hb6⟩; exact ⟨_, rfl, a6, c6, rfl, hV6, hbs6, (Below.refl _ _).drew.trans hb6⟩)) ?_; rintro v6 w6 ⟨a6, c6, rfl, hV6, hbs6, hb6'⟩; have hrow6 := (hrr.kept (grown_of_below hb6') (by cases hv : Value.ownBlock (.slice ca k cc) <;> simp)).alloc (.cells #[.slice a6 fs.length c6] 62); have hs6 := hb6'.size; have c06 := (hb6'.cell (p := ⟨w5.heap.size, 0, none⟩) hq).trans c0; have cf6 := (hb6'.frozen (p := ⟨w5.heap.size, 0, none⟩) hq).trans cf0; have hq6 : w5.heap.size < w6.heap.size := Nat.lt_of_lt_of_le hq hs6; have cf6a : (w6.alloc (.cells #[.slice a6 fs.length c6] 62)).frozen? ⟨w5.heap.size, 0, none⟩ = false := (World.frozen?_of_block (a := ⟨w5.heap.size, 0, none⟩) (Below.heap_alloc w6 _ _ hq6)).trans cf6; have hone : ∀ u ∈ ([.slice a6 fs.length c6] : List Value), u.oneCell' = true := (by simp [Value.oneCell']); have hbase6 : w5.heap.size + 1 ≤ (w6.alloc (.cells #[.slice a6 fs.length c6] 62)).heap.size := (by simp; omega); have hncb : Value.ownBlock (.slice ca k cc) ≠ some w5.heap.size := (fun e => by have := (hrr.lt _ e).1; omega)))
      all_goals
        go_wp2
        go_roundw
        case rel =>
          obtain ⟨r1, r2⟩ := obj_step (l := fs.map (renV st.1)) (ci := c6) (unhide HR) (by omega) hV6 hb6' hbs6 (by rw [unhide HL, List.length_map]; exact hrow7) hg7 hat7 rfl
          refine ⟨k + 1, _, _, by omega, by go_num, hb.trans r2, World.cell?_setCell_same' _ _ _ (by rw [c07]; rfl), by rw [World.frozen?_setCell]; exact cf8, ?_, by rw [unhide HT, List.map_append, List.map_cons, List.map_nil, unhide Hfs]; exact r1⟩
          rw [World.cell?_setCell_other _ _ _ _ (by simp)]
          exact (World.cell?_of_block (a := ⟨w5.heap.size, 1, none⟩) (unhide Hcf7)).trans ((World.cell?_of_block (a := ⟨w5.heap.size, 1, none⟩) (Below.heap_alloc w6 _ _ hq6)).trans ((hb6'.cell (p := ⟨w5.heap.size, 1, none⟩) hq).trans c1))
        case measure => simp [intOf]; omega
    · obtain rfl : k = st.1.length := by omega
      rw [List.take_length] at hrow
      have hL : (st.1.map (fun o => (fieldsOf g o).map (renV st.1))) = (canonG g).objs := by rw [unhide HO]; rfl
      have hR : g.roots.map (renV st.1) = (canonG g).roots := by rw [unhide HO]; rfl
      rw [hL] at hrow
      rw [hR] at hV5
      have hLl : (canonG g).objs.length = st.1.length := by rw [← hL]; simp
      have hRl : (canonG g).roots.length = g.roots.length := by rw [← hR]; simp
      obtain ⟨va, vc, hv, hO⟩ := hrow.objs (by omega)
      subst hv
      have hV6 := (hV5.below hb).mono (B' := wr.heap.size) (by omega)
      have HLl := hide hLl
      have HRl := hide hRl
      clear hL hR hLl hRl
      have q0 := (hb.cell (p := ⟨w.heap.size + 1, 0, none⟩) (by simp; omega)).trans q0
      have q1 := (hb.cell (p := ⟨w.heap.size + 1, 1, none⟩) (by simp; omega)).trans q1
      have f0 := (hb.frozen (p := ⟨w.heap.size + 1, 0, none⟩) (by simp; omega)).trans f0
      have f1 := (hb.frozen (p := ⟨w.heap.size + 1, 1, none⟩) (by simp; omega)).trans f1
      have HR := hide hrow
      clear hO hrow
      go_wp2
      refine bodyPost_ret (v := .tuple #[.agg #[.slice va (canonG g).objs.length vc, .slice ar' g.roots.length cr'], .int .i64 0]) (by simp [results, Try.results17, go_sem, q0, q1]) rfl ?_
      obtain ⟨va', vc', hv, hO⟩ := (((unhide HR).setCell (p := ⟨w.heap.size + 1, 0, none⟩) (by simp; omega) (.slice va (canonG g).objs.length vc)).setCell (p := ⟨w.heap.size + 1, 1, none⟩) (by simp; omega) (.slice ar' g.roots.length cr')).objsF (by rw [unhide HLl]; omega)
      injection hv with h1 _ h3
      subst h1 h3
      refine ⟨_, _, ar', cr', by rw [unhide HRl], hO.base (by omega), ⟨?_, fun b off e => by have := hbs5 b off e; omega⟩, ?_⟩
      · refine Vals.mono ((hV6.setCell ⟨w.heap.size + 1, 0, none⟩ (.slice va (canonG g).objs.length vc) (fun b off e => ?_)).setCell ⟨w.heap.size + 1, 1, none⟩ (.slice ar' g.roots.length cr') (fun b off e => ?_)) (by simp [World.setCell])
        · have := hbs5 b off e; simp; omega
        · have := hbs5 b off e; simp; omega
      · exact (((hbw5.trans (hb.mono (by omega)))).setCell (p := ⟨w.heap.size + 1, 0, none⟩) (by simp) _).setCell (p := ⟨w.heap.size + 1, 1, none⟩) (by simp) _

end Go.Proofs.Ytlolcdgbidboeaa

/- Small things: blocks that grow, rows that stay; objects and values in new memory. -/
namespace Go.Proofs.Ytlolcdgbidboeaa
set_option linter.unusedSimpArgs false
set_option linter.unusedVariables false
open Go.RowKit Go.Shelf

theorem ownsRow_below {W W' : World} {base : Nat} {e : TypeId} {size : Nat} {v : Value} {n : Nat} {xs : List Value} (h : W.ownsRow base e size v n xs) (hb : Below W.heap.size W W') : W'.ownsRow base e size v n xs :=
  h.kept (row := none) ⟨hb.os, hb.tape, hb.output, hb.size, fun k hk _ => hb.block k hk⟩ (by cases hv : v.ownBlock <;> simp)

theorem grown_none {W W' : World} (hb : Below W.heap.size W W') : W.grownBy W' none := ⟨hb.os, hb.tape, hb.output, hb.size, fun k hk _ => hb.block k hk⟩

theorem grown_set (W : World) (b j : Nat) (u : Value) : W.grownBy (W.setCell ⟨b, j, none⟩ u) (some b) :=
  ⟨rfl, rfl, rfl, by simp [World.setCell], fun k _ hk => Below.heap_setCell _ _ _ _ (fun e => hk (by simp [e]))⟩

theorem Try.info62' : (Try.prog.info? 62).map (fun i => (i.zero, i.size, i.bytes)) = some (some (.agg #[.slice none 0 0]), 1, 24) := by kernel_rfl
theorem Try.info47' : (Try.prog.info? 47).map (fun i => (i.zero, i.size, i.bytes)) = some (some (.agg #[.bool false, .int .i64 0]), 2, 16) := by kernel_rfl
theorem Try.info55' : (Try.prog.info? 55).map (fun i => (i.zero, i.size, i.bytes)) = some (some (.agg #[.int .i64 0, .bool false, .int .i64 0]), 3, 24) := by kernel_rfl

end Go.Proofs.Ytlolcdgbidboeaa

/- Objects in memory of their own, whose fields are written: a row of rows of values, each in a block of its own. -/
namespace Go.Proofs.Ytlolcdgbidboeaa
set_option linter.unusedSimpArgs false
set_option linter.unusedVariables false
open Go.RowKit Go.Shelf

theorem cellsV_len (l : List V) : (cellsV l).length = l.length * 2 := by
  induction l with
  | nil => rfl
  | cons x l ih => simp [cellsV] at ih ⊢; omega

theorem cellsV_set : ∀ (l : List V) (i : Nat) (v : V), cellsV (l.set i v) = ((cellsV l).set (i * 2) (.bool v.1)).set (i * 2 + 1) (.int .i64 v.2)
  | [], i, v => by simp [cellsV]
  | x :: l, 0, v => by simp [cellsV]
  | x :: l, i + 1, v => by
    have ih := cellsV_set l i v
    have e : ∀ (m : List V) (y : V), cellsV (y :: m) = .bool y.1 :: .int .i64 y.2 :: cellsV m := fun m y => rfl
    rw [List.set_cons_succ, e, e, ih]
    have e1 : (i + 1) * 2 = i * 2 + 1 + 1 := by omega
    rw [e1, List.set_cons_succ, List.set_cons_succ, List.set_cons_succ, List.set_cons_succ]

/-- Values in a row of their own. -/
def OwnV (W : World) (N : Nat) (v : Value) (l : List V) : Prop := W.ownsRow N 47 2 v l.length (cellsV l)

section
variable {W W' : World} {N : Nat} {v : Value} {l : List V}

theorem OwnV.kept (h : OwnV W N v l) {o : Option Nat} (hg : W.grownBy W' o) (hv : ∀ k, v.ownBlock = some k → o ≠ some k) : OwnV W' N v l := by
  refine World.ownsRow.kept h hg ?_
  cases e : v.ownBlock with
  | none => exact .inl rfl
  | some k => exact .inr fun e2 => hv k e e2.symm

theorem OwnV.below (h : OwnV W N v l) (hb : Below W.heap.size W W') : OwnV W' N v l := ownsRow_below h hb

theorem OwnV.slice (h : OwnV W N v l) : ∃ a c, v = .slice a l.length c := by
  rcases h.2 with ⟨hv, h0⟩ | ⟨g, cap, cur, hv, _⟩
  · exact ⟨none, 0, by rw [hv, h0]⟩
  · exact ⟨_, _, hv⟩

theorem OwnV.form (h : OwnV W N v l) (hl : 0 < l.length) : ∃ g c, v = .slice (some ⟨g, 0, none⟩) l.length c ∧ N ≤ g ∧ g < W.heap.size := by
  obtain ⟨g, c, hv⟩ := Joins.ownsRow_form h hl
  have := World.ownsRow.lt h g (by rw [hv]; rfl)
  exact ⟨g, c, hv, this⟩

/-- A value is read. -/
theorem OwnV.cell {g n c : Nat} (h : OwnV W N (.slice (some ⟨g, 0, none⟩) n c) l) {i : Nat} {x : V} (hx : l[i]? = some x) : W.cell? ⟨g, i * 2, none⟩ = some (.bool x.1) ∧ W.cell? ⟨g, i * 2 + 1, none⟩ = some (.int .i64 x.2) ∧ ∀ j, W.frozen? ⟨g, j, none⟩ = false := by
  rcases h.2 with ⟨hv, _⟩ | ⟨g', cap, cur, hv, h1, h2, h3, h4, h5, h6⟩
  · cases hv
  · injection hv with e1 _ e2
    injection e1 with e1
    injection e1 with e1
    subst e1
    have hc := cellsV_get l i x hx
    have hil := (List.getElem?_eq_some_iff.1 hx).1
    rw [← h6, List.getElem?_take, List.getElem?_take, if_pos (by omega), if_pos (by omega)] at hc
    refine ⟨?_, ?_, fun j => frozen_of_row W g j cur 47 h2⟩
    · rw [cell_of_row W g (i * 2) cur 47 (0, 0) h2]; simpa using hc.1
    · rw [cell_of_row W g (i * 2 + 1) cur 47 (0, 0) h2]; simpa using hc.2

/-- A value is stored. -/
theorem OwnV.set {g n c : Nat} (h : OwnV W N (.slice (some ⟨g, 0, none⟩) n c) l) (i : Nat) (x : V) : OwnV ((W.setCell ⟨g, i * 2, none⟩ (.bool x.1)).setCell ⟨g, i * 2 + 1, none⟩ (.int .i64 x.2)) N (.slice (some ⟨g, 0, none⟩) n c) (l.set i x) := by
  have hn : n = l.length := by
    obtain ⟨a, c', hv⟩ := h.slice
    injection hv
  subst hn
  have h1 := (World.ownsRow.stored h (i * 2) (.bool x.1)).1
  have h2 := (World.ownsRow.stored h1 (i * 2 + 1) (.int .i64 x.2)).1
  unfold OwnV
  rw [List.length_set, cellsV_set]
  exact h2

end

theorem grown_set2 (W : World) (g i j : Nat) (u u' : Value) : W.grownBy ((W.setCell ⟨g, i, none⟩ u).setCell ⟨g, j, none⟩ u') (some g) := by
  have h1 := grown_set W g i u
  have h2 := grown_set (W.setCell ⟨g, i, none⟩ u) g j u'
  exact ⟨h2.os.trans h1.os, h2.tape.trans h1.tape, h2.output.trans h1.output, Nat.le_trans h1.size h2.size, fun k hk hne => (h2.block k (Nat.lt_of_lt_of_le hk h1.size) hne).trans (h1.block k hk hne)⟩

/-- Objects in memory of their own. -/
structure OwnO (W : World) (N : Nat) (vo : Value) (fb : List Value) (objs : List (List V)) : Prop where
  row : W.ownsRow N 62 1 vo fb.length fb
  len : fb.length = objs.length
  each : ∀ (i : Nat) u l, fb[i]? = some u → objs[i]? = some l → OwnV W N u l
  apart : ∀ (i j : Nat) u u', i ≠ j → fb[i]? = some u → fb[j]? = some u' → ∀ k, u.ownBlock = some k → u'.ownBlock ≠ some k
  out : ∀ (i : Nat) u, fb[i]? = some u → ∀ k, u.ownBlock = some k → vo.ownBlock ≠ some k

/-- Is it one of their blocks? -/
def OwnO.In (vo : Value) (fb : List Value) (k : Nat) : Prop := vo.ownBlock = some k ∨ ∃ u ∈ fb, u.ownBlock = some k

section
variable {W W' : World} {N : Nat} {vo : Value} {fb : List Value} {objs : List (List V)}

theorem OwnO.kept (h : OwnO W N vo fb objs) {o : Option Nat} (hg : W.grownBy W' o) (ho : ∀ k, OwnO.In vo fb k → o ≠ some k) : OwnO W' N vo fb objs := by
  refine ⟨World.ownsRow.kept h.row hg ?_, h.len, fun i u l hu hl => (h.each i u l hu hl).kept hg (fun k hk => ho k (.inr ⟨u, List.mem_of_getElem? hu, hk⟩)), h.apart, h.out⟩
  cases e : vo.ownBlock with
  | none => exact .inl rfl
  | some k => exact .inr fun e2 => ho k (.inl e) e2.symm

theorem OwnO.below (h : OwnO W N vo fb objs) (hb : Below W.heap.size W W') : OwnO W' N vo fb objs := h.kept (grown_none hb) (fun k _ => by simp)

theorem OwnO.lt (h : OwnO W N vo fb objs) {k : Nat} (hk : OwnO.In vo fb k) : N ≤ k ∧ k < W.heap.size := by
  rcases hk with hk | ⟨u, hu, hk⟩
  · exact h.row.lt k hk
  · obtain ⟨i, hi⟩ := List.getElem?_of_mem hu
    have hil := (List.getElem?_eq_some_iff.1 hi).1
    have hol : i < objs.length := by have := h.len; omega
    have := h.each i u objs[i] hi (List.getElem?_eq_getElem hol)
    exact World.ownsRow.lt this k hk

/-- Where an object's fields lie. -/
theorem OwnO.at (h : OwnO W N vo fb objs) {i : Nat} (hi : i < objs.length) : ∃ g c u, vo = .slice (some ⟨g, 0, none⟩) fb.length c ∧ g < W.heap.size ∧ fb[i]? = some u ∧ W.cell? ⟨g, i, none⟩ = some u ∧ OwnV W N u objs[i] := by
  have hl := h.len
  have hif : i < fb.length := by omega
  obtain ⟨g, c, hv⟩ := Joins.ownsRow_form h.row (by omega)
  subst hv
  have hg := (h.row.lt g rfl).2
  have hu := List.getElem?_eq_getElem hif
  refine ⟨g, c, fb[i], rfl, hg, hu, ?_, h.each i _ _ hu (List.getElem?_eq_getElem hi)⟩
  rcases h.row.2 with ⟨hv, _⟩ | ⟨g', cap, cur, hv, h1, h2, h3, h4, h5, h6⟩
  · cases hv
  · injection hv with e1 _ e2
    injection e1 with e1
    injection e1 with e1
    subst e1
    have h7 : (cur.toList.take (fb.length * 1))[i]? = some fb[i] := by rw [h6]; exact hu
    rw [List.getElem?_take, if_pos (by omega)] at h7
    rw [cell_of_row W g i cur 62 (0, 0) h2]
    simpa using h7

/-- A field is stored. -/
theorem OwnO.setF (h : OwnO W N vo fb objs) {i g n c : Nat} {l : List V} (hu : fb[i]? = some (.slice (some ⟨g, 0, none⟩) n c)) (hl : objs[i]? = some l) (j : Nat) (x : V) :
    OwnO ((W.setCell ⟨g, j * 2, none⟩ (.bool x.1)).setCell ⟨g, j * 2 + 1, none⟩ (.int .i64 x.2)) N vo fb (objs.set i (l.set j x)) := by
  have hg := grown_set2 W g (j * 2) (j * 2 + 1) (.bool x.1) (.int .i64 x.2)
  have hil := (List.getElem?_eq_some_iff.1 hl).1
  refine ⟨World.ownsRow.kept h.row hg (.inr (h.out i _ hu g rfl)), by rw [List.length_set]; exact h.len, fun k u m hk hm => ?_, h.apart, h.out⟩
  by_cases e : k = i
  · subst e
    rw [hu] at hk
    injection hk with hk
    subst hk
    rw [List.getElem?_set_self hil] at hm
    injection hm with hm
    subst hm
    exact (h.each k _ l hu hl).set j x
  · rw [List.getElem?_set_ne (fun e' => e e'.symm)] at hm
    exact (h.each k u m hk hm).kept hg (fun b hb => fun e2 => by
      injection e2 with e2
      subst e2
      exact h.apart k i u _ e hk hu g hb rfl)

/-- One object more: behind the append of its fields. -/
theorem OwnO.push (h : OwnO W N vo fb objs) {vo' u : Value} {l : List V} (hg : W.grownBy W' vo.ownBlock) (hrow : W'.ownsRow N 62 1 vo' (fb.length + 1) (fb ++ [u])) (hat : vo'.ownBlock = vo.ownBlock ∨ vo'.ownBlock = some W.heap.size)
    (hu : OwnV W N u l) (hap : ∀ k, u.ownBlock = some k → ¬ OwnO.In vo fb k) : OwnO W' N vo' (fb ++ [u]) (objs ++ [l]) := by
  have hl := h.len
  have hlt : ∀ {k : Nat}, OwnO.In vo fb k → k < W.heap.size := fun hk => (h.lt hk).2
  have hul : ∀ k, u.ownBlock = some k → k < W.heap.size := fun k hk => (World.ownsRow.lt hu k hk).2
  refine ⟨by rw [List.length_append]; exact hrow, by simp [hl], fun i v m hv hm => ?_, fun i j v v' hij hv hv' k hk => ?_, fun i v hv k hk e => ?_⟩
  · by_cases hi : i < fb.length
    · rw [List.getElem?_append_left hi] at hv
      rw [List.getElem?_append_left (by omega)] at hm
      exact (h.each i v m hv hm).kept hg (fun b hb e => h.out i v hv b hb e)
    · rw [List.getElem?_append_right (by omega)] at hv hm
      have hi' : i - fb.length = 0 := by
        have := (List.getElem?_eq_some_iff.1 hv).1
        simp at this
        omega
      rw [hi'] at hv
      rw [← hl, hi'] at hm
      simp at hv hm
      subst hv hm
      exact hu.kept hg (fun b hb e => hap b hb (.inl e))
  · by_cases hi : i < fb.length
    · rw [List.getElem?_append_left hi] at hv
      by_cases hj : j < fb.length
      · rw [List.getElem?_append_left hj] at hv'
        exact h.apart i j v v' hij hv hv' k hk
      · rw [List.getElem?_append_right (by omega)] at hv'
        have hj' : j - fb.length = 0 := by
          have := (List.getElem?_eq_some_iff.1 hv').1
          simp at this
          omega
        rw [hj'] at hv'
        simp at hv'
        subst hv'
        exact fun e => hap k e (.inr ⟨v, List.mem_of_getElem? hv, hk⟩)
    · rw [List.getElem?_append_right (by omega)] at hv
      have hi' : i - fb.length = 0 := by
        have := (List.getElem?_eq_some_iff.1 hv).1
        simp at this
        omega
      rw [hi'] at hv
      simp at hv
      subst hv
      by_cases hj : j < fb.length
      · rw [List.getElem?_append_left hj] at hv'
        exact fun e => hap k hk (.inr ⟨v', List.mem_of_getElem? hv', e⟩)
      · rw [List.getElem?_append_right (by omega)] at hv'
        have := (List.getElem?_eq_some_iff.1 hv').1
        simp at this
        omega
  · have hkl : k < W.heap.size := by
      by_cases hi : i < fb.length
      · rw [List.getElem?_append_left hi] at hv
        exact hlt (.inr ⟨v, List.mem_of_getElem? hv, hk⟩)
      · rw [List.getElem?_append_right (by omega)] at hv
        have hi' : i - fb.length = 0 := by
          have := (List.getElem?_eq_some_iff.1 hv).1
          simp at this
          omega
        rw [hi'] at hv
        simp at hv
        subst hv
        exact hul k hk
    rcases hat with h1 | h1
    · rw [h1] at e
      by_cases hi : i < fb.length
      · rw [List.getElem?_append_left hi] at hv
        exact h.out i v hv k hk e
      · rw [List.getElem?_append_right (by omega)] at hv
        have hi' : i - fb.length = 0 := by
          have := (List.getElem?_eq_some_iff.1 hv).1
          simp at this
          omega
        rw [hi'] at hv
        simp at hv
        subst hv
        exact hap k hk (.inl e)
    · rw [h1] at e
      injection e with e
      omega

end

end Go.Proofs.Ytlolcdgbidboeaa

/- What the search finds: plain facts. -/
namespace Go.Proofs.Ytlolcdgbidboeaa
set_option linter.unusedSimpArgs false
set_option linter.unusedVariables false

/-- The numbers to which a list of values refers. -/
def refsL (l : List V) : List Int := valsOf (obsOf l)

theorem mem_refsL {l : List V} (h : RefsOk l) (o : Int) : o ∈ refsL l ↔ (true, o) ∈ l := by
  constructor
  · intro ho
    obtain ⟨v, hv, h1, rfl⟩ := obs_mem ho
    cases v; simp at h1; subst h1; exact hv
  · intro ho
    have hr := h _ ho rfl
    simp only [refsL, valsOf, obsOf, List.mem_map, List.mem_filterMap]
    exact ⟨⟨o, hr⟩, ⟨(true, o), ho, by simp [obOf, hr]⟩, rfl⟩

theorem refers_iff {l : List V} (h : RefsOk l) (o : Int) : refers l o = true ↔ o ∈ refsL l := by
  rw [mem_refsL h]
  simp only [refers, List.any_eq_true, Bool.and_eq_true, beq_iff_eq]
  constructor
  · rintro ⟨v, hv, h1, rfl⟩
    cases v; simp at h1; subst h1; exact hv
  · intro hm
    exact ⟨_, hm, rfl, rfl⟩

theorem findS_prefix (d : Int) (st : List Int × List Int) (o : Int) : st.1 <+: (findS d st o).1 ∧ st.2 <+: (findS d st o).2 := by
  unfold findS; split
  · exact ⟨List.prefix_refl _, List.prefix_refl _⟩
  · exact ⟨List.prefix_append _ _, List.prefix_append _ _⟩

theorem findA_prefix (d : Int) : ∀ (xs : List Int) (st : List Int × List Int), st.1 <+: (findA d st xs).1 ∧ st.2 <+: (findA d st xs).2
  | [], st => ⟨List.prefix_refl _, List.prefix_refl _⟩
  | x :: xs, st => by
    have h1 := findS_prefix d st x
    have h2 := findA_prefix d xs (findS d st x)
    exact ⟨h1.1.trans h2.1, h1.2.trans h2.2⟩

theorem findS_mem (d : Int) (st : List Int × List Int) (o : Int) : o ∈ (findS d st o).1 := by
  unfold findS; split
  · assumption
  · simp

theorem findA_mem (d : Int) : ∀ (xs : List Int) (st : List Int × List Int) (o : Int), o ∈ xs → o ∈ (findA d st xs).1
  | x :: xs, st, o, h => by
    rcases List.mem_cons.1 h with rfl | h
    · exact (findA_prefix d xs (findS d st o)).1.mem (findS_mem d st o)
    · exact findA_mem d xs (findS d st x) o h

/-- What stands behind what was there: new, one of xs, at distance d. -/
theorem findA_new (d : Int) : ∀ (xs : List Int) (st : List Int × List Int), st.2.length = st.1.length → ∀ (p : Nat) (o dp : Int), st.1.length ≤ p → (findA d st xs).1[p]? = some o → (findA d st xs).2[p]? = some dp → o ∈ xs ∧ dp = d ∧ o ∉ st.1
  | [], st, hl, p, o, dp, hp, h1, _ => by
    simp only [findA, List.foldl_nil] at h1
    rw [List.getElem?_eq_none (by omega)] at h1; cases h1
  | x :: xs, st, hl, p, o, dp, hp, h1, h2 => by
    have e : findA d st (x :: xs) = findA d (findS d st x) xs := rfl
    rw [e] at h1 h2
    by_cases hm : x ∈ st.1
    · have es : findS d st x = st := by rw [findS, if_pos hm]
      rw [es] at h1 h2
      obtain ⟨a, b, c⟩ := findA_new d xs st hl p o dp hp h1 h2
      exact ⟨by simp [a], b, c⟩
    · have es : findS d st x = (st.1 ++ [x], st.2 ++ [d]) := by rw [findS, if_neg hm]
      by_cases hpp : p = st.1.length
      · have pr := findA_prefix d xs (findS d st x)
        obtain ⟨t1, ht1⟩ := pr.1
        obtain ⟨t2, ht2⟩ := pr.2
        rw [← ht1, es] at h1
        rw [← ht2, es] at h2
        subst hpp
        simp at h1
        have h2' : ((st.2 ++ [d]) ++ t2)[st.2.length]? = some dp := by rw [hl]; exact h2
        simp at h2'
        subst h1 h2'
        exact ⟨by simp, rfl, hm⟩
      · obtain ⟨a, b, c⟩ := findA_new d xs (findS d st x) (by rw [es]; simp [hl]) p o dp (by rw [es]; simp; omega) h1 h2
        refine ⟨by simp [a], b, fun h => c ?_⟩
        rw [es]; simp [h]

theorem prefix_get {α : Type} {l l' : List α} (h : l <+: l') {k : Nat} {x : α} (hk : l[k]? = some x) : l'[k]? = some x := by
  obtain ⟨t, rfl⟩ := h
  rw [List.getElem?_append_left (List.getElem?_eq_some_iff.1 hk).1]; exact hk

theorem prefix_get' {α : Type} {l l' : List α} (h : l <+: l') {k : Nat} {x : α} (hk : l'[k]? = some x) (hlt : k < l.length) : l[k]? = some x := by
  obtain ⟨t, rfl⟩ := h
  rwa [List.getElem?_append_left hlt] at hk

/-- What holds behind k rounds of the search. -/
structure Bfs (g : Gr) (k : Nat) (st : List Int × List Int) : Prop where
  len : st.2.length = st.1.length
  mono : ∀ (i j : Nat) (di dj : Int), i ≤ j → st.2[i]? = some di → st.2[j]? = some dj → di ≤ dj
  front : ∀ (dk : Int), st.2[k]? = some dk → ∀ (j : Nat) (dj : Int), st.2[j]? = some dj → dj ≤ dk + 1
  cause : ∀ (p : Nat) (o dp : Int), st.1[p]? = some o → st.2[p]? = some dp → (o ∈ refsL g.roots ∧ dp = 0) ∨
    (o ∉ refsL g.roots ∧ ∃ (m : Nat) (om dm : Int), m < k ∧ st.1[m]? = some om ∧ st.2[m]? = some dm ∧ o ∈ refsL (fieldsOf g om) ∧ dp = dm + 1 ∧ ∀ (m' : Nat) (om' : Int), m' < m → st.1[m']? = some om' → o ∉ refsL (fieldsOf g om'))
  done : ∀ (m : Nat) (om : Int), m < k → st.1[m]? = some om → ∀ x ∈ refsL (fieldsOf g om), x ∈ st.1
  roots : ∀ x ∈ refsL g.roots, x ∈ st.1

theorem findA_lens (d : Int) : ∀ (xs : List Int) (st : List Int × List Int), st.2.length = st.1.length → (findA d st xs).2.length = (findA d st xs).1.length
  | [], st, h => h
  | x :: xs, st, h => by
    refine findA_lens d xs (findS d st x) ?_
    unfold findS; split
    · exact h
    · simp [h]

theorem bfs_start (g : Gr) : Bfs g 0 (searchN g 0) := by
  have hl : (searchN g 0).2.length = (searchN g 0).1.length := findA_lens 0 _ ([], []) rfl
  have hz : ∀ (p : Nat) (dp : Int), (searchN g 0).2[p]? = some dp → ∃ o, (searchN g 0).1[p]? = some o ∧ o ∈ refsL g.roots ∧ dp = 0 := by
    intro p dp h
    have hlt : p < (searchN g 0).1.length := by rw [← hl]; exact (List.getElem?_eq_some_iff.1 h).1
    obtain ⟨a, b, _⟩ := findA_new 0 (refsL g.roots) ([], []) rfl p (searchN g 0).1[p] dp (by simp) (List.getElem?_eq_getElem hlt) h
    exact ⟨_, List.getElem?_eq_getElem hlt, a, b⟩
  refine ⟨hl, ?_, ?_, ?_, ?_, ?_⟩
  · intro i j di dj _ hi hj
    obtain ⟨_, _, _, rfl⟩ := hz i di hi
    obtain ⟨_, _, _, rfl⟩ := hz j dj hj
    omega
  · intro dk hk j dj hj
    obtain ⟨_, _, _, rfl⟩ := hz 0 dk hk
    obtain ⟨_, _, _, rfl⟩ := hz j dj hj
    omega
  · intro p o dp hp hd
    obtain ⟨o', h1, h2, h3⟩ := hz p dp hd
    rw [hp] at h1
    injection h1 with h1
    subst h1
    exact .inl ⟨h2, h3⟩
  · intro m om hm; omega
  · intro x hx; exact findA_mem 0 _ _ x hx

theorem searchN_succ (g : Gr) (k : Nat) : searchN g (k + 1) = match (searchN g k).1[k]? with
    | none => searchN g k
    | some o => findA (((searchN g k).2[k]?).getD 0 + 1) (searchN g k) (refsL (fieldsOf g o)) := rfl

theorem bfs_step (g : Gr) (k : Nat) (h : Bfs g k (searchN g k)) : Bfs g (k + 1) (searchN g (k + 1)) := by
  rw [searchN_succ]
  generalize searchN g k = st at h
  cases hk : st.1[k]? with
  | none =>
    have hlen : st.1.length ≤ k := by
      rcases Nat.lt_or_ge k st.1.length with h' | h'
      · rw [List.getElem?_eq_getElem h'] at hk; cases hk
      · exact h'
    change Bfs g (k + 1) st
    refine ⟨h.len, h.mono, ?_, ?_, ?_, h.roots⟩
    · intro dk hd
      have := (List.getElem?_eq_some_iff.1 hd).1
      have := h.len
      omega
    · intro p o dp hp hd
      rcases h.cause p o dp hp hd with h' | ⟨h1, m, om, dm, hm, h2⟩
      · exact .inl h'
      · exact .inr ⟨h1, m, om, dm, by omega, h2⟩
    · intro m om hm ho
      have := (List.getElem?_eq_some_iff.1 ho).1
      exact h.done m om (by omega) ho
  | some o =>
    have hlt : k < st.1.length := (List.getElem?_eq_some_iff.1 hk).1
    have hlt2 : k < st.2.length := by rw [h.len]; exact hlt
    obtain ⟨dk, hdk⟩ : ∃ dk, st.2[k]? = some dk := ⟨_, List.getElem?_eq_getElem hlt2⟩
    simp only [hdk, Option.getD_some]
    have hpre := findA_prefix (dk + 1) (refsL (fieldsOf g o)) st
    have hnew := findA_new (dk + 1) (refsL (fieldsOf g o)) st h.len
    have hmem := findA_mem (dk + 1) (refsL (fieldsOf g o)) st
    have hl' := findA_lens (dk + 1) (refsL (fieldsOf g o)) st h.len
    generalize findA (dk + 1) st (refsL (fieldsOf g o)) = st' at hpre hnew hmem hl'
    have hval : ∀ (p : Nat) (dp : Int), st'.2[p]? = some dp → (p < st.1.length ∧ st.2[p]? = some dp) ∨ (st.1.length ≤ p ∧ dp = dk + 1) := by
      intro p dp hp
      by_cases hlt' : p < st.1.length
      · exact .inl ⟨hlt', prefix_get' hpre.2 hp (by rw [h.len]; exact hlt')⟩
      · have hlp : p < st'.1.length := by rw [← hl']; exact (List.getElem?_eq_some_iff.1 hp).1
        obtain ⟨_, b, _⟩ := hnew p st'.1[p] dp (by omega) (List.getElem?_eq_getElem hlp) hp
        exact .inr ⟨by omega, b⟩
    refine ⟨hl', ?_, ?_, ?_, ?_, ?_⟩
    · intro i j di dj hij hi hj
      rcases hval i di hi with ⟨a, b⟩ | ⟨a, rfl⟩
      · rcases hval j dj hj with ⟨c, d⟩ | ⟨c, rfl⟩
        · exact h.mono i j di dj hij b d
        · exact h.front dk hdk i di b
      · rcases hval j dj hj with ⟨c, d⟩ | ⟨c, rfl⟩
        · omega
        · omega
    · intro d1 hd1 j dj hj
      have hk1 : dk ≤ d1 := by
        rcases hval (k + 1) d1 hd1 with ⟨a, b⟩ | ⟨a, rfl⟩
        · exact h.mono k (k + 1) dk d1 (by omega) hdk b
        · omega
      rcases hval j dj hj with ⟨c, d⟩ | ⟨c, rfl⟩
      · have := h.front dk hdk j dj d; omega
      · omega
    · intro p x dp hp hd
      by_cases hlt' : p < st.1.length
      · have h1 := prefix_get' hpre.1 hp hlt'
        have h2 := prefix_get' hpre.2 hd (by rw [h.len]; exact hlt')
        rcases h.cause p x dp h1 h2 with h' | ⟨a, m, om, dm, hm, b, c, e, f, i⟩
        · exact .inl h'
        · refine .inr ⟨a, m, om, dm, by omega, prefix_get hpre.1 b, prefix_get hpre.2 c, e, f, ?_⟩
          intro m' om' hm' ho'
          exact i m' om' hm' (prefix_get' hpre.1 ho' (by omega))
      · obtain ⟨a, b, c⟩ := hnew p x dp (by omega) hp hd
        refine .inr ⟨fun hr => c (h.roots x hr), k, o, dk, by omega, prefix_get hpre.1 hk, prefix_get hpre.2 hdk, a, b, ?_⟩
        intro m' om' hm' ho' hx
        exact c (h.done m' om' hm' (prefix_get' hpre.1 ho' (by omega)) x hx)
    · intro m om hm ho x hx
      by_cases hmk : m = k
      · subst hmk
        have := prefix_get hpre.1 hk
        rw [ho] at this
        injection this with this
        subst this
        exact hmem x hx
      · exact hpre.1.mem (h.done m om (by omega) (prefix_get' hpre.1 ho (by omega)) x hx)
    · intro x hx; exact hpre.1.mem (h.roots x hx)

theorem bfs (g : Gr) : ∀ k, Bfs g k (searchN g k)
  | 0 => bfs_start g
  | k + 1 => bfs_step g k (bfs g k)

/-- What is found is closed. -/
theorem order_roots (g : Gr) : ∀ x ∈ refsL g.roots, x ∈ orderOf g := (bfs g g.objs.length).roots

theorem order_closed {g : Gr} (h : Good g) {o : Int} (ho : o ∈ orderOf g) : ∀ x ∈ refsL (fieldsOf g o), x ∈ orderOf g := by
  obtain ⟨m, hm, rfl⟩ := List.getElem_of_mem ho
  have hle := (searchN_ok h g.objs.length).le
  exact (bfs g g.objs.length).done m _ (by unfold orderOf at hm; omega) (List.getElem?_eq_getElem hm)

theorem order_ok {g : Gr} (h : Good g) {o : Int} (ho : o ∈ orderOf g) : 0 ≤ o ∧ o < g.objs.length := (searchN_ok h g.objs.length).rng o ho

theorem order_nodup {g : Gr} (h : Good g) : (orderOf g).Nodup := (searchN_ok h g.objs.length).nd

theorem fieldsOf_mem {g : Gr} {o : Int} (h0 : 0 ≤ o) (h1 : o < g.objs.length) : fieldsOf g o ∈ g.objs := by
  have hlt : o.toNat < g.objs.length := by omega
  unfold fieldsOf
  rw [List.getElem?_eq_getElem hlt, Option.getD_some]
  exact List.getElem_mem hlt

theorem placeOf_inj {order : List Int} {x y : Int} (hx : x ∈ order) (hy : y ∈ order) (h : placeOf order x = placeOf order y) : x = y := by
  unfold placeOf at h
  rw [if_pos hx, if_pos hy] at h
  have h' : order.idxOf x = order.idxOf y := by omega
  have hx' := List.getElem_idxOf (List.idxOf_lt_length_iff.2 hx)
  have hy' := List.getElem_idxOf (List.idxOf_lt_length_iff.2 hy)
  rw [← hx', ← hy']
  congr 1

theorem placeOf_bounds {order : List Int} {x : Int} (hx : x ∈ order) : 0 ≤ placeOf order x ∧ placeOf order x < order.length := by
  unfold placeOf
  rw [if_pos hx]
  have := List.idxOf_lt_length_iff.2 hx
  omega

theorem placeOf_get {order : List Int} {x : Int} (hx : x ∈ order) : order[(placeOf order x).toNat]? = some x := by
  unfold placeOf
  rw [if_pos hx, Int.toNat_natCast, List.getElem?_eq_getElem (List.idxOf_lt_length_iff.2 hx), List.getElem_idxOf (List.idxOf_lt_length_iff.2 hx)]

end Go.Proofs.Ytlolcdgbidboeaa

/- Two values are compared. -/
namespace Go.Proofs.Ytlolcdgbidboeaa
set_option linter.unusedSimpArgs false
set_option linter.unusedVariables false
open Go.RowKit

theorem eql_in (r1 r2 : Bool) (n1 n2 : Int) (w : World) : (Op.equalIn 10000 47 (.agg #[.bool r1, .int .i64 n1]) (.agg #[.bool r2, .int .i64 n2])).run Try.prog w = .ok (r1 == r2 && n1 == n2) w := by
  have u2 := Try.underlying2
  have a2 := Try.isAgg2
  have z2 := Try.sizeOf2
  have u4 := Try.underlying4
  have a4 := Try.isAgg4
  have z4 := Try.sizeOf4
  have hS : Try.prog.underlying 47 = some (.struct (Try.prog.fieldsOf 47)) := by kernel_rfl
  have hp : Try.prog.stoodInHeld 47 = false := by kernel_rfl
  rw [show (10000 : Nat) = 9999 + 1 from rfl, run_equalIn_agg w 9999 47 _ _ hS hp]
  simp only [Program.fieldsOf, Try.underlying47]
  go_simp
  cases r1 <;> cases r2 <;> by_cases h2 : n1 = n2 <;> simp [h2]

theorem guard35 : Try.prog.eqGuardType Try.prog.depth 47 = false := by kernel_rfl

theorem neq_v (r1 r2 : Bool) (n1 n2 : Int) (w : World) : (binOp .neq 47 (.agg #[.bool r1, .int .i64 n1]) (.agg #[.bool r2, .int .i64 n2])).run Try.prog w = .ok (.bool (!(r1 == r2 && n1 == n2))) w := by
  rw [run_neq_struct, eql_in]; rfl

theorem eql_v (r1 r2 : Bool) (n1 n2 : Int) (w : World) : (binOp .eql 47 (.agg #[.bool r1, .int .i64 n1]) (.agg #[.bool r2, .int .i64 n2])).run Try.prog w = .ok (.bool (r1 == r2 && n1 == n2)) w := by
  rw [run_eql_struct, eql_in]; rfl

end Go.Proofs.Ytlolcdgbidboeaa

/- Walks: whether two lists of values are the same. -/
namespace Go.Proofs.Ytlolcdgbidboeaa
set_option linter.unusedSimpArgs false
set_option linter.unusedVariables false
open Go.RowKit

def sameG (g h : Gr) : Bool := decide (g.roots = h.roots) && decide (g.objs = h.objs)

end Go.Proofs.Ytlolcdgbidboeaa

/- Walks: at: the value that a way of fields comes to. -/
namespace Go.Proofs.Ytlolcdgbidboeaa
set_option linter.unusedSimpArgs false
set_option linter.unusedVariables false
open Go.RowKit

/-- A slice of numbers, that lies below block B. -/
def Ints (B : Nat) (w : World) (a : Option Addr) (l : List Int) : Prop :=
  l.length ≤ 9223372036854775807 ∧ (l ≠ [] → ∃ b off, a = some ⟨b, off, none⟩ ∧ b < B ∧ ∀ k v, l[k]? = some v → w.cell? ⟨b, off + k, none⟩ = some (.int .i64 v))

theorem Ints.below {B : Nat} {w w' : World} {a : Option Addr} {l : List Int} (h : Ints B w a l) (hb : Below B w w') : Ints B w' a l := by
  refine ⟨h.1, fun hne => ?_⟩
  obtain ⟨b, off, rfl, hB, hc⟩ := h.2 hne
  refine ⟨b, off, rfl, hB, fun k v hk => ?_⟩
  rw [hb.cell (p := ⟨b, off + k, none⟩) hB]
  exact hc k v hk

theorem Ints.mono {B B' : Nat} {w : World} {a : Option Addr} {l : List Int} (h : Ints B w a l) (hb : B ≤ B') : Ints B' w a l := by
  refine ⟨h.1, fun hne => ?_⟩
  obtain ⟨b, off, rfl, hB, hc⟩ := h.2 hne
  exact ⟨b, off, rfl, by omega, hc⟩

theorem Ints.at {B : Nat} {w : World} {a : Option Addr} {l : List Int} (h : Ints B w a l) {k : Nat} (hk : k < l.length) :
    ∃ b off, a = some ⟨b, off, none⟩ ∧ b < B ∧ w.cell? ⟨b, off + k, none⟩ = some (.int .i64 l[k]) := by
  obtain ⟨b, off, rfl, hB, hc⟩ := h.2 (by intro e; subst e; simp at hk)
  exact ⟨b, off, rfl, hB, hc k l[k] (by simp [hk])⟩

def stepG (g : Gr) (v : V) (k : Int) : Option V :=
  if v.1 = true ∧ 0 ≤ v.2 ∧ v.2 < g.objs.length then (if 0 ≤ k ∧ k < (fieldsOf g v.2).length then (fieldsOf g v.2)[k.toNat]? else none) else none
def wayG (g : Gr) : V → List Int → Option V
  | v, [] => some v
  | v, k :: ks => (stepG g v k).bind (fun u => wayG g u ks)
def atG (g : Gr) (root : Int) (way : List Int) : Option V :=
  if 0 ≤ root ∧ root < g.roots.length then (g.roots[root.toNat]?).bind (fun v => wayG g v way) else none

/-- What at tells. -/
def atR (o : Option V) : Value := match o with
  | some v => .tuple #[.agg #[.bool v.1, .int .i64 v.2], .bool true]
  | none => .tuple #[.agg #[.bool false, .int .i64 0], .bool false]

end Go.Proofs.Ytlolcdgbidboeaa

/- Walks: the document's answer: Has, place, turned, Values, Graphs. -/
namespace Go.Proofs.Ytlolcdgbidboeaa
set_option linter.unusedSimpArgs false
set_option linter.unusedVariables false
open Go.RowKit

theorem mem_take_succ {l : List Int} {k : Nat} (hk : k < l.length) (x : Int) : x ∈ l.take (k + 1) ↔ x ∈ l.take k ∨ x = l[k] := by
  rw [List.take_succ_eq_append_getElem hk]; simp only [List.mem_append, List.mem_singleton]

set_option maxHeartbeats 400000 in
theorem has_c (a : Option Addr) (cap : Nat) (l : List Int) (x : Int) (B : Nat) (w : World) (hl : Ints B w a l) :
    Calls Try.prog 57 #[.slice a l.length cap, .int .i64 x] w fun e w' => e = .returned (.bool (decide (x ∈ l))) ∧ w' = w := by
  have hlen := hl.1
  go_enter Try.func57, Try.ntmps57
  go_wp2
  go_loop [9] (fun i => ∃ k : Nat, k ≤ l.length ∧ i = .int .i64 k ∧ Hid (x ∉ l.take k)) (fun i => l.length - (intOf i).toNat)
  case atStart => exact ⟨0, Nat.zero_le _, rfl, by show x ∉ l.take 0; simp⟩
  case round =>
    obtain ⟨k, hk, rfl, Hno⟩ := hrel
    by_cases hlt : k < l.length
    · obtain ⟨b, off, rfl, hbB, hc⟩ := hl.at hlt
      have HT := hide (mem_take_succ hlt x)
      have HM := hide (List.getElem_mem hlt)
      generalize l[k] = y at *
      by_cases hxy : x = y
      · have d : (x == y) = true := by simpa using hxy
        go_wp2
        go_ret
        exact ⟨ret_bool (by have := unhide HM; simp_all), rfl⟩
      · have d : (x == y) = false := by simpa using hxy
        go_wp2
        go_round
        case rel => exact ⟨k + 1, by omega, by go_num, fun h => by rcases (unhide HT).1 h with h | h; exact unhide Hno h; exact hxy h⟩
        case measure => simp [intOf]; omega
    · obtain rfl : k = l.length := by omega
      have hno := unhide Hno
      rw [List.take_length] at hno
      go_wp2
      go_ret
      exact ⟨ret_bool (by simp [hno]), rfl⟩

theorem idxOf_first {l : List Int} {k : Nat} {x : Int} (hk : k < l.length) (hx : l[k] = x) (hno : x ∉ l.take k) : l.idxOf x = k := by
  have hm : x ∈ l := hx ▸ List.getElem_mem hk
  have h1 := List.idxOf_lt_length_iff.2 hm
  have h2 := List.getElem_idxOf h1
  rcases Nat.lt_trichotomy (l.idxOf x) k with h3 | h3 | h3
  · exfalso
    apply hno
    rw [List.mem_take_iff_getElem]
    exact ⟨l.idxOf x, by omega, h2⟩
  · exact h3
  · exfalso
    have h4 := List.not_of_lt_findIdx (p := (· == x)) (xs := l) (i := k) h3
    simp [hx] at h4

set_option maxHeartbeats 400000 in
theorem place_c (a : Option Addr) (cap : Nat) (l : List Int) (x : Int) (B : Nat) (w : World) (hl : Ints B w a l) :
    Calls Try.prog 53 #[.slice a l.length cap, .int .i64 x] w fun e w' => e = .returned (.int .i64 (placeOf l x)) ∧ w' = w := by
  have hlen := hl.1
  go_enter Try.func53, Try.ntmps53
  go_wp2
  go_loop [5] (fun i => ∃ k : Nat, k ≤ l.length ∧ i = .int .i64 k ∧ Hid (x ∉ l.take k)) (fun i => l.length - (intOf i).toNat)
  case atStart => exact ⟨0, Nat.zero_le _, rfl, by show x ∉ l.take 0; simp⟩
  case round =>
    obtain ⟨k, hk, rfl, Hno⟩ := hrel
    by_cases hlt : k < l.length
    · obtain ⟨b, off, rfl, hbB, hc⟩ := hl.at hlt
      have HT := hide (mem_take_succ hlt x)
      have HM := hide (List.getElem_mem hlt)
      have HI := hide (fun e => idxOf_first (x := x) hlt e)
      generalize l[k] = y at *
      by_cases hxy : y = x
      · have d : (y == x) = true := by simpa using hxy
        go_wp2
        go_ret
        refine ⟨ret_int ?_, rfl⟩
        rw [placeOf, if_pos (by rw [← hxy]; exact unhide HM), unhide HI hxy (unhide Hno)]
      · have d : (y == x) = false := by simpa using hxy
        go_wp2
        go_round
        case rel => exact ⟨k + 1, by omega, by go_num, fun h => by rcases (unhide HT).1 h with h | h; exact unhide Hno h; exact hxy h.symm⟩
        case measure => simp [intOf]; omega
    · obtain rfl : k = l.length := by omega
      have hno := unhide Hno
      rw [List.take_length] at hno
      go_wp2
      go_ret
      exact ⟨ret_int (by rw [placeOf, if_neg hno]), rfl⟩

set_option maxHeartbeats 1000000 in
theorem turned_c (a al : Option Addr) (cap capl : Nat) (vs : List V) (l : List Int) (w : World) (hv : Vals w.heap.size w a vs) (hl : Ints w.heap.size w al l) (hlen : vs.length ≤ 1000) :
    Calls Try.prog 39 #[.slice a vs.length cap, .slice al l.length capl] w fun e w' => ∃ a' cap', e = .returned (.slice a' vs.length cap') ∧ Vals w'.heap.size w' a' (vs.map (renV l)) ∧ (∀ b off, a' = some ⟨b, off, none⟩ → w.heap.size ≤ b) ∧ Below w.heap.size w w' := by
  obtain ⟨i0, hi, hz0, hz1, hz2⟩ := info_parts Try.info47
  go_enter Try.func39, Try.ntmps39
  go_wp2
  go_loopw [5, 10] (fun s i wr => ∃ k : Nat, k ≤ vs.length ∧ i = .int .i64 k ∧ wr.ownsRow w.heap.size 47 2 s k (cellsV ((vs.take k).map (renV l))) ∧ Below w.heap.size w wr) (fun _ i _ => vs.length - (intOf i).toNat)
  case atStart => exact ⟨0, Nat.zero_le _, rfl, by simpa [cellsV] using World.ownsRow_nil _ _ _ _, Below.refl _ _⟩
  case round =>
    obtain ⟨k, hk, rfl, hown, hb⟩ := hrel
    have hsz := hb.size
    by_cases hlt : k < vs.length
    · obtain ⟨b, off, r, n, rfl, hbB, hc1, hc2, Hv⟩ := (hv.below hb).at hlt
      have HT := hide (List.take_succ_eq_append_getElem hlt)
      rw [Hv.out] at HT
      have Hfin : Hid (∀ m, renV l (r, n) = (r, m) → cellsV ((vs.take (k + 1)).map (renV l)) = cellsV ((vs.take k).map (renV l)) ++ [.bool r, .int .i64 m]) := by
        intro m hm
        rw [unhide HT, List.map_append, List.map_cons, List.map_nil, hm, cellsV_snoc]
      have hmx : k + 1 ≤ maxLen := by simp only [maxLen]; omega
      have hmy : (k + 1) * 16 ≤ 140737488355328 := by omega
      cases r
      · have HF := hide (unhide Hfin n (by simp [renV]))
        go_wp2_with (at_builtin; go_must (refine wpList_append_own _ rfl _ _ 23 rfl w.heap.size 47 i0 _ 2 16 Try.underlying23 hi hz0 hz1 hz2 rfl (by decide) _ _ _ rfl ((hown.alloc _).alloc _) ⟨wr.heap.size + 1, 0, none⟩ 1 1 [.bool false, .int .i64 n] rfl rfl (cell_two_at _ _ _ _ _ (by simp)) (by simp [Value.oneCell']) hmx hmy (by simp; omega) ?_); intro v' w1 hown' hgrow _)
        go_roundw
        case rel => exact ⟨k + 1, by omega, by go_num, by rw [unhide HF]; exact hown', ((hb.alloc hsz _).alloc (by simp; omega) _).grown hgrow (by simp; omega) (fun q e => (hown.lt q e).1)⟩
        case measure => simp [intOf]; omega
      · have HF := hide (unhide Hfin (placeOf l n) (by simp [renV]))
        have hlr := hl.below (hb.alloc hsz (.cells #[.bool true, .int .i64 n] 47))
        go_wp2_with (first
          | (go_at_call 53; go_must (refine (place_c _ _ l n w.heap.size _ hlr).mono ?_); rintro e w3 ⟨rfl, hw3⟩; subst hw3)
          | (at_builtin; go_must (refine wpList_append_own _ rfl _ _ 23 rfl w.heap.size 47 i0 _ 2 16 Try.underlying23 hi hz0 hz1 hz2 rfl (by decide) _ _ _ rfl ((hown.alloc _).alloc _) ⟨wr.heap.size + 1, 0, none⟩ 1 1 [.bool true, .int .i64 (placeOf l n)] rfl rfl (cell_two_at _ _ _ _ _ (by simp)) (by simp [Value.oneCell']) hmx hmy (by simp; omega) ?_); intro v' w1 hown' hgrow _))
        go_roundw
        case rel => exact ⟨k + 1, by omega, by go_num, by rw [unhide HF]; exact hown', ((hb.alloc hsz _).alloc (by simp; omega) _).grown hgrow (by simp; omega) (fun q e => (hown.lt q e).1)⟩
        case measure => simp [intOf]; omega
    · obtain rfl : k = vs.length := by omega
      rw [List.take_length] at hown
      obtain ⟨a', cap', hv', hV, hbs⟩ := vals_of_owns hown (by simp) (by omega)
      simp only [List.length_map] at hv'
      have Hv' := hide hv'
      clear hv'
      go_wp2
      go_ret
      exact ⟨a', cap', congrArg Ending.returned (unhide Hv'), hV, hbs, hb⟩

end Go.Proofs.Ytlolcdgbidboeaa

/- Walks: Dist. -/
namespace Go.Proofs.Ytlolcdgbidboeaa
set_option linter.unusedSimpArgs false
set_option linter.unusedVariables false
open Go.RowKit

/-- How far an object is; -1, if it can't be come to. -/
def distAt (g : Gr) (o : Int) : Int := if o ∈ orderOf g then ((distOf g)[(orderOf g).idxOf o]?).getD 0 else -1
def distL (g : Gr) : List Int := (List.range g.objs.length).map (fun (k : Nat) => distAt g (k : Int))

theorem distL_len (g : Gr) : (distL g).length = g.objs.length := by simp [distL]

theorem distL_take (g : Gr) {k : Nat} (hk : k < g.objs.length) : (distL g).take (k + 1) = (distL g).take k ++ [distAt g (k : Int)] := by
  rw [List.take_succ_eq_append_getElem (by rw [distL_len]; exact hk)]
  simp [distL]

theorem take_set1 {cs : List Value} {k : Nat} {pre : List Value} {x : Value} (h : cs.take k = pre) (hl : k < cs.length) : (cs.set k x).take (k + 1) = pre ++ [x] := by
  rw [← h]
  apply List.ext_getElem?
  intro i
  rw [List.getElem?_take]
  by_cases h1 : i < k
  · rw [if_pos (by omega), List.getElem?_append_left (by simp; omega), List.getElem?_set_ne (by omega), List.getElem?_take, if_pos h1]
  · rw [List.getElem?_append_right (by simp; omega)]
    have hmin : (List.take k cs).length = k := by simp; omega
    rw [hmin]
    by_cases h2 : i = k
    · subst h2
      rw [if_pos (by omega), List.getElem?_set_self (by omega)]; simp
    · rw [if_neg (by omega), List.getElem?_eq_none (by simp; omega)]

theorem ints_of_owns {w : World} {base : Nat} {e : TypeId} {v : Value} {n : Nat} {l : List Int} (h : w.ownsRow base e 1 v n (intsV l)) (hn : n = l.length) (hs : n ≤ 9223372036854775807) :
    ∃ a cap, v = .slice a l.length cap ∧ Ints w.heap.size w a l ∧ ∀ b off, a = some ⟨b, off, none⟩ → base ≤ b := by
  obtain ⟨_, h2⟩ := h
  rcases h2 with ⟨rfl, h0⟩ | ⟨g, cap, cur, rfl, hb, hg, hc1, hc2, hc3, htake⟩
  · refine ⟨none, 0, by rw [← hn, h0], ⟨by omega, fun hne => ?_⟩, fun b off e => by cases e⟩
    have : l = [] := List.eq_nil_of_length_eq_zero (by omega)
    exact absurd this hne
  · refine ⟨_, cap, by rw [hn], ⟨by omega, fun _ => ⟨g, 0, rfl, (Array.getElem?_eq_some_iff.1 hg).1, fun k v hk => ?_⟩⟩, fun b off e => by injection e with e; injection e with e1; omega⟩
    have h1 : (intsV l)[k]? = some (.int .i64 v) := by simp [intsV, hk]
    rw [← htake, List.getElem?_take] at h1
    rw [Nat.zero_add, cell_of_row w g k cur e (0, 0) hg]
    split at h1
    · simpa using h1
    · cases h1

end Go.Proofs.Ytlolcdgbidboeaa

/- How far objects are: plain facts. -/
namespace Go.Proofs.Ytlolcdgbidboeaa
set_option linter.unusedSimpArgs false
set_option linter.unusedVariables false

/-- The best of what stands before the first k. -/
def bestK (D : Nat → Int) (R : Nat → Bool) : Nat → Int
  | 0 => -1
  | i + 1 => if 0 ≤ D i ∧ R i = true ∧ (bestK D R i < 0 ∨ D i + 1 < bestK D R i) then D i + 1 else bestK D R i

theorem bestK_spec (D : Nat → Int) (R : Nat → Bool) : ∀ k, (bestK D R k = -1 ∧ ∀ i, i < k → ¬ (0 ≤ D i ∧ R i = true)) ∨ (∃ i, i < k ∧ 0 ≤ D i ∧ R i = true ∧ bestK D R k = D i + 1 ∧ ∀ i', i' < k → 0 ≤ D i' → R i' = true → D i ≤ D i')
  | 0 => .inl ⟨rfl, fun i h => by omega⟩
  | k + 1 => by
    have ih := bestK_spec D R k
    by_cases hc : 0 ≤ D k ∧ R k = true
    · rcases ih with ⟨h1, h2⟩ | ⟨i, h1, h2, h3, h4, h5⟩
      · refine .inr ⟨k, by omega, hc.1, hc.2, ?_, ?_⟩
        · show (if _ then _ else _) = _
          rw [if_pos ⟨hc.1, hc.2, .inl (by omega)⟩]
        · intro i' hi' h0 hr
          by_cases e : i' = k
          · subst e; omega
          · exact absurd ⟨h0, hr⟩ (h2 i' (by omega))
      · by_cases hb : D k + 1 < bestK D R k
        · refine .inr ⟨k, by omega, hc.1, hc.2, ?_, ?_⟩
          · show (if _ then _ else _) = _
            rw [if_pos ⟨hc.1, hc.2, .inr hb⟩]
          · intro i' hi' h0 hr
            by_cases e : i' = k
            · subst e; omega
            · have := h5 i' (by omega) h0 hr; omega
        · refine .inr ⟨i, by omega, h2, h3, ?_, ?_⟩
          · show (if _ then _ else _) = _
            rw [if_neg (by rintro ⟨_, _, h | h⟩ <;> omega)]; exact h4
          · intro i' hi' h0 hr
            by_cases e : i' = k
            · subst e; omega
            · exact h5 i' (by omega) h0 hr
    · have e : bestK D R (k + 1) = bestK D R k := by
        show (if _ then _ else _) = _
        rw [if_neg (fun h => hc ⟨h.1, h.2.1⟩)]
      rw [e]
      rcases ih with ⟨h1, h2⟩ | ⟨i, h1, h2, h3, h4, h5⟩
      · refine .inl ⟨h1, fun i hi => ?_⟩
        by_cases e : i = k
        · subst e; exact hc
        · exact h2 i (by omega)
      · refine .inr ⟨i, by omega, h2, h3, h4, fun i' hi' h0 hr => ?_⟩
        by_cases e : i' = k
        · subst e; exact absurd ⟨h0, hr⟩ hc
        · exact h5 i' (by omega) h0 hr

theorem idx_of {l : List Int} (h : l.Nodup) {m : Nat} {o : Int} (hm : l[m]? = some o) : l.idxOf o = m := by
  obtain ⟨hlt, rfl⟩ := List.getElem?_eq_some_iff.1 hm
  have h1 : l.idxOf l[m] < l.length := List.idxOf_lt_length_iff.2 (List.getElem_mem hlt)
  have h2 := List.getElem_idxOf h1
  rw [List.nodup_iff_pairwise_ne, List.pairwise_iff_getElem] at h
  rcases Nat.lt_trichotomy (l.idxOf l[m]) m with h3 | h3 | h3
  · exact absurd h2 (h _ _ h1 hlt h3)
  · exact h3
  · exact absurd h2.symm (h _ _ hlt h1 h3)

theorem distAt_of {g : Gr} (h : Good g) {m : Nat} {o d : Int} (hm : (orderOf g)[m]? = some o) (hd : (distOf g)[m]? = some d) : distAt g o = d := by
  unfold distAt
  rw [if_pos (List.mem_of_getElem? hm), idx_of (order_nodup h) hm, hd]; rfl

theorem distAt_mem {g : Gr} (h : Good g) {o : Int} (ho : o ∈ orderOf g) : ∃ (m : Nat) (d : Int), (orderOf g)[m]? = some o ∧ (distOf g)[m]? = some d ∧ distAt g o = d ∧ 0 ≤ d ∧ d ≤ m := by
  obtain ⟨m, hm, rfl⟩ := List.getElem_of_mem ho
  have hok := searchN_ok h g.objs.length
  have hm2 : m < (distOf g).length := by rw [show (distOf g).length = (orderOf g).length from hok.len]; exact hm
  have h1 := List.getElem?_eq_getElem hm
  have h2 := List.getElem?_eq_getElem hm2
  have h3 := hok.pos m _ h2
  exact ⟨m, _, h1, h2, distAt_of h h1 h2, h3.1, h3.2⟩

theorem distAt_nonneg {g : Gr} (h : Good g) (o : Int) : 0 ≤ distAt g o ↔ o ∈ orderOf g := by
  constructor
  · intro h0
    unfold distAt at h0
    split at h0
    · assumption
    · omega
  · intro ho
    obtain ⟨_, d, _, _, e, h0, _⟩ := distAt_mem h ho
    omega

theorem distAt_bounds {g : Gr} (h : Good g) (o : Int) : -1 ≤ distAt g o ∧ distAt g o ≤ 256 := by
  by_cases ho : o ∈ orderOf g
  · obtain ⟨m, d, h1, _, e, h0, h2⟩ := distAt_mem h ho
    have := (List.getElem?_eq_some_iff.1 h1).1
    have := (searchN_ok h g.objs.length).le
    have := h.n24
    unfold orderOf at *
    omega
  · unfold distAt
    rw [if_neg ho]; omega

/-- An object is as far as one more than the nearest that refers to it. -/
theorem steps_eq {g : Gr} (h : Good g) {j : Nat} (hj : j < g.objs.length) :
    distAt g (j : Int) = if refers g.roots (j : Int) = true then 0 else bestK (fun i => distAt g (i : Int)) (fun i => refers (fieldsOf g (i : Int)) (j : Int)) g.objs.length := by
  have hB := bfs g g.objs.length
  have hR := refers_iff h.refsRoots (j : Int)
  have hF : ∀ (i : Nat), i < g.objs.length → (refers (fieldsOf g (i : Int)) (j : Int) = true ↔ (j : Int) ∈ refsL (fieldsOf g (i : Int))) := fun i hi => refers_iff (h.refsObjs (fieldsOf_mem (by omega) (by omega))) _
  have hlen := (searchN_ok h g.objs.length).le
  by_cases hjo : (j : Int) ∈ orderOf g
  · obtain ⟨p, dp, hp, hd, e, h0, _⟩ := distAt_mem h hjo
    rw [e]
    rcases hB.cause p (j : Int) dp hp hd with ⟨h1, h2⟩ | ⟨h1, m, om, dm, hm, h2, h3, h4, h5, h6⟩
    · rw [if_pos (hR.2 h1)]; exact h2
    · rw [if_neg (fun hh => h1 (hR.1 hh))]
      have hom : om ∈ orderOf g := List.mem_of_getElem? h2
      have hor := order_ok h hom
      obtain ⟨om, rfl⟩ := Int.eq_ofNat_of_zero_le hor.1
      have hdm := distAt_of h h2 h3
      have hdm0 := (distAt_nonneg h (om : Int)).2 hom
      rcases bestK_spec (fun i => distAt g (i : Int)) (fun i => refers (fieldsOf g (i : Int)) (j : Int)) g.objs.length with ⟨_, hno⟩ | ⟨i, hi, b1, b2, b3, b4⟩
      · exact absurd ⟨hdm0, (hF om (by omega)).2 h4⟩ (hno om (by omega))
      · rw [b3]
        have hle := b4 om (by omega) hdm0 ((hF om (by omega)).2 h4)
        have hio := (distAt_nonneg h (i : Int)).1 b1
        obtain ⟨q, dq, hq, hdq, eq, _, _⟩ := distAt_mem h hio
        have hji := (hF i hi).1 b2
        have hmq : m ≤ q := by
          rcases Nat.lt_or_ge q m with hlt | hge
          · exact absurd hji (h6 q (i : Int) hlt hq)
          · exact hge
        have := hB.mono m q dm dq hmq h3 hdq
        omega
  · have e : distAt g (j : Int) = -1 := by unfold distAt; rw [if_neg hjo]
    rw [e, if_neg (fun hh => hjo (order_roots g _ (hR.1 hh)))]
    rcases bestK_spec (fun i => distAt g (i : Int)) (fun i => refers (fieldsOf g (i : Int)) (j : Int)) g.objs.length with ⟨h1, _⟩ | ⟨i, hi, b1, b2, _, _⟩
    · exact h1.symm
    · exact absurd (order_closed h ((distAt_nonneg h (i : Int)).1 b1) _ ((hF i hi).1 b2)) hjo

theorem bestK_bounds {D : Nat → Int} {R : Nat → Bool} (hD : ∀ i, -1 ≤ D i ∧ D i ≤ 256) (k : Nat) : -1 ≤ bestK D R k ∧ bestK D R k ≤ 257 := by
  rcases bestK_spec D R k with ⟨h1, _⟩ | ⟨i, _, h2, _, h3, _⟩
  · omega
  · have := hD i; omega

end Go.Proofs.Ytlolcdgbidboeaa

/- What is left of a graph does not hang on numbers: plain facts. -/
namespace Go.Proofs.Ytlolcdgbidboeaa
set_option linter.unusedSimpArgs false
set_option linter.unusedVariables false

/-- A graph with the objects of a list, numbered as they stand there. -/
def renL (g : Gr) (L : List Int) : Gr := { objs := L.map (fun o => (fieldsOf g o).map (renV L)), roots := g.roots.map (renV L) }

theorem canon_renL (g : Gr) : canonG g = renL g (orderOf g) := rfl

/-- A list that has all to which roots, and the fields of its own objects, refer. -/
structure Whole (g : Gr) (L : List Int) : Prop where
  nd : L.Nodup
  rng : ∀ o ∈ L, 0 ≤ o ∧ o < (g.objs.length : Int)
  roots : ∀ x ∈ refsL g.roots, x ∈ L
  fields : ∀ o ∈ L, ∀ x ∈ refsL (fieldsOf g o), x ∈ L

theorem whole_order {g : Gr} (h : Good g) : Whole g (orderOf g) :=
  ⟨order_nodup h, fun o ho => order_ok h ho, order_roots g, fun o ho => order_closed h ho⟩

theorem Whole.le {g : Gr} {L : List Int} (h : Whole g L) : L.length ≤ g.objs.length := nodup_length h.nd h.rng

theorem refs_ren {L : List Int} (hL : L.length ≤ 256) : ∀ (l : List V), RefsOk l → (∀ x ∈ refsL l, x ∈ L) → refsL (l.map (renV L)) = (refsL l).map (placeOf L)
  | [], _, _ => rfl
  | (false, n) :: xs, h, hm => by
    have e : refsL ((false, n) :: xs) = refsL xs := by simp [refsL, valsOf, obsOf, obOf]
    have ih := refs_ren hL xs (fun v hv => h v (List.mem_cons_of_mem _ hv)) (by rw [e] at hm; exact hm)
    rw [e, ← ih]
    simp [renV, refsL, valsOf, obsOf, obOf]
  | (true, n) :: xs, h, hm => by
    have hn := h (true, n) (by simp) rfl
    have e : refsL ((true, n) :: xs) = n :: refsL xs := by simp [refsL, valsOf, obsOf, obOf, hn]
    rw [e] at hm
    have ih := refs_ren hL xs (fun v hv => h v (List.mem_cons_of_mem _ hv)) (fun x hx => hm x (List.mem_cons_of_mem _ hx))
    have hp := placeOf_bounds (hm n (by simp))
    have hp2 : 0 ≤ placeOf L n ∧ placeOf L n < 256 := ⟨hp.1, by omega⟩
    have e2 : refsL ((true, placeOf L n) :: xs.map (renV L)) = placeOf L n :: refsL (xs.map (renV L)) := by simp [refsL, valsOf, obsOf, obOf, hp2]
    rw [e, List.map_cons, List.map_cons, ← ih, ← e2]
    simp [renV]

theorem mem_map_place {L O : List Int} (hO : ∀ x ∈ O, x ∈ L) {y : Int} (hy : y ∈ L) : placeOf L y ∈ O.map (placeOf L) ↔ y ∈ O := by
  constructor
  · intro h
    obtain ⟨x, hx, e⟩ := List.mem_map.1 h
    rw [← placeOf_inj (hO x hx) hy e]; exact hx
  · intro h
    exact List.mem_map_of_mem h

theorem findA_ren {L : List Int} (d : Int) : ∀ (xs : List Int) (st : List Int × List Int), (∀ x ∈ st.1, x ∈ L) → (∀ x ∈ xs, x ∈ L) →
    findA d (st.1.map (placeOf L), st.2) (xs.map (placeOf L)) = ((findA d st xs).1.map (placeOf L), (findA d st xs).2)
  | [], st, _, _ => rfl
  | x :: xs, st, hs, hx => by
    show findA d (findS d (st.1.map (placeOf L), st.2) (placeOf L x)) (xs.map (placeOf L)) = _
    have e : findS d (st.1.map (placeOf L), st.2) (placeOf L x) = ((findS d st x).1.map (placeOf L), (findS d st x).2) := by
      unfold findS
      by_cases hm : x ∈ st.1
      · rw [if_pos hm, if_pos ((mem_map_place hs (hx x (by simp))).2 hm)]
      · rw [if_neg hm, if_neg (fun h => hm ((mem_map_place hs (hx x (by simp))).1 h))]; simp
    rw [e]
    refine findA_ren d xs (findS d st x) ?_ (fun y hy => hx y (List.mem_cons_of_mem _ hy))
    unfold findS
    split
    · exact hs
    · intro y hy
      rcases List.mem_append.1 hy with hy | hy
      · exact hs y hy
      · simp at hy; subst hy; exact hx y (by simp)

theorem fields_ren {g : Gr} {L : List Int} {o : Int} (ho : o ∈ L) : fieldsOf (renL g L) (placeOf L o) = (fieldsOf g o).map (renV L) := by
  have h := placeOf_get ho
  unfold fieldsOf renL
  simp only [List.getElem?_map, h, Option.map_some, Option.getD_some]
  rfl

theorem search_sub {g : Gr} (hG : Good g) {L : List Int} (hL : Whole g L) : ∀ k, ∀ x ∈ (searchN g k).1, x ∈ L := by
  have hsub : ∀ (d : Int) (xs : List Int) (st : List Int × List Int), (∀ x ∈ st.1, x ∈ L) → (∀ x ∈ xs, x ∈ L) → ∀ x ∈ (findA d st xs).1, x ∈ L := by
    intro d xs
    induction xs with
    | nil => intro st h _; exact h
    | cons y ys ih =>
      intro st h hy
      refine ih (findS d st y) ?_ (fun x hx => hy x (List.mem_cons_of_mem _ hx))
      unfold findS
      split
      · exact h
      · intro x hx
        rcases List.mem_append.1 hx with hx | hx
        · exact h x hx
        · simp at hx; subst hx; exact hy x (by simp)
  intro k
  induction k with
  | zero => exact hsub 0 _ ([], []) (by simp) hL.roots
  | succ k ih =>
    rw [searchN_succ]
    cases ho : (searchN g k).1[k]? with
    | none => exact ih
    | some o => exact hsub _ _ _ ih (hL.fields o (ih o (List.mem_of_getElem? ho)))

theorem search_ren {g : Gr} (hG : Good g) {L : List Int} (hL : Whole g L) : ∀ k, searchN (renL g L) k = ((searchN g k).1.map (placeOf L), (searchN g k).2)
  | 0 => by
    have h24 : L.length ≤ 256 := by have := hL.le; have := hG.n24; omega
    show findA 0 ([], []) (refsL (g.roots.map (renV L))) = _
    rw [refs_ren h24 g.roots hG.refsRoots hL.roots]
    exact findA_ren 0 (refsL g.roots) ([], []) (by simp) hL.roots
  | k + 1 => by
    have h24 : L.length ≤ 256 := by have := hL.le; have := hG.n24; omega
    rw [searchN_succ, searchN_succ, search_ren hG hL k]
    simp only [List.getElem?_map]
    cases ho : (searchN g k).1[k]? with
    | none => rfl
    | some o =>
      have hs := search_sub hG hL k
      have hoL := hs o (List.mem_of_getElem? ho)
      have hr := hL.rng o hoL
      simp only [Option.map_some]
      rw [fields_ren hoL, refs_ren h24 _ (hG.refsObjs (fieldsOf_mem hr.1 hr.2)) (hL.fields o hoL)]
      exact findA_ren _ _ (searchN g k) hs (hL.fields o hoL)

theorem sub_length {l L : List Int} (hl : l.Nodup) (hs : ∀ x ∈ l, x ∈ L) : l.length ≤ L.length := by
  have h1 : (l.map (placeOf L)).Nodup := by
    rw [List.nodup_iff_pairwise_ne, List.pairwise_map]
    rw [List.nodup_iff_pairwise_ne] at hl
    exact hl.imp_of_mem (fun {a b} ha hb hab e => hab (placeOf_inj (hs a ha) (hs b hb) e))
  have h2 := nodup_length (N := L.length) h1 (by
    intro o ho
    obtain ⟨x, hx, rfl⟩ := List.mem_map.1 ho
    exact placeOf_bounds (hs x hx))
  simpa using h2

theorem search_whole {g : Gr} (hG : Good g) {L : List Int} (hL : Whole g L) : searchN g L.length = searchN g g.objs.length := by
  have h1 : (searchN g L.length).1.length ≤ L.length := by
    have hnd := (searchN_ok hG L.length).nd
    exact sub_length hnd (search_sub hG hL L.length)
  have h2 := (searchN_ok hG g.objs.length).le
  have e1 := searchN_stable g h1 g.objs.length
  have e2 := searchN_stable g h2 L.length
  rw [← e1, ← e2, Nat.add_comm]

theorem renL_len (g : Gr) (L : List Int) : (renL g L).objs.length = L.length := by simp [renL]

theorem order_ren {g : Gr} (hG : Good g) {L : List Int} (hL : Whole g L) : orderOf (renL g L) = (orderOf g).map (placeOf L) ∧ distOf (renL g L) = distOf g := by
  unfold orderOf distOf
  rw [renL_len, search_ren hG hL, search_whole hG hL]
  exact ⟨rfl, rfl⟩

theorem placeOf_map {L O : List Int} (hO : ∀ x ∈ O, x ∈ L) {x : Int} (hx : x ∈ O) : placeOf (O.map (placeOf L)) (placeOf L x) = placeOf O x := by
  unfold placeOf
  rw [if_pos hx, if_pos (show x ∈ L from hO x hx)]
  have hm : ((L.idxOf x : Nat) : Int) ∈ O.map (fun x => if x ∈ L then ((L.idxOf x : Nat) : Int) else 0) := List.mem_map.2 ⟨x, hx, by rw [if_pos (hO x hx)]⟩
  rw [if_pos hm]
  congr 1
  have h1 := List.idxOf_lt_length_iff.2 hx
  have h2 := List.getElem_idxOf h1
  refine idxOf_first (by simpa using h1) ?_ ?_
  · rw [List.getElem_map, h2, if_pos (hO x hx)]
  · rw [← List.map_take]
    intro h
    obtain ⟨y, hy, e⟩ := List.mem_map.1 h
    have hyO := List.mem_of_mem_take hy
    rw [if_pos (hO y hyO)] at e
    have e2 : y = x := placeOf_inj (order := L) (hO y hyO) (hO x hx) (by unfold placeOf; rw [if_pos (hO y hyO), if_pos (hO x hx)]; exact e)
    subst e2
    rw [List.mem_take_iff_getElem] at hy
    obtain ⟨j, hj, hj2⟩ := hy
    have h4 := List.not_of_lt_findIdx (p := (· == y)) (xs := O) (i := j) (show j < O.idxOf y by omega)
    simp [hj2] at h4

theorem renV_ren {L O : List Int} (hO : ∀ x ∈ O, x ∈ L) {v : V} (hv : v.1 = true → v.2 ∈ O) : renV (O.map (placeOf L)) (renV L v) = renV O v := by
  obtain ⟨r, n⟩ := v
  cases r
  · simp [renV]
  · have h := hv rfl
    simp only [renV, if_true]
    rw [placeOf_map hO h]

theorem map_renV_ren {L O : List Int} (hO : ∀ x ∈ O, x ∈ L) {l : List V} (hl : RefsOk l) (hm : ∀ x ∈ refsL l, x ∈ O) : (l.map (renV L)).map (renV (O.map (placeOf L))) = l.map (renV O) := by
  rw [List.map_map]
  refine List.map_congr_left fun v hv => ?_
  refine renV_ren hO fun h1 => hm _ ((mem_refsL hl _).2 ?_)
  obtain ⟨r, n⟩ := v
  simp only at h1
  subst h1
  exact hv

theorem canon_ren {g : Gr} (hG : Good g) {L : List Int} (hL : Whole g L) : canonG (renL g L) = canonG g := by
  have hO : ∀ x ∈ orderOf g, x ∈ L := search_sub hG hL _
  have e := (order_ren hG hL).1
  unfold canonG
  rw [e]
  simp only [Gr.mk.injEq]
  constructor
  · rw [List.map_map]
    refine List.map_congr_left fun o ho => ?_
    have hr := order_ok hG ho
    simp only [Function.comp]
    rw [fields_ren (hO o ho), map_renV_ren hO (hG.refsObjs (fieldsOf_mem hr.1 hr.2)) (order_closed hG ho)]
  · exact map_renV_ren hO hG.refsRoots (order_roots g)

theorem mem_refs_of {l : List V} {v : V} (hl : RefsOk l) (hv : v ∈ l) (h1 : v.1 = true) : v.2 ∈ refsL l := by
  refine (mem_refsL hl _).2 ?_
  obtain ⟨r, n⟩ := v
  simp only at h1
  subst h1
  exact hv

theorem check_ren {g : Gr} (hc : checkG g = 0) {L : List Int} (hL : Whole g L) : checkG (renL g L) = 0 := by
  have hG := good_of_check hc
  have hle := hL.le
  have h24 := hG.n24
  have h8 := hG.n8
  have hnum : ∀ v ∈ allV g, v.1 = false → -4611686018427387904 ≤ v.2 ∧ v.2 ≤ 4611686018427387903 := by
    intro v hv h1
    unfold checkG at hc
    by_cases hL : isLargeG g = true
    · rw [if_pos hL] at hc; simp at hc
    rw [if_neg hL] at hc
    by_cases h2 : (allV g).any (fun v => badV v g.objs.length == 2) = true
    · rw [if_pos h2] at hc; simp at hc
    rw [if_neg h2] at hc
    by_cases h3 : (allV g).any (fun v => badV v g.objs.length == 3) = true
    · rw [if_pos h3] at hc; simp at hc
    have h3 : (allV g).any (fun v => badV v g.objs.length == 3) = false := by simpa using h3
    rw [List.any_eq_false] at h3
    have := h3 v hv
    unfold badV at this
    rw [if_neg (by simp [h1])] at this
    by_cases hb : v.2 < -4611686018427387904 ∨ 4611686018427387903 < v.2
    · rw [if_pos hb] at this; simp at this
    · omega
  have hall : ∀ v ∈ allV (renL g L), badV v L.length = 0 := by
    have hone : ∀ (l : List V), RefsOk l → (∀ x ∈ refsL l, x ∈ L) → (∀ v ∈ l, v.1 = false → -4611686018427387904 ≤ v.2 ∧ v.2 ≤ 4611686018427387903) → ∀ v ∈ l.map (renV L), badV v L.length = 0 := by
      intro l hl hm hn v hv
      obtain ⟨u, hu, rfl⟩ := List.mem_map.1 hv
      obtain ⟨r, n⟩ := u
      cases r
      · have := hn _ hu rfl
        simp only [renV, badV, Bool.false_eq_true, if_false]
        rw [if_neg (by simp only at this; omega)]
      · have hp := placeOf_bounds (hm _ (mem_refs_of hl hu rfl))
        simp only [renV, badV, if_true]
        rw [if_neg (by simp only at hp; omega)]
    intro v hv
    unfold allV renL at hv
    rcases List.mem_append.1 hv with hv | hv
    · exact hone _ hG.refsRoots hL.roots (fun u hu => hnum u (by unfold allV; exact List.mem_append_left _ hu)) v hv
    · obtain ⟨l, hl, hv⟩ := List.mem_flatten.1 hv
      obtain ⟨o, ho, rfl⟩ := List.mem_map.1 hl
      have hr := hL.rng o ho
      have hf := fieldsOf_mem hr.1 hr.2
      exact hone _ (hG.refsObjs hf) (hL.fields o ho) (fun u hu => hnum u (by unfold allV; exact List.mem_append_right _ (List.mem_flatten.2 ⟨_, hf, hu⟩))) v hv
  have h24 : g.objs.length ≤ 24 := by
    cases hLg : isLargeG g with
    | true => unfold checkG at hc; rw [hLg] at hc; simp at hc
    | false => simp only [isLargeG, Bool.or_eq_false_iff, decide_eq_false_iff_not] at hLg; omega
  have hLle := hL.le
  unfold checkG
  rw [if_neg, if_neg, if_neg]
  · simp only [Bool.not_eq_true, List.any_eq_false]
    intro v hv; rw [renL_len, hall v hv]; decide
  · simp only [Bool.not_eq_true, List.any_eq_false]
    intro v hv; rw [renL_len, hall v hv]; decide
  · simp only [isLargeG, renL_len, Bool.not_eq_true, Bool.or_eq_false_iff, decide_eq_false_iff_not, List.any_eq_false]
    refine ⟨⟨by omega, by simp only [renL, List.length_map]; omega⟩, fun l hl => ?_⟩
    simp only [renL] at hl
    obtain ⟨o, ho, rfl⟩ := List.mem_map.1 hl
    have hr := hL.rng o ho
    have := hG.n4 _ (fieldsOf_mem hr.1 hr.2)
    simp only [List.length_map, decide_eq_true_eq]; omega

end Go.Proofs.Ytlolcdgbidboeaa

/- Plain: a memory without end; two that are one but for numbers. -/
namespace Go.Proofs.Ytlolcdgbidboeaa
set_option linter.unusedSimpArgs false
set_option linter.unusedVariables false
open Go.RowKit

/-- What is done; what is told of it; registers and objects. -/
structure Dd where
  kind : Int
  dst : Int
  src : Int
  fat : Int
  num : Int
structure Ou where
  code : Int
  ref : Bool
  num : Int
structure Mm where
  regs : List V
  objs : List (List V)

def grM (m : Mm) : Gr := ⟨m.objs, m.regs⟩
def regM (m : Mm) (r : Int) : V := m.regs.getD r.toNat (false, 0)
def fldM (m : Mm) (o : Int) : List V := m.objs.getD o.toNat []
def setR (m : Mm) (r : Int) (v : V) : Mm := { m with regs := m.regs.set r.toNat v }

/-- Whose field it is, of what has to do with one. -/
def whoM (d : Dd) : Int := if d.kind = 5 then d.src else d.dst

/-- What is wrong. -/
def wrongM (m : Mm) (d : Dd) : Int :=
  if d.kind < 1 ∨ 7 < d.kind then 5
  else if (d.kind ≠ 7 ∧ (d.dst < 0 ∨ 8 ≤ d.dst)) ∨ (d.kind ≠ 1 ∧ d.kind ≠ 2 ∧ (d.src < 0 ∨ 8 ≤ d.src)) then 2
  else if (d.kind = 1 ∧ (d.num < 0 ∨ 4 < d.num)) ∨ (d.kind = 2 ∧ (d.num < -4611686018427387904 ∨ 4611686018427387903 < d.num)) then 3
  else if d.kind ≠ 4 ∧ d.kind ≠ 5 then 0
  else if (regM m (whoM d)).1 = false then 5
  else if d.fat < 0 ∨ ((fldM m (regM m (whoM d)).2).length : Int) ≤ d.fat then 3
  else 0

/-- What is done, where nothing is wrong. -/
def doM (m : Mm) (d : Dd) : Ou × Mm :=
  if d.kind = 1 then (⟨0, false, 0⟩, { regs := m.regs.set d.dst.toNat (true, (m.objs.length : Int)), objs := m.objs ++ [List.replicate d.num.toNat (false, 0)] })
  else if d.kind = 2 then (⟨0, false, 0⟩, setR m d.dst (false, d.num))
  else if d.kind = 3 then (⟨0, false, 0⟩, setR m d.dst (regM m d.src))
  else if d.kind = 4 then (⟨0, false, 0⟩, { m with objs := m.objs.set (regM m d.dst).2.toNat ((fldM m (regM m d.dst).2).set d.fat.toNat (regM m d.src)) })
  else if d.kind = 5 then (⟨0, false, 0⟩, setR m d.dst ((fldM m (regM m d.src).2).getD d.fat.toNat (false, 0)))
  else if d.kind = 6 then (⟨0, false, if regM m d.dst = regM m d.src then 1 else 0⟩, m)
  else (if (regM m d.src).1 then ⟨0, true, ((fldM m (regM m d.src).2).length : Int)⟩ else ⟨0, false, (regM m d.src).2⟩, m)

def stepM (m : Mm) (d : Dd) : Ou × Mm := if wrongM m d = 0 then doM m d else (⟨wrongM m d, false, 0⟩, m)

def playM (m : Mm) : List Dd → List Ou × Mm
  | [] => ([], m)
  | d :: ds => ((stepM m d).1 :: (playM (stepM m d).2 ds).1, (playM (stepM m d).2 ds).2)

theorem playM_append (m : Mm) : ∀ (a b : List Dd), playM m (a ++ b) = ((playM m a).1 ++ (playM (playM m a).2 b).1, (playM (playM m a).2 b).2)
  | [], b => rfl
  | d :: a, b => by
    simp only [List.cons_append, playM, playM_append _ a b]

theorem playM_len (m : Mm) : ∀ ds, (playM m ds).1.length = ds.length
  | [] => rfl
  | d :: ds => by simp [playM, playM_len _ ds]

/-- A reference is one to what is known. -/
def KnV (L : List Int) (v : V) : Prop := v.1 = true → v.2 ∈ L

/-- One memory has the objects of L of the other one, and no more, numbered as they stand in L. -/
structure Iso (m m' : Mm) (L : List Int) : Prop where
  nd : L.Nodup
  rng : ∀ o ∈ L, 0 ≤ o ∧ o < m.objs.length
  regs : ∀ v ∈ m.regs, KnV L v
  flds : ∀ o ∈ L, ∀ v ∈ fldM m o, KnV L v
  len : m.regs.length = 8
  e1 : m'.regs = m.regs.map (renV L)
  e2 : m'.objs = L.map fun o => (fldM m o).map (renV L)

section
variable {m m' : Mm} {L : List Int}

theorem renV_num (L : List Int) (n : Int) : renV L (false, n) = (false, n) := by simp [renV]

theorem Iso.reg (h : Iso m m' L) (r : Int) : regM m' r = renV L (regM m r) := by
  unfold regM
  rw [h.e1, List.getD_eq_getElem?_getD, List.getD_eq_getElem?_getD, List.getElem?_map]
  cases m.regs[r.toNat]? with
  | none => simp [renV]
  | some v => rfl

theorem Iso.kn (h : Iso m m' L) (r : Int) : KnV L (regM m r) := by
  unfold regM
  rw [List.getD_eq_getElem?_getD]
  cases hv : m.regs[r.toNat]? with
  | none => intro e; simp at e
  | some v => exact h.regs v (List.mem_of_getElem? hv)

theorem Iso.fld (h : Iso m m' L) {o : Int} (ho : o ∈ L) : fldM m' (placeOf L o) = (fldM m o).map (renV L) := by
  have hg := placeOf_get ho
  show m'.objs.getD (placeOf L o).toNat [] = _
  rw [h.e2, List.getD_eq_getElem?_getD, List.getElem?_map, hg]
  rfl

theorem Iso.ref (h : Iso m m' L) {v : V} (hv : KnV L v) (h1 : v.1 = true) : fldM m' (renV L v).2 = (fldM m v.2).map (renV L) := by
  have e : (renV L v).2 = placeOf L v.2 := by unfold renV; rw [if_pos h1]
  rw [e]
  exact h.fld (hv h1)

theorem renV_fst (L : List Int) (v : V) : (renV L v).1 = v.1 := by
  unfold renV
  split
  · rename_i h; exact h.symm
  · rfl

theorem renV_inj {v u : V} (hv : KnV L v) (hu : KnV L u) : renV L v = renV L u ↔ v = u := by
  constructor
  · intro e
    obtain ⟨a, x⟩ := v
    obtain ⟨b, y⟩ := u
    cases a <;> cases b
    · simpa [renV] using e
    · simp [renV] at e
    · simp [renV] at e
    · simp [renV] at e
      have e3 : x = y := placeOf_inj (hv rfl) (hu rfl) e
      rw [e3]
  · rintro rfl; rfl

theorem Iso.wrong (h : Iso m m' L) (d : Dd) : wrongM m' d = wrongM m d := by
  unfold wrongM
  have h1 : (regM m' (whoM d)).1 = (regM m (whoM d)).1 := by rw [h.reg, renV_fst]
  rw [h1]
  by_cases hr : (regM m (whoM d)).1 = true
  · have h2 : (fldM m' (regM m' (whoM d)).2).length = (fldM m (regM m (whoM d)).2).length := by
      rw [h.reg, h.ref (h.kn _) hr, List.length_map]
    rw [h2]
  · have : (regM m (whoM d)).1 = false := by simpa using hr
    rw [this]
    simp

theorem KnV.snoc {v : V} (h : KnV L v) (a : Int) : KnV (L ++ [a]) v := fun e => List.mem_append_left _ (h e)

theorem renV_snoc {v : V} (h : KnV L v) (a : Int) : renV (L ++ [a]) v = renV L v := by
  unfold renV
  by_cases hv : v.1 = true
  · rw [if_pos hv, if_pos hv]
    have hm := h hv
    have e : placeOf (L ++ [a]) v.2 = placeOf L v.2 := by
      unfold placeOf
      rw [if_pos hm, if_pos (List.mem_append_left _ hm), List.idxOf_append, if_pos hm]
    rw [e]
  · rw [if_neg hv, if_neg hv]

/-- A register is set. -/
theorem Iso.setR (h : Iso m m' L) (r : Int) {v : V} (hv : KnV L v) : Iso (setR m r v) (setR m' r (renV L v)) L := by
  refine ⟨h.nd, h.rng, fun u hu => ?_, h.flds, by simp [Ytlolcdgbidboeaa.setR, h.len], ?_, h.e2⟩
  · rcases List.mem_or_eq_of_mem_set hu with hu | rfl
    · exact h.regs u hu
    · exact hv
  · simp only [Ytlolcdgbidboeaa.setR, h.e1, List.map_set]

/-- A step tells the same, and leaves them so. -/
theorem Iso.step (h : Iso m m' L) (d : Dd) : (stepM m' d).1 = (stepM m d).1 ∧ ∃ L', Iso (stepM m d).2 (stepM m' d).2 L' := by
  unfold stepM
  rw [h.wrong]
  by_cases hw : wrongM m d = 0
  · rw [if_pos hw, if_pos hw]
    unfold doM
    by_cases k1 : d.kind = 1
    · rw [if_pos k1, if_pos k1]
      have hal : (m.objs.length : Int) ∉ L := fun hm => by have := h.rng _ hm; omega
      refine ⟨rfl, L ++ [(m.objs.length : Int)], ?_, ?_, ?_, ?_, ?_, ?_, ?_⟩
      · rw [List.nodup_append]
        refine ⟨h.nd, by simp, fun a ha b hb => ?_⟩
        simp only [List.mem_singleton] at hb
        subst hb
        rintro rfl
        exact hal ha
      · intro o ho
        simp only [List.length_append, List.length_cons, List.length_nil]
        rcases List.mem_append.1 ho with ho | ho
        · have := h.rng o ho; omega
        · simp only [List.mem_singleton] at ho; subst ho; omega
      · intro v hv
        rcases List.mem_or_eq_of_mem_set hv with hv | rfl
        · exact (h.regs v hv).snoc _
        · intro _; simp
      · intro o ho v hv
        rcases List.mem_append.1 ho with ho | ho
        · have hr := h.rng o ho
          have e : fldM { regs := m.regs.set d.dst.toNat (true, (m.objs.length : Int)), objs := m.objs ++ [List.replicate d.num.toNat (false, 0)] } o = fldM m o := by
            show (m.objs ++ _).getD o.toNat [] = m.objs.getD o.toNat []
            rw [List.getD_eq_getElem?_getD, List.getD_eq_getElem?_getD, List.getElem?_append_left (by omega)]
          rw [e] at hv
          exact (h.flds o ho v hv).snoc _
        · simp only [List.mem_singleton] at ho
          subst ho
          have e : fldM { regs := m.regs.set d.dst.toNat (true, (m.objs.length : Int)), objs := m.objs ++ [List.replicate d.num.toNat (false, 0)] } (m.objs.length : Int) = List.replicate d.num.toNat (false, 0) := by
            show (m.objs ++ _).getD (m.objs.length : Int).toNat [] = _
            rw [List.getD_eq_getElem?_getD, Int.toNat_natCast, List.getElem?_append_right (Nat.le_refl _)]
            simp
          rw [e] at hv
          have := List.eq_of_mem_replicate hv
          subst this
          intro h1; simp at h1
      · simp [h.len]
      · have hl : m'.objs.length = L.length := by rw [h.e2, List.length_map]
        show m'.regs.set d.dst.toNat (true, (m'.objs.length : Int)) = (m.regs.set d.dst.toNat (true, (m.objs.length : Int))).map (renV (L ++ [(m.objs.length : Int)]))
        rw [List.map_set, h.e1, hl]
        have e1 : renV (L ++ [(m.objs.length : Int)]) (true, (m.objs.length : Int)) = (true, (L.length : Int)) := by
          have hm : (m.objs.length : Int) ∈ L ++ [(m.objs.length : Int)] := by simp
          simp only [renV, if_true, placeOf, if_pos hm]
          rw [List.idxOf_append, if_neg hal]
          simp
        rw [e1]
        congr 1
        apply List.map_congr_left
        intro v hv
        exact (renV_snoc (h.regs v hv) _).symm
      · show m'.objs ++ [List.replicate d.num.toNat (false, 0)] = (L ++ [(m.objs.length : Int)]).map _
        rw [h.e2, List.map_append, List.map_cons, List.map_nil]
        congr 1
        · apply List.map_congr_left
          intro o ho
          have hr := h.rng o ho
          have e : fldM { regs := m.regs.set d.dst.toNat (true, (m.objs.length : Int)), objs := m.objs ++ [List.replicate d.num.toNat (false, 0)] } o = fldM m o := by
            show (m.objs ++ _).getD o.toNat [] = m.objs.getD o.toNat []
            rw [List.getD_eq_getElem?_getD, List.getD_eq_getElem?_getD, List.getElem?_append_left (by omega)]
          rw [e]
          apply List.map_congr_left
          intro v hv
          exact (renV_snoc (h.flds o ho v hv) _).symm
        · congr 1
          have e : fldM { regs := m.regs.set d.dst.toNat (true, (m.objs.length : Int)), objs := m.objs ++ [List.replicate d.num.toNat (false, 0)] } (m.objs.length : Int) = List.replicate d.num.toNat (false, 0) := by
            show (m.objs ++ _).getD (m.objs.length : Int).toNat [] = _
            rw [List.getD_eq_getElem?_getD, Int.toNat_natCast, List.getElem?_append_right (Nat.le_refl _)]
            simp
          rw [e, List.map_replicate, renV_num]
    · rw [if_neg k1, if_neg k1]
      by_cases k2 : d.kind = 2
      · rw [if_pos k2, if_pos k2]
        refine ⟨rfl, L, ?_⟩
        have := h.setR d.dst (v := (false, d.num)) (fun e => by simp at e)
        rw [renV_num] at this
        exact this
      · rw [if_neg k2, if_neg k2]
        by_cases k3 : d.kind = 3
        · rw [if_pos k3, if_pos k3]
          refine ⟨rfl, L, ?_⟩
          have := h.setR d.dst (h.kn d.src)
          rw [← h.reg] at this
          exact this
        · rw [if_neg k3, if_neg k3]
          by_cases k4 : d.kind = 4
          · rw [if_pos k4, if_pos k4]
            refine ⟨rfl, L, ?_⟩
            have hwho : whoM d = d.dst := by unfold whoM; rw [if_neg (by omega)]
            have hr : (regM m d.dst).1 = true := by
              unfold wrongM at hw
              rw [hwho] at hw
              by_cases e : (regM m d.dst).1 = true
              · exact e
              · have : (regM m d.dst).1 = false := by simpa using e
                rw [this] at hw
                simp [k4] at hw
                omega
            have hm := h.kn d.dst hr
            have hrg := h.rng _ hm
            have hfl := h.ref (h.kn d.dst) hr
            have hpl : (regM m' d.dst).2 = placeOf L (regM m d.dst).2 := by rw [h.reg]; unfold renV; rw [if_pos hr]
            have hpb := placeOf_bounds hm
            refine ⟨h.nd, fun o ho => by simpa using h.rng o ho, h.regs, fun o ho v hv => ?_, h.len, h.e1, ?_⟩
            · by_cases e : o = (regM m d.dst).2
              · subst e
                have e2 : fldM { m with objs := m.objs.set (regM m d.dst).2.toNat ((fldM m (regM m d.dst).2).set d.fat.toNat (regM m d.src)) } (regM m d.dst).2 = (fldM m (regM m d.dst).2).set d.fat.toNat (regM m d.src) := by
                  show (m.objs.set _ _).getD _ [] = _
                  rw [List.getD_eq_getElem?_getD, List.getElem?_set_self (by omega)]
                  rfl
                rw [e2] at hv
                rcases List.mem_or_eq_of_mem_set hv with hv | rfl
                · exact h.flds _ ho v hv
                · exact h.kn d.src
              · have hro := h.rng o ho
                have e2 : fldM { m with objs := m.objs.set (regM m d.dst).2.toNat ((fldM m (regM m d.dst).2).set d.fat.toNat (regM m d.src)) } o = fldM m o := by
                  show (m.objs.set _ _).getD _ [] = m.objs.getD _ []
                  rw [List.getD_eq_getElem?_getD, List.getD_eq_getElem?_getD, List.getElem?_set_ne (by omega)]
                rw [e2] at hv
                exact h.flds o ho v hv
            · show m'.objs.set (regM m' d.dst).2.toNat ((fldM m' (regM m' d.dst).2).set d.fat.toNat (regM m' d.src)) = _
              have hfl' : fldM m' (regM m' d.dst).2 = (fldM m (regM m d.dst).2).map (renV L) := by rw [h.reg]; exact hfl
              rw [hfl', hpl, h.reg d.src, ← List.map_set, h.e2]
              apply List.ext_getElem?
              intro i
              rw [List.getElem?_set, List.getElem?_map, List.getElem?_map, List.length_map]
              by_cases hi : (placeOf L (regM m d.dst).2).toNat = i
              · subst hi
                rw [if_pos rfl, if_pos (by omega), placeOf_get hm]
                simp only [Option.map_some]
                congr 2
                show _ = (m.objs.set _ _).getD _ []
                rw [List.getD_eq_getElem?_getD, List.getElem?_set_self (by omega)]
                rfl
              · rw [if_neg hi]
                cases ho : L[i]? with
                | none => rfl
                | some o =>
                  simp only [Option.map_some]
                  congr 2
                  have hom := List.mem_of_getElem? ho
                  have hro := h.rng o hom
                  have hne : o ≠ (regM m d.dst).2 := fun e => by
                    subst e
                    have h1 := placeOf_get hm
                    have h2 := (List.getElem?_inj (List.getElem?_eq_some_iff.1 ho).1 h.nd).1 (ho.trans h1.symm)
                    exact hi h2.symm
                  show m.objs.getD _ [] = (m.objs.set _ _).getD _ []
                  rw [List.getD_eq_getElem?_getD, List.getD_eq_getElem?_getD, List.getElem?_set_ne (by omega)]
          · rw [if_neg k4, if_neg k4]
            by_cases k5 : d.kind = 5
            · rw [if_pos k5, if_pos k5]
              refine ⟨rfl, L, ?_⟩
              have hwho : whoM d = d.src := by unfold whoM; rw [if_pos k5]
              have hr : (regM m d.src).1 = true := by
                unfold wrongM at hw
                rw [hwho] at hw
                by_cases e : (regM m d.src).1 = true
                · exact e
                · have : (regM m d.src).1 = false := by simpa using e
                  rw [this] at hw
                  simp [k5] at hw
                  omega
              have hm := h.kn d.src hr
              have hfl := h.ref (h.kn d.src) hr
              have e : (fldM m' (regM m' d.src).2).getD d.fat.toNat (false, 0) = renV L ((fldM m (regM m d.src).2).getD d.fat.toNat (false, 0)) := by
                rw [h.reg, hfl, List.getD_eq_getElem?_getD, List.getD_eq_getElem?_getD, List.getElem?_map]
                cases (fldM m (regM m d.src).2)[d.fat.toNat]? with
                | none => simp [renV]
                | some v => rfl
              rw [e]
              refine h.setR d.dst ?_
              rw [List.getD_eq_getElem?_getD]
              cases hv : (fldM m (regM m d.src).2)[d.fat.toNat]? with
              | none => intro e; simp at e
              | some v => exact h.flds _ hm v (List.mem_of_getElem? hv)
            · rw [if_neg k5, if_neg k5]
              by_cases k6 : d.kind = 6
              · rw [if_pos k6, if_pos k6]
                refine ⟨?_, L, h⟩
                have e : (regM m' d.dst = regM m' d.src) ↔ (regM m d.dst = regM m d.src) := by rw [h.reg, h.reg]; exact renV_inj (h.kn _) (h.kn _)
                by_cases he : regM m d.dst = regM m d.src
                · simp only [if_pos he, if_pos (e.2 he)]
                · simp only [if_neg he, if_neg (fun hh => he (e.1 hh))]
              · rw [if_neg k6, if_neg k6]
                refine ⟨?_, L, h⟩
                have e1 : (regM m' d.src).1 = (regM m d.src).1 := by rw [h.reg, renV_fst]
                by_cases hr : (regM m d.src).1 = true
                · simp only [e1, hr, if_true]
                  rw [h.reg, h.ref (h.kn _) hr, List.length_map]
                · have hf : (regM m d.src).1 = false := by simpa using hr
                  have e2 : (regM m' d.src).2 = (regM m d.src).2 := by rw [h.reg]; unfold renV; rw [if_neg hr]
                  simp only [e1, hf, e2]
                  rfl
  · rw [if_neg hw, if_neg hw]
    exact ⟨rfl, L, h⟩

/-- A script tells the same of both, and leaves them so. -/
theorem Iso.play : ∀ (ds : List Dd) {m m' : Mm} {L : List Int}, Iso m m' L → (playM m' ds).1 = (playM m ds).1 ∧ ∃ L', Iso (playM m ds).2 (playM m' ds).2 L'
  | [], m, m', L, h => ⟨rfl, L, h⟩
  | d :: ds, m, m', L, h => by
    obtain ⟨h1, L1, h2⟩ := h.step d
    obtain ⟨h3, L2, h4⟩ := Iso.play ds h2
    exact ⟨by simp only [playM]; rw [h1, h3], L2, h4⟩

end

end Go.Proofs.Ytlolcdgbidboeaa

/- Plain: a memory without end: graphs that may be, Canon. -/
namespace Go.Proofs.Ytlolcdgbidboeaa
set_option linter.unusedSimpArgs false
set_option linter.unusedVariables false
open Go.RowKit

/-- Registers and objects as they may be. -/
structure MOk (m : Mm) : Prop where
  n8 : m.regs.length = 8
  n4 : ∀ l ∈ m.objs, l.length ≤ 4
  rr : ∀ v ∈ m.regs, v.1 = true → 0 ≤ v.2 ∧ v.2 < m.objs.length
  ro : ∀ l ∈ m.objs, ∀ v ∈ l, v.1 = true → 0 ≤ v.2 ∧ v.2 < m.objs.length

theorem MOk.good {m : Mm} (h : MOk m) (hn : m.objs.length ≤ 256) : Good (grM m) := ⟨hn, by have := h.n8; show m.regs.length ≤ 8; omega, h.n4, h.rr, h.ro⟩

theorem regM_mem {m : Mm} (h : MOk m) (r : Int) : (regM m r).1 = true → 0 ≤ (regM m r).2 ∧ (regM m r).2 < m.objs.length := by
  unfold regM
  rw [List.getD_eq_getElem?_getD]
  cases hv : m.regs[r.toNat]? with
  | none => intro e; simp at e
  | some v => exact h.rr v (List.mem_of_getElem? hv)

theorem MOk.setR {m : Mm} (h : MOk m) (r : Int) {v : V} (hv : v.1 = true → 0 ≤ v.2 ∧ v.2 < m.objs.length) : MOk (setR m r v) := by
  refine ⟨by simp [Ytlolcdgbidboeaa.setR, h.n8], h.n4, fun u hu => ?_, h.ro⟩
  rcases List.mem_or_eq_of_mem_set hu with hu | rfl
  · exact h.rr u hu
  · exact hv

theorem fldM_mem {m : Mm} {o : Int} (h0 : 0 ≤ o) (h1 : o < m.objs.length) : fldM m o ∈ m.objs := by
  unfold fldM
  have hlt : o.toNat < m.objs.length := by omega
  rw [List.getD_eq_getElem?_getD, List.getElem?_eq_getElem hlt]
  exact List.getElem_mem hlt

/-- What has a field is a reference. -/
theorem wrong_ref {m : Mm} {d : Dd} (hw : wrongM m d = 0) (hk : d.kind = 4 ∨ d.kind = 5) : (regM m (whoM d)).1 = true ∧ 0 ≤ d.fat ∧ d.fat < (fldM m (regM m (whoM d)).2).length := by
  unfold wrongM at hw
  split at hw
  · omega
  · split at hw
    · omega
    · split at hw
      · omega
      · split at hw
        · omega
        · split at hw
          · omega
          · split at hw
            · omega
            · rename_i h1 h2
              exact ⟨by simpa using h1, by omega, by omega⟩

theorem MOk.step {m : Mm} (h : MOk m) (d : Dd) : MOk (stepM m d).2 ∧ (stepM m d).2.objs.length ≤ m.objs.length + 1 := by
  unfold stepM
  by_cases hw : wrongM m d = 0
  · rw [if_pos hw]
    unfold doM
    by_cases k1 : d.kind = 1
    · rw [if_pos k1]
      have hn : 0 ≤ d.num ∧ d.num ≤ 4 := by
        unfold wrongM at hw
        split at hw
        · omega
        · split at hw
          · omega
          · split at hw
            · omega
            · omega
      refine ⟨⟨by simp [h.n8], fun l hl => ?_, fun v hv h1 => ?_, fun l hl v hv h1 => ?_⟩, by simp⟩
      · rcases List.mem_append.1 hl with hl | hl
        · exact h.n4 l hl
        · simp only [List.mem_singleton] at hl; subst hl; simp; omega
      · simp only [List.length_append, List.length_cons, List.length_nil]
        rcases List.mem_or_eq_of_mem_set hv with hv | rfl
        · have := h.rr v hv h1; omega
        · simp only; omega
      · simp only [List.length_append, List.length_cons, List.length_nil]
        rcases List.mem_append.1 hl with hl | hl
        · have := h.ro l hl v hv h1; omega
        · simp only [List.mem_singleton] at hl
          subst hl
          have := List.eq_of_mem_replicate hv
          subst this
          simp at h1
    · rw [if_neg k1]
      by_cases k2 : d.kind = 2
      · rw [if_pos k2]
        exact ⟨h.setR _ (fun e => by simp at e), by simp [Ytlolcdgbidboeaa.setR]⟩
      · rw [if_neg k2]
        by_cases k3 : d.kind = 3
        · rw [if_pos k3]
          exact ⟨h.setR _ (regM_mem h _), by simp [Ytlolcdgbidboeaa.setR]⟩
        · rw [if_neg k3]
          by_cases k4 : d.kind = 4
          · rw [if_pos k4]
            obtain ⟨hr, _, _⟩ := wrong_ref hw (.inl k4)
            have hwho : whoM d = d.dst := by unfold whoM; rw [if_neg (by omega)]
            rw [hwho] at hr
            have hb := regM_mem h _ hr
            have hf := fldM_mem hb.1 hb.2
            refine ⟨⟨h.n8, fun l hl => ?_, fun v hv h1 => by simpa using h.rr v hv h1, fun l hl v hv h1 => ?_⟩, by simp⟩
            · rcases List.mem_or_eq_of_mem_set hl with hl | rfl
              · exact h.n4 l hl
              · rw [List.length_set]; exact h.n4 _ hf
            · simp only [List.length_set]
              rcases List.mem_or_eq_of_mem_set hl with hl | rfl
              · exact h.ro l hl v hv h1
              · rcases List.mem_or_eq_of_mem_set hv with hv | rfl
                · exact h.ro _ hf v hv h1
                · exact regM_mem h _ h1
          · rw [if_neg k4]
            by_cases k5 : d.kind = 5
            · rw [if_pos k5]
              obtain ⟨hr, _, _⟩ := wrong_ref hw (.inr k5)
              have hwho : whoM d = d.src := by unfold whoM; rw [if_pos k5]
              rw [hwho] at hr
              have hb := regM_mem h _ hr
              have hf := fldM_mem hb.1 hb.2
              refine ⟨h.setR _ ?_, by simp [Ytlolcdgbidboeaa.setR]⟩
              rw [List.getD_eq_getElem?_getD]
              cases hv : (fldM m (regM m d.src).2)[d.fat.toNat]? with
              | none => intro e; simp at e
              | some v => exact h.ro _ hf v (List.mem_of_getElem? hv)
            · rw [if_neg k5]
              by_cases k6 : d.kind = 6
              · rw [if_pos k6]; exact ⟨h, Nat.le_succ _⟩
              · rw [if_neg k6]; exact ⟨h, Nat.le_succ _⟩
  · rw [if_neg hw]
    exact ⟨h, Nat.le_succ _⟩

theorem MOk.play : ∀ (ds : List Dd) {m : Mm}, MOk m → MOk (playM m ds).2 ∧ (playM m ds).2.objs.length ≤ m.objs.length + ds.length
  | [], m, h => ⟨h, Nat.le_refl _⟩
  | d :: ds, m, h => by
    obtain ⟨h1, h2⟩ := h.step d
    obtain ⟨h3, h4⟩ := MOk.play ds h1
    exact ⟨h3, by simp only [playM, List.length_cons]; omega⟩

/-- Registers of a graph. -/
def newM (g : Gr) : Mm := { regs := g.roots ++ List.replicate (8 - g.roots.length) (false, 0), objs := g.objs }

theorem newM_ok {g : Gr} (h : Good g) : MOk (newM g) := by
  have h8 := h.n8
  refine ⟨by simp [newM]; omega, h.n4, fun v hv h1 => ?_, h.ro⟩
  rcases List.mem_append.1 hv with hv | hv
  · exact h.rr v hv h1
  · have := List.eq_of_mem_replicate hv
    subst this
    simp at h1

theorem newM_eq {g : Gr} (h : g.roots.length = 8) : newM g = ⟨g.roots, g.objs⟩ := by simp [newM, h]

theorem fldM_eq (m : Mm) (o : Int) : fieldsOf (grM m) o = fldM m o := by unfold fieldsOf fldM grM; rw [List.getD_eq_getElem?_getD]

section
variable {m m' : Mm} {L : List Int}

theorem Iso.whole (h : Iso m m' L) (hG : Good (grM m)) : Whole (grM m) L := by
  refine ⟨h.nd, h.rng, fun x hx => ?_, fun o ho x hx => ?_⟩
  · exact h.regs _ ((mem_refsL hG.refsRoots x).1 hx) rfl
  · have hr := h.rng o ho
    rw [fldM_eq] at hx
    have hm : fldM m o ∈ (grM m).objs := fldM_mem hr.1 hr.2
    exact h.flds o ho _ ((mem_refsL (hG.refsObjs hm) x).1 hx) rfl

theorem Iso.gr (h : Iso m m' L) : grM m' = renL (grM m) L := by
  show Gr.mk m'.objs m'.regs = _
  unfold renL
  rw [h.e1, h.e2]
  congr 1

theorem Iso.canon (h : Iso m m' L) (hG : Good (grM m)) : canonG (grM m') = canonG (grM m) := by
  rw [h.gr]
  exact canon_ren hG (h.whole hG)

/-- By a list that is whole. -/
theorem iso_of_whole (hm : MOk m) (hG : Good (grM m)) (hL : Whole (grM m) L) : Iso m ⟨(renL (grM m) L).roots, (renL (grM m) L).objs⟩ L := by
  refine ⟨hL.nd, hL.rng, fun v hv h1 => ?_, fun o ho v hv h1 => ?_, hm.n8, rfl, ?_⟩
  · refine hL.roots _ ((mem_refsL hG.refsRoots _).2 ?_)
    obtain ⟨a, x⟩ := v
    simp only at h1
    subst h1
    exact hv
  · have hr := hL.rng o ho
    have hmem : fldM m o ∈ (grM m).objs := fldM_mem hr.1 hr.2
    refine hL.fields o ho _ ?_
    rw [fldM_eq]
    refine (mem_refsL (hG.refsObjs hmem) _).2 ?_
    obtain ⟨a, x⟩ := v
    simp only at h1
    subst h1
    exact hv
  · unfold renL
    apply List.map_congr_left
    intro o _
    rw [fldM_eq]

/-- What is left of a memory goes on as it does. -/
theorem splits (hm : MOk m) (hn : m.objs.length ≤ 256) (ds : List Dd) (hd : m.objs.length + ds.length ≤ 256) :
    (playM (newM (canonG (grM m))) ds).1 = (playM m ds).1 ∧ canonG (grM (playM (newM (canonG (grM m))) ds).2) = canonG (grM (playM m ds).2) := by
  have hG := hm.good hn
  have h8 : (canonG (grM m)).roots.length = 8 := by unfold canonG grM; simp [hm.n8]
  have hi := iso_of_whole hm hG (whole_order hG)
  rw [newM_eq h8, canon_renL]
  obtain ⟨h1, L', h2⟩ := hi.play ds
  obtain ⟨h3, h4⟩ := hm.play ds
  exact ⟨h1, h2.canon (h3.good (by omega))⟩

/-- Of graphs that are one but for numbers the same is told, and both are one in the end. -/
theorem like {g : Gr} {L : List Int} (hG : Good g) (hL : Whole g L) (ds : List Dd) (hd : g.objs.length + ds.length ≤ 256) :
    (playM (newM (renL g L)) ds).1 = (playM (newM g) ds).1 ∧ canonG (grM (playM (newM (renL g L)) ds).2) = canonG (grM (playM (newM g) ds).2) := by
  have hm := newM_ok hG
  have hi : Iso (newM g) (newM (renL g L)) L := by
    have hlen : (renL g L).roots.length = g.roots.length := by simp [renL]
    have hf : ∀ o, fldM (newM g) o = fieldsOf g o := fun o => by unfold fldM newM fieldsOf; rw [List.getD_eq_getElem?_getD]
    refine ⟨hL.nd, hL.rng, fun v hv h1 => ?_, fun o ho v hv h1 => ?_, hm.n8, ?_, ?_⟩
    · rcases List.mem_append.1 hv with hv | hv
      · refine hL.roots _ ((mem_refsL hG.refsRoots _).2 ?_)
        obtain ⟨a, x⟩ := v
        simp only at h1
        subst h1
        exact hv
      · have := List.eq_of_mem_replicate hv
        subst this
        simp at h1
    · have hr := hL.rng o ho
      rw [hf] at hv
      refine hL.fields o ho _ ((mem_refsL (hG.refsObjs (fieldsOf_mem hr.1 hr.2)) _).2 ?_)
      obtain ⟨a, x⟩ := v
      simp only at h1
      subst h1
      exact hv
    · show (renL g L).roots ++ List.replicate (8 - (renL g L).roots.length) (false, 0) = (g.roots ++ List.replicate (8 - g.roots.length) (false, 0)).map (renV L)
      rw [hlen, List.map_append, List.map_replicate, renV_num]
      rfl
    · show (renL g L).objs = _
      unfold renL
      apply List.map_congr_left
      intro o _
      rw [hf]
  obtain ⟨h1, L', h2⟩ := hi.play ds
  obtain ⟨h3, h4⟩ := hm.play ds
  have h5 : (newM g).objs.length = g.objs.length := rfl
  exact ⟨h1, h2.canon (h3.good (by omega))⟩

end

end Go.Proofs.Ytlolcdgbidboeaa

/- Plain: numbers of a memory are such as may be; what a graph's values are. -/
namespace Go.Proofs.Ytlolcdgbidboeaa
set_option linter.unusedSimpArgs false
set_option linter.unusedVariables false
open Go.RowKit

def NumV (v : V) : Prop := v.1 = false → -4611686018427387904 ≤ v.2 ∧ v.2 ≤ 4611686018427387903
structure NOk (m : Mm) : Prop where
  r : ∀ v ∈ m.regs, NumV v
  o : ∀ l ∈ m.objs, ∀ v ∈ l, NumV v

theorem numV_zero : NumV (false, 0) := fun _ => by decide
theorem numV_ref (n : Int) : NumV (true, n) := fun h => by simp at h

theorem NOk.reg {m : Mm} (h : NOk m) (r : Int) : NumV (regM m r) := by
  unfold regM
  rw [List.getD_eq_getElem?_getD]
  cases hv : m.regs[r.toNat]? with
  | none => exact numV_zero
  | some v => exact h.r v (List.mem_of_getElem? hv)

theorem NOk.fld {m : Mm} (h : NOk m) (o : Int) : ∀ v ∈ fldM m o, NumV v := by
  unfold fldM
  rw [List.getD_eq_getElem?_getD]
  cases hv : m.objs[o.toNat]? with
  | none => intro v hm; simp at hm
  | some l => exact h.o l (List.mem_of_getElem? hv)

theorem NOk.setR {m : Mm} (h : NOk m) (r : Int) {v : V} (hv : NumV v) : NOk (setR m r v) := by
  refine ⟨fun u hu => ?_, h.o⟩
  rcases List.mem_or_eq_of_mem_set hu with hu | rfl
  · exact h.r u hu
  · exact hv

theorem wrong_num {m : Mm} {d : Dd} (hw : wrongM m d = 0) : 1 ≤ d.kind ∧ d.kind ≤ 7 ∧ (d.kind ≠ 7 → 0 ≤ d.dst ∧ d.dst < 8) ∧ (d.kind ≠ 1 → d.kind ≠ 2 → 0 ≤ d.src ∧ d.src < 8) ∧ (d.kind = 1 → 0 ≤ d.num ∧ d.num ≤ 4) ∧ (d.kind = 2 → -4611686018427387904 ≤ d.num ∧ d.num ≤ 4611686018427387903) := by
  unfold wrongM at hw
  split at hw
  · omega
  · split at hw
    · omega
    · split at hw
      · omega
      · rename_i h1 h2 h3
        exact ⟨by omega, by omega, fun _ => by omega, fun _ _ => by omega, fun _ => by omega, fun _ => by omega⟩

theorem NOk.step {m : Mm} (h : NOk m) (d : Dd) : NOk (stepM m d).2 := by
  unfold stepM
  by_cases hw : wrongM m d = 0
  · rw [if_pos hw]
    obtain ⟨_, _, _, _, _, hn⟩ := wrong_num hw
    unfold doM
    by_cases k1 : d.kind = 1
    · rw [if_pos k1]
      refine ⟨fun v hv => ?_, fun l hl v hv => ?_⟩
      · rcases List.mem_or_eq_of_mem_set hv with hv | rfl
        · exact h.r v hv
        · exact numV_ref _
      · rcases List.mem_append.1 hl with hl | hl
        · exact h.o l hl v hv
        · simp only [List.mem_singleton] at hl
          subst hl
          rw [List.eq_of_mem_replicate hv]
          exact numV_zero
    · rw [if_neg k1]
      by_cases k2 : d.kind = 2
      · rw [if_pos k2]; exact h.setR _ (fun _ => hn k2)
      · rw [if_neg k2]
        by_cases k3 : d.kind = 3
        · rw [if_pos k3]; exact h.setR _ (h.reg _)
        · rw [if_neg k3]
          by_cases k4 : d.kind = 4
          · rw [if_pos k4]
            refine ⟨h.r, fun l hl v hv => ?_⟩
            rcases List.mem_or_eq_of_mem_set hl with hl | rfl
            · exact h.o l hl v hv
            · rcases List.mem_or_eq_of_mem_set hv with hv | rfl
              · exact h.fld _ v hv
              · exact h.reg _
          · rw [if_neg k4]
            by_cases k5 : d.kind = 5
            · rw [if_pos k5]
              refine h.setR _ ?_
              rw [List.getD_eq_getElem?_getD]
              cases hv : (fldM m (regM m d.src).2)[d.fat.toNat]? with
              | none => exact numV_zero
              | some v => exact h.fld _ v (List.mem_of_getElem? hv)
            · rw [if_neg k5]
              by_cases k6 : d.kind = 6
              · rw [if_pos k6]; exact h
              · rw [if_neg k6]; exact h
  · rw [if_neg hw]; exact h

theorem NOk.play : ∀ (ds : List Dd) {m : Mm}, NOk m → NOk (playM m ds).2
  | [], m, h => h
  | d :: ds, m, h => NOk.play ds (h.step d)

theorem checkV_of {g : Gr} (hr : ∀ v ∈ g.roots, v.1 = true → 0 ≤ v.2 ∧ v.2 < g.objs.length) (ho : ∀ l ∈ g.objs, ∀ v ∈ l, v.1 = true → 0 ≤ v.2 ∧ v.2 < g.objs.length) (nr : ∀ v ∈ g.roots, NumV v) (no : ∀ l ∈ g.objs, ∀ v ∈ l, NumV v) : checkV g = 0 := by
  have hall : ∀ v ∈ allV g, badV v g.objs.length = 0 := by
    have hone : ∀ v : V, (v.1 = true → 0 ≤ v.2 ∧ v.2 < g.objs.length) → NumV v → badV v g.objs.length = 0 := by
      rintro ⟨r, n⟩ h1 h2
      unfold badV
      cases r
      · have := h2 rfl
        simp only [Bool.false_eq_true, if_false]
        rw [if_neg (by simp only at this; omega)]
      · have := h1 rfl
        simp only [if_true]
        rw [if_neg (by simp only at this; omega)]
    intro v hv
    unfold allV at hv
    rcases List.mem_append.1 hv with hv | hv
    · exact hone v (hr v hv) (nr v hv)
    · obtain ⟨l, hl, hv⟩ := List.mem_flatten.1 hv
      exact hone v (ho l hl v hv) (no l hl v hv)
  unfold checkV
  rw [if_neg, if_neg]
  · simp only [Bool.not_eq_true, List.any_eq_false]
    intro v hv; unfold numBad; rw [hall v hv]; decide
  · simp only [Bool.not_eq_true, List.any_eq_false]
    intro v hv; unfold refBad; rw [hall v hv]; decide

theorem checkV_mem {m : Mm} (h : MOk m) (hn : NOk m) : checkV (grM m) = 0 := checkV_of h.rr h.ro hn.r hn.o

theorem num_of_checkV {g : Gr} (h : checkV g = 0) : ∀ v ∈ allV g, NumV v := by
  intro v hv h1
  unfold checkV at h
  split at h
  · omega
  · split at h
    · omega
    · rename_i _ h3
      have h3 : (allV g).any (numBad g) = false := by simpa using h3
      rw [List.any_eq_false] at h3
      have := h3 v hv
      unfold numBad badV at this
      rw [if_neg (by simp [h1])] at this
      by_cases hb : v.2 < -4611686018427387904 ∨ 4611686018427387903 < v.2
      · rw [if_pos hb] at this; simp at this
      · omega

theorem small_of_check {g : Gr} (h : checkG g = 0) : isLargeG g = false ∧ checkV g = 0 := by
  cases hL : isLargeG g with
  | true => rw [checkG_large g hL] at h; omega
  | false => exact ⟨rfl, by rw [← checkG_eq g hL]; exact h⟩

theorem len_of_check {g : Gr} (h : checkG g = 0) : g.objs.length ≤ 24 := by
  have hL := (small_of_check h).1
  simp only [isLargeG, Bool.or_eq_false_iff, decide_eq_false_iff_not] at hL
  omega

theorem newM_num {g : Gr} (h : checkG g = 0) : NOk (newM g) := by
  have hn := num_of_checkV (small_of_check h).2
  refine ⟨fun v hv => ?_, fun l hl v hv => hn v (by unfold allV; exact List.mem_append_right _ (List.mem_flatten.2 ⟨l, hl, hv⟩))⟩
  rcases List.mem_append.1 hv with hv | hv
  · exact hn v (by unfold allV; exact List.mem_append_left _ hv)
  · rw [List.eq_of_mem_replicate hv]; exact numV_zero

/-- A graph's registers and objects, behind a script: such as may be, and its values' check. -/
theorem play_end {g : Gr} (h : checkG g = 0) (ds : List Dd) (hd : ds.length ≤ 100) : MOk (playM (newM g) ds).2 ∧ (playM (newM g) ds).2.objs.length ≤ 124 ∧ Good (grM (playM (newM g) ds).2) ∧ checkV (grM (playM (newM g) ds).2) = 0 := by
  have hG := good_of_check h
  have hl := len_of_check h
  obtain ⟨h1, h2⟩ := (newM_ok hG).play ds
  have h3 : (newM g).objs.length = g.objs.length := rfl
  have h4 : (playM (newM g) ds).2.objs.length ≤ 124 := by omega
  exact ⟨h1, h4, h1.good (by omega), checkV_mem h1 ((newM_num h).play ds)⟩

end Go.Proofs.Ytlolcdgbidboeaa

/- A rule for a region that draws its order: its operations leave what was there as it was, whatever comes first; then a forced tail. -/
namespace Go.Proofs.Ytlolcdgbidboeaa
set_option linter.unusedSimpArgs false
set_option linter.unusedVariables false
open Go

section
variable {P : Program} {ops : Array Oper} {md : Region.Mode} {C : World → Prop}

/-- The first operations, in any order, all of them ahead of n. -/
def wpHeadQ (P : Program) (md : Region.Mode) (ops : Array Oper) (C : World → Prop) (n : Nat) (L : Array Bool → Act → Prop) : Nat → Array Bool → Act → Prop
  | 0, listed, a => L listed a
  | f + 1, listed, a =>
    Region.ready md ops listed ≠ [] ∧ ∀ i ∈ Region.ready md ops listed, i < n ∧ qOp P ops C i (wpHeadQ P md ops C n L f (listed.setIfInBounds i true)) a

theorem wpAny_of_headQ {n g : Nat} {L : Array Bool → Act → Prop} {Q' : Exit → Act → World → Prop} (hL : ∀ listed a w, C w → L listed a → wpAny P md ops Q' g listed a w) :
    ∀ (f : Nat) (listed : Array Bool) (a : Act) (w : World), C w → wpHeadQ P md ops C n L f listed a → wpAny P md ops Q' (f + g) listed a w
  | 0, listed, a, w, hw, h => by rw [Nat.zero_add]; exact hL _ _ _ hw h
  | f + 1, listed, a, w, hw, h => by
    rw [show f + 1 + g = (f + g) + 1 by omega]
    exact ⟨fun h0 => absurd h0 h.1, fun i hi => wpOp_of_qOp hw (fun a' w' hw' h' => wpAny_of_headQ hL f _ a' w' hw' h') (h.2 i hi).2⟩

theorem wpHeadQ_first {n i : Nat} {oi : Oper} {v : Value} {L : Array Bool → Act → Prop} (hi : ops[i]? = some oi) (hsel : ∀ (j : Nat) (o : Oper) cs b, ops[j]? = some o → o.op ≠ .select cs b)
    (hs : Region.sinkB md ops n = true) (hc : Region.chainB md ops n = true) (hn : n < ops.size) (hin : i < n)
    (hdone : ∀ listed a, L listed a → ∀ j ∈ Region.ready md ops listed, n ≤ j) :
    ∀ (f : Nat) (listed : Array Bool) (a : Act), HeadInv md ops n listed →
      (∀ j oj, ops[j]? = some oj → j ≠ i → listed.getD j true = false → (∀ e ∈ oj.after, Region.binds md e = true → e.on ≠ i) → oi.apart ops oj = true) →
      i ∈ Region.ready md ops listed → YieldsIn P ops C oi v a →
      wpHeadQ P md ops C n L f (listed.setIfInBounds i true) (a.put oi.dst v) → wpHeadQ P md ops C n L (f + 1) listed a := by
  intro f
  induction f with
  | zero =>
    intro listed a inv _ hr hy H
    have hun := (mem_ready.1 hr).1
    refine ⟨fun h => (by rw [h] at hr; cases hr), fun j hj => ?_⟩
    have hjn : j < n := by
      rcases Nat.lt_or_ge j n with h | h
      · exact h
      · exact absurd hj (tail_waits hs hc hn inv _ i rfl hin hun j h)
    refine ⟨hjn, ?_⟩
    by_cases hji : j = i
    · subst hji; exact hy.qOp hi H
    · have := hdone _ _ H j (ready_mono hj hji)
      omega
  | succ f ih =>
    intro listed a inv hfree hr hy H
    have hun := (mem_ready.1 hr).1
    refine ⟨fun h => (by rw [h] at hr; cases hr), fun j hj => ?_⟩
    have hjn : j < n := by
      rcases Nat.lt_or_ge j n with h | h
      · exact h
      · exact absurd hj (tail_waits hs hc hn inv _ i rfl hin hun j h)
    refine ⟨hjn, ?_⟩
    by_cases hji : j = i
    · subst hji; exact hy.qOp hi H
    · have h1 := (H.2 j (ready_mono hj hji)).2
      obtain ⟨hjun, oj, hoj, hall⟩ := mem_ready.1 hj
      have hnot : ∀ e ∈ oj.after, Region.binds md e = true → e.on ≠ i := fun e he hb heq => by
        have h1 := hall e he hb
        rw [heq, getD_both hun] at h1
        cases h1
      have h2 := qOp_put hoj (hfree j oj hoj hji hjun hnot) (fun cs b => hsel i oi cs b hi) (fun cs b => hsel j oj cs b hoj) hy h1
      have hfree' : ∀ k ok, ops[k]? = some ok → k ≠ i → (listed.setIfInBounds j true).getD k true = false →
          (∀ e ∈ ok.after, Region.binds md e = true → e.on ≠ i) → oi.apart ops ok = true := fun k ok hk hki hun hno => by
        refine hfree k ok hk hki ?_ hno
        by_cases hjk : j = k
        · subst hjk; exact hjun
        · rw [getD_set_ne true hjk] at hun; exact hun
      refine qOp_mono (fun a' h3 => ih (listed.setIfInBounds j true) a' (inv.set hj hjn) hfree' (ready_mono hr (Ne.symm hji)) h3.1 ?_) h2
      rw [Array.setIfInBounds_comm _ _ hji]
      exact h3.2

theorem wpHeadQ_lex {n g : Nat} {Lq : Act → Prop} (hsel : Region.noSelect ops = true) (hs : Region.sinkB md ops n = true) (hc : Region.chainB md ops n = true) (hn : n < ops.size) :
    ∀ (l : List Oper) (k : Nat) (listed : Array Bool) (a : Act), (∀ j, j < l.length → l[j]? = ops[k + j]?) → k + l.length = n → HeadInv md ops n listed →
    Region.lexHead md ops g l.length k listed = true → wpQuiet P ops C Lq l a →
    wpHeadQ P md ops C n (fun listed' a' => Region.seqB md ops g n listed' = true ∧ Lq a') l.length listed a
  | [], k, listed, a, _, hk, _, hB, h => by
    have : k = n := by simpa using hk
    subst this
    exact ⟨by simpa [Region.lexHead] using hB, h⟩
  | o :: l, k, listed, a, hl, hk, inv, hB, h => by
    have h0 : ops[k]? = some o := by simpa using (hl 0 (by simp)).symm
    simp only [List.length_cons, Region.lexHead, Bool.and_eq_true] at hB
    obtain ⟨⟨hr, hf⟩, hB'⟩ := hB
    have hkn : k < n := by simp only [List.length_cons] at hk; omega
    have hr' : k ∈ Region.ready md ops listed := by simpa using hr
    have hst : qOp P ops C k (wpQuiet P ops C Lq l) a := by unfold qOp; simp only [h0]; exact h
    obtain ⟨v, hy, hK⟩ := yieldsIn_of_qOp h0 hst
    exact wpHeadQ_first h0 (Region.noSelect_spec hsel) hs hc hn hkn (fun listed' a' hL => seqB_ready hL.1) l.length listed a inv (Region.free_spec h0 hf) hr' hy
      (wpHeadQ_lex hsel hs hc hn l (k + 1) _ _ (fun j hj => by have := hl (j + 1) (by simp; omega); simpa [Nat.add_assoc, Nat.add_comm 1 j] using this) (by simp only [List.length_cons] at hk; omega) (inv.set hr' hkn) hB' hK)

theorem wp_region_quiet_tail {id : Nat} {Q : Exit → Act → World → Prop} {a : Act} {w : World} {l : List Oper} (n : Nat) (hm : P.follows .mixedOrders = true) (hB : Region.lexTailB .any l.toArray n = true) (hC : C { w with drawn := w.drawn + 1 })
    (h : wpQuiet P l.toArray C (fun a' => ∀ w', C w' → wpList P l.toArray Q (l.drop n) a' w') (l.take n) a) : (Code.region id l.toArray true).wp P Q a w := by
  simp only [Region.lexTailB, Bool.and_eq_true, decide_eq_true_eq] at hB
  obtain ⟨⟨⟨⟨hsel, hn⟩, hs⟩, hc⟩, hlex⟩ := hB
  have hn' : n < l.length := by simpa using hn
  have htl : (l.take n).length = n := by simp; omega
  have hdl : (l.drop n).length = l.toArray.size - n := by simp
  have inv0 : HeadInv .any l.toArray n (Array.replicate l.toArray.size false) :=
    ⟨by simp, fun j oj _ hl => (by rw [getD_replicate_false] at hl; cases hl), fun t _ ht => getD_in (by simpa using ht) (getD_replicate_false _ _)⟩
  have H := wpHeadQ_lex (md := .any) (g := l.toArray.size - n) hsel hs hc hn (l.take n) 0 _ a (fun j hj => by
    have hj' : j < n := by rw [htl] at hj; exact hj
    simp [hj']) (by simpa using htl) inv0 (by rw [htl]; exact hlex) h
  refine wp_region_any hm ?_
  have := wpAny_of_headQ (C := C) (Q' := Q) (g := l.toArray.size - n) (fun listed a' w' hw' hL => by
    have := wpAny_of_seq (md := .any) (Q' := Q) (l.drop n) n listed a' w' (fun j => by simp [List.getElem?_drop]) (by rw [hdl]; exact hL.1) (hL.2 w' hw')
    rwa [hdl] at this) _ _ _ _ hC H
  rw [htl, show n + (l.toArray.size - n) = l.toArray.size by omega] at this
  exact this

/-- At the class 'of what was there nothing has turned'. -/
theorem wp_region_quiet_below_tail {id : Nat} {Q : Exit → Act → World → Prop} {a : Act} {w : World} {l : List Oper} (n : Nat) (hm : P.follows .mixedOrders = true) (hB : Region.lexTailB .any l.toArray n = true)
    (h : wpQuiet P l.toArray (fun w' => ∃ p : Regrown, w' = Sort.grow (redrawn w p.d) p.os) (fun a' => ∀ w', (∃ p : Regrown, w' = Sort.grow (redrawn w p.d) p.os) → wpList P l.toArray Q (l.drop n) a' w') (l.take n) a) : (Code.region id l.toArray true).wp P Q a w :=
  wp_region_quiet_tail (C := fun w' => ∃ p : Regrown, w' = Sort.grow (redrawn w p.d) p.os) n hm hB ⟨⟨w.drawn + 1, #[]⟩, by rw [Sort.grow_empty]; rfl⟩ h

end
end Go.Proofs.Ytlolcdgbidboeaa

/- Memory: a machine's registers and objects; what stays as it was. -/
namespace Go.Proofs.Ytlolcdgbidboeaa
set_option linter.unusedSimpArgs false
set_option linter.unusedVariables false
open Go.RowKit Go.Shelf

/-- All old blocks but some are as they were. -/
structure Kp (S : Nat → Prop) (W W' : World) : Prop where
  os : W'.os = W.os
  tape : W'.tape = W.tape
  output : W'.output = W.output
  size : W.heap.size ≤ W'.heap.size
  block : ∀ k, k < W.heap.size → ¬ S k → W'.heap[k]? = W.heap[k]?

section
variable {S S' : Nat → Prop} {W W' W'' : World}

theorem Kp.refl (S : Nat → Prop) (W : World) : Kp S W W := ⟨rfl, rfl, rfl, Nat.le_refl _, fun _ _ _ => rfl⟩
theorem Kp.trans (h : Kp S W W') (h' : Kp S' W' W'') (hs : ∀ k, S' k → S k ∨ W.heap.size ≤ k) : Kp S W W'' :=
  ⟨h'.os.trans h.os, h'.tape.trans h.tape, h'.output.trans h.output, Nat.le_trans h.size h'.size, fun k hk hn => (h'.block k (Nat.lt_of_lt_of_le hk h.size) (fun e => by
    rcases hs k e with e | e
    · exact hn e
    · omega)).trans (h.block k hk hn)⟩
theorem Kp.of_below (hb : Below W.heap.size W W') : Kp S W W' := ⟨hb.os, hb.tape, hb.output, hb.size, fun k hk _ => hb.block k hk⟩
theorem Kp.of_grown {o : Option Nat} (hg : W.grownBy W' o) (ho : ∀ k, o = some k → S k) : Kp S W W' := ⟨hg.os, hg.tape, hg.output, hg.size, fun k hk hn => hg.block k hk (fun e => hn (ho k e.symm))⟩
theorem Kp.set (b j : Nat) (u : Value) (W : World) (hb : S b) : Kp S W (W.setCell ⟨b, j, none⟩ u) := Kp.of_grown (grown_set W b j u) (fun k e => by injection e with e; subst e; exact hb)
theorem Kp.alloc (W : World) (o : Obj) : Kp S W (W.alloc o) := Kp.of_below ((Below.refl _ _).alloc (Nat.le_refl _) o)
theorem Kp.mono (h : Kp S W W') (hs : ∀ k, S k → S' k) : Kp S' W W' := ⟨h.os, h.tape, h.output, h.size, fun k hk hn => h.block k hk (fun e => hn (hs k e))⟩
theorem Kp.below (h : Kp S W W') {N : Nat} (hN : N ≤ W.heap.size) (hs : ∀ k, S k → N ≤ k) : Below N W W' := ⟨h.os, h.tape, h.output, h.size, fun k hk => h.block k (Nat.lt_of_lt_of_le hk hN) (fun e => by have := hs k e; omega)⟩
theorem Kp.cell (h : Kp S W W') {p : Addr} (hp : p.block < W.heap.size) (hn : ¬ S p.block) : W'.cell? p = W.cell? p := World.cell?_of_block (h.block _ hp hn)
theorem Kp.frozen (h : Kp S W W') {p : Addr} (hp : p.block < W.heap.size) (hn : ¬ S p.block) : W'.frozen? p = W.frozen? p := World.frozen?_of_block (h.block _ hp hn)
theorem Kp.heap (h : Kp S W W') {k : Nat} {o : Obj} (ho : W.heap[k]? = some o) (hn : ¬ S k) : W'.heap[k]? = some o := (h.block k (Array.getElem?_eq_some_iff.1 ho).1 hn).trans ho
theorem Kp.drew (h : Kp S W W') : Kp S W W'.drew := ⟨h.os, h.tape, h.output, h.size, fun k hk hn => h.block k hk hn⟩
end

theorem lt_of_heap {W : World} {k : Nat} {o : Obj} (h : W.heap[k]? = some o) : k < W.heap.size := (Array.getElem?_eq_some_iff.1 h).1

theorem box_cell {W : World} {b : Nat} {L : List Value} {t : TypeId} (h : W.heap[b]? = some (.cells L.toArray t)) (i : Nat) : W.cell? ⟨b, i, none⟩ = L[i]? := by
  rw [cell_of_row W b i _ t (0, 0) h]; simp
theorem box_fr {W : World} {b : Nat} {cs : Array Value} {t : TypeId} (h : W.heap[b]? = some (.cells cs t)) (i : Nat) : W.frozen? ⟨b, i, none⟩ = false := frozen_of_row W b i _ t h
theorem box_set {W : World} {b : Nat} {L : List Value} {t : TypeId} (h : W.heap[b]? = some (.cells L.toArray t)) (i : Nat) (v : Value) : (W.setCell ⟨b, i, none⟩ v).heap[b]? = some (.cells (L.set i v).toArray t) := by
  rw [heap_setCell_same W b i _ t v h]; simp
theorem box_ne {W : World} {a b : Nat} {cs ds : Array Value} {s t : TypeId} (h : W.heap[a]? = some (.cells cs s)) (h' : W.heap[b]? = some (.cells ds t)) (hne : s ≠ t) : a ≠ b := by
  rintro rfl
  rw [h] at h'
  injection h' with h'
  injection h' with _ h'
  exact hne h'

/-- A row and a box of another type lie apart. -/
theorem row_ne {W : World} {base : Nat} {e t : TypeId} {size : Nat} {v : Value} {n : Nat} {xs : List Value} {tb : Nat} {cs : Array Value} (h : W.ownsRow base e size v n xs) (hb : W.heap[tb]? = some (.cells cs t)) (hne : e ≠ t) : v.ownBlock ≠ some tb := by
  rcases h.2 with ⟨rfl, _⟩ | ⟨g, cap, cur, rfl, _, hg, _⟩
  · simp [Value.ownBlock]
  · intro e'
    obtain rfl : g = tb := by simpa [Value.ownBlock] using e'
    exact box_ne hg hb hne rfl

/-- A row whose block is as it was. -/
theorem row_same {W W' : World} {base : Nat} {e : TypeId} {size : Nat} {v : Value} {n : Nat} {xs : List Value} (h : W.ownsRow base e size v n xs) (hs : ∀ k, v.ownBlock = some k → W'.heap[k]? = W.heap[k]?) : W'.ownsRow base e size v n xs := by
  refine ⟨h.1, ?_⟩
  rcases h.2 with h | ⟨g, cap, cur, rfl, hb, hg, h3⟩
  · exact .inl h
  · exact .inr ⟨g, cap, cur, rfl, hb, (hs g rfl).trans hg, h3⟩

section
variable {W W' : World} {N : Nat} {vo : Value} {fb : List Value} {objs : List (List V)}

theorem OwnV.same {v : Value} {l : List V} (h : OwnV W N v l) (hs : ∀ k, v.ownBlock = some k → W'.heap[k]? = W.heap[k]?) : OwnV W' N v l := row_same h hs
theorem OwnO.same (h : OwnO W N vo fb objs) (hs : ∀ k, OwnO.In vo fb k → W'.heap[k]? = W.heap[k]?) : OwnO W' N vo fb objs :=
  ⟨row_same h.row (fun k hk => hs k (.inl hk)), h.len, fun i u l hu hl => (h.each i u l hu hl).same (fun k hk => hs k (.inr ⟨u, List.mem_of_getElem? hu, hk⟩)), h.apart, h.out⟩
theorem OwnO.keep {S : Nat → Prop} (h : OwnO W N vo fb objs) (hk : Kp S W W') (hs : ∀ k, OwnO.In vo fb k → ¬ S k) : OwnO W' N vo fb objs :=
  h.same (fun k hi => hk.block k (h.lt hi).2 (hs k hi))
theorem OwnO.ne (h : OwnO W N vo fb objs) {b : Nat} {cs : Array Value} {t : TypeId} (hb : W.heap[b]? = some (.cells cs t)) (h1 : 62 ≠ t) (h2 : 47 ≠ t) : ¬ OwnO.In vo fb b := by
  rintro (hi | ⟨u, hu, hi⟩)
  · exact row_ne h.row hb h1 hi
  · obtain ⟨i, hu⟩ := List.getElem?_of_mem hu
    have hil := (List.getElem?_eq_some_iff.1 hu).1
    have hol : i < objs.length := by have := h.len; omega
    exact row_ne (h.each i u objs[i] hu (List.getElem?_eq_getElem hol)) hb h2 hi
end

/-- Blocks of objects and of the box that holds their row. -/
def OS (ob : Nat) (vo : Value) (fb : List Value) (k : Nat) : Prop := k = ob ∨ OwnO.In vo fb k

/-- Objects in memory of their own, their row in a box. -/
structure OM (W : World) (N ob : Nat) (vo : Value) (fb : List Value) (objs : List (List V)) : Prop where
  box : W.heap[ob]? = some (.cells [vo].toArray 60)
  own : OwnO W N vo fb objs
  lo : N ≤ ob

section
variable {W W' : World} {N ob : Nat} {vo : Value} {fb : List Value} {objs : List (List V)}
theorem OM.out (h : OM W N ob vo fb objs) : ¬ OwnO.In vo fb ob := h.own.ne h.box (by decide) (by decide)
theorem OM.lt (h : OM W N ob vo fb objs) {k : Nat} (hk : OS ob vo fb k) : N ≤ k ∧ k < W.heap.size := by
  rcases hk with rfl | hk
  · exact ⟨h.lo, lt_of_heap h.box⟩
  · exact h.own.lt hk
theorem OM.same (h : OM W N ob vo fb objs) (hs : ∀ k, OS ob vo fb k → W'.heap[k]? = W.heap[k]?) : OM W' N ob vo fb objs :=
  ⟨(hs ob (.inl rfl)).trans h.box, h.own.same (fun k hk => hs k (.inr hk)), h.lo⟩
theorem OM.keep {S : Nat → Prop} (h : OM W N ob vo fb objs) (hk : Kp S W W') (hs : ∀ k, OS ob vo fb k → ¬ S k) : OM W' N ob vo fb objs :=
  h.same (fun k hi => hk.block k (h.lt hi).2 (hs k hi))
theorem OM.below (h : OM W N ob vo fb objs) (hb : Below W.heap.size W W') : OM W' N ob vo fb objs := h.same (fun k hk => hb.block k (h.lt hk).2)
theorem OM.ne (h : OM W N ob vo fb objs) {b : Nat} {cs : Array Value} {t : TypeId} (hb : W.heap[b]? = some (.cells cs t)) (h0 : 60 ≠ t) (h1 : 62 ≠ t) (h2 : 47 ≠ t) : ¬ OS ob vo fb b := by
  rintro (hi | hi)
  · exact box_ne h.box hb h0 hi.symm
  · exact h.own.ne hb h1 h2 hi
theorem OM.c0 (h : OM W N ob vo fb objs) : W.cell? ⟨ob, 0, none⟩ = some vo := by rw [box_cell h.box]; rfl
end

/-- A machine: registers in a box, with the memory behind it. -/
structure PM (W : World) (N mb ob : Nat) (vo : Value) (fb : List Value) (m : Mm) : Prop where
  box : W.heap[mb]? = some (.cells (.iface 42 (.pointer (some ⟨ob, 0, none⟩)) :: cellsV m.regs).toArray 51)
  mem : OM W N ob vo fb m.objs
  n8 : m.regs.length = 8
  lo : N ≤ mb

def PS (mb ob : Nat) (vo : Value) (fb : List Value) (k : Nat) : Prop := k = mb ∨ OS ob vo fb k

section
variable {W W' : World} {N mb ob : Nat} {vo : Value} {fb : List Value} {m : Mm}
theorem PM.lt (h : PM W N mb ob vo fb m) {k : Nat} (hk : PS mb ob vo fb k) : N ≤ k ∧ k < W.heap.size := by
  rcases hk with rfl | hk
  · exact ⟨h.lo, lt_of_heap h.box⟩
  · exact h.mem.lt hk
theorem PM.out (h : PM W N mb ob vo fb m) : ¬ OS ob vo fb mb := h.mem.ne h.box (by decide) (by decide) (by decide)
theorem PM.same (h : PM W N mb ob vo fb m) (hs : ∀ k, PS mb ob vo fb k → W'.heap[k]? = W.heap[k]?) : PM W' N mb ob vo fb m :=
  ⟨(hs mb (.inl rfl)).trans h.box, h.mem.same (fun k hk => hs k (.inr hk)), h.n8, h.lo⟩
theorem PM.keep {S : Nat → Prop} (h : PM W N mb ob vo fb m) (hk : Kp S W W') (hs : ∀ k, PS mb ob vo fb k → ¬ S k) : PM W' N mb ob vo fb m :=
  h.same (fun k hi => hk.block k (h.lt hi).2 (hs k hi))
theorem PM.below (h : PM W N mb ob vo fb m) (hb : Below W.heap.size W W') : PM W' N mb ob vo fb m := h.same (fun k hk => hb.block k (h.lt hk).2)
theorem PM.ne (h : PM W N mb ob vo fb m) {b : Nat} {cs : Array Value} {t : TypeId} (hb : W.heap[b]? = some (.cells cs t)) (h0 : 60 ≠ t) (h1 : 62 ≠ t) (h2 : 47 ≠ t) (h3 : 51 ≠ t) : ¬ PS mb ob vo fb b := by
  rintro (hi | hi)
  · exact box_ne h.box hb h3 hi.symm
  · exact h.mem.ne hb h0 h1 h2 hi
theorem PM.i0 (h : PM W N mb ob vo fb m) : W.cell? ⟨mb, 0, none⟩ = some (.iface 42 (.pointer (some ⟨ob, 0, none⟩))) := by rw [box_cell h.box]; rfl

theorem cellsV_at {l : List V} {i : Nat} {x : V} (h : l[i]? = some x) : (cellsV l)[i * 2]? = some (.bool x.1) ∧ (cellsV l)[i * 2 + 1]? = some (.int .i64 x.2) := cellsV_get l i x h

/-- A register is read. -/
theorem PM.reg (h : PM W N mb ob vo fb m) {i : Nat} {x : V} (hx : m.regs[i]? = some x) : W.cell? ⟨mb, 1 + i * 2, none⟩ = some (.bool x.1) ∧ W.cell? ⟨mb, 1 + i * 2 + 1, none⟩ = some (.int .i64 x.2) := by
  obtain ⟨h1, h2⟩ := cellsV_at hx
  rw [box_cell h.box, box_cell h.box, show 1 + i * 2 = i * 2 + 1 by omega, List.getElem?_cons_succ, List.getElem?_cons_succ]
  exact ⟨h1, h2⟩

/-- A register is set. -/
theorem PM.setReg (h : PM W N mb ob vo fb m) (i : Nat) (x : V) :
    PM ((W.setCell ⟨mb, 1 + i * 2, none⟩ (.bool x.1)).setCell ⟨mb, 1 + i * 2 + 1, none⟩ (.int .i64 x.2)) N mb ob vo fb { m with regs := m.regs.set i x } ∧ Kp (fun k => k = mb) W ((W.setCell ⟨mb, 1 + i * 2, none⟩ (.bool x.1)).setCell ⟨mb, 1 + i * 2 + 1, none⟩ (.int .i64 x.2)) := by
  have hk : Kp (fun k => k = mb) W ((W.setCell ⟨mb, 1 + i * 2, none⟩ (.bool x.1)).setCell ⟨mb, 1 + i * 2 + 1, none⟩ (.int .i64 x.2)) := Kp.trans (S := fun k => k = mb) (S' := fun k => k = mb) (Kp.set mb _ _ W rfl) (Kp.set mb _ _ _ rfl) (fun k e => .inl e)
  refine ⟨⟨?_, h.mem.keep hk (fun k hi e => h.out (e ▸ hi)), by simp [h.n8], h.lo⟩, hk⟩
  rw [box_set (box_set h.box _ _) _ _, show 1 + i * 2 = i * 2 + 1 by omega, List.set_cons_succ, List.set_cons_succ, ← cellsV_set]
end

end Go.Proofs.Ytlolcdgbidboeaa

/- Walks: registers; what needs what; a number beyond; an object's size, field. -/
namespace Go.Proofs.Ytlolcdgbidboeaa
set_option linter.unusedSimpArgs false
set_option linter.unusedVariables false
open Go.RowKit Go.Shelf

set_option maxRecDepth 100000 in
set_option maxHeartbeats 2000000 in
theorem rhas_c (p : Value) (r : Int) (w : World) : Calls Try.prog 46 #[p, .int .i64 r] w fun e w' => e = .returned (.bool (decide (0 ≤ r) && decide (r < 8))) ∧ w' = w := by
  by_cases h0 : 0 ≤ r
  · have d0 : decide (0 ≤ r) = true := by simpa using h0
    go_enter Try.func46, Try.ntmps46
    go_wp2
    go_ret
    exact ⟨by simp [h0], rfl⟩
  · have d0 : decide (0 ≤ r) = false := by simpa using h0
    go_enter Try.func46, Try.ntmps46
    go_wp2
    go_ret
    exact ⟨by simp [h0], rfl⟩

set_option maxRecDepth 100000 in
set_option maxHeartbeats 2000000 in
theorem needsTo_c (k : Int) (w : World) : Calls Try.prog 45 #[.int .i64 k] w fun e w' => e = .returned (.bool (k != 7)) ∧ w' = w := by
  go_enter Try.func45, Try.ntmps45
  go_wp2
  go_ret
  exact ⟨rfl, rfl⟩

set_option maxRecDepth 100000 in
set_option maxHeartbeats 2000000 in
theorem needsFrom_c (k : Int) (w : World) : Calls Try.prog 47 #[.int .i64 k] w fun e w' => e = .returned (.bool (k != 1 && k != 2)) ∧ w' = w := by
  by_cases h1 : k = 1
  · subst h1
    go_enter Try.func47, Try.ntmps47
    go_wp2
    go_ret
    exact ⟨rfl, rfl⟩
  · have d1 : (k != 1) = true := by simpa using h1
    go_enter Try.func47, Try.ntmps47
    go_wp2
    go_ret
    exact ⟨by simp [d1], rfl⟩

def beyB (k n : Int) : Bool := (k == 1 && (decide (n < 0) || decide (4 < n))) || (k == 2 && (decide (n < -4611686018427387904) || decide (4611686018427387903 < n)))

set_option maxRecDepth 100000 in
set_option maxHeartbeats 2000000 in
theorem isBeyond_c (k d s f n : Int) (w : World) : Calls Try.prog 48 #[.agg #[.int .i64 k, .int .i64 d, .int .i64 s, .int .i64 f, .int .i64 n]] w fun e w' => e = .returned (.bool (beyB k n)) ∧ w' = w.alloc (.cells #[.int .i64 k, .int .i64 d, .int .i64 s, .int .i64 f, .int .i64 n] 53) := by
  by_cases k1 : k = 1
  · subst k1
    by_cases h0 : n < 0
    · have d0 : decide (n < 0) = true := by simpa using h0
      go_enter Try.func48, Try.ntmps48
      go_wp2
      go_ret
      exact ⟨by simp [beyB, h0], rfl⟩
    · have d0 : decide (n < 0) = false := by simpa using h0
      go_enter Try.func48, Try.ntmps48
      go_wp2
      go_ret
      exact ⟨by simp [beyB, d0], rfl⟩
  · have d1 : (k == 1) = false := by simpa using k1
    by_cases k2 : k = 2
    · subst k2
      by_cases h0 : n < -4611686018427387904
      · have d0 : decide (n < -4611686018427387904) = true := by simpa using h0
        go_enter Try.func48, Try.ntmps48
        go_wp2
        go_ret
        exact ⟨by simp [beyB, h0], rfl⟩
      · have d0 : decide (n < -4611686018427387904) = false := by simpa using h0
        go_enter Try.func48, Try.ntmps48
        go_wp2
        go_ret
        exact ⟨by simp [beyB, d0], rfl⟩
    · have d2 : (k == 2) = false := by simpa using k2
      go_enter Try.func48, Try.ntmps48
      go_wp2
      go_ret
      exact ⟨by simp [beyB, d1, d2], rfl⟩

set_option maxRecDepth 100000 in
set_option maxHeartbeats 2000000 in
/-- A register's value. -/
theorem value_c (N mb ob : Nat) (vo : Value) (fb : List Value) (m : Mm) (r : Nat) (x : V) (w : World) (h : PM w N mb ob vo fb m) (hx : m.regs[r]? = some x) :
    Calls Try.prog 31 #[.pointer (some ⟨mb, 1, none⟩), .int .i64 (r : Nat)] w fun e w' => e = .returned (.agg #[.bool x.1, .int .i64 x.2]) ∧ Below w.heap.size w w' := by
  obtain ⟨c0, c1⟩ := h.reg hx
  have hr : r < m.regs.length := (List.getElem?_eq_some_iff.1 hx).1
  have hr8 : r < 8 := by have := h.n8; omega
  have hrI : (r : Int) < 8 := by omega
  have hmb := lt_of_heap h.box
  have hb : Below w.heap.size w (w.alloc (.cells #[.bool x.1, .int .i64 x.2] 47)) := (Below.refl _ _).alloc (Nat.le_refl _) _
  clear h hx
  go_enter Try.func31, Try.ntmps31
  go_wp2
  exact bodyPost_ret (v := .agg #[.bool x.1, .int .i64 x.2]) (by simp [results, Try.results31, go_sem]) rfl ⟨rfl, hb⟩

set_option maxRecDepth 100000 in
set_option maxHeartbeats 2000000 in
/-- A register is set. -/
theorem set_c (N mb ob : Nat) (vo : Value) (fb : List Value) (m : Mm) (r : Nat) (x : V) (w : World) (h : PM w N mb ob vo fb m) (hr : r < 8) :
    Calls Try.prog 30 #[.pointer (some ⟨mb, 1, none⟩), .int .i64 (r : Nat), .agg #[.bool x.1, .int .i64 x.2]] w fun e w' => e = .returned (.tuple #[]) ∧ PM w' N mb ob vo fb { m with regs := m.regs.set r x } ∧ Kp (fun k => k = mb) w w' := by
  have hrm : r < m.regs.length := by have := h.n8; omega
  have hrI : (r : Int) < 8 := by omega
  obtain ⟨W1, hW1⟩ : ∃ W1, w.alloc (.cells #[.bool x.1, .int .i64 x.2] 47) = W1 := ⟨_, rfl⟩
  have hb : Below w.heap.size w W1.drew := by rw [← hW1]; exact ((Below.refl _ _).alloc (Nat.le_refl _) _).drew
  have hb0 : Below w.heap.size w W1 := by rw [← hW1]; exact ((Below.refl _ _).alloc (Nat.le_refl _) _)
  have k0 : W1.cell? ⟨w.heap.size, 0, none⟩ = some (.bool x.1) := by rw [← hW1]; simp [go_sem]
  have k1 : W1.cell? ⟨w.heap.size, 1, none⟩ = some (.int .i64 x.2) := by rw [← hW1]; simp [go_sem]
  have h0 := h.below hb0
  obtain ⟨c0, c1⟩ := h0.reg (List.getElem?_eq_getElem hrm)
  generalize m.regs[r] = y at *
  have hmb := lt_of_heap h0.box
  have f0 := box_fr h0.box (1 + r * 2)
  have f1 := box_fr h0.box (1 + r * 2 + 1)
  have hmb0 := lt_of_heap h.box
  obtain ⟨h1, h2⟩ := (h.below hb).setReg r x
  have Hfin := hide (And.intro h1 ((Kp.of_below (S := fun k => k = mb) hb).trans (S' := fun k => k = mb) h2 (fun k e => .inl e)))
  clear h h1 h2 hb hb0 h0
  go_enter Try.func30, Try.ntmps30
  go_wp2
  clear hW1
  go_still_tail 5, Try.mixed
  change wpList _ _ _ _ _ W1.drew
  go_wp2
  refine bodyPost_end (v := .tuple #[]) (results_none rfl _ _ _) rfl ⟨rfl, unhide Hfin⟩

end Go.Proofs.Ytlolcdgbidboeaa
