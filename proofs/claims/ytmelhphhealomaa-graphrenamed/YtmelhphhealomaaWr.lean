/- Walks: Canon. -/
import Derived.Test.YtmelhphhealomaaProg
import Derived.Test.YtmelhphhealomaaMem
import Derived.Test.YtmelhphhealomaaWp
namespace Go.Proofs.Ytmelhphhealomaa
set_option linter.unusedSimpArgs false
set_option linter.unusedVariables false
open Go.RowKit

theorem Vals.setCell {B : Nat} {W : World} {a : Option Addr} {l : List V} (h : Vals B W a l) (p : Addr) (u : Value) (hp : ∀ b off, a = some ⟨b, off, none⟩ → b ≠ p.block) : Vals B (W.setCell p u) a l := by
  refine ⟨h.1, fun hne => ?_⟩
  obtain ⟨b, off, rfl, hB, hc⟩ := h.2 hne
  have hblk := Below.heap_setCell W p u b (hp b off rfl)
  refine ⟨b, off, rfl, hB, fun j v hj => ?_⟩
  rw [World.cell?_of_block (a := ⟨b, off + j * 2, none⟩) hblk, World.cell?_of_block (a := ⟨b, off + j * 2 + 1, none⟩) hblk]
  exact hc j v hj

set_option maxRecDepth 100000 in
set_option maxHeartbeats 1000000 in
theorem canon_bad (ao ar : Option Addr) (co cr : Nat) (g : Gr) (B : Nat) (w : World) (ho : Objs B w ao g.objs) (hr : Vals B w ar g.roots) (hB : B ≤ w.heap.size) (hc : checkG g ≠ 0) :
    Calls Try.prog 11 #[.agg #[.slice ao g.objs.length co, .slice ar g.roots.length cr]] w fun e w' => e = .returned (.tuple #[.agg #[.slice none 0 0, .slice none 0 0], .int .i64 (checkG g)]) ∧ Below w.heap.size w w' := by
  have hd : (checkG g != 0) = true := by simpa using hc
  generalize hcc : checkG g = c at *
  have Hcc := hide hcc
  clear hcc hc
  have hb1 := ((Below.refl w.heap.size w).alloc (Nat.le_refl _) (.cells #[.slice ao g.objs.length co, .slice ar g.roots.length cr] 25)).alloc (by simp) (.cells #[.slice none 0 0, .slice none 0 0] 25)
  go_enter Try.func11, Try.ntmps11
  go_wp2_with (go_at_call 20; go_must (refine (check_c _ _ _ _ g B _ (ho.below (hb1.mono hB)) (hr.below (hb1.mono hB)) (by simp; omega)).mono ?_); go_must (rintro e w2 ⟨he, hb2⟩; rw [unhide Hcc] at he; subst he; simp only [World.size_alloc] at hb2; have q0 := hb2.cell (p := ⟨w.heap.size + 1, 0, none⟩) (by simp); have q1 := hb2.cell (p := ⟨w.heap.size + 1, 1, none⟩) (by simp); have f0 := hb2.frozen (p := ⟨w.heap.size + 1, 0, none⟩) (by simp); have f1 := hb2.frozen (p := ⟨w.heap.size + 1, 1, none⟩) (by simp); simp [go_sem] at q0 q1 f0 f1))
  refine bodyPost_ret (v := .tuple #[.agg #[.slice none 0 0, .slice none 0 0], .int .i64 c]) (by simp [results, Try.results11, go_sem, q0, q1]) rfl ⟨rfl, ?_⟩
  exact ((hb1.trans (hb2.mono (by omega))).setCell (p := ⟨w.heap.size + 1, 0, none⟩) (by simp) _).setCell (p := ⟨w.heap.size + 1, 1, none⟩) (by simp) _

set_option maxRecDepth 100000 in
set_option maxHeartbeats 1000000 in
theorem canon_ok (ao ar : Option Addr) (co cr : Nat) (g : Gr) (B : Nat) (w : World) (ho : Objs B w ao g.objs) (hr : Vals B w ar g.roots) (hB : B ≤ w.heap.size) (hc : checkG g = 0) :
    Calls Try.prog 11 #[.agg #[.slice ao g.objs.length co, .slice ar g.roots.length cr]] w fun e w' => ∃ ao' co' ar' cr', e = .returned (.tuple #[.agg #[.slice ao' (canonG g).objs.length co', .slice ar' (canonG g).roots.length cr'], .int .i64 0]) ∧
      Objs w'.heap.size w' ao' (canonG g).objs ∧ Vals w'.heap.size w' ar' (canonG g).roots ∧ Below w.heap.size w w' := by
  have hG := good_of_check hc
  have Hcc := hide hc
  clear hc
  have hb1 := ((Below.refl w.heap.size w).alloc (Nat.le_refl _) (.cells #[.slice ao g.objs.length co, .slice ar g.roots.length cr] 25)).alloc (by simp) (.cells #[.slice none 0 0, .slice none 0 0] 25)
  go_enter Try.func11, Try.ntmps11
  go_wp2_with fail
  refine (check_c _ _ _ _ g B _ (ho.below (hb1.mono hB)) (hr.below (hb1.mono hB)) (by simp; omega)).mono ?_
  rintro e w2 ⟨he, hb2⟩
  rw [unhide Hcc] at he
  subst he
  simp only [World.size_alloc] at hb2
  have q0 := hb2.cell (p := ⟨w.heap.size + 1, 0, none⟩) (by simp)
  have q1 := hb2.cell (p := ⟨w.heap.size + 1, 1, none⟩) (by simp)
  have f0 := hb2.frozen (p := ⟨w.heap.size + 1, 0, none⟩) (by simp)
  have f1 := hb2.frozen (p := ⟨w.heap.size + 1, 1, none⟩) (by simp)
  have g0 := hb2.cell (p := ⟨w.heap.size, 0, none⟩) (by simp; omega)
  have g1 := hb2.cell (p := ⟨w.heap.size, 1, none⟩) (by simp; omega)
  simp [go_sem] at q0 q1 f0 f1 g0 g1
  have hs2 := hb2.size
  simp at hs2
  have hbw2 : Below w.heap.size w w2 := hb1.trans (hb2.mono (by omega))
  clear hb1 hb2
  go_wp2_with fail
  refine (search_c _ _ _ _ g B _ (ho.below (hbw2.mono hB)) (hr.below (hbw2.mono hB)) (by omega) hG).mono ?_
  rintro e w3 ⟨vo, vd, D, mb, rfl, hmb, hF, hb3⟩
  obtain ⟨oa, oc, rfl⟩ := ownsRow_slice hF.ord
  obtain ⟨da, dc, rfl⟩ := ownsRow_slice hF.dis
  have hs3 := hb3.size
  have q0 := (hb3.cell (p := ⟨w.heap.size + 1, 0, none⟩) (by simp; omega)).trans q0
  have q1 := (hb3.cell (p := ⟨w.heap.size + 1, 1, none⟩) (by simp; omega)).trans q1
  have f0 := (hb3.frozen (p := ⟨w.heap.size + 1, 0, none⟩) (by simp; omega)).trans f0
  have f1 := (hb3.frozen (p := ⟨w.heap.size + 1, 1, none⟩) (by simp; omega)).trans f1
  have g0 := (hb3.cell (p := ⟨w.heap.size, 0, none⟩) (by simp; omega)).trans g0
  have g1 := (hb3.cell (p := ⟨w.heap.size, 1, none⟩) (by simp; omega)).trans g1
  have hbw3 : Below w.heap.size w w3 := hbw2.trans (hb3.mono (by omega))
  have hq3 : w.heap.size < w3.heap.size := by omega
  have hok := searchN_ok hG g.objs.length
  have hlen := hok.le
  have hn24 := hG.n24
  have hn8 := hG.n8
  have HO : Hid ((searchN g g.objs.length).1 = orderOf g) := rfl
  generalize searchN g g.objs.length = st at *
  go_wp2_with fail
  obtain ⟨W4, hW4⟩ : ∃ W4, w3.alloc (.cells #[.slice oa st.1.length oc, .slice da st.2.length dc, .map (some mb)] 51) = W4 := ⟨_, rfl⟩
  rw [hW4]
  have hs4 : W4.heap.size = w3.heap.size + 1 := by rw [← hW4]; simp
  have hb4 : Below w3.heap.size w3 W4 := by rw [← hW4]; exact (Below.refl _ _).alloc (Nat.le_refl _) _
  have k0 : W4.cell? ⟨w3.heap.size, 0, none⟩ = some (.slice oa st.1.length oc) := by rw [← hW4]; simp [go_sem]
  have k2 : W4.cell? ⟨w3.heap.size, 2, none⟩ = some (.map (some mb)) := by rw [← hW4]; simp [go_sem]
  clear hW4
  have hF4 := hF.below hb4
  have hbw4 : Below w.heap.size w W4 := hbw3.trans (hb4.mono (by omega))
  refine (renumber_c ar cr g.roots mb _ D st.1 W4 ((hr.below (hbw4.mono hB)).mono (by omega)) hG.refsRoots (by omega) hF4.map hF4.plc).mono ?_
  rintro e w5 ⟨ar', cr', rfl, hV5, hbs5, hb5⟩
  have hs5 := hb5.size
  have q0 := (hb5.cell (p := ⟨w.heap.size + 1, 0, none⟩) (by simp; omega)).trans ((hb4.cell (p := ⟨w.heap.size + 1, 0, none⟩) (by simp; omega)).trans q0)
  have q1 := (hb5.cell (p := ⟨w.heap.size + 1, 1, none⟩) (by simp; omega)).trans ((hb4.cell (p := ⟨w.heap.size + 1, 1, none⟩) (by simp; omega)).trans q1)
  have f0 := (hb5.frozen (p := ⟨w.heap.size + 1, 0, none⟩) (by simp; omega)).trans ((hb4.frozen (p := ⟨w.heap.size + 1, 0, none⟩) (by simp; omega)).trans f0)
  have f1 := (hb5.frozen (p := ⟨w.heap.size + 1, 1, none⟩) (by simp; omega)).trans ((hb4.frozen (p := ⟨w.heap.size + 1, 1, none⟩) (by simp; omega)).trans f1)
  have g0 := (hb5.cell (p := ⟨w.heap.size, 0, none⟩) (by simp; omega)).trans ((hb4.cell (p := ⟨w.heap.size, 0, none⟩) (by simp; omega)).trans g0)
  have k0 := (hb5.cell (p := ⟨w3.heap.size, 0, none⟩) (by simp; omega)).trans k0
  have k2 := (hb5.cell (p := ⟨w3.heap.size, 2, none⟩) (by simp; omega)).trans k2
  have hF5 := hF4.below hb5
  have hbw5 : Below w.heap.size w w5 := hbw4.trans (hb5.mono (by omega))
  have hq5 : w3.heap.size < w5.heap.size := by omega
  clear hb3 hb4 hb5 hF hF4 g1 hbw2 hbw3 hbw4
  go_wp2
  go_loopw [26] (fun i wr => ∃ (k : Nat) (v : Value) (es : List Value), k ≤ st.1.length ∧ i = .int .i64 k ∧ Below w5.heap.size w5 wr ∧ wr.cell? ⟨w5.heap.size, 0, none⟩ = some v ∧ wr.frozen? ⟨w5.heap.size, 0, none⟩ = false ∧ wr.cell? ⟨w5.heap.size, 1, none⟩ = some (.slice ar' g.roots.length cr') ∧
      ObjRow wr (w5.heap.size + 1) v ((st.1.take k).map (fun o => (fieldsOf g o).map (renV st.1))) es) (fun i _ => st.1.length - (intOf i).toNat)
  case atStart => exact ⟨0, .slice none 0 0, [], Nat.zero_le _, rfl, (Below.refl _ _).alloc (Nat.le_refl _) _, by simp [go_sem], by simp [go_sem], by simp [go_sem], objRow_nil _ _⟩
  case round =>
    obtain ⟨k, v, es, hk, rfl, hb, c0, cf0, c1, hrow⟩ := hrel
    have hsz := hb.size
    by_cases hlt : k < st.1.length
    · have hFr := hF5.below hb
      have g0 := (hb.cell (p := ⟨w.heap.size, 0, none⟩) (by simp; omega)).trans g0
      have k2 := (hb.cell (p := ⟨w3.heap.size, 2, none⟩) (by simp; omega)).trans k2
      obtain ⟨gg, capg, hvo, hx1, hgl1⟩ := ints_at hFr.ord hlt
      have hro := hok.rng _ (List.getElem_mem hlt)
      have HT := hide (List.take_succ_eq_append_getElem hlt)
      generalize st.1[k] = o at *
      obtain ⟨o, rfl⟩ := Int.eq_ofNat_of_zero_le hro.1
      have hoN : o < g.objs.length := by omega
      have hbwr : Below B w wr := (hbw5.mono hB).trans (hb.mono (by have := hbw5.size; omega))
      obtain ⟨b, off, ai, ci, rfl, hbB, hcb, hva⟩ := (ho.below hbwr).at hoN
      have Hfs := hide (show fieldsOf g (o : Int) = g.objs[o] by simp [fieldsOf, hoN])
      have hl4 := hG.n4 _ (List.getElem_mem hoN)
      have Hrf := hide (hG.refsObjs (List.getElem_mem hoN))
      generalize g.objs[o] = fs at *
      injection hvo with hv1 hv2 hv3
      subst hv1 hv3
      have hLk : ((st.1.take k).map (fun o => (fieldsOf g o).map (renV st.1))).length = k := by simp; omega
      have hrr := hrow.row
      rw [hLk] at hrr
      obtain ⟨ca, cc, rfl⟩ := ownsRow_slice hrr
      obtain ⟨i0, hi, hz0, hz1, hz2⟩ := info_parts Try.info43
      have hoI : (o : Int) < (g.objs.length : Int) := by omega
      have hq : w5.heap.size < wr.heap.size := World.block_lt_of_cell? wr _ c0
      have hvr : Vals wr.drew.heap.size wr.drew ai fs := (hva.mono (B' := wr.heap.size) (by have := hbwr.size; omega)).below (Below.refl _ _).drew
      have hfl : fs.length ≤ 1000 := by omega
      have hmx : k + 1 ≤ maxLen := by simp only [maxLen]; omega
      have hmy : (k + 1) * 24 ≤ 140737488355328 := by omega
      have HL := hide hLk
      have HR := hide hrow
      clear hLk
      go_wp2
      go_region_law (first
        | (refine step_append_at rfl _ _ 22 rfl (w5.heap.size + 1) 43 i0 _ 1 24 Try.underlying22 hi hz0 hz1 hz2 rfl (Nat.zero_lt_one) (.slice ca k cc) k es rfl hrow6 ⟨w6.heap.size, 0, none⟩ 1 1 [.slice a6 fs.length c6] rfl rfl (cell_one_at _ _ _ _ rfl) hone hmx hmy hbase6 ?_; intro v' w7 hrow7 hg7 hat7; obtain ⟨g7, cap7, hv7⟩ := ownsRow_succ hrow7; subst hv7; have c07 := hg7.cell ((World.grownBy_alloc w6 (.cells #[.slice a6 fs.length c6] 43) none).cell c06 (by simp)) (fun e => hncb e.symm); have cf7 := (hg7.block w5.heap.size (by simp; omega) (fun e => hncb e.symm)); have cf8 := (World.frozen?_of_block (a := ⟨w5.heap.size, 0, none⟩) cf7).trans cf6a; have Hcf7 := hide cf7; clear cf7)
        | (refine step_call rfl 23 #[.slice ai fs.length ci, .map (some mb)] (by go_simp) (fun v w6 => ∃ a6 c6, v = .slice a6 fs.length c6 ∧ Vals w6.heap.size w6 a6 (fs.map (renV st.1)) ∧ (∀ b off, a6 = some ⟨b, off, none⟩ → wr.heap.size ≤ b) ∧ Below wr.heap.size wr w6) ((renumber_c ai ci fs mb _ D st.1 _ hvr (unhide Hrf) hfl hFr.drew.map hFr.plc).mono (by rintro e w6 ⟨a6, c6, rfl, hV6, hbs6, hb6⟩; exact ⟨_, rfl, a6, c6, rfl, hV6, hbs6, (Below.refl _ _).drew.trans hb6⟩)) ?_; rintro v6 w6 ⟨a6, c6, rfl, hV6, hbs6, hb6'⟩; have hrow6 := (hrr.kept (grown_of_below hb6') (by cases hv : Value.ownBlock (.slice ca k cc) <;> simp)).alloc (.cells #[.slice a6 fs.length c6] 43); have hs6 := hb6'.size; have c06 := (hb6'.cell (p := ⟨w5.heap.size, 0, none⟩) hq).trans c0; have cf6 := (hb6'.frozen (p := ⟨w5.heap.size, 0, none⟩) hq).trans cf0; have hq6 : w5.heap.size < w6.heap.size := Nat.lt_of_lt_of_le hq hs6; have cf6a : (w6.alloc (.cells #[.slice a6 fs.length c6] 43)).frozen? ⟨w5.heap.size, 0, none⟩ = false := (World.frozen?_of_block (a := ⟨w5.heap.size, 0, none⟩) (Below.heap_alloc w6 _ _ hq6)).trans cf6; have hone : ∀ u ∈ ([.slice a6 fs.length c6] : List Value), u.oneCell' = true := (by simp [Value.oneCell']); have hbase6 : w5.heap.size + 1 ≤ (w6.alloc (.cells #[.slice a6 fs.length c6] 43)).heap.size := (by simp; omega); have hncb : Value.ownBlock (.slice ca k cc) ≠ some w5.heap.size := (fun e => by have := (hrr.lt _ e).1; omega)))
      all_goals
        go_wp2
        go_roundw
        case rel =>
          obtain ⟨r1, r2⟩ := obj_step (l := fs.map (renV st.1)) (ci := c6) (unhide HR) (by omega) hV6 hb6' hbs6 (by rw [unhide HL, List.length_map]; exact hrow7) hg7 hat7 rfl
          refine ⟨k + 1, _, _, by omega, by go_num, hb.trans r2, World.cell?_setCell_same' _ _ _ (by rw [c07]; rfl), by rw [World.frozen?_setCell]; exact cf8, ?_, by rw [unhide HT, List.map_append, List.map_cons, List.map_nil, unhide Hfs]; exact r1⟩
          rw [World.cell?_setCell_other _ _ _ _ (by simp)]
          exact (World.cell?_of_block (a := ⟨w5.heap.size, 1, none⟩) (unhide Hcf7)).trans ((World.cell?_of_block (a := ⟨w5.heap.size, 1, none⟩) (Below.heap_alloc w6 _ _ hq6)).trans ((hb6'.cell (p := ⟨w5.heap.size, 1, none⟩) hq).trans c1))
        case measure => simp [intOf]; omega
    · obtain rfl : k = st.1.length := by omega
      rw [List.take_length] at hrow
      have hL : (st.1.map (fun o => (fieldsOf g o).map (renV st.1))) = (canonG g).objs := by rw [unhide HO]; rfl
      have hR : g.roots.map (renV st.1) = (canonG g).roots := by rw [unhide HO]; rfl
      rw [hL] at hrow
      rw [hR] at hV5
      have hLl : (canonG g).objs.length = st.1.length := by rw [← hL]; simp
      have hRl : (canonG g).roots.length = g.roots.length := by rw [← hR]; simp
      obtain ⟨va, vc, hv, hO⟩ := hrow.objs (by omega)
      subst hv
      have hV6 := (hV5.below hb).mono (B' := wr.heap.size) (by omega)
      have HLl := hide hLl
      have HRl := hide hRl
      clear hL hR hLl hRl
      have q0 := (hb.cell (p := ⟨w.heap.size + 1, 0, none⟩) (by simp; omega)).trans q0
      have q1 := (hb.cell (p := ⟨w.heap.size + 1, 1, none⟩) (by simp; omega)).trans q1
      have f0 := (hb.frozen (p := ⟨w.heap.size + 1, 0, none⟩) (by simp; omega)).trans f0
      have f1 := (hb.frozen (p := ⟨w.heap.size + 1, 1, none⟩) (by simp; omega)).trans f1
      have HR := hide hrow
      clear hO hrow
      go_wp2
      refine bodyPost_ret (v := .tuple #[.agg #[.slice va (canonG g).objs.length vc, .slice ar' g.roots.length cr'], .int .i64 0]) (by simp [results, Try.results11, go_sem, q0, q1]) rfl ?_
      obtain ⟨va', vc', hv, hO⟩ := (((unhide HR).setCell (p := ⟨w.heap.size + 1, 0, none⟩) (by simp; omega) (.slice va (canonG g).objs.length vc)).setCell (p := ⟨w.heap.size + 1, 1, none⟩) (by simp; omega) (.slice ar' g.roots.length cr')).objs (by rw [unhide HLl]; omega)
      injection hv with h1 _ h3
      subst h1 h3
      refine ⟨_, _, ar', cr', by rw [unhide HRl], hO, ?_, ?_⟩
      · refine Vals.mono ((hV6.setCell ⟨w.heap.size + 1, 0, none⟩ (.slice va (canonG g).objs.length vc) (fun b off e => ?_)).setCell ⟨w.heap.size + 1, 1, none⟩ (.slice ar' g.roots.length cr') (fun b off e => ?_)) (by simp [World.setCell])
        · have := hbs5 b off e; simp; omega
        · have := hbs5 b off e; simp; omega
      · exact (((hbw5.trans (hb.mono (by omega)))).setCell (p := ⟨w.heap.size + 1, 0, none⟩) (by simp) _).setCell (p := ⟨w.heap.size + 1, 1, none⟩) (by simp) _

end Go.Proofs.Ytmelhphhealomaa
