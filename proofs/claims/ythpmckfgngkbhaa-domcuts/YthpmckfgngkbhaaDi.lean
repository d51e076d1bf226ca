/- Walks: the law's cut. -/
import Derived.Test.YthpmckfgngkbhaaProg
import Derived.Test.YthpmckfgngkbhaaMem
import Derived.Test.YthpmckfgngkbhaaDh
namespace Go.Proofs.Ythpmckfgngkbhaa
set_option linter.unusedSimpArgs false
set_option linter.unusedVariables false
open Go.RowKit

set_option maxRecDepth 100000 in
set_option maxHeartbeats 1000000 in
theorem cut1_c (a : Option Addr) (cap pb : Nat) (vs : List V) (v : Int) (w : World) (hv : Vals w.heap.size w a vs) (hp : w.cell? ⟨pb, 0, none⟩ = some (.int .i64 v)) (hlen : vs.length ≤ 1000) :
    Calls Try.prog 33 #[.slice a vs.length cap, .pointer (some ⟨pb, 0, none⟩)] w fun e w' => ∃ a' cap', e = .returned (.slice a' vs.length cap') ∧ Vals w'.heap.size w' a' (vs.map (cutV v)) ∧ (∀ b off, a' = some ⟨b, off, none⟩ → w.heap.size ≤ b) ∧ Below w.heap.size w w' := by
  obtain ⟨i0, hi, hz0, hz1, hz2⟩ := info_parts Try.info54
  have hpb : pb < w.heap.size := World.block_lt_of_cell? w _ hp
  go_enter Try.func33, Try.ntmps33
  go_wp2
  go_loopw [4, 9] (fun s i wr => ∃ k : Nat, k ≤ vs.length ∧ i = .int .i64 k ∧ wr.ownsRow w.heap.size 54 2 s k (cellsV ((vs.take k).map (cutV v))) ∧ Below w.heap.size w wr) (fun _ i _ => vs.length - (intOf i).toNat)
  case atStart => exact ⟨0, Nat.zero_le _, rfl, by simpa [cellsV] using World.ownsRow_nil _ _ _ _, Below.refl _ _⟩
  case round =>
    obtain ⟨k, hk, rfl, hown, hb⟩ := hrel
    have hsz := hb.size
    by_cases hlt : k < vs.length
    · obtain ⟨b, off, r, n, rfl, hbB, hc1, hc2, Hv⟩ := (hv.below hb).at hlt
      have hpr := (hb.cell (p := ⟨pb, 0, none⟩) hpb).trans hp
      have hpw : pb < wr.heap.size := by omega
      have HT := hide (List.take_succ_eq_append_getElem hlt)
      rw [Hv.out] at HT
      have Hfin : Hid (∀ r' m, cutV v (r, n) = (r', m) → cellsV ((vs.take (k + 1)).map (cutV v)) = cellsV ((vs.take k).map (cutV v)) ++ [.bool r', .int .i64 m]) := by
        intro r' m hm
        rw [unhide HT, List.map_append, List.map_cons, List.map_nil, hm, cellsV_snoc]
      have hmx : k + 1 ≤ maxLen := by simp only [maxLen]; omega
      have hmy : (k + 1) * 16 ≤ 140737488355328 := by omega
      cases r
      · have HF := hide (unhide Hfin false n (by simp [cutV]))
        go_wp2_with (at_builtin; go_must (refine wpList_append_own _ rfl _ _ 23 rfl w.heap.size 54 i0 _ 2 16 Try.underlying23 hi hz0 hz1 hz2 rfl (by decide) _ _ _ rfl ((hown.alloc _).alloc _) ⟨wr.heap.size + 1, 0, none⟩ 1 1 [.bool false, .int .i64 n] rfl rfl (cell_two_at _ _ _ _ _ (by simp)) (by simp [Value.oneCell']) hmx hmy (by simp; omega) ?_); intro v' w1 hown' hgrow _)
        go_roundw
        case rel => exact ⟨k + 1, by omega, by go_num, by rw [unhide HF]; exact hown', ((hb.alloc hsz _).alloc (by simp; omega) _).grown hgrow (by simp; omega) (fun q e => (hown.lt q e).1)⟩
        case measure => simp [intOf]; omega
      · by_cases hnv : n = v
        · subst hnv
          have HF := hide (unhide Hfin false 0 (by simp [cutV]))
          go_wp2_with (at_builtin; go_must (refine wpList_append_own _ rfl _ _ 23 rfl w.heap.size 54 i0 _ 2 16 Try.underlying23 hi hz0 hz1 hz2 rfl (by decide) _ _ _ rfl ((hown.alloc _).alloc _) ⟨wr.heap.size + 1, 0, none⟩ 1 1 [.bool false, .int .i64 0] rfl rfl (cell_two_at _ _ _ _ _ (by simp)) (by simp [Value.oneCell']) hmx hmy (by simp; omega) ?_); intro v' w1 hown' hgrow _)
          go_roundw
          case rel => exact ⟨k + 1, by omega, by go_num, by rw [unhide HF]; exact hown', ((hb.alloc hsz _).alloc (by simp; omega) _).grown hgrow (by simp; omega) (fun q e => (hown.lt q e).1)⟩
          case measure => simp [intOf]; omega
        · have HF := hide (unhide Hfin true n (by simp [cutV, hnv]))
          have d : (n == v) = false := by simpa using hnv
          go_wp2_with (at_builtin; go_must (refine wpList_append_own _ rfl _ _ 23 rfl w.heap.size 54 i0 _ 2 16 Try.underlying23 hi hz0 hz1 hz2 rfl (by decide) _ _ _ rfl ((hown.alloc _).alloc _) ⟨wr.heap.size + 1, 0, none⟩ 1 1 [.bool true, .int .i64 n] rfl rfl (cell_two_at _ _ _ _ _ (by simp)) (by simp [Value.oneCell']) hmx hmy (by simp; omega) ?_); intro v' w1 hown' hgrow _)
          go_roundw
          case rel => exact ⟨k + 1, by omega, by go_num, by rw [unhide HF]; exact hown', ((hb.alloc hsz _).alloc (by simp; omega) _).grown hgrow (by simp; omega) (fun q e => (hown.lt q e).1)⟩
          case measure => simp [intOf]; omega
    · obtain rfl : k = vs.length := by omega
      rw [List.take_length] at hown
      obtain ⟨a', cap', hv', hV, hbs⟩ := vals_of_owns hown (by simp) (by omega)
      simp only [List.length_map] at hv'
      have Hv' := hide hv'
      clear hv'
      go_wp2
      go_ret
      exact ⟨a', cap', congrArg Ending.returned (unhide Hv'), hV, hbs, hb⟩

theorem grown_of_below2 {W W' : World} (hb : Below W.heap.size W W') : W.grownBy W' none := ⟨hb.os, hb.tape, hb.output, hb.size, fun k hk _ => hb.block k hk⟩

set_option maxRecDepth 100000 in
set_option maxHeartbeats 4000000 in
theorem cut_c (ao ar : Option Addr) (co cr : Nat) (g : Gr) (v : Int) (w : World) (ho : Objs w.heap.size w ao g.objs) (hr : Vals w.heap.size w ar g.roots) (hG : Good g) :
    Calls Try.prog 15 #[.agg #[.slice ao g.objs.length co, .slice ar g.roots.length cr], .int .i64 v] w fun e w' => ∃ ao' co' ar' cr', e = .returned (.agg #[.slice ao' (cutG g v).objs.length co', .slice ar' (cutG g v).roots.length cr']) ∧
      Objs w'.heap.size w' ao' (cutG g v).objs ∧ Vals w'.heap.size w' ar' (cutG g v).roots ∧ Below w.heap.size w w' := by
  have hn8 := hG.n8
  have hn24 := hG.n24
  obtain ⟨W4, hW4⟩ : ∃ W4, ((w.alloc (.cells #[.slice ao g.objs.length co, .slice ar g.roots.length cr] 25)).alloc (.cells #[.int .i64 v] 3)).alloc (.cells #[.slice none 0 0, .slice none 0 0] 25) = W4 := ⟨_, rfl⟩
  have hb1 : Below w.heap.size w W4 := by rw [← hW4]; exact (((Below.refl w.heap.size w).alloc (Nat.le_refl _) _).alloc (by simp) _).alloc (by simp; omega) _
  have hs4 : w.heap.size + 2 < W4.heap.size := by rw [← hW4]; simp
  have q0 : W4.cell? ⟨w.heap.size + 2, 0, none⟩ = some (.slice none 0 0) := by rw [← hW4]; simp [go_sem]
  have q1 : W4.cell? ⟨w.heap.size + 2, 1, none⟩ = some (.slice none 0 0) := by rw [← hW4]; simp [go_sem]
  have f0 : W4.frozen? ⟨w.heap.size + 2, 0, none⟩ = false := by rw [← hW4]; simp [go_sem]
  have f1 : W4.frozen? ⟨w.heap.size + 2, 1, none⟩ = false := by rw [← hW4]; simp [go_sem]
  have g0 : W4.cell? ⟨w.heap.size, 0, none⟩ = some (.slice ao g.objs.length co) := by rw [← hW4]; simp [go_sem]
  have g1 : W4.cell? ⟨w.heap.size, 1, none⟩ = some (.slice ar g.roots.length cr) := by rw [← hW4]; simp [go_sem]
  have p0 : W4.cell? ⟨w.heap.size + 1, 0, none⟩ = some (.int .i64 v) := by rw [← hW4]; simp [go_sem]
  go_enter Try.func15, Try.ntmps15
  go_wp2_with fail
  refine (cut1_c ar cr (w.heap.size + 1) g.roots v W4 ((hr.below hb1).mono (by omega)) p0 (by omega)).mono ?_
  rintro e w5 ⟨ar', cr', rfl, hV5, hbs5, hb5⟩
  clear hW4
  have hs5 := hb5.size
  have q0 := (hb5.cell (p := ⟨w.heap.size + 2, 0, none⟩) (by simp; omega)).trans q0
  have q1 := (hb5.cell (p := ⟨w.heap.size + 2, 1, none⟩) (by simp; omega)).trans q1
  have f0 := (hb5.frozen (p := ⟨w.heap.size + 2, 0, none⟩) (by simp; omega)).trans f0
  have f1 := (hb5.frozen (p := ⟨w.heap.size + 2, 1, none⟩) (by simp; omega)).trans f1
  have g0 := (hb5.cell (p := ⟨w.heap.size, 0, none⟩) (by simp; omega)).trans g0
  have p0 := (hb5.cell (p := ⟨w.heap.size + 1, 0, none⟩) (by simp; omega)).trans p0
  have hbw5 : Below w.heap.size w w5 := hb1.trans (hb5.mono (by omega))
  clear hb1 hb5 g1
  have hlt5 : w.heap.size < w5.heap.size := by omega
  go_wp2
  go_loopw [18] (fun i wr => ∃ (k : Nat) (x : Value) (es : List Value), k ≤ g.objs.length ∧ i = .int .i64 k ∧ Below w5.heap.size w5 wr ∧ wr.cell? ⟨w5.heap.size, 0, none⟩ = some x ∧ wr.frozen? ⟨w5.heap.size, 0, none⟩ = false ∧ wr.cell? ⟨w5.heap.size, 1, none⟩ = some (.slice ar' g.roots.length cr') ∧
      ObjRow wr (w5.heap.size + 1) x ((g.objs.take k).map (fun l => l.map (cutV v))) es) (fun i _ => g.objs.length - (intOf i).toNat)
  case atStart => exact ⟨0, .slice none 0 0, [], Nat.zero_le _, rfl, (Below.refl _ _).alloc (Nat.le_refl _) _, by simp [go_sem], by simp [go_sem], by simp [go_sem], objRow_nil _ _⟩
  case round =>
    obtain ⟨k, x, es, hk, rfl, hb, c0, cf0, c1, hrow⟩ := hrel
    have hsz := hb.size
    have hbwr : Below w.heap.size w wr := hbw5.trans (hb.mono (by have := hbw5.size; omega))
    by_cases hlt : k < g.objs.length
    · have HT := hide (List.take_succ_eq_append_getElem hlt)
      have hl4 := hG.n4 _ (List.getElem_mem hlt)
      have hq : w5.heap.size < wr.heap.size := World.block_lt_of_cell? wr _ c0
      obtain ⟨b, off, ai, ci, rfl, hbB, hcb, hva⟩ := (ho.below hbwr).at hlt
      generalize g.objs[k] = fs at *
      have hLk : ((g.objs.take k).map (fun l => l.map (cutV v))).length = k := by simp; omega
      obtain ⟨W1, hW1⟩ : ∃ W1, wr.alloc (.cells #[.slice ai fs.length ci] 51) = W1 := ⟨_, rfl⟩
      have hbW1 : Below wr.heap.size wr W1 := by rw [← hW1]; exact (Below.refl _ _).alloc (Nat.le_refl _) _
      have hsW1 : wr.heap.size < W1.heap.size := by rw [← hW1]; simp
      have bx : W1.cell? ⟨wr.heap.size, 0, none⟩ = some (.slice ai fs.length ci) := by rw [← hW1]; simp [go_sem]
      have hrow := hrow.below hbW1
      have hrr := hrow.row
      rw [hLk] at hrr
      obtain ⟨ca, cc, rfl⟩ := ownsRow_slice hrr
      obtain ⟨i0, hi, hz0, hz1, hz2⟩ := info_parts Try.info51
      have hoI : (k : Int) < (g.objs.length : Int) := by omega
      have c0 := (hbW1.cell (p := ⟨w5.heap.size, 0, none⟩) hq).trans c0
      have c1 := (hbW1.cell (p := ⟨w5.heap.size, 1, none⟩) hq).trans c1
      have cf0 := (hbW1.frozen (p := ⟨w5.heap.size, 0, none⟩) hq).trans cf0
      have hq1 : w5.heap.size < W1.heap.size := by omega
      have hvr : Vals W1.drew.heap.size W1.drew ai fs := (((hva.mono (B' := wr.heap.size) (by have := hbwr.size; omega)).below hbW1).mono (B' := W1.heap.size) (by omega)).below (Below.refl _ _).drew
      have pr : W1.drew.cell? ⟨w.heap.size + 1, 0, none⟩ = some (.int .i64 v) := ((Below.refl W1.heap.size W1).drew.cell (p := ⟨w.heap.size + 1, 0, none⟩) (by simp; omega)).trans ((hbW1.cell (p := ⟨w.heap.size + 1, 0, none⟩) (by simp; omega)).trans ((hb.cell (p := ⟨w.heap.size + 1, 0, none⟩) (by simp; omega)).trans p0))
      have hfl : fs.length ≤ 1000 := by omega
      have hmx : k + 1 ≤ maxLen := by simp only [maxLen]; omega
      have hmy : (k + 1) * 24 ≤ 140737488355328 := by omega
      have HL := hide hLk
      have HR := hide hrow
      clear hLk
      go_wp2
      clear hW1
      go_region_law (first
        | (refine step_append_at rfl _ _ 22 rfl (w5.heap.size + 1) 51 i0 _ 1 24 Try.underlying22 hi hz0 hz1 hz2 rfl (Nat.zero_lt_one) (.slice ca k cc) k es rfl hrow6 ⟨w6.heap.size, 0, none⟩ 1 1 [.slice a6 fs.length c6] rfl rfl (cell_one_at _ _ _ _ rfl) hone hmx hmy hbase6 ?_; intro v' w7 hrow7 hg7 hat7; obtain ⟨g7, cap7, hv7⟩ := ownsRow_succ hrow7; subst hv7; have c07 := hg7.cell ((World.grownBy_alloc w6 (.cells #[.slice a6 fs.length c6] 51) none).cell c06 (by simp)) (fun e => hncb e.symm); have cf7 := (hg7.block w5.heap.size (by simp; omega) (fun e => hncb e.symm)); have cf8 := (World.frozen?_of_block (a := ⟨w5.heap.size, 0, none⟩) cf7).trans cf6a; have Hcf7 := hide cf7; clear cf7)
        | (refine step_call rfl 33 #[.slice ai fs.length ci, .pointer (some ⟨w.heap.size + 1, 0, none⟩)] (by go_simp) (fun vv w6 => ∃ a6 c6, vv = .slice a6 fs.length c6 ∧ Vals w6.heap.size w6 a6 (fs.map (cutV v)) ∧ (∀ b off, a6 = some ⟨b, off, none⟩ → W1.heap.size ≤ b) ∧ Below W1.heap.size W1 w6) ((cut1_c ai ci (w.heap.size + 1) fs v _ hvr pr hfl).mono (by rintro e w6 ⟨a6, c6, rfl, hV6, hbs6, hb6⟩; exact ⟨_, rfl, a6, c6, rfl, hV6, hbs6, (Below.refl _ _).drew.trans hb6⟩)) ?_; rintro v6 w6 ⟨a6, c6, rfl, hV6, hbs6, hb6'⟩; have hrow6 := (hrr.kept (grown_of_below2 hb6') (by cases hv : Value.ownBlock (.slice ca k cc) <;> simp)).alloc (.cells #[.slice a6 fs.length c6] 51); have hs6 := hb6'.size; have c06 := (hb6'.cell (p := ⟨w5.heap.size, 0, none⟩) hq1).trans c0; have cf6 := (hb6'.frozen (p := ⟨w5.heap.size, 0, none⟩) hq1).trans cf0; have hq6 : w5.heap.size < w6.heap.size := Nat.lt_of_lt_of_le hq1 hs6; have cf6a : (w6.alloc (.cells #[.slice a6 fs.length c6] 51)).frozen? ⟨w5.heap.size, 0, none⟩ = false := (World.frozen?_of_block (a := ⟨w5.heap.size, 0, none⟩) (Below.heap_alloc w6 _ _ hq6)).trans cf6; have hone : ∀ u ∈ ([.slice a6 fs.length c6] : List Value), u.oneCell' = true := (by simp [Value.oneCell']); have hbase6 : w5.heap.size + 1 ≤ (w6.alloc (.cells #[.slice a6 fs.length c6] 51)).heap.size := (by simp; omega); have hncb : Value.ownBlock (.slice ca k cc) ≠ some w5.heap.size := (fun e => by have := (hrr.lt _ e).1; omega)))
      all_goals
        go_wp2
        go_roundw
        case rel =>
          obtain ⟨r1, r2⟩ := obj_step (l := fs.map (cutV v)) (ci := c6) (unhide HR) (by omega) hV6 hb6' hbs6 (by rw [unhide HL, List.length_map]; exact hrow7) hg7 hat7 rfl
          refine ⟨k + 1, _, _, by omega, by go_num, hb.trans ((hbW1.mono (by omega)).trans r2), World.cell?_setCell_same' _ _ _ (by rw [c07]; rfl), by rw [World.frozen?_setCell]; exact cf8, ?_, by rw [unhide HT, List.map_append, List.map_cons, List.map_nil]; exact r1⟩
          rw [World.cell?_setCell_other _ _ _ _ (by simp)]
          exact (World.cell?_of_block (a := ⟨w5.heap.size, 1, none⟩) (unhide Hcf7)).trans ((World.cell?_of_block (a := ⟨w5.heap.size, 1, none⟩) (Below.heap_alloc w6 _ _ hq6)).trans ((hb6'.cell (p := ⟨w5.heap.size, 1, none⟩) hq1).trans c1))
        case measure => simp [intOf]; omega
    · obtain rfl : k = g.objs.length := by omega
      rw [List.take_length] at hrow
      have hL : (g.objs.map (fun l => l.map (cutV v))) = (cutG g v).objs := rfl
      have hR : g.roots.map (cutV v) = (cutG g v).roots := rfl
      rw [hL] at hrow
      rw [hR] at hV5
      have hLl : (cutG g v).objs.length = g.objs.length := by rw [← hL]; simp
      have hRl : (cutG g v).roots.length = g.roots.length := by rw [← hR]; simp
      obtain ⟨va, vc, hv, hO⟩ := hrow.objs (by omega)
      subst hv
      have hV6 := (hV5.below hb).mono (B' := wr.heap.size) (by omega)
      have HLl := hide hLl
      have HRl := hide hRl
      clear hL hR hLl hRl
      have q0 := (hb.cell (p := ⟨w.heap.size + 2, 0, none⟩) (by simp; omega)).trans q0
      have q1 := (hb.cell (p := ⟨w.heap.size + 2, 1, none⟩) (by simp; omega)).trans q1
      have f0 := (hb.frozen (p := ⟨w.heap.size + 2, 0, none⟩) (by simp; omega)).trans f0
      have f1 := (hb.frozen (p := ⟨w.heap.size + 2, 1, none⟩) (by simp; omega)).trans f1
      have HR := hide hrow
      clear hO hrow
      go_wp2
      refine bodyPost_ret (v := .agg #[.slice va (cutG g v).objs.length vc, .slice ar' g.roots.length cr']) (by simp [results, Try.results15, go_sem, q0, q1]) rfl ?_
      have hO := ((unhide HR).setCell (p := ⟨w.heap.size + 2, 0, none⟩) (by simp; omega) (.slice va (cutG g v).objs.length vc)).setCell (p := ⟨w.heap.size + 2, 1, none⟩) (by simp; omega) (.slice ar' g.roots.length cr')
      obtain ⟨va', vc', hv', hO'⟩ := hO.objs (by rw [unhide HLl]; omega)
      injection hv' with e1 _ e3
      subst e1 e3
      refine ⟨_, _, ar', cr', by rw [unhide HRl], hO', ?_, ?_⟩
      · refine Vals.mono ((hV6.setCell ⟨w.heap.size + 2, 0, none⟩ (.slice va (cutG g v).objs.length vc) (fun b off e => ?_)).setCell ⟨w.heap.size + 2, 1, none⟩ (.slice ar' g.roots.length cr') (fun b off e => ?_)) (by simp [World.setCell])
        · have := hbs5 b off e; simp; omega
        · have := hbs5 b off e; simp; omega
      · exact (hbwr.setCell (p := ⟨w.heap.size + 2, 0, none⟩) (by simp) _).setCell (p := ⟨w.heap.size + 2, 1, none⟩) (by simp) _

end Go.Proofs.Ythpmckfgngkbhaa
