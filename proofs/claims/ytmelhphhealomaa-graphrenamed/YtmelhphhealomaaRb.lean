/- Walks: the document's answer: Renumber. -/
import Derived.Test.YtmelhphhealomaaProg
import Derived.Test.YtmelhphhealomaaMem
import Derived.Test.YtmelhphhealomaaRa
import Derived.Test.YtmelhphhealomaaWr
namespace Go.Proofs.Ytmelhphhealomaa
set_option linter.unusedSimpArgs false
set_option linter.unusedVariables false
open Go.RowKit

/-- The objects of a list alone. -/
def renG (g : Gr) (l : List Int) : Gr := { objs := l.map (fun o => (fieldsOf g o).map (renV l)), roots := g.roots.map (renV l) }

set_option maxRecDepth 100000 in
set_option maxHeartbeats 1000000 in
theorem renum_c (ao ar al : Option Addr) (co cr cl : Nat) (g : Gr) (l : List Int) (w : World) (ho : Objs w.heap.size w ao g.objs) (hr : Vals w.heap.size w ar g.roots) (hl : Ints w.heap.size w al l)
    (hG : Good g) (hln : l.length ≤ 24) (hin : ∀ o ∈ l, 0 ≤ o ∧ o < g.objs.length) :
    Calls Try.prog 27 #[.agg #[.slice ao g.objs.length co, .slice ar g.roots.length cr], .slice al l.length cl] w fun e w' => ∃ ao' co' ar' cr', e = .returned (.agg #[.slice ao' (renG g l).objs.length co', .slice ar' (renG g l).roots.length cr']) ∧
      (∃ base es, w.heap.size ≤ base ∧ ObjRow w' base (.slice ao' (renG g l).objs.length co') (renG g l).objs es) ∧ Vals w'.heap.size w' ar' (renG g l).roots ∧ (∀ b off, ar' = some ⟨b, off, none⟩ → w.heap.size ≤ b) ∧ Below w.heap.size w w' := by
  have hn8 := hG.n8
  obtain ⟨W4, hW4⟩ : ∃ W4, (w.alloc (.cells #[.slice ao g.objs.length co, .slice ar g.roots.length cr] 25)).alloc (.cells #[.slice none 0 0, .slice none 0 0] 25) = W4 := ⟨_, rfl⟩
  have hb1 : Below w.heap.size w W4 := by rw [← hW4]; exact ((Below.refl w.heap.size w).alloc (Nat.le_refl _) _).alloc (by simp) _
  have hs4 : w.heap.size + 1 < W4.heap.size := by rw [← hW4]; simp
  have q0 : W4.cell? ⟨w.heap.size + 1, 0, none⟩ = some (.slice none 0 0) := by rw [← hW4]; simp [go_sem]
  have q1 : W4.cell? ⟨w.heap.size + 1, 1, none⟩ = some (.slice none 0 0) := by rw [← hW4]; simp [go_sem]
  have f0 : W4.frozen? ⟨w.heap.size + 1, 0, none⟩ = false := by rw [← hW4]; simp [go_sem]
  have f1 : W4.frozen? ⟨w.heap.size + 1, 1, none⟩ = false := by rw [← hW4]; simp [go_sem]
  have g0 : W4.cell? ⟨w.heap.size, 0, none⟩ = some (.slice ao g.objs.length co) := by rw [← hW4]; simp [go_sem]
  have g1 : W4.cell? ⟨w.heap.size, 1, none⟩ = some (.slice ar g.roots.length cr) := by rw [← hW4]; simp [go_sem]
  go_enter Try.func27, Try.ntmps27
  go_wp2_with fail
  refine (turned_c ar al cr cl g.roots l W4 ((hr.below hb1).mono (by omega)) ((hl.below hb1).mono (by omega)) (by omega)).mono ?_
  rintro e w5 ⟨ar', cr', rfl, hV5, hbs5, hb5⟩
  clear hW4
  have hs5 := hb5.size
  have q0 := (hb5.cell (p := ⟨w.heap.size + 1, 0, none⟩) (by simp; omega)).trans q0
  have q1 := (hb5.cell (p := ⟨w.heap.size + 1, 1, none⟩) (by simp; omega)).trans q1
  have f0 := (hb5.frozen (p := ⟨w.heap.size + 1, 0, none⟩) (by simp; omega)).trans f0
  have f1 := (hb5.frozen (p := ⟨w.heap.size + 1, 1, none⟩) (by simp; omega)).trans f1
  have g0 := (hb5.cell (p := ⟨w.heap.size, 0, none⟩) (by simp; omega)).trans g0
  have hbw5 : Below w.heap.size w w5 := hb1.trans (hb5.mono (by omega))
  clear hb1 hb5 g1
  go_wp2
  go_loopw [15] (fun i wr => ∃ (k : Nat) (v : Value) (es : List Value), k ≤ l.length ∧ i = .int .i64 k ∧ Below w5.heap.size w5 wr ∧ wr.cell? ⟨w5.heap.size, 0, none⟩ = some v ∧ wr.frozen? ⟨w5.heap.size, 0, none⟩ = false ∧ wr.cell? ⟨w5.heap.size, 1, none⟩ = some (.slice ar' g.roots.length cr') ∧
      ObjRow wr (w5.heap.size + 1) v ((l.take k).map (fun o => (fieldsOf g o).map (renV l))) es) (fun i _ => l.length - (intOf i).toNat)
  case atStart => exact ⟨0, .slice none 0 0, [], Nat.zero_le _, rfl, (Below.refl _ _).alloc (Nat.le_refl _) _, by simp [go_sem], by simp [go_sem], by simp [go_sem], objRow_nil _ _⟩
  case round =>
    obtain ⟨k, v, es, hk, rfl, hb, c0, cf0, c1, hrow⟩ := hrel
    have hsz := hb.size
    have hbwr : Below w.heap.size w wr := hbw5.trans (hb.mono (by have := hbw5.size; omega))
    by_cases hlt : k < l.length
    · have g0 := (hb.cell (p := ⟨w.heap.size, 0, none⟩) (by simp; omega)).trans g0
      obtain ⟨gg, ogg, rfl, hgl1, hx1⟩ := (hl.below hbwr).at hlt
      have hro := hin _ (List.getElem_mem hlt)
      have HT := hide (List.take_succ_eq_append_getElem hlt)
      generalize l[k] = o at *
      obtain ⟨o, rfl⟩ := Int.eq_ofNat_of_zero_le hro.1
      have hoN : o < g.objs.length := by omega
      obtain ⟨b, off, ai, ci, rfl, hbB, hcb, hva⟩ := (ho.below hbwr).at hoN
      have Hfs := hide (show fieldsOf g (o : Int) = g.objs[o] by simp [fieldsOf, hoN])
      have hl4 := hG.n4 _ (List.getElem_mem hoN)
      generalize g.objs[o] = fs at *
      have hLk : ((l.take k).map (fun o => (fieldsOf g o).map (renV l))).length = k := by simp; omega
      have hrr := hrow.row
      rw [hLk] at hrr
      obtain ⟨ca, cc, rfl⟩ := ownsRow_slice hrr
      obtain ⟨i0, hi, hz0, hz1, hz2⟩ := info_parts Try.info43
      have hoI : (o : Int) < (g.objs.length : Int) := by omega
      have hq : w5.heap.size < wr.heap.size := World.block_lt_of_cell? wr _ c0
      have hvr : Vals wr.drew.heap.size wr.drew ai fs := (hva.mono (B' := wr.heap.size) (by have := hbwr.size; omega)).below (Below.refl _ _).drew
      have hlr : Ints wr.drew.heap.size wr.drew (some ⟨gg, ogg, none⟩) l := ((hl.below hbwr).mono (B' := wr.heap.size) hbwr.size).below (Below.refl _ _).drew
      have hfl : fs.length ≤ 1000 := by omega
      have hmx : k + 1 ≤ maxLen := by simp only [maxLen]; omega
      have hmy : (k + 1) * 24 ≤ 140737488355328 := by omega
      have HL := hide hLk
      have HR := hide hrow
      clear hLk
      go_wp2
      go_region_law (first
        | (refine step_append_at rfl _ _ 22 rfl (w5.heap.size + 1) 43 i0 _ 1 24 Try.underlying22 hi hz0 hz1 hz2 rfl (Nat.zero_lt_one) (.slice ca k cc) k es rfl hrow6 ⟨w6.heap.size, 0, none⟩ 1 1 [.slice a6 fs.length c6] rfl rfl (cell_one_at _ _ _ _ rfl) hone hmx hmy hbase6 ?_; intro v' w7 hrow7 hg7 hat7; obtain ⟨g7, cap7, hv7⟩ := ownsRow_succ hrow7; subst hv7; have c07 := hg7.cell ((World.grownBy_alloc w6 (.cells #[.slice a6 fs.length c6] 43) none).cell c06 (by simp)) (fun e => hncb e.symm); have cf7 := (hg7.block w5.heap.size (by simp; omega) (fun e => hncb e.symm)); have cf8 := (World.frozen?_of_block (a := ⟨w5.heap.size, 0, none⟩) cf7).trans cf6a; have Hcf7 := hide cf7; clear cf7)
        | (refine step_call rfl 39 #[.slice ai fs.length ci, .slice (some ⟨gg, ogg, none⟩) l.length cl] (by go_simp) (fun v w6 => ∃ a6 c6, v = .slice a6 fs.length c6 ∧ Vals w6.heap.size w6 a6 (fs.map (renV l)) ∧ (∀ b off, a6 = some ⟨b, off, none⟩ → wr.heap.size ≤ b) ∧ Below wr.heap.size wr w6) ((turned_c ai (some ⟨gg, ogg, none⟩) ci cl fs l _ hvr hlr hfl).mono (by rintro e w6 ⟨a6, c6, rfl, hV6, hbs6, hb6⟩; exact ⟨_, rfl, a6, c6, rfl, hV6, hbs6, (Below.refl _ _).drew.trans hb6⟩)) ?_; rintro v6 w6 ⟨a6, c6, rfl, hV6, hbs6, hb6'⟩; have hrow6 := (hrr.kept (grown_of_below hb6') (by cases hv : Value.ownBlock (.slice ca k cc) <;> simp)).alloc (.cells #[.slice a6 fs.length c6] 43); have hs6 := hb6'.size; have c06 := (hb6'.cell (p := ⟨w5.heap.size, 0, none⟩) hq).trans c0; have cf6 := (hb6'.frozen (p := ⟨w5.heap.size, 0, none⟩) hq).trans cf0; have hq6 : w5.heap.size < w6.heap.size := Nat.lt_of_lt_of_le hq hs6; have cf6a : (w6.alloc (.cells #[.slice a6 fs.length c6] 43)).frozen? ⟨w5.heap.size, 0, none⟩ = false := (World.frozen?_of_block (a := ⟨w5.heap.size, 0, none⟩) (Below.heap_alloc w6 _ _ hq6)).trans cf6; have hone : ∀ u ∈ ([.slice a6 fs.length c6] : List Value), u.oneCell' = true := (by simp [Value.oneCell']); have hbase6 : w5.heap.size + 1 ≤ (w6.alloc (.cells #[.slice a6 fs.length c6] 43)).heap.size := (by simp; omega); have hncb : Value.ownBlock (.slice ca k cc) ≠ some w5.heap.size := (fun e => by have := (hrr.lt _ e).1; omega)))
      all_goals
        go_wp2
        go_roundw
        case rel =>
          obtain ⟨r1, r2⟩ := obj_step (l := fs.map (renV l)) (ci := c6) (unhide HR) (by omega) hV6 hb6' hbs6 (by rw [unhide HL, List.length_map]; exact hrow7) hg7 hat7 rfl
          refine ⟨k + 1, _, _, by omega, by go_num, hb.trans r2, World.cell?_setCell_same' _ _ _ (by rw [c07]; rfl), by rw [World.frozen?_setCell]; exact cf8, ?_, by rw [unhide HT, List.map_append, List.map_cons, List.map_nil, unhide Hfs]; exact r1⟩
          rw [World.cell?_setCell_other _ _ _ _ (by simp)]
          exact (World.cell?_of_block (a := ⟨w5.heap.size, 1, none⟩) (unhide Hcf7)).trans ((World.cell?_of_block (a := ⟨w5.heap.size, 1, none⟩) (Below.heap_alloc w6 _ _ hq6)).trans ((hb6'.cell (p := ⟨w5.heap.size, 1, none⟩) hq).trans c1))
        case measure => simp [intOf]; omega
    · obtain rfl : k = l.length := by omega
      rw [List.take_length] at hrow
      have hL : (l.map (fun o => (fieldsOf g o).map (renV l))) = (renG g l).objs := rfl
      have hR : g.roots.map (renV l) = (renG g l).roots := rfl
      rw [hL] at hrow
      rw [hR] at hV5
      have hLl : (renG g l).objs.length = l.length := by rw [← hL]; simp
      have hRl : (renG g l).roots.length = g.roots.length := by rw [← hR]; simp
      obtain ⟨va, vc, hv, hO⟩ := hrow.objs (by omega)
      subst hv
      have hV6 := (hV5.below hb).mono (B' := wr.heap.size) (by omega)
      have HLl := hide hLl
      have HRl := hide hRl
      clear hL hR hLl hRl
      have q0 := (hb.cell (p := ⟨w.heap.size + 1, 0, none⟩) (by simp; omega)).trans q0
      have q1 := (hb.cell (p := ⟨w.heap.size + 1, 1, none⟩) (by simp; omega)).trans q1
      have f0 := (hb.frozen (p := ⟨w.heap.size + 1, 0, none⟩) (by simp; omega)).trans f0
      have f1 := (hb.frozen (p := ⟨w.heap.size + 1, 1, none⟩) (by simp; omega)).trans f1
      have HR := hide hrow
      clear hO hrow
      go_wp2
      refine bodyPost_ret (v := .agg #[.slice va (renG g l).objs.length vc, .slice ar' g.roots.length cr']) (by simp [results, Try.results27, go_sem, q0, q1]) rfl ?_
      have hO := ((unhide HR).setCell (p := ⟨w.heap.size + 1, 0, none⟩) (by simp; omega) (.slice va (renG g l).objs.length vc)).setCell (p := ⟨w.heap.size + 1, 1, none⟩) (by simp; omega) (.slice ar' g.roots.length cr')
      refine ⟨_, _, ar', cr', by rw [unhide HRl], ⟨_, _, by omega, hO⟩, ?_, fun b off e => by have := hbs5 b off e; omega, ?_⟩
      · refine Vals.mono ((hV6.setCell ⟨w.heap.size + 1, 0, none⟩ (.slice va (renG g l).objs.length vc) (fun b off e => ?_)).setCell ⟨w.heap.size + 1, 1, none⟩ (.slice ar' g.roots.length cr') (fun b off e => ?_)) (by simp [World.setCell])
        · have := hbs5 b off e; simp; omega
        · have := hbs5 b off e; simp; omega
      · exact (hbwr.setCell (p := ⟨w.heap.size + 1, 0, none⟩) (by simp) _).setCell (p := ⟨w.heap.size + 1, 1, none⟩) (by simp) _

end Go.Proofs.Ytmelhphhealomaa
