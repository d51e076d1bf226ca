/- Walks: the closure of split. -/
import Derived.Test.YtahdalejmfbkeaaAe
import Derived.Test.YtahdalejmfbkeaaWm
import Derived.Maps.OwnSet
import Derived.Maps.AppendAt
namespace Go.Proofs.Ytahdalejmfbkeaa
set_option linter.unusedSimpArgs false
set_option linter.unusedVariables false
open Go.RowKit Go.Shelf

theorem Try.info22 : (Try.prog.info? 22).map (fun i => (i.zero, i.size, i.bytes)) = some (some (.slice none 0 0), 1, 24) := by kernel_rfl

/-- The elements of a row of parts of words. -/
def ElsOk (B : Nat) (w0 : World) (D : List (List Int)) (es : List Value) : Prop :=
  ∀ (k : Nat) (f : List Int), D[k]? = some f → ∃ ai ci, es[k]? = some (.slice ai f.length ci) ∧ Wds B w0 ai f

theorem elsOk_snoc {B : Nat} {w0 : World} {D : List (List Int)} {es : List Value} (h : ElsOk B w0 D es) (hl : es.length = D.length) {f : List Int} {ai : Option Addr} {ci : Nat} (hf : Wds B w0 ai f) : ElsOk B w0 (D ++ [f]) (es ++ [.slice ai f.length ci]) := by
  intro k g hk
  by_cases hlt : k < D.length
  · rw [List.getElem?_append_left hlt] at hk
    obtain ⟨a, c, h1, h2⟩ := h k g hk
    exact ⟨a, c, by rw [List.getElem?_append_left (by omega)]; exact h1, h2⟩
  · rw [List.getElem?_append_right (by omega)] at hk
    rcases Nat.eq_zero_or_pos (k - D.length) with h0 | h0
    · rw [h0] at hk
      simp at hk
      subst hk
      refine ⟨ai, ci, ?_, hf⟩
      rw [List.getElem?_append_right (by omega), show k - es.length = 0 from by omega]; rfl
    · rw [List.getElem?_eq_none (by simp; omega)] at hk; cases hk

/-- A row of words, so far split, in memory. -/
structure Rowd (W w0 : World) (B mb : Nat) (D : List (List Int)) (vs vf : Value) (es : List Value) (M : DataW Unit) : Prop where
  box : FBox W mb vs vf
  st : W.ownsRow (mb + 2) 3 1 vs D.length (intsV (stF 0 D))
  fl : W.ownsRow (mb + 2) 22 1 vf D.length es
  el : ElsOk B w0 D es
  map : W.ownsMap Try.prog 3 (plainElem Try.prog 3) mb D.length M
  plc : PlaceD M (stF 0 D)
  apart : ∀ k, vs.ownBlock = some k → vf.ownBlock ≠ some k

theorem grown_none {W W' : World} (hb : Below W.heap.size W W') : W.grownBy W' none := ⟨hb.os, hb.tape, hb.output, hb.size, fun k hk _ => hb.block k hk⟩

theorem Rowd.below {W W' w0 : World} {B mb : Nat} {D : List (List Int)} {vs vf : Value} {es : List Value} {M : DataW Unit} (h : Rowd W w0 B mb D vs vf es M) (hb : Below W.heap.size W W') : Rowd W' w0 B mb D vs vf es M :=
  ⟨h.box.kept (hb.block _ h.box.lt), ownsRow_below h.st hb, ownsRow_below h.fl hb, h.el, h.map.kept (grown_none hb) (by simp), h.plc, h.apart⟩

theorem Rowd.setCell {W w0 : World} {B mb : Nat} {D : List (List Int)} {vs vf : Value} {es : List Value} {M : DataW Unit} (h : Rowd W w0 B mb D vs vf es M) (p : Addr) (hp : p.block < mb) (u : Value) : Rowd (W.setCell p u) w0 B mb D vs vf es M :=
  ⟨h.box.kept (Below.heap_setCell _ _ _ _ (by omega)), ownsRow_setCell_below h.st (by omega) u, ownsRow_setCell_below h.fl (by omega) u, h.el, h.map.setCell (by omega) u, h.plc, h.apart⟩

theorem row_step {X w0 w1 w2 w3 : World} {B mb : Nat} {D : List (List Int)} {vs vf v1 v2 : Value} {es : List Value} {M : DataW Unit} {f : List Int} {ai : Option Addr} {ci : Nat} {o1 o2 : Obj}
    (hR : Rowd X w0 B mb D vs vf es M) (hf : Wds B w0 ai f) (hg1 : X.grownBy w1 (some mb)) (hm1 : w1.ownsMap Try.prog 3 (plainElem Try.prog 3) mb (D.length + 1) (M.put (.int .i64 (tot D : Nat)) (.lit (.int .i64 D.length))))
    (hst2 : w2.ownsRow (mb + 2) 3 1 v1 (D.length + 1) (intsV (stF 0 D) ++ [.int .i64 (tot D : Nat)])) (hg2 : (w1.alloc o1).grownBy w2 vs.ownBlock) (hat2 : v1.ownBlock = vs.ownBlock ∨ v1.ownBlock = some (w1.alloc o1).heap.size)
    (hfl4 : w3.ownsRow (mb + 2) 22 1 v2 (D.length + 1) (es ++ [.slice ai f.length ci])) (hg3 : ((w2.setCell ⟨mb + 1, 0, none⟩ v1).alloc o2).grownBy w3 vf.ownBlock)
    (hat3 : v2.ownBlock = vf.ownBlock ∨ v2.ownBlock = some ((w2.setCell ⟨mb + 1, 0, none⟩ v1).alloc o2).heap.size) :
    Rowd (w3.setCell ⟨mb + 1, 1, none⟩ v2) w0 B mb (D ++ [f]) v1 v2 (es ++ [.slice ai f.length ci]) (M.put (.int .i64 (tot D : Nat)) (.lit (.int .i64 D.length))) ∧ Below mb X (w3.setCell ⟨mb + 1, 1, none⟩ v2) := by
  have hlX := hR.box.lt
  have hbox1 : FBox w1 mb vs vf := hR.box.kept (hg1.block _ hlX (by simp))
  have hst1 := hR.st.kept hg1 (.inr fun e => by have := (hR.st.lt _ e).1; omega)
  have hfl1 := hR.fl.kept hg1 (.inr fun e => by have := (hR.fl.lt _ e).1; omega)
  have hl1 := hbox1.lt
  have hs1 := hg1.size
  have hs2 := hg2.size
  have hs3 := hg3.size
  simp only [World.size_alloc] at hs2 hat2
  have hsz : ((w2.setCell ⟨mb + 1, 0, none⟩ v1).alloc o2).heap.size = w2.heap.size + 1 := by simp [World.setCell]
  rw [hsz] at hs3 hat3
  have lo := fun k e => (hst1.lt k e)
  have ld := fun k e => (hfl1.lt k e)
  have hbox2 := (hbox1.kept (Below.heap_alloc _ o1 _ hl1)).kept (hg2.block _ (by simp; omega) (fun e => by have := (lo _ e.symm).1; omega))
  have hfl2 := (hfl1.alloc o1).kept hg2 (apart_inr hR.apart)
  have hmp2 := (hm1.alloc o1).kept hg2 (fun e => by have := (lo _ e.symm).1; omega)
  have hbox3 := hbox2.set0 v1
  have hst3 := ownsRow_setCell_below hst2 (a := ⟨mb + 1, 0, none⟩) (by simp) v1
  have hmp3 := hmp2.setCell (a := ⟨mb + 1, 0, none⟩) (by simp) v1
  have hbox4 := (hbox3.kept (Below.heap_alloc _ o2 _ hbox3.lt)).kept (hg3.block _ (by rw [hsz]; omega) (fun e => by have := (ld _ e.symm).1; omega))
  have hv1d : ∀ k, v1.ownBlock = some k → vf.ownBlock ≠ some k := by
    intro k hk hd
    rcases hat2 with h | h
    · exact hR.apart k (h ▸ hk) hd
    · have := (ld k hd).2; rw [h] at hk; injection hk; omega
  have hst4 := (hst3.alloc o2).kept hg3 (by cases hv : v1.ownBlock with | none => exact .inl rfl | some k => exact .inr fun e => hv1d k hv e.symm)
  have hmp4 := (hmp3.alloc o2).kept hg3 (fun e => by have := (ld _ e.symm).1; omega)
  have hbox5 := hbox4.set1 v2
  have hx : ((tot D : Nat) : Int) ∉ stF 0 D := fun h => by have := stF_mem D 0 _ h; omega
  have hplc := placeD_put hR.plc hR.map.isMap hx
  rw [stF_len] at hplc
  have esn : stF 0 (D ++ [f]) = stF 0 D ++ [((tot D : Nat) : Int)] := by rw [stF_snoc, Nat.zero_add]
  refine ⟨⟨hbox5, ?_, ?_, elsOk_snoc hR.el (by have := hR.fl.1; omega) hf, ?_, by rw [esn]; exact hplc, ?_⟩, ?_⟩
  · rw [esn, intsV_snoc, List.length_append]
    exact ownsRow_setCell_below hst4 (a := ⟨mb + 1, 1, none⟩) (by simp) v2
  · rw [List.length_append]
    exact ownsRow_setCell_below hfl4 (a := ⟨mb + 1, 1, none⟩) (by simp) v2
  · rw [List.length_append]
    exact hmp4.setCell (a := ⟨mb + 1, 1, none⟩) (by simp) v2
  · intro k hk hd
    rcases hat3 with h | h
    · exact hv1d k hk (h ▸ hd)
    · have := (hst2.lt k hk).2; rw [h] at hd; injection hd; omega
  · have b1 : Below mb X w1 := (Below.refl mb X).grown hg1 (by omega) (fun k e => by injection e; omega)
    have b2 : Below mb X w2 := (b1.alloc (by omega) o1).grown hg2 (by simp; omega) (fun k e => by have := (lo _ e).1; omega)
    have b3 := (b2.setCell (p := ⟨mb + 1, 0, none⟩) (by simp) v1).alloc (by simp [World.setCell]; omega) o2
    exact (b3.grown hg3 (by rw [hsz]; omega) (fun k e => by have := (ld _ e).1; omega)).setCell (p := ⟨mb + 1, 1, none⟩) (by simp) v2

set_option maxRecDepth 100000 in
set_option maxHeartbeats 2000000 in
theorem split1_c (mb B : Nat) (D : List (List Int)) (f : List Int) (ai : Option Addr) (ci : Nat) (vs vf : Value) (es : List Value) (M : DataW Unit) (X w0 : World)
    (hR : Rowd X w0 B mb D vs vf es M) (hf : Wds B w0 ai f) (hD : tot D ≤ 256) :
    Calls Try.prog 50 #[.int .i64 (tot D : Nat), .slice ai f.length ci, .pointer (some ⟨mb + 1, 0, none⟩)] X fun e W' => e = .returned (.tuple #[]) ∧ (∃ vs vf es M, Rowd W' w0 B mb (D ++ [f]) vs vf es M) ∧ Below mb X W' := by
  obtain ⟨i0, hi, hz0, hz1, hz2⟩ := info_parts Try.info3
  obtain ⟨i1, hi1, hy0, hy1, hy2⟩ := info_parts Try.info22
  have hlX := hR.box.lt
  have hDl := tot_len D
  have hc0 := hR.box.c0
  have hc1 := hR.box.c1
  have hc2 := hR.box.c2
  obtain ⟨sa, sc, rfl⟩ := ownsRow_slice hR.st
  obtain ⟨fa, fc, rfl⟩ := ownsRow_slice hR.fl
  have Hkey := hide (Maps.keyOf_int_mk Try.underlying3 (wf_i64 (x := ((tot D : Nat) : Int)) (by omega) (by omega)))
  have Hval := hide (show plainElem (H := Unit) Try.prog 3 (.int .i64 (D.length : Int)) = some (.lit (.int .i64 (D.length : Int)), []) from plainElem_int Try.underlying3 (wf_i64 (by omega) (by omega)))
  have Hstep := hide (fun w1 w2 w3 v1 v2 o1 o2 => @row_step X w0 w1 w2 w3 B mb D (.slice sa D.length sc) (.slice fa D.length fc) v1 v2 es M f ai ci o1 o2 hR hf)
  have hsl := hR.st
  have hfl := hR.fl
  have hmp := hR.map
  have Hbox := hide hR.box
  have Hap := hide hR.apart
  clear hR
  generalize hp : tot D = p at *
  clear hp
  generalize stF 0 D = st at *
  generalize hn : D.length = n at *
  clear hn
  go_enter Try.func50, Try.ntmps50
  go_wp2_with (first
    | (at_mapUpdate; go_must (refine wpList_mapUpdate_own _ rfl _ _ _ 68 rfl 3 3 (Maps.int_keyed Try.underlying3) Try.underlying68 _ mb n M rfl hmp (by simp only [maxLen]; omega) _ _ _ rfl rfl (unhide Hkey) _ [] (unhide Hval) ?_); go_must (intro w1 hmap1 hg1; have hs11 := hg1.size; have hblk1 := hg1.block _ hlX (by simp); have hbox1 := (unhide Hbox).kept hblk1; have hsl1 := hsl.kept hg1 (.inr fun e => by have := (hsl.lt _ e).1; omega); have hfl1 := hfl.kept hg1 (.inr fun e => by have := (hfl.lt _ e).1; omega); have hd0 := hbox1.c0; have hd1 := hbox1.c1; have he0 := hbox1.f0; have hq1 : mb + 1 < w1.heap.size := hbox1.lt))
    | (at_builtin; refine wpList_append_own_at _ rfl _ _ 77 rfl (mb + 2) 22 i1 _ 1 24 Try.underlying77 hi1 hy0 hy1 hy2 rfl (by decide) _ _ _ rfl hfl3 _ 1 1 [.slice ai f.length ci] rfl rfl (cell_one_at _ _ _ _ (by simp)) (by simp [Value.oneCell']) (by simp only [maxLen]; omega) (by omega) (by simp; omega) ?_; go_must (intro v2 w3 hfl4 hg3 _ hat3; obtain ⟨g2, cap2, hv2⟩ := ownsRow_succ hfl4; subst hv2; have hbox4 := (hbox3.kept (Below.heap_alloc _ (.cells #[.slice ai f.length ci] 22) _ hbox3.lt)).kept (hg3.block _ (by have := hbox3.lt; simp at this; simp; omega) (fun e => by have := (hfl1.lt _ e.symm).1; omega)); have hd4 := hbox4.c1; have he4 := hbox4.f1))
    | (at_builtin; go_must (refine wpList_append_own_at _ rfl _ _ 27 rfl (mb + 2) 3 i0 _ 1 8 Try.underlying27 hi hz0 hz1 hz2 rfl (by decide) _ _ _ rfl (hsl1.alloc _) ⟨w1.heap.size, 0, none⟩ 1 1 [.int .i64 (p : Int)] rfl rfl (cell_one_at _ _ _ _ (by simp)) (by simp [Value.oneCell']) (by simp only [maxLen]; omega) (by omega) (by simp; omega) ?_); go_must (intro v1 w2 hst2 hg2 _ hat2; obtain ⟨g1, cap1, hv1⟩ := ownsRow_succ hst2; subst hv1; have hg2s := hg2.size; simp only [World.size_alloc] at hg2s; have hbox2 := (hbox1.kept (Below.heap_alloc _ (.cells #[.int .i64 (p : Int)] 3) _ hq1)).kept (hg2.block _ (by simp; omega) (fun e => by have := (hsl1.lt _ e.symm).1; omega)); have hfl2 := (hfl1.alloc (.cells #[.int .i64 (p : Int)] 3)).kept hg2 (apart_inr (unhide Hap)); have hd2 := hbox2.c0; have he2 := hbox2.f0; have hbox3 := hbox2.set0 (.slice (some ⟨g1, 0, none⟩) (n + 1) cap1); have hfl3 := (ownsRow_setCell_below hfl2 (a := ⟨mb + 1, 0, none⟩) (by simp) (.slice (some ⟨g1, 0, none⟩) (n + 1) cap1)).alloc (.cells #[.slice ai f.length ci] 22); have hd3 := hbox3.c1)))
  obtain ⟨r1, r2⟩ := unhide Hstep _ _ _ _ _ _ _ hg1 hmap1 hst2 hg2 hat2 hfl4 hg3 hat3
  exact bodyPost_end (v := .tuple #[]) (results_none rfl _ _ _) rfl ⟨rfl, ⟨_, _, _, _, r1⟩, r2⟩

end Go.Proofs.Ytahdalejmfbkeaa
