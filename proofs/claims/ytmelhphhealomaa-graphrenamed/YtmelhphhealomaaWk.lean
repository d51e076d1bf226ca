/- Walks: the closure that finds. -/
import Derived.Test.YtmelhphhealomaaProg
import Derived.Test.YtmelhphhealomaaMem
import Derived.Test.YtmelhphhealomaaWj
namespace Go.Proofs.Ytmelhphhealomaa
set_option linter.unusedSimpArgs false
set_option linter.unusedVariables false
open Go.RowKit Go.Shelf
attribute [local go_sem] Oper.semAt_some

def valsOf (xs : List Ob) : List Int := xs.map (·.1)

theorem apart_inr {vo vd : Value} (h : ∀ k, vo.ownBlock = some k → vd.ownBlock ≠ some k) : vd.ownBlock = none ∨ vd.ownBlock ≠ vo.ownBlock := by
  cases hd : vd.ownBlock with
  | none => exact .inl rfl
  | some k => exact .inr fun e => h k e.symm hd

theorem wf_i64 {x : Int} (h0 : 0 ≤ x) (h1 : x < 4611686018427387904) : (Lit.int .i64 x).wf = true := by
  simp [Lit.wf, IntKind.min, IntKind.max, IntKind.signed, IntKind.bits]; omega

/-- What one object more turns in memory. -/
theorem find_step {X w1 w2 w3 : World} {mb bd : Nat} {s1 : List Int × List Int} {vo vd v1 v2 : Value} {D : DataW Unit} {x d : Int} {o1 o2 : Obj}
    (hF : Found X mb s1 vo vd D) (hx : x ∉ s1.1) (hg1 : X.grownBy w1 (some mb)) (hm1 : w1.ownsMap Try.prog 3 (plainElem Try.prog 3) mb (s1.1.length + 1) (D.put (.int .i64 x) (.lit (.int .i64 s1.1.length))))
    (hord2 : w2.ownsRow (mb + 2) 3 1 v1 (s1.1.length + 1) (intsV s1.1 ++ [.int .i64 x])) (hg2 : (w1.alloc o1).grownBy w2 vo.ownBlock) (hat2 : v1.ownBlock = vo.ownBlock ∨ v1.ownBlock = some (w1.alloc o1).heap.size)
    (hdis4 : w3.ownsRow (mb + 2) 3 1 v2 (s1.2.length + 1) (intsV s1.2 ++ [.int .i64 d])) (hg3 : ((w2.setCell ⟨mb + 1, 0, none⟩ v1).alloc o2).grownBy w3 vd.ownBlock)
    (hat3 : v2.ownBlock = vd.ownBlock ∨ v2.ownBlock = some ((w2.setCell ⟨mb + 1, 0, none⟩ v1).alloc o2).heap.size)
    (hbd : X.cell? ⟨bd, 0, none⟩ = some (.int .i64 d)) (hbm : mb + 1 < bd) (hno1 : vo.ownBlock ≠ some bd) (hno2 : vd.ownBlock ≠ some bd) :
    Found (w3.setCell ⟨mb + 1, 1, none⟩ v2) mb (findS d s1 x) v1 v2 (D.put (.int .i64 x) (.lit (.int .i64 s1.1.length))) ∧ (∀ B, mb < B → KeepsFrom B X (w3.setCell ⟨mb + 1, 1, none⟩ v2)) ∧ Below mb X (w3.setCell ⟨mb + 1, 1, none⟩ v2) ∧
      (w3.setCell ⟨mb + 1, 1, none⟩ v2).cell? ⟨bd, 0, none⟩ = some (.int .i64 d) ∧ v1.ownBlock ≠ some bd ∧ v2.ownBlock ≠ some bd := by
  obtain ⟨hbox1, hord1, hdis1, hmp1⟩ := hF.put hg1 hm1
  have hlX := hF.box.lt
  have hl1 := hbox1.lt
  have hlbd : bd < X.heap.size := World.block_lt_of_cell? X _ hbd
  have hs1 := hg1.size
  have hs2 := hg2.size
  have hs3 := hg3.size
  simp only [World.size_alloc] at hs2 hat2
  have hsz : ((w2.setCell ⟨mb + 1, 0, none⟩ v1).alloc o2).heap.size = w2.heap.size + 1 := by simp [World.setCell]
  rw [hsz] at hs3 hat3
  have lo := fun k e => (hord1.lt k e)
  have ld := fun k e => (hdis1.lt k e)
  have hbox2 := (hbox1.kept (Below.heap_alloc _ o1 _ hl1)).kept (hg2.block _ (by simp; omega) (fun e => by have := (lo _ e.symm).1; omega))
  have hdis2 := (hdis1.alloc o1).kept hg2 (apart_inr hF.apart)
  have hmp2 := (hmp1.alloc o1).kept hg2 (fun e => by have := (lo _ e.symm).1; omega)
  have hbd1 := hg1.cell hbd (by simp; omega)
  have hbd2 := hg2.cell ((World.grownBy_alloc w1 o1 none).cell hbd1 (by simp)) (fun e => hno1 e.symm)
  have hbox3 := hbox2.set0 v1
  have hbd3 := (World.cell?_setCell_other w2 ⟨mb + 1, 0, none⟩ ⟨bd, 0, none⟩ v1 (fun e => by injection e; omega)).trans hbd2
  have hord3 := ownsRow_setCell_below hord2 (a := ⟨mb + 1, 0, none⟩) (by simp) v1
  have hmp3 := hmp2.setCell (a := ⟨mb + 1, 0, none⟩) (by simp) v1
  have hbox4 := (hbox3.kept (Below.heap_alloc _ o2 _ hbox3.lt)).kept (hg3.block _ (by rw [hsz]; omega) (fun e => by have := (ld _ e.symm).1; omega))
  have hv1d : ∀ k, v1.ownBlock = some k → vd.ownBlock ≠ some k := by
    intro k hk hd
    rcases hat2 with h | h
    · exact hF.apart k (h ▸ hk) hd
    · have := (ld k hd).2; rw [h] at hk; injection hk; omega
  have hord4 := (hord3.alloc o2).kept hg3 (by cases hv : v1.ownBlock with | none => exact .inl rfl | some k => exact .inr fun e => hv1d k hv e.symm)
  have hmp4 := (hmp3.alloc o2).kept hg3 (fun e => by have := (ld _ e.symm).1; omega)
  have hbd4 := hg3.cell ((World.grownBy_alloc _ o2 none).cell hbd3 (by simp)) (fun e => hno2 e.symm)
  have hbox5 := hbox4.set1 v2
  have hplc := placeD_put hF.plc (hF.map.isMap) hx
  have efs : findS d s1 x = (s1.1 ++ [x], s1.2 ++ [d]) := by rw [findS, if_neg hx]
  refine ⟨⟨hbox5, ?_, ?_, ?_, ?_, ?_⟩, ?_, ?_, ?_, ?_, ?_⟩
  · rw [efs]; simp only [List.length_append, List.length_cons, List.length_nil, Nat.zero_add, intsV_snoc]
    exact ownsRow_setCell_below hord4 (a := ⟨mb + 1, 1, none⟩) (by simp) v2
  · rw [efs]; simp only [List.length_append, List.length_cons, List.length_nil, Nat.zero_add, intsV_snoc]
    exact ownsRow_setCell_below hdis4 (a := ⟨mb + 1, 1, none⟩) (by simp) v2
  · rw [efs]; simp only [List.length_append, List.length_cons, List.length_nil, Nat.zero_add]
    exact hmp4.setCell (a := ⟨mb + 1, 1, none⟩) (by simp) v2
  · rw [efs]; exact hplc
  · intro k hk hd
    rcases hat3 with h | h
    · exact hv1d k hk (h ▸ hd)
    · have := (hord2.lt k hk).2; rw [h] at hd; injection hd; omega
  · intro B hB
    refine (KeepsFrom.of_grownBy hg1 (fun j e => by injection e; omega)).trans ?_
    exact ((((KeepsOthers.alloc _ o1).trans (keepsOthers_append (hord1.alloc o1) hg2)).trans (KeepsOthers.setCell _ _ _)).trans (((KeepsOthers.alloc _ o2).trans (keepsOthers_append ((ownsRow_setCell_below hdis2 (a := ⟨mb + 1, 0, none⟩) (by simp) v1).alloc o2) hg3)).trans (KeepsOthers.setCell _ _ _))).from B
  · have b1 : Below mb X w1 := (Below.refl mb X).grown hg1 (by omega) (fun k e => by injection e; omega)
    have b2 : Below mb X w2 := (b1.alloc (by omega) o1).grown hg2 (by simp; omega) (fun k e => by have := (lo _ e).1; omega)
    have b3 := (b2.setCell (p := ⟨mb + 1, 0, none⟩) (by simp) v1).alloc (by simp [World.setCell]; omega) o2
    exact (b3.grown hg3 (by rw [hsz]; omega) (fun k e => by have := (ld _ e).1; omega)).setCell (p := ⟨mb + 1, 1, none⟩) (by simp) v2
  · exact (World.cell?_setCell_other w3 ⟨mb + 1, 1, none⟩ ⟨bd, 0, none⟩ v2 (fun e => by injection e; omega)).trans hbd4
  · intro e
    rcases hat2 with h | h
    · exact hno1 (h ▸ e)
    · rw [h] at e; injection e; omega
  · intro e
    rcases hat3 with h | h
    · exact hno2 (h ▸ e)
    · rw [h] at e; injection e; omega

set_option maxRecDepth 100000 in
set_option maxHeartbeats 2000000 in
theorem find_c (mb : Nat) (a : Option Addr) (cap : Nat) (l : List V) (d : Int) (st : List Int × List Int) (vo vd : Value) (D : DataW Unit) (W : World)
    (hF : Found W mb st vo vd D) (hV : Vals mb W a l) (hok : RefsOk l) (h1 : st.1.length ≤ 1000) (h2 : st.2.length ≤ 1000) (hl : l.length ≤ 1000) :
    Calls Try.prog 37 #[.slice a l.length cap, .int .i64 d, .pointer (some ⟨mb + 1, 0, none⟩)] W fun e W' => e = .returned (.tuple #[]) ∧
      (∃ vo vd D, Found W' mb (findA d st (valsOf (obsOf l))) vo vd D) ∧ Below mb W W' := by
  obtain ⟨i0, hi, hz0, hz1, hz2⟩ := info_parts Try.info3
  have hlt := hF.box.lt
  refine (callsIn_wide (n := 8)).1 ?_
  refine callsIn_of_wp_marks Try.func37 rfl trivial ?_ rfl
  simp only [Try.ntmps37, List.size_toArray, List.length_cons, List.length_nil, Nat.reduceAdd, Nat.reduceSub, Array.replicate_succ, Array.replicate_zero, List.push_toArray, List.append_toArray, List.nil_append, List.cons_append]
  gi_wp2_with (refine ⟨trivial, ?_⟩; gi_at_call 38; go_must (refine (callsIn_wide.2 (refs_c _ _ _ _)).mono ?_); rintro e w3 ⟨rfl, hw3⟩; subst hw3)
  obtain ⟨W1, hW1⟩ : ∃ W1, (W.alloc (.cells #[.int .i64 d] 3)).alloc (.cells #[.slice a l.length cap] 23) = W1 := ⟨_, rfl⟩
  rw [hW1]
  have hs1 : W1.heap.size = W.heap.size + 2 := by rw [← hW1]; simp
  have hbd : W1.cell? ⟨W.heap.size, 0, none⟩ = some (.int .i64 d) := by rw [← hW1]; simp [go_sem]
  have hbl : W1.cell? ⟨W.heap.size + 1, 0, none⟩ = some (.slice a l.length cap) := by rw [← hW1]; simp [go_sem]
  have hB1 : Below mb W W1 := by rw [← hW1]; exact ((Below.refl _ _).alloc (by omega) _).alloc (by simp; omega) _
  have hF1 : Found W1 mb st vo vd D := by rw [← hW1]; exact (hF.alloc _).alloc _
  have hno1 : vo.ownBlock ≠ some W.heap.size := fun e => by have := (hF.ord.lt _ e).2; omega
  have hno2 : vd.ownBlock ≠ some W.heap.size := fun e => by have := (hF.dis.lt _ e).2; omega
  clear hW1
  refine wpIn_rangeFunc_ownG (F := Fence.wide) (n := 8) rfl (by omega) (gf := 45) (lb := #[.pointer (some ⟨W.heap.size + 1, 0, none⟩)]) rfl trivial (enters_of Try.func45 (by kernel_rfl) rfl)
    (refs1_stops 7 (by omega) (W.heap.size + 1) mb a cap l hok W1 (by omega) (by omega) hbl (hV.below hB1)) belowK_t (belowK_b (by omega)) (Below.refl _ _) (fun _ => rfl)
    (fun pre X => ∃ vo vd D, Found X mb (findA d st (valsOf pre)) vo vd D ∧ X.cell? ⟨W.heap.size, 0, none⟩ = some (.int .i64 d) ∧ vo.ownBlock ≠ some W.heap.size ∧ vd.ownBlock ≠ some W.heap.size ∧ Below mb W X)
    (fun _ _ _ => False)
    (by
      rintro pre X Y row ⟨vo, vd, D, h1, h2, h3, h4, h5⟩ hg hr
      exact ⟨vo, vd, D, h1.own hg (fun r e => ⟨by have := (hr r e).1; omega, (hr r e).2⟩), cell_kept h2 hg (fun r e => (hr r e).2), h3, h4, h5.grown hg (by have := h5.size; omega) (fun k e => by have := (hr k e).1; omega)⟩)
    (fun _ _ _ _ _ hs _ _ => hs)
    ⟨vo, vd, D, hF1, hbd, hno1, hno2, hB1⟩
    (fun x => { tmps := #[.slice a l.length cap, .int .i64 d, .pointer (some ⟨mb + 1, 0, none⟩), undef, .pointer (some ⟨W.heap.size, 0, none⟩), .int .i64 x.1, undef, undef, .slice a l.length cap, .func (.func 45) #[] #[.pointer (some ⟨W.heap.size + 1, 0, none⟩)], .int .i64 x.1, undef, undef, undef, undef, undef, undef, undef, undef, undef, undef, undef, undef, undef, undef, undef, undef, undef, undef, undef, undef, undef, undef, undef, undef, undef, undef, undef], defers := [] }) ?assign ?body ?done ?stop
  case assign =>
    intro l x X K hK
    unfold encO
    gi_wp2
    exact hK
  case body =>
    rintro l' pre x X ⟨vo, vd, D, hF, hbd, hno1, hno2, hB⟩ hpre
    obtain ⟨x, hx0, hx1⟩ := x
    have hlen := findA_len d (valsOf pre) st
    have hpl : (valsOf pre).length = pre.length := by simp [valsOf]
    have Hst := hide (show findA d st (valsOf (pre ++ [⟨x, hx0, hx1⟩])) = findS d (findA d st (valsOf pre)) x from by rw [← findA_snoc]; simp [valsOf])
    generalize findA d st (valsOf pre) = s1 at *
    have hsX := hB.size
    have hkey := Maps.keyOf_int_mk Try.underlying3 (wf_i64 hx0 (by omega))
    have hhas := hF.plc.1 x
    have Hkey := hide hkey
    clear hkey
    have hc0 := hF.box.c0
    have hc1 := hF.box.c1
    have hc2 := hF.box.c2
    obtain ⟨oa, oc, rfl⟩ := ownsRow_slice hF.ord
    by_cases hm : x ∈ s1.1
    · have hhas' : Maps.has D (.int .i64 x) = true := by rw [hhas]; simpa using hm
      clear hhas
      gi_wp2_with (gi_at_lookup; go_must (refine wpListIn_lookup_own_ok_int _ rfl _ _ 49 rfl 3 3 .i64 (Maps.int_keyed Try.underlying3) Try.underlying49 Try.underlying3 (Try.zeroValue3 _) mb _ D rfl hF.map _ _ rfl (unhide Hkey) ?_); intro c hat hwc)
      exact ⟨(KeepsOthers.refl _).from _, Below.refl _ _, _, vd, D, by rw [unhide Hst, findS, if_pos hm]; exact hF, hbd, hno1, hno2, hB⟩
    · have hhas' : Maps.has D (.int .i64 x) = false := by rw [hhas]; simpa using hm
      clear hhas
      have Hm := hide hm
      clear hm
      have hval : plainElem (H := Unit) Try.prog 3 (.int .i64 (s1.1.length : Int)) = some (.lit (.int .i64 (s1.1.length : Int)), []) := plainElem_int Try.underlying3 (wf_i64 (by omega) (by omega))
      have Hval := hide hval
      clear hval
      gi_wp2_with (first
        | (gi_at_lookup; go_must (refine wpListIn_lookup_own_ok_int _ rfl _ _ 49 rfl 3 3 .i64 (Maps.int_keyed Try.underlying3) Try.underlying49 Try.underlying3 (Try.zeroValue3 _) mb _ D rfl hF.map _ _ rfl (unhide Hkey) ?_); intro c hat hwc)
        | (gi_at_mapUpdate; go_must (refine wpListIn_mapUpdate_own _ rfl _ _ _ 49 rfl 3 3 (Maps.int_keyed Try.underlying3) Try.underlying49 _ mb s1.1.length D rfl hF.map (by simp only [maxLen]; omega) _ _ _ rfl rfl (unhide Hkey) _ [] (unhide Hval) ?_); go_must (intro w1 hmap1 hg1; obtain ⟨hbox1, hord1, hdis1, hmp1⟩ := hF.put hg1 hmap1; have hbd1 := hg1.cell hbd (by simp; omega); have hs11 := hg1.size; have hd0 := hbox1.c0; have hd1 := hbox1.c1; have he0 := hbox1.f0; have hq1 : mb + 1 < w1.heap.size := hbox1.lt))
        | (gi_at_builtin; refine wpListIn_append_own_at _ rfl _ _ 31 rfl (mb + 2) 3 i0 _ 1 8 Try.underlying31 hi hz0 hz1 hz2 rfl (by decide) _ _ _ rfl hdis3 _ 1 1 [.int .i64 d] rfl rfl (cell_one_at _ _ _ _ (by simp)) (by simp [Value.oneCell']) (by simp only [maxLen]; omega) (by omega) (by simp; omega) ?_; go_must (intro v2 w3 hdis4 hg3 _ hat3; obtain ⟨g2, cap2, hv2⟩ := ownsRow_succ hdis4; subst hv2; have hff := hbox3.f1; have hbox4 := (hbox3.kept (Below.heap_alloc _ (.cells #[.int .i64 d] 3) _ hbox3.lt)).kept (hg3.block _ (by have := hbox3.lt; simp at this; simp; omega) (fun e => by have := (hdis1.lt _ e.symm).1; omega)); have hd4 := hbox4.c1; have he4 := hbox4.f1))
        | (gi_at_builtin; go_must (refine wpListIn_append_own_at _ rfl _ _ 31 rfl (mb + 2) 3 i0 _ 1 8 Try.underlying31 hi hz0 hz1 hz2 rfl (by decide) _ _ _ rfl (hord1.alloc _) ⟨w1.heap.size, 0, none⟩ 1 1 [.int .i64 x] rfl rfl (cell_one_at _ _ _ _ (by simp)) (by simp [Value.oneCell']) (by simp only [maxLen]; omega) (by omega) (by simp; omega) ?_); go_must (intro v1 w2 hord2 hg2 _ hat2; obtain ⟨g1, cap1, hv1⟩ := ownsRow_succ hord2; subst hv1; have hg2s := hg2.size; simp only [World.size_alloc] at hg2s; have hbox2 := (hbox1.kept (Below.heap_alloc _ (.cells #[.int .i64 x] 3) _ hq1)).kept (hg2.block _ (by simp; omega) (fun e => by have := (hord1.lt _ e.symm).1; omega)); have hdis2 := (hdis1.alloc (.cells #[.int .i64 x] 3)).kept hg2 (apart_inr hF.apart); have hmp2 := (hmp1.alloc (.cells #[.int .i64 x] 3)).kept hg2 (fun e => by have := (hord1.lt _ e.symm).1; omega); have hbd2 := hg2.cell ((World.grownBy_alloc w1 (.cells #[.int .i64 x] 3) none).cell hbd1 (by simp)) (fun e => hno1 e.symm); have hd2 := hbox2.c0; have he2 := hbox2.f0; have hbox3 := hbox2.set0 (.slice (some ⟨g1, 0, none⟩) (s1.1.length + 1) cap1); have hdis3 := (ownsRow_setCell_below hdis2 (a := ⟨mb + 1, 0, none⟩) (by simp) (.slice (some ⟨g1, 0, none⟩) (s1.1.length + 1) cap1)).alloc (.cells #[.int .i64 d] 3); have hd3 := hbox3.c1; have hbd3 : (w2.setCell ⟨mb + 1, 0, none⟩ (.slice (some ⟨g1, 0, none⟩) (s1.1.length + 1) cap1)).cell? ⟨W.heap.size, 0, none⟩ = some (.int .i64 d) := (World.cell?_setCell_other _ _ _ _ (fun e => by injection e; omega)).trans hbd2)))
      obtain ⟨r1, r2, r3, r4, r5, r6⟩ := find_step hF (unhide Hm) hg1 hmap1 hord2 hg2 hat2 hdis4 hg3 hat3 hbd hlt hno1 hno2
      exact ⟨r2 _ (by omega), r3, _, _, _, by rw [unhide Hst]; exact r1, r4, r5, r6, hB.trans r3⟩
  case done =>
    rintro D' xs X hD rfl ⟨vo, vd, D, hF, hbd, hno1, hno2, hB⟩ hK
    gi_wp2
    refine ⟨by simp, .inl ⟨_, _, rfl, run_takeDeferred hK, ?_⟩⟩
    refine ⟨_, results_none rfl _ _ _, rfl, ⟨vo, vd, D, hF.own (grownBy_putObj' X D' _) (fun r e => by cases e; exact ⟨by omega, _, hK, rfl⟩)⟩, hB.trans (belowK_b (w := W1) (by omega) X D' _ _ hD hK rfl rfl)⟩
  case stop =>
    rintro D' c pre X _ _ h _
    exact h.elim

end Go.Proofs.Ytmelhphhealomaa
