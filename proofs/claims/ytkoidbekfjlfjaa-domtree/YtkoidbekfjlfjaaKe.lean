/- Walks: the closure of referrers. -/
import Derived.Test.YtkoidbekfjlfjaaProg
import Derived.Test.YtkoidbekfjlfjaaMem
import Derived.Test.YtkoidbekfjlfjaaKd
import Derived.Test.YtkoidbekfjlfjaaDc
namespace Go.Proofs.Ytkoidbekfjlfjaa
set_option linter.unusedSimpArgs false
set_option linter.unusedVariables false
open Go.RowKit Go.Shelf
attribute [local go_sem] Oper.semAt_some

theorem valsS_snoc {S : List Int} (pre : List (ObS S)) (x : ObS S) : valsS (pre ++ [x]) = valsS pre ++ [x.1] := by simp [valsS]
theorem valsS_len {S : List Int} (pre : List (ObS S)) : (valsS pre).length = pre.length := by simp [valsS]

set_option maxRecDepth 100000 in
set_option maxHeartbeats 4000000 in
theorem note_c (N gb b : Nat) (o0 o1 : Obj) (ord : List Int) (hord : ∀ x ∈ ord, 0 ≤ x ∧ x < (N : Int)) (hN : N ≤ 24) (n : Int) (a : Option Addr) (cap : Nat) (l : List V) (L : List (List Int)) (M : Nat) (W : World) (es : List Value) (h : RB W b N gb o0 o1 ord L es) (hV : Vals b W a l) (hok : RefsOkS ord l) (hl : l.length ≤ 1000)
    (hM : ∀ q ∈ L, q.length ≤ M) (hM2 : M ≤ 100000) :
    Calls Try.prog 43 #[.int .i64 n, .slice a l.length cap, .pointer (some ⟨b, 0, none⟩), .pointer (some ⟨b + 3, 0, none⟩)] W fun e W' => e = .returned (.tuple #[]) ∧ (∃ es, RB W' b N gb o0 o1 ord (noteL ord n L (refsL l)) es) ∧ Below b W W' := by
  obtain ⟨i0, hi, hz0, hz1, hz2⟩ := info_parts Try.info3
  have hlt := h.lt
  have hS24 : ∀ x ∈ ord, 0 ≤ x ∧ x < 24 := fun x hx => by have := hord x hx; omega
  have HR := hide (vals_obsS hS24 l hok)
  have HS := hide hS24
  have Hord := hide hord
  have HM := hide hM
  clear hord hM
  have hbn : ∀ (j : Nat) (u : Value), es[j]? = some u → u.ownBlock ≠ some W.heap.size := fun j u hu e => by
    have hjl : j < L.length := by have h9 := (List.getElem?_eq_some_iff.1 hu).1; have h8 := h.row.1; have h7 := h.len; omega
    obtain ⟨u', hu', hur⟩ := h.el j L[j] (List.getElem?_eq_getElem hjl)
    rw [hu] at hu'
    injection hu' with hu'
    subst hu'
    have := (hur.lt _ e).2
    omega
  have Hbn := hide hbn
  clear hbn hS24
  refine (callsIn_wide (n := 8)).1 ?_
  refine callsIn_of_wp_marks Try.func43 rfl trivial ?_ rfl
  simp only [Try.ntmps43, List.size_toArray, List.length_cons, List.length_nil, Nat.reduceAdd, Nat.reduceSub, Array.replicate_succ, Array.replicate_zero, List.push_toArray, List.append_toArray, List.nil_append, List.cons_append]
  gi_wp2_with (refine ⟨trivial, ?_⟩; gi_at_call 36; go_must (refine (callsIn_wide.2 (refs_c _ _ _ _)).mono ?_); rintro e w3 ⟨rfl, hw3⟩; subst hw3)
  obtain ⟨W1, hW1⟩ : ∃ W1, (W.alloc (.cells #[.int .i64 n] 3)).alloc (.cells #[.slice a l.length cap] 23) = W1 := ⟨_, rfl⟩
  rw [hW1]
  have hs1 : W1.heap.size = W.heap.size + 2 := by rw [← hW1]; simp
  have hbl : W1.cell? ⟨W.heap.size + 1, 0, none⟩ = some (.slice a l.length cap) := by rw [← hW1]; simp [go_sem]
  have hcn : W1.cell? ⟨W.heap.size, 0, none⟩ = some (.int .i64 n) := by rw [← hW1]; simp [go_sem]
  have hWW1 : Below W.heap.size W W1 := by rw [← hW1]; exact ((Below.refl _ _).alloc (Nat.le_refl _) _).alloc (by simp) _
  have hF1 := h.below hWW1
  have hB1 : Below b W W1 := hWW1.mono (by omega)
  clear hW1
  refine wpIn_rangeFunc_ownG (F := Fence.wide) (n := 8) rfl (by omega) (gf := 48) (lb := #[.pointer (some ⟨W.heap.size + 1, 0, none⟩)]) rfl trivial (enters_of Try.func48 (by kernel_rfl) rfl)
    (refs1S_stops (unhide HS) 7 (by omega) (W.heap.size + 1) b a cap l hok W1 (by omega) (by omega) hbl (hV.below hB1)) belowK_t (belowK_b (by omega)) (Below.refl _ _) (fun _ => rfl)
    (fun pre X => ∃ es, RB X b N gb o0 o1 ord (noteL ord n L (valsS pre)) es ∧ X.cell? ⟨W.heap.size, 0, none⟩ = some (.int .i64 n) ∧ (∀ (j : Nat) (u : Value), es[j]? = some u → u.ownBlock ≠ some W.heap.size) ∧ Below b W X)
    (fun _ _ _ => False)
    (by
      rintro pre X Y row ⟨es, h1, h2, h3, h4⟩ hg hr
      have hltX := h1.lt
      refine ⟨es, h1.own hg (fun r e => ⟨by have := (hr r e).1; omega, (hr r e).2⟩), hg.cell h2 (fun e => by have := (hr _ e.symm).1; simp at this; omega), h3, h4.grown hg (by omega) (fun k e => by have := (hr k e).1; omega)⟩)
    (fun _ _ _ _ _ hs _ _ => hs)
    ⟨es, hF1, hcn, unhide Hbn, hB1⟩
    (fun x => { tmps := #[.int .i64 n, .slice a l.length cap, .pointer (some ⟨b, 0, none⟩), .pointer (some ⟨b + 3, 0, none⟩), .pointer (some ⟨W.heap.size, 0, none⟩), undef, .int .i64 x.1, undef, .slice a l.length cap, .func (.func 48) #[] #[.pointer (some ⟨W.heap.size + 1, 0, none⟩)], .int .i64 x.1, undef, undef, undef, undef, undef, undef, undef, undef, undef, undef, undef, undef, undef, undef, undef], defers := [] }) ?assign ?body ?done ?stop
  case assign =>
    intro l x X K hK
    unfold encS
    gi_wp2
    exact hK
  case body =>
    rintro l' pre x X ⟨es2, hF, hcn2, hnb, hB⟩ hpre
    obtain ⟨x, hxo⟩ := x
    obtain ⟨hx0, hx1⟩ := unhide Hord x hxo
    have Hk : Hid (numAt ord x = ((ord.idxOf x : Nat) : Int)) := by show _ = _; unfold numAt; rw [if_pos hxo]
    have hkl : ord.idxOf x < ord.length := List.idxOf_lt_length_iff.2 hxo
    have HL := hide (noteL_snoc ord n L (valsS pre) x)
    have Hle := hide (noteL_le ord n (valsS pre) L M (unhide HM))
    have hpl : (valsS pre).length ≤ 1000 := by rw [valsS_len]; omega
    have Hvs := hide (valsS_snoc pre ⟨x, hxo⟩)
    obtain ⟨x, rfl⟩ := Int.eq_ofNat_of_zero_le hx0
    have hxN : x < N := by omega
    have hnl : x < (numL N ord).length := by rw [numL_len]; exact hxN
    obtain ⟨b9, off9, e9, hb9, hcx⟩ := hF.num.at hnl
    injection e9 with e9
    injection e9 with e91 e92
    subst e91 e92
    have hnx := numL_get ord hxN
    rw [List.getElem?_eq_getElem hnl] at hnx
    injection hnx with hnx
    rw [hnx, unhide Hk, Nat.zero_add] at hcx
    clear hnx Hk
    generalize noteL ord n L (valsS pre) = L2 at *
    generalize ord.idxOf (x : Int) = k at *
    have hkL : k < L2.length := by rw [hF.len]; exact hkl
    have hLk : L2[k]? = some L2[k] := List.getElem?_eq_getElem hkL
    have hql := unhide Hle _ (List.getElem_mem hkL)
    have HL2 : Hid (noteL ord n L (valsS pre ++ [(x : Int)]) = L2.set k (L2[k] ++ [n])) := by
      show _ = _
      rw [unhide HL]; simp [hkL]
    obtain ⟨v, hv, hvr⟩ := hF.el k _ hLk
    have Hv := hide hv
    have HLk := hide hLk
    generalize L2[k] = q at *
    obtain ⟨va, vc, rfl⟩ := ownsRow_slice hvr
    have hcv := row_at hF.row hv
    have hfz := hF.row.frozenAt k
    have hc1 := hF.c1
    have hcf := hF.cf
    have hltX := hF.lt
    have hn1X : W.heap.size < X.heap.size := World.block_lt_of_cell? X _ hcn2
    clear hv hLk HL Hle
    have hxI : (x : Int) < (N : Int) := by omega
    have hkI : (k : Int) < (ord.length : Int) := by omega
    gi_wp2
    clear hcx hc1 hb9
    refine wpIn_region_hoist _ [7, 8, 10] (fun i => match i with
        | 0 => .slice (some ⟨b + 2, 0, none⟩) ord.length ord.length
        | 1 => .int .i64 (k : Int)
        | 2 => .slice (some ⟨b + 2, 0, none⟩) ord.length ord.length
        | 3 => .int .i64 (k : Int)
        | 4 => .pointer (some ⟨b + 2, k, none⟩)
        | 5 => .slice va q.length vc
        | 6 => .int .i64 n
        | _ => .pointer (some ⟨b + 2, k, none⟩))
      (fun vs Y => match vs with
        | [] => Below X.heap.size X Y
        | [v7] => ∃ m, v7 = .slice (some ⟨m, 0, none⟩) 1 1 ∧ Y.cell? ⟨m, 0, none⟩ = some (.int .i64 n) ∧ Below X.heap.size X Y
        | [v7, v8] => ∃ Y1, Below X.heap.size X Y1 ∧ Y1.grownBy Y (Value.ownBlock (.slice va q.length vc)) ∧ Y.ownsRow (b + 4) 3 1 v8 (q.length + 1) (intsV q ++ [.int .i64 n]) ∧ (v8.ownBlock = Value.ownBlock (.slice va q.length vc) ∨ v8.ownBlock = some Y1.heap.size)
        | [v7, v8, v10] => (∃ es, RB Y b N gb o0 o1 ord (L2.set k (q ++ [n])) es ∧ Y.cell? ⟨W.heap.size, 0, none⟩ = some (.int .i64 n) ∧ (∀ (j : Nat) (u : Value), es[j]? = some u → u.ownBlock ≠ some W.heap.size)) ∧ Below b X Y ∧ KeepsOthers X Y
        | _ => False) Try.mixed (by kernel_rfl) (laid_of (by kernel_rfl)) (Below.refl _ _).drew ?_ ?_ ?_
    · intro i o hio hiT vs a W9 K hGv hlate hag hdep hK
      have t2 := hag.tm (k := 2) (by simp [dsOf])
      have t3 := hag.tm (k := 3) (by simp [dsOf])
      have t4 := hag.tm (k := 4) (by simp [dsOf])
      have t7 := hag.tm (k := 7) (by simp [dsOf])
      simp at t2 t3 t4 t7
      have hcfW : W9.cell? ⟨b + 3, 0, none⟩ = some (.slice (some ⟨b + 2, 0, none⟩) ord.length ord.length) := by
        match vs, hGv with
        | [], hh => exact (hh.cell (p := ⟨b + 3, 0, none⟩) hltX).trans hcf
        | [_], ⟨_, _, _, hh⟩ => exact (hh.cell (p := ⟨b + 3, 0, none⟩) hltX).trans hcf
        | [_, _], ⟨Y1, hh, hg, _, _⟩ => exact hg.cell ((hh.cell (p := ⟨b + 3, 0, none⟩) hltX).trans hcf) (fun e => by have h9 : b + 4 ≤ b + 3 := (hvr.lt _ e.symm).1; omega)
        | [_, _, _], ⟨⟨_, hh, _⟩, _⟩ => exact hh.cf
      rcases i with _ | _ | _ | _ | _ | _ | _ | _ | _ | _ | _ | i
      · cases hio; clear hGv hlate hdep; unfold Oper.wp; go_simp; exact hK
      · cases hio; clear hGv hlate hdep; unfold Oper.wp; go_simp; exact hK
      · cases hio; clear hGv hlate hdep; unfold Oper.wp; go_simp; exact hK
      · cases hio; clear hGv hlate hdep; unfold Oper.wp; go_simp; exact hK
      · have s18 : a.tmps[18]?.getD undef = .slice (some ⟨b + 2, 0, none⟩) ord.length ord.length := hdep ⟨2, .data⟩ (by cases hio; simp) rfl 18 rfl
        have s19 : a.tmps[19]?.getD undef = .int .i64 (k : Int) := hdep ⟨3, .data⟩ (by cases hio; simp) rfl 19 rfl
        cases hio; clear hGv hlate hdep; unfold Oper.wp; go_simp; exact hK
      · have hl1 : vs.length ≤ 1 := hlate 1 8 _ rfl rfl ⟨⟨5, .data⟩, by simp, rfl, rfl⟩
        have s20 : a.tmps[20]?.getD undef = .pointer (some ⟨b + 2, k, none⟩) := hdep ⟨4, .data⟩ (by cases hio; simp) rfl 20 rfl
        have hcvW : W9.cell? ⟨b + 2, k, none⟩ = some (.slice va q.length vc) := by
          match vs, hGv, hl1 with
          | [], hh, _ => exact (hh.cell (p := ⟨b + 2, k, none⟩) (by simp; omega)).trans hcv
          | [_], ⟨_, _, _, hh⟩, _ => exact (hh.cell (p := ⟨b + 2, k, none⟩) (by simp; omega)).trans hcv
        cases hio; clear hGv hlate hdep; unfold Oper.wp; go_simp; exact hK
      · have hl0 : vs.length ≤ 0 := hlate 0 7 _ rfl rfl ⟨⟨6, .data⟩, by simp, rfl, rfl⟩
        obtain rfl : vs = [] := List.length_eq_zero_iff.1 (by omega)
        have hcnW := (hGv.cell (p := ⟨W.heap.size, 0, none⟩) hn1X).trans hcn2
        cases hio; clear hGv hlate hdep; unfold Oper.wp; go_simp; exact hK
      · exact absurd (by simp) hiT
      · exact absurd (by simp) hiT
      · have s16 : a.tmps[16]?.getD undef = .slice (some ⟨b + 2, 0, none⟩) ord.length ord.length := hdep ⟨0, .data⟩ (by cases hio; simp) rfl 16 rfl
        have s17 : a.tmps[17]?.getD undef = .int .i64 (k : Int) := hdep ⟨1, .data⟩ (by cases hio; simp) rfl 17 rfl
        cases hio; clear hGv hlate hdep; unfold Oper.wp; go_simp; exact hK
      · exact absurd (by simp) hiT
      · simp at hio
    · intro j i o hj hio vs a W9 K hvl hGv hag hdep hK
      rcases j with _ | _ | _ | j
      · obtain rfl : 7 = i := by simpa using hj
        obtain rfl : vs = [] := List.length_eq_zero_iff.1 hvl
        have s22 : a.tmps[22]?.getD undef = .int .i64 n := hdep ⟨6, .data⟩ (by cases hio; simp) rfl 22 rfl
        have hBW : Below X.heap.size X W9 := hGv
        cases hio
        clear hdep
        unfold Oper.wp
        go_simp
        exact hK _ _ ⟨W9.heap.size, rfl, by simp [go_sem], hBW.alloc hBW.size _⟩
      · obtain rfl : 8 = i := by simpa using hj
        obtain ⟨v7, rfl⟩ : ∃ v7, vs = [v7] := by
          match vs, hvl with
          | [v7], _ => exact ⟨v7, rfl⟩
        obtain ⟨m, rfl, hm, hBW⟩ := hGv
        have s21 : a.tmps[21]?.getD undef = .slice va q.length vc := hdep ⟨5, .data⟩ (by cases hio; simp) rfl 21 rfl
        have s23 : a.tmps[23]?.getD undef = .slice (some ⟨m, 0, none⟩) 1 1 := hdep ⟨7, .data⟩ (by cases hio; simp) rfl 23 rfl
        have hsW := hBW.size
        cases hio
        refine op_append (.tmp 21) (.tmp 23) 26 rfl (b + 4) 3 i0 _ 1 8 Try.underlying26 hi hz0 hz1 hz2 rfl (by decide) _ _ _ (by simpa [Act.eval] using s21) (hvr.kept ⟨hBW.os, hBW.tape, hBW.output, hBW.size, fun k hk _ => hBW.block k hk⟩ (row := none) (by cases hv : Value.ownBlock (.slice va q.length vc) <;> simp)) ⟨m, 0, none⟩ 1 1 [.int .i64 n] (by simpa [Act.eval] using s23) rfl ?_ (by simp [Value.oneCell']) (by simp only [maxLen]; omega) (by omega) (by omega) ?_
        · intro j u hj
          match j, hj with
          | 0, hj => simp at hj; subst hj; simpa [Addr.add] using hm
        · intro v8 w8 hrow8 hg8 hat8
          exact hK _ _ ⟨W9, hBW, hg8, hrow8, hat8⟩
      · obtain rfl : 10 = i := by simpa using hj
        obtain ⟨v7, v8, rfl⟩ : ∃ v7 v8, vs = [v7, v8] := by
          match vs, hvl with
          | [v7, v8], _ => exact ⟨v7, v8, rfl⟩
        obtain ⟨Y1, hB1, hg1, hrow8, hat8⟩ := hGv
        obtain ⟨g8, c8, rfl⟩ := ownsRow_succ hrow8
        have s24 : a.tmps[24]?.getD undef = .slice (some ⟨g8, 0, none⟩) (q.length + 1) c8 := hdep ⟨8, .data⟩ (by cases hio; simp) rfl 24 rfl
        have s25 : a.tmps[25]?.getD undef = .pointer (some ⟨b + 2, k, none⟩) := hdep ⟨9, .data⟩ (by cases hio; simp) rfl 25 rfl
        have hb2 : W9.heap[b + 2]? = X.heap[b + 2]? := (hg1.block (b + 2) (by have := hB1.size; omega) (fun e => by have := (hvr.lt _ e.symm).1; omega)).trans (hB1.block (b + 2) (by omega))
        have e2 := (World.cell?_of_block (a := ⟨b + 2, k, none⟩) hb2).trans hcv
        have f2 := (World.frozen?_of_block (a := ⟨b + 2, k, none⟩) hb2).trans hfz
        obtain ⟨r1, r2, r3, r4⟩ := hF.put (unhide HLk) (unhide Hv) hB1 hg1 hrow8 hat8
        obtain ⟨r5, r6⟩ := r4 W.heap.size hn1X (by omega) hnb
        cases hio
        clear hdep
        unfold Oper.wp
        go_simp
        exact hK undef _ ⟨⟨_, r1, (World.cell?_of_block (a := ⟨W.heap.size, 0, none⟩) r5).trans hcn2, r6⟩, r2, r3⟩
      · simp at hj
    · intro vs Y hvl hGv
      obtain ⟨v7, v8, v10, rfl⟩ : ∃ v7 v8 v10, vs = [v7, v8, v10] := by
        match vs, hvl with
        | [v7, v8, v10], _ => exact ⟨v7, v8, v10, rfl⟩
      obtain ⟨⟨es3, h1, h2, h3⟩, h4, h5⟩ := hGv
      exact ⟨h5.from _, h4, es3, by rw [unhide Hvs, unhide HL2]; exact h1, h2, h3, hB.trans h4⟩
  case done =>
    rintro D' xs X hD rfl ⟨es2, hF, hcn2, hnb, hB⟩ hK
    gi_wp2
    refine ⟨by simp, .inl ⟨_, _, rfl, run_takeDeferred hK, ?_⟩⟩
    refine ⟨_, results_none rfl _ _ _, rfl, ⟨es2, ?_⟩, hB.trans (belowK_b (w := W1) (by omega) X D' _ _ hD hK rfl rfl)⟩
    rw [← unhide HR]
    exact hF.own (grownBy_putObj' X D' _) (fun r e => by cases e; exact ⟨by omega, _, hK, rfl⟩)
  case stop =>
    rintro D' c pre X _ _ h _
    exact h.elim

end Go.Proofs.Ytkoidbekfjlfjaa
