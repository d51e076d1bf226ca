/- Merged texts: Ke Ka Wq Wn Ra Kb Dd Kc De Kf Wr Ws Wu Sb Sa Wb Xb Sh. -/
import Derived.Test.YthpmckfgngkbhaaProg
import Derived.Test.YthpmckfgngkbhaaDomTellsB
import Derived.Laws.StructEq
import Derived.OwnWalk
import Derived.Ground.NamesProg
import Derived.Shelf.Sort.Plain
import Derived.Shelf.Slices.In.SortNone
import Derived.Sort.OwnSortedInts

/- Walks: the closure of referrers. -/
namespace Go.Proofs.Ythpmckfgngkbhaa
set_option linter.unusedSimpArgs false
set_option linter.unusedVariables false
open Go.RowKit Go.Shelf
attribute [local go_sem] Oper.semAt_some

theorem valsS_snoc {S : List Int} (pre : List (ObS S)) (x : ObS S) : valsS (pre ++ [x]) = valsS pre ++ [x.1] := by simp [valsS]
theorem valsS_len {S : List Int} (pre : List (ObS S)) : (valsS pre).length = pre.length := by simp [valsS]

set_option maxRecDepth 100000 in
set_option maxHeartbeats 4000000 in
theorem note_c (N gb b : Nat) (o0 o1 : Obj) (ord : List Int) (hord : ∀ x ∈ ord, 0 ≤ x ∧ x < (N : Int)) (hN : N ≤ 24) (n : Int) (a : Option Addr) (cap : Nat) (l : List V) (L : List (List Int)) (M : Nat) (W : World) (es : List Value) (h : RB W b N gb o0 o1 ord L es) (hV : Vals b W a l) (hok : RefsOkS ord l) (hl : l.length ≤ 1000)
    (hM : ∀ q ∈ L, q.length ≤ M) (hM2 : M ≤ 100000) :
    Calls Try.prog 43 #[.int .i64 n, .slice a l.length cap, .pointer (some ⟨b, 0, none⟩), .pointer (some ⟨b + 3, 0, none⟩)] W fun e W' => e = .returned (.tuple #[]) ∧ (∃ es, RB W' b N gb o0 o1 ord (noteL ord n L (refsL l)) es) ∧ Below b W W' := by
  obtain ⟨i0, hi, hz0, hz1, hz2⟩ := info_parts Try.info3
  have hlt := h.lt
  have hS24 : ∀ x ∈ ord, 0 ≤ x ∧ x < 24 := fun x hx => by have := hord x hx; omega
  have HR := hide (vals_obsS hS24 l hok)
  have HS := hide hS24
  have Hord := hide hord
  have HM := hide hM
  clear hord hM
  have hbn : ∀ (j : Nat) (u : Value), es[j]? = some u → u.ownBlock ≠ some W.heap.size := fun j u hu e => by
    have hjl : j < L.length := by have h9 := (List.getElem?_eq_some_iff.1 hu).1; have h8 := h.row.1; have h7 := h.len; omega
    obtain ⟨u', hu', hur⟩ := h.el j L[j] (List.getElem?_eq_getElem hjl)
    rw [hu] at hu'
    injection hu' with hu'
    subst hu'
    have := (hur.lt _ e).2
    omega
  have Hbn := hide hbn
  clear hbn hS24
  refine (callsIn_wide (n := 8)).1 ?_
  refine callsIn_of_wp_marks Try.func43 rfl trivial ?_ rfl
  simp only [Try.ntmps43, List.size_toArray, List.length_cons, List.length_nil, Nat.reduceAdd, Nat.reduceSub, Array.replicate_succ, Array.replicate_zero, List.push_toArray, List.append_toArray, List.nil_append, List.cons_append]
  gi_wp2_with (refine ⟨trivial, ?_⟩; gi_at_call 36; go_must (refine (callsIn_wide.2 (refs_c _ _ _ _)).mono ?_); rintro e w3 ⟨rfl, hw3⟩; subst hw3)
  obtain ⟨W1, hW1⟩ : ∃ W1, (W.alloc (.cells #[.int .i64 n] 3)).alloc (.cells #[.slice a l.length cap] 23) = W1 := ⟨_, rfl⟩
  rw [hW1]
  have hs1 : W1.heap.size = W.heap.size + 2 := by rw [← hW1]; simp
  have hbl : W1.cell? ⟨W.heap.size + 1, 0, none⟩ = some (.slice a l.length cap) := by rw [← hW1]; simp [go_sem]
  have hcn : W1.cell? ⟨W.heap.size, 0, none⟩ = some (.int .i64 n) := by rw [← hW1]; simp [go_sem]
  have hWW1 : Below W.heap.size W W1 := by rw [← hW1]; exact ((Below.refl _ _).alloc (Nat.le_refl _) _).alloc (by simp) _
  have hF1 := h.below hWW1
  have hB1 : Below b W W1 := hWW1.mono (by omega)
  clear hW1
  refine wpIn_rangeFunc_ownG (F := Fence.wide) (n := 8) rfl (by omega) (gf := 48) (lb := #[.pointer (some ⟨W.heap.size + 1, 0, none⟩)]) rfl trivial (enters_of Try.func48 (by kernel_rfl) rfl)
    (refs1S_stops (unhide HS) 7 (by omega) (W.heap.size + 1) b a cap l hok W1 (by omega) (by omega) hbl (hV.below hB1)) belowK_t (belowK_b (by omega)) (Below.refl _ _) (fun _ => rfl)
    (fun pre X => ∃ es, RB X b N gb o0 o1 ord (noteL ord n L (valsS pre)) es ∧ X.cell? ⟨W.heap.size, 0, none⟩ = some (.int .i64 n) ∧ (∀ (j : Nat) (u : Value), es[j]? = some u → u.ownBlock ≠ some W.heap.size) ∧ Below b W X)
    (fun _ _ _ => False)
    (by
      rintro pre X Y row ⟨es, h1, h2, h3, h4⟩ hg hr
      have hltX := h1.lt
      refine ⟨es, h1.own hg (fun r e => ⟨by have := (hr r e).1; omega, (hr r e).2⟩), hg.cell h2 (fun e => by have := (hr _ e.symm).1; simp at this; omega), h3, h4.grown hg (by omega) (fun k e => by have := (hr k e).1; omega)⟩)
    (fun _ _ _ _ _ hs _ _ => hs)
    ⟨es, hF1, hcn, unhide Hbn, hB1⟩
    (fun x => { tmps := #[.int .i64 n, .slice a l.length cap, .pointer (some ⟨b, 0, none⟩), .pointer (some ⟨b + 3, 0, none⟩), .pointer (some ⟨W.heap.size, 0, none⟩), undef, .int .i64 x.1, undef, .slice a l.length cap, .func (.func 48) #[] #[.pointer (some ⟨W.heap.size + 1, 0, none⟩)], .int .i64 x.1, undef, undef, undef, undef, undef, undef, undef, undef, undef, undef, undef, undef, undef, undef, undef], defers := [] }) ?assign ?body ?done ?stop
  case assign =>
    intro l x X K hK
    unfold encS
    gi_wp2
    exact hK
  case body =>
    rintro l' pre x X ⟨es2, hF, hcn2, hnb, hB⟩ hpre
    obtain ⟨x, hxo⟩ := x
    obtain ⟨hx0, hx1⟩ := unhide Hord x hxo
    have Hk : Hid (numAt ord x = ((ord.idxOf x : Nat) : Int)) := by show _ = _; unfold numAt; rw [if_pos hxo]
    have hkl : ord.idxOf x < ord.length := List.idxOf_lt_length_iff.2 hxo
    have HL := hide (noteL_snoc ord n L (valsS pre) x)
    have Hle := hide (noteL_le ord n (valsS pre) L M (unhide HM))
    have hpl : (valsS pre).length ≤ 1000 := by rw [valsS_len]; omega
    have Hvs := hide (valsS_snoc pre ⟨x, hxo⟩)
    obtain ⟨x, rfl⟩ := Int.eq_ofNat_of_zero_le hx0
    have hxN : x < N := by omega
    have hnl : x < (numL N ord).length := by rw [numL_len]; exact hxN
    obtain ⟨b9, off9, e9, hb9, hcx⟩ := hF.num.at hnl
    injection e9 with e9
    injection e9 with e91 e92
    subst e91 e92
    have hnx := numL_get ord hxN
    rw [List.getElem?_eq_getElem hnl] at hnx
    injection hnx with hnx
    rw [hnx, unhide Hk, Nat.zero_add] at hcx
    clear hnx Hk
    generalize noteL ord n L (valsS pre) = L2 at *
    generalize ord.idxOf (x : Int) = k at *
    have hkL : k < L2.length := by rw [hF.len]; exact hkl
    have hLk : L2[k]? = some L2[k] := List.getElem?_eq_getElem hkL
    have hql := unhide Hle _ (List.getElem_mem hkL)
    have HL2 : Hid (noteL ord n L (valsS pre ++ [(x : Int)]) = L2.set k (L2[k] ++ [n])) := by
      show _ = _
      rw [unhide HL]; simp [hkL]
    obtain ⟨v, hv, hvr⟩ := hF.el k _ hLk
    have Hv := hide hv
    have HLk := hide hLk
    generalize L2[k] = q at *
    obtain ⟨va, vc, rfl⟩ := ownsRow_slice hvr
    have hcv := row_at hF.row hv
    have hfz := hF.row.frozenAt k
    have hc1 := hF.c1
    have hcf := hF.cf
    have hltX := hF.lt
    have hn1X : W.heap.size < X.heap.size := World.block_lt_of_cell? X _ hcn2
    clear hv hLk HL Hle
    have hxI : (x : Int) < (N : Int) := by omega
    have hkI : (k : Int) < (ord.length : Int) := by omega
    gi_wp2
    clear hcx hc1 hb9
    refine wpIn_region_hoist _ [7, 8, 10] (fun i => match i with
        | 0 => .slice (some ⟨b + 2, 0, none⟩) ord.length ord.length
        | 1 => .int .i64 (k : Int)
        | 2 => .slice (some ⟨b + 2, 0, none⟩) ord.length ord.length
        | 3 => .int .i64 (k : Int)
        | 4 => .pointer (some ⟨b + 2, k, none⟩)
        | 5 => .slice va q.length vc
        | 6 => .int .i64 n
        | _ => .pointer (some ⟨b + 2, k, none⟩))
      (fun vs Y => match vs with
        | [] => Below X.heap.size X Y
        | [v7] => ∃ m, v7 = .slice (some ⟨m, 0, none⟩) 1 1 ∧ Y.cell? ⟨m, 0, none⟩ = some (.int .i64 n) ∧ Below X.heap.size X Y
        | [v7, v8] => ∃ Y1, Below X.heap.size X Y1 ∧ Y1.grownBy Y (Value.ownBlock (.slice va q.length vc)) ∧ Y.ownsRow (b + 4) 3 1 v8 (q.length + 1) (intsV q ++ [.int .i64 n]) ∧ (v8.ownBlock = Value.ownBlock (.slice va q.length vc) ∨ v8.ownBlock = some Y1.heap.size)
        | [v7, v8, v10] => (∃ es, RB Y b N gb o0 o1 ord (L2.set k (q ++ [n])) es ∧ Y.cell? ⟨W.heap.size, 0, none⟩ = some (.int .i64 n) ∧ (∀ (j : Nat) (u : Value), es[j]? = some u → u.ownBlock ≠ some W.heap.size)) ∧ Below b X Y ∧ KeepsOthers X Y
        | _ => False) Try.mixed (by kernel_rfl) (laid_of (by kernel_rfl)) (Below.refl _ _).drew ?_ ?_ ?_
    · intro i o hio hiT vs a W9 K hGv hlate hag hdep hK
      have t2 := hag.tm (k := 2) (by simp [dsOf])
      have t3 := hag.tm (k := 3) (by simp [dsOf])
      have t4 := hag.tm (k := 4) (by simp [dsOf])
      have t7 := hag.tm (k := 7) (by simp [dsOf])
      simp at t2 t3 t4 t7
      have hcfW : W9.cell? ⟨b + 3, 0, none⟩ = some (.slice (some ⟨b + 2, 0, none⟩) ord.length ord.length) := by
        match vs, hGv with
        | [], hh => exact (hh.cell (p := ⟨b + 3, 0, none⟩) hltX).trans hcf
        | [_], ⟨_, _, _, hh⟩ => exact (hh.cell (p := ⟨b + 3, 0, none⟩) hltX).trans hcf
        | [_, _], ⟨Y1, hh, hg, _, _⟩ => exact hg.cell ((hh.cell (p := ⟨b + 3, 0, none⟩) hltX).trans hcf) (fun e => by have h9 : b + 4 ≤ b + 3 := (hvr.lt _ e.symm).1; omega)
        | [_, _, _], ⟨⟨_, hh, _⟩, _⟩ => exact hh.cf
      rcases i with _ | _ | _ | _ | _ | _ | _ | _ | _ | _ | _ | i
      · cases hio; clear hGv hlate hdep; unfold Oper.wp; go_simp; exact hK
      · cases hio; clear hGv hlate hdep; unfold Oper.wp; go_simp; exact hK
      · cases hio; clear hGv hlate hdep; unfold Oper.wp; go_simp; exact hK
      · cases hio; clear hGv hlate hdep; unfold Oper.wp; go_simp; exact hK
      · have s18 : a.tmps[18]?.getD undef = .slice (some ⟨b + 2, 0, none⟩) ord.length ord.length := hdep ⟨2, .data⟩ (by cases hio; simp) rfl 18 rfl
        have s19 : a.tmps[19]?.getD undef = .int .i64 (k : Int) := hdep ⟨3, .data⟩ (by cases hio; simp) rfl 19 rfl
        cases hio; clear hGv hlate hdep; unfold Oper.wp; go_simp; exact hK
      · have hl1 : vs.length ≤ 1 := hlate 1 8 _ rfl rfl ⟨⟨5, .data⟩, by simp, rfl, rfl⟩
        have s20 : a.tmps[20]?.getD undef = .pointer (some ⟨b + 2, k, none⟩) := hdep ⟨4, .data⟩ (by cases hio; simp) rfl 20 rfl
        have hcvW : W9.cell? ⟨b + 2, k, none⟩ = some (.slice va q.length vc) := by
          match vs, hGv, hl1 with
          | [], hh, _ => exact (hh.cell (p := ⟨b + 2, k, none⟩) (by simp; omega)).trans hcv
          | [_], ⟨_, _, _, hh⟩, _ => exact (hh.cell (p := ⟨b + 2, k, none⟩) (by simp; omega)).trans hcv
        cases hio; clear hGv hlate hdep; unfold Oper.wp; go_simp; exact hK
      · have hl0 : vs.length ≤ 0 := hlate 0 7 _ rfl rfl ⟨⟨6, .data⟩, by simp, rfl, rfl⟩
        obtain rfl : vs = [] := List.length_eq_zero_iff.1 (by omega)
        have hcnW := (hGv.cell (p := ⟨W.heap.size, 0, none⟩) hn1X).trans hcn2
        cases hio; clear hGv hlate hdep; unfold Oper.wp; go_simp; exact hK
      · exact absurd (by simp) hiT
      · exact absurd (by simp) hiT
      · have s16 : a.tmps[16]?.getD undef = .slice (some ⟨b + 2, 0, none⟩) ord.length ord.length := hdep ⟨0, .data⟩ (by cases hio; simp) rfl 16 rfl
        have s17 : a.tmps[17]?.getD undef = .int .i64 (k : Int) := hdep ⟨1, .data⟩ (by cases hio; simp) rfl 17 rfl
        cases hio; clear hGv hlate hdep; unfold Oper.wp; go_simp; exact hK
      · exact absurd (by simp) hiT
      · simp at hio
    · intro j i o hj hio vs a W9 K hvl hGv hag hdep hK
      rcases j with _ | _ | _ | j
      · obtain rfl : 7 = i := by simpa using hj
        obtain rfl : vs = [] := List.length_eq_zero_iff.1 hvl
        have s22 : a.tmps[22]?.getD undef = .int .i64 n := hdep ⟨6, .data⟩ (by cases hio; simp) rfl 22 rfl
        have hBW : Below X.heap.size X W9 := hGv
        cases hio
        clear hdep
        unfold Oper.wp
        go_simp
        exact hK _ _ ⟨W9.heap.size, rfl, by simp [go_sem], hBW.alloc hBW.size _⟩
      · obtain rfl : 8 = i := by simpa using hj
        obtain ⟨v7, rfl⟩ : ∃ v7, vs = [v7] := by
          match vs, hvl with
          | [v7], _ => exact ⟨v7, rfl⟩
        obtain ⟨m, rfl, hm, hBW⟩ := hGv
        have s21 : a.tmps[21]?.getD undef = .slice va q.length vc := hdep ⟨5, .data⟩ (by cases hio; simp) rfl 21 rfl
        have s23 : a.tmps[23]?.getD undef = .slice (some ⟨m, 0, none⟩) 1 1 := hdep ⟨7, .data⟩ (by cases hio; simp) rfl 23 rfl
        have hsW := hBW.size
        cases hio
        refine op_append (.tmp 21) (.tmp 23) 26 rfl (b + 4) 3 i0 _ 1 8 Try.underlying26 hi hz0 hz1 hz2 rfl (by decide) _ _ _ (by simpa [Act.eval] using s21) (hvr.kept ⟨hBW.os, hBW.tape, hBW.output, hBW.size, fun k hk _ => hBW.block k hk⟩ (row := none) (by cases hv : Value.ownBlock (.slice va q.length vc) <;> simp)) ⟨m, 0, none⟩ 1 1 [.int .i64 n] (by simpa [Act.eval] using s23) rfl ?_ (by simp [Value.oneCell']) (by simp only [maxLen]; omega) (by omega) (by omega) ?_
        · intro j u hj
          match j, hj with
          | 0, hj => simp at hj; subst hj; simpa [Addr.add] using hm
        · intro v8 w8 hrow8 hg8 hat8
          exact hK _ _ ⟨W9, hBW, hg8, hrow8, hat8⟩
      · obtain rfl : 10 = i := by simpa using hj
        obtain ⟨v7, v8, rfl⟩ : ∃ v7 v8, vs = [v7, v8] := by
          match vs, hvl with
          | [v7, v8], _ => exact ⟨v7, v8, rfl⟩
        obtain ⟨Y1, hB1, hg1, hrow8, hat8⟩ := hGv
        obtain ⟨g8, c8, rfl⟩ := ownsRow_succ hrow8
        have s24 : a.tmps[24]?.getD undef = .slice (some ⟨g8, 0, none⟩) (q.length + 1) c8 := hdep ⟨8, .data⟩ (by cases hio; simp) rfl 24 rfl
        have s25 : a.tmps[25]?.getD undef = .pointer (some ⟨b + 2, k, none⟩) := hdep ⟨9, .data⟩ (by cases hio; simp) rfl 25 rfl
        have hb2 : W9.heap[b + 2]? = X.heap[b + 2]? := (hg1.block (b + 2) (by have := hB1.size; omega) (fun e => by have := (hvr.lt _ e.symm).1; omega)).trans (hB1.block (b + 2) (by omega))
        have e2 := (World.cell?_of_block (a := ⟨b + 2, k, none⟩) hb2).trans hcv
        have f2 := (World.frozen?_of_block (a := ⟨b + 2, k, none⟩) hb2).trans hfz
        obtain ⟨r1, r2, r3, r4⟩ := hF.put (unhide HLk) (unhide Hv) hB1 hg1 hrow8 hat8
        obtain ⟨r5, r6⟩ := r4 W.heap.size hn1X (by omega) hnb
        cases hio
        clear hdep
        unfold Oper.wp
        go_simp
        exact hK undef _ ⟨⟨_, r1, (World.cell?_of_block (a := ⟨W.heap.size, 0, none⟩) r5).trans hcn2, r6⟩, r2, r3⟩
      · simp at hj
    · intro vs Y hvl hGv
      obtain ⟨v7, v8, v10, rfl⟩ : ∃ v7 v8 v10, vs = [v7, v8, v10] := by
        match vs, hvl with
        | [v7, v8, v10], _ => exact ⟨v7, v8, v10, rfl⟩
      obtain ⟨⟨es3, h1, h2, h3⟩, h4, h5⟩ := hGv
      exact ⟨h5.from _, h4, es3, by rw [unhide Hvs, unhide HL2]; exact h1, h2, h3, hB.trans h4⟩
  case done =>
    rintro D' xs X hD rfl ⟨es2, hF, hcn2, hnb, hB⟩ hK
    gi_wp2
    refine ⟨by simp, .inl ⟨_, _, rfl, run_takeDeferred hK, ?_⟩⟩
    refine ⟨_, results_none rfl _ _ _, rfl, ⟨es2, ?_⟩, hB.trans (belowK_b (w := W1) (by omega) X D' _ _ hD hK rfl rfl)⟩
    rw [← unhide HR]
    exact hF.own (grownBy_putObj' X D' _) (fun r e => by cases e; exact ⟨by omega, _, hK, rfl⟩)
  case stop =>
    rintro D' c pre X _ _ h _
    exact h.elim

end Go.Proofs.Ythpmckfgngkbhaa

/- Plain: who keeps whom, by climbing from keeper to keeper: what holds while the passes go on, and in the end. -/
namespace Go.Proofs.Ythpmckfgngkbhaa
set_option linter.unusedSimpArgs false
set_option linter.unusedVariables false

def upN (f : Nat → Nat) : Nat → Nat → Nat
  | 0, n => n
  | j + 1, n => upN f j (f n)

/-- x stands on the chain of n. -/
def Anc (f : Nat → Nat) (n x : Nat) : Prop := ∃ j, upN f j n = x

theorem Anc.refl (f : Nat → Nat) (n : Nat) : Anc f n n := ⟨0, rfl⟩
theorem Anc.step {f : Nat → Nat} {n x : Nat} (h : Anc f (f n) x) : Anc f n x := by
  obtain ⟨j, hj⟩ := h; exact ⟨j + 1, hj⟩
theorem anc_iff {f : Nat → Nat} {n x : Nat} : Anc f n x ↔ n = x ∨ Anc f (f n) x := by
  constructor
  · rintro ⟨j, hj⟩
    cases j with
    | zero => exact .inl hj
    | succ j => exact .inr ⟨j, hj⟩
  · rintro (rfl | h)
    · exact Anc.refl _ _
    · exact h.step

/-- Along a chain. -/
theorem anc_ind {f : Nat → Nat} {x : Nat} (P : Nat → Prop) (h0 : P x) (h1 : ∀ n, Anc f (f n) x → P (f n) → P n) : ∀ n, Anc f n x → P n := by
  rintro n ⟨j, hj⟩
  induction j generalizing n with
  | zero => have hj : n = x := hj; rw [hj]; exact h0
  | succ j ih => exact h1 n ⟨j, hj⟩ (ih (f n) hj)

theorem Anc.trans {f : Nat → Nat} {n x y : Nat} (h : Anc f n x) (h2 : Anc f x y) : Anc f n y :=
  anc_ind (x := x) (fun n => Anc f n y) h2 (fun n _ ih => ih.step) n h

theorem Anc.fix {f : Nat → Nat} {n x : Nat} (h : Anc f n x) (hf : f n = n) : n = x := by
  obtain ⟨j, hj⟩ := h
  have : ∀ j, upN f j n = n := by
    intro j
    induction j with
    | zero => rfl
    | succ j ih => rw [upN, hf]; exact ih
  rw [← hj, this j]

theorem Anc.le {f : Nat → Nat} (hm : ∀ n, n ≤ f n) {n x : Nat} (h : Anc f n x) : n ≤ x :=
  anc_ind (x := x) (fun n => n ≤ x) (Nat.le_refl _) (fun n _ ih => Nat.le_trans (hm n) ih) n h

theorem anc_lin {f : Nat → Nat} {n x y : Nat} (h : Anc f n x) (h2 : Anc f n y) : Anc f x y ∨ Anc f y x := by
  refine anc_ind (x := x) (fun n => Anc f n y → Anc f x y ∨ Anc f y x) (fun h => .inl h) (fun n hx ih h => ?_) n h h2
  rcases anc_iff.1 h with e | e
  · subst e; exact .inr hx.step
  · exact ih e

theorem anc_le_anc {f : Nat → Nat} (hm : ∀ n, n ≤ f n) {n x y : Nat} (h : Anc f n x) (h2 : Anc f n y) (hle : x ≤ y) : Anc f x y := by
  rcases anc_lin h h2 with e | e
  · exact e
  · have := e.le hm
    obtain rfl : x = y := by omega
    exact Anc.refl _ _

/-- One keeper changed. -/
def upd (f : Nat → Nat) (n k : Nat) : Nat → Nat := fun m => if m = n then k else f m

theorem upd_self (f : Nat → Nat) (n k : Nat) : upd f n k n = k := by simp [upd]
theorem upd_ne {f : Nat → Nat} {n k m : Nat} (h : m ≠ n) : upd f n k m = f m := by simp [upd, h]
theorem upd_back (f : Nat → Nat) (n k : Nat) : upd (upd f n k) n (f n) = f := by
  funext m; by_cases e : m = n
  · subst e; simp [upd]
  · simp [upd, e]

theorem anc_low {f : Nat → Nat} (hm : ∀ n, n ≤ f n) {n k m x : Nat} (h : Anc f m x) (hx : x ≤ n) : Anc (upd f n k) m x := by
  refine anc_ind (x := x) (fun m => Anc (upd f n k) m x) (Anc.refl _ _) (fun m hmx ih => ?_) m h
  by_cases e : m = n
  · subst e
    have := hmx.le hm
    have := hm m
    obtain rfl : x = m := by omega
    exact Anc.refl _ _
  · refine Anc.step ?_
    rw [upd_ne e]; exact ih

theorem anc_low' {f : Nat → Nat} {n k m x : Nat} (hm : ∀ m, m ≤ upd f n k m) (h : Anc (upd f n k) m x) (hx : x ≤ n) : Anc f m x := by
  have := anc_low (k := f n) hm h hx
  rwa [upd_back] at this

theorem anc_high {f : Nat → Nat} (hm : ∀ n, n ≤ f n) {n k m x : Nat} (h : Anc f m x) (hn : n < m) : Anc (upd f n k) m x := by
  refine anc_ind (x := x) (fun m => n < m → Anc (upd f n k) m x) (fun _ => Anc.refl _ _) (fun m _ ih hn => ?_) m h hn
  refine Anc.step ?_
  rw [upd_ne (by omega)]
  exact ih (by have := hm m; omega)

theorem anc_high' {f : Nat → Nat} {n k m x : Nat} (hm : ∀ m, m ≤ upd f n k m) (h : Anc (upd f n k) m x) (hn : n < m) : Anc f m x := by
  have := anc_high (k := f n) hm h hn
  rwa [upd_back] at this

theorem anc_off {f : Nat → Nat} {n k m x : Nat} (hn : ¬ Anc f m n) (h : Anc f m x) : Anc (upd f n k) m x := by
  refine anc_ind (x := x) (fun m => ¬ Anc f m n → Anc (upd f n k) m x) (fun _ => Anc.refl _ _) (fun m _ ih hn => ?_) m h hn
  refine Anc.step ?_
  rw [upd_ne (fun e => hn (by rw [e]; exact Anc.refl _ _))]
  exact ih (fun e => hn e.step)

theorem anc_off' {f : Nat → Nat} {n k m x : Nat} (hn : ¬ Anc f m n) (h : Anc (upd f n k) m x) : Anc f m x := by
  refine anc_ind (x := x) (fun m => ¬ Anc f m n → Anc f m x) (fun _ => Anc.refl _ _) (fun m _ ih hn => ?_) m h hn
  have e : m ≠ n := fun e => hn (by rw [e]; exact Anc.refl _ _)
  rw [upd_ne e] at ih
  exact (ih (fun e => hn e.step)).step

/-- n can be come to from r without x. -/
def Av (E : Nat → Nat → Prop) (r x n : Nat) : Prop := ∀ P : Nat → Prop, (r ≠ x → P r) → (∀ p m, P p → E p m → m ≠ x → P m) → P n

theorem Av.root {E : Nat → Nat → Prop} {r x : Nat} (h : r ≠ x) : Av E r x r := fun P h0 _ => h0 h
theorem Av.next {E : Nat → Nat → Prop} {r x p m : Nat} (h : Av E r x p) (he : E p m) (hn : m ≠ x) : Av E r x m := fun P h0 h1 => h1 p m (h P h0 h1) he hn

/-- A way from k to m on which all behind k are below k. -/
def Und (E : Nat → Nat → Prop) (k m : Nat) : Prop := ∀ P : Nat → Prop, (∀ m, E k m → m < k → P m) → (∀ p m, P p → E p m → m < k → P m) → P m

theorem Und.one {E : Nat → Nat → Prop} {k m : Nat} (h : E k m) (hl : m < k) : Und E k m := fun P h0 _ => h0 m h hl
theorem Und.next {E : Nat → Nat → Prop} {k p m : Nat} (h : Und E k p) (he : E p m) (hl : m < k) : Und E k m := fun P h0 h1 => h1 p m (h P h0 h1) he hl
theorem Und.lt {E : Nat → Nat → Prop} {k m : Nat} (h : Und E k m) : m < k := h (fun m => m < k) (fun _ _ h => h) (fun _ _ _ _ h => h)
theorem Und.trans {E : Nat → Nat → Prop} {x k m : Nat} (h1 : Und E x k) (h2 : Und E k m) : Und E x m := by
  have hlt := h1.lt
  exact h2 (fun m => Und E x m) (fun m he hl => h1.next he (by omega)) (fun p m hp he hl => hp.next he (by omega))
theorem Und.av {E : Nat → Nat → Prop} {r x k m : Nat} (h : Und E k m) (hx : k < x) (ha : Av E r x k) : Av E r x m :=
  h (fun m => Av E r x m) (fun m he hl => ha.next he (by omega)) (fun p m hp he hl => hp.next he (by omega))

/-- What holds of the keepers, where all from c on are done. -/
structure KOk (E : Nat → Nat → Prop) (r c : Nat) (kn : Nat → Prop) (f : Nat → Nat) : Prop where
  bnd : ∀ n, kn n → n ≤ r
  top : f r = r
  unk : ∀ n, ¬ kn n → f n = n
  up : ∀ n, n < r → kn n → n < f n ∧ kn (f n)
  seen : ∀ n, c ≤ n → n ≤ r → kn n
  link : ∀ n, n < r → kn n → Und E (f n) n
  dom : ∀ n x, n < r → kn n → ¬ Av E r x n → Anc f n x
  low : ∀ m x, m < r → kn m → (∀ p, E p m → kn p → Anc f p x) → Anc f m x
  par : ∀ m p x, m < r → kn m → E p m → m < p → Anc f m x → x ≠ m → (x < c ∨ c ≤ m) → Anc f p x

theorem KOk.mon {E : Nat → Nat → Prop} {r c : Nat} {kn : Nat → Prop} {f : Nat → Nat} (h : KOk E r c kn f) : ∀ n, n ≤ f n := by
  intro n
  by_cases hk : kn n
  · rcases Nat.lt_or_ge n r with hl | hl
    · exact Nat.le_of_lt (h.up n hl hk).1
    · obtain rfl : n = r := by have := h.bnd n hk; omega
      rw [h.top]; exact Nat.le_refl _
  · rw [h.unk n hk]; exact Nat.le_refl _

theorem KOk.knf {E : Nat → Nat → Prop} {r c : Nat} {kn : Nat → Prop} {f : Nat → Nat} (h : KOk E r c kn f) {n : Nat} (hk : kn n) : kn (f n) := by
  rcases Nat.lt_or_ge n r with hl | hl
  · exact (h.up n hl hk).2
  · obtain rfl : n = r := by have := h.bnd n hk; omega
    rw [h.top]; exact hk

theorem KOk.known {E : Nat → Nat → Prop} {r c : Nat} {kn : Nat → Prop} {f : Nat → Nat} (h : KOk E r c kn f) {n x : Nat} (ha : Anc f n x) (hk : kn n) : kn x :=
  anc_ind (x := x) (fun n => kn n → kn x) (fun h => h) (fun n _ ih hk => ih (h.knf hk)) n ha hk

theorem KOk.und {E : Nat → Nat → Prop} {r c : Nat} {kn : Nat → Prop} {f : Nat → Nat} (h : KOk E r c kn f) {n x : Nat} (ha : Anc f n x) (hk : kn n) : n = x ∨ Und E x n := by
  refine anc_ind (x := x) (fun n => kn n → n = x ∨ Und E x n) (fun _ => .inl rfl) (fun n hx ih hk => ?_) n ha hk
  rcases Nat.lt_or_ge n r with hl | hl
  · have h1 := h.link n hl hk
    rcases ih (h.knf hk) with e | e
    · rw [e] at h1; exact .inr h1
    · exact .inr (e.trans h1)
  · obtain rfl : n = r := by have := h.bnd n hk; omega
    rw [h.top] at hx
    exact .inl (hx.fix h.top)

/-- The start: the roots alone are known. -/
theorem kok_start (E : Nat → Nat → Prop) (r : Nat) : KOk E r r (fun n => n = r) (fun n => n) := by
  refine ⟨?_, rfl, fun _ _ => rfl, ?_, ?_, ?_, ?_, ?_, ?_⟩
  · intro n h; omega
  · intro n h1 h2; omega
  · intro n h1 h2; show n = r; omega
  · intro n h1 h2; omega
  · intro n x h1 h2; omega
  · intro n x h1 h2; omega
  · intro m p x h1 h2; omega

/-- A new pass. -/
theorem KOk.again {E : Nat → Nat → Prop} {r : Nat} {kn : Nat → Prop} {f : Nat → Nat} (h : KOk E r 0 kn f) : KOk E r r kn f :=
  ⟨h.bnd, h.top, h.unk, h.up, fun n _ hr => h.seen n (Nat.zero_le _) hr, h.link, h.dom, h.low, fun m p x h1 h2 h3 h4 h5 h6 _ => h.par m p x h1 h2 h3 h4 h5 h6 (.inr (Nat.zero_le _))⟩

/-- One more is done. -/
theorem KOk.done {E : Nat → Nat → Prop} {r n : Nat} {kn : Nat → Prop} {f : Nat → Nat} (h : KOk E r (n + 1) kn f) (hn : n < r) (hE : ∀ p m, E p m → p ≤ r ∧ m < r) (hP : ∀ m, m < r → ∃ p, m < p ∧ E p m)
    {k : Nat} (hk : ∀ x, Anc f k x ↔ ∀ p, E p n → kn p → Anc f p x) : n < k ∧ kn k ∧ (kn n → Anc f (f n) k) ∧ KOk E r n (fun m => m = n ∨ kn m) (upd f n k) := by
  have hm := h.mon
  have hpk : ∀ p, E p n → n < p → kn p := fun p he hl => h.seen p (by omega) (hE p n he).1
  obtain ⟨q, hql, hqe⟩ := hP n hn
  have hqk := hpk q hqe hql
  have haq : Anc f q k := (hk k).1 (Anc.refl _ _) q hqe hqk
  have hnk : n < k := by have := haq.le hm; omega
  have hkk : kn k := h.known haq hqk
  have hal : kn n → Anc f (f n) k := fun hkn => by
    rcases anc_iff.1 (h.low n k hn hkn ((hk k).1 (Anc.refl _ _))) with e | e
    · omega
    · exact e
  have hm' : ∀ m, m ≤ upd f n k m := by
    intro m
    by_cases e : m = n
    · subst e; rw [upd_self]; omega
    · rw [upd_ne e]; exact hm m
  -- less than before
  have hsub : kn n → ∀ m x, Anc (upd f n k) m x → Anc f m x := by
    intro hkn m x ha
    refine anc_ind (f := upd f n k) (x := x) (fun m => Anc f m x) (Anc.refl _ _) (fun m _ ih => ?_) m ha
    by_cases e : m = n
    · subst e
      rw [upd_self] at ih
      exact ((hal hkn).trans ih).step
    · rw [upd_ne e] at ih
      exact ih.step
  have hoff : ¬ kn n → ∀ m, kn m → ¬ Anc f m n := fun hkn m hkm ha => hkn (h.known ha hkm)
  have hup : ∀ x, Anc f k x → Anc (upd f n k) n x := fun x ha => by
    refine Anc.step ?_
    rw [upd_self]
    exact anc_high hm ha hnk
  -- who keeps n truly
  have hdn : ∀ x, ¬ Av E r x n → x ≠ n → Anc f k x := by
    intro x hx hxn
    refine (hk x).2 fun p he hkp => ?_
    have hxp : ¬ Av E r x p := fun ha => hx (ha.next he (fun e => hxn e.symm))
    rcases Nat.lt_or_ge p r with hl | hl
    · exact h.dom p x hl hkp hxp
    · obtain rfl : p = r := by have := (hE p n he).1; omega
      have : p = x := Classical.byContradiction fun hne => hxp (Av.root hne)
      rw [this]; exact Anc.refl _ _
  refine ⟨hnk, hkk, hal, ⟨?_, ?_, ?_, ?_, ?_, ?_, ?_, ?_, ?_⟩⟩
  · rintro m (rfl | hkm)
    · omega
    · exact h.bnd m hkm
  · rw [upd_ne (by omega)]; exact h.top
  · intro m hkm
    have h1 := not_or.1 hkm
    rw [upd_ne h1.1]; exact h.unk m h1.2
  · rintro m hmr hkm
    by_cases e : m = n
    · subst e; rw [upd_self]; exact ⟨hnk, .inr hkk⟩
    · rw [upd_ne e]
      have hkm' : kn m := hkm.resolve_left e
      exact ⟨(h.up m hmr hkm').1, .inr (h.up m hmr hkm').2⟩
  · intro m hml hmr
    by_cases e : m = n
    · exact .inl e
    · exact .inr (h.seen m (by omega) hmr)
  · intro m hmr hkm
    by_cases e : m = n
    · subst e
      rw [upd_self]
      rcases h.und haq hqk with e | e
      · subst e; exact Und.one hqe hnk
      · exact e.next hqe hnk
    · rw [upd_ne e]; exact h.link m hmr (hkm.resolve_left e)
  · intro m x hmr hkm hx
    by_cases e : m = n
    · subst e
      by_cases ex : x = m
      · subst ex; exact Anc.refl _ _
      · exact hup x (hdn x hx ex)
    · have hkm' : kn m := hkm.resolve_left e
      have ha := h.dom m x hmr hkm' hx
      by_cases hmn : Anc f m n
      · rcases Nat.lt_or_ge n x with hl | hl
        · have hu : Und E n m := (h.und hmn hkm').resolve_left e
          have hxn : ¬ Av E r x n := fun hav => hx (hu.av hl hav)
          exact (anc_low hm hmn (Nat.le_refl _)).trans (hup x (hdn x hxn (by omega)))
        · exact anc_low hm ha hl
      · exact anc_off hmn ha
  · intro m x hmr hkm hall
    by_cases e : m = n
    · subst e
      refine hup x ((hk x).2 fun p he hkp => ?_)
      have ha := hall p he (.inr hkp)
      by_cases hkn : kn m
      · exact hsub hkn p x ha
      · exact anc_off' (hoff hkn p hkp) ha
    · have hkm' : kn m := hkm.resolve_left e
      by_cases hkn : kn n
      · have ha := h.low m x hmr hkm' (fun p he hkp => hsub hkn p x (hall p he (.inr hkp)))
        by_cases hmn : Anc f m n
        · rcases Nat.lt_or_ge n x with hl | hl
          · obtain ⟨p, hpl, hpe⟩ := hP m hmr
            have hpn := h.par m p n hmr hkm' hpe hpl hmn (fun e' => e e'.symm) (.inl (by omega))
            have hkp : kn p := Classical.byContradiction fun hc => by
              have := hpn.fix (h.unk p hc)
              subst this
              exact hc hkn
            have h1 := hall p hpe (.inr hkp)
            have h2 := anc_low (k := k) hm hpn (Nat.le_refl _)
            exact (anc_low hm hmn (Nat.le_refl _)).trans (anc_le_anc hm' h2 h1 (by omega))
          · exact anc_low hm ha hl
        · exact anc_off hmn ha
      · exact anc_off (hoff hkn m hkm') (h.low m x hmr hkm' (fun p he hkp => anc_off' (hoff hkn p hkp) (hall p he (.inr hkp))))
  · intro m p x hmr hkm he hmp ha hxm hc
    by_cases e : m = n
    · subst e
      rcases anc_iff.1 ha with e2 | e2
      · exact absurd e2.symm hxm
      · rw [upd_self] at e2
        exact anc_high hm ((hk x).1 (anc_high' hm' e2 hnk) p he (hpk p he hmp)) hmp
    · have hkm' : kn m := hkm.resolve_left e
      rcases Nat.lt_or_ge n m with hl | hl
      · exact anc_high hm (h.par m p x hmr hkm' he hmp (anc_high' hm' ha hl) hxm (.inr (by omega))) (by omega)
      · have hxn : x < n := by omega
        exact anc_low hm (h.par m p x hmr hkm' he hmp (anc_low' hm' ha (by omega)) hxm (.inl (by omega))) (by omega)

/-- In the end: the chain has just who keeps truly. -/
theorem KOk.fin {E : Nat → Nat → Prop} {r : Nat} {kn : Nat → Prop} {f : Nat → Nat} (h : KOk E r 0 kn f) (hE : ∀ p m, E p m → p ≤ r ∧ m < r)
    (hfix : ∀ n, n < r → ∀ x, Anc f (f n) x ↔ ∀ p, E p n → kn p → Anc f p x) {n : Nat} (hn : n < r) (x : Nat) : Anc f n x ↔ ¬ Av E r x n := by
  constructor
  · intro ha hav
    refine hav (fun m => ¬ Anc f m x) (fun hne ha => hne (ha.fix h.top)) (fun p m hp he hmx ha => ?_) ha
    rcases anc_iff.1 ha with e | e
    · exact hmx e
    · exact hp ((hfix m (hE p m he).2 x).1 e p he (h.seen p (Nat.zero_le _) (hE p m he).1))
  · exact h.dom n x hn (h.seen n (Nat.zero_le _) (by omega))

end Go.Proofs.Ythpmckfgngkbhaa

/- Two values are compared. -/
namespace Go.Proofs.Ythpmckfgngkbhaa
set_option linter.unusedSimpArgs false
set_option linter.unusedVariables false
open Go.RowKit

theorem eql_in (r1 r2 : Bool) (n1 n2 : Int) (w : World) : (Op.equalIn 10000 54 (.agg #[.bool r1, .int .i64 n1]) (.agg #[.bool r2, .int .i64 n2])).run Try.prog w = .ok (r1 == r2 && n1 == n2) w := by
  have u2 := Try.underlying2
  have a2 := Try.isAgg2
  have z2 := Try.sizeOf2
  have u4 := Try.underlying4
  have a4 := Try.isAgg4
  have z4 := Try.sizeOf4
  have hS : Try.prog.underlying 54 = some (.struct (Try.prog.fieldsOf 54)) := by kernel_rfl
  have hp : Try.prog.stoodInHeld 54 = false := by kernel_rfl
  rw [show (10000 : Nat) = 9999 + 1 from rfl, run_equalIn_agg w 9999 54 _ _ hS hp]
  simp only [Program.fieldsOf, Try.underlying54]
  go_simp
  cases r1 <;> cases r2 <;> by_cases h2 : n1 = n2 <;> simp [h2]

theorem guard35 : Try.prog.eqGuardType Try.prog.depth 54 = false := by kernel_rfl

theorem neq_v (r1 r2 : Bool) (n1 n2 : Int) (w : World) : (binOp .neq 54 (.agg #[.bool r1, .int .i64 n1]) (.agg #[.bool r2, .int .i64 n2])).run Try.prog w = .ok (.bool (!(r1 == r2 && n1 == n2))) w := by
  rw [run_neq_struct, eql_in]; rfl

theorem eql_v (r1 r2 : Bool) (n1 n2 : Int) (w : World) : (binOp .eql 54 (.agg #[.bool r1, .int .i64 n1]) (.agg #[.bool r2, .int .i64 n2])).run Try.prog w = .ok (.bool (r1 == r2 && n1 == n2)) w := by
  rw [run_eql_struct, eql_in]; rfl

end Go.Proofs.Ythpmckfgngkbhaa

/- Walks: whether two lists of values are the same. -/
namespace Go.Proofs.Ythpmckfgngkbhaa
set_option linter.unusedSimpArgs false
set_option linter.unusedVariables false
open Go.RowKit

def sameG (g h : Gr) : Bool := decide (g.roots = h.roots) && decide (g.objs = h.objs)

end Go.Proofs.Ythpmckfgngkbhaa

/- Walks: the document's answer: Has, place, turned, Values, Graphs. -/
namespace Go.Proofs.Ythpmckfgngkbhaa
set_option linter.unusedSimpArgs false
set_option linter.unusedVariables false
open Go.RowKit

theorem mem_take_succ {l : List Int} {k : Nat} (hk : k < l.length) (x : Int) : x ∈ l.take (k + 1) ↔ x ∈ l.take k ∨ x = l[k] := by
  rw [List.take_succ_eq_append_getElem hk]; simp only [List.mem_append, List.mem_singleton]

set_option maxHeartbeats 400000 in
theorem has_c (a : Option Addr) (cap : Nat) (l : List Int) (x : Int) (B : Nat) (w : World) (hl : Ints B w a l) :
    Calls Try.prog 17 #[.slice a l.length cap, .int .i64 x] w fun e w' => e = .returned (.bool (decide (x ∈ l))) ∧ w' = w := by
  have hlen := hl.1
  go_enter Try.func17, Try.ntmps17
  go_wp2
  go_loop [9] (fun i => ∃ k : Nat, k ≤ l.length ∧ i = .int .i64 k ∧ Hid (x ∉ l.take k)) (fun i => l.length - (intOf i).toNat)
  case atStart => exact ⟨0, Nat.zero_le _, rfl, by show x ∉ l.take 0; simp⟩
  case round =>
    obtain ⟨k, hk, rfl, Hno⟩ := hrel
    by_cases hlt : k < l.length
    · obtain ⟨b, off, rfl, hbB, hc⟩ := hl.at hlt
      have HT := hide (mem_take_succ hlt x)
      have HM := hide (List.getElem_mem hlt)
      generalize l[k] = y at *
      by_cases hxy : x = y
      · have d : (x == y) = true := by simpa using hxy
        go_wp2
        go_ret
        exact ⟨ret_bool (by have := unhide HM; simp_all), rfl⟩
      · have d : (x == y) = false := by simpa using hxy
        go_wp2
        go_round
        case rel => exact ⟨k + 1, by omega, by go_num, fun h => by rcases (unhide HT).1 h with h | h; exact unhide Hno h; exact hxy h⟩
        case measure => simp [intOf]; omega
    · obtain rfl : k = l.length := by omega
      have hno := unhide Hno
      rw [List.take_length] at hno
      go_wp2
      go_ret
      exact ⟨ret_bool (by simp [hno]), rfl⟩

theorem idxOf_first {l : List Int} {k : Nat} {x : Int} (hk : k < l.length) (hx : l[k] = x) (hno : x ∉ l.take k) : l.idxOf x = k := by
  have hm : x ∈ l := hx ▸ List.getElem_mem hk
  have h1 := List.idxOf_lt_length_iff.2 hm
  have h2 := List.getElem_idxOf h1
  rcases Nat.lt_trichotomy (l.idxOf x) k with h3 | h3 | h3
  · exfalso
    apply hno
    rw [List.mem_take_iff_getElem]
    exact ⟨l.idxOf x, by omega, h2⟩
  · exact h3
  · exfalso
    have h4 := List.not_of_lt_findIdx (p := (· == x)) (xs := l) (i := k) h3
    simp [hx] at h4

end Go.Proofs.Ythpmckfgngkbhaa

/- Walks: meet, common. -/
namespace Go.Proofs.Ythpmckfgngkbhaa
set_option linter.unusedSimpArgs false
set_option linter.unusedVariables false
open Go.RowKit

/-- Keepers as they are kept: whose is known; the next one. -/
def kk (K : List Int) (n : Nat) : Prop := 0 ≤ K.getD n (-1)
def kf (K : List Int) (n : Nat) : Nat := if 0 ≤ K.getD n (-1) then (K.getD n (-1)).toNat else n

theorem kk_get {K : List Int} {n : Nat} (hn : n < K.length) : kk K n ↔ 0 ≤ K[n] := by unfold kk; simp [hn]
theorem kf_get {K : List Int} {n : Nat} (hn : n < K.length) (hk : kk K n) : K[n] = ((kf K n : Nat) : Int) := by
  have h := (kk_get hn).1 hk
  unfold kf
  simp only [List.getD_eq_getElem?_getD, List.getElem?_eq_getElem hn, Option.getD_some]
  rw [if_pos h]; omega

set_option maxRecDepth 100000 in
set_option maxHeartbeats 1000000 in
theorem meet_c (E : Nat → Nat → Prop) (r c : Nat) (K : List Int) (h : KOk E r c (kk K) (kf K)) (hl : K.length = r + 1) (a : Option Addr) (cap B : Nat) (w : World) (hI : Ints B w a K) (p q : Nat) (hp : kk K p) (hq : kk K q) :
    Calls Try.prog 52 #[.slice a K.length cap, .int .i64 p, .int .i64 q] w fun e w' => (∃ m : Nat, e = .returned (.int .i64 m) ∧ kk K m ∧ ∀ x, Anc (kf K) m x ↔ Anc (kf K) p x ∧ Anc (kf K) q x) ∧ w' = w := by
  have Hl := hide hl
  have hl1 := hI.1
  have hle : K.length ≤ r + 1 := by omega
  have hge : r + 1 ≤ K.length := by omega
  clear hl
  go_enter Try.func52, Try.ntmps52
  go_wp2
  go_loop [1, 2] (fun i j => ∃ m n : Nat, i = .int .i64 m ∧ j = .int .i64 n ∧ Hid (kk K m) ∧ Hid (kk K n) ∧ Hid (∀ x, (Anc (kf K) m x ∧ Anc (kf K) n x) ↔ (Anc (kf K) p x ∧ Anc (kf K) q x))) (fun i j => (r - (intOf i).toNat) + (r - (intOf j).toNat))
  case atStart => exact ⟨p, q, rfl, rfl, hide hp, hide hq, hide (fun x => Iff.rfl)⟩
  case round =>
    obtain ⟨m, n, rfl, rfl, Hm, Hn, Ha⟩ := hrel
    have hmr := h.bnd m (unhide Hm)
    have hnr := h.bnd n (unhide Hn)
    have hmK : m < K.length := by omega
    have hnK : n < K.length := by omega
    by_cases hmn : m = n
    · subst hmn
      have d : ((m : Int) != (m : Int)) = false := by simp
      go_wp2
      go_ret
      exact ⟨⟨m, rfl, unhide Hm, fun x => by rw [← unhide Ha x]; simp⟩, rfl⟩
    · have d : ((m : Int) != (n : Int)) = true := by simp; omega
      have hmnI : ¬ (m : Int) = (n : Int) := by omega
      by_cases hlt : m < n
      · obtain ⟨b, off, rfl, hbB, hc⟩ := hI.at hmK
        rw [kf_get hmK (unhide Hm)] at hc
        have hmr' : m < r := by omega
        have hup := h.up m hmr' (unhide Hm)
        have Hk2 := hide hup.2
        have hup1 := hup.1
        have hb2 := h.bnd _ hup.2
        have Ha2 : Hid (∀ x, (Anc (kf K) (kf K m) x ∧ Anc (kf K) n x) ↔ (Anc (kf K) p x ∧ Anc (kf K) q x)) := fun x => by
          rw [← unhide Ha x]
          constructor
          · exact fun e => ⟨e.1.step, e.2⟩
          · intro e
            refine ⟨?_, e.2⟩
            rcases anc_iff.1 e.1 with e1 | e1
            · have := e.2.le h.mon; omega
            · exact e1
        clear hup Hl
        have hltI : (m : Int) < (n : Int) := by omega
        have hmKI : (m : Int) < (K.length : Int) := by omega
        generalize kf K m = k at *
        go_wp2
        go_round
        case rel => exact ⟨k, n, rfl, rfl, Hk2, Hn, Ha2⟩
        case measure => simp [intOf]; omega
      · obtain ⟨b, off, rfl, hbB, hc⟩ := hI.at hnK
        rw [kf_get hnK (unhide Hn)] at hc
        have hnr' : n < r := by omega
        have hup := h.up n hnr' (unhide Hn)
        have Hk2 := hide hup.2
        have hup1 := hup.1
        have hb2 := h.bnd _ hup.2
        have Ha2 : Hid (∀ x, (Anc (kf K) m x ∧ Anc (kf K) (kf K n) x) ↔ (Anc (kf K) p x ∧ Anc (kf K) q x)) := fun x => by
          rw [← unhide Ha x]
          constructor
          · exact fun e => ⟨e.1, e.2.step⟩
          · intro e
            refine ⟨e.1, ?_⟩
            rcases anc_iff.1 e.2 with e1 | e1
            · have := e.1.le h.mon; omega
            · exact e1
        clear hup Hl
        have hltI : ¬ (m : Int) < (n : Int) := by omega
        have hnKI : (n : Int) < (K.length : Int) := by omega
        generalize kf K n = k at *
        go_wp2
        go_round
        case rel => exact ⟨m, k, rfl, rfl, Hm, Hk2, Ha2⟩
        case measure => simp [intOf]; omega

/-- The nearest one that is or keeps each known one of a list. -/
def ComOk (K : List Int) (S : List Int) (m : Int) : Prop :=
  (m = -1 ∧ ∀ p : Nat, (p : Int) ∈ S → ¬ kk K p) ∨ ∃ k : Nat, m = (k : Int) ∧ kk K k ∧ ∀ x, Anc (kf K) k x ↔ ∀ p : Nat, (p : Int) ∈ S → kk K p → Anc (kf K) p x

theorem com_nil (K : List Int) : ComOk K [] (-1) := .inl ⟨rfl, fun p h => by simp at h⟩

theorem com_skip {K S : List Int} {m : Int} (h : ComOk K S m) {y : Nat} (hy : ¬ kk K y) : ComOk K (S ++ [(y : Int)]) m := by
  have hin : ∀ p : Nat, (p : Int) ∈ S ++ [(y : Int)] → kk K p → (p : Int) ∈ S := fun p hp hk => by
    rw [List.mem_append, List.mem_singleton] at hp
    rcases hp with e | e
    · exact e
    · obtain rfl : p = y := by omega
      exact absurd hk hy
  rcases h with ⟨rfl, h⟩ | ⟨k, rfl, hk, h⟩
  · exact .inl ⟨rfl, fun p hp hk => h p (hin p hp hk) hk⟩
  · refine .inr ⟨k, rfl, hk, fun x => ?_⟩
    rw [h x]
    exact ⟨fun e p hp hk => e p (hin p hp hk) hk, fun e p hp hk => e p (by simp [hp]) hk⟩

theorem com_first {K S : List Int} (h : ComOk K S (-1)) {y : Nat} (hy : kk K y) : ComOk K (S ++ [(y : Int)]) (y : Int) := by
  rcases h with ⟨_, h⟩ | ⟨k, e, _⟩
  · refine .inr ⟨y, rfl, hy, fun x => ⟨fun ha p hp hk => ?_, fun e => e y (by simp) hy⟩⟩
    rw [List.mem_append, List.mem_singleton] at hp
    rcases hp with e | e
    · exact absurd hk (h p e)
    · obtain rfl : p = y := by omega
      exact ha
  · omega

theorem com_meet {K S : List Int} {k : Nat} (h : ComOk K S (k : Int)) {y m : Nat} (hy : kk K y) (hm : kk K m) (ha : ∀ x, Anc (kf K) m x ↔ Anc (kf K) k x ∧ Anc (kf K) y x) : ComOk K (S ++ [(y : Int)]) (m : Int) := by
  rcases h with ⟨e, _⟩ | ⟨k', e, hk, h⟩
  · omega
  · obtain rfl : k = k' := by omega
    refine .inr ⟨m, rfl, hm, fun x => ?_⟩
    rw [ha x, h x]
    constructor
    · rintro ⟨h1, h2⟩ p hp hkp
      rw [List.mem_append, List.mem_singleton] at hp
      rcases hp with e | e
      · exact h1 p e hkp
      · obtain rfl : p = y := by omega
        exact h2
    · intro e
      exact ⟨fun p hp hkp => e p (by simp [hp]) hkp, e y (by simp) hy⟩

theorem com_known {K S : List Int} {m : Int} (h : ComOk K S m) (hm : m ≠ -1) : ∃ k : Nat, m = (k : Int) ∧ kk K k := by
  rcases h with ⟨e, _⟩ | ⟨k, e, hk, _⟩
  · exact absurd e hm
  · exact ⟨k, e, hk⟩

set_option maxRecDepth 100000 in
set_option maxHeartbeats 1000000 in
theorem common_c (E : Nat → Nat → Prop) (r c : Nat) (K : List Int) (h : KOk E r c (kk K) (kf K)) (hl : K.length = r + 1) (hun : ∀ n (hn : n < K.length), ¬ kk K n → K[n] = -1) (a a2 : Option Addr) (cap c2 B : Nat) (w : World) (hI : Ints B w a K) (S : List Int) (hI2 : Ints B w a2 S) (hS : ∀ y ∈ S, 0 ≤ y ∧ y ≤ (r : Int)) :
    Calls Try.prog 42 #[.slice a K.length cap, .slice a2 S.length c2] w fun e w' => (∃ m : Int, e = .returned (.int .i64 m) ∧ ComOk K S m) ∧ w' = w := by
  have hl1 := hI.1
  have hl2 := hI2.1
  have Hl := hide hl
  have Hun := hide hun
  have hle : K.length ≤ r + 1 := by omega
  have hge : r + 1 ≤ K.length := by omega
  have HS := hide hS
  clear hl hun hS
  go_enter Try.func42, Try.ntmps42
  go_wp2
  go_loop [5, 10] (fun i j => ∃ (m : Int) (k : Nat), k ≤ S.length ∧ i = .int .i64 m ∧ j = .int .i64 k ∧ Hid (ComOk K (S.take k) m)) (fun _ j => S.length - (intOf j).toNat)
  case atStart => exact ⟨-1, 0, Nat.zero_le _, rfl, rfl, hide (by rw [List.take_zero]; exact com_nil K)⟩
  case round =>
    obtain ⟨m, k, hk, rfl, rfl, HC⟩ := hrel
    by_cases hlt : k < S.length
    · obtain ⟨b2, off2, rfl, hbB2, hc2⟩ := hI2.at hlt
      have hy := unhide HS _ (List.getElem_mem hlt)
      have HT := hide (List.take_succ_eq_append_getElem hlt)
      generalize S[k] = y at *
      obtain ⟨y, rfl⟩ := Int.eq_ofNat_of_zero_le hy.1
      have hyK : y < K.length := by omega
      obtain ⟨b, off, rfl, hbB, hc⟩ := hI.at hyK
      have hyKI : (y : Int) < (K.length : Int) := by omega
      by_cases hky : kk K y
      · have Hk0 := hide ((kk_get hyK).1 hky)
        have Hky := hide hky
        clear hky
        generalize K[y] = z at *
        have d1 : (z == -1) = false := by have := unhide Hk0; simp; omega
        by_cases hm : m = -1
        · subst hm
          have HC2 := hide (com_first (unhide HC) (unhide Hky))
          go_wp2
          go_round
          case rel => exact ⟨(y : Int), k + 1, by omega, rfl, by go_num, by rw [unhide HT]; exact HC2⟩
          case measure => simp [intOf]; omega
        · have d2 : (m == -1) = false := by simpa using hm
          obtain ⟨q, rfl, hq⟩ := com_known (unhide HC) hm
          have Hq := hide hq
          clear hm hq
          go_wp2_with fail
          refine (meet_c E r c K h (unhide Hl) _ cap B _ hI q y (unhide Hq) (unhide Hky)).mono ?_
          rintro e w3 ⟨⟨m3, rfl, hm3, ha3⟩, hw3⟩
          have hw3 := hw3.symm
          subst hw3
          have HC2 := hide (com_meet (unhide HC) (unhide Hky) hm3 ha3)
          clear hm3 ha3
          go_wp2
          go_round
          case rel => exact ⟨(m3 : Int), k + 1, by omega, rfl, by go_num, by rw [unhide HT]; exact HC2⟩
          case measure => simp [intOf]; omega
      · rw [unhide Hun y hyK hky] at hc
        have HC2 := hide (com_skip (unhide HC) hky)
        clear hky
        go_wp2
        go_round
        case rel => exact ⟨m, k + 1, by omega, rfl, by go_num, by rw [unhide HT]; exact HC2⟩
        case measure => simp [intOf]; omega
    · obtain rfl : k = S.length := by omega
      rw [List.take_length] at HC
      go_wp2
      go_ret
      exact ⟨⟨m, rfl, unhide HC⟩, rfl⟩

end Go.Proofs.Ythpmckfgngkbhaa

/- Walks: filled, wayBack. -/
namespace Go.Proofs.Ythpmckfgngkbhaa
set_option linter.unusedSimpArgs false
set_option linter.unusedVariables false
open Go.RowKit Go.Shelf

/-- A made row lies in one new block. -/
theorem wpList_make_at {P : Program} (w : World) {ops : Array Oper} {rest : List Oper} {o : Oper} {a : Act} {Q : Exit → Act → World → Prop}
    (hg : o.guard = none) (l c : Operand) (t : TypeId) (hop : o.op = Op.makeSlice t l c)
    (base : Nat) (e : TypeId) (i : TypeInfo) (z : Value) (size : Nat) (h1 : P.underlying t = some (.slice e)) (h2 : P.info? e = some i) (h3 : i.zero = some z) (h4 : i.size = size)
    (kl kc : IntKind) (L C : Int) (n : Nat) (hl : a.eval l = .int kl L) (hc : a.eval c = .int kc C) (hL : L = (n : Int)) (hC : C = (n : Int)) (b2 : i.bytes * n ≤ 281474976710656) (b3 : n ≤ maxLen) (b4 : base ≤ w.heap.size)
    (hK : ∀ w', w'.ownsRow base e size (.slice (some ⟨w.heap.size, 0, none⟩) n n) n (madeCells z.cells (n * size)).toList → w.grownBy w' none → w'.heap.size = w.heap.size + 1 → wpList P ops Q rest (a.put o.dst (.slice (some ⟨w.heap.size, 0, none⟩) n n)) w') :
    wpList P ops Q (o :: rest) a w := by
  refine wpList_plain hg fun K hK' => ?_
  subst h4
  have h63' : (n : Int) ≤ 9223372036854775807 := by
    have h := b3
    simp [maxLen] at h
    omega
  have hb' : (i.bytes : Int) * (n : Int) ≤ 281474976710656 := by
    have h : ((i.bytes * n : Nat) : Int) ≤ 281474976710656 := by omega
    rwa [Int.natCast_mul] at h
  have hr := run_make (P := P) w t e i z h1 h2 h3 kl kc n n (by omega) (Int.le_refl _) hb' h63'
  simp only [Int.toNat_natCast] at hr
  subst hL
  subst hC
  unfold Oper.wp
  simp [execOp, hop, hl, hc, hr, Result.andThen]
  exact hK' _ _ (hK _ (World.ownsRow_lit w _ n b4 b3 (size_madeCells _ _)) (World.grownBy_alloc w _ none) (by simp))

set_option maxRecDepth 100000 in
set_option maxHeartbeats 1000000 in
theorem filled_c (n : Nat) (x : Int) (w : World) (hn : n ≤ 1000) :
    Calls Try.prog 27 #[.int .i64 n, .int .i64 x] w fun e w' => e = .returned (.slice (some ⟨w.heap.size, 0, none⟩) n n) ∧ w'.ownsRow w.heap.size 3 1 (.slice (some ⟨w.heap.size, 0, none⟩) n n) n (intsV (List.replicate n x)) ∧ Below w.heap.size w w' ∧ w'.heap.size = w.heap.size + 1 ∧ KeepsOthers w w' := by
  obtain ⟨i0, hi, hz0, hz1, hz2⟩ := info_parts Try.info3
  go_enter Try.func27, Try.ntmps27
  go_wp2_with (at_make; go_must (refine wpList_make_at _ rfl _ _ 26 rfl w.heap.size 3 i0 _ 1 Try.underlying26 hi hz0 hz1 .i64 .i64 _ _ n rfl rfl rfl rfl (by rw [hz2]; omega) (by simp only [maxLen]; omega) (Nat.le_refl _) ?_); go_must (intro w5 hown5 hg5 hs5))
  generalize (madeCells _ _).toList = cs0 at *
  have hb5 : Below w.heap.size w w5 := (Below.refl w.heap.size w).grown hg5 (Nat.le_refl _) (fun k e => by cases e)
  have hk5 : KeepsOthers w w5 := KeepsOthers.of_grownBy hg5 (fun j o e => by cases e)
  have hse : w5.heap.size ≤ w.heap.size + 1 := by omega
  have hse' : w.heap.size + 1 ≤ w5.heap.size := by omega
  clear hs5 hg5
  go_loopw [11] (fun i wr => ∃ (k : Nat) (vs : List Value), k ≤ n ∧ i = .int .i64 k ∧ wr.ownsRow w.heap.size 3 1 (.slice (some ⟨w.heap.size, 0, none⟩) n n) n vs ∧ Hid (∀ j, j < k → vs[j]? = some (.int .i64 x)) ∧ Below w.heap.size w wr ∧ Hid (wr.heap.size = w.heap.size + 1) ∧ KeepsOthers w wr) (fun i _ => n - (intOf i).toNat)
  case atStart => exact ⟨0, cs0, Nat.zero_le _, rfl, hown5, hide (fun j hj => by omega), hb5, hide (by omega), hk5⟩
  case round =>
    clear hown5 hb5 hk5
    obtain ⟨k, vs, hk, rfl, hown, Hvs, hb, Hsz, hko⟩ := hrel
    have hl0 := hown.1
    by_cases hlt : k < n
    · obtain ⟨u, hu⟩ : ∃ u, vs[k]? = some u := ⟨vs[k]'(by omega), List.getElem?_eq_getElem _⟩
      have hc := row_at hown hu
      have hf := hown.frozenAt k
      have hst := (hown.stored k (.int .i64 x)).1
      have Hst := hide hst
      have Hl0 := hide hl0
      clear hst hl0 hu
      have hbs : Below w.heap.size w (wr.setCell ⟨w.heap.size, k, none⟩ (.int .i64 x)) := hb.setCell (p := ⟨w.heap.size, k, none⟩) (Nat.le_refl _) _
      have hks := hko.trans (KeepsOthers.setCell wr ⟨w.heap.size, k, none⟩ (.int .i64 x))
      have hss : Hid ((wr.setCell ⟨w.heap.size, k, none⟩ (.int .i64 x)).heap.size = w.heap.size + 1) := by show _ = _; simp [World.setCell]; exact unhide Hsz
      go_wp2
      go_roundw
      case rel =>
        refine ⟨k + 1, _, by omega, by go_num, unhide Hst, hide (fun j hj => ?_), hbs, hss, hks⟩
        by_cases e : j = k
        · subst e; rw [List.getElem?_set_self (by have := unhide Hl0; omega)]
        · rw [List.getElem?_set_ne (by omega)]; exact unhide Hvs j (by omega)
      case measure => simp [intOf]; omega
    · obtain rfl : k = n := by omega
      have e : vs = intsV (List.replicate k x) := by
        refine List.ext_getElem? fun j => ?_
        by_cases hj : j < k
        · rw [unhide Hvs j hj]; simp [intsV, hj]
        · rw [List.getElem?_eq_none (by omega), List.getElem?_eq_none (by simp [intsV]; omega)]
      have He := hide e
      clear e hl0
      go_wp2
      go_ret
      exact ⟨rfl, by rw [← unhide He]; exact hown, hb, unhide Hsz, hko⟩

end Go.Proofs.Ythpmckfgngkbhaa

/- Walks: keepers. -/
namespace Go.Proofs.Ythpmckfgngkbhaa
set_option linter.unusedSimpArgs false
set_option linter.unusedVariables false
open Go.RowKit Go.Shelf

/-- A slice of slices of numbers, below block B. -/
def Tab (B : Nat) (w : World) (a : Option Addr) (F : List (List Int)) : Prop :=
  F.length ≤ 9223372036854775807 ∧ (F ≠ [] → ∃ b off, a = some ⟨b, off, none⟩ ∧ b < B ∧ ∀ k l, F[k]? = some l → ∃ ai ci, w.cell? ⟨b, off + k, none⟩ = some (.slice ai l.length ci) ∧ Ints B w ai l)

theorem Tab.below {B : Nat} {w w' : World} {a : Option Addr} {F : List (List Int)} (h : Tab B w a F) (hb : Below B w w') : Tab B w' a F := by
  refine ⟨h.1, fun hne => ?_⟩
  obtain ⟨b, off, rfl, hB, hc⟩ := h.2 hne
  refine ⟨b, off, rfl, hB, fun k v hk => ?_⟩
  obtain ⟨ai, ci, h1, h2⟩ := hc k v hk
  refine ⟨ai, ci, ?_, h2.below hb⟩
  rw [hb.cell (p := ⟨b, off + k, none⟩) hB]
  exact h1

theorem Tab.mono {B B' : Nat} {w : World} {a : Option Addr} {F : List (List Int)} (h : Tab B w a F) (hb : B ≤ B') : Tab B' w a F := by
  refine ⟨h.1, fun hne => ?_⟩
  obtain ⟨b, off, rfl, hB, hc⟩ := h.2 hne
  refine ⟨b, off, rfl, by omega, fun k v hk => ?_⟩
  obtain ⟨ai, ci, h1, h2⟩ := hc k v hk
  exact ⟨ai, ci, h1, h2.mono hb⟩

theorem Tab.at {B : Nat} {w : World} {a : Option Addr} {F : List (List Int)} (h : Tab B w a F) {k : Nat} (hk : k < F.length) :
    ∃ b off ai ci, a = some ⟨b, off, none⟩ ∧ b < B ∧ w.cell? ⟨b, off + k, none⟩ = some (.slice ai F[k].length ci) ∧ Ints B w ai F[k] := by
  obtain ⟨b, off, rfl, hB, hc⟩ := h.2 (by intro e; subst e; simp at hk)
  obtain ⟨ai, ci, h1, h2⟩ := hc k F[k] (by simp [hk])
  exact ⟨b, off, ai, ci, rfl, hB, h1, h2⟩

/-- Who refers to whom. -/
def Eof (F : List (List Int)) (p m : Nat) : Prop := ∃ l, F[m]? = some l ∧ (p : Int) ∈ l

theorem eof_at {F : List (List Int)} {m : Nat} (hm : m < F.length) (p : Nat) : Eof F p m ↔ (p : Int) ∈ F[m] := by
  unfold Eof
  rw [List.getElem?_eq_getElem hm]
  exact ⟨fun ⟨l, e, h⟩ => by injection e with e; rw [e]; exact h, fun h => ⟨_, rfl, h⟩⟩

theorem kf_set {K : List Int} {n k : Nat} (hn : n < K.length) : kf (K.set n (k : Int)) = upd (kf K) n k := by
  funext m
  by_cases e : m = n
  · subst e; rw [upd_self]; unfold kf; simp [hn]
  · rw [upd_ne e]; unfold kf; simp only [List.getD_eq_getElem?_getD, List.getElem?_set_ne (fun h : n = m => e h.symm)]

theorem kk_set {K : List Int} {n k : Nat} (hn : n < K.length) : kk (K.set n (k : Int)) = fun m => m = n ∨ kk K m := by
  funext m
  by_cases e : m = n
  · subst e; unfold kk; simp [hn]
  · unfold kk; simp only [List.getD_eq_getElem?_getD, List.getElem?_set_ne (fun h : n = m => e h.symm), e, false_or]

/-- How far all are from the roots. -/
def kM (r : Nat) (K : List Int) : Nat := (K.map fun x => ((r : Int) + 1 - x).toNat).sum

theorem sum_set_lt : ∀ (l : List Nat) (n v : Nat), (h : n < l.length) → v < l[n] → (l.set n v).sum < l.sum
  | [], n, v, h, _ => by simp at h
  | x :: l, 0, v, h, hv => by simp at hv ⊢; exact hv
  | x :: l, n + 1, v, h, hv => by
    have := sum_set_lt l n v (by simpa using h) (by simpa using hv)
    simp; exact this

theorem kM_set {r : Nat} {K : List Int} {n k : Nat} (hn : n < K.length) (hlt : K[n] < (k : Int)) (hk : k ≤ r) : kM r (K.set n (k : Int)) < kM r K := by
  unfold kM
  rw [List.map_set]
  refine sum_set_lt _ n _ (by simpa using hn) ?_
  rw [List.getElem_map]
  omega

/-- The same, out of memory. -/
def kmes (r b : Nat) (W : World) : Nat := ((List.range (r + 1)).map fun n => match W.cell? ⟨b, n, none⟩ with
  | some (.int _ x) => ((r : Int) + 1 - x).toNat
  | _ => 0).sum

theorem kmes_row {r b : Nat} {W : World} {base cap : Nat} {K : List Int} (hl : K.length = r + 1) (h : W.ownsRow base 3 1 (.slice (some ⟨b, 0, none⟩) (r + 1) cap) (r + 1) (intsV K)) : kmes r b W = kM r K := by
  unfold kmes kM
  refine congrArg List.sum (List.ext_getElem (by simp [hl]) fun n h1 h2 => ?_)
  have hn : n < K.length := by simpa using h2
  rw [List.getElem_map, List.getElem_map, List.getElem_range]
  have := row_at h (k := n) (u := .int .i64 K[n]) (by simp [intsV, hn])
  rw [this]

/-- The equation that the keeper of n solves. -/
def FixAt (F : List (List Int)) (K : List Int) (n : Nat) : Prop := ∀ x, Anc (kf K) (kf K n) x ↔ ∀ p, Eof F p n → kk K p → Anc (kf K) p x

/-- What may be told of keepers. -/
structure KSt (F : List (List Int)) (c : Nat) (K : List Int) : Prop where
  len : K.length = F.length + 1
  ok : KOk (Eof F) F.length c (kk K) (kf K)
  un : ∀ n (hn : n < K.length), ¬ kk K n → K[n] = -1

theorem kst_start (F : List (List Int)) : KSt F F.length ((List.replicate (F.length + 1) (-1)).set F.length (F.length : Int)) := by
  have hg : ∀ m, ((List.replicate (F.length + 1) (-1 : Int)).set F.length (F.length : Int)).getD m (-1) = if m = F.length then (F.length : Int) else -1 := by
    intro m
    by_cases e : m = F.length
    · subst e; simp
    · rw [if_neg e]
      rw [List.getD_eq_getElem?_getD, List.getElem?_set_ne (fun h => e h.symm), List.getElem?_replicate]
      split <;> rfl
  have e1 : kk ((List.replicate (F.length + 1) (-1 : Int)).set F.length (F.length : Int)) = fun n => n = F.length := by
    funext m
    unfold kk
    rw [hg]
    by_cases e : m = F.length
    · simp [e]
    · simp [e]
  have e2 : kf ((List.replicate (F.length + 1) (-1 : Int)).set F.length (F.length : Int)) = fun n => n := by
    funext m
    unfold kf
    rw [hg]
    by_cases e : m = F.length
    · simp [e]
    · simp [e]
  refine ⟨by simp, by rw [e1, e2]; exact kok_start _ _, fun n hn hk => ?_⟩
  rw [e1] at hk
  have := hg n
  rw [if_neg hk, List.getD_eq_getElem?_getD, List.getElem?_eq_getElem hn, Option.getD_some] at this
  exact this

/-- One more is done. -/
theorem KSt.done {F : List (List Int)} {n : Nat} {K : List Int} (h : KSt F (n + 1) K) (hn : n < F.length) (hF : ∀ l ∈ F, ∀ y ∈ l, 0 ≤ y ∧ y ≤ (F.length : Int)) (hP : ∀ m, m < F.length → ∃ p, m < p ∧ Eof F p m) {m : Int} (hc : ComOk K F[n] m) :
    ∃ (k : Nat) (hnK : n < K.length), m = (k : Int) ∧ k ≤ F.length ∧ KSt F n (K.set n (k : Int)) ∧ (K[n] ≠ (k : Int) → K[n] < (k : Int)) ∧ (K[n] = (k : Int) → FixAt F K n) := by
  have hnK : n < K.length := by rw [h.len]; omega
  have hE : ∀ p m, Eof F p m → p ≤ F.length ∧ m < F.length := by
    rintro p m ⟨l, hl, hp⟩
    have h1 := (List.getElem?_eq_some_iff.1 hl).1
    have := hF l (List.mem_of_getElem? hl) _ hp
    exact ⟨by omega, h1⟩
  rcases hc with ⟨_, hno⟩ | ⟨k, rfl, hkk, hk⟩
  · obtain ⟨p, hpl, hpe⟩ := hP n hn
    exact absurd (h.ok.seen p (by omega) (hE p n hpe).1) (hno p ((eof_at hn p).1 hpe))
  · have hk' : ∀ x, Anc (kf K) k x ↔ ∀ p, Eof F p n → kk K p → Anc (kf K) p x := fun x => by
      rw [hk x]
      exact ⟨fun e p hp => e p ((eof_at hn p).1 hp), fun e p hp => e p ((eof_at hn p).2 hp)⟩
    obtain ⟨h1, h2, h3, h4⟩ := h.ok.done hn hE hP hk'
    refine ⟨k, hnK, rfl, h.ok.bnd k hkk, ⟨by simp [h.len], by rw [kk_set hnK, kf_set hnK]; exact h4, fun q hq hkq => ?_⟩, fun hne => ?_, fun he => ?_⟩
    · rw [kk_set hnK] at hkq
      have hq' := not_or.1 hkq
      rw [List.getElem_set_ne (fun e => hq'.1 e.symm)]
      exact h.un q (by simpa using hq) hq'.2
    · by_cases hkn : kk K n
      · have ha := (h3 hkn).le h.ok.mon
        rw [kf_get hnK hkn] at hne ⊢
        omega
      · rw [h.un n hnK hkn]; omega
    · have hkn : kk K n := (kk_get hnK).2 (by omega)
      have e : kf K n = k := by have := kf_get hnK hkn; omega
      intro x
      rw [e]
      exact hk' x

set_option maxRecDepth 100000 in
set_option maxHeartbeats 4000000 in
theorem keepers_c (a : Option Addr) (cap : Nat) (F : List (List Int)) (w : World) (hT : Tab w.heap.size w a F) (hr : F.length ≤ 24) (hF : ∀ l ∈ F, ∀ y ∈ l, 0 ≤ y ∧ y ≤ (F.length : Int)) (hP : ∀ m, m < F.length → ∃ p, m < p ∧ Eof F p m) :
    Calls Try.prog 25 #[.slice a F.length cap] w fun e w' => ∃ K, e = .returned (.slice (some ⟨w.heap.size, 0, none⟩) (F.length + 1) (F.length + 1)) ∧ w'.ownsRow w.heap.size 3 1 (.slice (some ⟨w.heap.size, 0, none⟩) (F.length + 1) (F.length + 1)) (F.length + 1) (intsV K) ∧ KSt F 0 K ∧ (∀ n, n < F.length → FixAt F K n) ∧ Below w.heap.size w w' := by
  have HF := hide hF
  have HP := hide hP
  clear hF hP
  have w1 : IntKind.i64.wrap ((F.length : Int) + 1) = ((F.length + 1 : Nat) : Int) := by rw [IntKind.wrap_i64]; omega
  go_enter Try.func25, Try.ntmps25
  go_wp2_with fail
  refine (filled_c (F.length + 1) (-1) w (by omega)).mono ?_
  rintro e w5 ⟨rfl, hrow5, hb5, hs5, hko5⟩
  clear hko5
  have hlt5 : w.heap.size < w5.heap.size := by omega
  clear hs5
  obtain ⟨u5, hu5⟩ : ∃ u, (intsV (List.replicate (F.length + 1) (-1)))[F.length]? = some u := ⟨.int .i64 (-1), by simp [intsV]⟩
  have hc5 := row_at hrow5 hu5
  have hf5 := hrow5.frozenAt F.length
  have hst5 := (hrow5.stored F.length (.int .i64 (F.length : Int))).1
  have Hst5 : Hid ((w5.setCell ⟨w.heap.size, F.length, none⟩ (.int .i64 (F.length : Int))).ownsRow w.heap.size 3 1 (.slice (some ⟨w.heap.size, 0, none⟩) (F.length + 1) (F.length + 1)) (F.length + 1) (intsV ((List.replicate (F.length + 1) (-1)).set F.length (F.length : Int)))) := by
    have e : intsV ((List.replicate (F.length + 1) (-1)).set F.length (F.length : Int)) = (intsV (List.replicate (F.length + 1) (-1))).set F.length (.int .i64 (F.length : Int)) := by simp [intsV, List.map_set]
    rw [e]; exact hst5
  have hbs5 : Below w.heap.size w (w5.setCell ⟨w.heap.size, F.length, none⟩ (.int .i64 (F.length : Int))) := hb5.setCell (p := ⟨w.heap.size, F.length, none⟩) (Nat.le_refl _) _
  clear hst5 hu5
  have hI5 : (F.length : Int) < ((F.length + 1 : Nat) : Int) := by omega
  go_wp2
  clear hc5 hf5 hrow5 hb5
  go_loopw [5] (fun b wr => ∃ (bb : Bool) (K : List Int), b = .bool bb ∧ wr.ownsRow w.heap.size 3 1 (.slice (some ⟨w.heap.size, 0, none⟩) (F.length + 1) (F.length + 1)) (F.length + 1) (intsV K) ∧ Hid (KSt F F.length K) ∧ Hid (bb = false → KSt F 0 K ∧ ∀ n, n < F.length → FixAt F K n) ∧ Below w.heap.size w wr)
    (fun b wr => 2 * kmes F.length w.heap.size wr + (match b with | .bool true => 1 | _ => 0))
  case atStart => exact ⟨true, _, rfl, unhide Hst5, hide (kst_start F), hide (fun h => by cases h), hbs5⟩
  case round =>
    clear Hst5 hbs5
    obtain ⟨bb, K, rfl, hown, HK, Hend, hb⟩ := hrel
    cases bb
    · have Hk0 := hide (unhide Hend rfl).1
      have Hfx := hide (unhide Hend rfl).2
      clear Hend
      go_wp2
      go_ret
      exact ⟨K, rfl, hown, unhide Hk0, unhide Hfx, hb⟩
    · have Hmes := hide (kmes_row (unhide HK).len hown)
      have w2 : IntKind.i64.wrap ((F.length : Int) - 1) = (F.length : Int) - 1 := by rw [IntKind.wrap_i64]; omega
      clear Hend
      go_wp2
      go_loopw [5, 6] (fun b i wr => ∃ (bb : Bool) (c : Nat) (j : Int) (K2 : List Int), c ≤ F.length ∧ b = .bool bb ∧ i = .int .i64 j ∧ Hid (j + 1 = (c : Int)) ∧ wr.ownsRow w.heap.size 3 1 (.slice (some ⟨w.heap.size, 0, none⟩) (F.length + 1) (F.length + 1)) (F.length + 1) (intsV K2) ∧ Hid (KSt F c K2) ∧ Hid (bb = false → ∀ n, c ≤ n → n < F.length → FixAt F K2 n) ∧ Hid (kM F.length K2 ≤ kM F.length K) ∧ Hid (bb = true → kM F.length K2 < kM F.length K) ∧ Below w.heap.size w wr)
        (fun _ i _ => (intOf i + 1).toNat)
      case atStart => exact ⟨false, F.length, _, K, Nat.le_refl _, rfl, rfl, hide (by omega), hown, HK, hide (fun _ n h1 h2 => by omega), hide (Nat.le_refl _), hide (fun h => by cases h), hb⟩
      case round =>
        clear hown hb HK w2
        obtain ⟨bb, c, j, K2, hc, rfl, rfl, Hj, hown, HK2, Hfx, Hm1, Hm2, hb⟩ := hrel
        by_cases hc0 : c = 0
        · subst hc0
          obtain rfl : j = -1 := by have := unhide Hj; omega
          have Hme := hide (kmes_row (unhide HK2).len hown)
          go_wp2
          go_roundw
          case rel => exact ⟨bb, K2, rfl, hown, hide ⟨(unhide HK2).len, (unhide HK2).ok.again, (unhide HK2).un⟩, hide (fun h => ⟨unhide HK2, fun n hn => unhide Hfx h n (Nat.zero_le _) hn⟩), hb⟩
          case measure =>
            rw [unhide Hme, unhide Hmes]
            have h1 := unhide Hm1
            cases bb
            · simp only; omega
            · have h2 := unhide Hm2 rfl
              simp only; omega
        · obtain ⟨n, rfl⟩ : ∃ n, c = n + 1 := ⟨c - 1, by omega⟩
          obtain rfl : j = (n : Int) := by have := unhide Hj; omega
          clear hc0 Hj
          have hn : n < F.length := by omega
          have hnI : (n : Int) < (F.length : Int) := by omega
          have hnI1 : (n : Int) < ((F.length + 1 : Nat) : Int) := by omega
          have hn0 : decide ((n : Int) ≥ 0) = true := by simp
          have w3 : IntKind.i64.wrap ((n : Int) - 1) = (n : Int) - 1 := by rw [IntKind.wrap_i64]; omega
          obtain ⟨b, off, ai, ci, rfl, hbB, hcb, hIn⟩ := (hT.below hb).at hn
          obtain ⟨a', cap', hv, hIk, hr9⟩ := ints_of_owns hown (unhide HK2).len.symm (by omega)
          injection hv with e1 e2 e3
          subst e1 e3
          clear e2 hr9
          have hsz := hb.size
          have HkL := hide (unhide HK2).len
          have hc := common_c (Eof F) F.length (n + 1) K2 (unhide HK2).ok (unhide HK2).len (unhide HK2).un _ ai (F.length + 1) ci wr.heap.size wr hIk F[n] (hIn.mono hsz) (unhide HF _ (List.getElem_mem hn))
          rw [unhide HkL] at hc
          have Hc := hide hc
          have Hdone := hide (fun m (h : ComOk K2 F[n] m) => (unhide HK2).done hn (unhide HF) (unhide HP) h)
          clear hc hIk hIn
          generalize F[n] = S at *
          go_wp2_with fail
          refine (unhide Hc).mono ?_
          rintro e w7 ⟨⟨m, rfl, hcom⟩, hw7⟩
          have hw7 := hw7.symm
          subst hw7
          obtain ⟨k, hnK, rfl, hkr, hst, hup, hfix⟩ := unhide Hdone m hcom
          clear hcom Hc Hdone
          have hcell := row_at hown (k := n) (u := .int .i64 K2[n]) (by simp [intsV, hnK])
          have hfz := hown.frozenAt n
          have hst2 := (hown.stored n (.int .i64 (k : Int))).1
          have Hrow2 : Hid ((wr.setCell ⟨w.heap.size, n, none⟩ (.int .i64 (k : Int))).ownsRow w.heap.size 3 1 (.slice (some ⟨w.heap.size, 0, none⟩) (F.length + 1) (F.length + 1)) (F.length + 1) (intsV (K2.set n (k : Int)))) := by
            have e : intsV (K2.set n (k : Int)) = (intsV K2).set n (.int .i64 (k : Int)) := by simp [intsV, List.map_set]
            rw [e]; exact hst2
          have hbs : Below w.heap.size w (wr.setCell ⟨w.heap.size, n, none⟩ (.int .i64 (k : Int))) := hb.setCell (p := ⟨w.heap.size, n, none⟩) (Nat.le_refl _) _
          have Hset : Hid (K2[n] = (k : Int) → K2.set n (k : Int) = K2) := fun e => by rw [← e]; exact List.set_getElem_self hnK
          have HkM : Hid (K2[n] ≠ (k : Int) → kM F.length (K2.set n (k : Int)) < kM F.length K2) := fun e => kM_set hnK (hup e) hkr
          have Hst := hide hst
          have Hfix := hide hfix
          clear hst2 hst hfix hup
          generalize K2[n] = z at *
          by_cases hz : z = (k : Int)
          · have d : ((k : Int) != z) = false := by simp [hz]
            have Hs := hide (unhide Hset hz)
            have Hf := hide (unhide Hfix hz)
            clear hz Hset HkM Hfix
            go_wp2
            go_roundw
            case rel =>
              refine ⟨bb, n, _, K2, by omega, rfl, rfl, hide (by omega), hown, ?_, hide (fun h q h1 h2 => ?_), Hm1, Hm2, hb⟩
              · have := unhide Hst; rw [unhide Hs] at this; exact this
              · by_cases e : q = n
                · subst e; exact unhide Hf
                · exact unhide Hfx h q (by omega) h2
            case measure => simp [intOf]
          · have d : ((k : Int) != z) = true := by simp; exact fun e => hz e.symm
            have HkM2 := hide (unhide HkM hz)
            clear hz Hset HkM Hfix
            go_wp2
            go_roundw
            case rel =>
              refine ⟨true, n, _, K2.set n (k : Int), by omega, rfl, rfl, hide (by omega), unhide Hrow2, Hst, hide (fun h => by cases h), hide ?_, hide (fun _ => ?_), hbs⟩
              · have := unhide HkM2; have := unhide Hm1; omega
              · have := unhide HkM2; have := unhide Hm1; omega
            case measure => simp [intOf]

end Go.Proofs.Ythpmckfgngkbhaa

/- Walks: wayBack. -/
namespace Go.Proofs.Ythpmckfgngkbhaa
set_option linter.unusedSimpArgs false
set_option linter.unusedVariables false
open Go.RowKit Go.Shelf

theorem storeFn (P : Program) (w : World) (a : Addr) (m : Mode) (fn : Fn) (first captured : Array Value) : (store a (.func fn first captured) m).run P w = stored P w a (.func fn first captured) m := run_store P w a _ m rfl
attribute [local go_sem] storeFn

theorem World.alloc_heap_new' (w : World) (o : Obj) (k : Nat) (hk : k = w.heap.size) : (w.alloc o).heap[k]? = some o := by subst hk; exact World.alloc_heap_new w o

theorem seenL_nil (N : Nat) : boolsV (seenL N []) = List.replicate N (.bool false) := by
  refine List.ext_getElem? fun j => ?_
  by_cases hj : j < N
  · simp [boolsV, seenL_get [] hj, hj]
  · rw [List.getElem?_eq_none (by simp [boolsV, seenL_len]; omega), List.getElem?_eq_none (by simp; omega)]

theorem numL_nil (N : Nat) : numL N [] = List.replicate N (-1) := by
  refine List.ext_getElem? fun j => ?_
  by_cases hj : j < N
  · simp [numL_get [] hj, hj, numAt]
  · rw [List.getElem?_eq_none (by simp [numL_len]; omega), List.getElem?_eq_none (by simp; omega)]

theorem refsOkN_roots {g : Gr} (h : Good g) : RefsOkN g.objs.length g.roots := fun v hv hr => h.rr v hv hr

set_option maxRecDepth 100000 in
set_option maxHeartbeats 4000000 in
theorem wayBack_c (ao ar : Option Addr) (co cr : Nat) (g : Gr) (wo : Int) (B : Nat) (w : World) (ho : Objs B w ao g.objs) (hr : Vals B w ar g.roots) (hB : B ≤ w.heap.size) (hG : Good g) :
    Calls Try.prog 21 #[.agg #[.slice ao g.objs.length co, .slice ar g.roots.length cr], .int .i64 wo] w fun e w' => ∃ vo gb, e = .returned (.agg #[vo, .slice (some ⟨gb, 0, none⟩) g.objs.length g.objs.length]) ∧ vo.ownBlock ≠ some gb ∧
      w'.ownsRow w.heap.size 3 1 vo (backL g wo).length (intsV (backL g wo)) ∧ w'.ownsRow w.heap.size 3 1 (.slice (some ⟨gb, 0, none⟩) g.objs.length g.objs.length) g.objs.length (intsV (numL g.objs.length (backL g wo))) ∧ Below w.heap.size w w' := by
  obtain ⟨i4, hi, hz0, hz1, hz2⟩ := info_parts Try.info4
  have ho1 := ho.1
  have hr1 := hr.1
  have hn24 := hG.n24
  have hn8 := hG.n8
  obtain ⟨W3, hW3⟩ : ∃ W3, ((w.alloc (.cells #[.slice ao g.objs.length co, .slice ar g.roots.length cr] 25)).alloc (.cells #[.int .i64 wo] 3)).alloc (.cells #[.slice none 0 0, .slice none 0 0] 43) = W3 := ⟨_, rfl⟩
  have hs3 : W3.heap.size = w.heap.size + 3 := by rw [← hW3]; simp
  have hb3 : Below w.heap.size w W3 := by rw [← hW3]; exact (((Below.refl _ _).alloc (Nat.le_refl _) _).alloc (by simp) _).alloc (by simp; omega) _
  have hg0 : W3.cell? ⟨w.heap.size, 0, none⟩ = some (.slice ao g.objs.length co) := by rw [← hW3]; simp [go_sem]
  have hg1 : W3.cell? ⟨w.heap.size, 1, none⟩ = some (.slice ar g.roots.length cr) := by rw [← hW3]; simp [go_sem]
  have hg2 : W3.cell? ⟨w.heap.size + 1, 0, none⟩ = some (.int .i64 wo) := by rw [← hW3]; simp [go_sem]
  have hgr : W3.heap[w.heap.size + 2]? = some (.cells #[.slice none 0 0, .slice none 0 0] 43) := by rw [← hW3]; exact World.alloc_heap_new' _ _ _ (by simp)
  have hg3 : W3.cell? ⟨w.heap.size + 2, 0, none⟩ = some (.slice none 0 0) := by rw [← hW3]; simp [go_sem]
  have hg4 : W3.cell? ⟨w.heap.size + 2, 1, none⟩ = some (.slice none 0 0) := by rw [← hW3]; simp [go_sem]
  have hg5 : W3.frozen? ⟨w.heap.size + 2, 0, none⟩ = false := by rw [← hW3]; simp [go_sem]
  have hg6 : W3.frozen? ⟨w.heap.size + 2, 1, none⟩ = false := by rw [← hW3]; simp [go_sem]
  go_enter Try.func21, Try.ntmps21
  go_wp2_with fail
  clear hW3
  refine (filled_c g.objs.length (-1) W3 (by omega)).mono ?_
  rintro e w1 ⟨rfl, hrow1, hb1, hs1, _⟩
  rw [hs3] at hs1 hrow1 hb1 ⊢
  have hs1 : w1.heap.size = w.heap.size + 4 := by omega
  have hc0 := (hb1.cell (p := ⟨w.heap.size, 0, none⟩) (by simp)).trans hg0
  have hc1 := (hb1.cell (p := ⟨w.heap.size, 1, none⟩) (by simp)).trans hg1
  have hc2 := (hb1.cell (p := ⟨w.heap.size + 1, 0, none⟩) (by simp)).trans hg2
  have hc3 := (hb1.cell (p := ⟨w.heap.size + 2, 0, none⟩) (by simp)).trans hg3
  have hc4 := (hb1.cell (p := ⟨w.heap.size + 2, 1, none⟩) (by simp)).trans hg4
  have hc5 := (hb1.frozen (p := ⟨w.heap.size + 2, 0, none⟩) (by simp)).trans hg5
  have hc6 := (hb1.frozen (p := ⟨w.heap.size + 2, 1, none⟩) (by simp)).trans hg6
  have hcr2 := (hb1.block (w.heap.size + 2) (by omega)).trans hgr
  have hbw1 : Below w.heap.size w w1 := hb3.trans (hb1.mono (by omega))
  clear hgr hg0 hg1 hg2 hg3 hg4 hg5 hg6 hb1 hb3 hs3
  have hA0 : (w1.alloc (.cells #[.slice none 0 0, .slice (some ⟨w.heap.size + 3, 0, none⟩) g.objs.length g.objs.length] 43)).cell? ⟨w.heap.size + 4, 0, none⟩ = some (.slice none 0 0) := by rw [← hs1]; simp [go_sem]
  have hA1 : (w1.alloc (.cells #[.slice none 0 0, .slice (some ⟨w.heap.size + 3, 0, none⟩) g.objs.length g.objs.length] 43)).cell? ⟨w.heap.size + 4, 1, none⟩ = some (.slice (some ⟨w.heap.size + 3, 0, none⟩) g.objs.length g.objs.length) := by rw [← hs1]; simp [go_sem]
  have hA2 : (w1.alloc (.cells #[.slice none 0 0, .slice (some ⟨w.heap.size + 3, 0, none⟩) g.objs.length g.objs.length] 43)).frozen? ⟨w.heap.size + 4, 0, none⟩ = false := by rw [← hs1]; simp [go_sem]
  have hbA := (Below.refl (w.heap.size + 4) w1).alloc (by omega) (.cells #[.slice none 0 0, .slice (some ⟨w.heap.size + 3, 0, none⟩) g.objs.length g.objs.length] 43)
  go_wp2_with (at_make; go_must (refine wpList_make_at _ rfl _ _ 62 rfl (w.heap.size + 3) 4 i4 _ 1 Try.underlying62 hi hz0 hz1 .i64 .i64 _ _ g.objs.length rfl rfl rfl rfl (by rw [hz2]; omega) (by simp only [maxLen]; omega) (by simp; omega) ?_); go_must (intro w5 hown5 hg5 hs5; simp only [World.size_alloc, hs1, Nat.add_assoc, Nat.reduceAdd] at hown5 hs5 ⊢; have hb5 := hg5.cell hA0 (by simp); have hc5x := (World.frozen?_of_block (a := ⟨w.heap.size + 4, 0, none⟩) (hg5.block (w.heap.size + 4) (by rw [World.size_alloc, hs1]; omega) (by simp))).trans hA2; have hd5 := hg5.cell hA1 (by simp); have hbB := hbA.grown hg5 (by rw [World.size_alloc, hs1]; omega) (fun k e => by cases e); have hcg := (hbB.cell (p := ⟨w.heap.size, 0, none⟩) (by simp)).trans hc0; have hcr := (hbB.cell (p := ⟨w.heap.size, 1, none⟩) (by simp)).trans hc1; have hlt5 : w.heap.size < w5.heap.size := (by omega); have Hs5 := hide hs5; clear hs5))
  simp only [unhide Hs5, Nat.add_assoc, Nat.reduceAdd]
  have hs5 := unhide Hs5
  obtain ⟨W0, hW⟩ : ∃ W0, (w5.alloc (.cells #[.slice (some ⟨w.heap.size + 5, 0, none⟩) g.objs.length g.objs.length] 62)).alloc (.cells #[.func (.func 35) #[] #[.pointer (some ⟨w.heap.size + 1, 0, none⟩), .pointer (some ⟨w.heap.size + 6, 0, none⟩), .pointer (some ⟨w.heap.size + 7, 0, none⟩), .pointer (some ⟨w.heap.size, 0, none⟩), .pointer (some ⟨w.heap.size + 4, 0, none⟩)]] 63) = W0 := ⟨_, rfl⟩
  rw [hW]
  have hk5 : ∀ k, k < w.heap.size + 6 → W0.heap[k]? = w5.heap[k]? := fun k hk => by rw [← hW]; exact (Below.heap_alloc _ _ k (by rw [World.size_alloc]; omega)).trans (Below.heap_alloc _ _ k (by omega))
  have hbW : Below w.heap.size w W0 := by rw [← hW]; exact ((hbw1.trans (hbB.mono (by omega))).alloc (by omega) _).alloc (by rw [World.size_alloc]; omega) _
  have hF0 : WB W0 w.heap.size ao g.objs.length co wo ([], []) (.slice none 0 0) := by
    refine ⟨?_, ?_, ?_, ?_, ?_, ?_, ?_, ?_, ?_, World.ownsRow_nil _ _ _ _, ?_⟩
    · exact (World.cell?_of_block (a := ⟨w.heap.size, 0, none⟩) (hk5 w.heap.size (by omega))).trans hcg
    · exact (World.cell?_of_block (a := ⟨w.heap.size + 1, 0, none⟩) (hk5 (w.heap.size + 1) (by omega))).trans ((hbB.cell (p := ⟨w.heap.size + 1, 0, none⟩) (by simp)).trans hc2)
    · rw [← hW, show w.heap.size + 7 = (w5.alloc (.cells #[.slice (some ⟨w.heap.size + 5, 0, none⟩) g.objs.length g.objs.length] 62)).heap.size by rw [World.size_alloc]; omega]; simp [go_sem]
    · have e : W0.heap[w.heap.size + 6]? = some (.cells #[.slice (some ⟨w.heap.size + 5, 0, none⟩) g.objs.length g.objs.length] 62) := by
        rw [← hW]
        exact (Below.heap_alloc _ _ _ (by rw [World.size_alloc]; omega)).trans (World.alloc_heap_new' _ _ _ (by omega))
      exact cell_of_one e
    · exact (World.cell?_of_block (a := ⟨w.heap.size + 4, 0, none⟩) (hk5 (w.heap.size + 4) (by omega))).trans hb5
    · exact (World.cell?_of_block (a := ⟨w.heap.size + 4, 1, none⟩) (hk5 (w.heap.size + 4) (by omega))).trans hd5
    · exact (World.frozen?_of_block (a := ⟨w.heap.size + 4, 0, none⟩) (hk5 (w.heap.size + 4) (by omega))).trans hc5x
    · rw [seenL_nil]
      have e : (madeCells (Value.bool false).cells (g.objs.length * 1)).toList = List.replicate g.objs.length (.bool false) := by rw [Nat.mul_one]; exact toList_madeCells_one _ _
      rw [e] at hown5
      exact row_block hown5 (hk5 _ (by omega))
    · rw [numL_nil]
      exact row_block hrow1 ((hk5 _ (by omega)).trans (hbB.block _ (by omega)))
    · exact (hk5 _ (by omega)).trans ((hbB.block _ (by omega)).trans hcr2)
  clear hW hk5 hb5 hd5 hc5x hown5 hrow1 hcg hcr hbB hbA hA0 hA1 hA2 hc0 hc1 hc2 hc3 hc4 hc5 hc6
  refine (visit_c g hG wo ao co B w.heap.size hB (g.objs.length + 1) ar cr g.roots ([], []) _ W0 hF0 (ho.below (hbW.mono hB)) (hr.below (hbW.mono hB)) (refsOkN_roots hG) (by omega) (sok_nil _) (by simp)).mono ?_
  rintro e w6 ⟨rfl, ⟨vo, hF⟩, hb6, _⟩
  have hF : WB w6 w.heap.size ao g.objs.length co wo (wayF g wo) vo := hF
  obtain ⟨oa, oc, rfl⟩ := ownsRow_slice hF.ord
  have hc0 := hF.c0
  have hc1 := hF.c1
  have hres := hF.res
  have hr0 : w6.cell? ⟨w.heap.size + 2, 0, none⟩ = some (.slice none 0 0) := by simp [World.cell?, hres]
  have hr1 : w6.cell? ⟨w.heap.size + 2, 1, none⟩ = some (.slice none 0 0) := by simp [World.cell?, hres]
  have hr2 : w6.frozen? ⟨w.heap.size + 2, 0, none⟩ = false := by simp [World.frozen?, hres]
  have hr3 : w6.frozen? ⟨w.heap.size + 2, 1, none⟩ = false := by simp [World.frozen?, hres]
  have Hres := hide hres
  clear hres
  go_wp2
  refine bodyPost_ret (v := .agg #[.slice oa (wayF g wo).2.length oc, .slice (some ⟨w.heap.size + 3, 0, none⟩) g.objs.length g.objs.length]) (by simp [results, Try.results21, go_sem, hr0, hr1]) rfl ⟨_, w.heap.size + 3, rfl, ord_ne hF.ord (by omega), ?_, ?_, ?_⟩
  · have h1 := ownsRow_setCell_other (ownsRow_setCell_other hF.ord (a := ⟨w.heap.size + 2, 0, none⟩) (ord_ne hF.ord (by simp)) (.slice oa (wayF g wo).2.length oc)) (a := ⟨w.heap.size + 2, 1, none⟩) (ord_ne hF.ord (by simp)) (.slice (some ⟨w.heap.size + 3, 0, none⟩) g.objs.length g.objs.length)
    exact ⟨h1.1, h1.2.imp id fun ⟨g', cap, cur, e1, e2, e3⟩ => ⟨g', cap, cur, e1, by omega, e3⟩⟩
  · have h1 := ownsRow_setCell_other (ownsRow_setCell_other hF.num (a := ⟨w.heap.size + 2, 0, none⟩) (by simp [Value.ownBlock]) (.slice oa (wayF g wo).2.length oc)) (a := ⟨w.heap.size + 2, 1, none⟩) (by simp [Value.ownBlock]) (.slice (some ⟨w.heap.size + 3, 0, none⟩) g.objs.length g.objs.length)
    exact ⟨h1.1, h1.2.imp id fun ⟨g', cap, cur, e1, e2, e3⟩ => ⟨g', cap, cur, e1, by omega, e3⟩⟩
  · exact ((hbW.trans hb6).setCell (p := ⟨w.heap.size + 2, 0, none⟩) (by simp) _).setCell (p := ⟨w.heap.size + 2, 1, none⟩) (by simp) _

end Go.Proofs.Ythpmckfgngkbhaa

/- Walks: referrers. -/
namespace Go.Proofs.Ythpmckfgngkbhaa
set_option linter.unusedSimpArgs false
set_option linter.unusedVariables false
open Go.RowKit Go.Shelf

theorem Try.info26 : (Try.prog.info? 26).map (fun i => (i.zero, i.size, i.bytes)) = some (some (.slice none 0 0), 1, 24) := by kernel_rfl

/-- Who refers to whom, of the first k on the way back. -/
def fromK (g : Gr) (ord : List Int) : Nat → List (List Int)
  | 0 => List.replicate ord.length []
  | k + 1 => noteL ord (k : Int) (fromK g ord k) (refsL (fieldsOf g (ord.getD k 0)))

def fromL (g : Gr) (ord : List Int) : List (List Int) := noteL ord (ord.length : Int) (fromK g ord ord.length) (refsL g.roots)

theorem fromK_len (g : Gr) (ord : List Int) : ∀ k, (fromK g ord k).length = ord.length
  | 0 => by simp [fromK]
  | k + 1 => by rw [fromK, noteL_len]; exact fromK_len g ord k

theorem fromL_len (g : Gr) (ord : List Int) : (fromL g ord).length = ord.length := by rw [fromL, noteL_len, fromK_len]

theorem refsL_len (l : List V) : (refsL l).length ≤ l.length := by
  unfold refsL valsOf obsOf
  rw [List.length_map]
  exact List.length_filterMap_le _ _

theorem fieldsOf_len {g : Gr} (h : Good g) (i : Int) : (fieldsOf g i).length ≤ 4 := by
  by_cases hi : i.toNat < g.objs.length
  · have e : fieldsOf g i = g.objs[i.toNat] := by unfold fieldsOf; simp [hi]
    rw [e]; exact h.n4 _ (List.getElem_mem hi)
  · have e : fieldsOf g i = [] := by unfold fieldsOf; simp [hi]
    rw [e]; simp

theorem fromK_le {g : Gr} (h : Good g) (ord : List Int) : ∀ k, ∀ q ∈ fromK g ord k, q.length ≤ 4 * k
  | 0, q, hq => by simp [fromK] at hq; simp [hq.2]
  | k + 1, q, hq => by
    have h1 := noteL_le ord (k : Int) (refsL (fieldsOf g (ord.getD k 0))) (fromK g ord k) (4 * k) (fromK_le h ord k) q hq
    have h2 := refsL_len (fieldsOf g (ord.getD k 0))
    have h3 := fieldsOf_len h (ord.getD k 0)
    omega

theorem noteL_mem {ord : List Int} (hnd : ord.Nodup) (n : Int) : ∀ (xs : List Int) (L : List (List Int)), L.length = ord.length → (∀ x ∈ xs, x ∈ ord) → ∀ (m : Nat) (hm : m < ord.length) (y : Int), y ∈ (noteL ord n L xs).getD m [] ↔ y ∈ L.getD m [] ∨ (y = n ∧ ord[m] ∈ xs)
  | [], L, _, _, m, hm, y => by simp [noteL]
  | x :: xs, L, hL, hx, m, hm, y => by
    have hxo := hx x (by simp)
    have hi : ord.idxOf x < ord.length := List.idxOf_lt_length_iff.2 hxo
    have ih := noteL_mem hnd n xs (L.set (ord.idxOf x) ((L.getD (ord.idxOf x) []) ++ [n])) (by simp [hL]) (fun z hz => hx z (by simp [hz])) m hm y
    have e : noteL ord n L (x :: xs) = noteL ord n (L.set (ord.idxOf x) ((L.getD (ord.idxOf x) []) ++ [n])) xs := by simp [noteL]
    rw [e, ih]
    by_cases em : m = ord.idxOf x
    · have hox : ord[m] = x := by subst em; exact List.getElem_idxOf hi
      have e2 : (L.set (ord.idxOf x) ((L.getD (ord.idxOf x) []) ++ [n])).getD m [] = L.getD m [] ++ [n] := by
        subst em
        rw [List.getD_eq_getElem?_getD, List.getElem?_set_self (by rw [hL]; exact hi)]
        rfl
      rw [e2, List.mem_append, List.mem_singleton, hox]
      constructor
      · rintro ((h | h) | ⟨h, h2⟩)
        · exact .inl h
        · exact .inr ⟨h, by simp⟩
        · exact .inr ⟨h, by simp [h2]⟩
      · rintro (h | ⟨h, _⟩)
        · exact .inl (.inl h)
        · exact .inl (.inr h)
    · have hox : ord[m] ≠ x := fun e3 => em (by
        have h1 : ord[ord.idxOf x] = x := List.getElem_idxOf hi
        refine (List.getElem?_inj hm hnd).1 ?_
        rw [List.getElem?_eq_getElem hm, List.getElem?_eq_getElem hi, e3, h1])
      have e2 : (L.set (ord.idxOf x) ((L.getD (ord.idxOf x) []) ++ [n])).getD m [] = L.getD m [] := by
        rw [List.getD_eq_getElem?_getD, List.getElem?_set_ne (fun e3 => em e3.symm), List.getD_eq_getElem?_getD]
      rw [e2]
      constructor
      · rintro (h | ⟨h, h2⟩)
        · exact .inl h
        · exact .inr ⟨h, by simp [h2]⟩
      · rintro (h | ⟨h, h2⟩)
        · exact .inl h
        · rcases List.mem_cons.1 h2 with h3 | h3
          · exact absurd h3 hox
          · exact .inr ⟨h, h3⟩

theorem fromK_mem {g : Gr} {ord : List Int} (hnd : ord.Nodup) (hcl : ∀ x ∈ ord, ∀ y ∈ refsL (fieldsOf g x), y ∈ ord) : ∀ (k : Nat), k ≤ ord.length → ∀ (m : Nat) (hm : m < ord.length) (y : Int), y ∈ (fromK g ord k).getD m [] ↔ ∃ (p : Nat) (hp : p < ord.length), p < k ∧ y = (p : Int) ∧ ord[m] ∈ refsL (fieldsOf g ord[p])
  | 0, _, m, hm, y => by
    simp only [fromK, List.getD_eq_getElem?_getD, List.getElem?_replicate]
    rw [if_pos hm]
    simp
  | k + 1, hk, m, hm, y => by
    have hkl : k < ord.length := by omega
    have e : ord.getD k 0 = ord[k] := by simp [hkl]
    rw [fromK, e, noteL_mem hnd _ _ _ (fromK_len g ord k) (hcl _ (List.getElem_mem hkl)) m hm y, fromK_mem hnd hcl k (by omega) m hm y]
    constructor
    · rintro (⟨p, hp, h1, h2, h3⟩ | ⟨h1, h2⟩)
      · exact ⟨p, hp, by omega, h2, h3⟩
      · exact ⟨k, hkl, by omega, h1, h2⟩
    · rintro ⟨p, hp, h1, h2, h3⟩
      by_cases ep : p = k
      · subst ep; exact .inr ⟨h2, h3⟩
      · exact .inl ⟨p, hp, by omega, h2, h3⟩

/-- p refers to m, by their numbers; the roots' is the last. -/
def EG (g : Gr) (ord : List Int) (p m : Nat) : Prop := ∃ hm : m < ord.length, (∃ hp : p < ord.length, ord[m] ∈ refsL (fieldsOf g ord[p])) ∨ (p = ord.length ∧ ord[m] ∈ refsL g.roots)

theorem fromL_mem {g : Gr} {ord : List Int} (hnd : ord.Nodup) (hcl : ∀ x ∈ ord, ∀ y ∈ refsL (fieldsOf g x), y ∈ ord) (hrt : ∀ y ∈ refsL g.roots, y ∈ ord) {m : Nat} (hm : m < ord.length) (y : Int) : y ∈ (fromL g ord).getD m [] ↔ ∃ p : Nat, y = (p : Int) ∧ EG g ord p m := by
  unfold fromL
  rw [noteL_mem hnd _ _ _ (fromK_len g ord _) hrt m hm y, fromK_mem hnd hcl _ (Nat.le_refl _) m hm y]
  constructor
  · rintro (⟨p, hp, _, h2, h3⟩ | ⟨h1, h2⟩)
    · exact ⟨p, h2, hm, .inl ⟨hp, h3⟩⟩
    · exact ⟨ord.length, h1, hm, .inr ⟨rfl, h2⟩⟩
  · rintro ⟨p, h1, _, ⟨hp, h3⟩ | ⟨rfl, h3⟩⟩
    · exact .inl ⟨p, hp, hp, h1, h3⟩
    · exact .inr ⟨h1, h3⟩

theorem eof_eg {g : Gr} {ord : List Int} (hnd : ord.Nodup) (hcl : ∀ x ∈ ord, ∀ y ∈ refsL (fieldsOf g x), y ∈ ord) (hrt : ∀ y ∈ refsL g.roots, y ∈ ord) (p m : Nat) : Eof (fromL g ord) p m ↔ EG g ord p m := by
  constructor
  · rintro ⟨l, hl, hp⟩
    have hm : m < ord.length := by rw [← fromL_len g ord]; exact (List.getElem?_eq_some_iff.1 hl).1
    obtain ⟨q, h1, h2⟩ := (fromL_mem hnd hcl hrt hm (p : Int)).1 (by rw [List.getD_eq_getElem?_getD, hl]; exact hp)
    obtain rfl : p = q := by omega
    exact h2
  · intro h
    have hm : m < ord.length := h.1
    have hl : (fromL g ord)[m]? = some ((fromL g ord)[m]'(by rw [fromL_len]; exact hm)) := List.getElem?_eq_getElem (by rw [fromL_len]; exact hm)
    refine ⟨_, hl, ?_⟩
    have := (fromL_mem hnd hcl hrt hm (p : Int)).2 ⟨p, rfl, h⟩
    rw [List.getD_eq_getElem?_getD, hl] at this
    exact this

/-- The table, when it is made, can be read. -/
theorem RB.tab {W : World} {b N gb : Nat} {o0 o1 : Obj} {ord : List Int} {L : List (List Int)} {es : List Value} (h : RB W b N gb o0 o1 ord L es) (hs : ord.length ≤ 1000) (hq : ∀ q ∈ L, q.length ≤ 1000) : Tab W.heap.size W (some ⟨b + 2, 0, none⟩) L := by
  refine ⟨by rw [h.len]; omega, fun _ => ⟨b + 2, 0, rfl, by have := h.lt; omega, fun k l hk => ?_⟩⟩
  obtain ⟨v, hv, hvr⟩ := h.el k l hk
  have hl := hq l (List.mem_of_getElem? hk)
  obtain ⟨va, vc, rfl, hI, _⟩ := ints_of_owns hvr rfl (by omega)
  refine ⟨va, vc, ?_, hI⟩
  rw [Nat.zero_add]
  exact row_at h.row hv

theorem refsOkS_fields {g : Gr} (h : Good g) {ord : List Int} (hcl : ∀ x ∈ ord, ∀ y ∈ refsL (fieldsOf g x), y ∈ ord) {x : Int} (hx : x ∈ ord) : RefsOkS ord (fieldsOf g x) := by
  rintro ⟨r, y⟩ hv hr
  obtain rfl : r = true := hr
  exact hcl x hx y ((mem_refsL (refsOk_fieldsOf h x) y).2 hv)

theorem refsOkS_roots {g : Gr} (h : Good g) {ord : List Int} (hrt : ∀ y ∈ refsL g.roots, y ∈ ord) : RefsOkS ord g.roots := by
  rintro ⟨r, y⟩ hv hr
  obtain rfl : r = true := hr
  exact hrt y ((mem_refsL h.refsRoots y).2 hv)

theorem box_cells {W : World} {b : Nat} {x y : Value} {t : TypeId} (h : W.heap[b]? = some (.cells #[x, y] t)) : W.cell? ⟨b, 0, none⟩ = some x ∧ W.cell? ⟨b, 1, none⟩ = some y := ⟨by simp [World.cell?, h], by simp [World.cell?, h]⟩

set_option maxRecDepth 100000 in
set_option maxHeartbeats 4000000 in
theorem referrers_c (oa ao ar : Option Addr) (oc co cr gb : Nat) (g : Gr) (ord : List Int) (w : World) (hO : Ints w.heap.size w oa ord) (hNm : Ints w.heap.size w (some ⟨gb, 0, none⟩) (numL g.objs.length ord)) (ho : Objs w.heap.size w ao g.objs) (hr : Vals w.heap.size w ar g.roots) (hG : Good g)
    (hrg : ∀ x ∈ ord, 0 ≤ x ∧ x < (g.objs.length : Int)) (hol : ord.length ≤ 24) (hcl : ∀ x ∈ ord, ∀ y ∈ refsL (fieldsOf g x), y ∈ ord) (hrt : ∀ y ∈ refsL g.roots, y ∈ ord) :
    Calls Try.prog 26 #[.agg #[.slice oa ord.length oc, .slice (some ⟨gb, 0, none⟩) g.objs.length g.objs.length], .agg #[.slice ao g.objs.length co, .slice ar g.roots.length cr]] w fun e w' =>
      e = .returned (.slice (some ⟨w.heap.size + 2, 0, none⟩) ord.length ord.length) ∧ Tab w'.heap.size w' (some ⟨w.heap.size + 2, 0, none⟩) (fromL g ord) ∧ Below w.heap.size w w' := by
  obtain ⟨i0, hi, hz0, hz1, hz2⟩ := info_parts Try.info26
  have hn24 := hG.n24
  have hn8 := hG.n8
  have ho1 := ho.1
  have hr1 := hr.1
  have Hrg := hide hrg
  have Hcl := hide hcl
  have Hrt := hide hrt
  clear hrg hcl hrt
  obtain ⟨W2, hW2⟩ : ∃ W2, (w.alloc (.cells #[.slice oa ord.length oc, .slice (some ⟨gb, 0, none⟩) g.objs.length g.objs.length] 43)).alloc (.cells #[.slice ao g.objs.length co, .slice ar g.roots.length cr] 25) = W2 := ⟨_, rfl⟩
  have hs2 : W2.heap.size = w.heap.size + 2 := by rw [← hW2]; simp
  have hb2 : Below w.heap.size w W2 := by rw [← hW2]; exact ((Below.refl _ _).alloc (Nat.le_refl _) _).alloc (by simp) _
  have hh0 : W2.heap[w.heap.size]? = some (.cells #[.slice oa ord.length oc, .slice (some ⟨gb, 0, none⟩) g.objs.length g.objs.length] 43) := by rw [← hW2]; exact (Below.heap_alloc _ _ _ (by simp)).trans (World.alloc_heap_new' _ _ _ rfl)
  have hh1 : W2.heap[w.heap.size + 1]? = some (.cells #[.slice ao g.objs.length co, .slice ar g.roots.length cr] 25) := by rw [← hW2]; exact World.alloc_heap_new' _ _ _ (by simp)
  have c0 : W2.cell? ⟨w.heap.size, 0, none⟩ = some (.slice oa ord.length oc) := by rw [← hW2]; simp [go_sem]
  go_enter Try.func26, Try.ntmps26
  go_wp2_with (at_make; go_must (refine wpList_make_at _ rfl _ _ 40 rfl (w.heap.size + 2) 26 i0 _ 1 Try.underlying40 hi hz0 hz1 .i64 .i64 _ _ ord.length rfl rfl rfl rfl (by rw [hz2]; omega) (by simp only [maxLen]; omega) (by omega) ?_); go_must (intro w5 hown5 hg5 hs5; rw [hs2] at hown5 hs5 ⊢; have c05 := hg5.cell c0 (by simp); have hb5 : w.heap.size < w5.heap.size := (by omega); have Hs5 := hide hs5; clear hs5))
  simp only [unhide Hs5, Nat.add_assoc, Nat.reduceAdd]
  obtain ⟨W6, hW6⟩ : ∃ W6, w5.alloc (.cells #[.slice (some ⟨w.heap.size + 2, 0, none⟩) ord.length ord.length] 40) = W6 := ⟨_, rfl⟩
  rw [hW6]
  have hw5 : Below w.heap.size w w5 := hb2.grown hg5 (by omega) (fun k e => by cases e)
  have hs5 := unhide Hs5
  have hw6 : Below w.heap.size w W6 := by rw [← hW6]; exact hw5.alloc (by omega) _
  have hk6 : ∀ k, k < w.heap.size + 3 → W6.heap[k]? = w5.heap[k]? := fun k hk => by rw [← hW6]; exact Below.heap_alloc _ _ k (by omega)
  have hk5 : ∀ k, k < w.heap.size + 2 → W6.heap[k]? = W2.heap[k]? := fun k hk => (hk6 k (by omega)).trans (hg5.block k (by omega) (by simp))
  have hRB : RB W6 w.heap.size g.objs.length gb (.cells #[.slice oa ord.length oc, .slice (some ⟨gb, 0, none⟩) g.objs.length g.objs.length] 43) (.cells #[.slice ao g.objs.length co, .slice ar g.roots.length cr] 25) ord (fromK g ord 0) (List.replicate ord.length (.slice none 0 0)) := by
    refine ⟨(hk5 _ (by omega)).trans hh0, (hk5 _ (by omega)).trans hh1, (box_cells ((hk5 _ (by omega)).trans hh0)).2, hNm.below hw6, ?_, by simp [fromK], ?_, ?_, ?_⟩
    · rw [← hW6, show w.heap.size + 3 = w5.heap.size by omega]; simp [go_sem]
    · have e : (madeCells (Value.slice none 0 0).cells (ord.length * 1)).toList = List.replicate ord.length (.slice none 0 0) := by rw [Nat.mul_one]; exact toList_madeCells_one _ _
      rw [e] at hown5
      exact row_block hown5 (hk6 _ (by omega))
    · intro k l hk
      simp only [fromK, List.getElem?_replicate] at hk
      split at hk
      · rename_i hkl
        injection hk with hk
        subst hk
        exact ⟨.slice none 0 0, by simp [hkl], World.ownsRow_nil _ _ _ _⟩
      · cases hk
    · intro j k vj vk x hj _ hjx _
      simp only [List.getElem?_replicate] at hj
      split at hj
      · injection hj with hj
        subst hj
        simp [Value.ownBlock] at hjx
      · cases hj
  clear hW6 hk6 hk5 hown5 hg5 hh0 hh1 c0 c05 hb5 hs5 Hs5 hw5 hs2 hb2 hW2
  obtain ⟨o0, ho0⟩ : ∃ o0, Obj.cells #[.slice oa ord.length oc, .slice (some ⟨gb, 0, none⟩) g.objs.length g.objs.length] 43 = o0 := ⟨_, rfl⟩
  obtain ⟨o1, ho1'⟩ : ∃ o1, Obj.cells #[.slice ao g.objs.length co, .slice ar g.roots.length cr] 25 = o1 := ⟨_, rfl⟩
  rw [ho0, ho1'] at hRB
  have Ho0 := hide ho0
  have Ho1 := hide ho1'
  clear ho0 ho1'
  go_loopw [17] (fun i wr => ∃ (k : Nat) (es : List Value), k ≤ ord.length ∧ i = .int .i64 k ∧ RB wr w.heap.size g.objs.length gb o0 o1 ord (fromK g ord k) es ∧ Below w.heap.size w wr) (fun i _ => ord.length - (intOf i).toNat)
  case atStart => exact ⟨0, _, Nat.zero_le _, rfl, hRB, hw6⟩
  case round =>
    clear hRB hw6
    obtain ⟨k, es, hk, rfl, hR, hb⟩ := hrel
    have hsz := hR.lt
    have q0 := hR.b0
    rw [← unhide Ho0] at q0
    have c0 := (box_cells q0).1
    have q1 := hR.b1
    rw [← unhide Ho1] at q1
    obtain ⟨c10, c11⟩ := box_cells q1
    have Hle := hide (fromK_le hG ord k)
    clear q0 q1
    by_cases hlt : k < ord.length
    · obtain ⟨b, off, rfl, hbB, hcx⟩ := (hO.below hb).at hlt
      have hxr := unhide Hrg _ (List.getElem_mem hlt)
      have Hok := hide (refsOkS_fields hG (unhide Hcl) (List.getElem_mem hlt))
      have HK : Hid (fromK g ord (k + 1) = noteL ord (k : Int) (fromK g ord k) (refsL (fieldsOf g ord[k]))) := by show _ = _; rw [fromK]; simp [hlt]
      generalize ord[k] = x at *
      obtain ⟨x, rfl⟩ := Int.eq_ofNat_of_zero_le hxr.1
      have hxN : x < g.objs.length := by omega
      have hxI : (x : Int) < (g.objs.length : Int) := by omega
      obtain ⟨b2, off2, ai, ci, rfl, hbB2, hcb, hva⟩ := (ho.below hb).at hxN
      have hfe : fieldsOf g (x : Int) = g.objs[x] := by simp [fieldsOf, hxN]
      rw [hfe] at Hok HK
      have hl4 := hG.n4 _ (List.getElem_mem hxN)
      clear hfe
      generalize g.objs[x] = fs at *
      go_wp2_with fail
      refine (note_c g.objs.length gb w.heap.size o0 o1 ord (unhide Hrg) hn24 (k : Int) ai ci fs (fromK g ord k) (4 * k) wr es hR hva (unhide Hok) (by omega) (unhide Hle) (by omega)).mono ?_
      rintro e wu ⟨rfl, ⟨es2, hR2⟩, hb2⟩
      go_wp2
      go_roundw
      case rel => exact ⟨k + 1, es2, by omega, by go_num, by rw [unhide HK]; exact hR2, hb.trans hb2⟩
      case measure => simp [intOf]; omega
    · obtain rfl : k = ord.length := by omega
      go_wp2_with fail
      refine (note_c g.objs.length gb w.heap.size o0 o1 ord (unhide Hrg) hn24 (ord.length : Int) ar cr g.roots (fromK g ord ord.length) (4 * ord.length) wr es hR (hr.below hb) (refsOkS_roots hG (unhide Hrt)) (by omega) (unhide Hle) (by omega)).mono ?_
      rintro e wu ⟨rfl, ⟨es2, hR2⟩, hb2⟩
      have HT : Hid (Tab wu.heap.size wu (some ⟨w.heap.size + 2, 0, none⟩) (fromL g ord)) := by
        refine hR2.tab (by omega) (fun q hq => ?_)
        have h1 := noteL_le ord (ord.length : Int) (refsL g.roots) (fromK g ord ord.length) (4 * ord.length) (unhide Hle) q hq
        have h2 := refsL_len g.roots
        omega
      have hcf := hR2.cf
      clear c0 c10 c11
      go_wp2
      go_ret
      exact ⟨rfl, unhide HT, hb.trans hb2⟩

end Go.Proofs.Ythpmckfgngkbhaa

/- Walks: Canon. -/
namespace Go.Proofs.Ythpmckfgngkbhaa
set_option linter.unusedSimpArgs false
set_option linter.unusedVariables false
open Go.RowKit

theorem Vals.setCell {B : Nat} {W : World} {a : Option Addr} {l : List V} (h : Vals B W a l) (p : Addr) (u : Value) (hp : ∀ b off, a = some ⟨b, off, none⟩ → b ≠ p.block) : Vals B (W.setCell p u) a l := by
  refine ⟨h.1, fun hne => ?_⟩
  obtain ⟨b, off, rfl, hB, hc⟩ := h.2 hne
  have hblk := Below.heap_setCell W p u b (hp b off rfl)
  refine ⟨b, off, rfl, hB, fun j v hj => ?_⟩
  rw [World.cell?_of_block (a := ⟨b, off + j * 2, none⟩) hblk, World.cell?_of_block (a := ⟨b, off + j * 2 + 1, none⟩) hblk]
  exact hc j v hj

end Go.Proofs.Ythpmckfgngkbhaa

/- Walks: Same; good, refused. -/
namespace Go.Proofs.Ythpmckfgngkbhaa
set_option linter.unusedSimpArgs false
set_option linter.unusedVariables false
open Go.RowKit

theorem Objs.below2 {B : Nat} {w w' : World} {a : Option Addr} {L : List (List V)} (h : Objs B w a L) (hb : Below B w w') (hs : B ≤ w.heap.size) : Objs w'.heap.size w' a L := (h.below hb).mono (Nat.le_trans hs hb.size)

set_option maxRecDepth 100000 in
set_option maxHeartbeats 400000 in
theorem good_c (ao ar : Option Addr) (co cr : Nat) (g : Gr) (B : Nat) (w : World) (ho : Objs B w ao g.objs) (hr : Vals B w ar g.roots) (hB : B ≤ w.heap.size) :
    Calls Try.prog 13 #[.agg #[.slice ao g.objs.length co, .slice ar g.roots.length cr]] w fun e w' => e = .returned (.bool (checkG g == 0)) ∧ Below w.heap.size w w' := by
  have hb1 := (Below.refl w.heap.size w).alloc (Nat.le_refl _) (.cells #[.slice ao g.objs.length co, .slice ar g.roots.length cr] 25)
  go_enter Try.func13, Try.ntmps13
  go_wp2_with (go_at_call 9; go_must (refine (graphCheck_c _ _ _ _ g B _ (ho.below (hb1.mono hB)) (hr.below (hb1.mono hB)) (by simp; omega)).mono ?_); rintro e w2 ⟨rfl, hb2⟩)
  go_ret
  exact ⟨rfl, hb1.trans (hb2.mono (by simp))⟩

set_option maxRecDepth 100000 in
set_option maxHeartbeats 400000 in
theorem refused_c (ao ar : Option Addr) (co cr : Nat) (g : Gr) (B : Nat) (w : World) (ho : Objs B w ao g.objs) (hr : Vals B w ar g.roots) (hB : B ≤ w.heap.size) :
    Calls Try.prog 18 #[.agg #[.slice ao g.objs.length co, .slice ar g.roots.length cr]] w fun e w' => e = .returned (.bool (checkG g != 0)) ∧ Below w.heap.size w w' := by
  have hb1 := (Below.refl w.heap.size w).alloc (Nat.le_refl _) (.cells #[.slice ao g.objs.length co, .slice ar g.roots.length cr] 25)
  go_enter Try.func18, Try.ntmps18
  go_wp2_with (go_at_call 24; go_must (refine (check_c _ _ _ _ g B _ (ho.below (hb1.mono hB)) (hr.below (hb1.mono hB)) (by simp; omega)).mono ?_); rintro e w2 ⟨rfl, hb2⟩)
  go_ret
  exact ⟨rfl, hb1.trans (hb2.mono (by simp))⟩

end Go.Proofs.Ythpmckfgngkbhaa

/- Walks: GraphLike. -/
namespace Go.Proofs.Ythpmckfgngkbhaa
set_option linter.unusedSimpArgs false
set_option linter.unusedVariables false
open Go.RowKit

/-- The value of a graph, as it lies in a variable. -/
def gv (ao : Option Addr) (co : Nat) (ar : Option Addr) (cr : Nat) (g : Gr) : Array Value := #[.slice ao g.objs.length co, .slice ar g.roots.length cr]

theorem checkG_beq {g : Gr} (h : checkG g = 0) : (checkG g == 0) = true := by simpa using h
theorem checkG_bne {g : Gr} (h : checkG g = 0) : (checkG g != 0) = false := by simpa using h
theorem checkG_beq' {g : Gr} (h : checkG g ≠ 0) : (checkG g == 0) = false := by simpa using h
theorem checkG_bne' {g : Gr} (h : checkG g ≠ 0) : (checkG g != 0) = true := by simpa using h

theorem like_boxes (ao ar bo br eo er : Option Addr) (aoc arc boc brc eoc erc : Nat) (a b c : Gr) (w : World) (hao : Objs w.heap.size w ao a.objs) (har : Vals w.heap.size w ar a.roots) (hbo : Objs w.heap.size w bo b.objs) (hbr : Vals w.heap.size w br b.roots) (hco : Objs w.heap.size w eo c.objs) (hcr : Vals w.heap.size w er c.roots) :
    ∀ W0, ((w.alloc (.cells #[.slice ao a.objs.length aoc, .slice ar a.roots.length arc] 25)).alloc (.cells #[.slice bo b.objs.length boc, .slice br b.roots.length brc] 25)).alloc (.cells #[.slice eo c.objs.length eoc, .slice er c.roots.length erc] 25) = W0 → W0.heap.size = w.heap.size + 3 ∧ Below w.heap.size w W0 ∧ (∀ X, Below (w.heap.size + 3) W0 X → X.cell? ⟨w.heap.size, 0, none⟩ = some (.slice ao a.objs.length aoc) ∧ X.cell? ⟨w.heap.size, 1, none⟩ = some (.slice ar a.roots.length arc) ∧ X.cell? ⟨w.heap.size + 1, 0, none⟩ = some (.slice bo b.objs.length boc) ∧ X.cell? ⟨w.heap.size + 1, 1, none⟩ = some (.slice br b.roots.length brc) ∧ X.cell? ⟨w.heap.size + 1 + 1, 0, none⟩ = some (.slice eo c.objs.length eoc) ∧ X.cell? ⟨w.heap.size + 1 + 1, 1, none⟩ = some (.slice er c.roots.length erc)) := by
  intro W0 h
  refine ⟨by rw [← h]; simp, by rw [← h]; exact (((Below.refl _ _).alloc (Nat.le_refl _) _).alloc (by simp) _).alloc (by simp; omega) _, fun X hX => ?_⟩
  refine ⟨?_, ?_, ?_, ?_, ?_, ?_⟩
  · rw [hX.cell (p := ⟨w.heap.size, 0, none⟩) (by simp), ← h]; simp [go_sem]
  · rw [hX.cell (p := ⟨w.heap.size, 1, none⟩) (by simp), ← h]; simp [go_sem]
  · rw [hX.cell (p := ⟨w.heap.size + 1, 0, none⟩) (by simp), ← h]; simp [go_sem]
  · rw [hX.cell (p := ⟨w.heap.size + 1, 1, none⟩) (by simp), ← h]; simp [go_sem]
  · rw [hX.cell (p := ⟨w.heap.size + 1 + 1, 0, none⟩) (by simp), ← h]; simp [go_sem]
  · rw [hX.cell (p := ⟨w.heap.size + 1 + 1, 1, none⟩) (by simp), ← h]; simp [go_sem]

theorem sameG_iff (g h : Gr) : sameG g h = true ↔ g = h := by
  cases g; cases h
  simp [sameG, and_comm]
theorem sameG_self (g : Gr) : sameG g g = true := (sameG_iff g g).2 rfl
theorem sameG_comm (g h : Gr) : sameG g h = sameG h g := by
  rw [Bool.eq_iff_iff, sameG_iff, sameG_iff]; exact eq_comm

end Go.Proofs.Ythpmckfgngkbhaa

/- Walks: lists of numbers: Ints, rising, within, inside. -/
namespace Go.Proofs.Ythpmckfgngkbhaa
set_option linter.unusedSimpArgs false
set_option linter.unusedVariables false
open Go.RowKit

set_option maxRecDepth 100000 in
set_option maxHeartbeats 1000000 in
theorem ints_eq_c (a1 a2 : Option Addr) (c1 c2 : Nat) (l1 l2 : List Int) (B : Nat) (w : World) (h1 : Ints B w a1 l1) (h2 : Ints B w a2 l2) (hB : B ≤ w.heap.size) :
    Calls Try.prog 10 #[.slice a1 l1.length c1, .slice a2 l2.length c2] w fun e w' => e = .returned (.bool (decide (l1 = l2))) ∧ Below w.heap.size w w' := by
  have hl1 := h1.1
  have hl2 := h2.1
  by_cases hl : l1.length = l2.length
  · have d1 : ((l1.length : Int) != (l2.length : Int)) = false := by simp [hl]
    have d2 : ((l2.length : Int) != (l2.length : Int)) = false := by simp
    rw [hl]
    have Hl := hide hl
    have hle : l1.length ≤ l2.length := by omega
    have hge : l2.length ≤ l1.length := by omega
    clear hl
    go_enter Try.func10, Try.ntmps10
    go_wp2
    go_loopw [5] (fun i wr => ∃ k : Nat, k ≤ l2.length ∧ i = .int .i64 k ∧ Hid (l1.take k = l2.take k) ∧ Below w.heap.size w wr) (fun i _ => l2.length - (intOf i).toNat)
    case atStart => exact ⟨0, Nat.zero_le _, rfl, by show l1.take 0 = l2.take 0; simp, Below.refl _ _⟩
    case round =>
      obtain ⟨k, hk, rfl, Heq, hb⟩ := hrel
      by_cases hlt : k < l2.length
      · have hlt1 : k < l1.length := by omega
        obtain ⟨b1, o1, rfl, hbB1, hx1⟩ := (h1.below (hb.mono hB)).at hlt1
        obtain ⟨b2, o2, rfl, hbB2, hx2⟩ := (h2.below (hb.mono hB)).at hlt
        have hltI : (k : Int) < (l2.length : Int) := by omega
        have HT1 := hide (List.take_succ_eq_append_getElem hlt1)
        have HT2 := hide (List.take_succ_eq_append_getElem hlt)
        have HN : Hid (l1 = l2 → l1[k] = l2[k]) := by intro e; subst e; rfl
        generalize l1[k] = x at *
        generalize l2[k] = y at *
        by_cases hxy : x = y
        · have d : (x != y) = false := by simpa using hxy
          have Hxy := hide hxy
          clear hxy
          go_wp2
          go_still Try.mixed
          go_wp2
          go_roundw
          case rel => exact ⟨k + 1, by omega, by go_num, by show l1.take (k + 1) = _; rw [unhide HT1, unhide HT2, unhide Heq, unhide Hxy], hb.trans (Below.refl _ _).drew⟩
          case measure => simp [intOf]; omega
        · have d : (x != y) = true := by simpa using hxy
          have Hxy := hide hxy
          clear hxy
          go_wp2
          go_still Try.mixed
          go_wp2
          go_ret
          exact ⟨ret_bool (Eq.symm (decide_eq_false (fun e => unhide Hxy (unhide HN e)))), hb.trans (Below.refl _ _).drew⟩
      · obtain rfl : k = l2.length := by omega
        have Hfin : Hid (l1 = l2) := by
          have := unhide Heq
          rw [List.take_length, List.take_of_length_le hle] at this
          exact this
        go_wp2
        go_ret
        exact ⟨ret_bool (Eq.symm (decide_eq_true (unhide Hfin))), hb⟩
  · have d1 : ((l1.length : Int) != (l2.length : Int)) = true := by simp; omega
    go_enter Try.func10, Try.ntmps10
    go_wp2
    go_ret
    exact ⟨ret_bool (Eq.symm (decide_eq_false (fun e => hl (by rw [e])))), Below.refl _ _⟩

/-- A list that rises, strictly. -/
def risingL (l : List Int) : Bool := (List.range (l.length - 1)).all fun k => decide (l.getD k 0 < l.getD (k + 1) 0)

set_option maxRecDepth 100000 in
set_option maxHeartbeats 1000000 in
theorem rising_c (a : Option Addr) (c : Nat) (l : List Int) (B : Nat) (w : World) (h : Ints B w a l) (hB : B ≤ w.heap.size) (hr : ∀ (i j : Nat) (x y : Int), i + 1 = j → l[i]? = some x → l[j]? = some y → x < y) :
    Calls Try.prog 16 #[.slice a l.length c] w fun e w' => e = .returned (.bool true) ∧ Below w.heap.size w w' := by
  have hl := h.1
  go_enter Try.func16, Try.ntmps16
  go_wp2
  go_loopw [3] (fun i wr => ∃ m : Nat, i = .int .i64 m ∧ 1 ≤ m ∧ Below w.heap.size w wr) (fun i _ => l.length + 1 - (intOf i).toNat)
  case atStart => exact ⟨1, by go_num, Nat.le_refl _, Below.refl _ _⟩
  case round =>
    obtain ⟨m, rfl, hm, hb⟩ := hrel
    by_cases hlt : m < l.length
    · obtain ⟨k, Hk⟩ : ∃ k, Hid (k + 1 = m) := ⟨m - 1, by show m - 1 + 1 = m; omega⟩
      have hlt0 : k < l.length := by have := unhide Hk; omega
      obtain ⟨b1, o1, rfl, hbB1, hx1⟩ := (h.below (hb.mono hB)).at hlt0
      obtain ⟨b2, o2, e2, hbB2, hx2⟩ := (h.below (hb.mono hB)).at hlt
      injection e2 with e2
      injection e2 with e3 e4
      subst e3 e4
      have hxy := hr k m _ _ (unhide Hk) (List.getElem?_eq_getElem hlt0) (List.getElem?_eq_getElem hlt)
      have hltI : (m : Int) < (l.length : Int) := by omega
      have hltI0 : (k : Int) < (l.length : Int) := by omega
      generalize l[k] = x at *
      generalize l[m] = y at *
      have d : decide (x ≥ y) = false := by simp; omega
      have d' : decide (y ≤ x) = false := by simp; omega
      have w2 : IntKind.i64.wrap ((m : Int) - 1) = (k : Int) := by have := unhide Hk; rw [IntKind.wrap_i64]; omega
      go_wp2
      go_still Try.mixed
      go_wp2
      go_roundw
      case rel => exact ⟨m + 1, by go_num, by omega, hb.trans (Below.refl _ _).drew⟩
      case measure => simp [intOf]; omega
    · have hltI : ¬ ((m : Int) < (l.length : Int)) := by omega
      go_wp2
      go_ret
      exact ⟨rfl, hb⟩

set_option maxRecDepth 100000 in
set_option maxHeartbeats 1000000 in
theorem inside_c (a1 a2 : Option Addr) (c1 c2 : Nat) (l1 l2 : List Int) (B : Nat) (w : World) (h1 : Ints B w a1 l1) (h2 : Ints B w a2 l2) (hr : ∀ x ∈ l1, x ∈ l2) :
    Calls Try.prog 20 #[.slice a1 l1.length c1, .slice a2 l2.length c2] w fun e w' => e = .returned (.bool true) ∧ w' = w := by
  have hl := h1.1
  go_enter Try.func20, Try.ntmps20
  go_wp2
  go_loop [9] (fun i => ∃ k : Nat, k ≤ l1.length ∧ i = .int .i64 k) (fun i => l1.length - (intOf i).toNat)
  case atStart => exact ⟨0, Nat.zero_le _, rfl⟩
  case round =>
    obtain ⟨k, hk, rfl⟩ := hrel
    by_cases hlt : k < l1.length
    · obtain ⟨b, off, rfl, hbB, hc⟩ := h1.at hlt
      have Hx := hide (hr _ (List.getElem_mem hlt))
      generalize l1[k] = y at *
      go_wp2_with (go_at_call 17; go_must (refine (has_c _ _ l2 y B _ h2).mono ?_); go_must (rintro e w3 ⟨he, hw3⟩; rw [decide_eq_true (unhide Hx)] at he; subst he; have hw3 := hw3.symm; subst hw3))
      go_round
      case rel => exact ⟨k + 1, by omega, by go_num⟩
      case measure => simp [intOf]; omega
    · obtain rfl : k = l1.length := by omega
      go_wp2
      go_ret
      exact ⟨rfl, rfl⟩

end Go.Proofs.Ythpmckfgngkbhaa

/- Walks: Reach. -/
namespace Go.Proofs.Ythpmckfgngkbhaa
open Go.Shelf
def Try.laysSort_ren : Go.Shelf.Ren := ⟨fun | 189 => 32 | 125 => 46 | 257 => 45 | 128 => 62 | 129 => 63 | 294 => 53 | 295 => 54 | 296 => 55 | 297 => 56 | 298 => 57 | 299 => 58 | 216 => 59 | 300 => 60 | 301 => 61 | 328 => 65 | 329 => 66 | 330 => 67 | 331 => 68 | 332 => 69 | 215 => 70 | 343 => 71 | n => n, fun | 28 => 26 | 3 => 3 | 46 => 79 | 0 => 0 | 51 => 94 | 53 => 96 | 4 => 4 | 183 => 87 | 182 => 86 | 131 => 75 | 5 => 5 | 9 => 9 | 218 => 98 | 222 => 102 | 228 => 104 | 229 => 105 | n => n, fun | n => n⟩
theorem Try.laysSort : Go.Proofs.Lays.n189 Try.prog Try.laysSort_ren := {
  mixed := by kernel_rfl
  f125 := Try.func46.trans (congrArg some (by kernel_rfl))
  f128 := Try.func62.trans (congrArg some (by kernel_rfl))
  f129 := Try.func63.trans (congrArg some (by kernel_rfl))
  f189 := Try.func32.trans (congrArg some (by kernel_rfl))
  f215 := Try.func70.trans (congrArg some (by kernel_rfl))
  f216 := Try.func59.trans (congrArg some (by kernel_rfl))
  f257 := Try.func45.trans (congrArg some (by kernel_rfl))
  f294 := Try.func53.trans (congrArg some (by kernel_rfl))
  f295 := Try.func54.trans (congrArg some (by kernel_rfl))
  f296 := Try.func55.trans (congrArg some (by kernel_rfl))
  f297 := Try.func56.trans (congrArg some (by kernel_rfl))
  f298 := Try.func57.trans (congrArg some (by kernel_rfl))
  f299 := Try.func58.trans (congrArg some (by kernel_rfl))
  f300 := Try.func60.trans (congrArg some (by kernel_rfl))
  f301 := Try.func61.trans (congrArg some (by kernel_rfl))
  f328 := Try.func65.trans (congrArg some (by kernel_rfl))
  f329 := Try.func66.trans (congrArg some (by kernel_rfl))
  f330 := Try.func67.trans (congrArg some (by kernel_rfl))
  f331 := Try.func68.trans (congrArg some (by kernel_rfl))
  f332 := Try.func69.trans (congrArg some (by kernel_rfl))
  f343 := Try.func71.trans (congrArg some (by kernel_rfl))
  t0 := Try.underlying0
  a0 := Try.isAgg0
  z0 := Try.sizeOf0
  v0 := Try.zeroValue0
  t3 := Try.underlying3
  a3 := Try.isAgg3
  z3 := Try.sizeOf3
  v3 := Try.zeroValue3
  t4 := Try.underlying4
  a4 := Try.isAgg4
  z4 := Try.sizeOf4
  v4 := Try.zeroValue4
  t5 := Try.underlying5
  a5 := Try.isAgg5
  z5 := Try.sizeOf5
  v5 := Try.zeroValue5
  t9 := Try.underlying9
  a9 := Try.isAgg9
  z9 := Try.sizeOf9
  v9 := Try.zeroValue9
  t28 := Try.underlying26
  a28 := Try.isAgg26
  z28 := Try.sizeOf26
  v28 := Try.zeroValue26
  t46 := Try.underlying79
  a46 := Try.isAgg79
  z46 := Try.sizeOf79
  v46 := Try.zeroValue79
  t51 := Try.underlying94
  a51 := Try.isAgg94
  z51 := Try.sizeOf94
  v51 := Try.zeroValue94
  t53 := Try.underlying96
  a53 := Try.isAgg96
  z53 := Try.sizeOf96
  v53 := Try.zeroValue96
  t131 := Try.underlying75
  a131 := Try.isAgg75
  z131 := Try.sizeOf75
  v131 := Try.zeroValue75
  t182 := Try.underlying86
  a182 := Try.isAgg86
  z182 := Try.sizeOf86
  v182 := Try.zeroValue86
  t183 := Try.underlying87
  a183 := Try.isAgg87
  z183 := Try.sizeOf87
  v183 := Try.zeroValue87
  t218 := Try.underlying98
  a218 := Try.isAgg98
  z218 := Try.sizeOf98
  v218 := Try.zeroValue98
  t222 := Try.underlying102
  a222 := Try.isAgg102
  z222 := Try.sizeOf102
  v222 := Try.zeroValue102
  t228 := Try.underlying104
  a228 := Try.isAgg104
  z228 := Try.sizeOf104
  v228 := Try.zeroValue104
  t229 := Try.underlying105
  a229 := Try.isAgg105
  z229 := Try.sizeOf105
  v229 := Try.zeroValue105 }
end Go.Proofs.Ythpmckfgngkbhaa
namespace Go.Proofs.Ythpmckfgngkbhaa
set_option linter.unusedSimpArgs false
set_option linter.unusedVariables false
open Go.RowKit

theorem sort_c (v : Value) (base : Nat) (l : List Int) (w : World) (h : w.ownsRow base 3 1 v l.length (intsV l)) (hl : l.length ≤ 1000) :
    Calls Try.prog 32 #[v] w fun e w' => e = .returned (.tuple #[]) ∧ w'.ownsRow base 3 1 v l.length (intsV (sortL l)) ∧ w.grownBy w' v.ownBlock := by
  rcases h.2 with ⟨rfl, h0⟩ | ⟨g, cap, cur, rfl, hb, hg, hc1, hc2, hc3, htake⟩
  · have e : l = [] := List.eq_nil_of_length_eq_zero h0
    subst e
    refine (Any.slices_Sort_int_none Try.laysSort none 0 w).mono ?_
    rintro e w' ⟨rfl, rfl⟩
    exact ⟨rfl, by rw [show sortL [] = [] by simp [sortL]]; exact h, ⟨rfl, rfl, rfl, Nat.le_refl _, fun _ _ _ => rfl⟩⟩
  · refine (Any.slices_Sort_int Try.laysSort g 0 cap l w (holds_of_blockI hg (by rw [Nat.mul_one] at htake; exact htake)) (Array.getElem?_eq_some_iff.1 hg).1 (by omega)).mono ?_
    rintro e w' ⟨rfl, n, os, rfl⟩
    exact ⟨rfl, ownsRow_sortedI (sortL_len l) hb hg hc1 hc2 hc3, grownBy_sortedI _⟩

set_option maxRecDepth 100000 in
set_option maxHeartbeats 400000 in
theorem reach_bad (ao ar : Option Addr) (co cr : Nat) (g : Gr) (B : Nat) (w : World) (ho : Objs B w ao g.objs) (hr : Vals B w ar g.roots) (hB : B ≤ w.heap.size) (hc : checkG g ≠ 0) :
    Calls Try.prog 14 #[.agg #[.slice ao g.objs.length co, .slice ar g.roots.length cr]] w fun e w' => e = .returned (.tuple #[.slice none 0 0, .int .i64 (checkG g)]) ∧ Below w.heap.size w w' := by
  have hd : (checkG g != 0) = true := by simpa using hc
  clear hc
  have hb1 := (Below.refl w.heap.size w).alloc (Nat.le_refl _) (.cells #[.slice ao g.objs.length co, .slice ar g.roots.length cr] 25)
  go_enter Try.func14, Try.ntmps14
  go_wp2_with (go_at_call 24; go_must (refine (check_c _ _ _ _ g B _ (ho.below (hb1.mono hB)) (hr.below (hb1.mono hB)) (by simp; omega)).mono ?_); go_must (rintro e w2 ⟨rfl, hb2⟩))
  go_ret2
  exact ⟨rfl, hb1.trans (hb2.mono (by simp))⟩

set_option maxRecDepth 100000 in
set_option maxHeartbeats 1000000 in
theorem reach_ok (ao ar : Option Addr) (co cr : Nat) (g : Gr) (B : Nat) (w : World) (ho : Objs B w ao g.objs) (hr : Vals B w ar g.roots) (hB : B ≤ w.heap.size) (hc : checkG g = 0) :
    Calls Try.prog 14 #[.agg #[.slice ao g.objs.length co, .slice ar g.roots.length cr]] w fun e w' => ∃ a cap, e = .returned (.tuple #[.slice a (sortL (orderOf g)).length cap, .int .i64 0]) ∧ Ints w'.heap.size w' a (sortL (orderOf g)) ∧ Below w.heap.size w w' := by
  have hG := good_of_check hc
  have Hcc := hide hc
  clear hc
  have hb1 := (Below.refl w.heap.size w).alloc (Nat.le_refl _) (.cells #[.slice ao g.objs.length co, .slice ar g.roots.length cr] 25)
  go_enter Try.func14, Try.ntmps14
  go_wp2_with fail
  refine (check_c _ _ _ _ g B _ (ho.below (hb1.mono hB)) (hr.below (hb1.mono hB)) (by simp; omega)).mono ?_
  rintro e w2 ⟨he, hb2⟩
  rw [unhide Hcc] at he
  subst he
  simp only [World.size_alloc] at hb2
  have g0 := hb2.cell (p := ⟨w.heap.size, 0, none⟩) (by simp)
  have g1 := hb2.cell (p := ⟨w.heap.size, 1, none⟩) (by simp)
  simp [go_sem] at g0 g1
  have hs2 := hb2.size
  simp at hs2
  have hbw2 : Below w.heap.size w w2 := hb1.trans (hb2.mono (by omega))
  clear hb1 hb2
  go_wp2_with fail
  refine (search_c _ _ _ _ g B _ (ho.below (hbw2.mono hB)) (hr.below (hbw2.mono hB)) (by omega) hG).mono ?_
  rintro e w3 ⟨vo, vd, D, mb, rfl, hmb, hF, hb3⟩
  have hbw3 : Below w.heap.size w w3 := hbw2.trans (hb3.mono (by omega))
  obtain ⟨oa, oc, rfl⟩ := ownsRow_slice hF.ord
  obtain ⟨da, dc, rfl⟩ := ownsRow_slice hF.dis
  have hlen := (searchN_ok hG g.objs.length).le
  have hn24 := hG.n24
  have hord : w3.ownsRow (mb + 2) 3 1 (.slice oa (orderOf g).length oc) (orderOf g).length (intsV (orderOf g)) := hF.ord
  have hol : (orderOf g).length ≤ 24 := by unfold orderOf; omega
  clear hF
  have HO : Hid ((searchN g g.objs.length).1 = orderOf g) := rfl
  have hfd : ∀ (n1 n2 : Nat) (w : World), (Instr.field 58 (.agg #[.slice oa n1 oc, .slice da n2 dc, .map (some mb)]) 0).run Try.prog w = .ok (.slice oa n1 oc) w := fun _ _ _ => by kernel_rfl
  go_wp2_with (go_at_call 32; go_must (refine (sort_c _ (mb + 2) (orderOf g) _ hord (by omega)).mono ?_); go_must (rintro e w4 ⟨rfl, hord4, hg4⟩))
  have hs2' := hbw2.size
  have hb4 : Below w.heap.size w w4 := hbw3.grown hg4 hbw3.size (fun k e => by have := (hord.lt k e).1; omega)
  rw [← sortL_len (orderOf g)] at hord4
  obtain ⟨a4, c4, hv4, hI4, _⟩ := ints_of_owns hord4 rfl (by rw [sortL_len]; omega)
  injection hv4 with e1 _ e3
  subst e1 e3
  go_ret2
  exact ⟨_, _, by rw [sortL_len]; rfl, hI4, hb4⟩

end Go.Proofs.Ythpmckfgngkbhaa

/- Walks. -/
namespace Go.Proofs.Ythpmckfgngkbhaa
set_option linter.unusedSimpArgs false
set_option linter.unusedVariables false
open Go.RowKit

set_option maxHeartbeats 400000 in
theorem refers_c (a : Option Addr) (cap : Nat) (l : List V) (j : Int) (B : Nat) (w : World) (hl : Vals B w a l) (hB : B ≤ w.heap.size) :
    Calls Try.prog 47 #[.slice a l.length cap, .int .i64 j] w fun e w' => e = .returned (.bool (refers l j)) ∧ Below B w w' := by
  have hlen := hl.1
  go_enter Try.func47, Try.ntmps47
  go_wp2
  go_loopw [9] (fun i wr => ∃ k : Nat, k ≤ l.length ∧ i = .int .i64 k ∧ refers (l.take k) j = false ∧ Below B w wr) (fun i _ => l.length - (intOf i).toNat)
  case atStart => exact ⟨0, Nat.zero_le _, rfl, by simp [refers], Below.refl _ _⟩
  case round =>
    obtain ⟨k, hk, rfl, hno, hb⟩ := hrel
    by_cases hlt : k < l.length
    · obtain ⟨b, off, r, n, rfl, hbB, hc1, hc2, Hv⟩ := (hl.below hb).at hlt
      have HT := hide (refers_take (j := j) hlt Hv.out)
      cases r
      · go_wp2
        go_roundw
        case rel => exact ⟨k + 1, by omega, by go_num, by rw [unhide HT, hno]; rfl, hb.alloc (by have := hb.size; omega) _⟩
        case measure => simp [intOf]; omega
      · by_cases hj : n = j
        · have hj' : (n == j) = true := by simp [hj]
          go_wp2
          go_ret
          exact ⟨ret_bool (refers_of_take (k := k + 1) (by rw [unhide HT, hno]; simpa using hj)).symm, hb.alloc (by have := hb.size; omega) _⟩
        · have hj' : (n == j) = false := by simp [hj]
          go_wp2
          go_roundw
          case rel => exact ⟨k + 1, by omega, by go_num, by rw [unhide HT, hno]; simpa using hj, hb.alloc (by have := hb.size; omega) _⟩
          case measure => simp [intOf]; omega
    · go_wp2
      go_ret
      exact ⟨ret_bool (by rw [List.take_of_length_le (by omega)] at hno; exact hno.symm), hb⟩

end Go.Proofs.Ythpmckfgngkbhaa

/- How far objects are: plain facts. -/
namespace Go.Proofs.Ythpmckfgngkbhaa
set_option linter.unusedSimpArgs false
set_option linter.unusedVariables false

/-- The best of what stands before the first k. -/
def bestK (D : Nat → Int) (R : Nat → Bool) : Nat → Int
  | 0 => -1
  | i + 1 => if 0 ≤ D i ∧ R i = true ∧ (bestK D R i < 0 ∨ D i + 1 < bestK D R i) then D i + 1 else bestK D R i

theorem bestK_spec (D : Nat → Int) (R : Nat → Bool) : ∀ k, (bestK D R k = -1 ∧ ∀ i, i < k → ¬ (0 ≤ D i ∧ R i = true)) ∨ (∃ i, i < k ∧ 0 ≤ D i ∧ R i = true ∧ bestK D R k = D i + 1 ∧ ∀ i', i' < k → 0 ≤ D i' → R i' = true → D i ≤ D i')
  | 0 => .inl ⟨rfl, fun i h => by omega⟩
  | k + 1 => by
    have ih := bestK_spec D R k
    by_cases hc : 0 ≤ D k ∧ R k = true
    · rcases ih with ⟨h1, h2⟩ | ⟨i, h1, h2, h3, h4, h5⟩
      · refine .inr ⟨k, by omega, hc.1, hc.2, ?_, ?_⟩
        · show (if _ then _ else _) = _
          rw [if_pos ⟨hc.1, hc.2, .inl (by omega)⟩]
        · intro i' hi' h0 hr
          by_cases e : i' = k
          · subst e; omega
          · exact absurd ⟨h0, hr⟩ (h2 i' (by omega))
      · by_cases hb : D k + 1 < bestK D R k
        · refine .inr ⟨k, by omega, hc.1, hc.2, ?_, ?_⟩
          · show (if _ then _ else _) = _
            rw [if_pos ⟨hc.1, hc.2, .inr hb⟩]
          · intro i' hi' h0 hr
            by_cases e : i' = k
            · subst e; omega
            · have := h5 i' (by omega) h0 hr; omega
        · refine .inr ⟨i, by omega, h2, h3, ?_, ?_⟩
          · show (if _ then _ else _) = _
            rw [if_neg (by rintro ⟨_, _, h | h⟩ <;> omega)]; exact h4
          · intro i' hi' h0 hr
            by_cases e : i' = k
            · subst e; omega
            · exact h5 i' (by omega) h0 hr
    · have e : bestK D R (k + 1) = bestK D R k := by
        show (if _ then _ else _) = _
        rw [if_neg (fun h => hc ⟨h.1, h.2.1⟩)]
      rw [e]
      rcases ih with ⟨h1, h2⟩ | ⟨i, h1, h2, h3, h4, h5⟩
      · refine .inl ⟨h1, fun i hi => ?_⟩
        by_cases e : i = k
        · subst e; exact hc
        · exact h2 i (by omega)
      · refine .inr ⟨i, by omega, h2, h3, h4, fun i' hi' h0 hr => ?_⟩
        by_cases e : i' = k
        · subst e; exact absurd ⟨h0, hr⟩ hc
        · exact h5 i' (by omega) h0 hr

theorem idx_of {l : List Int} (h : l.Nodup) {m : Nat} {o : Int} (hm : l[m]? = some o) : l.idxOf o = m := by
  obtain ⟨hlt, rfl⟩ := List.getElem?_eq_some_iff.1 hm
  have h1 : l.idxOf l[m] < l.length := List.idxOf_lt_length_iff.2 (List.getElem_mem hlt)
  have h2 := List.getElem_idxOf h1
  rw [List.nodup_iff_pairwise_ne, List.pairwise_iff_getElem] at h
  rcases Nat.lt_trichotomy (l.idxOf l[m]) m with h3 | h3 | h3
  · exact absurd h2 (h _ _ h1 hlt h3)
  · exact h3
  · exact absurd h2.symm (h _ _ hlt h1 h3)

theorem distAt_of {g : Gr} (h : Good g) {m : Nat} {o d : Int} (hm : (orderOf g)[m]? = some o) (hd : (distOf g)[m]? = some d) : distAt g o = d := by
  unfold distAt
  rw [if_pos (List.mem_of_getElem? hm), idx_of (order_nodup h) hm, hd]; rfl

theorem distAt_mem {g : Gr} (h : Good g) {o : Int} (ho : o ∈ orderOf g) : ∃ (m : Nat) (d : Int), (orderOf g)[m]? = some o ∧ (distOf g)[m]? = some d ∧ distAt g o = d ∧ 0 ≤ d ∧ d ≤ m := by
  obtain ⟨m, hm, rfl⟩ := List.getElem_of_mem ho
  have hok := searchN_ok h g.objs.length
  have hm2 : m < (distOf g).length := by rw [show (distOf g).length = (orderOf g).length from hok.len]; exact hm
  have h1 := List.getElem?_eq_getElem hm
  have h2 := List.getElem?_eq_getElem hm2
  have h3 := hok.pos m _ h2
  exact ⟨m, _, h1, h2, distAt_of h h1 h2, h3.1, h3.2⟩

theorem distAt_nonneg {g : Gr} (h : Good g) (o : Int) : 0 ≤ distAt g o ↔ o ∈ orderOf g := by
  constructor
  · intro h0
    unfold distAt at h0
    split at h0
    · assumption
    · omega
  · intro ho
    obtain ⟨_, d, _, _, e, h0, _⟩ := distAt_mem h ho
    omega

theorem distAt_bounds {g : Gr} (h : Good g) (o : Int) : -1 ≤ distAt g o ∧ distAt g o ≤ 24 := by
  by_cases ho : o ∈ orderOf g
  · obtain ⟨m, d, h1, _, e, h0, h2⟩ := distAt_mem h ho
    have := (List.getElem?_eq_some_iff.1 h1).1
    have := (searchN_ok h g.objs.length).le
    have := h.n24
    unfold orderOf at *
    omega
  · unfold distAt
    rw [if_neg ho]; omega

/-- An object is as far as one more than the nearest that refers to it. -/
theorem steps_eq {g : Gr} (h : Good g) {j : Nat} (hj : j < g.objs.length) :
    distAt g (j : Int) = if refers g.roots (j : Int) = true then 0 else bestK (fun i => distAt g (i : Int)) (fun i => refers (fieldsOf g (i : Int)) (j : Int)) g.objs.length := by
  have hB := bfs g g.objs.length
  have hR := refers_iff h.refsRoots (j : Int)
  have hF : ∀ (i : Nat), i < g.objs.length → (refers (fieldsOf g (i : Int)) (j : Int) = true ↔ (j : Int) ∈ refsL (fieldsOf g (i : Int))) := fun i hi => refers_iff (h.refsObjs (fieldsOf_mem (by omega) (by omega))) _
  have hlen := (searchN_ok h g.objs.length).le
  by_cases hjo : (j : Int) ∈ orderOf g
  · obtain ⟨p, dp, hp, hd, e, h0, _⟩ := distAt_mem h hjo
    rw [e]
    rcases hB.cause p (j : Int) dp hp hd with ⟨h1, h2⟩ | ⟨h1, m, om, dm, hm, h2, h3, h4, h5, h6⟩
    · rw [if_pos (hR.2 h1)]; exact h2
    · rw [if_neg (fun hh => h1 (hR.1 hh))]
      have hom : om ∈ orderOf g := List.mem_of_getElem? h2
      have hor := order_ok h hom
      obtain ⟨om, rfl⟩ := Int.eq_ofNat_of_zero_le hor.1
      have hdm := distAt_of h h2 h3
      have hdm0 := (distAt_nonneg h (om : Int)).2 hom
      rcases bestK_spec (fun i => distAt g (i : Int)) (fun i => refers (fieldsOf g (i : Int)) (j : Int)) g.objs.length with ⟨_, hno⟩ | ⟨i, hi, b1, b2, b3, b4⟩
      · exact absurd ⟨hdm0, (hF om (by omega)).2 h4⟩ (hno om (by omega))
      · rw [b3]
        have hle := b4 om (by omega) hdm0 ((hF om (by omega)).2 h4)
        have hio := (distAt_nonneg h (i : Int)).1 b1
        obtain ⟨q, dq, hq, hdq, eq, _, _⟩ := distAt_mem h hio
        have hji := (hF i hi).1 b2
        have hmq : m ≤ q := by
          rcases Nat.lt_or_ge q m with hlt | hge
          · exact absurd hji (h6 q (i : Int) hlt hq)
          · exact hge
        have := hB.mono m q dm dq hmq h3 hdq
        omega
  · have e : distAt g (j : Int) = -1 := by unfold distAt; rw [if_neg hjo]
    rw [e, if_neg (fun hh => hjo (order_roots g _ (hR.1 hh)))]
    rcases bestK_spec (fun i => distAt g (i : Int)) (fun i => refers (fieldsOf g (i : Int)) (j : Int)) g.objs.length with ⟨h1, _⟩ | ⟨i, hi, b1, b2, _, _⟩
    · exact h1.symm
    · exact absurd (order_closed h ((distAt_nonneg h (i : Int)).1 b1) _ ((hF i hi).1 b2)) hjo

theorem bestK_bounds {D : Nat → Int} {R : Nat → Bool} (hD : ∀ i, -1 ≤ D i ∧ D i ≤ 24) (k : Nat) : -1 ≤ bestK D R k ∧ bestK D R k ≤ 25 := by
  rcases bestK_spec D R k with ⟨h1, _⟩ | ⟨i, _, h2, _, h3, _⟩
  · omega
  · have := hD i; omega

end Go.Proofs.Ythpmckfgngkbhaa

/- How far objects are, level by level: plain facts. -/
namespace Go.Proofs.Ythpmckfgngkbhaa
set_option linter.unusedSimpArgs false
set_option linter.unusedVariables false

/-- What is known behind s levels. -/
def lev (D : Nat → Int) (s j : Nat) : Int := if 0 ≤ D j ∧ D j ≤ (s : Int) then D j else -1
/-- One of the first i that stand at level s refers to j. -/
def hit (D : Nat → Int) (R : Nat → Nat → Bool) (s i j : Nat) : Bool := (List.range i).any fun i' => decide (D i' = (s : Int)) && R i' j
def mid (D : Nat → Int) (R : Nat → Nat → Bool) (s i j : Nat) : Int := if 0 ≤ lev D s j then lev D s j else if hit D R s i j = true then (s : Int) + 1 else -1

theorem hit_succ (D : Nat → Int) (R : Nat → Nat → Bool) (s i j : Nat) : hit D R s (i + 1) j = (hit D R s i j || (decide (D i = (s : Int)) && R i j)) := by
  unfold hit; rw [List.range_succ, List.any_append]; simp

theorem hit_iff (D : Nat → Int) (R : Nat → Nat → Bool) (s i j : Nat) : hit D R s i j = true ↔ ∃ i', i' < i ∧ D i' = (s : Int) ∧ R i' j = true := by
  unfold hit; simp [List.any_eq_true]

theorem lev_cases (D : Nat → Int) (s j : Nat) : (0 ≤ lev D s j ∧ lev D s j = D j ∧ D j ≤ (s : Int)) ∨ (lev D s j = -1 ∧ ¬ (0 ≤ D j ∧ D j ≤ (s : Int))) := by
  unfold lev; split
  · left; omega
  · right; omega

theorem mid_zero (D : Nat → Int) (R : Nat → Nat → Bool) (s j : Nat) : mid D R s 0 j = lev D s j := by
  unfold mid
  rcases lev_cases D s j with ⟨h, _, _⟩ | ⟨h, _⟩
  · rw [if_pos h]
  · rw [if_neg (by omega), if_neg (by simp [hit]), h]

theorem mid_skip {D : Nat → Int} {R : Nat → Nat → Bool} {s i j : Nat} (h : D i ≠ (s : Int)) : mid D R s (i + 1) j = mid D R s i j := by
  unfold mid; rw [hit_succ]; simp [h]

theorem mid_set {D : Nat → Int} {R : Nat → Nat → Bool} {s i j : Nat} (h1 : mid D R s i j < 0) (h2 : D i = (s : Int)) (h3 : R i j = true) : mid D R s (i + 1) j = (s : Int) + 1 := by
  unfold mid at *
  rcases lev_cases D s j with ⟨h, _, _⟩ | ⟨h, _⟩
  · rw [if_pos h] at h1; omega
  · rw [if_neg (by omega), if_pos (by rw [hit_succ]; simp [h2, h3])]

theorem mid_keep {D : Nat → Int} {R : Nat → Nat → Bool} {s i j : Nat} (h : 0 ≤ mid D R s i j ∨ R i j = false) : mid D R s (i + 1) j = mid D R s i j := by
  unfold mid at *
  rcases lev_cases D s j with ⟨h0, _, _⟩ | ⟨h0, _⟩
  · rw [if_pos h0, if_pos h0]
  · have hn : ¬ 0 ≤ lev D s j := by omega
    simp only [if_neg hn] at h ⊢
    rcases h with h | h
    · by_cases hh : hit D R s i j = true
      · rw [if_pos hh, if_pos (by rw [hit_succ, hh]; rfl)]
      · rw [if_neg hh] at h; omega
    · rw [hit_succ, h]; simp

theorem mid_self {D : Nat → Int} {R : Nat → Nat → Bool} {s i k : Nat} : mid D R s k i = (s : Int) ↔ D i = (s : Int) := by
  unfold mid
  rcases lev_cases D s i with ⟨h, h1, h2⟩ | ⟨h, h1⟩
  · rw [if_pos h, h1]
  · rw [if_neg (by omega)]
    split
    · constructor
      · intro e; omega
      · intro e; exfalso; apply h1; omega
    · constructor
      · intro e; omega
      · intro e; exfalso; apply h1; omega

theorem mid_bounds {D : Nat → Int} {R : Nat → Nat → Bool} (s i j : Nat) : -1 ≤ mid D R s i j ∧ mid D R s i j ≤ (s : Int) + 1 := by
  unfold mid
  rcases lev_cases D s j with ⟨h, h1, h2⟩ | ⟨h, h1⟩
  · rw [if_pos h]; omega
  · rw [if_neg (by omega)]; split <;> omega

def dG (g : Gr) (i : Nat) : Int := distAt g (i : Int)
def rG (g : Gr) (i j : Nat) : Bool := refers (fieldsOf g (i : Int)) (j : Int)

theorem mid_end {g : Gr} (h : Good g) {s j : Nat} (hj : j < g.objs.length) : mid (dG g) (rG g) s g.objs.length j = lev (dG g) (s + 1) j := by
  have hst := steps_eq h hj
  have hb := distAt_bounds h (j : Int)
  have hsp := bestK_spec (dG g) (fun i => rG g i j) g.objs.length
  have hst : dG g j = if refers g.roots (j : Int) = true then 0 else bestK (dG g) (fun i => rG g i j) g.objs.length := hst
  have hb1 : -1 ≤ dG g j := hb.1
  unfold mid
  rcases lev_cases (dG g) s j with ⟨h0, h1, h2⟩ | ⟨h0, h1⟩
  · rw [if_pos h0, h1]; unfold lev; rw [if_pos ⟨by omega, by omega⟩]
  · rw [if_neg (by omega)]
    by_cases hh : hit (dG g) (rG g) s g.objs.length j = true
    · rw [if_pos hh]
      obtain ⟨i', hi', e1, e2⟩ := (hit_iff _ _ _ _ _).1 hh
      have : dG g j = (s : Int) + 1 := by
        by_cases hr : refers g.roots (j : Int) = true
        · rw [if_pos hr] at hst; omega
        · rw [if_neg hr] at hst
          rcases hsp with ⟨_, hno⟩ | ⟨i, hi, b1, b2, b3, b4⟩
          · exact absurd ⟨by omega, e2⟩ (hno i' hi')
          · have := b4 i' hi' (by omega) e2
            omega
      unfold lev; rw [if_pos (by omega), this]
    · rw [if_neg hh]
      unfold lev
      rw [if_neg]
      intro hc
      have hs1 : dG g j = (s : Int) + 1 := by omega
      by_cases hr : refers g.roots (j : Int) = true
      · rw [if_pos hr] at hst; omega
      · rw [if_neg hr] at hst
        rcases hsp with ⟨hno, _⟩ | ⟨i, hi, b1, b2, b3, b4⟩
        · omega
        · exact hh ((hit_iff _ _ _ _ _).2 ⟨i, hi, by omega, b2⟩)

theorem lev_start {g : Gr} (h : Good g) {j : Nat} (hj : j < g.objs.length) : lev (dG g) 0 j = if refers g.roots (j : Int) = true then 0 else -1 := by
  have hst := steps_eq h hj
  have hsp := bestK_spec (dG g) (fun i => rG g i j) g.objs.length
  have hst : dG g j = if refers g.roots (j : Int) = true then 0 else bestK (dG g) (fun i => rG g i j) g.objs.length := hst
  unfold lev
  by_cases hr : refers g.roots (j : Int) = true
  · rw [if_pos hr] at hst; rw [if_pos hr, if_pos (by omega), hst]
  · rw [if_neg hr] at hst; rw [if_neg hr, if_neg]
    rcases hsp with ⟨hno, _⟩ | ⟨i, hi, b1, b2, b3, b4⟩ <;> omega

theorem lev_end {g : Gr} (h : Good g) {j : Nat} : lev (dG g) g.objs.length j = dG g j := by
  have hb : -1 ≤ dG g j := (distAt_bounds h (j : Int)).1
  unfold lev
  by_cases h0 : 0 ≤ dG g j
  · obtain ⟨m, d, hm, _, e, _, h2⟩ := distAt_mem h ((distAt_nonneg h (j : Int)).1 h0)
    have h3 := (List.getElem?_eq_some_iff.1 hm).1
    have h4 := (searchN_ok h g.objs.length).le
    have h3 : m < (searchN g g.objs.length).1.length := h3
    rw [if_pos ⟨h0, by unfold dG; omega⟩]
  · rw [if_neg (by omega)]; omega

/-- A list that holds a function's values. -/
def Holds' (dl : List Int) (n : Nat) (f : Nat → Int) : Prop := dl.length = n ∧ ∀ j, j < n → dl[j]? = some (f j)

theorem Holds'.set {dl : List Int} {n : Nat} {f f' : Nat → Int} (h : Holds' dl n f) {j : Nat} (hj : j < n) {v : Int} (hv : f' j = v) (ho : ∀ q, q < n → q ≠ j → f' q = f q) : Holds' (dl.set j v) n f' := by
  refine ⟨by rw [List.length_set]; exact h.1, fun q hq => ?_⟩
  by_cases e : q = j
  · subst e; rw [List.getElem?_set_self (by rw [h.1]; exact hq), hv]
  · rw [List.getElem?_set_ne (fun h => e h.symm), h.2 q hq, ho q hq e]

theorem Holds'.congr {dl : List Int} {n : Nat} {f f' : Nat → Int} (h : Holds' dl n f) (ho : ∀ q, q < n → f' q = f q) : Holds' dl n f' := ⟨h.1, fun q hq => by rw [h.2 q hq, ho q hq]⟩

theorem Holds'.dist {g : Gr} {dl : List Int} (h : Holds' dl g.objs.length (dG g)) : dl = distL g := by
  apply List.ext_getElem?
  intro i
  by_cases hi : i < g.objs.length
  · rw [h.2 i hi]; simp [distL, List.getElem?_map, List.getElem?_range hi, dG]
  · rw [List.getElem?_eq_none (by rw [h.1]; omega), List.getElem?_eq_none (by rw [distL_len]; omega)]

end Go.Proofs.Ythpmckfgngkbhaa
