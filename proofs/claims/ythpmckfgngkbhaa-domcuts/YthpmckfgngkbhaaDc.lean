/- Walks: the closure that goes there and back. -/
import Derived.Test.YthpmckfgngkbhaaProg
import Derived.Test.YthpmckfgngkbhaaMem
import Derived.Test.YthpmckfgngkbhaaDb
import Derived.Test.YthpmckfgngkbhaaIa
namespace Go.Proofs.Ythpmckfgngkbhaa
set_option linter.unusedSimpArgs false
set_option linter.unusedVariables false
open Go.RowKit Go.Shelf
attribute [local go_sem] Oper.semAt_some

theorem valsN_snoc {N : Nat} (pre : List (ObN N)) (x : ObN N) : valsN (pre ++ [x]) = valsN pre ++ [x.1] := by simp [valsN]
theorem valsN_rng {N : Nat} (pre : List (ObN N)) : ∀ x ∈ valsN pre, 0 ≤ x ∧ x < N := by
  intro x hx
  obtain ⟨y, _, rfl⟩ := List.mem_map.1 hx
  exact y.2

theorem refsOkN_objs {g : Gr} (h : Good g) {l : List V} (hl : l ∈ g.objs) : RefsOkN g.objs.length l := fun v hv hr => h.ro l hl v hv hr

set_option maxRecDepth 100000 in
set_option maxHeartbeats 4000000 in
theorem visit_c (g : Gr) (hG : Good g) (wo : Int) (ao : Option Addr) (co B b : Nat) (hBb : B ≤ b) : ∀ (n : Nat) (a : Option Addr) (cap : Nat) (l : List V) (st : List Int × List Int) (vo : Value) (W : World),
    WB W b ao g.objs.length co wo st vo → Objs B W ao g.objs → Vals B W a l → RefsOkN g.objs.length l → l.length ≤ 1000 → SOk g.objs.length st → g.objs.length < st.1.length + n →
    Calls Try.prog 35 #[.slice a l.length cap, .pointer (some ⟨b + 1, 0, none⟩), .pointer (some ⟨b + 6, 0, none⟩), .pointer (some ⟨b + 7, 0, none⟩), .pointer (some ⟨b, 0, none⟩), .pointer (some ⟨b + 4, 0, none⟩)] W fun e W' => e = .returned (.tuple #[]) ∧
      (∃ vo, WB W' b ao g.objs.length co wo (visF g wo n (refsL l) st) vo) ∧ Below b W W' ∧ KeepsOthers W W' := by
  intro n
  induction n with
  | zero => intro a cap l st vo W _ _ _ _ _ hst hl; have := hst.le; omega
  | succ n ih =>
    intro a cap l st vo W hF ho hV hok hl hst hn
    obtain ⟨i0, hi, hz0, hz1, hz2⟩ := info_parts Try.info3
    have hn24 := hG.n24
    have hlt := hF.lt
    have HR := hide (vals_obsN hn24 l hok)
    have Hih := hide ih
    clear ih
    refine (callsIn_wide (n := 8)).1 ?_
    refine callsIn_of_wp_marks Try.func35 rfl trivial ?_ rfl
    simp only [Try.ntmps35, List.size_toArray, List.length_cons, List.length_nil, Nat.reduceAdd, Nat.reduceSub, Array.replicate_succ, Array.replicate_zero, List.push_toArray, List.append_toArray, List.nil_append, List.cons_append]
    gi_wp2_with (refine ⟨trivial, ?_⟩; gi_at_call 36; go_must (refine (callsIn_wide.2 (refs_c _ _ _ _)).mono ?_); rintro e w3 ⟨rfl, hw3⟩; subst hw3)
    obtain ⟨W1, hW1⟩ : ∃ W1, W.alloc (.cells #[.slice a l.length cap] 23) = W1 := ⟨_, rfl⟩
    rw [hW1]
    have hs1 : W1.heap.size = W.heap.size + 1 := by rw [← hW1]; simp
    have hbl : W1.cell? ⟨W.heap.size, 0, none⟩ = some (.slice a l.length cap) := by rw [← hW1]; simp [go_sem]
    have hB1 : Below b W W1 := by rw [← hW1]; exact (Below.refl _ _).alloc (by omega) _
    have hF1 : WB W1 b ao g.objs.length co wo st vo := by rw [← hW1]; exact hF.alloc _
    have hK1 : KeepsOthers W W1 := by rw [← hW1]; exact KeepsOthers.alloc _ _
    clear hW1
    refine wpIn_rangeFunc_ownG (F := Fence.wide) (n := 8) rfl (by omega) (gf := 48) (lb := #[.pointer (some ⟨W.heap.size, 0, none⟩)]) rfl trivial (enters_of Try.func48 (by kernel_rfl) rfl)
      (refs1N_stops hn24 7 (by omega) W.heap.size b a cap l hok W1 (by omega) (by omega) hbl ((hV.mono hBb).below hB1)) belowK_t (belowK_b (by omega)) (Below.refl _ _) (fun _ => rfl)
      (fun pre X => (∃ vo, WB X b ao g.objs.length co wo (visF g wo (n + 1) (valsN pre) st) vo) ∧ Below b W X ∧ KeepsFrom 0 W1 X)
      (fun _ _ _ => False)
      (by
        rintro pre X Y row ⟨⟨vo, h1⟩, h2, h3⟩ hg hr
        refine ⟨⟨vo, h1.own hg (fun r e => ⟨by have := (hr r e).1; omega, (hr r e).2⟩)⟩, h2.grown hg (by have := h1.lt; omega) (fun k e => by have := (hr k e).1; omega), ?_⟩
        exact ownFrom_keepsFrom (β := Unit) (B := 0) (Nat.le_refl W1.heap.size) () X Y row h3 hg hr)
      (fun _ _ _ _ _ hs _ _ => hs)
      ⟨⟨vo, hF1⟩, hB1, KeepsFrom.refl _ _⟩
      (fun x => { tmps := #[.slice a l.length cap, .pointer (some ⟨b + 1, 0, none⟩), .pointer (some ⟨b + 6, 0, none⟩), .pointer (some ⟨b + 7, 0, none⟩), .pointer (some ⟨b, 0, none⟩), .pointer (some ⟨b + 4, 0, none⟩), undef, .int .i64 x.1, .slice a l.length cap, .func (.func 48) #[] #[.pointer (some ⟨W.heap.size, 0, none⟩)], .int .i64 x.1, undef, undef, undef, undef, undef, undef, undef, undef, undef, undef, undef, undef, undef, undef, undef, undef, undef, undef, undef, undef, undef, undef, undef, undef, undef, undef, undef, undef, undef, undef, undef, undef, undef], defers := [] }) ?assign ?body ?done ?stop
    case assign =>
      intro l x X K hK
      unfold encN
      gi_wp2
      exact hK
    case body =>
      rintro l' pre x X ⟨⟨vo, hF⟩, hB, hK0⟩ hpre
      obtain ⟨x, hx0, hx1⟩ := x
      obtain ⟨x, rfl⟩ := Int.eq_ofNat_of_zero_le hx0
      have hxN : x < g.objs.length := by omega
      obtain ⟨t, hvis⟩ := vis_vis hG wo (n + 1) (valsN pre) st hst (valsN_rng pre) hn
      have Hst := hide (show visF g wo (n + 1) (valsN (pre ++ [⟨(x : Int), hx0, hx1⟩])) st = visS g wo n (visF g wo (n + 1) (valsN pre) st) x from by rw [valsN_snoc, visF_snoc])
      have hok1 := hvis.ok
      have hl1 := hvis.len
      clear hvis
      generalize visF g wo (n + 1) (valsN pre) st = s1 at *
      have hsX := hB.size
      have hltX := hF.lt
      have hcg := hF.cg
      have hcwo := hF.cwo
      have hcs := hF.cs
      have hsn := row_at hF.seen (k := x) (by simp only [boolsV, List.getElem?_map, seenL_get _ hxN]; rfl)
      by_cases hw : (x : Int) = wo
      · have d1 : ((x : Int) == wo) = true := by simpa using hw
        have Hw := hide hw
        clear hw hsn
        gi_wp2
        exact ⟨KeepsFrom.refl _ _, Below.refl _ _, ⟨vo, by rw [unhide Hst, visS, if_pos (.inl (unhide Hw))]; exact hF⟩, hB, hK0⟩
      · have d1 : ((x : Int) == wo) = false := by simpa using hw
        have Hw := hide hw
        clear hw
        by_cases hm : (x : Int) ∈ s1.1
        · rw [decide_eq_true hm] at hsn
          have Hm := hide hm
          clear hm
          gi_wp2
          exact ⟨KeepsFrom.refl _ _, Below.refl _ _, ⟨vo, by rw [unhide Hst, visS, if_pos (.inr (unhide Hm))]; exact hF⟩, hB, hK0⟩
        · rw [decide_eq_false hm] at hsn
          have Hm := hide hm
          clear hm
          have hfs := hF.seen.frozenAt x
          have hF2 := hF.see hxN
          have hB2 : Below b X (X.setCell ⟨b + 5, x, none⟩ (.bool true)) := (Below.refl b X).setCell (p := ⟨b + 5, x, none⟩) (by simp) _
          have hK2 : KeepsOthers X (X.setCell ⟨b + 5, x, none⟩ (.bool true)) := KeepsOthers.setCell _ _ _
          have hst2 := sok_see hok1 (unhide Hm) ⟨hx0, hx1⟩
          have hsz2 : (X.setCell ⟨b + 5, x, none⟩ (.bool true)).heap.size = X.heap.size := by simp [World.setCell]
          gi_wp2
          obtain ⟨X2, hX2⟩ : ∃ X2, X.setCell ⟨b + 5, x, none⟩ (.bool true) = X2 := ⟨_, rfl⟩
          rw [hX2] at hF2 hB2 hK2 hsz2 ⊢
          clear hX2
          obtain ⟨bo, off, ai, ci, hao, hbB, hcb, hva⟩ := (ho.below ((hB.trans hB2).mono hBb)).at hxN
          subst hao
          have hrf := refsOkN_objs hG (List.getElem_mem hxN)
          have hl4 := hG.n4 _ (List.getElem_mem hxN)
          have Hfo := hide (show fieldsOf g (x : Int) = g.objs[x] by simp [fieldsOf, hxN])
          have Hva := hide hva
          have Hrf := hide hrf
          clear hva hrf
          generalize g.objs[x] = fs at *
          have hcall := unhide Hih ai ci fs (s1.1 ++ [(x : Int)], s1.2) vo X2.drew (hF2.below (Below.refl _ _).drew) (ho.below (((hB.trans hB2).mono hBb).trans (Below.refl _ _).drew)) ((unhide Hva).below (Below.refl _ _).drew) (unhide Hrf) (by omega) hst2 (by simp; omega)
          obtain ⟨t2, hvis2⟩ := vis_vis hG wo n (refsL fs) (s1.1 ++ [(x : Int)], s1.2) hst2 (by rw [← unhide Hfo]; exact refs_rng hG x) (by simp; omega)
          have Hst2 : Hid (visS g wo n s1 (x : Int) = ((visF g wo n (refsL fs) (s1.1 ++ [(x : Int)], s1.2)).1, (visF g wo n (refsL fs) (s1.1 ++ [(x : Int)], s1.2)).2 ++ [(x : Int)])) := by
            show visS g wo n s1 (x : Int) = _
            rw [visS, if_neg (by rintro (e | e); exact unhide Hw e; exact unhide Hm e), unhide Hfo]
          have hle2 := hvis2.ok.le2
          have Hxn : Hid ((x : Int) ∉ (visF g wo n (refsL fs) (s1.1 ++ [(x : Int)], s1.2)).2) := by
            show ¬ _
            rw [hvis2.app, List.mem_append]
            rintro (e | e)
            · exact unhide Hm (hok1.sub _ e)
            · exact hvis2.new _ e (by simp)
          clear hvis2
          generalize visF g wo n (refsL fs) (s1.1 ++ [(x : Int)], s1.2) = s2 at *
          have Hcall := hide hcall
          clear hcall
          have hcg := hF2.cg
          have hcv := hF2.cv
          refine wpIn_region_still_tail 7 Try.mixed (by kernel_rfl) (by kernel_rfl) ?_
          simp only [List.take_succ_cons, List.take_zero, List.drop_succ_cons, List.drop_zero]
          repeat still_step
          refine wpStill_nil ?_
          clear hcg hcv hcb
          gi_wp2_with (first
            | (refine ⟨trivial, ?_⟩; gi_at_call 35; go_must (refine (CallsIn.inRound l' (callsIn_wide.2 (unhide Hcall))).mono ?_); go_must (rintro e X3 ⟨rfl, ⟨v3, hF3⟩, hB3, hK3⟩; have hc1 := hF3.c1; have hc0 := hF3.c0; have hf3 := hF3.num.frozenAt x; have hlt3 := hF3.lt; obtain ⟨u3, hu3⟩ : ∃ u, X3.cell? ⟨b + 3, x, none⟩ = some u := ⟨_, row_at hF3.num (by simp only [intsV, List.getElem?_map, numL_get _ hxN]; rfl)⟩; obtain ⟨oa, oc, hv3⟩ := ownsRow_slice hF3.ord; subst hv3; have ho3 := ownsRow_setCell_other hF3.ord (a := ⟨b + 3, x, none⟩) (ord_ne hF3.ord (by simp)) (.int .i64 (s2.2.length : Int)); have hs3 : (X3.setCell ⟨b + 3, x, none⟩ (.int .i64 (s2.2.length : Int))).heap.size = X3.heap.size := (by simp [World.setCell]); have hk3 : (X3.setCell ⟨b + 3, x, none⟩ (.int .i64 (s2.2.length : Int))).heap[b + 4]? = X3.heap[b + 4]? := Below.heap_setCell _ _ _ _ (by simp); have hd0 := (World.cell?_of_block (a := ⟨b + 4, 0, none⟩) hk3).trans hF3.c0))
            | (gi_at_builtin; go_must (refine wpListIn_append_own_at _ rfl _ _ 26 rfl (b + 8) 3 i0 _ 1 8 Try.underlying26 hi hz0 hz1 hz2 rfl (by decide) _ _ _ rfl (ho3.alloc _) ⟨X3.heap.size, 0, none⟩ 1 1 [.int .i64 (x : Int)] rfl rfl (cell_one_at _ _ _ _ (by simp [hs3])) (by simp [Value.oneCell']) (by simp only [maxLen]; omega) (by omega) (by rw [World.size_alloc, hs3]; omega) ?_); go_must (intro v4 w4 hrow4 hg4 _ hat4; obtain ⟨g4, cap4, hv4⟩ := ownsRow_succ hrow4; subst hv4; have hb4 := (hg4.block (b + 4) (by rw [World.size_alloc, hs3]; omega) (fun e => ord_ne hF3.ord (by omega) e.symm)).trans ((Below.heap_alloc _ _ (b + 4) (by rw [hs3]; omega)).trans hk3); have hd4 := (World.cell?_of_block (a := ⟨b + 4, 0, none⟩) hb4).trans hF3.c0; have he4 := (World.frozen?_of_block (a := ⟨b + 4, 0, none⟩) hb4).trans hF3.f0)))
          obtain ⟨r1, r2, r3⟩ := hF3.back hxN (unhide Hxn) hrow4 hg4
          have hKa : KeepsOthers X2 X2.drew := KeepsOthers.drew _
          have hBa : Below b X2 X2.drew := (Below.refl _ _).drew
          have hBf : Below b X _ := hB2.trans (hBa.trans (hB3.trans r2))
          have hKf := hK2.trans (hKa.trans (hK3.trans r3))
          exact ⟨hKf.from _, hBf, ⟨_, by rw [unhide Hst, unhide Hst2]; exact r1⟩, hB.trans hBf, hK0.trans (hKf.from _)⟩
    case done =>
      rintro D' xs X hD rfl ⟨⟨vo, hF⟩, hB, hK0⟩ hK
      gi_wp2
      refine ⟨by simp, .inl ⟨_, _, rfl, run_takeDeferred hK, ?_⟩⟩
      refine ⟨_, results_none rfl _ _ _, rfl, ⟨vo, ?_⟩, hB.trans (belowK_b (w := W1) (by omega) X D' _ _ hD hK rfl rfl), ?_⟩
      · rw [← unhide HR]
        exact hF.own (grownBy_putObj' X D' _) (fun r e => by cases e; exact ⟨by omega, _, hK, rfl⟩)
      · have hg := grownBy_putObj' X D' (.deferred none)
        refine ⟨Nat.le_trans hB.size hg.size, fun k o hk ho => ?_⟩
        have hk1 := hK0.same k o (Nat.zero_le _) (hK1.same k o hk ho) ho
        have hkl := (Array.getElem?_eq_some_iff.1 hk).1
        rw [hg.block k (Array.getElem?_eq_some_iff.1 hk1).1 (fun e => by injection e; omega)]
        exact hk1
    case stop =>
      rintro D' c pre X _ _ h _
      exact h.elim

end Go.Proofs.Ythpmckfgngkbhaa
