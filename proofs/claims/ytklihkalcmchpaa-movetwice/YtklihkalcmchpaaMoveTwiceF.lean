/- Merged texts: Rg Ri Qn Re Qo Qp Qq. -/
import Derived.Test.YtklihkalcmchpaaProg
import Derived.Test.YtklihkalcmchpaaMoveTwiceE
import Derived.Deep.RegionWith
import Derived.StillTailTactics
import Derived.Lib.QuietBelow

/- Walks: the document's answer: pair. -/
namespace Go.Proofs.Ytklihkalcmchpaa
set_option linter.unusedSimpArgs false
set_option linter.unusedVariables false
open Go.RowKit

set_option maxRecDepth 100000 in
set_option maxHeartbeats 4000000 in
theorem pair_c (a1 a2 : Option Addr) (c1 c2 : Nat) (la lb : List V) (pf pt : Nat) (F T : List Int) (vf vt : Value) (w : World) (h1 : Vals pf w a1 la) (h2 : Vals pf w a2 lb) (hP : PS w pf pt F T vf vt) (hFT : F.length = T.length) (hln : F.length ≤ 1000) (hla : la.length ≤ 1000) :
    Calls Try.prog 44 #[.slice a1 la.length c1, .slice a2 lb.length c2, .pointer (some ⟨pf, 0, none⟩), .pointer (some ⟨pt, 0, none⟩)] w fun e w' => Below pf w w' ∧ ((e = .returned (.bool false) ∧ prun F T la lb = none) ∨
      (e = .returned (.bool true) ∧ ∃ F' T' vf' vt', prun F T la lb = some (F', T') ∧ F'.length = T'.length ∧ F'.length ≤ F.length + la.length ∧ PS w' pf pt F' T' vf' vt')) := by
  obtain ⟨i0, hi, hz0, hz1, hz2⟩ := info_parts Try.info3
  have hlt := hP.lt
  have hl1 := h1.1
  have hl2 := h2.1
  by_cases hl : la.length = lb.length
  · have d1 : ((la.length : Int) != (lb.length : Int)) = false := by simp [hl]
    have d2 : ((lb.length : Int) != (lb.length : Int)) = false := by simp
    rw [hl]
    have Hl := hide hl
    have hlb : lb.length ≤ 1000 := by omega
    have hle : la.length ≤ lb.length := by omega
    have hge : lb.length ≤ la.length := by omega
    clear hl
    have hgd := guard35
    go_enter Try.func44, Try.ntmps44
    go_wp2
    go_loopw [9] (fun i wr => ∃ (k : Nat) (F' T' : List Int) (vf' vt' : Value), k ≤ lb.length ∧ i = .int .i64 k ∧ Hid (prun F T la lb = prun F' T' (la.drop k) (lb.drop k)) ∧ Hid (F'.length = T'.length) ∧ F'.length ≤ F.length + k ∧ PS wr pf pt F' T' vf' vt' ∧ Below pf w wr) (fun i _ => lb.length - (intOf i).toNat)
    case atStart => exact ⟨0, F, T, vf, vt, Nat.zero_le _, rfl, rfl, hFT, by omega, hP, Below.refl _ _⟩
    case round =>
      clear hP
      obtain ⟨k, F', T', vf', vt', hk, rfl, Hrun, HFT, hFl, hP, hb⟩ := hrel
      have hszp := hP.sz
      by_cases hltk : k < lb.length
      · have hlt1 : k < la.length := by omega
        obtain ⟨b1, o1, r1, n1, rfl, hbB1, hx1, hx2, Hv1⟩ := (h1.below hb).at hlt1
        obtain ⟨b2, o2, r2, n2, rfl, hbB2, hy1, hy2, Hv2⟩ := (h2.below hb).at hltk
        have hltI : (k : Int) < (lb.length : Int) := by omega
        have Hst : Hid (prun F T la lb = (pstep F' T' (r1, n1) (r2, n2)).bind (fun s => prun s.1 s.2 (la.drop (k + 1)) (lb.drop (k + 1)))) := by
          show prun F T la lb = _
          rw [unhide Hrun, List.drop_eq_getElem_cons hlt1, List.drop_eq_getElem_cons hltk, Hv1.out, Hv2.out]; rfl
        clear Hrun Hv1 Hv2
        by_cases hrr : r1 = true ∧ r2 = true
        · obtain ⟨rfl, rfl⟩ := hrr
          obtain ⟨fa, fc, rfl, hIf, _⟩ := ints_of_owns hP.rf rfl (by omega)
          obtain ⟨ta, tc, rfl, hIt, _⟩ := ints_of_owns hP.rt rfl (by have := unhide HFT; omega)
          have e1 := hP.cf
          have e2 := hP.ct
          have hF3 : ∀ k, Calls Try.prog 19 #[.slice fa F'.length fc, .int .i64 n1] (wr.drewN k) fun e w' => e = .returned (.bool (decide (n1 ∈ F'))) ∧ w' = wr.drewN k := fun k => has_c fa fc F' n1 _ (wr.drewN k) hIf
          have hT3 : ∀ k, Calls Try.prog 19 #[.slice ta T'.length tc, .int .i64 n2] (wr.drewN k) fun e w' => e = .returned (.bool (decide (n2 ∈ T'))) ∧ w' = wr.drewN k := fun k => has_c ta tc T' n2 _ (wr.drewN k) hIt
          have Hst : Hid (prun F T la lb = ((if n1 ∈ F' then (if n2 ∈ T' then (if T'[F'.idxOf n1]? = some n2 then some (F', T') else none) else none) else (if n2 ∈ T' then none else some (F' ++ [n1], T' ++ [n2])))).bind (fun s => prun s.1 s.2 (la.drop (k + 1)) (lb.drop (k + 1)))) := by
            show prun F T la lb = _
            rw [unhide Hst, pstep, if_pos ⟨rfl, rfl⟩]
          by_cases m1 : n1 ∈ F' <;> by_cases m2 : n2 ∈ T'
          · have hlk : F'.idxOf n1 < T'.length := by have := List.idxOf_lt_length_iff.2 m1; have := unhide HFT; omega
            have HG := hide (List.getElem?_eq_getElem hlk)
            obtain ⟨bt, ot, rfl, hbt, hct⟩ := hIt.at hlk
            have hP3 : ∀ j k, Calls Try.prog 45 #[.slice fa F'.length fc, .int .i64 n1] ((wr.drewN j).drewN k) fun e w' => e = .returned (.int .i64 (F'.idxOf n1 : Int)) ∧ w' = (wr.drewN j).drewN k := fun j k => (place_c fa fc F' n1 _ ((wr.drewN j).drewN k) hIf).mono (by rintro e w' ⟨rfl, rfl⟩; rw [placeOf, if_pos m1]; exact ⟨rfl, rfl⟩)
            have hlkI : ((F'.idxOf n1 : Nat) : Int) < (T'.length : Int) := by omega
            simp only [m1, m2, decide_true] at hF3 hT3
            have Hst : Hid (prun F T la lb = (if T'[F'.idxOf n1]? = some n2 then some (F', T') else none).bind (fun s => prun s.1 s.2 (la.drop (k + 1)) (lb.drop (k + 1)))) := by
              show prun F T la lb = _
              rw [unhide Hst, if_pos m1, if_pos m2]
            clear m1 m2
            generalize F'.idxOf n1 = q at *
            generalize T'[q] = y at *
            by_cases hy : y = n2
            · have dy : (y != n2) = false := by simp [hy]
              have Hst : Hid (prun F T la lb = prun F' T' (la.drop (k + 1)) (lb.drop (k + 1))) := by
                show prun F T la lb = _
                rw [unhide Hst, unhide HG, hy, if_pos rfl]; rfl
              clear hy
              go_wp2
              go_quiet ((first | (go_at_call_of 19 fc; exact Calls.quiet_of_same (hF3 _)) | (go_at_call_of 19 tc; exact Calls.quiet_of_same (hT3 _))))
              have hP := hP.drewN nq
              have hb := below_drewN hb nq
              have hF4 := hF3 nq
              have hP4 := hP3 nq
              have hct4 : (wr.drewN nq).cell? _ = _ := hct
              clear hF3 hT3 hP3 hIf hIt hct e1 e2
              generalize wr.drewN nq = wq at *
              have e3 := hP.cf
              have e4 := hP.ct
              go_wp2_with (go_at_call 19; go_must (refine hF4.mono ?_); rintro e w3 ⟨rfl, hw3⟩; have hw3 := hw3.symm; subst hw3)
              go_quiet ((go_at_call 45; exact Calls.quiet_of_same (hP4 _)))
              go_wp2
              go_roundw
              case rel => exact ⟨k + 1, F', T', _, _, by omega, by go_num, Hst, HFT, by omega, hP.drewN _, below_drewN hb _⟩
              case measure => simp [intOf]; omega
            · have dy : (y != n2) = true := by simpa using hy
              have Hst : Hid (prun F T la lb = none) := by
                show prun F T la lb = _
                rw [unhide Hst, unhide HG, if_neg (by simpa using hy)]; rfl
              clear hy
              go_wp2
              go_quiet ((first | (go_at_call_of 19 fc; exact Calls.quiet_of_same (hF3 _)) | (go_at_call_of 19 tc; exact Calls.quiet_of_same (hT3 _))))
              have hP := hP.drewN nq
              have hb := below_drewN hb nq
              have hF4 := hF3 nq
              have hP4 := hP3 nq
              have hct4 : (wr.drewN nq).cell? _ = _ := hct
              clear hF3 hT3 hP3 hIf hIt hct e1 e2
              generalize wr.drewN nq = wq at *
              have e3 := hP.cf
              have e4 := hP.ct
              go_wp2_with (go_at_call 19; go_must (refine hF4.mono ?_); rintro e w3 ⟨rfl, hw3⟩; have hw3 := hw3.symm; subst hw3)
              go_quiet ((go_at_call 45; exact Calls.quiet_of_same (hP4 _)))
              go_wp2
              go_ret
              exact ⟨below_drewN hb _, .inl ⟨rfl, unhide Hst⟩⟩
          · simp only [m1, m2, decide_true, decide_false] at hF3 hT3
            have Hst : Hid (prun F T la lb = none) := by
              show prun F T la lb = _
              rw [unhide Hst, if_pos m1, if_neg m2]; rfl
            clear m1 m2
            go_wp2
            go_quiet ((first | (go_at_call_of 19 fc; exact Calls.quiet_of_same (hF3 _)) | (go_at_call_of 19 tc; exact Calls.quiet_of_same (hT3 _))))
            go_wp2
            go_ret
            exact ⟨below_drewN hb _, .inl ⟨rfl, unhide Hst⟩⟩
          · simp only [m1, m2, decide_true, decide_false] at hF3 hT3
            have Hst : Hid (prun F T la lb = none) := by
              show prun F T la lb = _
              rw [unhide Hst, if_neg m1, if_pos m2]; rfl
            clear m1 m2
            go_wp2
            go_quiet ((first | (go_at_call_of 19 fc; exact Calls.quiet_of_same (hF3 _)) | (go_at_call_of 19 tc; exact Calls.quiet_of_same (hT3 _))))
            go_wp2
            go_ret
            exact ⟨below_drewN hb _, .inl ⟨rfl, unhide Hst⟩⟩
          · simp only [m1, m2, decide_false] at hF3 hT3
            have Hst : Hid (prun F T la lb = prun (F' ++ [n1]) (T' ++ [n2]) (la.drop (k + 1)) (lb.drop (k + 1))) := by
              show prun F T la lb = _
              rw [unhide Hst, if_neg m1, if_neg m2]; rfl
            have Hm1 := hide m1
            clear m1 m2
            have hfl : T'.length ≤ F'.length := by have := unhide HFT; omega
            go_wp2
            go_quiet ((first | (go_at_call_of 19 fc; exact Calls.quiet_of_same (hF3 _)) | (go_at_call_of 19 tc; exact Calls.quiet_of_same (hT3 _))))
            have hP := hP.drewN nq
            have hb := below_drewN hb nq
            have hF4 := hF3 nq
            clear hF3 hT3
            generalize wr.drewN nq = wq at *
            have hqq := hP.sz
            have hqq' := hP.lt
            have e3 := hP.cf
            have e4 := hP.ct
            have e5 := hP.ff
            have e6 := hP.ft
            go_wp2_with (first
              | (go_at_call 19; go_must (refine hF4.mono ?_); rintro e w3 ⟨rfl, hw3⟩; have hw3 := hw3.symm; subst hw3)
              | (at_builtin; refine wpList_append_own_at _ rfl _ _ 41 rfl (pt + 1) 3 i0 _ 1 8 Try.underlying41 hi hz0 hz1 hz2 rfl (by decide) _ _ _ rfl ht3 _ 1 1 [.int .i64 n2] rfl rfl (cell_one_at _ _ _ _ (by simp)) (by simp [Value.oneCell']) (by simp only [maxLen]; omega) (by omega) (by simp; omega) ?_; go_must (intro v2 w3 ht4 hg3 _ hat3; obtain ⟨g2, cap2, hv2⟩ := ownsRow_succ ht4; subst hv2; have hb3 : Below (pt + 1) (w2.setCell ⟨pf, 0, none⟩ (.slice (some ⟨g1, 0, none⟩) (F'.length + 1) cap1)) w3 := ((Below.refl (pt + 1) _).alloc (by simp [World.setCell]; omega) (.cells #[.int .i64 n2] 3)).grown hg3 (by simp [World.setCell]; omega) (fun k e => (hP.rt.lt k e).1); have d3 := (hb3.cell (p := ⟨pt, 0, none⟩) (by simp)).trans d2; have d4 := (hb3.frozen (p := ⟨pt, 0, none⟩) (by simp)).trans ((World.frozen?_setCell _ _ _ _).trans c4)))
              | (at_builtin; go_must (refine wpList_append_own_at _ rfl _ _ 41 rfl (pt + 1) 3 i0 _ 1 8 Try.underlying41 hi hz0 hz1 hz2 rfl (by decide) _ _ _ rfl (hP.rf.alloc _) ⟨wq.heap.size, 0, none⟩ 1 1 [.int .i64 n1] rfl rfl (cell_one_at _ _ _ _ (by simp)) (by simp [Value.oneCell']) (by simp only [maxLen]; omega) (by omega) (by simp; omega) ?_); go_must (intro v1 w2 hf2 hg2 _ hat2; obtain ⟨g1, cap1, hv1⟩ := ownsRow_succ hf2; subst hv1; have hb2 : Below (pt + 1) wq w2 := ((Below.refl (pt + 1) wq).alloc (by omega) (.cells #[.int .i64 n1] 3)).grown hg2 (by simp; omega) (fun k e => (hP.rf.lt k e).1); have c1 := (hb2.cell (p := ⟨pf, 0, none⟩) (by simp; omega)).trans e3; have c2 := (hb2.cell (p := ⟨pt, 0, none⟩) (by simp)).trans e4; have c3 := (hb2.frozen (p := ⟨pf, 0, none⟩) (by simp; omega)).trans e5; have c4 := (hb2.frozen (p := ⟨pt, 0, none⟩) (by simp)).trans e6; have ht3 := (ownsRow_setCell_below ((hP.rt.alloc (.cells #[.int .i64 n1] 3)).kept hg2 (apart_inr hP.ap)) (a := ⟨pf, 0, none⟩) (by simp; omega) (.slice (some ⟨g1, 0, none⟩) (F'.length + 1) cap1)).alloc (.cells #[.int .i64 n2] 3); have hsw2 := hb2.size; have d2 : (w2.setCell ⟨pf, 0, none⟩ (.slice (some ⟨g1, 0, none⟩) (F'.length + 1) cap1)).cell? ⟨pt, 0, none⟩ = some (.slice ta T'.length tc) := (World.cell?_setCell_other _ _ _ _ (fun e => by injection e; omega)).trans c2)))
            obtain ⟨r1, r2⟩ := pair_step hP hf2 hg2 hat2 ht4 hg3 hat3
            have hlF : (F' ++ [n1]).length = F'.length + 1 := by simp
            have hlT : (T' ++ [n2]).length = T'.length + 1 := by simp
            obtain ⟨fa5, fc5, hv5, hIf5, _⟩ := ints_of_owns r1.rf rfl (by omega)
            obtain ⟨ta5, tc5, hv6, hIt5, _⟩ := ints_of_owns r1.rt rfl (by omega)
            have hlk : F'.length < (T' ++ [n2]).length := by have := unhide HFT; simp; omega
            have hget : (T' ++ [n2])[F'.length] = n2 := by have := unhide HFT; simp [this]
            have hgl : (F' ++ [n1]).idxOf n1 = F'.length := idxOf_first (k := F'.length) (by simp) (by simp) (by rw [List.take_left' rfl]; exact unhide Hm1)
            have hpl : placeOf (F' ++ [n1]) n1 = F'.length := by rw [placeOf, if_pos (by simp), hgl]
            obtain ⟨bt5, ot5, hta5, hbt5, hct5⟩ := hIt5.at hlk
            rw [hget] at hct5
            subst hta5
            injection hv5 with hv7 hv8 hv9
            injection hv6 with hv10 hv11 hv12
            injection hv10 with hv10
            injection hv10 with hv13 hv14
            subst hv7 hv9 hv12 hv13 hv14
            simp only [Nat.zero_add] at hct5
            have Hst := hide Hst
            have hlkI : (F'.length : Int) < ((T'.length + 1 : Nat) : Int) := by have := unhide HFT; omega
            have Hend : Hid (F'.length + 1 ≤ F.length + (k + 1)) := by show _ ≤ _; omega
            have HF5 : Hid ((F' ++ [n1]).length = (T' ++ [n2]).length) := by have := unhide HFT; show (F' ++ [n1]).length = _; simp; omega
            have hbX := hb.trans r2
            have hP5 : ∀ k, Calls Try.prog 45 #[.slice (some ⟨g1, 0, none⟩) (F'.length + 1) cap1, .int .i64 n1] (World.drewN (w3.setCell ⟨pt, 0, none⟩ (.slice (some ⟨g2, 0, none⟩) (T'.length + 1) cap2)) k) fun e w' => e = .returned (.int .i64 (F'.length : Int)) ∧ w' = World.drewN (w3.setCell ⟨pt, 0, none⟩ (.slice (some ⟨g2, 0, none⟩) (T'.length + 1) cap2)) k := fun k => by
              have := place_c (some ⟨g1, 0, none⟩) cap1 (F' ++ [n1]) n1 _ (World.drewN (w3.setCell ⟨pt, 0, none⟩ (.slice (some ⟨g2, 0, none⟩) (T'.length + 1) cap2)) k) hIf5
              rw [hpl, hlF] at this
              exact this
            have e7 := r1.cf
            have e8 := r1.ct
            clear hv8 hv11 hlk hIf5 hIt5 hget hgl hpl hlF hlT hf2 hg2 hat2 ht4 hg3 hat3 hb2 hb3 c1 c2 c3 c4 d2 d3 d4 ht3 e3 e4 e5 e6 hF4 hP r2 hb
            generalize w3.setCell ⟨pt, 0, none⟩ (.slice (some ⟨g2, 0, none⟩) (T'.length + 1) cap2) = wX at *
            go_quiet ((go_at_call 45; exact Calls.quiet_of_same (hP5 _)))
            go_wp2
            go_roundw
            case rel => exact ⟨k + 1, F' ++ [n1], T' ++ [n2], _, _, by omega, by go_num, unhide Hst, HF5, by have := unhide Hend; simp; omega, r1.drewN _, below_drewN hbX _⟩
            case measure => simp [intOf]; omega
        · have hE' : ∀ b, (r1 == r2 && n1 == n2) = b → ∀ w, (Op.equalIn 10000 56 (.agg #[.bool r1, .int .i64 n1]) (.agg #[.bool r2, .int .i64 n2])).run Try.prog w = .ok b w := fun b hb w => by rw [eql_in, hb]
          cases hE : (r1 == r2 && n1 == n2)
          · have he := hE' _ hE
            have Hno : Hid (prun F T la lb = none) := by
              show prun F T la lb = none
              rw [unhide Hst, pstep, if_neg hrr, if_neg (by intro e; injection e with e3 e4; subst e3 e4; simp at hE)]; rfl
            clear hE' hE
            cases r1
            · go_wp2
              go_still Try.mixed
              go_wp2
              go_ret
              exact ⟨hb.trans (Below.refl _ _).drew, .inl ⟨rfl, unhide Hno⟩⟩
            · cases r2
              · go_wp2
                go_still Try.mixed
                go_wp2
                go_ret
                exact ⟨hb.trans (Below.refl _ _).drew, .inl ⟨rfl, unhide Hno⟩⟩
              · exact absurd ⟨rfl, rfl⟩ hrr
          · have he := hE' _ hE
            have Hyes : Hid (prun F T la lb = prun F' T' (la.drop (k + 1)) (lb.drop (k + 1))) := by
              show prun F T la lb = _
              simp at hE
              obtain ⟨e3, e4⟩ := hE
              subst e3 e4
              rw [unhide Hst, pstep, if_neg hrr, if_pos rfl]; rfl
            have HEq : Hid (r1 = r2) := by simp at hE; exact hE.1
            clear hE' hE
            cases r1
            · cases r2
              · go_wp2
                go_still Try.mixed
                go_wp2
                go_roundw
                case rel => exact ⟨k + 1, F', T', vf', vt', by omega, by go_num, Hyes, HFT, by omega, hP.drew, hb.trans (Below.refl _ _).drew⟩
                case measure => simp [intOf]; omega
              · exact absurd (unhide HEq) (by simp)
            · cases r2
              · exact absurd (unhide HEq) (by simp)
              · exact absurd ⟨rfl, rfl⟩ hrr
      · obtain rfl : k = lb.length := by omega
        have Hfin : Hid (prun F T la lb = some (F', T')) := by
          show prun F T la lb = _
          rw [unhide Hrun, List.drop_length, List.drop_of_length_le hle]; rfl
        go_wp2
        go_ret
        exact ⟨hb, .inr ⟨rfl, F', T', vf', vt', unhide Hfin, unhide HFT, by omega, hP⟩⟩
  · have d1 : ((la.length : Int) != (lb.length : Int)) = true := by simp; omega
    go_enter Try.func44, Try.ntmps44
    go_wp2
    go_ret
    exact ⟨Below.refl _ _, .inl ⟨rfl, prun_len hl⟩⟩

end Go.Proofs.Ytklihkalcmchpaa

/- Walks: the document's answer: Same. -/
namespace Go.Proofs.Ytklihkalcmchpaa
set_option linter.unusedSimpArgs false
set_option linter.unusedVariables false
open Go.RowKit

theorem ps_start (w : World) (o1 o2 : Obj) : PS ((((w.alloc o1).alloc o2).alloc (.cells #[.slice none 0 0] 41)).alloc (.cells #[.slice none 0 0] 41)) (w.heap.size + 2) (w.heap.size + 3) [] [] (.slice none 0 0) (.slice none 0 0) := by
  refine ⟨by simp [go_sem], by simp [go_sem], by simp [go_sem], by simp [go_sem], World.ownsRow_nil _ _ _ _, World.ownsRow_nil _ _ _ _, fun k h => by simp [Value.ownBlock] at h, by omega⟩

theorem start_res {a b : Gr} {e : Ending} {w' : World} {pf pt : Nat} (h : (e = .returned (.bool false) ∧ prun [] [] a.roots b.roots = none) ∨
      (e = .returned (.bool true) ∧ ∃ F' T' vf' vt', prun [] [] a.roots b.roots = some (F', T') ∧ F'.length = T'.length ∧ F'.length ≤ ([] : List Int).length + a.roots.length ∧ PS w' pf pt F' T' vf' vt')) :
    ∃ r, e = .returned (.bool r) ∧ ((r = false ∧ Hid (sameN a b 256 = none)) ∨ (r = true ∧ ∃ F T vf vt, Hid (sameN a b 0 = some (F, T)) ∧ 0 ≤ F.length ∧ PS w' pf pt F T vf vt)) := by
  rcases h with ⟨rfl, hno⟩ | ⟨rfl, F, T, vf, vt, hsm, _, _, hP⟩
  · exact ⟨false, rfl, .inl ⟨rfl, sameN_none (k := 0) hno (by omega)⟩⟩
  · exact ⟨true, rfl, .inr ⟨rfl, F, T, vf, vt, hsm, Nat.zero_le _, hP⟩⟩

theorem prun_grows : ∀ {la lb : List V} {F T F' T' : List Int}, F.length = T.length → T.Nodup → prun F T la lb = some (F', T') → F.length ≤ F'.length := by
  intro la lb F T F' T' hl hT h
  rw [((prun_iff la lb F T F' T' hl hT).1 h).1]
  exact (insA_prefix la F).length_le

theorem round_res {a b : Gr} {e : Ending} {w' : World} {pf pt k : Nat} {F T : List Int} {la lb : List V} (hk : k < F.length) (hF : F.length ≤ 256) (hl : F.length = T.length) (hT : T.Nodup) (hst : sameN a b (k + 1) = prun F T la lb)
    (h : (e = .returned (.bool false) ∧ prun F T la lb = none) ∨
      (e = .returned (.bool true) ∧ ∃ F' T' vf' vt', prun F T la lb = some (F', T') ∧ F'.length = T'.length ∧ F'.length ≤ F.length + la.length ∧ PS w' pf pt F' T' vf' vt')) :
    ∃ r, e = .returned (.bool r) ∧ ((r = false ∧ Hid (sameN a b 256 = none)) ∨ (r = true ∧ ∃ F T vf vt, Hid (sameN a b (k + 1) = some (F, T)) ∧ k + 1 ≤ F.length ∧ PS w' pf pt F T vf vt)) := by
  rcases h with ⟨rfl, hno⟩ | ⟨rfl, F', T', vf, vt, hsm, _, _, hP⟩
  · exact ⟨false, rfl, .inl ⟨rfl, sameN_none (k := k + 1) (hst.trans hno) (by omega)⟩⟩
  · exact ⟨true, rfl, .inr ⟨rfl, F', T', vf, vt, hst.trans hsm, by have := prun_grows hl hT hsm; omega, hP⟩⟩

set_option maxRecDepth 100000 in
set_option maxHeartbeats 2000000 in
theorem refSame_c (ao ar bo br : Option Addr) (co cr do' dr : Nat) (a b : Gr) (B : Nat) (w : World) (ho : Objs B w ao a.objs) (hr : Vals B w ar a.roots) (ko : Objs B w bo b.objs) (kr : Vals B w br b.roots) (hB : B ≤ w.heap.size) (hA : Good a) (hG : Good b) :
    Calls Try.prog 30 #[.agg #[.slice ao a.objs.length co, .slice ar a.roots.length cr], .agg #[.slice bo b.objs.length do', .slice br b.roots.length dr]] w fun e w' => e = .returned (.bool (sameN a b 256).isSome) ∧ Below w.heap.size w w' := by
  have hn8 := hA.n8
  have hn24 := hA.n24
  obtain ⟨W0, hW0⟩ : ∃ W0, (((w.alloc (.cells #[.slice ao a.objs.length co, .slice ar a.roots.length cr] 36)).alloc (.cells #[.slice bo b.objs.length do', .slice br b.roots.length dr] 36)).alloc (.cells #[.slice none 0 0] 41)).alloc (.cells #[.slice none 0 0] 41) = W0 := ⟨_, rfl⟩
  have hb0 : Below w.heap.size w W0 := by rw [← hW0]; exact ((((Below.refl _ _).alloc (Nat.le_refl _) _).alloc (by simp) _).alloc (by simp; omega) _).alloc (by simp; omega) _
  have hs0 : w.heap.size + 3 < W0.heap.size := by rw [← hW0]; simp
  have g0 : W0.cell? ⟨w.heap.size, 0, none⟩ = some (.slice ao a.objs.length co) := by rw [← hW0]; simp [go_sem]
  have g1 : W0.cell? ⟨w.heap.size, 1, none⟩ = some (.slice ar a.roots.length cr) := by rw [← hW0]; simp [go_sem]
  have g2 : W0.cell? ⟨w.heap.size + 1, 0, none⟩ = some (.slice bo b.objs.length do') := by rw [← hW0]; simp [go_sem]
  have g3 : W0.cell? ⟨w.heap.size + 1, 1, none⟩ = some (.slice br b.roots.length dr) := by rw [← hW0]; simp [go_sem]
  have hP0 : PS W0 (w.heap.size + 2) (w.heap.size + 3) [] [] (.slice none 0 0) (.slice none 0 0) := by rw [← hW0]; exact ps_start _ _ _
  have hr0 : Vals (w.heap.size + 2) W0 ar a.roots := (hr.below (hb0.mono hB)).mono (by omega)
  have kr0 : Vals (w.heap.size + 2) W0 br b.roots := (kr.below (hb0.mono hB)).mono (by omega)
  go_enter Try.func30, Try.ntmps30
  go_wp2_with (go_at_call 44; clear hW0; go_must (refine (pair_c ar br cr dr a.roots b.roots (w.heap.size + 2) (w.heap.size + 3) [] [] _ _ W0 hr0 kr0 hP0 rfl (by simp) (by omega)).mono ?_); rintro e w1 ⟨hb1, hres⟩; obtain ⟨r, rfl, hq⟩ := start_res hres)
  have hlA : ∀ k, (searchN a k).1.length ≤ 256 := fun k => by have := (searchN_ok hA k).le; omega
  go_loopw [7, 8] (fun okv i wr => ∃ (k : Nat) (r : Bool), i = .int .i64 k ∧ okv = .bool r ∧ ((r = false ∧ Hid (sameN a b 256 = none)) ∨ (r = true ∧ ∃ F T vf vt, Hid (sameN a b k = some (F, T)) ∧ k ≤ F.length ∧ PS wr (w.heap.size + 2) (w.heap.size + 3) F T vf vt)) ∧ Below (w.heap.size + 2) W0 wr) (fun _ i _ => 256 - (intOf i).toNat)
  case atStart =>
    exact ⟨0, r, rfl, rfl, hq, hb1⟩
  case round =>
    clear hq hres hP0 hb1
    obtain ⟨k, r, rfl, rfl, hres, hb⟩ := hrel
    have hsz := hb.size
    have hbw : Below B w wr := (hb0.mono hB).trans (hb.mono (by omega))
    rcases hres with ⟨rfl, Hno⟩ | ⟨rfl, F, T, vf, vt, Hs, hk, hP⟩
    · go_wp2
      go_ret
      refine ⟨ret_bool (by rw [unhide Hno]; rfl), hb0.trans (hb.mono (by omega))⟩
    · have hfw := same_fwd hA hG k F T (unhide Hs)
      have hF24 : F.length ≤ 256 := by rw [hfw.1]; exact hlA k
      have hT24 : T.length ≤ 256 := by rw [← hfw.2.2.1]; exact hF24
      have q0 := (hb.cell (p := ⟨w.heap.size, 0, none⟩) (by simp)).trans g0
      have q2 := (hb.cell (p := ⟨w.heap.size + 1, 0, none⟩) (by simp)).trans g2
      have e1 := hP.cf
      have e2 := hP.ct
      by_cases hlt : k < F.length
      · have hlt2 : k < T.length := by rw [← hfw.2.2.1]; exact hlt
        obtain ⟨ga, ca, rfl, hx1, hgl1⟩ := ints_at hP.rf hlt
        obtain ⟨gb, cb, rfl, hx2, hgl2⟩ := ints_at hP.rt hlt2
        have hxr : 0 ≤ F[k] ∧ F[k] < a.objs.length := (searchN_ok hA k).rng _ (by rw [← hfw.1]; exact List.getElem_mem hlt)
        have hyr : 0 ≤ T[k] ∧ T[k] < b.objs.length := (searchN_ok hG k).rng _ (by rw [← hfw.2.1]; exact List.getElem_mem hlt2)
        have HFT := hide hfw.2.2.1
        have HTn : Hid T.Nodup := by show T.Nodup; rw [hfw.2.1]; exact (searchN_ok hG k).nd
        have Hst : Hid (sameN a b (k + 1) = prun F T (fieldsOf a F[k]) (fieldsOf b T[k])) := by
          show sameN a b (k + 1) = _
          simp only [sameN]; rw [unhide Hs]; simp only [Option.bind_some]; rw [List.getElem?_eq_getElem hlt, List.getElem?_eq_getElem hlt2]
        clear hfw Hs
        generalize F[k] = x at *
        generalize T[k] = y at *
        obtain ⟨x, rfl⟩ := Int.eq_ofNat_of_zero_le hxr.1
        obtain ⟨y, rfl⟩ := Int.eq_ofNat_of_zero_le hyr.1
        have hxN : x < a.objs.length := by omega
        have hyN : y < b.objs.length := by omega
        obtain ⟨b1, o1, a1, c1, rfl, hbB1, hcb1, hva1⟩ := (ho.below hbw).at hxN
        obtain ⟨b2, o2, a2, c2, rfl, hbB2, hcb2, hva2⟩ := (ko.below hbw).at hyN
        have hl4 := hA.n4 _ (List.getElem_mem hxN)
        have Hst : Hid (sameN a b (k + 1) = prun F T a.objs[x] b.objs[y]) := by
          show sameN a b (k + 1) = _
          rw [unhide Hst]; simp [fieldsOf, hxN, hyN]
        generalize a.objs[x] = la at *
        generalize b.objs[y] = lb at *
        have i1 : (k : Int) < (F.length : Int) := by omega
        have i2 : (k : Int) < (T.length : Int) := by omega
        have i3 : (x : Int) < (a.objs.length : Int) := by omega
        have i4 : (y : Int) < (b.objs.length : Int) := by omega
        go_wp2
        go_still_tail 18, Try.mixed
        go_wp2_with (go_at_call 44; go_must (refine (pair_c a1 a2 c1 c2 la lb (w.heap.size + 2) (w.heap.size + 3) F T _ _ _ ((hva1.mono (by omega)).below (Below.refl _ _).drew) ((hva2.mono (by omega)).below (Below.refl _ _).drew) hP.drew (unhide HFT) (by omega) (by omega)).mono ?_); rintro e w3 ⟨hb3, hres⟩; obtain ⟨r, rfl, hq⟩ := round_res hlt hF24 (unhide HFT) (unhide HTn) (unhide Hst) hres)
        go_roundw
        case rel => exact ⟨k + 1, r, by go_num, rfl, hq, hb.trans ((Below.refl _ _).drew.trans hb3)⟩
        case measure => simp [intOf]; omega
      · have Hfin := hide (sameN_stay (m := 256) (unhide Hs) (by omega) (by omega))
        obtain ⟨fa, fc, rfl⟩ := ownsRow_slice hP.rf
        obtain rfl : k = F.length := by omega
        clear hfw
        go_wp2
        go_ret
        refine ⟨ret_bool (by rw [unhide Hfin]; rfl), hb0.trans (hb.mono (by omega))⟩

end Go.Proofs.Ytklihkalcmchpaa

/- Walks: the law's left. -/
namespace Go.Proofs.Ytklihkalcmchpaa
set_option linter.unusedSimpArgs false
set_option linter.unusedVariables false
open Go.RowKit Go.Shelf

theorem step_call_w {P : Program} {ops : Array Oper} {o : Oper} {a : Act} {w : World} {K : Act → World → Prop} {Q : Exit → Act → World → Prop} {E : Prop} (hw : Region.wanted o (yielded ops a.tmps) = true) (f : FuncId) (args : Array Value)
    (hex : (execOp a.eval o).run P w = .ok (.enter f args) w) (R : Value → World → Prop) (hc : Calls P f args w fun e w' => ∃ v, e = .returned v ∧ R v w') (hK : ∀ v w', R v w' → K (a.put o.dst v) w') :
    if Region.wanted o (yielded ops a.tmps) = true then Oper.wp P o a w K Q else E := by
  rw [if_pos hw]
  unfold Oper.wp
  rw [hex, Oper.upon_enter]
  refine hc.mono ?_
  rintro e w' ⟨v, rfl, hr⟩
  exact hK v w' hr

/-- What Read hands back. -/
def RdP (X : World) (fs : List (List Int)) (rs : List Int) (v : Value) (W : World) : Prop :=
  ∃ ao co ar cr, v = .agg #[.slice ao (readG fs rs).objs.length co, .slice ar (readG fs rs).roots.length cr] ∧ Objs W.heap.size W ao (readG fs rs).objs ∧ Vals W.heap.size W ar (readG fs rs).roots ∧ Below X.heap.size X W

theorem read_p (aw ar : Option Addr) (cw cr : Nat) (ws rs : List Int) (hs : List Int) (fs : List (List Int)) (B : Nat) (X : World) (hW : Wds B X aw ws) (hR : Wds B X ar rs) (hUW : U64 ws) (hUR : U64 rs) (hB : B ≤ X.heap.size) (hA : Arn hs fs rs) (hws : ws = joinW hs fs) :
    Calls Try.prog 14 #[.agg #[.slice aw ws.length cw, .slice ar rs.length cr]] X fun e w' => ∃ v, e = .returned v ∧ RdP X fs rs v w' := by
  have hsp : splitR ws = some fs := by rw [hws]; exact fit_split hA.fit
  have h256 : ws.length ≤ 256 := by rw [hws, joinW_len _ _ hA.fit.len]; exact hA.n256
  refine (rread_c aw ar cw cr ws rs fs B X hW hR hUW hUR hB h256 hA.n8 hsp).mono ?_
  rintro e w' ⟨⟨ao, co, ar', cr', he, hO, hV⟩, hb⟩
  exact ⟨_, he, ao, co, ar', cr', rfl, hO, hV, hb⟩

set_option maxRecDepth 100000 in
set_option maxHeartbeats 8000000 in
theorem left_c (bw br aw ar : Option Addr) (dw dr cw cr : Nat) (vs us ws rs : List Int) (hs' : List Int) (fs' : List (List Int)) (hs : List Int) (fs : List (List Int)) (B : Nat) (w : World) (hV : Wds B w bw vs) (hU : Wds B w br us) (hW : Wds B w aw ws) (hR : Wds B w ar rs) (hB : B ≤ w.heap.size)
    (hA' : Arn hs' fs' us) (hvs : vs = joinW hs' fs') (hA : Arn hs fs rs) (hws : ws = joinW hs fs) (hlen : vs.length = tot (mF fs rs)) (hsame : canonG (readG fs' us) = canonG (readG fs rs)) :
    Calls Try.prog 12 #[.agg #[.slice bw vs.length dw, .slice br us.length dr], .agg #[.slice aw ws.length cw, .slice ar rs.length cr]] w fun e w' => e = .returned (.bool true) ∧ Below w.heap.size w w' := by
  have hUV : U64 vs := by rw [hvs]; exact joinW_u64 hA' hA'.fit
  have hUW : U64 ws := by rw [hws]; exact joinW_u64 hA hA.fit
  obtain ⟨W0, hW0⟩ : ∃ W0, (w.alloc (.cells #[.slice bw vs.length dw, .slice br us.length dr] 24)).alloc (.cells #[.slice aw ws.length cw, .slice ar rs.length cr] 24) = W0 := ⟨_, rfl⟩
  have hb0 : Below w.heap.size w W0 := by rw [← hW0]; exact ((Below.refl w.heap.size w).alloc (Nat.le_refl _) _).alloc (by simp) _
  have hs0 : w.heap.size + 1 < W0.heap.size := by rw [← hW0]; simp
  have hs0' : w.heap.size < W0.heap.size := by omega
  have k0 : W0.cell? ⟨w.heap.size, 0, none⟩ = some (.slice bw vs.length dw) := by rw [← hW0]; simp [go_sem]
  have k1 : W0.cell? ⟨w.heap.size, 1, none⟩ = some (.slice br us.length dr) := by rw [← hW0]; simp [go_sem]
  have g0 : W0.cell? ⟨w.heap.size + 1, 0, none⟩ = some (.slice aw ws.length cw) := by rw [← hW0]; simp [go_sem]
  have g1 : W0.cell? ⟨w.heap.size + 1, 1, none⟩ = some (.slice ar rs.length cr) := by rw [← hW0]; simp [go_sem]
  have HcS : Hid (∀ X, Below W0.heap.size W0 X → Calls Try.prog 10 #[.agg #[.slice bw vs.length dw, .slice br us.length dr]] X fun e w' => ∃ v, e = .returned v ∧ v = .bool true ∧ Below X.heap.size X w') := by
    intro X hb
    have hbX : Below w.heap.size w X := hb0.trans (hb.mono (by omega))
    refine (sound_c bw br dw dr vs us B X (hV.below (hbX.mono hB)) (hU.below (hbX.mono hB)) hUV hA'.ur (by have := hbX.size; omega)).mono ?_
    rintro e w' ⟨rfl, h⟩
    have hE := hA'.check
    rw [← hvs] at hE
    exact ⟨_, rfl, by rw [hE]; rfl, h⟩
  have HcZ : Hid (∀ X, Below W0.heap.size W0 X → Calls Try.prog 16 #[.agg #[.slice aw ws.length cw, .slice ar rs.length cr]] X fun e w' => ∃ v, e = .returned v ∧ v = .int .i64 (vs.length : Nat) ∧ Below X.heap.size X w') := by
    intro X hb
    have hbX : Below w.heap.size w X := hb0.trans (hb.mono (by omega))
    refine (size_c aw ar cw cr ws rs hs fs B X (hW.below (hbX.mono hB)) (hR.below (hbX.mono hB)) hUW hA.ur (by have := hbX.size; omega) hA hws).mono ?_
    rintro e w' ⟨rfl, h⟩
    exact ⟨_, rfl, by rw [hlen], h⟩
  have HcB : Hid (∀ X, Below W0.heap.size W0 X → Calls Try.prog 14 #[.agg #[.slice bw vs.length dw, .slice br us.length dr]] X fun e w' => ∃ v, e = .returned v ∧ RdP X fs' us v w') := by
    intro X hb
    have hbX : Below w.heap.size w X := hb0.trans (hb.mono (by omega))
    exact read_p bw br dw dr vs us hs' fs' B X (hV.below (hbX.mono hB)) (hU.below (hbX.mono hB)) hUV hA'.ur (by have := hbX.size; omega) hA' hvs
  have HcA : Hid (∀ X, Below W0.heap.size W0 X → Calls Try.prog 14 #[.agg #[.slice aw ws.length cw, .slice ar rs.length cr]] X fun e w' => ∃ v, e = .returned v ∧ RdP X fs rs v w') := by
    intro X hb
    have hbX : Below w.heap.size w X := hb0.trans (hb.mono (by omega))
    exact read_p aw ar cw cr ws rs hs fs B X (hW.below (hbX.mono hB)) (hR.below (hbX.mono hB)) hUW hA.ur (by have := hbX.size; omega) hA hws
  have hG' := good_read hA'
  have hG := good_read hA
  have hsm : (sameN (readG fs' us) (readG fs rs) 256).isSome = true := (same_iff hG' hG).2 hsame
  have HcM : Hid (∀ (X : World) ao ar co cr bo br do' dr, Objs X.heap.size X ao (readG fs' us).objs → Vals X.heap.size X ar (readG fs' us).roots → Objs X.heap.size X bo (readG fs rs).objs → Vals X.heap.size X br (readG fs rs).roots →
      Calls Try.prog 30 #[.agg #[.slice ao (readG fs' us).objs.length co, .slice ar (readG fs' us).roots.length cr], .agg #[.slice bo (readG fs rs).objs.length do', .slice br (readG fs rs).roots.length dr]] X fun e w' => ∃ v, e = .returned v ∧ v = .bool true ∧ Below X.heap.size X w') := by
    intro X ao ar co cr bo br do' dr h1 h2 h3 h4
    refine (refSame_c ao ar bo br co cr do' dr (readG fs' us) (readG fs rs) X.heap.size X h1 h2 h3 h4 (Nat.le_refl _) hG' hG).mono ?_
    rintro e w' ⟨rfl, h⟩
    exact ⟨_, rfl, by rw [hsm], h⟩
  clear hsm hG hG' hsame hlen hws hA hvs hA' hV hU hW hR hUV hUW
  have hbd : Below W0.heap.size W0 W0.drew := (Below.refl _ _).drew
  go_enter Try.func12, Try.ntmps12
  go_wp2_with fail
  clear hW0
  go_region_law (first
    | (refine step_call rfl 10 #[.agg #[.slice bw vs.length dw, .slice br us.length dr]] (by go_simp) (fun v w' => v = .bool true ∧ Below W0.drew.heap.size W0.drew w') (unhide HcS _ hbd) ?_; rintro vS w1 ⟨rfl, hbS⟩; have hb1 : Below W0.heap.size W0 w1 := hbd.trans hbS; have k0p := (hb1.cell (p := ⟨w.heap.size, 0, none⟩) hs0').trans k0; have k1p := (hb1.cell (p := ⟨w.heap.size, 1, none⟩) hs0').trans k1; have g0p := (hb1.cell (p := ⟨w.heap.size + 1, 0, none⟩) hs0).trans g0; have g1p := (hb1.cell (p := ⟨w.heap.size + 1, 1, none⟩) hs0).trans g1; have lap : w.heap.size < w1.heap.size := Nat.lt_of_lt_of_le hs0' hb1.size; have lbp : w.heap.size + 1 < w1.heap.size := Nat.lt_of_lt_of_le hs0 hb1.size)
    | (refine step_call_w (by rfl) 16 #[.agg #[.slice aw ws.length cw, .slice ar rs.length cr]] (by go_simp) (fun v w' => v = .int .i64 (vs.length : Nat) ∧ Below w1.heap.size w1 w') (unhide HcZ _ hb1) ?_; rintro vZ w2 ⟨rfl, hbZ⟩; have hb2 : Below W0.heap.size W0 w2 := hb1.trans (hbZ.mono hb1.size); have k0q := (hb2.cell (p := ⟨w.heap.size, 0, none⟩) hs0').trans k0; have k1q := (hb2.cell (p := ⟨w.heap.size, 1, none⟩) hs0').trans k1; have g0q := (hb2.cell (p := ⟨w.heap.size + 1, 0, none⟩) hs0).trans g0; have g1q := (hb2.cell (p := ⟨w.heap.size + 1, 1, none⟩) hs0).trans g1; have laq : w.heap.size < w2.heap.size := Nat.lt_of_lt_of_le hs0' hb2.size; have lbq : w.heap.size + 1 < w2.heap.size := Nat.lt_of_lt_of_le hs0 hb2.size)
    | (refine step_call_w (by rfl) 14 #[.agg #[.slice bw vs.length dw, .slice br us.length dr]] (by go_simp) (fun v w' => RdP w2 fs' us v w') (unhide HcB _ hb2) ?_; rintro vB w3 ⟨bo, bc, b2, b3, rfl, hOB, hVB, hbB⟩; have hb3 : Below W0.heap.size W0 w3 := hb2.trans (hbB.mono hb2.size); have g0r := (hb3.cell (p := ⟨w.heap.size + 1, 0, none⟩) hs0).trans g0; have g1r := (hb3.cell (p := ⟨w.heap.size + 1, 1, none⟩) hs0).trans g1; have lar : w.heap.size < w3.heap.size := Nat.lt_of_lt_of_le hs0' hb3.size; have lbr : w.heap.size + 1 < w3.heap.size := Nat.lt_of_lt_of_le hs0 hb3.size)
    | (refine step_call_w (by rfl) 30 #[.agg #[.slice bo (readG fs' us).objs.length bc, .slice b2 (readG fs' us).roots.length b3], .agg #[.slice ao (readG fs rs).objs.length ac, .slice a2 (readG fs rs).roots.length a3]] (by go_simp) (fun v w' => v = .bool true ∧ Below w4.heap.size w4 w') (unhide HM) ?_; rintro vM w5 ⟨rfl, hbM⟩; have hb5 : Below W0.heap.size W0 w5 := hb4.trans (hbM.mono hb4.size))
    | (refine step_call_w (by rfl) 14 #[.agg #[.slice aw ws.length cw, .slice ar rs.length cr]] (by go_simp) (fun v w' => RdP w3 fs rs v w') (unhide HcA _ hb3) ?_; rintro vA w4 ⟨ao, ac, a2, a3, rfl, hOA, hVA, hbA⟩; have hb4 : Below W0.heap.size W0 w4 := hb3.trans (hbA.mono hb3.size); have hOB4 := (hOB.below hbA).mono hbA.size; have hVB4 := (hVB.below hbA).mono hbA.size; have HM := hide (unhide HcM w4 bo b2 bc b3 ao a2 ac a3 hOB4 hVB4 hOA hVA)))
  all_goals
    go_wp2
    go_ret
    exact ⟨rfl, hb0.trans (hb5.mono (by omega))⟩

end Go.Proofs.Ytklihkalcmchpaa

/- Walks: the document's answer: Values, Graphs. -/
namespace Go.Proofs.Ytklihkalcmchpaa
set_option linter.unusedSimpArgs false
set_option linter.unusedVariables false
open Go.RowKit

set_option maxRecDepth 100000 in
set_option maxHeartbeats 1000000 in
theorem values_eq_c (a1 a2 : Option Addr) (c1 c2 : Nat) (l1 l2 : List V) (B : Nat) (w : World) (h1 : Vals B w a1 l1) (h2 : Vals B w a2 l2) (hB : B ≤ w.heap.size) :
    Calls Try.prog 31 #[.slice a1 l1.length c1, .slice a2 l2.length c2] w fun e w' => e = .returned (.bool (decide (l1 = l2))) ∧ Below w.heap.size w w' := by
  have hl1 := h1.1
  have hl2 := h2.1
  by_cases hl : l1.length = l2.length
  · have d1 : ((l1.length : Int) != (l2.length : Int)) = false := by simp [hl]
    have d2 : ((l2.length : Int) != (l2.length : Int)) = false := by simp
    rw [hl]
    go_enter Try.func31, Try.ntmps31
    go_wp2
    go_loopw [5] (fun i wr => ∃ k : Nat, k ≤ l2.length ∧ i = .int .i64 k ∧ l1.take k = l2.take k ∧ Below w.heap.size w wr) (fun i _ => l2.length - (intOf i).toNat)
    case atStart => exact ⟨0, Nat.zero_le _, rfl, by simp, Below.refl _ _⟩
    case round =>
      obtain ⟨k, hk, rfl, heq, hb⟩ := hrel
      have Heq := hide heq
      clear heq
      by_cases hlt : k < l2.length
      · have hlt1 : k < l1.length := by omega
        obtain ⟨b1, o1, r1, n1, rfl, hbB1, hx1, hx2, Hv1⟩ := (h1.below (hb.mono hB)).at hlt1
        obtain ⟨b2, o2, r2, n2, rfl, hbB2, hy1, hy2, Hv2⟩ := (h2.below (hb.mono hB)).at hlt
        have hltI : (k : Int) < (l2.length : Int) := by omega
        have hgd := guard35
        have HT1 := hide (List.take_succ_eq_append_getElem hlt1)
        have HT2 := hide (List.take_succ_eq_append_getElem hlt)
        rw [Hv1.out] at HT1
        rw [Hv2.out] at HT2
        cases hE : (r1 == r2 && n1 == n2)
        · have he : ∀ w, (Op.equalIn 10000 56 (.agg #[.bool r1, .int .i64 n1]) (.agg #[.bool r2, .int .i64 n2])).run Try.prog w = .ok false w := fun w => by rw [eql_in, hE]
          have HE := hide hE
          clear hE
          go_wp2
          go_still Try.mixed
          go_wp2
          go_ret
          refine ⟨ret_bool (Eq.symm ?_), hb.trans (Below.refl _ _).drew⟩
          rw [decide_eq_false_iff_not]
          intro e
          subst e
          have := Hv1.out.symm.trans Hv2.out
          simp only [Prod.mk.injEq] at this
          have := unhide HE
          simp_all
        · have he : ∀ w, (Op.equalIn 10000 56 (.agg #[.bool r1, .int .i64 n1]) (.agg #[.bool r2, .int .i64 n2])).run Try.prog w = .ok true w := fun w => by rw [eql_in, hE]
          have HE := hide hE
          clear hE
          go_wp2
          go_still Try.mixed
          go_wp2
          go_roundw
          case rel =>
            refine ⟨k + 1, by omega, by go_num, ?_, hb.trans (Below.refl _ _).drew⟩
            rw [unhide HT1, unhide HT2, unhide Heq]
            have := unhide HE
            simp at this
            rw [this.1, this.2]
          case measure => simp [intOf]; omega
      · obtain rfl : k = l2.length := by omega
        go_wp2
        go_ret
        refine ⟨ret_bool (Eq.symm ?_), hb⟩
        rw [decide_eq_true_iff]
        have := unhide Heq
        rw [List.take_length, ← hl, List.take_length] at this
        exact this
  · have d1 : ((l1.length : Int) != (l2.length : Int)) = true := by simp; omega
    go_enter Try.func31, Try.ntmps31
    go_wp2
    go_ret
    refine ⟨ret_bool (Eq.symm ?_), Below.refl _ _⟩
    rw [decide_eq_false_iff_not]
    intro e
    exact hl (by rw [e])

set_option maxRecDepth 100000 in
set_option maxHeartbeats 1000000 in
theorem graphs_c (ao ar bo br : Option Addr) (co cr do' dr : Nat) (g h : Gr) (B : Nat) (w : World) (ho : Objs B w ao g.objs) (hr : Vals B w ar g.roots) (ko : Objs B w bo h.objs) (kr : Vals B w br h.roots) (hB : B ≤ w.heap.size) :
    Calls Try.prog 13 #[.agg #[.slice ao g.objs.length co, .slice ar g.roots.length cr], .agg #[.slice bo h.objs.length do', .slice br h.roots.length dr]] w fun e w' => e = .returned (.bool (sameG g h)) ∧ Below w.heap.size w w' := by
  have ho1 := ho.1
  have ko1 := ko.1
  obtain ⟨W0, hW0⟩ : ∃ W0, (w.alloc (.cells #[.slice ao g.objs.length co, .slice ar g.roots.length cr] 36)).alloc (.cells #[.slice bo h.objs.length do', .slice br h.roots.length dr] 36) = W0 := ⟨_, rfl⟩
  have hb0 : Below w.heap.size w W0 := by rw [← hW0]; exact ((Below.refl _ _).alloc (Nat.le_refl _) _).alloc (by simp) _
  have hs0 : w.heap.size + 1 < W0.heap.size := by rw [← hW0]; simp
  have g0 : W0.cell? ⟨w.heap.size, 0, none⟩ = some (.slice ao g.objs.length co) := by rw [← hW0]; simp [go_sem]
  have g1 : W0.cell? ⟨w.heap.size, 1, none⟩ = some (.slice ar g.roots.length cr) := by rw [← hW0]; simp [go_sem]
  have k0 : W0.cell? ⟨w.heap.size + 1, 0, none⟩ = some (.slice bo h.objs.length do') := by rw [← hW0]; simp [go_sem]
  have k1 : W0.cell? ⟨w.heap.size + 1, 1, none⟩ = some (.slice br h.roots.length dr) := by rw [← hW0]; simp [go_sem]
  by_cases hl : g.objs.length = h.objs.length
  · have d1 : ((g.objs.length : Int) != (h.objs.length : Int)) = false := by simp [hl]
    have d2 : ((h.objs.length : Int) != (h.objs.length : Int)) = false := by simp
    have hla : g.objs.length ≤ h.objs.length := by omega
    have hlb : h.objs.length ≤ g.objs.length := by omega
    have Hl := hide hl
    clear hl
    cases hE : decide (g.roots = h.roots)
    · have HE := hide hE
      have Hs := hide (show sameG g h = false from by unfold sameG; rw [hE]; rfl)
      clear hE
      go_enter Try.func13, Try.ntmps13
      go_wp2_with (go_at_call 31; go_must (refine (values_eq_c _ _ _ _ g.roots h.roots B _ (hr.below (hb0.mono hB)) (kr.below (hb0.mono hB)) (by omega)).mono ?_); go_must (rintro e w3 ⟨he, hb3⟩; rw [unhide HE] at he; subst he))
      go_ret
      exact ⟨ret_bool (unhide Hs).symm, hb0.trans (hb3.mono (by omega))⟩
    · have HE := hide hE
      have Hs := hide (show sameG g h = decide (g.objs = h.objs) from by unfold sameG; rw [hE]; simp)
      clear hE
      go_enter Try.func13, Try.ntmps13
      go_wp2_with (go_at_call 31; go_must (refine (values_eq_c _ _ _ _ g.roots h.roots B _ (hr.below (hb0.mono hB)) (kr.below (hb0.mono hB)) (by omega)).mono ?_); go_must (rintro e w3 ⟨he, hb3⟩; rw [unhide HE] at he; subst he))
      clear hW0
      go_loopw [5] (fun i wr => ∃ k : Nat, k ≤ h.objs.length ∧ i = .int .i64 k ∧ g.objs.take k = h.objs.take k ∧ Below W0.heap.size W0 wr) (fun i _ => h.objs.length - (intOf i).toNat)
      case atStart => exact ⟨0, Nat.zero_le _, rfl, by simp, hb3⟩
      case round =>
        obtain ⟨k, hk, rfl, heq, hb⟩ := hrel
        have hsz := hb.size
        have Heq := hide heq
        clear heq
        have hbw : Below B w wr := (hb0.mono hB).trans (hb.mono (by omega))
        have g0 := (hb.cell (p := ⟨w.heap.size, 0, none⟩) (by simp; omega)).trans g0
        have k0 := (hb.cell (p := ⟨w.heap.size + 1, 0, none⟩) (by simp; omega)).trans k0
        by_cases hlt : k < h.objs.length
        · have hlt1 : k < g.objs.length := by omega
          obtain ⟨b1, o1, ai1, ci1, rfl, hbB1, hx1, hv1⟩ := (ho.below hbw).at hlt1
          obtain ⟨b2, o2, ai2, ci2, rfl, hbB2, hy1, hv2⟩ := (ko.below hbw).at hlt
          have HT1 := hide (List.take_succ_eq_append_getElem hlt1)
          have HT2 := hide (List.take_succ_eq_append_getElem hlt)
          have HN : Hid (g.objs[k] ≠ h.objs[k] → g.objs ≠ h.objs) := fun hne e => hne (by simp only [e])
          generalize g.objs[k] = f1 at *
          generalize h.objs[k] = f2 at *
          have hkI : (k : Int) < (h.objs.length : Int) := by omega
          have hkI1 : (k : Int) < (g.objs.length : Int) := by omega
          have hv1d := hv1.below (Below.refl B wr).drew
          have hv2d := hv2.below (Below.refl B wr).drew
          have hBd : B ≤ wr.drew.heap.size := by show B ≤ wr.heap.size; omega
          cases hE : decide (f1 = f2)
          · have HE := hide hE
            clear hE
            go_wp2
            go_still_tail 12, Try.mixed
            go_wp2_with (go_at_call 31; go_must (refine (values_eq_c _ _ _ _ f1 f2 B _ hv1d hv2d hBd).mono ?_); go_must (rintro e w4 ⟨he, hb4⟩; rw [unhide HE] at he; subst he))
            go_ret
            refine ⟨ret_bool (Eq.symm ?_), hb0.trans ((hb.mono (by omega)).trans ((Below.refl _ _).drew.trans (hb4.mono (by show w.heap.size ≤ wr.heap.size; omega))))⟩
            rw [unhide Hs, decide_eq_false_iff_not]
            exact unhide HN (by simpa using unhide HE)
          · have HE := hide hE
            clear hE
            go_wp2
            go_still_tail 12, Try.mixed
            go_wp2_with (go_at_call 31; go_must (refine (values_eq_c _ _ _ _ f1 f2 B _ hv1d hv2d hBd).mono ?_); go_must (rintro e w4 ⟨he, hb4⟩; rw [unhide HE] at he; subst he))
            go_roundw
            case rel =>
              refine ⟨k + 1, by omega, by go_num, ?_, hb.trans ((Below.refl _ _).drew.trans (hb4.mono (by show W0.heap.size ≤ wr.heap.size; omega)))⟩
              rw [unhide HT1, unhide HT2, unhide Heq, of_decide_eq_true (unhide HE)]
            case measure => simp [intOf]; omega
        · obtain rfl : k = h.objs.length := by omega
          go_wp2
          go_ret
          refine ⟨ret_bool (Eq.symm ?_), hb0.trans (hb.mono (by omega))⟩
          rw [unhide Hs, decide_eq_true_iff]
          have := unhide Heq
          rw [List.take_length, ← unhide Hl, List.take_length] at this
          exact this
  · have d1 : ((g.objs.length : Int) != (h.objs.length : Int)) = true := by simp; omega
    go_enter Try.func13, Try.ntmps13
    go_wp2
    go_ret
    refine ⟨ret_bool (Eq.symm ?_), hb0⟩
    have : decide (g.objs = h.objs) = false := by rw [decide_eq_false_iff_not]; intro e; exact hl (by rw [e])
    unfold sameG; rw [this]; simp

end Go.Proofs.Ytklihkalcmchpaa

/- Walks: MoveCheney. -/
namespace Go.Proofs.Ytklihkalcmchpaa
set_option linter.unusedSimpArgs false
set_option linter.unusedVariables false
open Go.RowKit Go.Shelf

theorem sameG_refl (g : Gr) : sameG g g = true := by simp [sameG]

theorem canon_canon {g : Gr} (h : Good g) : canonG (canonG g) = canonG g := by
  rw [canon_renL g, canon_ren h (whole_order h), canon_renL g]

theorem mvL_len (hs : List Int) (fs : List (List Int)) (rs : List Int) : (mvL hs fs rs).length = tot (mF fs rs) := by
  rw [mvL_eq]; exact joinW_len _ _ (by rw [mH_len, mF_len])

set_option maxRecDepth 100000 in
set_option maxHeartbeats 8000000 in
theorem cheney_c (aw ar : Option Addr) (cw cr : Nat) (ws rs : List Int) (w : World) (hW : Wds w.heap.size w aw ws) (hR : Wds w.heap.size w ar rs) (hUW : U64 ws) (hUR : U64 rs) (hcap : ws.length ≤ cw) :
    Calls Try.prog 4 #[.agg #[.slice aw ws.length cw, .slice ar rs.length cr]] w fun e w' => e = .returned (.bool true) ∧ Below w.heap.size w w' := by
  obtain ⟨W1, hW1⟩ : ∃ W1, w.alloc (.cells #[.slice aw ws.length cw, .slice ar rs.length cr] 24) = W1 := ⟨_, rfl⟩
  have hb1 : Below w.heap.size w W1 := by rw [← hW1]; exact (Below.refl w.heap.size w).alloc (Nat.le_refl _) _
  have hs1 : w.heap.size < W1.heap.size := by rw [← hW1]; simp
  have g0 : W1.cell? ⟨w.heap.size, 0, none⟩ = some (.slice aw ws.length cw) := by rw [← hW1]; simp [go_sem]
  have g1 : W1.cell? ⟨w.heap.size, 1, none⟩ = some (.slice ar rs.length cr) := by rw [← hW1]; simp [go_sem]
  have Hc1 := hide (sound_c aw ar cw cr ws rs w.heap.size W1 (hW.below hb1) (hR.below hb1) hUW hUR (by omega))
  go_enter Try.func4, Try.ntmps4
  go_wp2_with fail
  refine (unhide Hc1).mono ?_
  rintro e w2 ⟨rfl, hb2⟩
  have hs2 := hb2.size
  have hbw2 : Below w.heap.size w w2 := hb1.trans (hb2.mono (by omega))
  replace g0 := (hb2.cell (p := ⟨w.heap.size, 0, none⟩) hs1).trans g0
  replace g1 := (hb2.cell (p := ⟨w.heap.size, 1, none⟩) hs1).trans g1
  have hl2 : w.heap.size < w2.heap.size := by omega
  clear hb1 hb2 Hc1 hW1
  by_cases hE : arenaE ws rs = 0
  · have d0 : (arenaE ws rs == 0) = true := by simp [hE]
    rw [d0]
    have HE := hide hE
    have Hc2 := hide (copy_c aw ar cw cr ws rs w.heap.size w2 (hW.below hbw2) (hR.below hbw2) hUW hUR (by omega) hcap)
    clear hE d0
    go_wp2_with fail
    refine (unhide Hc2).mono ?_
    rintro e w3 ⟨hres, hb3⟩
    rcases hres.use with ⟨hE', _⟩ | ⟨_, hs, fs, ba, bc, ba', bc', hA, hws, he, hBL, hBR, _⟩
    · exact absurd (unhide HE) hE'
    subst he
    have hs3 := hb3.size
    have hbw3 : Below w.heap.size w w3 := hbw2.trans (hb3.mono (by omega))
    obtain ⟨W0, hW0⟩ : ∃ W0, w3.alloc (.cells #[.slice ba (mvL hs fs rs).length bc, .slice ba' (mvR fs rs).length bc'] 24) = W0 := ⟨_, rfl⟩
    have hb0 : Below w3.heap.size w3 W0 := by rw [← hW0]; exact (Below.refl _ w3).alloc (Nat.le_refl _) _
    have hsk : w3.heap.size < W0.heap.size := by rw [← hW0]; simp
    have hsg : w.heap.size < W0.heap.size := by omega
    have k0 : W0.cell? ⟨w3.heap.size, 0, none⟩ = some (.slice ba (mvL hs fs rs).length bc) := by rw [← hW0]; simp [go_sem]
    have k1 : W0.cell? ⟨w3.heap.size, 1, none⟩ = some (.slice ba' (mvR fs rs).length bc') := by rw [← hW0]; simp [go_sem]
    replace g0 := (hb0.cell (p := ⟨w.heap.size, 0, none⟩) (by simp; omega)).trans ((hb3.cell (p := ⟨w.heap.size, 0, none⟩) hl2).trans g0)
    replace g1 := (hb0.cell (p := ⟨w.heap.size, 1, none⟩) (by simp; omega)).trans ((hb3.cell (p := ⟨w.heap.size, 1, none⟩) hl2).trans g1)
    have hbW : Below w.heap.size w W0 := hbw3.trans (hb0.mono (by omega))
    have hBL0 := (hBL.below hb0).mono (Nat.le_of_lt hsk)
    have hBR0 := (hBR.below hb0).mono (Nat.le_of_lt hsk)
    have hA' := arn_moved hA
    have hG := good_read hA
    have hcc := canon_canon hG
    have hrm := read_moved hA
    have HcL : Hid (∀ X, Below W0.heap.size W0 X → Calls Try.prog 12 #[.agg #[.slice ba (mvL hs fs rs).length bc, .slice ba' (mvR fs rs).length bc'], .agg #[.slice aw ws.length cw, .slice ar rs.length cr]] X fun e w' => ∃ v, e = .returned v ∧ v = .bool true ∧ Below X.heap.size X w') := by
      intro X hb
      have hbX : Below w.heap.size w X := hbW.trans (hb.mono (by omega))
      refine (left_c ba ba' aw ar bc bc' cw cr (mvL hs fs rs) (mvR fs rs) ws rs (mH hs fs rs) (mF fs rs) hs fs X.heap.size X ((hBL0.below hb).mono hb.size) ((hBR0.below hb).mono hb.size) ((hW.below hbX).mono hbX.size) ((hR.below hbX).mono hbX.size) (Nat.le_refl _) hA' rfl hA hws (mvL_len _ _ _) (by rw [hrm, hcc])).mono ?_
      rintro e w' ⟨rfl, h⟩
      exact ⟨_, rfl, rfl, h⟩
    have HcB : Hid (∀ X, Below W0.heap.size W0 X → Calls Try.prog 14 #[.agg #[.slice ba (mvL hs fs rs).length bc, .slice ba' (mvR fs rs).length bc']] X fun e w' => ∃ v, e = .returned v ∧ RnP X (readG fs rs) v w') := by
      intro X hb
      have h := read_p ba ba' bc bc' (mvL hs fs rs) (mvR fs rs) (mH hs fs rs) (mF fs rs) X.heap.size X ((hBL0.below hb).mono hb.size) ((hBR0.below hb).mono hb.size) (by rw [mvL_eq]; exact joinW_u64 hA' hA'.fit) hA'.ur (Nat.le_refl _) hA' rfl
      unfold RdP at h
      rw [hrm] at h
      exact h
    have HcA : Hid (∀ X, Below W0.heap.size W0 X → Calls Try.prog 14 #[.agg #[.slice aw ws.length cw, .slice ar rs.length cr]] X fun e w' => ∃ v, e = .returned v ∧ RdP X fs rs v w') := by
      intro X hb
      have hbX : Below w.heap.size w X := hbW.trans (hb.mono (by omega))
      exact read_p aw ar cw cr ws rs hs fs X.heap.size X ((hW.below hbX).mono hbX.size) ((hR.below hbX).mono hbX.size) hUW hUR (Nat.le_refl _) hA hws
    have HcC : Hid (∀ (X : World) ao ar co cr, Objs X.heap.size X ao (readG fs rs).objs → Vals X.heap.size X ar (readG fs rs).roots →
        Calls Try.prog 15 #[.agg #[.slice ao (readG fs rs).objs.length co, .slice ar (readG fs rs).roots.length cr]] X fun e w' => ∃ v, e = .returned v ∧ RnP X (readG fs rs) v w') := by
      intro X ao ar co cr h1 h2
      refine (refCanon_c ao ar co cr (readG fs rs) X.heap.size X h1 h2 (Nat.le_refl _) hG).mono ?_
      rintro e w' ⟨x1, x2, x3, x4, rfl, h3, h4, h5⟩
      exact ⟨_, rfl, _, _, _, _, rfl, h3, h4, h5⟩
    have HcG : Hid (∀ (X : World) ao ar co cr bo br do' dr, Objs X.heap.size X ao (canonG (readG fs rs)).objs → Vals X.heap.size X ar (canonG (readG fs rs)).roots → Objs X.heap.size X bo (canonG (readG fs rs)).objs → Vals X.heap.size X br (canonG (readG fs rs)).roots →
        Calls Try.prog 13 #[.agg #[.slice ao (canonG (readG fs rs)).objs.length co, .slice ar (canonG (readG fs rs)).roots.length cr], .agg #[.slice bo (canonG (readG fs rs)).objs.length do', .slice br (canonG (readG fs rs)).roots.length dr]] X fun e w' => ∃ v, e = .returned v ∧ v = .bool true ∧ Below X.heap.size X w') := by
      intro X ao ar co cr bo br do' dr h1 h2 h3 h4
      refine (graphs_c ao ar bo br co cr do' dr (canonG (readG fs rs)) (canonG (readG fs rs)) X.heap.size X h1 h2 h3 h4 (Nat.le_refl _)).mono ?_
      rintro e w' ⟨rfl, h⟩
      exact ⟨_, rfl, by rw [sameG_refl], h⟩
    have hbd : Below W0.heap.size W0 W0.drew := (Below.refl _ _).drew
    clear hrm hcc hG hA' hBL hBR hBL0 hBR0 hA hws hW hR hUW hUR Hc2 hres hb3 hb0 HE
    generalize mvL hs fs rs = BL at *
    generalize mvR fs rs = BR at *
    go_wp2_with fail
    clear hW0
    go_region_law (first
      | (refine step_call_w (by rfl) 12 #[.agg #[.slice ba BL.length bc, .slice ba' BR.length bc'], .agg #[.slice aw ws.length cw, .slice ar rs.length cr]] (by go_simp) (fun v w' => v = .bool true ∧ Below W0.drew.heap.size W0.drew w') (unhide HcL _ hbd) ?_; rintro vS w5 ⟨rfl, hbS⟩; have hb5 : Below W0.heap.size W0 w5 := hbd.trans hbS; have k0p := (hb5.cell (p := ⟨w3.heap.size, 0, none⟩) hsk).trans k0; have k1p := (hb5.cell (p := ⟨w3.heap.size, 1, none⟩) hsk).trans k1; have g0p := (hb5.cell (p := ⟨w.heap.size, 0, none⟩) hsg).trans g0; have g1p := (hb5.cell (p := ⟨w.heap.size, 1, none⟩) hsg).trans g1; have lap : w3.heap.size < w5.heap.size := Nat.lt_of_lt_of_le hsk hb5.size; have lbp : w.heap.size < w5.heap.size := Nat.lt_of_lt_of_le hsg hb5.size)
      | (refine step_call_w (by rfl) 14 #[.agg #[.slice ba BL.length bc, .slice ba' BR.length bc']] (by go_simp) (fun v w' => RnP w5 (readG fs rs) v w') (unhide HcB _ hb5) ?_; rintro vB w6 ⟨bo, bc1, b2, b3, rfl, hOB, hVB, hbB⟩; have hb6 : Below W0.heap.size W0 w6 := hb5.trans (hbB.mono hb5.size); have g0q := (hb6.cell (p := ⟨w.heap.size, 0, none⟩) hsg).trans g0; have g1q := (hb6.cell (p := ⟨w.heap.size, 1, none⟩) hsg).trans g1; have laq : w3.heap.size < w6.heap.size := Nat.lt_of_lt_of_le hsk hb6.size; have lbq : w.heap.size < w6.heap.size := Nat.lt_of_lt_of_le hsg hb6.size)
      | (refine step_call_w (by rfl) 14 #[.agg #[.slice aw ws.length cw, .slice ar rs.length cr]] (by go_simp) (fun v w' => RdP w6 fs rs v w') (unhide HcA _ hb6) ?_; rintro vA w7 ⟨ao, ac, a2, a3, rfl, hOA, hVA, hbA⟩; have hb7 : Below W0.heap.size W0 w7 := hb6.trans (hbA.mono hb6.size); have hOB7 := (hOB.below hbA).mono hbA.size; have hVB7 := (hVB.below hbA).mono hbA.size; have HC := hide (unhide HcC w7 ao a2 ac a3 hOA hVA))
      | (refine step_call_w (by rfl) 15 #[.agg #[.slice ao (readG fs rs).objs.length ac, .slice a2 (readG fs rs).roots.length a3]] (by go_simp) (fun v w' => RnP w7 (readG fs rs) v w') (unhide HC) ?_; rintro vC w8 ⟨co1, cc, c2, c3, rfl, hOC, hVC, hbC⟩; have hb8 : Below W0.heap.size W0 w8 := hb7.trans (hbC.mono hb7.size); have hOB8 := (hOB7.below hbC).mono hbC.size; have hVB8 := (hVB7.below hbC).mono hbC.size; have HM := hide (unhide HcG w8 bo b2 bc1 b3 co1 c2 cc c3 hOB8 hVB8 hOC hVC))
      | (refine step_call_w (by rfl) 13 #[.agg #[.slice bo (canonG (readG fs rs)).objs.length bc1, .slice b2 (canonG (readG fs rs)).roots.length b3], .agg #[.slice co1 (canonG (readG fs rs)).objs.length cc, .slice c2 (canonG (readG fs rs)).roots.length c3]] (by go_simp) (fun v w' => v = .bool true ∧ Below w8.heap.size w8 w') (unhide HM) ?_; rintro vM w9 ⟨rfl, hbM⟩; have hb9 : Below W0.heap.size W0 w9 := hb8.trans (hbM.mono hb8.size)))
    all_goals
      go_wp2
      go_ret
      exact ⟨rfl, hbW.trans (hb9.mono (by omega))⟩
  · have d0 : (arenaE ws rs == 0) = false := by simp [hE]
    have HE := hide hE
    rw [d0]
    have Hc2 := hide (unsound_c aw ar cw cr ws rs w.heap.size w2 (hW.below hbw2) (hR.below hbw2) hUW hUR (by omega) hcap)
    clear hE
    go_wp2_with fail
    refine (unhide Hc2).mono ?_
    rintro e w3 ⟨he, hb3⟩
    have d3 : (arenaE ws rs != 0) = true := by simpa using unhide HE
    rw [d3] at he
    subst he
    go_wp2
    go_ret
    exact ⟨rfl, hbw2.trans (hb3.mono (by omega))⟩

end Go.Proofs.Ytklihkalcmchpaa

/- Plain: what was moved is moved to where it is, one older. -/
namespace Go.Proofs.Ytklihkalcmchpaa
set_option linter.unusedSimpArgs false
set_option linter.unusedVariables false
open Go.RowKit

theorem place_self {O : List Int} (h : O.Nodup) : O.map (placeOf O) = (List.range O.length).map (fun (i : Nat) => (i : Int)) := by
  apply List.ext_getElem?
  intro k
  rw [List.getElem?_map, List.getElem?_map]
  by_cases hk : k < O.length
  · rw [List.getElem?_eq_getElem hk, List.getElem?_range hk]
    simp only [Option.map_some]
    rw [placeOf_nodup h (List.getElem?_eq_getElem hk)]
  · rw [List.getElem?_eq_none (by omega), List.getElem?_eq_none (by simp; omega)]
    rfl

/-- The order of what was moved. -/
theorem order_moved {hs : List Int} {fs : List (List Int)} {rs : List Int} (h : Arn hs fs rs) : orderOf (readG (mF fs rs) (mvR fs rs)) = (List.range (mF fs rs).length).map (fun (i : Nat) => (i : Int)) := by
  have hG := good_read h
  rw [read_moved h, canon_renL, (order_ren hG (whole_order hG)).1, place_self (order_nodup hG), mF_len]

theorem map_range_get {α β : Type} {l : List α} {f : Int → β} {g : α → β} (h : ∀ (k : Nat) (x : α), l[k]? = some x → f (k : Int) = g x) : ((List.range l.length).map (fun (i : Nat) => (i : Int))).map f = l.map g := by
  apply List.ext_getElem?
  intro k
  rw [List.getElem?_map, List.getElem?_map, List.getElem?_map]
  by_cases hk : k < l.length
  · rw [List.getElem?_range hk, List.getElem?_eq_getElem hk]
    simp only [Option.map_some]
    rw [h k _ (List.getElem?_eq_getElem hk)]
  · rw [List.getElem?_eq_none (by simp; omega), List.getElem?_eq_none (by omega)]
    rfl

theorem fO_range (F : List (List Int)) : ((List.range F.length).map (fun (i : Nat) => (i : Int))).map (fO F) = F := by
  have := map_range_get (l := F) (f := fO F) (g := id) (fun k x hx => by simp [fO, List.getD_eq_getElem?_getD, hx])
  rw [this, List.map_id]

theorem place_range {n k : Nat} (hk : k < n) : placeOf ((List.range n).map (fun (i : Nat) => (i : Int))) (k : Int) = (k : Int) := by
  refine placeOf_nodup ?_ ?_
  · unfold List.Nodup
    rw [List.pairwise_map]
    exact List.nodup_range.imp (fun h e => h (by omega))
  · rw [List.getElem?_map, List.getElem?_range hk]; rfl

theorem tw_self {hs : List Int} {fs : List (List Int)} {rs : List Int} (h : Arn hs fs rs) {x : Int} (h1 : 0 ≤ x) (h2 : x < 18446744073709551616) (hok : okW (stF 0 fs) x = true) : twW fs ((List.range fs.length).map (fun (i : Nat) => (i : Int))) x = x := by
  have hw := word_back (stF_nodup fs 0) h1 h2 hok
  have hr : renV ((List.range fs.length).map (fun (i : Nat) => (i : Int))) (valW (stF 0 fs) x) = valW (stF 0 fs) x := by
    cases hv : (valW (stF 0 fs) x).1
    · unfold renV; rw [hv]; rfl
    · obtain ⟨j, hj, e⟩ := ok_val h hok hv
      rw [e]
      unfold renV
      simp only [if_true]
      rw [place_range hj]
  unfold twW
  rw [fO_range, hr]
  exact hw.1

theorem mF_moved {hs : List Int} {fs : List (List Int)} {rs : List Int} (h : Arn hs fs rs) : mF (mF fs rs) (mvR fs rs) = mF fs rs := by
  have hA := arn_moved h
  have e := order_moved h
  generalize mF fs rs = F at *
  generalize mvR fs rs = R at *
  unfold mF
  rw [e]
  have := map_range_get (l := F) (f := fun o => (fO F o).map (twW F ((List.range F.length).map (fun (i : Nat) => (i : Int))))) (g := id) (fun k f hf => by
    have ef : fO F (k : Int) = f := by simp [fO, List.getD_eq_getElem?_getD, hf]
    have hm := List.mem_of_getElem? hf
    show (fO F (k : Int)).map _ = f
    rw [ef]
    conv => rhs; rw [← List.map_id f]
    apply List.map_congr_left
    intro x hx
    exact tw_self hA (hA.uf f hm x hx).1 (hA.uf f hm x hx).2 (hA.okf f hm x hx))
  rw [this, List.map_id]

theorem mR_moved {hs : List Int} {fs : List (List Int)} {rs : List Int} (h : Arn hs fs rs) : mvR (mF fs rs) (mvR fs rs) = mvR fs rs := by
  have hA := arn_moved h
  have e := order_moved h
  generalize mF fs rs = F at *
  generalize mvR fs rs = R at *
  unfold mvR
  rw [e]
  conv => rhs; rw [← List.map_id R]
  apply List.map_congr_left
  intro x hx
  exact tw_self hA (hA.ur x hx).1 (hA.ur x hx).2 (hA.okr x hx)

theorem mH_moved {hs : List Int} {fs : List (List Int)} {rs : List Int} (h : Arn hs fs rs) : mH (mH hs fs rs) (mF fs rs) (mvR fs rs) = (mH hs fs rs).map ageW := by
  have hA := arn_moved h
  have e := order_moved h
  have hl := hA.fit.len
  generalize mF fs rs = F at *
  generalize mvR fs rs = R at *
  generalize mH hs fs rs = H at *
  unfold mH
  rw [e, ← hl]
  exact map_range_get (fun k x hx => by simp [hO, List.getD_eq_getElem?_getD, hx])

theorem mvL_moved {hs : List Int} {fs : List (List Int)} {rs : List Int} (h : Arn hs fs rs) : mvL (mH hs fs rs) (mF fs rs) (mvR fs rs) = joinW ((mH hs fs rs).map ageW) (mF fs rs) := by
  rw [mvL_eq, mF_moved h, mH_moved h]

theorem arn_uniq {hs hs' : List Int} {fs fs' : List (List Int)} {rs rs' : List Int} (h : Arn hs fs rs) (h' : Arn hs' fs' rs') (e : joinW hs fs = joinW hs' fs') : hs = hs' ∧ fs = fs' := by
  have hf : fs = fs' := by
    have h1 := fit_split h.fit
    rw [e, fit_split h'.fit] at h1
    injection h1 with h1
    exact h1.symm
  subst hf
  refine ⟨?_, rfl⟩
  apply List.ext_getElem?
  intro k
  by_cases hk : k < fs.length
  · rw [← joinW_get hs fs k h.fit.len hk, e, joinW_get hs' fs k h'.fit.len hk]
  · rw [List.getElem?_eq_none (by have := h.fit.len; omega), List.getElem?_eq_none (by have := h'.fit.len; omega)]

/-- How a place of both arenas looks. -/
def TwAt (st L M : List Int) (i : Nat) : Prop :=
  ((i : Int) ∈ st ∧ ∃ x, L[i]? = some x ∧ M[i]? = some (ageW x) ∧ unheadOk x = true ∧ 0 ≤ x ∧ x < 18446744073709551616 ∧ uhM x = false ∧ 1 ≤ uhA x ∧ uhA x ≤ 7) ∨
  ((i : Int) ∉ st ∧ ∃ x, L[i]? = some x ∧ M[i]? = some x)

theorem mH_age {hs : List Int} {fs : List (List Int)} {rs : List Int} {x : Int} (hx : x ∈ mH hs fs rs) : uhM x = false ∧ 1 ≤ uhA x ∧ uhA x ≤ 7 := by
  unfold mH at hx
  obtain ⟨o, _, rfl⟩ := List.mem_map.1 hx
  have h := ageW_ok (hs.getD o.toNat 0)
  have h0 : 0 ≤ uhA (hs.getD o.toNat 0) := by
    unfold uhA; split
    · omega
    · omega
  unfold hO
  refine ⟨h.2.2.1, ?_, ?_⟩
  · rw [h.2.2.2.1]; omega
  · rw [h.2.2.2.1]; omega

theorem twice_at {hs : List Int} {fs : List (List Int)} {rs : List Int} (h : Arn hs fs rs) {i : Nat} (hi : i < tot (mF fs rs)) : TwAt (stF 0 (mF fs rs)) (mvL hs fs rs) (mvL (mH hs fs rs) (mF fs rs) (mvR fs rs)) i := by
  have hA := arn_moved h
  rw [mvL_moved h, mvL_eq]
  have hmem : ∀ x ∈ mH hs fs rs, uhM x = false ∧ 1 ≤ uhA x ∧ uhA x ≤ 7 := fun x hx => mH_age hx
  generalize mF fs rs = F at *
  generalize mH hs fs rs = H at *
  have hjl := joinW_len H F hA.fit.len
  have hl' : (H.map ageW).length = F.length := by rw [List.length_map]; exact hA.fit.len
  by_cases hm : (i : Int) ∈ stF 0 F
  · obtain ⟨k, hk⟩ := List.getElem?_of_mem hm
    have hkl : k < F.length := by have := (List.getElem?_eq_some_iff.1 hk).1; rw [stF_len] at this; exact this
    have hk' := stF_get F 0 k hkl
    rw [Nat.zero_add] at hk'
    have hpl : i = tot (F.take k) := by
      have := hk.symm.trans hk'
      injection this with this
      omega
    obtain ⟨x, hx, hx1, hx2, hx3, hx4⟩ := fit_at hA.fit hkl
    refine .inl ⟨hm, x, ?_, ?_, hx1, hx3, hx4, hmem x (List.mem_of_getElem? hx)⟩
    · rw [hpl, joinW_get _ _ _ hA.fit.len hkl]; exact hx
    · rw [hpl, joinW_get _ _ _ hl' hkl, List.getElem?_map, hx]; rfl
  · refine .inr ⟨hm, (joinW H F)[i]'(by omega), List.getElem?_eq_getElem _, ?_⟩
    have := join_same H (H.map ageW) F 0 i hA.fit.len hl'
    rw [Nat.zero_add] at this
    have := this.resolve_left hm
    rw [← this]
    exact List.getElem?_eq_getElem _

end Go.Proofs.Ytklihkalcmchpaa

/- Walks: MoveTwice. -/
namespace Go.Proofs.Ytklihkalcmchpaa
set_option linter.unusedSimpArgs false
set_option linter.unusedVariables false
open Go.RowKit Go.Shelf

set_option maxRecDepth 100000 in
set_option maxHeartbeats 8000000 in
theorem mtwice_c (aw ar : Option Addr) (cw cr : Nat) (ws rs : List Int) (w : World) (hW : Wds w.heap.size w aw ws) (hR : Wds w.heap.size w ar rs) (hUW : U64 ws) (hUR : U64 rs) (hcap : ws.length ≤ cw) :
    Calls Try.prog 5 #[.agg #[.slice aw ws.length cw, .slice ar rs.length cr]] w fun e w' => e = .returned (.bool true) ∧ Below w.heap.size w w' := by
  obtain ⟨W1, hW1⟩ : ∃ W1, w.alloc (.cells #[.slice aw ws.length cw, .slice ar rs.length cr] 24) = W1 := ⟨_, rfl⟩
  have hb1 : Below w.heap.size w W1 := by rw [← hW1]; exact (Below.refl w.heap.size w).alloc (Nat.le_refl _) _
  have hs1 : w.heap.size < W1.heap.size := by rw [← hW1]; simp
  have g0 : W1.cell? ⟨w.heap.size, 0, none⟩ = some (.slice aw ws.length cw) := by rw [← hW1]; simp [go_sem]
  have g1 : W1.cell? ⟨w.heap.size, 1, none⟩ = some (.slice ar rs.length cr) := by rw [← hW1]; simp [go_sem]
  have Hc1 := hide (sound_c aw ar cw cr ws rs w.heap.size W1 (hW.below hb1) (hR.below hb1) hUW hUR (by omega))
  go_enter Try.func5, Try.ntmps5
  go_wp2_with fail
  refine (unhide Hc1).mono ?_
  rintro e w2 ⟨rfl, hb2⟩
  have hs2 := hb2.size
  have hbw2 : Below w.heap.size w w2 := hb1.trans (hb2.mono (by omega))
  replace g0 := (hb2.cell (p := ⟨w.heap.size, 0, none⟩) hs1).trans g0
  replace g1 := (hb2.cell (p := ⟨w.heap.size, 1, none⟩) hs1).trans g1
  have hl2 : w.heap.size < w2.heap.size := by omega
  clear hb1 hb2 Hc1 hW1
  by_cases hE : arenaE ws rs = 0
  · have d0 : (arenaE ws rs == 0) = true := by simp [hE]
    rw [d0]
    have HE := hide hE
    have Hc2 := hide (copy_c aw ar cw cr ws rs w.heap.size w2 (hW.below hbw2) (hR.below hbw2) hUW hUR (by omega) hcap)
    clear hE d0
    go_wp2_with fail
    refine (unhide Hc2).mono ?_
    rintro e w3 ⟨hres, hb3⟩
    rcases hres.use with ⟨hE', _⟩ | ⟨_, hs, fs, ba, bc, ba', bc', hA, hws, he, hBL, hBR, hBc⟩
    · exact absurd (unhide HE) hE'
    subst he
    have hs3 := hb3.size
    have hbw3 : Below w.heap.size w w3 := hbw2.trans (hb3.mono (by omega))
    obtain ⟨W3, hW3⟩ : ∃ W3, w3.alloc (.cells #[.slice ba (mvL hs fs rs).length bc, .slice ba' (mvR fs rs).length bc'] 24) = W3 := ⟨_, rfl⟩
    have hb3' : Below w3.heap.size w3 W3 := by rw [← hW3]; exact (Below.refl _ w3).alloc (Nat.le_refl _) _
    have hs3' : w3.heap.size < W3.heap.size := by rw [← hW3]; simp
    have k0 : W3.cell? ⟨w3.heap.size, 0, none⟩ = some (.slice ba (mvL hs fs rs).length bc) := by rw [← hW3]; simp [go_sem]
    have k1 : W3.cell? ⟨w3.heap.size, 1, none⟩ = some (.slice ba' (mvR fs rs).length bc') := by rw [← hW3]; simp [go_sem]
    replace g0 := (hb3'.cell (p := ⟨w.heap.size, 0, none⟩) (by simp; omega)).trans ((hb3.cell (p := ⟨w.heap.size, 0, none⟩) hl2).trans g0)
    replace g1 := (hb3'.cell (p := ⟨w.heap.size, 1, none⟩) (by simp; omega)).trans ((hb3.cell (p := ⟨w.heap.size, 1, none⟩) hl2).trans g1)
    have hbW3 : Below w.heap.size w W3 := hbw3.trans (hb3'.mono (by omega))
    have hBL3 := (hBL.below hb3').mono (Nat.le_of_lt hs3')
    have hBR3 := (hBR.below hb3').mono (Nat.le_of_lt hs3')
    have hA' := arn_moved hA
    have hU' : U64 (mvL hs fs rs) := by rw [mvL_eq]; exact joinW_u64 hA' hA'.fit
    have Hc3 := hide (copy_c ba ba' bc bc' (mvL hs fs rs) (mvR fs rs) W3.heap.size W3 hBL3 hBR3 hU' hA'.ur (Nat.le_refl _) hBc)
    have hE2 : arenaE (mvL hs fs rs) (mvR fs rs) = 0 := by rw [mvL_eq]; exact hA'.check
    have HE2 := hide hE2
    have hl3 : w.heap.size < W3.heap.size := by omega
    have HA := hide hA
    have Hws := hide hws
    have HA' := hide hA'
    have HB3 := hide hBL3
    have HR3 := hide hBR3
    have HU' := hide hU'
    clear hb3 hb3' hBL hBR hBL3 hBR3 hA hws hA' hU' hE2 Hc2 hres hBc
    go_wp2_with fail
    refine (unhide Hc3).mono ?_
    rintro e w4 ⟨hres, hb4⟩
    rcases hres.use with ⟨hE', _⟩ | ⟨_, hs', fs', ca, cc, ca', cc', hA2, hws2, he, hCL, hCR, _⟩
    · exact absurd (unhide HE2) hE'
    obtain ⟨rfl, rfl⟩ := arn_uniq hA2 (unhide HA') (hws2.symm.trans (mvL_eq hs fs rs))
    subst he
    rw [mR_moved (unhide HA)]
    rw [mR_moved (unhide HA)] at hCR
    have Hml : Hid ((mvL (mH hs fs rs) (mF fs rs) (mvR fs rs)).length = (mvL hs fs rs).length) := by
      show _ = _
      rw [mvL_moved (unhide HA), mvL_len, joinW_len _ _ (by rw [List.length_map, mH_len, mF_len])]
    have hs4 := hb4.size
    replace k0 := (hb4.cell (p := ⟨w3.heap.size, 0, none⟩) hs3').trans k0
    replace k1 := (hb4.cell (p := ⟨w3.heap.size, 1, none⟩) hs3').trans k1
    replace g0 := (hb4.cell (p := ⟨w.heap.size, 0, none⟩) hl3).trans g0
    replace g1 := (hb4.cell (p := ⟨w.heap.size, 1, none⟩) hl3).trans g1
    obtain ⟨W0, hW0⟩ : ∃ W0, w4.alloc (.cells #[.slice ca (mvL (mH hs fs rs) (mF fs rs) (mvR fs rs)).length cc, .slice ca' (mvR fs rs).length cc'] 24) = W0 := ⟨_, rfl⟩
    have hb0 : Below w4.heap.size w4 W0 := by rw [← hW0]; exact (Below.refl _ w4).alloc (Nat.le_refl _) _
    have hsl : w4.heap.size < W0.heap.size := by rw [← hW0]; simp
    have l0 : W0.cell? ⟨w4.heap.size, 0, none⟩ = some (.slice ca (mvL (mH hs fs rs) (mF fs rs) (mvR fs rs)).length cc) := by rw [← hW0]; simp [go_sem]
    have l1 : W0.cell? ⟨w4.heap.size, 1, none⟩ = some (.slice ca' (mvR fs rs).length cc') := by rw [← hW0]; simp [go_sem]
    have hsk : w3.heap.size < W0.heap.size := by omega
    have hsg : w.heap.size < W0.heap.size := by omega
    replace k0 := (hb0.cell (p := ⟨w3.heap.size, 0, none⟩) (by simp; omega)).trans k0
    replace k1 := (hb0.cell (p := ⟨w3.heap.size, 1, none⟩) (by simp; omega)).trans k1
    replace g0 := (hb0.cell (p := ⟨w.heap.size, 0, none⟩) (by simp; omega)).trans g0
    replace g1 := (hb0.cell (p := ⟨w.heap.size, 1, none⟩) (by simp; omega)).trans g1
    have hb43 : Below W3.heap.size W3 W0 := hb4.trans (hb0.mono (by omega))
    have hbW : Below w.heap.size w W0 := hbW3.trans (hb43.mono (by omega))
    have hBL0 := ((unhide HB3).below hb43).mono hb43.size
    have hBR0 := ((unhide HR3).below hb43).mono hb43.size
    have hCL0 := (hCL.below hb0).mono (Nat.le_of_lt hsl)
    have hCR0 := (hCR.below hb0).mono (Nat.le_of_lt hsl)
    have hA2' := arn_moved (unhide HA')
    rw [mR_moved (unhide HA)] at hA2'
    have hE3 : arenaE (mvL (mH hs fs rs) (mF fs rs) (mvR fs rs)) (mvR fs rs) = 0 := by rw [mvL_eq]; exact hA2'.check
    have hUC : U64 (mvL (mH hs fs rs) (mF fs rs) (mvR fs rs)) := by rw [mvL_eq]; exact joinW_u64 hA2' hA2'.fit
    have HcB : Hid (∀ X, Below W0.heap.size W0 X → Calls Try.prog 10 #[.agg #[.slice ba (mvL hs fs rs).length bc, .slice ba' (mvR fs rs).length bc']] X fun e w' => e = .returned (.bool true) ∧ Below X.heap.size X w') := by
      intro X hb
      refine (sound_c ba ba' bc bc' (mvL hs fs rs) (mvR fs rs) X.heap.size X ((hBL0.below hb).mono hb.size) ((hBR0.below hb).mono hb.size) (unhide HU') (unhide HA').ur (Nat.le_refl _)).mono ?_
      rintro e w' ⟨rfl, h⟩
      exact ⟨by rw [unhide HE2]; rfl, h⟩
    have HcC : Hid (∀ X, Below W0.heap.size W0 X → Calls Try.prog 10 #[.agg #[.slice ca (mvL (mH hs fs rs) (mF fs rs) (mvR fs rs)).length cc, .slice ca' (mvR fs rs).length cc']] X fun e w' => e = .returned (.bool true) ∧ Below X.heap.size X w') := by
      intro X hb
      refine (sound_c ca ca' cc cc' (mvL (mH hs fs rs) (mF fs rs) (mvR fs rs)) (mvR fs rs) X.heap.size X ((hCL0.below hb).mono hb.size) ((hCR0.below hb).mono hb.size) hUC (unhide HA').ur (Nat.le_refl _)).mono ?_
      rintro e w' ⟨rfl, h⟩
      exact ⟨by rw [hE3]; rfl, h⟩
    have HcZ : Hid (∀ X, Below W0.heap.size W0 X → Calls Try.prog 16 #[.agg #[.slice aw ws.length cw, .slice ar rs.length cr]] X fun e w' => e = .returned (.int .i64 ((mvL hs fs rs).length : Nat)) ∧ Below X.heap.size X w') := by
      intro X hb
      have hbX : Below w.heap.size w X := hbW.trans (hb.mono (by omega))
      refine (size_c aw ar cw cr ws rs hs fs X.heap.size X ((hW.below hbX).mono hbX.size) ((hR.below hbX).mono hbX.size) hUW hUR (Nat.le_refl _) (unhide HA) (unhide Hws)).mono ?_
      rintro e w' ⟨rfl, h⟩
      exact ⟨by rw [mvL_len], h⟩
    have HcW : Hid (∀ X, Below W0.heap.size W0 X → Calls Try.prog 17 #[.slice ba' (mvR fs rs).length bc', .slice ca' (mvR fs rs).length cc'] X fun e w' => e = .returned (.bool true) ∧ Below X.heap.size X w') := by
      intro X hb
      refine (words_eq_c ba' ca' bc' cc' (mvR fs rs) (mvR fs rs) X.heap.size X ((hBR0.below hb).mono hb.size) ((hCR0.below hb).mono hb.size) (Nat.le_refl _)).mono ?_
      rintro e w' ⟨rfl, h⟩
      exact ⟨by simp, h⟩
    have h256 : (mvL hs fs rs).length ≤ 256 := by rw [mvL_len]; exact mF_256 (unhide HA)
    have Htw : Hid (∀ i, i < (mvL hs fs rs).length → TwAt (stF 0 (mF fs rs)) (mvL hs fs rs) (mvL (mH hs fs rs) (mF fs rs) (mvR fs rs)) i) := fun i hi => twice_at (unhide HA) (by rw [mvL_len] at hi; exact hi)
    have Hsp : Hid (splitR (mvL hs fs rs) = some (mF fs rs)) := by show _ = _; rw [mvL_eq]; exact fit_split (unhide HA').fit
    have HBL := hide hBL0
    have HCL := hide hCL0
    clear hUC hE3 hA2' hBL0 hBR0 hCL0 hCR0 hCL hCR hA2 hws2 hres hb4 hb0 hb43 HB3 HR3 Hc3 hW hR hUW hUR HE HE2 HA HA' Hws
    have HW0 := hide hW0
    clear hW0
    generalize mvL (mH hs fs rs) (mF fs rs) (mvR fs rs) = CL at *
    generalize mvL hs fs rs = BL at *
    generalize mvR fs rs = BR at *
    have hcl1 : CL.length ≤ BL.length := by have := unhide Hml; omega
    have hcl2 : BL.length ≤ CL.length := by have := unhide Hml; omega
    have dn1 : ((BL.length : Int) != (BL.length : Int)) = false := by simp
    have dn2 : ((CL.length : Int) != (BL.length : Int)) = false := by simp; omega
    go_wp2_with fail
    rw [unhide HW0]
    clear HW0
    have G0 := cell_regrown k0
    have G1 := cell_regrown k1
    have G2 := cell_regrown g0
    have G3 := cell_regrown g1
    have G4 := cell_regrown l0
    have G5 := cell_regrown l1
    clear k0 k1 g0 g1 l0 l1 hs2 hs3 hs4 hl2 hl3 hs1 hs3'
    refine wp_region_quiet_below (by kernel_rfl) (by kernel_rfl) ?_
    repeat (go_big_quiet_step (first | exact Calls.regrown_of (unhide HcB _ (below_regrown W0 _ _)) | exact Calls.regrown_of (unhide HcC _ (below_regrown W0 _ _)) | exact Calls.regrown_of (unhide HcZ _ (below_regrown W0 _ _)) | exact Calls.regrown_of (unhide HcW _ (below_regrown W0 _ _))))
    refine wpQuiet_nil ?_
    intro _ hw'
    obtain ⟨⟨dq, osq⟩, hw''⟩ := hw'
    subst hw''
    have hb8 := below_regrown W0 dq osq
    have k0 := G0 dq osq
    have l0 := G4 dq osq
    have l1 := G5 dq osq
    have k1 := G1 dq osq
    clear G0 G1 G2 G3 G4 G5 HcB HcC HcZ HcW
    generalize Go.Sort.grow (redrawn W0 dq) osq = w8 at *
    have hs8 := hb8.size
    have hk8 : w3.heap.size < w8.heap.size := by omega
    have hl8 : w4.heap.size < w8.heap.size := by omega
    have hbw8 : Below w.heap.size w w8 := hbW.trans (hb8.mono (by omega))
    have HB8 := hide (((unhide HBL).below hb8).mono hs8)
    have HC8 := hide (((unhide HCL).below hb8).mono hs8)
    have Hc5 := hide (rstarts_c ba bc BL w8.heap.size w8 (unhide HB8) (unhide HU') (Nat.le_refl _) h256)
    clear HBL HCL hsk hsl hsg hb8
    go_wp2_with fail
    refine (unhide Hc5).mono ?_
    rintro e w9 ⟨hres, hb9⟩
    obtain ⟨fs', sa, sc, hfs', he, hI⟩ := hres.resolve_left (fun h => by have := unhide Hsp; rw [h.1] at this; cases this)
    have Hfe : Hid (fs' = mF fs rs) := by have := unhide Hsp; rw [hfs'] at this; injection this
    rw [unhide Hfe] at he hI
    subst he
    have hs9 := hb9.size
    replace k0 := (hb9.cell (p := ⟨w3.heap.size, 0, none⟩) hk8).trans k0
    replace k1 := (hb9.cell (p := ⟨w3.heap.size, 1, none⟩) hk8).trans k1
    replace l0 := (hb9.cell (p := ⟨w4.heap.size, 0, none⟩) hl8).trans l0
    replace l1 := (hb9.cell (p := ⟨w4.heap.size, 1, none⟩) hl8).trans l1
    have hk9 : w3.heap.size < w9.heap.size := by omega
    have hl9 : w4.heap.size < w9.heap.size := by omega
    have hbw9 : Below w.heap.size w w9 := hbw8.trans (hb9.mono (by have := hbw8.size; omega))
    have HB9 := hide (((unhide HB8).below hb9).mono hs9)
    have HC9 := hide (((unhide HC8).below hb9).mono hs9)
    have HI9 := hide hI
    clear Hc5 hres hfs' Hfe hI hb9 HB8 HC8 Hsp
    generalize stF 0 (mF fs rs) = ST at *
    go_wp2
    go_loopw [9] (fun i wr => ∃ k : Nat, k ≤ BL.length ∧ i = .int .i64 k ∧ Below w9.heap.size w9 wr) (fun i _ => BL.length - (intOf i).toNat)
    case atStart => exact ⟨0, Nat.zero_le _, rfl, Below.refl _ _⟩
    case round =>
      obtain ⟨k, hk, rfl, hb⟩ := hrel
      have hsz := hb.size
      have k0r := (hb.cell (p := ⟨w3.heap.size, 0, none⟩) hk9).trans k0
      have k1r := (hb.cell (p := ⟨w3.heap.size, 1, none⟩) hk9).trans k1
      have l0r := (hb.cell (p := ⟨w4.heap.size, 0, none⟩) hl9).trans l0
      have l1r := (hb.cell (p := ⟨w4.heap.size, 1, none⟩) hl9).trans l1
      have hlrk : w3.heap.size < wr.heap.size := by omega
      have hlrl : w4.heap.size < wr.heap.size := by omega
      by_cases hlt : k < BL.length
      · have hkI : (k : Int) < (BL.length : Int) := by omega
        have hIr := (unhide HI9).below hb
        have hBr := (unhide HB9).below hb
        have hCr := (unhide HC9).below hb
        rcases unhide Htw k hlt with ⟨hm, x, hx, hy, hx1, hx2, hx3, hx4, hx5, hx6⟩ | ⟨hm, x, hx, hy⟩
        · have hag := ageW_ok x
          have hH : Hid (Calls Try.prog 19 #[.slice sa ST.length sc, .int .i64 (k : Int)] wr fun e w' => e = .returned (.bool true) ∧ w' = wr) := by
            have := has_c sa sc ST (k : Int) w9.heap.size wr hIr
            simp only [hm, decide_true] at this
            exact this
          have hA1 : Hid (∀ W, Below wr.heap.size wr W → Calls Try.prog 20 #[.agg #[.slice ba BL.length bc, .slice ba' BR.length bc'], .int .i64 (k : Nat)] W fun e w' => e = .returned (.tuple #[.agg #[.int .i64 (uhL x), .bool false, .int .i64 (uhA x)], .bool (uhE x == 0)]) ∧ Below W.heap.size W w') := fun W hbW => by
            have := headAt_c ba ba' bc BR.length bc' BL k x w9.heap.size W (hBr.below (hbW.mono hsz)) (by have := hbW.size; omega) hx hx2 hx3
            rw [hx4] at this
            exact this
          have hA2 : Hid (∀ W, Below wr.heap.size wr W → Calls Try.prog 20 #[.agg #[.slice ca CL.length cc, .slice ca' BR.length cc'], .int .i64 (k : Nat)] W fun e w' => e = .returned (.tuple #[.agg #[.int .i64 (uhL x), .bool false, .int .i64 (min (uhA x + 1) 7)], .bool (uhE (ageW x) == 0)]) ∧ Below W.heap.size W w') := fun W hbW => by
            have := headAt_c ca ca' cc BR.length cc' CL k (ageW x) w9.heap.size W (hCr.below (hbW.mono hsz)) (by have := hbW.size; omega) hy hag.2.2.2.2.1 hag.2.2.2.2.2
            rw [hag.2.1, hag.2.2.1, hag.2.2.2.1] at this
            exact this
          clear hm hx hy hx1 hx2 hx3 hx4 hIr hBr hCr hag
          generalize (uhE (ageW x) == 0) = e2 at *
          generalize (uhE x == 0) = e1 at *
          generalize uhL x = xl at *
          generalize uhA x = xa at *
          have dn3 : (xl != xl) = false := by simp
          by_cases h7 : xa = 7
          · subst h7
            have em : min ((7 : Int) + 1) 7 = 7 := by omega
            rw [em] at hA2
            go_wp2_with fail
            refine (unhide hH).mono ?_
            rintro e w10 ⟨he, hw10⟩
            subst he
            have hw10 := hw10.symm
            subst hw10
            clear hH
            go_wp2_with fail
            refine (unhide hA1 wr (Below.refl _ _)).mono ?_
            rintro e w11 ⟨he, hb11⟩
            subst he
            have hs11 := hb11.size
            obtain ⟨W11, hW11⟩ : ∃ W11, w11.alloc (.cells #[.int .i64 xl, .bool false, .int .i64 (7)] 47) = W11 := ⟨_, rfl⟩
            have hb11' : Below wr.heap.size wr W11 := by rw [← hW11]; exact hb11.alloc hs11 _
            have hs11' : w11.heap.size < W11.heap.size := by rw [← hW11]; simp
            have v0 : W11.cell? ⟨w11.heap.size, 0, none⟩ = some (.int .i64 xl) := by rw [← hW11]; simp [go_sem]
            have v1 : W11.cell? ⟨w11.heap.size, 1, none⟩ = some (.bool false) := by rw [← hW11]; simp [go_sem]
            have v2 : W11.cell? ⟨w11.heap.size, 2, none⟩ = some (.int .i64 (7)) := by rw [← hW11]; simp [go_sem]
            have l01 := (hb11'.cell (p := ⟨w4.heap.size, 0, none⟩) hlrl).trans l0r
            have l11 := (hb11'.cell (p := ⟨w4.heap.size, 1, none⟩) hlrl).trans l1r
            have hl11 : w4.heap.size < W11.heap.size := by omega
            have hA2' := hide (unhide hA2 W11 hb11')
            clear hA1 hA2
            go_wp2_with fail
            refine (unhide hA2').mono ?_
            rintro e w12 ⟨he, hb12⟩
            subst he
            have hs12 := hb12.size
            obtain ⟨W12, hW12⟩ : ∃ W12, w12.alloc (.cells #[.int .i64 xl, .bool false, .int .i64 (7)] 47) = W12 := ⟨_, rfl⟩
            have hb12' : Below W11.heap.size W11 W12 := by rw [← hW12]; exact hb12.alloc hs12 _
            have hs12' : w12.heap.size < W12.heap.size := by rw [← hW12]; simp
            have u0 : W12.cell? ⟨w12.heap.size, 0, none⟩ = some (.int .i64 xl) := by rw [← hW12]; simp [go_sem]
            have u1 : W12.cell? ⟨w12.heap.size, 1, none⟩ = some (.bool false) := by rw [← hW12]; simp [go_sem]
            have u2 : W12.cell? ⟨w12.heap.size, 2, none⟩ = some (.int .i64 (7)) := by rw [← hW12]; simp [go_sem]
            replace v0 := (hb12'.cell (p := ⟨w11.heap.size, 0, none⟩) hs11').trans v0
            replace v1 := (hb12'.cell (p := ⟨w11.heap.size, 1, none⟩) hs11').trans v1
            replace v2 := (hb12'.cell (p := ⟨w11.heap.size, 2, none⟩) hs11').trans v2
            have hl12 : w11.heap.size < W12.heap.size := by omega
            have hbr12 : Below wr.heap.size wr W12 := hb11'.trans (hb12'.mono hb11'.size)
            clear hA2' hb12 hb11
            go_wp2
            go_roundw
            case rel => exact ⟨k + 1, by omega, by go_num, hb.trans (hbr12.mono hsz)⟩
            case measure => simp [intOf]; omega
          · have em : min (xa + 1) 7 = xa + 1 := by omega
            rw [em] at hA2
            have hw1 : IntKind.i64.wrap (xa + 1) = xa + 1 := by rw [IntKind.wrap_i64]; omega
            have dz : (xa == 0) = false := by simp; omega
            have dn4 : (xa + 1 != xa + 1) = false := by simp
            go_wp2_with fail
            refine (unhide hH).mono ?_
            rintro e w10 ⟨he, hw10⟩
            subst he
            have hw10 := hw10.symm
            subst hw10
            clear hH
            go_wp2_with fail
            refine (unhide hA1 wr (Below.refl _ _)).mono ?_
            rintro e w11 ⟨he, hb11⟩
            subst he
            have hs11 := hb11.size
            obtain ⟨W11, hW11⟩ : ∃ W11, w11.alloc (.cells #[.int .i64 xl, .bool false, .int .i64 (xa)] 47) = W11 := ⟨_, rfl⟩
            have hb11' : Below wr.heap.size wr W11 := by rw [← hW11]; exact hb11.alloc hs11 _
            have hs11' : w11.heap.size < W11.heap.size := by rw [← hW11]; simp
            have v0 : W11.cell? ⟨w11.heap.size, 0, none⟩ = some (.int .i64 xl) := by rw [← hW11]; simp [go_sem]
            have v1 : W11.cell? ⟨w11.heap.size, 1, none⟩ = some (.bool false) := by rw [← hW11]; simp [go_sem]
            have v2 : W11.cell? ⟨w11.heap.size, 2, none⟩ = some (.int .i64 (xa)) := by rw [← hW11]; simp [go_sem]
            have l01 := (hb11'.cell (p := ⟨w4.heap.size, 0, none⟩) hlrl).trans l0r
            have l11 := (hb11'.cell (p := ⟨w4.heap.size, 1, none⟩) hlrl).trans l1r
            have hl11 : w4.heap.size < W11.heap.size := by omega
            have hA2' := hide (unhide hA2 W11 hb11')
            clear hA1 hA2
            go_wp2_with fail
            refine (unhide hA2').mono ?_
            rintro e w12 ⟨he, hb12⟩
            subst he
            have hs12 := hb12.size
            obtain ⟨W12, hW12⟩ : ∃ W12, w12.alloc (.cells #[.int .i64 xl, .bool false, .int .i64 (xa + 1)] 47) = W12 := ⟨_, rfl⟩
            have hb12' : Below W11.heap.size W11 W12 := by rw [← hW12]; exact hb12.alloc hs12 _
            have hs12' : w12.heap.size < W12.heap.size := by rw [← hW12]; simp
            have u0 : W12.cell? ⟨w12.heap.size, 0, none⟩ = some (.int .i64 xl) := by rw [← hW12]; simp [go_sem]
            have u1 : W12.cell? ⟨w12.heap.size, 1, none⟩ = some (.bool false) := by rw [← hW12]; simp [go_sem]
            have u2 : W12.cell? ⟨w12.heap.size, 2, none⟩ = some (.int .i64 (xa + 1)) := by rw [← hW12]; simp [go_sem]
            replace v0 := (hb12'.cell (p := ⟨w11.heap.size, 0, none⟩) hs11').trans v0
            replace v1 := (hb12'.cell (p := ⟨w11.heap.size, 1, none⟩) hs11').trans v1
            replace v2 := (hb12'.cell (p := ⟨w11.heap.size, 2, none⟩) hs11').trans v2
            have hl12 : w11.heap.size < W12.heap.size := by omega
            have hbr12 : Below wr.heap.size wr W12 := hb11'.trans (hb12'.mono hb11'.size)
            clear hA2' hb12 hb11
            go_wp2
            go_roundw
            case rel => exact ⟨k + 1, by omega, by go_num, hb.trans (hbr12.mono hsz)⟩
            case measure => simp [intOf]; omega
        · have hH : Hid (Calls Try.prog 19 #[.slice sa ST.length sc, .int .i64 (k : Int)] wr fun e w' => e = .returned (.bool false) ∧ w' = wr) := by
            have := has_c sa sc ST (k : Int) w9.heap.size wr hIr
            simp only [hm, decide_false] at this
            exact this
          have hltC : k < CL.length := by omega
          obtain ⟨b1, o1, rfl, hB1, hc1⟩ := hBr.at hlt
          obtain ⟨b2, o2, rfl, hB2, hc2⟩ := hCr.at hltC
          rw [(List.getElem?_eq_some_iff.1 hx).2] at hc1
          rw [(List.getElem?_eq_some_iff.1 hy).2] at hc2
          have d7 : (x != x) = false := by simp
          have hq1 : b1 < wr.heap.size := by omega
          have hq2 : b2 < wr.heap.size := by omega
          have hkC : (k : Int) < (CL.length : Int) := by omega
          clear hm hx hy hIr hBr hCr
          go_wp2_with fail
          refine (unhide hH).mono ?_
          rintro e w10 ⟨he, hw10⟩
          subst he
          have hw10 := hw10.symm
          subst hw10
          clear hH
          go_wp2
          go_quiet (fail)
          have hbn := below_drewN hb nq
          clear hc1 hc2 k0r k1r l0r l1r hq1 hq2 hlrk hlrl
          generalize wr.drewN nq = wq at *
          go_wp2
          go_roundw
          case rel => exact ⟨k + 1, by omega, by go_num, hbn⟩
          case measure => simp [intOf]; omega
      · obtain rfl : k = BL.length := by omega
        go_wp2
        go_ret
        exact ⟨rfl, hbw9.trans (hb.mono (by have := hbw9.size; omega))⟩
  · have d0 : (arenaE ws rs == 0) = false := by simp [hE]
    have HE := hide hE
    rw [d0]
    have Hc2 := hide (unsound_c aw ar cw cr ws rs w.heap.size w2 (hW.below hbw2) (hR.below hbw2) hUW hUR (by omega) hcap)
    clear hE
    go_wp2_with fail
    refine (unhide Hc2).mono ?_
    rintro e w3 ⟨he, hb3⟩
    have d3 : (arenaE ws rs != 0) = true := by simpa using unhide HE
    rw [d3] at he
    subst he
    go_wp2
    go_ret
    exact ⟨rfl, hbw2.trans (hb3.mono (by omega))⟩

end Go.Proofs.Ytklihkalcmchpaa
