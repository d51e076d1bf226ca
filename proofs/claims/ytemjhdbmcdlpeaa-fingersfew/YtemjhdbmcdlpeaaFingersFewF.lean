/- Merged texts: Rg Ri Qn Kg Lf Li Lj Lh Lg Md Mf Mg Mi Mj Ml. -/
import Derived.Test.YtemjhdbmcdlpeaaProg
import Derived.Test.YtemjhdbmcdlpeaaFingersFewE
import Derived.Deep.RegionWith
import Derived.StillTailTactics
import Derived.Deep.Cut
import Derived.BigQuiet
import Derived.Deep.RegionLaw
import Derived.Lib.SliceRun

/- Walks: the document's answer: pair. -/
namespace Go.Proofs.Ytemjhdbmcdlpeaa
set_option linter.unusedSimpArgs false
set_option linter.unusedVariables false
open Go.RowKit

set_option maxRecDepth 100000 in
set_option maxHeartbeats 4000000 in
theorem pair_c (a1 a2 : Option Addr) (c1 c2 : Nat) (la lb : List V) (pf pt : Nat) (F T : List Int) (vf vt : Value) (w : World) (h1 : Vals pf w a1 la) (h2 : Vals pf w a2 lb) (hP : PS w pf pt F T vf vt) (hFT : F.length = T.length) (hln : F.length ≤ 1000) (hla : la.length ≤ 1000) :
    Calls Try.prog 49 #[.slice a1 la.length c1, .slice a2 lb.length c2, .pointer (some ⟨pf, 0, none⟩), .pointer (some ⟨pt, 0, none⟩)] w fun e w' => Below pf w w' ∧ ((e = .returned (.bool false) ∧ prun F T la lb = none) ∨
      (e = .returned (.bool true) ∧ ∃ F' T' vf' vt', prun F T la lb = some (F', T') ∧ F'.length = T'.length ∧ F'.length ≤ F.length + la.length ∧ PS w' pf pt F' T' vf' vt')) := by
  obtain ⟨i0, hi, hz0, hz1, hz2⟩ := info_parts Try.info3
  have hlt := hP.lt
  have hl1 := h1.1
  have hl2 := h2.1
  by_cases hl : la.length = lb.length
  · have d1 : ((la.length : Int) != (lb.length : Int)) = false := by simp [hl]
    have d2 : ((lb.length : Int) != (lb.length : Int)) = false := by simp
    rw [hl]
    have Hl := hide hl
    have hlb : lb.length ≤ 1000 := by omega
    have hle : la.length ≤ lb.length := by omega
    have hge : lb.length ≤ la.length := by omega
    clear hl
    have hgd := guard35
    go_enter Try.func49, Try.ntmps49
    go_wp2
    go_loopw [9] (fun i wr => ∃ (k : Nat) (F' T' : List Int) (vf' vt' : Value), k ≤ lb.length ∧ i = .int .i64 k ∧ Hid (prun F T la lb = prun F' T' (la.drop k) (lb.drop k)) ∧ Hid (F'.length = T'.length) ∧ F'.length ≤ F.length + k ∧ PS wr pf pt F' T' vf' vt' ∧ Below pf w wr) (fun i _ => lb.length - (intOf i).toNat)
    case atStart => exact ⟨0, F, T, vf, vt, Nat.zero_le _, rfl, rfl, hFT, by omega, hP, Below.refl _ _⟩
    case round =>
      clear hP
      obtain ⟨k, F', T', vf', vt', hk, rfl, Hrun, HFT, hFl, hP, hb⟩ := hrel
      have hszp := hP.sz
      by_cases hltk : k < lb.length
      · have hlt1 : k < la.length := by omega
        obtain ⟨b1, o1, r1, n1, rfl, hbB1, hx1, hx2, Hv1⟩ := (h1.below hb).at hlt1
        obtain ⟨b2, o2, r2, n2, rfl, hbB2, hy1, hy2, Hv2⟩ := (h2.below hb).at hltk
        have hltI : (k : Int) < (lb.length : Int) := by omega
        have Hst : Hid (prun F T la lb = (pstep F' T' (r1, n1) (r2, n2)).bind (fun s => prun s.1 s.2 (la.drop (k + 1)) (lb.drop (k + 1)))) := by
          show prun F T la lb = _
          rw [unhide Hrun, List.drop_eq_getElem_cons hlt1, List.drop_eq_getElem_cons hltk, Hv1.out, Hv2.out]; rfl
        clear Hrun Hv1 Hv2
        by_cases hrr : r1 = true ∧ r2 = true
        · obtain ⟨rfl, rfl⟩ := hrr
          obtain ⟨fa, fc, rfl, hIf, _⟩ := ints_of_owns hP.rf rfl (by omega)
          obtain ⟨ta, tc, rfl, hIt, _⟩ := ints_of_owns hP.rt rfl (by have := unhide HFT; omega)
          have e1 := hP.cf
          have e2 := hP.ct
          have hF3 : ∀ k, Calls Try.prog 16 #[.slice fa F'.length fc, .int .i64 n1] (wr.drewN k) fun e w' => e = .returned (.bool (decide (n1 ∈ F'))) ∧ w' = wr.drewN k := fun k => has_c fa fc F' n1 _ (wr.drewN k) hIf
          have hT3 : ∀ k, Calls Try.prog 16 #[.slice ta T'.length tc, .int .i64 n2] (wr.drewN k) fun e w' => e = .returned (.bool (decide (n2 ∈ T'))) ∧ w' = wr.drewN k := fun k => has_c ta tc T' n2 _ (wr.drewN k) hIt
          have Hst : Hid (prun F T la lb = ((if n1 ∈ F' then (if n2 ∈ T' then (if T'[F'.idxOf n1]? = some n2 then some (F', T') else none) else none) else (if n2 ∈ T' then none else some (F' ++ [n1], T' ++ [n2])))).bind (fun s => prun s.1 s.2 (la.drop (k + 1)) (lb.drop (k + 1)))) := by
            show prun F T la lb = _
            rw [unhide Hst, pstep, if_pos ⟨rfl, rfl⟩]
          by_cases m1 : n1 ∈ F' <;> by_cases m2 : n2 ∈ T'
          · have hlk : F'.idxOf n1 < T'.length := by have := List.idxOf_lt_length_iff.2 m1; have := unhide HFT; omega
            have HG := hide (List.getElem?_eq_getElem hlk)
            obtain ⟨bt, ot, rfl, hbt, hct⟩ := hIt.at hlk
            have hP3 : ∀ j k, Calls Try.prog 51 #[.slice fa F'.length fc, .int .i64 n1] ((wr.drewN j).drewN k) fun e w' => e = .returned (.int .i64 (F'.idxOf n1 : Int)) ∧ w' = (wr.drewN j).drewN k := fun j k => (place_c fa fc F' n1 _ ((wr.drewN j).drewN k) hIf).mono (by rintro e w' ⟨rfl, rfl⟩; rw [placeOf, if_pos m1]; exact ⟨rfl, rfl⟩)
            have hlkI : ((F'.idxOf n1 : Nat) : Int) < (T'.length : Int) := by omega
            simp only [m1, m2, decide_true] at hF3 hT3
            have Hst : Hid (prun F T la lb = (if T'[F'.idxOf n1]? = some n2 then some (F', T') else none).bind (fun s => prun s.1 s.2 (la.drop (k + 1)) (lb.drop (k + 1)))) := by
              show prun F T la lb = _
              rw [unhide Hst, if_pos m1, if_pos m2]
            clear m1 m2
            generalize F'.idxOf n1 = q at *
            generalize T'[q] = y at *
            by_cases hy : y = n2
            · have dy : (y != n2) = false := by simp [hy]
              have Hst : Hid (prun F T la lb = prun F' T' (la.drop (k + 1)) (lb.drop (k + 1))) := by
                show prun F T la lb = _
                rw [unhide Hst, unhide HG, hy, if_pos rfl]; rfl
              clear hy
              go_wp2
              go_quiet ((first | (go_at_call_of 16 fc; exact Calls.quiet_of_same (hF3 _)) | (go_at_call_of 16 tc; exact Calls.quiet_of_same (hT3 _))))
              have hP := hP.drewN nq
              have hb := below_drewN hb nq
              have hF4 := hF3 nq
              have hP4 := hP3 nq
              have hct4 : (wr.drewN nq).cell? _ = _ := hct
              clear hF3 hT3 hP3 hIf hIt hct e1 e2
              generalize wr.drewN nq = wq at *
              have e3 := hP.cf
              have e4 := hP.ct
              go_wp2_with (go_at_call 16; go_must (refine hF4.mono ?_); rintro e w3 ⟨rfl, hw3⟩; have hw3 := hw3.symm; subst hw3)
              go_quiet ((go_at_call 51; exact Calls.quiet_of_same (hP4 _)))
              go_wp2
              go_roundw
              case rel => exact ⟨k + 1, F', T', _, _, by omega, by go_num, Hst, HFT, by omega, hP.drewN _, below_drewN hb _⟩
              case measure => simp [intOf]; omega
            · have dy : (y != n2) = true := by simpa using hy
              have Hst : Hid (prun F T la lb = none) := by
                show prun F T la lb = _
                rw [unhide Hst, unhide HG, if_neg (by simpa using hy)]; rfl
              clear hy
              go_wp2
              go_quiet ((first | (go_at_call_of 16 fc; exact Calls.quiet_of_same (hF3 _)) | (go_at_call_of 16 tc; exact Calls.quiet_of_same (hT3 _))))
              have hP := hP.drewN nq
              have hb := below_drewN hb nq
              have hF4 := hF3 nq
              have hP4 := hP3 nq
              have hct4 : (wr.drewN nq).cell? _ = _ := hct
              clear hF3 hT3 hP3 hIf hIt hct e1 e2
              generalize wr.drewN nq = wq at *
              have e3 := hP.cf
              have e4 := hP.ct
              go_wp2_with (go_at_call 16; go_must (refine hF4.mono ?_); rintro e w3 ⟨rfl, hw3⟩; have hw3 := hw3.symm; subst hw3)
              go_quiet ((go_at_call 51; exact Calls.quiet_of_same (hP4 _)))
              go_wp2
              go_ret
              exact ⟨below_drewN hb _, .inl ⟨rfl, unhide Hst⟩⟩
          · simp only [m1, m2, decide_true, decide_false] at hF3 hT3
            have Hst : Hid (prun F T la lb = none) := by
              show prun F T la lb = _
              rw [unhide Hst, if_pos m1, if_neg m2]; rfl
            clear m1 m2
            go_wp2
            go_quiet ((first | (go_at_call_of 16 fc; exact Calls.quiet_of_same (hF3 _)) | (go_at_call_of 16 tc; exact Calls.quiet_of_same (hT3 _))))
            go_wp2
            go_ret
            exact ⟨below_drewN hb _, .inl ⟨rfl, unhide Hst⟩⟩
          · simp only [m1, m2, decide_true, decide_false] at hF3 hT3
            have Hst : Hid (prun F T la lb = none) := by
              show prun F T la lb = _
              rw [unhide Hst, if_neg m1, if_pos m2]; rfl
            clear m1 m2
            go_wp2
            go_quiet ((first | (go_at_call_of 16 fc; exact Calls.quiet_of_same (hF3 _)) | (go_at_call_of 16 tc; exact Calls.quiet_of_same (hT3 _))))
            go_wp2
            go_ret
            exact ⟨below_drewN hb _, .inl ⟨rfl, unhide Hst⟩⟩
          · simp only [m1, m2, decide_false] at hF3 hT3
            have Hst : Hid (prun F T la lb = prun (F' ++ [n1]) (T' ++ [n2]) (la.drop (k + 1)) (lb.drop (k + 1))) := by
              show prun F T la lb = _
              rw [unhide Hst, if_neg m1, if_neg m2]; rfl
            have Hm1 := hide m1
            clear m1 m2
            have hfl : T'.length ≤ F'.length := by have := unhide HFT; omega
            go_wp2
            go_quiet ((first | (go_at_call_of 16 fc; exact Calls.quiet_of_same (hF3 _)) | (go_at_call_of 16 tc; exact Calls.quiet_of_same (hT3 _))))
            have hP := hP.drewN nq
            have hb := below_drewN hb nq
            have hF4 := hF3 nq
            clear hF3 hT3
            generalize wr.drewN nq = wq at *
            have hqq := hP.sz
            have hqq' := hP.lt
            have e3 := hP.cf
            have e4 := hP.ct
            have e5 := hP.ff
            have e6 := hP.ft
            go_wp2_with (first
              | (go_at_call 16; go_must (refine hF4.mono ?_); rintro e w3 ⟨rfl, hw3⟩; have hw3 := hw3.symm; subst hw3)
              | (at_builtin; refine wpList_append_own_at _ rfl _ _ 38 rfl (pt + 1) 3 i0 _ 1 8 Try.underlying38 hi hz0 hz1 hz2 rfl (by decide) _ _ _ rfl ht3 _ 1 1 [.int .i64 n2] rfl rfl (cell_one_at _ _ _ _ (by simp)) (by simp [Value.oneCell']) (by simp only [maxLen]; omega) (by omega) (by simp; omega) ?_; go_must (intro v2 w3 ht4 hg3 _ hat3; obtain ⟨g2, cap2, hv2⟩ := ownsRow_succ ht4; subst hv2; have hb3 : Below (pt + 1) (w2.setCell ⟨pf, 0, none⟩ (.slice (some ⟨g1, 0, none⟩) (F'.length + 1) cap1)) w3 := ((Below.refl (pt + 1) _).alloc (by simp [World.setCell]; omega) (.cells #[.int .i64 n2] 3)).grown hg3 (by simp [World.setCell]; omega) (fun k e => (hP.rt.lt k e).1); have d3 := (hb3.cell (p := ⟨pt, 0, none⟩) (by simp)).trans d2; have d4 := (hb3.frozen (p := ⟨pt, 0, none⟩) (by simp)).trans ((World.frozen?_setCell _ _ _ _).trans c4)))
              | (at_builtin; go_must (refine wpList_append_own_at _ rfl _ _ 38 rfl (pt + 1) 3 i0 _ 1 8 Try.underlying38 hi hz0 hz1 hz2 rfl (by decide) _ _ _ rfl (hP.rf.alloc _) ⟨wq.heap.size, 0, none⟩ 1 1 [.int .i64 n1] rfl rfl (cell_one_at _ _ _ _ (by simp)) (by simp [Value.oneCell']) (by simp only [maxLen]; omega) (by omega) (by simp; omega) ?_); go_must (intro v1 w2 hf2 hg2 _ hat2; obtain ⟨g1, cap1, hv1⟩ := ownsRow_succ hf2; subst hv1; have hb2 : Below (pt + 1) wq w2 := ((Below.refl (pt + 1) wq).alloc (by omega) (.cells #[.int .i64 n1] 3)).grown hg2 (by simp; omega) (fun k e => (hP.rf.lt k e).1); have c1 := (hb2.cell (p := ⟨pf, 0, none⟩) (by simp; omega)).trans e3; have c2 := (hb2.cell (p := ⟨pt, 0, none⟩) (by simp)).trans e4; have c3 := (hb2.frozen (p := ⟨pf, 0, none⟩) (by simp; omega)).trans e5; have c4 := (hb2.frozen (p := ⟨pt, 0, none⟩) (by simp)).trans e6; have ht3 := (ownsRow_setCell_below ((hP.rt.alloc (.cells #[.int .i64 n1] 3)).kept hg2 (apart_inr hP.ap)) (a := ⟨pf, 0, none⟩) (by simp; omega) (.slice (some ⟨g1, 0, none⟩) (F'.length + 1) cap1)).alloc (.cells #[.int .i64 n2] 3); have hsw2 := hb2.size; have d2 : (w2.setCell ⟨pf, 0, none⟩ (.slice (some ⟨g1, 0, none⟩) (F'.length + 1) cap1)).cell? ⟨pt, 0, none⟩ = some (.slice ta T'.length tc) := (World.cell?_setCell_other _ _ _ _ (fun e => by injection e; omega)).trans c2)))
            obtain ⟨r1, r2⟩ := pair_step hP hf2 hg2 hat2 ht4 hg3 hat3
            have hlF : (F' ++ [n1]).length = F'.length + 1 := by simp
            have hlT : (T' ++ [n2]).length = T'.length + 1 := by simp
            obtain ⟨fa5, fc5, hv5, hIf5, _⟩ := ints_of_owns r1.rf rfl (by omega)
            obtain ⟨ta5, tc5, hv6, hIt5, _⟩ := ints_of_owns r1.rt rfl (by omega)
            have hlk : F'.length < (T' ++ [n2]).length := by have := unhide HFT; simp; omega
            have hget : (T' ++ [n2])[F'.length] = n2 := by have := unhide HFT; simp [this]
            have hgl : (F' ++ [n1]).idxOf n1 = F'.length := idxOf_first (k := F'.length) (by simp) (by simp) (by rw [List.take_left' rfl]; exact unhide Hm1)
            have hpl : placeOf (F' ++ [n1]) n1 = F'.length := by rw [placeOf, if_pos (by simp), hgl]
            obtain ⟨bt5, ot5, hta5, hbt5, hct5⟩ := hIt5.at hlk
            rw [hget] at hct5
            subst hta5
            injection hv5 with hv7 hv8 hv9
            injection hv6 with hv10 hv11 hv12
            injection hv10 with hv10
            injection hv10 with hv13 hv14
            subst hv7 hv9 hv12 hv13 hv14
            simp only [Nat.zero_add] at hct5
            have Hst := hide Hst
            have hlkI : (F'.length : Int) < ((T'.length + 1 : Nat) : Int) := by have := unhide HFT; omega
            have Hend : Hid (F'.length + 1 ≤ F.length + (k + 1)) := by show _ ≤ _; omega
            have HF5 : Hid ((F' ++ [n1]).length = (T' ++ [n2]).length) := by have := unhide HFT; show (F' ++ [n1]).length = _; simp; omega
            have hbX := hb.trans r2
            have hP5 : ∀ k, Calls Try.prog 51 #[.slice (some ⟨g1, 0, none⟩) (F'.length + 1) cap1, .int .i64 n1] (World.drewN (w3.setCell ⟨pt, 0, none⟩ (.slice (some ⟨g2, 0, none⟩) (T'.length + 1) cap2)) k) fun e w' => e = .returned (.int .i64 (F'.length : Int)) ∧ w' = World.drewN (w3.setCell ⟨pt, 0, none⟩ (.slice (some ⟨g2, 0, none⟩) (T'.length + 1) cap2)) k := fun k => by
              have := place_c (some ⟨g1, 0, none⟩) cap1 (F' ++ [n1]) n1 _ (World.drewN (w3.setCell ⟨pt, 0, none⟩ (.slice (some ⟨g2, 0, none⟩) (T'.length + 1) cap2)) k) hIf5
              rw [hpl, hlF] at this
              exact this
            have e7 := r1.cf
            have e8 := r1.ct
            clear hv8 hv11 hlk hIf5 hIt5 hget hgl hpl hlF hlT hf2 hg2 hat2 ht4 hg3 hat3 hb2 hb3 c1 c2 c3 c4 d2 d3 d4 ht3 e3 e4 e5 e6 hF4 hP r2 hb
            generalize w3.setCell ⟨pt, 0, none⟩ (.slice (some ⟨g2, 0, none⟩) (T'.length + 1) cap2) = wX at *
            go_quiet ((go_at_call 51; exact Calls.quiet_of_same (hP5 _)))
            go_wp2
            go_roundw
            case rel => exact ⟨k + 1, F' ++ [n1], T' ++ [n2], _, _, by omega, by go_num, unhide Hst, HF5, by have := unhide Hend; simp; omega, r1.drewN _, below_drewN hbX _⟩
            case measure => simp [intOf]; omega
        · have hE' : ∀ b, (r1 == r2 && n1 == n2) = b → ∀ w, (Op.equalIn 10000 64 (.agg #[.bool r1, .int .i64 n1]) (.agg #[.bool r2, .int .i64 n2])).run Try.prog w = .ok b w := fun b hb w => by rw [eql_in, hb]
          cases hE : (r1 == r2 && n1 == n2)
          · have he := hE' _ hE
            have Hno : Hid (prun F T la lb = none) := by
              show prun F T la lb = none
              rw [unhide Hst, pstep, if_neg hrr, if_neg (by intro e; injection e with e3 e4; subst e3 e4; simp at hE)]; rfl
            clear hE' hE
            cases r1
            · go_wp2
              go_still Try.mixed
              go_wp2
              go_ret
              exact ⟨hb.trans (Below.refl _ _).drew, .inl ⟨rfl, unhide Hno⟩⟩
            · cases r2
              · go_wp2
                go_still Try.mixed
                go_wp2
                go_ret
                exact ⟨hb.trans (Below.refl _ _).drew, .inl ⟨rfl, unhide Hno⟩⟩
              · exact absurd ⟨rfl, rfl⟩ hrr
          · have he := hE' _ hE
            have Hyes : Hid (prun F T la lb = prun F' T' (la.drop (k + 1)) (lb.drop (k + 1))) := by
              show prun F T la lb = _
              simp at hE
              obtain ⟨e3, e4⟩ := hE
              subst e3 e4
              rw [unhide Hst, pstep, if_neg hrr, if_pos rfl]; rfl
            have HEq : Hid (r1 = r2) := by simp at hE; exact hE.1
            clear hE' hE
            cases r1
            · cases r2
              · go_wp2
                go_still Try.mixed
                go_wp2
                go_roundw
                case rel => exact ⟨k + 1, F', T', vf', vt', by omega, by go_num, Hyes, HFT, by omega, hP.drew, hb.trans (Below.refl _ _).drew⟩
                case measure => simp [intOf]; omega
              · exact absurd (unhide HEq) (by simp)
            · cases r2
              · exact absurd (unhide HEq) (by simp)
              · exact absurd ⟨rfl, rfl⟩ hrr
      · obtain rfl : k = lb.length := by omega
        have Hfin : Hid (prun F T la lb = some (F', T')) := by
          show prun F T la lb = _
          rw [unhide Hrun, List.drop_length, List.drop_of_length_le hle]; rfl
        go_wp2
        go_ret
        exact ⟨hb, .inr ⟨rfl, F', T', vf', vt', unhide Hfin, unhide HFT, by omega, hP⟩⟩
  · have d1 : ((la.length : Int) != (lb.length : Int)) = true := by simp; omega
    go_enter Try.func49, Try.ntmps49
    go_wp2
    go_ret
    exact ⟨Below.refl _ _, .inl ⟨rfl, prun_len hl⟩⟩

end Go.Proofs.Ytemjhdbmcdlpeaa

/- Walks: the document's answer: Same. -/
namespace Go.Proofs.Ytemjhdbmcdlpeaa
set_option linter.unusedSimpArgs false
set_option linter.unusedVariables false
open Go.RowKit

theorem ps_start (w : World) (o1 o2 : Obj) : PS ((((w.alloc o1).alloc o2).alloc (.cells #[.slice none 0 0] 38)).alloc (.cells #[.slice none 0 0] 38)) (w.heap.size + 2) (w.heap.size + 3) [] [] (.slice none 0 0) (.slice none 0 0) := by
  refine ⟨by simp [go_sem], by simp [go_sem], by simp [go_sem], by simp [go_sem], World.ownsRow_nil _ _ _ _, World.ownsRow_nil _ _ _ _, fun k h => by simp [Value.ownBlock] at h, by omega⟩

theorem start_res {a b : Gr} {e : Ending} {w' : World} {pf pt : Nat} (h : (e = .returned (.bool false) ∧ prun [] [] a.roots b.roots = none) ∨
      (e = .returned (.bool true) ∧ ∃ F' T' vf' vt', prun [] [] a.roots b.roots = some (F', T') ∧ F'.length = T'.length ∧ F'.length ≤ ([] : List Int).length + a.roots.length ∧ PS w' pf pt F' T' vf' vt')) :
    ∃ r, e = .returned (.bool r) ∧ ((r = false ∧ Hid (sameN a b 256 = none)) ∨ (r = true ∧ ∃ F T vf vt, Hid (sameN a b 0 = some (F, T)) ∧ 0 ≤ F.length ∧ PS w' pf pt F T vf vt)) := by
  rcases h with ⟨rfl, hno⟩ | ⟨rfl, F, T, vf, vt, hsm, _, _, hP⟩
  · exact ⟨false, rfl, .inl ⟨rfl, sameN_none (k := 0) hno (by omega)⟩⟩
  · exact ⟨true, rfl, .inr ⟨rfl, F, T, vf, vt, hsm, Nat.zero_le _, hP⟩⟩

theorem prun_grows : ∀ {la lb : List V} {F T F' T' : List Int}, F.length = T.length → T.Nodup → prun F T la lb = some (F', T') → F.length ≤ F'.length := by
  intro la lb F T F' T' hl hT h
  rw [((prun_iff la lb F T F' T' hl hT).1 h).1]
  exact (insA_prefix la F).length_le

theorem round_res {a b : Gr} {e : Ending} {w' : World} {pf pt k : Nat} {F T : List Int} {la lb : List V} (hk : k < F.length) (hF : F.length ≤ 256) (hl : F.length = T.length) (hT : T.Nodup) (hst : sameN a b (k + 1) = prun F T la lb)
    (h : (e = .returned (.bool false) ∧ prun F T la lb = none) ∨
      (e = .returned (.bool true) ∧ ∃ F' T' vf' vt', prun F T la lb = some (F', T') ∧ F'.length = T'.length ∧ F'.length ≤ F.length + la.length ∧ PS w' pf pt F' T' vf' vt')) :
    ∃ r, e = .returned (.bool r) ∧ ((r = false ∧ Hid (sameN a b 256 = none)) ∨ (r = true ∧ ∃ F T vf vt, Hid (sameN a b (k + 1) = some (F, T)) ∧ k + 1 ≤ F.length ∧ PS w' pf pt F T vf vt)) := by
  rcases h with ⟨rfl, hno⟩ | ⟨rfl, F', T', vf, vt, hsm, _, _, hP⟩
  · exact ⟨false, rfl, .inl ⟨rfl, sameN_none (k := k + 1) (hst.trans hno) (by omega)⟩⟩
  · exact ⟨true, rfl, .inr ⟨rfl, F', T', vf, vt, hst.trans hsm, by have := prun_grows hl hT hsm; omega, hP⟩⟩

set_option maxRecDepth 100000 in
set_option maxHeartbeats 2000000 in
theorem refSame_c (ao ar bo br : Option Addr) (co cr do' dr : Nat) (a b : Gr) (B : Nat) (w : World) (ho : Objs B w ao a.objs) (hr : Vals B w ar a.roots) (ko : Objs B w bo b.objs) (kr : Vals B w br b.roots) (hB : B ≤ w.heap.size) (hA : Good a) (hG : Good b) :
    Calls Try.prog 34 #[.agg #[.slice ao a.objs.length co, .slice ar a.roots.length cr], .agg #[.slice bo b.objs.length do', .slice br b.roots.length dr]] w fun e w' => e = .returned (.bool (sameN a b 256).isSome) ∧ Below w.heap.size w w' := by
  have hn8 := hA.n8
  have hn24 := hA.n24
  obtain ⟨W0, hW0⟩ : ∃ W0, (((w.alloc (.cells #[.slice ao a.objs.length co, .slice ar a.roots.length cr] 43)).alloc (.cells #[.slice bo b.objs.length do', .slice br b.roots.length dr] 43)).alloc (.cells #[.slice none 0 0] 38)).alloc (.cells #[.slice none 0 0] 38) = W0 := ⟨_, rfl⟩
  have hb0 : Below w.heap.size w W0 := by rw [← hW0]; exact ((((Below.refl _ _).alloc (Nat.le_refl _) _).alloc (by simp) _).alloc (by simp; omega) _).alloc (by simp; omega) _
  have hs0 : w.heap.size + 3 < W0.heap.size := by rw [← hW0]; simp
  have g0 : W0.cell? ⟨w.heap.size, 0, none⟩ = some (.slice ao a.objs.length co) := by rw [← hW0]; simp [go_sem]
  have g1 : W0.cell? ⟨w.heap.size, 1, none⟩ = some (.slice ar a.roots.length cr) := by rw [← hW0]; simp [go_sem]
  have g2 : W0.cell? ⟨w.heap.size + 1, 0, none⟩ = some (.slice bo b.objs.length do') := by rw [← hW0]; simp [go_sem]
  have g3 : W0.cell? ⟨w.heap.size + 1, 1, none⟩ = some (.slice br b.roots.length dr) := by rw [← hW0]; simp [go_sem]
  have hP0 : PS W0 (w.heap.size + 2) (w.heap.size + 3) [] [] (.slice none 0 0) (.slice none 0 0) := by rw [← hW0]; exact ps_start _ _ _
  have hr0 : Vals (w.heap.size + 2) W0 ar a.roots := (hr.below (hb0.mono hB)).mono (by omega)
  have kr0 : Vals (w.heap.size + 2) W0 br b.roots := (kr.below (hb0.mono hB)).mono (by omega)
  go_enter Try.func34, Try.ntmps34
  go_wp2_with (go_at_call 49; clear hW0; go_must (refine (pair_c ar br cr dr a.roots b.roots (w.heap.size + 2) (w.heap.size + 3) [] [] _ _ W0 hr0 kr0 hP0 rfl (by simp) (by omega)).mono ?_); rintro e w1 ⟨hb1, hres⟩; obtain ⟨r, rfl, hq⟩ := start_res hres)
  have hlA : ∀ k, (searchN a k).1.length ≤ 256 := fun k => by have := (searchN_ok hA k).le; omega
  go_loopw [7, 8] (fun okv i wr => ∃ (k : Nat) (r : Bool), i = .int .i64 k ∧ okv = .bool r ∧ ((r = false ∧ Hid (sameN a b 256 = none)) ∨ (r = true ∧ ∃ F T vf vt, Hid (sameN a b k = some (F, T)) ∧ k ≤ F.length ∧ PS wr (w.heap.size + 2) (w.heap.size + 3) F T vf vt)) ∧ Below (w.heap.size + 2) W0 wr) (fun _ i _ => 256 - (intOf i).toNat)
  case atStart =>
    exact ⟨0, r, rfl, rfl, hq, hb1⟩
  case round =>
    clear hq hres hP0 hb1
    obtain ⟨k, r, rfl, rfl, hres, hb⟩ := hrel
    have hsz := hb.size
    have hbw : Below B w wr := (hb0.mono hB).trans (hb.mono (by omega))
    rcases hres with ⟨rfl, Hno⟩ | ⟨rfl, F, T, vf, vt, Hs, hk, hP⟩
    · go_wp2
      go_ret
      refine ⟨ret_bool (by rw [unhide Hno]; rfl), hb0.trans (hb.mono (by omega))⟩
    · have hfw := same_fwd hA hG k F T (unhide Hs)
      have hF24 : F.length ≤ 256 := by rw [hfw.1]; exact hlA k
      have hT24 : T.length ≤ 256 := by rw [← hfw.2.2.1]; exact hF24
      have q0 := (hb.cell (p := ⟨w.heap.size, 0, none⟩) (by simp)).trans g0
      have q2 := (hb.cell (p := ⟨w.heap.size + 1, 0, none⟩) (by simp)).trans g2
      have e1 := hP.cf
      have e2 := hP.ct
      by_cases hlt : k < F.length
      · have hlt2 : k < T.length := by rw [← hfw.2.2.1]; exact hlt
        obtain ⟨ga, ca, rfl, hx1, hgl1⟩ := ints_at hP.rf hlt
        obtain ⟨gb, cb, rfl, hx2, hgl2⟩ := ints_at hP.rt hlt2
        have hxr : 0 ≤ F[k] ∧ F[k] < a.objs.length := (searchN_ok hA k).rng _ (by rw [← hfw.1]; exact List.getElem_mem hlt)
        have hyr : 0 ≤ T[k] ∧ T[k] < b.objs.length := (searchN_ok hG k).rng _ (by rw [← hfw.2.1]; exact List.getElem_mem hlt2)
        have HFT := hide hfw.2.2.1
        have HTn : Hid T.Nodup := by show T.Nodup; rw [hfw.2.1]; exact (searchN_ok hG k).nd
        have Hst : Hid (sameN a b (k + 1) = prun F T (fieldsOf a F[k]) (fieldsOf b T[k])) := by
          show sameN a b (k + 1) = _
          simp only [sameN]; rw [unhide Hs]; simp only [Option.bind_some]; rw [List.getElem?_eq_getElem hlt, List.getElem?_eq_getElem hlt2]
        clear hfw Hs
        generalize F[k] = x at *
        generalize T[k] = y at *
        obtain ⟨x, rfl⟩ := Int.eq_ofNat_of_zero_le hxr.1
        obtain ⟨y, rfl⟩ := Int.eq_ofNat_of_zero_le hyr.1
        have hxN : x < a.objs.length := by omega
        have hyN : y < b.objs.length := by omega
        obtain ⟨b1, o1, a1, c1, rfl, hbB1, hcb1, hva1⟩ := (ho.below hbw).at hxN
        obtain ⟨b2, o2, a2, c2, rfl, hbB2, hcb2, hva2⟩ := (ko.below hbw).at hyN
        have hl4 := hA.n4 _ (List.getElem_mem hxN)
        have Hst : Hid (sameN a b (k + 1) = prun F T a.objs[x] b.objs[y]) := by
          show sameN a b (k + 1) = _
          rw [unhide Hst]; simp [fieldsOf, hxN, hyN]
        generalize a.objs[x] = la at *
        generalize b.objs[y] = lb at *
        have i1 : (k : Int) < (F.length : Int) := by omega
        have i2 : (k : Int) < (T.length : Int) := by omega
        have i3 : (x : Int) < (a.objs.length : Int) := by omega
        have i4 : (y : Int) < (b.objs.length : Int) := by omega
        go_wp2
        go_still_tail 18, Try.mixed
        go_wp2_with (go_at_call 49; go_must (refine (pair_c a1 a2 c1 c2 la lb (w.heap.size + 2) (w.heap.size + 3) F T _ _ _ ((hva1.mono (by omega)).below (Below.refl _ _).drew) ((hva2.mono (by omega)).below (Below.refl _ _).drew) hP.drew (unhide HFT) (by omega) (by omega)).mono ?_); rintro e w3 ⟨hb3, hres⟩; obtain ⟨r, rfl, hq⟩ := round_res hlt hF24 (unhide HFT) (unhide HTn) (unhide Hst) hres)
        go_roundw
        case rel => exact ⟨k + 1, r, by go_num, rfl, hq, hb.trans ((Below.refl _ _).drew.trans hb3)⟩
        case measure => simp [intOf]; omega
      · have Hfin := hide (sameN_stay (m := 256) (unhide Hs) (by omega) (by omega))
        obtain ⟨fa, fc, rfl⟩ := ownsRow_slice hP.rf
        obtain rfl : k = F.length := by omega
        clear hfw
        go_wp2
        go_ret
        refine ⟨ret_bool (by rw [unhide Hfin]; rfl), hb0.trans (hb.mono (by omega))⟩

end Go.Proofs.Ytemjhdbmcdlpeaa

/- Walks: the law's left. -/
namespace Go.Proofs.Ytemjhdbmcdlpeaa
set_option linter.unusedSimpArgs false
set_option linter.unusedVariables false
open Go.RowKit Go.Shelf

theorem step_call_w {P : Program} {ops : Array Oper} {o : Oper} {a : Act} {w : World} {K : Act → World → Prop} {Q : Exit → Act → World → Prop} {E : Prop} (hw : Region.wanted o (yielded ops a.tmps) = true) (f : FuncId) (args : Array Value)
    (hex : (execOp a.eval o).run P w = .ok (.enter f args) w) (R : Value → World → Prop) (hc : Calls P f args w fun e w' => ∃ v, e = .returned v ∧ R v w') (hK : ∀ v w', R v w' → K (a.put o.dst v) w') :
    if Region.wanted o (yielded ops a.tmps) = true then Oper.wp P o a w K Q else E := by
  rw [if_pos hw]
  unfold Oper.wp
  rw [hex, Oper.upon_enter]
  refine hc.mono ?_
  rintro e w' ⟨v, rfl, hr⟩
  exact hK v w' hr

/-- What Read hands back. -/
def RdP (X : World) (fs : List (List Int)) (rs : List Int) (v : Value) (W : World) : Prop :=
  ∃ ao co ar cr, v = .agg #[.slice ao (readG fs rs).objs.length co, .slice ar (readG fs rs).roots.length cr] ∧ Objs W.heap.size W ao (readG fs rs).objs ∧ Vals W.heap.size W ar (readG fs rs).roots ∧ Below X.heap.size X W

theorem read_p (aw ar : Option Addr) (cw cr : Nat) (ws rs : List Int) (hs : List Int) (fs : List (List Int)) (B : Nat) (X : World) (hW : Wds B X aw ws) (hR : Wds B X ar rs) (hUW : U64 ws) (hUR : U64 rs) (hB : B ≤ X.heap.size) (hA : Arn hs fs rs) (hws : ws = joinW hs fs) :
    Calls Try.prog 15 #[.agg #[.slice aw ws.length cw, .slice ar rs.length cr]] X fun e w' => ∃ v, e = .returned v ∧ RdP X fs rs v w' := by
  have hsp : splitR ws = some fs := by rw [hws]; exact fit_split hA.fit
  have h256 : ws.length ≤ 256 := by rw [hws, joinW_len _ _ hA.fit.len]; exact hA.n256
  refine (rread_c aw ar cw cr ws rs fs B X hW hR hUW hUR hB h256 hA.n8 hsp).mono ?_
  rintro e w' ⟨⟨ao, co, ar', cr', he, hO, hV⟩, hb⟩
  exact ⟨_, he, ao, co, ar', cr', rfl, hO, hV, hb⟩

set_option maxRecDepth 100000 in
set_option maxHeartbeats 8000000 in
theorem left_c (bw br aw ar : Option Addr) (dw dr cw cr : Nat) (vs us ws rs : List Int) (hs' : List Int) (fs' : List (List Int)) (hs : List Int) (fs : List (List Int)) (B : Nat) (w : World) (hV : Wds B w bw vs) (hU : Wds B w br us) (hW : Wds B w aw ws) (hR : Wds B w ar rs) (hB : B ≤ w.heap.size)
    (hA' : Arn hs' fs' us) (hvs : vs = joinW hs' fs') (hA : Arn hs fs rs) (hws : ws = joinW hs fs) (hlen : vs.length = tot (mF fs rs)) (hsame : canonG (readG fs' us) = canonG (readG fs rs)) :
    Calls Try.prog 13 #[.agg #[.slice bw vs.length dw, .slice br us.length dr], .agg #[.slice aw ws.length cw, .slice ar rs.length cr]] w fun e w' => e = .returned (.bool true) ∧ Below w.heap.size w w' := by
  have hUV : U64 vs := by rw [hvs]; exact joinW_u64 hA' hA'.fit
  have hUW : U64 ws := by rw [hws]; exact joinW_u64 hA hA.fit
  obtain ⟨W0, hW0⟩ : ∃ W0, (w.alloc (.cells #[.slice bw vs.length dw, .slice br us.length dr] 24)).alloc (.cells #[.slice aw ws.length cw, .slice ar rs.length cr] 24) = W0 := ⟨_, rfl⟩
  have hb0 : Below w.heap.size w W0 := by rw [← hW0]; exact ((Below.refl w.heap.size w).alloc (Nat.le_refl _) _).alloc (by simp) _
  have hs0 : w.heap.size + 1 < W0.heap.size := by rw [← hW0]; simp
  have hs0' : w.heap.size < W0.heap.size := by omega
  have k0 : W0.cell? ⟨w.heap.size, 0, none⟩ = some (.slice bw vs.length dw) := by rw [← hW0]; simp [go_sem]
  have k1 : W0.cell? ⟨w.heap.size, 1, none⟩ = some (.slice br us.length dr) := by rw [← hW0]; simp [go_sem]
  have g0 : W0.cell? ⟨w.heap.size + 1, 0, none⟩ = some (.slice aw ws.length cw) := by rw [← hW0]; simp [go_sem]
  have g1 : W0.cell? ⟨w.heap.size + 1, 1, none⟩ = some (.slice ar rs.length cr) := by rw [← hW0]; simp [go_sem]
  have HcS : Hid (∀ X, Below W0.heap.size W0 X → Calls Try.prog 11 #[.agg #[.slice bw vs.length dw, .slice br us.length dr]] X fun e w' => ∃ v, e = .returned v ∧ v = .bool true ∧ Below X.heap.size X w') := by
    intro X hb
    have hbX : Below w.heap.size w X := hb0.trans (hb.mono (by omega))
    refine (sound_c bw br dw dr vs us B X (hV.below (hbX.mono hB)) (hU.below (hbX.mono hB)) hUV hA'.ur (by have := hbX.size; omega)).mono ?_
    rintro e w' ⟨rfl, h⟩
    have hE := hA'.check
    rw [← hvs] at hE
    exact ⟨_, rfl, by rw [hE]; rfl, h⟩
  have HcZ : Hid (∀ X, Below W0.heap.size W0 X → Calls Try.prog 18 #[.agg #[.slice aw ws.length cw, .slice ar rs.length cr]] X fun e w' => ∃ v, e = .returned v ∧ v = .int .i64 (vs.length : Nat) ∧ Below X.heap.size X w') := by
    intro X hb
    have hbX : Below w.heap.size w X := hb0.trans (hb.mono (by omega))
    refine (size_c aw ar cw cr ws rs hs fs B X (hW.below (hbX.mono hB)) (hR.below (hbX.mono hB)) hUW hA.ur (by have := hbX.size; omega) hA hws).mono ?_
    rintro e w' ⟨rfl, h⟩
    exact ⟨_, rfl, by rw [hlen], h⟩
  have HcB : Hid (∀ X, Below W0.heap.size W0 X → Calls Try.prog 15 #[.agg #[.slice bw vs.length dw, .slice br us.length dr]] X fun e w' => ∃ v, e = .returned v ∧ RdP X fs' us v w') := by
    intro X hb
    have hbX : Below w.heap.size w X := hb0.trans (hb.mono (by omega))
    exact read_p bw br dw dr vs us hs' fs' B X (hV.below (hbX.mono hB)) (hU.below (hbX.mono hB)) hUV hA'.ur (by have := hbX.size; omega) hA' hvs
  have HcA : Hid (∀ X, Below W0.heap.size W0 X → Calls Try.prog 15 #[.agg #[.slice aw ws.length cw, .slice ar rs.length cr]] X fun e w' => ∃ v, e = .returned v ∧ RdP X fs rs v w') := by
    intro X hb
    have hbX : Below w.heap.size w X := hb0.trans (hb.mono (by omega))
    exact read_p aw ar cw cr ws rs hs fs B X (hW.below (hbX.mono hB)) (hR.below (hbX.mono hB)) hUW hA.ur (by have := hbX.size; omega) hA hws
  have hG' := good_read hA'
  have hG := good_read hA
  have hsm : (sameN (readG fs' us) (readG fs rs) 256).isSome = true := (same_iff hG' hG).2 hsame
  have HcM : Hid (∀ (X : World) ao ar co cr bo br do' dr, Objs X.heap.size X ao (readG fs' us).objs → Vals X.heap.size X ar (readG fs' us).roots → Objs X.heap.size X bo (readG fs rs).objs → Vals X.heap.size X br (readG fs rs).roots →
      Calls Try.prog 34 #[.agg #[.slice ao (readG fs' us).objs.length co, .slice ar (readG fs' us).roots.length cr], .agg #[.slice bo (readG fs rs).objs.length do', .slice br (readG fs rs).roots.length dr]] X fun e w' => ∃ v, e = .returned v ∧ v = .bool true ∧ Below X.heap.size X w') := by
    intro X ao ar co cr bo br do' dr h1 h2 h3 h4
    refine (refSame_c ao ar bo br co cr do' dr (readG fs' us) (readG fs rs) X.heap.size X h1 h2 h3 h4 (Nat.le_refl _) hG' hG).mono ?_
    rintro e w' ⟨rfl, h⟩
    exact ⟨_, rfl, by rw [hsm], h⟩
  clear hsm hG hG' hsame hlen hws hA hvs hA' hV hU hW hR hUV hUW
  have hbd : Below W0.heap.size W0 W0.drew := (Below.refl _ _).drew
  go_enter Try.func13, Try.ntmps13
  go_wp2_with fail
  clear hW0
  go_region_law (first
    | (refine step_call rfl 11 #[.agg #[.slice bw vs.length dw, .slice br us.length dr]] (by go_simp) (fun v w' => v = .bool true ∧ Below W0.drew.heap.size W0.drew w') (unhide HcS _ hbd) ?_; rintro vS w1 ⟨rfl, hbS⟩; have hb1 : Below W0.heap.size W0 w1 := hbd.trans hbS; have k0p := (hb1.cell (p := ⟨w.heap.size, 0, none⟩) hs0').trans k0; have k1p := (hb1.cell (p := ⟨w.heap.size, 1, none⟩) hs0').trans k1; have g0p := (hb1.cell (p := ⟨w.heap.size + 1, 0, none⟩) hs0).trans g0; have g1p := (hb1.cell (p := ⟨w.heap.size + 1, 1, none⟩) hs0).trans g1; have lap : w.heap.size < w1.heap.size := Nat.lt_of_lt_of_le hs0' hb1.size; have lbp : w.heap.size + 1 < w1.heap.size := Nat.lt_of_lt_of_le hs0 hb1.size)
    | (refine step_call_w (by rfl) 18 #[.agg #[.slice aw ws.length cw, .slice ar rs.length cr]] (by go_simp) (fun v w' => v = .int .i64 (vs.length : Nat) ∧ Below w1.heap.size w1 w') (unhide HcZ _ hb1) ?_; rintro vZ w2 ⟨rfl, hbZ⟩; have hb2 : Below W0.heap.size W0 w2 := hb1.trans (hbZ.mono hb1.size); have k0q := (hb2.cell (p := ⟨w.heap.size, 0, none⟩) hs0').trans k0; have k1q := (hb2.cell (p := ⟨w.heap.size, 1, none⟩) hs0').trans k1; have g0q := (hb2.cell (p := ⟨w.heap.size + 1, 0, none⟩) hs0).trans g0; have g1q := (hb2.cell (p := ⟨w.heap.size + 1, 1, none⟩) hs0).trans g1; have laq : w.heap.size < w2.heap.size := Nat.lt_of_lt_of_le hs0' hb2.size; have lbq : w.heap.size + 1 < w2.heap.size := Nat.lt_of_lt_of_le hs0 hb2.size)
    | (refine step_call_w (by rfl) 15 #[.agg #[.slice bw vs.length dw, .slice br us.length dr]] (by go_simp) (fun v w' => RdP w2 fs' us v w') (unhide HcB _ hb2) ?_; rintro vB w3 ⟨bo, bc, b2, b3, rfl, hOB, hVB, hbB⟩; have hb3 : Below W0.heap.size W0 w3 := hb2.trans (hbB.mono hb2.size); have g0r := (hb3.cell (p := ⟨w.heap.size + 1, 0, none⟩) hs0).trans g0; have g1r := (hb3.cell (p := ⟨w.heap.size + 1, 1, none⟩) hs0).trans g1; have lar : w.heap.size < w3.heap.size := Nat.lt_of_lt_of_le hs0' hb3.size; have lbr : w.heap.size + 1 < w3.heap.size := Nat.lt_of_lt_of_le hs0 hb3.size)
    | (refine step_call_w (by rfl) 34 #[.agg #[.slice bo (readG fs' us).objs.length bc, .slice b2 (readG fs' us).roots.length b3], .agg #[.slice ao (readG fs rs).objs.length ac, .slice a2 (readG fs rs).roots.length a3]] (by go_simp) (fun v w' => v = .bool true ∧ Below w4.heap.size w4 w') (unhide HM) ?_; rintro vM w5 ⟨rfl, hbM⟩; have hb5 : Below W0.heap.size W0 w5 := hb4.trans (hbM.mono hb4.size))
    | (refine step_call_w (by rfl) 15 #[.agg #[.slice aw ws.length cw, .slice ar rs.length cr]] (by go_simp) (fun v w' => RdP w3 fs rs v w') (unhide HcA _ hb3) ?_; rintro vA w4 ⟨ao, ac, a2, a3, rfl, hOA, hVA, hbA⟩; have hb4 : Below W0.heap.size W0 w4 := hb3.trans (hbA.mono hb3.size); have hOB4 := (hOB.below hbA).mono hbA.size; have hVB4 := (hVB.below hbA).mono hbA.size; have HM := hide (unhide HcM w4 bo b2 bc b3 ao a2 ac a3 hOB4 hVB4 hOA hVA)))
  all_goals
    go_wp2
    go_ret
    exact ⟨rfl, hb0.trans (hb5.mono (by omega))⟩

end Go.Proofs.Ytemjhdbmcdlpeaa

/- Walks: Slide's closure. -/
namespace Go.Proofs.Ytemjhdbmcdlpeaa
set_option linter.unusedSimpArgs false
set_option linter.unusedVariables false
open Go.RowKit Go.Shelf

theorem wordsV_one (l : List Int) : ∀ u ∈ wordsV l, u.oneCell' = true := by
  intro u hu
  simp only [wordsV, List.mem_map] at hu
  obtain ⟨z, _, rfl⟩ := hu
  rfl

theorem wds_at {w : World} {B b : Nat} {l : List Int} (h : Wds B w (some ⟨b, 0, none⟩) l) : ∀ j u, (wordsV l)[j]? = some u → w.cell? ((⟨b, 0, none⟩ : Addr).add j) = some u := by
  intro j u hj
  obtain ⟨b', off, e, _, hc⟩ := h.2 (by rintro rfl; simp [wordsV] at hj)
  have e' := Option.some.inj e
  rw [e', Go.WideShapes.add_plain]
  simp only [wordsV, List.getElem?_map, Option.map_eq_some_iff] at hj
  obtain ⟨x, hx, rfl⟩ := hj
  exact hc j x hx

/-- The arena that is made, behind the first append and its store. -/
def SlP (w5 : World) (db : Nat) (vo : Value) (W : World) (v' : Value) : Prop :=
  w5.grownBy W (some db) ∧ W.cell? ⟨db, 0, none⟩ = some v' ∧ W.cell? ⟨db, 1, none⟩ = some vo ∧ (∀ j, W.frozen? ⟨db, j, none⟩ = false) ∧ (∃ cs, W.heap[db]? = some (.cells cs 24))

theorem sl_below {w5 W W' : World} {db : Nat} {vo v : Value} (h : SlP w5 db vo W v) (hb : Below W.heap.size W W') : SlP w5 db vo W' v := by
  have hl : db < W.heap.size := World.block_lt_of_cell? W _ h.2.1
  refine ⟨gb_below h.1 hb, (hb.cell (p := ⟨db, 0, none⟩) hl).trans h.2.1, (hb.cell (p := ⟨db, 1, none⟩) hl).trans h.2.2.1, fun j => (hb.frozen (p := ⟨db, j, none⟩) hl).trans (h.2.2.2.1 j), ?_⟩
  obtain ⟨cs, hc⟩ := h.2.2.2.2
  exact ⟨cs, (hb.block db hl).trans hc⟩

theorem sl_push {w5 W w1 : World} {db n : Nat} {vo v : Value} {xs : List Value} (h : SlP w5 db vo W v) (hr : W.ownsRow w5.heap.size 56 1 v n xs) (hg : W.grownBy w1 v.ownBlock) (hlt : db < w5.heap.size) : w1.cell? ⟨db, 0, none⟩ = some v ∧ (∀ j, w1.frozen? ⟨db, j, none⟩ = false) ∧ db < w1.heap.size ∧ ∀ v', SlP w5 db vo (w1.setCell ⟨db, 0, none⟩ v') v' := by
  have hl : db < W.heap.size := World.block_lt_of_cell? W _ h.2.1
  have hne : some db ≠ v.ownBlock := fun e => by have := (hr.lt db e.symm).1; omega
  have hbk := hg.block db hl hne
  obtain ⟨cs, hc⟩ := h.2.2.2.2
  have c0 := (World.cell?_of_block (a := ⟨db, 0, none⟩) hbk).trans h.2.1
  refine ⟨c0, fun j => (World.frozen?_of_block (a := ⟨db, j, none⟩) hbk).trans (h.2.2.2.1 j), Nat.lt_of_lt_of_le hl hg.size, fun v' => ⟨gb_set (gb_grown h.1 hg (fun k e => (hr.lt k e).1)) (.inl rfl) 0 v', World.cell?_setCell_same' _ _ _ (by rw [c0]; rfl), ?_, fun j => ?_, ⟨_, heap_setCell_same w1 db 0 cs 24 _ (hbk.trans hc)⟩⟩⟩
  · rw [World.cell?_setCell_other _ _ _ _ (by simp)]; exact (World.cell?_of_block (a := ⟨db, 1, none⟩) hbk).trans h.2.2.1
  · rw [World.frozen?_setCell]; exact (World.frozen?_of_block (a := ⟨db, j, none⟩) hbk).trans (h.2.2.2.1 j)

theorem wds_gb {w5 W : World} {db wb o : Nat} {l : List Int} (h : Wds w5.heap.size w5 (some ⟨wb, o, none⟩) l) (hg : w5.grownBy W (some db)) (hne : wb ≠ db) : Wds W.heap.size W (some ⟨wb, o, none⟩) l := by
  refine ⟨h.1, fun hn => ?_⟩
  obtain ⟨b, off, e, hB, hc⟩ := h.2 hn
  have e' := e
  injection e' with e'
  injection e' with e1 e2
  subst e1 e2
  exact ⟨_, _, rfl, Nat.lt_of_lt_of_le hB hg.size, fun k v hk => gb_cell hg hB hne _ (hc k v hk)⟩

end Go.Proofs.Ytemjhdbmcdlpeaa

/- Walks: settle. -/
namespace Go.Proofs.Ytemjhdbmcdlpeaa
set_option linter.unusedSimpArgs false
set_option linter.unusedVariables false
open Go.RowKit Go.Shelf

/-- All is as it was, but for two blocks. -/
structure Gb2 (w w' : World) (g1 g2 : Nat) : Prop where
  os : w'.os = w.os
  tape : w'.tape = w.tape
  output : w'.output = w.output
  size : w.heap.size ≤ w'.heap.size
  block : ∀ k, k < w.heap.size → k ≠ g1 → k ≠ g2 → w'.heap[k]? = w.heap[k]?

theorem Gb2.refl (w : World) (g1 g2 : Nat) : Gb2 w w g1 g2 := ⟨rfl, rfl, rfl, Nat.le_refl _, fun _ _ _ _ => rfl⟩
theorem Gb2.below {w W W' : World} {g1 g2 : Nat} (h : Gb2 w W g1 g2) (hb : Below W.heap.size W W') : Gb2 w W' g1 g2 :=
  ⟨hb.os.trans h.os, hb.tape.trans h.tape, hb.output.trans h.output, Nat.le_trans h.size hb.size, fun k h1 h2 h3 => (hb.block k (Nat.lt_of_lt_of_le h1 h.size)).trans (h.block k h1 h2 h3)⟩
theorem Gb2.grown {w W W' : World} {g1 g2 g : Nat} (h : Gb2 w W g1 g2) (hg : W.grownBy W' (some g)) (ho : g = g1 ∨ g = g2 ∨ w.heap.size ≤ g) : Gb2 w W' g1 g2 :=
  ⟨hg.os.trans h.os, hg.tape.trans h.tape, hg.output.trans h.output, Nat.le_trans h.size hg.size, fun k h1 h2 h3 => (hg.block k (Nat.lt_of_lt_of_le h1 h.size) (fun e => by injection e with e; omega)).trans (h.block k h1 h2 h3)⟩
theorem Gb2.cell {w W : World} {g1 g2 b j : Nat} (h : Gb2 w W g1 g2) (h1 : b ≠ g1) (h2 : b ≠ g2) {v : Value} (hv : w.cell? ⟨b, j, none⟩ = some v) : W.cell? ⟨b, j, none⟩ = some v :=
  (World.cell?_of_block (a := ⟨b, j, none⟩) (h.block b (World.block_lt_of_cell? w _ hv) h1 h2)).trans hv

theorem WnM.gb2 {W W' : World} {N mb s : Nat} {p : Nat → Bool} {n u t : Nat} {O : List Int} {g1 g2 : Nat} (h : WnM W N mb s p n u t O) (hg : Gb2 W W' g1 g2) (h1 : mb ≠ g1) (h2 : mb ≠ g2) : WnM W' N mb s p n u t O := by
  have hl := h.lt
  obtain ⟨M, ⟨es, clock, hb, hf⟩, hn, hd⟩ := h
  exact ⟨M, ⟨es, clock, (hg.block mb hl h1 h2).trans hb, hf⟩, hn, hd⟩

/-- What settle holds. -/
structure StI (W1 : World) (gw gr N2 nw cw cr : Nat) (ws rs : List Int) (wr : World) : Prop where
  g : Gb2 W1 wr gw gr
  row : ws ≠ [] → wr.ownsRow N2 56 1 (.slice (some ⟨gw, 0, none⟩) nw cw) nw (wordsV ws)
  roots : rs ≠ [] → wr.ownsRow N2 56 1 (.slice (some ⟨gr, 0, none⟩) rs.length cr) rs.length (wordsV rs)

theorem StI.below {W1 W W' : World} {gw gr N2 nw cw cr : Nat} {ws rs : List Int} (h : StI W1 gw gr N2 nw cw cr ws rs W) (hb : Below W.heap.size W W') : StI W1 gw gr N2 nw cw cr ws rs W' :=
  ⟨h.g.below hb, fun e => ownsRow_below (h.row e) hb, fun e => ownsRow_below (h.roots e) hb⟩

theorem StI.setO {W1 W : World} {gw gr N2 nw cw cr : Nat} {ws rs : List Int} (h : StI W1 gw gr N2 nw cw cr ws rs W) {b : Nat} (hb : W1.heap.size ≤ b) (h1 : b ≠ gw) (h2 : b ≠ gr) (j : Nat) (u : Value) : StI W1 gw gr N2 nw cw cr ws rs (W.setCell ⟨b, j, none⟩ u) := by
  have hg := grown_set W b j u
  exact ⟨h.g.grown hg (.inr (.inr hb)), fun e => (h.row e).kept hg (or_ne (by simp [Value.ownBlock]; omega)), fun e => (h.roots e).kept hg (or_ne (by simp [Value.ownBlock]; omega))⟩

/-- Words of the arena turn. -/
theorem StI.grown {W1 W W' : World} {gw gr N2 nw cw cr : Nat} {ws ws' rs : List Int} (h : StI W1 gw gr N2 nw cw cr ws rs W) (hg : W.grownBy W' (some gw)) (hwr : gw ≠ gr) (hr : ws' ≠ [] → W'.ownsRow N2 56 1 (.slice (some ⟨gw, 0, none⟩) nw cw) nw (wordsV ws')) : StI W1 gw gr N2 nw cw cr ws' rs W' :=
  ⟨h.g.grown hg (.inl rfl), hr, fun e => (h.roots e).kept hg (or_ne (by simp [Value.ownBlock]; omega))⟩

set_option maxRecDepth 100000 in
set_option maxHeartbeats 2000000 in
/-- turnAll on a part of an owned row. -/
theorem tpart_c (a : Option Addr) (cap : Nat) (l : List Int) (fs : List (List Int)) (L : List Int) (s : Nat) (p : Nat → Bool) (N N2 mb pb t g o n c : Nat) (ws : List Int) (w : World) (hU : U64 l) (hok : ∀ x ∈ l, okW (stF 0 fs) x = true) (hu : Unif s fs) (hO : OOk fs L)
    (hpb : w.cell? ⟨pb, 0, none⟩ = some (.map (some mb))) (hM : WnM w N mb s p fs.length L.length t L) (hin : ∀ j : Nat, To fs l j → (j : Int) ∈ L ∧ p j = true)
    (hown : ∀ j : Nat, j < L.length → p j = true → L[j]? = some (j : Int)) (h256 : tot fs ≤ 256) (hpg : pb ≠ g) (hmg : mb ≠ g) (hll : l.length ≤ 256)
    (hrow : w.ownsRow N2 56 1 (.slice (some ⟨g, 0, none⟩) n c) n (wordsV ws)) (ha : l ≠ [] → a = some ⟨g, o, none⟩) (hsub : (ws.drop o).take l.length = l) :
    Calls Try.prog 40 #[.slice a l.length cap, .func (.func 42) #[] #[.pointer (some ⟨pb, 0, none⟩)]] w fun e w' => e = .returned (.tuple #[]) ∧ w.grownBy w' (some g) ∧ w'.ownsRow N2 56 1 (.slice (some ⟨g, 0, none⟩) n c) n (wordsV (splW ws o (l.map (twW fs L)))) := by
  by_cases hl : l = []
  · have hpl : pb < w.heap.size := World.block_lt_of_cell? w _ hpb
    have hml := hM.lt
    refine (tall_c a cap l fs L s p N N2 mb pb t w.heap.size o n c ws w hU hok hu hO hpb hM hin hown h256 (by omega) (by omega) hll (fun h => absurd hl h)).mono ?_
    rintro e w' ⟨he, hg, _⟩
    have hgl : g < w.heap.size := (hrow.lt g rfl).2
    refine ⟨he, ⟨hg.os, hg.tape, hg.output, hg.size, fun k hk _ => hg.block k hk (fun e => by injection e with e; omega)⟩, ?_⟩
    subst hl
    rw [List.map_nil, splW_nil]
    exact hrow.kept hg (or_ne (by simp [Value.ownBlock]; omega))
  · refine (tall_c a cap l fs L s p N N2 mb pb t g o n c ws w hU hok hu hO hpb hM hin hown h256 hpg hmg hll (fun h => ⟨ha h, hrow, hsub⟩)).mono ?_
    rintro e w' ⟨he, hg, hr⟩
    exact ⟨he, hg, hr hl⟩

/-- What stands in the words while they are settled. -/
def setW (hs : List Int) (fs : List (List Int)) (L : List Int) (k : Nat) : List Int := joinW (mix (sH hs L) (L.map (rM hs)) k) (mix (sF fs L) (L.map (fO fs)) k)

section
variable {hs : List Int} {fs : List (List Int)} {rs L : List Int} {s : Nat}

theorem sF_unif (hu : Unif s fs) (hL : OOk fs L) : Unif s (sF fs L) := fun f hf => by
  unfold sF at hf
  obtain ⟨o, ho, rfl⟩ := List.mem_map.1 hf
  rw [List.length_map]
  exact hu.map hL.rng _ (List.mem_map.2 ⟨o, ho, rfl⟩)

theorem setW_len (hu : Unif s fs) (hL : OOk fs L) {k : Nat} (hk : k ≤ L.length) : (setW hs fs L k).length = L.length * s := by
  unfold setW
  have h1 := mix_len (X := sH hs L) (Y := L.map (rM hs)) (by simp [sH]) (k := k) (by rw [sH_len]; exact hk)
  have h2 := mix_len (X := sF fs L) (Y := L.map (fO fs)) (by simp [sF]) (k := k) (by rw [sF_len]; exact hk)
  rw [sH_len] at h1
  rw [sF_len] at h2
  rw [uj_len (by omega) (mix_unif (sF_unif hu hL) (hu.map hL.rng) k), h2]

theorem setW_zero (hs : List Int) (fs : List (List Int)) (L : List Int) : setW hs fs L 0 = joinW (L.map (rM hs)) (L.map (fO fs)) := by unfold setW; rw [mix_zero, mix_zero]

theorem setW_all (hs : List Int) (fs : List (List Int)) (L : List Int) : setW hs fs L L.length = joinW (sH hs L) (sF fs L) := by
  unfold setW
  have h1 := mix_all (X := sH hs L) (Y := L.map (rM hs)) (by simp [sH])
  have h2 := mix_all (X := sF fs L) (Y := L.map (fO fs)) (by simp [sF])
  rw [sH_len] at h1
  rw [sF_len] at h2
  rw [h1, h2]

/-- One object of them. -/
theorem setW_at (hF : Fit hs fs) (hu : Unif s fs) (hL : OOk fs L) {k : Nat} (hk : k < L.length) :
    ∃ (j : Nat) (y : Int), L[k] = (j : Int) ∧ ∃ hj : j < fs.length, hs[j]? = some y ∧ unheadOk y = true ∧ wlen y + 1 = s ∧ (setW hs fs L k)[k * s]? = some (reh true y) ∧
      (setW hs fs L k).set (k * s) (reh false y) = joinW (mix (sH hs L) (L.map (rM hs)) (k + 1)) (mix (sF fs L) (L.map (fO fs)) k) ∧
      (((setW hs fs L k).set (k * s) (reh false y)).drop (k * s + 1)).take fs[j].length = fs[j] ∧
      splW ((setW hs fs L k).set (k * s) (reh false y)) (k * s + 1) (fs[j].map (twW fs L)) = setW hs fs L (k + 1) := by
  have hr := hL.rng _ (List.getElem_mem hk)
  obtain ⟨j, hj⟩ := Int.eq_ofNat_of_zero_le hr.1
  have hjl : j < fs.length := by omega
  obtain ⟨y, hy, e1, e2, e3⟩ := rO_at hF hjl
  have hA0 : (sH hs L).length = (L.map (rM hs)).length := by simp [sH]
  have hB0 : (sF fs L).length = (L.map (fO fs)).length := by simp [sF]
  have hA : (mix (sH hs L) (L.map (rM hs)) k).length = L.length := by rw [mix_len hA0 (by rw [sH_len]; omega), sH_len]
  have hA' : (mix (sH hs L) (L.map (rM hs)) (k + 1)).length = L.length := by rw [mix_len hA0 (by rw [sH_len]; omega), sH_len]
  have hB : (mix (sF fs L) (L.map (fO fs)) k).length = L.length := by rw [mix_len hB0 (by rw [sF_len]; omega), sF_len]
  have hub : Unif s (mix (sF fs L) (L.map (fO fs)) k) := mix_unif (sF_unif hu hL) (hu.map hL.rng) k
  have hgB : (mix (sF fs L) (L.map (fO fs)) k)[k]? = some fs[j] := by
    rw [mix_get hB0 (by rw [sF_len]; omega), List.getElem?_map, List.getElem?_eq_getElem hk, hj, Option.map_some, fO_at hjl]
  have hset : (setW hs fs L k).set (k * s) (reh false y) = joinW (mix (sH hs L) (L.map (rM hs)) (k + 1)) (mix (sF fs L) (L.map (fO fs)) k) := by
    unfold setW
    rw [uj_set (hA.trans hB.symm) hub (by omega), mix_set hA0 (by rw [sH_len]; exact hk)]
    unfold sH
    rw [List.getElem?_map, List.getElem?_eq_getElem hk, hj, Option.map_some, e1]
  refine ⟨j, y, hj, hjl, hy, e2, by rw [e3]; exact hu.len hjl, ?_, hset, ?_, ?_⟩
  · unfold setW
    rw [uj_get (hA.trans hB.symm) hub (by omega), mix_get hA0 (by rw [sH_len]; omega), List.getElem?_map, List.getElem?_eq_getElem hk, hj, Option.map_some, rM_at hy]
  · rw [hset]
    exact uj_fields (hA'.trans hB.symm) hub (by omega) hgB
  · rw [hset, uj_fspl (hA'.trans hB.symm) hub (by omega) (by rw [List.length_map]; exact hu.len hjl)]
    unfold setW
    rw [mix_set hB0 (by rw [sF_len]; exact hk)]
    unfold sF
    rw [List.getElem?_map, List.getElem?_eq_getElem hk, hj, Option.map_some, fO_at hjl]

end

end Go.Proofs.Ytemjhdbmcdlpeaa

/- What fill holds. -/
namespace Go.Proofs.Ytemjhdbmcdlpeaa
set_option linter.unusedSimpArgs false
set_option linter.unusedVariables false
open Go.RowKit Go.Shelf

theorem gb_row {w W : World} {g : Nat} (h : w.grownBy W (some g)) (cs : Array Value) : w.grownBy (W.setRow g cs) (some g) := by
  have hg := grown_row (W := W) (g := g) (cs := cs)
  exact ⟨hg.os.trans h.os, hg.tape.trans h.tape, hg.output.trans h.output, Nat.le_trans h.size hg.size, fun k hk hne => (hg.block k (Nat.lt_of_lt_of_le hk h.size) hne).trans (h.block k hk hne)⟩

/-- The words, while holes are filled. -/
def fgW (hs : List Int) (fs : List (List Int)) (p : Nat → Bool) (i : Nat) : List Int := joinW (fgA hs p (fgP (mL p fs.length) i).1 i) (fgB fs (fgP (mL p fs.length) i).1 i)

structure FiS (w0 wr : World) (s : Nat) (hs : List Int) (fs : List (List Int)) (p : Nat → Bool) (gw N2 T cw i u : Nat) : Prop where
  fi : Fi p fs.length i u
  g : w0.grownBy wr (some gw)
  map : WnM wr w0.heap.size w0.heap.size s p fs.length u (fgP (mL p fs.length) i).2 (fgP (mL p fs.length) i).1
  row : fs ≠ [] → wr.ownsRow N2 56 1 (.slice (some ⟨gw, 0, none⟩) T cw) T (wordsV (fgW hs fs p i))

section
variable {w0 wr W : World} {s : Nat} {hs : List Int} {fs : List (List Int)} {p : Nat → Bool} {gw N2 T cw i u : Nat}

theorem FiS.below (h : FiS w0 wr s hs fs p gw N2 T cw i u) (hb : Below wr.heap.size wr W) : FiS w0 W s hs fs p gw N2 T cw i u :=
  ⟨h.fi, gb_below h.g hb, h.map.below hb, fun e => ownsRow_below (h.row e) hb⟩

theorem fgW_zero : fgW hs fs p 0 = mW hs fs p := by
  unfold fgW
  rw [show (fgP (mL p fs.length) 0).1 = [] from rfl, fgA_start, fgB_start]
  rfl

theorem fgO_rng (h : Fi p fs.length i u) : ∀ o ∈ (fgP (mL p fs.length) i).1, 0 ≤ o ∧ o < fs.length := fun o ho => by
  obtain ⟨j, rfl, _, h2, _⟩ := (h.mem o).1 ho
  omega

theorem FiS.keep (hF : Fit hs fs) (h : FiS w0 wr s hs fs p gw N2 T cw i u) (hi : i < u) (hp : p i = true) : FiS w0 wr s hs fs p gw N2 T cw (i + 1) u := by
  obtain ⟨e, hfi⟩ := h.fi.keep hi hp
  have hu := h.fi.un
  have hl := hF.len
  refine ⟨hfi, h.g, ?_, fun hne => ?_⟩
  · obtain ⟨M, h1, h2, h3, h4⟩ := h.map
    rw [e]
    exact ⟨M, h1, h2, h3.keep _, h4⟩
  · have := h.row hne
    unfold fgW at *
    rw [e]
    simp only
    rw [fgA_keep (by omega) hp, fgB_keep (by omega)]
    exact this

theorem FiS.down (h : FiS w0 wr s hs fs p gw N2 T cw i (u + 1)) (hi : i < u + 1) (hp : p u = false) : FiS w0 wr s hs fs p gw N2 T cw i u := by
  refine ⟨h.fi.down hi hp, h.g, ?_, h.row⟩
  obtain ⟨M, h1, h2, h3, h4⟩ := h.map
  exact ⟨M, h1, h2, h3.down hp, h4⟩

theorem fgAB (hF : Fit hs fs) (hu : Unif s fs) (h : Fi p fs.length i u) : (fgA hs p (fgP (mL p fs.length) i).1 i).length = fs.length ∧ (fgB fs (fgP (mL p fs.length) i).1 i).length = fs.length ∧ Unif s (fgB fs (fgP (mL p fs.length) i).1 i) := by
  have hl := hF.len
  have h1 := h.iu
  have h2 := h.un
  have h3 := fgP_len (mL p fs.length) i
  exact ⟨by rw [fgA_len h3 (by omega)]; omega, fgB_len h3 (by omega), fgB_unif hu (fgO_rng h) i⟩

theorem fgW_len (hF : Fit hs fs) (hu : Unif s fs) (h : Fi p fs.length i u) : (fgW hs fs p i).length = fs.length * s := by
  obtain ⟨h1, h2, h3⟩ := fgAB hF hu h
  unfold fgW
  rw [uj_len (h1.trans h2.symm) h3, h2]

/-- A header that has not been gone by. -/
theorem FiS.head (hF : Fit hs fs) (hu : Unif s fs) (h : FiS w0 wr s hs fs p gw N2 T cw i u) {j : Nat} (h1 : i ≤ j) (h2 : j < fs.length) : ∃ x, wr.cell? ⟨gw, j * s, none⟩ = some (.int .u64 x) ∧ 0 ≤ x ∧ x < 18446744073709551616 ∧ uhM x = p j := by
  obtain ⟨y, hy, e1, e2, e3⟩ := rO_at hF h2
  obtain ⟨h3, h4, h5⟩ := fgAB hF hu h.fi
  have hrx := reh_ok (p j) y
  have hne : fs ≠ [] := by intro e; rw [e] at h2; simp at h2
  refine ⟨reh (p j) y, (own_cell (h.row hne) ?_).1, hrx.2.2.2.2.1, hrx.2.2.2.2.2, hrx.2.2.1⟩
  unfold fgW
  rw [uj_get (h3.trans h4.symm) h5 (by omega), fgA_get (fgP_len _ _) h1, mkH_get, hy]
  rfl

/-- What is copied, and what stands there then. -/
theorem FiS.copy (hF : Fit hs fs) (hu : Unif s fs) (hs1 : 1 ≤ s) (hT : T = fs.length * s) (h : FiS w0 wr s hs fs p gw N2 T cw i (u + 1)) (hi : i < u + 1) (hp : p i = false) (hq : p u = true) :
    ∃ cs : List Int, cs.length = s ∧ (∀ j v, (wordsV cs)[j]? = some v → wr.cell? ((⟨gw, u * s, none⟩ : Addr).add j) = some v) ∧ (∃ cur, wr.heap[gw]? = some (.cells cur 56 (0, 0)) ∧ i * s + s ≤ cur.size ∧ (wr.setRow gw (cur.toList.take (i * s) ++ wordsV cs ++ cur.toList.drop (i * s + (wordsV cs).length)).toArray).ownsRow N2 56 1 (.slice (some ⟨gw, 0, none⟩) T cw) T (wordsV (fgW hs fs p (i + 1)))) := by
  obtain ⟨hiu, e, hfi⟩ := h.fi.swap hi hp hq
  have hun := h.fi.un
  have hl := hF.len
  have hul : u < fs.length := by omega
  obtain ⟨h3, h4, h5⟩ := fgAB hF hu h.fi
  obtain ⟨y, hy, e1, e2, e3⟩ := rO_at hF hul
  have hne : fs ≠ [] := by intro e; rw [e] at hul; simp at hul
  have hr := h.row hne
  have hA : (fgA hs p (fgP (mL p fs.length) i).1 i)[u]? = some (rM hs (u : Int)) := by rw [fgA_get (fgP_len _ _) (by omega), mkH_get, hy, rM_at hy, hq]; rfl
  have hB : (fgB fs (fgP (mL p fs.length) i).1 i)[u]? = some (fO fs (u : Int)) := by rw [fgB_get (fgP_len _ _) (by omega), fO_at hul, List.getElem?_eq_getElem hul]
  have hobj := uj_obj (h3.trans h4.symm) h5 (by omega) hA hB
  have hfl : (fO fs (u : Int)).length + 1 = s := by rw [fO_at hul]; exact hu.len hul
  have hsp := uj_spl (h3.trans h4.symm) h5 (k := i) (by omega) (rM hs (u : Int)) hfl
  rw [fgA_swap (fgP_len _ _) (by omega), fgB_swap (fgP_len _ _) (by omega)] at hsp
  have hnew : fgW hs fs p (i + 1) = splW (fgW hs fs p i) (i * s) (rM hs (u : Int) :: fO fs (u : Int)) := by
    have : fgW hs fs p (i + 1) = joinW (fgA hs p ((fgP (mL p fs.length) i).1 ++ [(u : Int)]) (i + 1)) (fgB fs ((fgP (mL p fs.length) i).1 ++ [(u : Int)]) (i + 1)) := by unfold fgW; rw [e]
    rw [this, ← hsp]
    rfl
  obtain ⟨cur, c1, c2, c3, c4, c5, c6, c7⟩ := own_cur hr
  have hle : (i + 1) * s ≤ fs.length * s := Nat.mul_le_mul_right s (by omega)
  rw [Nat.succ_mul] at hle
  refine ⟨rM hs (u : Int) :: fO fs (u : Int), by simp; omega, fun j v hj => ?_, cur, c1, by omega, ?_⟩
  · have hadd : (⟨gw, u * s, none⟩ : Addr).add j = ⟨gw, u * s + j, none⟩ := by unfold Addr.add; split <;> simp_all
    rw [hadd]
    simp only [wordsV, List.getElem?_map, Option.map_eq_some_iff] at hj
    obtain ⟨x, hx, rfl⟩ := hj
    refine (own_cell hr ?_).1
    rw [← hobj, List.getElem?_take] at hx
    split at hx
    · rw [List.getElem?_drop] at hx; exact hx
    · cases hx
  · rw [hnew]
    exact own_spl hr (by simp; omega) c1

/-- One object went. -/
theorem FiS.swap {W2 : World} (hs1 : 1 ≤ s) (hgm : gw ≠ w0.heap.size) (h : FiS w0 wr s hs fs p gw N2 T cw i (u + 1)) (hi : i < u + 1) (hp : p i = false) (hq : p u = true) {cs : Array Value} (h2 : W2 = wr.setRow gw cs)
    (hr : W2.ownsRow N2 56 1 (.slice (some ⟨gw, 0, none⟩) T cw) T (wordsV (fgW hs fs p (i + 1)))) :
    ∃ M : DataW Unit, W2.ownsMap Try.prog 3 (plainElem Try.prog 3) w0.heap.size (fgP (mL p fs.length) i).2 M ∧ ∀ w1, w1.ownsMap Try.prog 3 (plainElem Try.prog 3) w0.heap.size ((fgP (mL p fs.length) i).2 + 1) (M.put (.int .i64 (u * s : Nat)) (.lit (.int .i64 ((i * s : Nat) : Int)))) → W2.grownBy w1 (some w0.heap.size) → FiS w0 w1 s hs fs p gw N2 T cw (i + 1) u := by
  obtain ⟨hiu, e, hfi⟩ := h.fi.swap hi hp hq
  have hun := h.fi.un
  have hm2 : WnM W2 w0.heap.size w0.heap.size s p fs.length (u + 1) (fgP (mL p fs.length) i).2 (fgP (mL p fs.length) i).1 := by
    rw [h2]; exact h.map.kept grown_row (fun e => hgm (by injection e with e; exact e.symm))
  obtain ⟨M, h3, h4, h5, h6⟩ := hm2
  refine ⟨M, h3, fun w1 hm hg => ⟨hfi, ?_, ?_, fun _ => hr.kept hg (or_ne (by simp [Value.ownBlock]; exact hgm))⟩⟩
  · refine gb_grown (W := W2) ?_ hg (fun k e => by injection e with e; omega)
    rw [h2]; exact gb_row h.g cs
  · rw [e]
    have hz : Maps.size (M.put (.int .i64 (u * s : Nat)) (.lit (.int .i64 ((i * s : Nat) : Int)))) = (fgP (mL p fs.length) i).2 + 1 := by
      rw [Maps.size_put (h3.tidy (Maps.int_keyed Try.underlying3)), (h5 u (by omega)).1, h6]
      simp
    refine ⟨_, hm, Nat.le_refl _, ?_, hz⟩
    have hp := h5.put hs1 h3.isMap (by omega) hq (fun hm => by obtain ⟨j, e2, _, _, h7⟩ := (h.fi.mem _).1 hm; omega)
    rw [fgP_len] at hp
    exact hp

end

end Go.Proofs.Ytemjhdbmcdlpeaa

/- Walks: fill. -/
namespace Go.Proofs.Ytemjhdbmcdlpeaa
set_option linter.unusedSimpArgs false
set_option linter.unusedVariables false
open Go.RowKit Go.Shelf
attribute [local go_sem] field51_0 field51_1

set_option maxRecDepth 100000 in
set_option maxHeartbeats 4000000 in
theorem fill_c (a : Option Addr) (cw : Nat) (hs : List Int) (fs : List (List Int)) (p : Nat → Bool) (s gw N2 T : Nat) (w : World) (hF : Fit hs fs) (hu : Unif s fs) (hs1 : 1 ≤ s) (hs5 : s ≤ 5) (hT : T = fs.length * s) (h256 : T ≤ 256) (hcw : T ≤ cw) (hgm : gw ≠ w.heap.size)
    (hrow : fs ≠ [] → a = some ⟨gw, 0, none⟩ ∧ w.ownsRow N2 56 1 (.slice (some ⟨gw, 0, none⟩) T cw) T (wordsV (mW hs fs p))) :
    Calls Try.prog 21 #[.slice a (T : Nat) cw, .int .i64 (s : Nat)] w fun e w' => e = .returned (.tuple #[.map (some w.heap.size), .int .i64 ((mL p fs.length).length * s : Nat)]) ∧ FiS w w' s hs fs p gw N2 T cw (mL p fs.length).length (mL p fs.length).length := by
  have hmm := @run_makeMap Try.prog
  obtain ⟨i0, hi0, hz0, hz1, hz2⟩ := info_parts Try.info56m
  have hst : FiS w (w.alloc (.map #[] 0)) s hs fs p gw N2 T cw 0 fs.length := by
    refine ⟨Fi.start p _, ⟨rfl, rfl, rfl, by simp, fun k hk _ => Below.heap_alloc w _ _ hk⟩, ⟨.map [], World.ownsMap_made (H := Unit) w Try.prog 3 (plainElem Try.prog 3), Nat.le_refl _, wnD_nil s p _, by simp [Maps.size, fgP]⟩, fun hne => ?_⟩
    rw [fgW_zero]
    exact (hrow hne).2.alloc _
  have ha : fs ≠ [] → a = some ⟨gw, 0, none⟩ := fun h => (hrow h).1
  have Hst := hide hst
  have HF := hide hF
  have Hu := hide hu
  have Ha := hide ha
  have HT := hide hT
  have hw0 : IntKind.i64.wrap ((T : Int) - (s : Int)) = (T : Int) - (s : Int) := by rw [IntKind.wrap_i64]; omega
  clear hst hF hu ha hrow hT
  go_enter Try.func21, Try.ntmps21
  go_wp2
  go_loopw [4, 6, 7] (fun v x y wr => ∃ (i u : Nat) (l : Int), v = .map (some w.heap.size) ∧ x = .int .i64 (i * s : Nat) ∧ y = .int .i64 l ∧ l = ((u * s : Nat) : Int) - (s : Int) ∧ i ≤ u ∧ u ≤ fs.length ∧ Hid (FiS w wr s hs fs p gw N2 T cw i u)) (fun _ x y _ => (intOf y + (s : Int) - intOf x).toNat)
  case atStart => exact ⟨0, fs.length, _, rfl, by simp, rfl, by rw [unhide HT], Nat.zero_le _, Nat.le_refl _, Hst⟩
  case round =>
    clear Hst
    obtain ⟨i, u, l, rfl, rfl, rfl, hl, hiu, hun, HI⟩ := hrel
    have Hl : Hid (l = ((u * s : Nat) : Int) - (s : Int)) := hl
    clear hl
    go_wp2
    go_loopw [6] (fun x wq => ∃ i1 : Nat, x = .int .i64 (i1 * s : Nat) ∧ i ≤ i1 ∧ i1 ≤ u ∧ Hid (FiS w wq s hs fs p gw N2 T cw i1 u)) (fun x _ => T - (intOf x).toNat)
    case atStart => exact ⟨i, rfl, Nat.le_refl _, hiu, HI⟩
    case round =>
      clear HI
      obtain ⟨i1, rfl, hi1, hiu1, HI⟩ := hrel
      by_cases hlt : i1 < u
      · have hin : i1 < fs.length := by omega
        have hne : fs ≠ [] := by intro e; rw [e] at hin; simp at hin
        obtain ⟨x, hx, hx1, hx2, hxm⟩ := (unhide HI).head (unhide HF) (unhide Hu) (Nat.le_refl i1) hin
        have haw := unhide Ha hne
        have hgl : gw < wr.heap.size := World.block_lt_of_cell? wr _ hx
        have hq1 : (i1 + 1) * s ≤ u * s := Nat.mul_le_mul_right s hlt
        have hq2 : u * s ≤ fs.length * s := Nat.mul_le_mul_right s hun
        rw [← unhide HT] at hq2
        rw [Nat.succ_mul] at hq1
        have Hnx : Hid ((i1 + 1) * s = i1 * s + s) := Nat.succ_mul i1 s
        have hii : i * s ≤ i1 * s := Nat.mul_le_mul_right s hi1
        have Hc := hide (fheader_c x wr hx1 hx2)
        subst haw
        generalize hqe : i1 * s = q at *
        have Hqe := hide hqe
        clear hqe
        generalize hUe : u * s = U at *
        have HUe := hide hUe
        clear hUe
        have hqT : q < T := by omega
        have hqI : (q : Int) < (T : Int) := by omega
        have hle : (q : Int) ≤ l := by have := unhide Hl; omega
        have d1 : decide ((q : Int) ≤ l) = true := by simpa using hle
        have hw1 : IntKind.i64.wrap ((q : Int) + (s : Int)) = (q : Int) + (s : Int) := by rw [IntKind.wrap_i64]; omega
        go_wp2_with fail
        refine (unhide Hc).mono ?_
        rintro e w3 ⟨rfl, hb3⟩
        rw [hxm]
        have HI3 := hide ((unhide HI).below hb3)
        clear HI hx hxm Hc hb3 hgl
        cases hp : p i1
        · -- a hole
          go_wp2
          go_loopw [7] (fun y wz => ∃ (u1 : Nat) (l1 : Int), y = .int .i64 l1 ∧ Hid (l1 = ((u1 * s : Nat) : Int) - (s : Int)) ∧ i1 ≤ u1 ∧ u1 ≤ u ∧ Hid (FiS w wz s hs fs p gw N2 T cw i1 u1)) (fun y _ => (intOf y + (s : Int)).toNat)
          case atStart => exact ⟨u, l, rfl, by show _ = _; rw [unhide HUe]; exact unhide Hl, hiu1, Nat.le_refl _, HI3⟩
          case round =>
            clear HI3
            obtain ⟨u1, l1, rfl, Hl1, hiu2, hu1, HI3⟩ := hrel
            by_cases hlt2 : i1 < u1
            · obtain ⟨v, rfl⟩ : ∃ v, u1 = v + 1 := ⟨u1 - 1, by omega⟩
              have hl1 : l1 = ((v * s : Nat) : Int) := by have := unhide Hl1; rw [Nat.succ_mul] at this; omega
              have hvn : v < fs.length := by omega
              obtain ⟨y, hy, hy1, hy2, hym⟩ := (unhide HI3).head (unhide HF) (unhide Hu) (show i1 ≤ v by omega) hvn
              have hgl2 : gw < wr.heap.size := World.block_lt_of_cell? wr _ hy
              have hv1 : (v + 1) * s ≤ fs.length * s := Nat.mul_le_mul_right s (by omega)
              rw [← unhide HT, Nat.succ_mul] at hv1
              have hqv : i1 * s ≤ v * s := Nat.mul_le_mul_right s (by omega)
              rw [unhide Hqe] at hqv
              have hvU : (v + 1) * s ≤ u * s := Nat.mul_le_mul_right s hu1
              rw [unhide HUe, Nat.succ_mul] at hvU
              have hqv2 : i1 < v → q + s ≤ v * s := fun h => by
                have h1 := Nat.mul_le_mul_right s h
                rw [Nat.succ_mul, unhide Hqe] at h1
                exact h1
              have Hcv := hide (fheader_c y wr hy1 hy2)
              subst hl1
              clear Hl1
              generalize hre : v * s = r at *
              have Hre := hide hre
              clear hre
              have hrT : r < T := by omega
              have hrI : (r : Int) < (T : Int) := by omega
              have hqr : (q : Int) ≤ (r : Int) := by omega
              have d4 : decide ((q : Int) ≤ (r : Int)) = true := by simpa using hqr
              have hw2 : IntKind.i64.wrap ((r : Int) - (s : Int)) = (r : Int) - (s : Int) := by rw [IntKind.wrap_i64]; omega
              go_wp2_with fail
              refine (unhide Hcv).mono ?_
              rintro e w5 ⟨rfl, hb5⟩
              rw [hym]
              have HI5 := hide ((unhide HI3).below hb5)
              clear HI3 hy hym Hcv hb5 hgl2
              cases hq : p v
              · have HI6 := hide ((unhide HI5).down (by omega) hq)
                go_wp2
                go_roundw
                case rel => exact ⟨v, _, rfl, by show _ = _; rw [unhide Hre], by omega, by omega, HI6⟩
                case measure => simp [intOf]; omega
              · have hiv : i1 < v := by
                  have : i1 ≠ v := fun e => by rw [e, hq] at hp; cases hp
                  omega
                have hqsr := hqv2 hiv
                have d5 : decide ((q : Int) > (r : Int)) = false := by simp; omega
                have d6 : decide ((r : Int) < (q : Int)) = false := by simp; omega
                obtain ⟨cs, hcl, hcells, cur, hcur, hcs, hnew⟩ := ((unhide HI5).below (Below.refl _ _).drew).copy (unhide HF) (unhide Hu) hs1 (unhide HT) (by omega) hp hq
                rw [unhide Hqe] at hcs hnew
                rw [unhide Hre] at hcells
                have hwl : (wordsV cs).length = s := by rw [wordsV_len, hcl]
                obtain ⟨M, hm, hfin⟩ := ((unhide HI5).below (Below.refl _ _).drew).swap hs1 hgm (by omega) hp hq rfl hnew
                have hti : (fgP (mL p fs.length) i1).2 ≤ i1 := fgP_le _ _
                have hi256 : i1 ≤ 256 := by
                  have h1 := Nat.mul_le_mul_left i1 hs1
                  have h2 := unhide Hqe
                  omega
                rw [unhide Hre, unhide Hqe] at hfin
                have Hfin := hide hfin
                have H1 : Hid (∀ ty, (Builtin.copy_ #[22, 22] ty #[.slice (some ⟨gw, q, none⟩) (T - q) (cw - q), .slice (some ⟨gw, r, none⟩) s (cw - r)]).run Try.prog w5.drew = .ok (goInt s) (w5.drew.setRow gw (cur.toList.take q ++ wordsV cs ++ cur.toList.drop (q + (wordsV cs).length)).toArray)) := fun ty => by
                  have := run_copy_row (P := Try.prog) w5.drew 22 22 ty 56 gw q (T - q) (cw - q) ⟨gw, r, none⟩ s (cw - r) cur 56 (wordsV cs) Try.underlying22 (by rw [hi0]; simp [hz1]) hcur (by rw [hwl]; exact (Nat.min_eq_left (by omega)).symm) hcells (by rw [hwl]; exact hcs) (wordsV_one cs)
                  rw [hwl] at this
                  rw [hwl]
                  exact this
                have Hkey := hide (Maps.keyOf_int_mk Try.underlying3 (wf_i64 (x := (r : Int)) (by omega) (by omega)))
                have Hval := hide (show plainElem (H := Unit) Try.prog 3 (.int .i64 (q : Int)) = some (.lit (.int .i64 (q : Int)), []) from plainElem_int Try.underlying3 (wf_i64 (by omega) (by omega)))
                clear hfin hcells hcur hnew hcs hwl
                generalize w5.drew.setRow gw (cur.toList.take q ++ wordsV cs ++ cur.toList.drop (q + (wordsV cs).length)).toArray = Y at *
                have hqc : q < cw := by omega
                have hrc : r < cw := by omega
                have hsl1 : (0 : Int) ≤ (q : Int) ∧ (q : Int) ≤ (T : Int) := by omega
                have hsl2 : (0 : Int) ≤ (r : Int) ∧ (r : Int) ≤ (T : Int) := by omega
                have hsl3 : (0 : Int) ≤ (s : Int) ∧ (s : Int) ≤ ((cw - r : Nat) : Int) := by omega
                have hsl4 : (s : Int) ≤ ((cw - r : Nat) : Int) := by omega
                have hsl5 : s ≤ cw - r := by omega
                have hsl6 : q ≤ T := by omega
                have hsl7 : r ≤ T := by omega
                go_upto_region 9 with fail
                go_region_law (refine step_cp rfl _ _ 22 22 rfl (.slice (some ⟨gw, q, none⟩) (T - q) (cw - q)) (.slice (some ⟨gw, r, none⟩) s (cw - r)) (by simp [Act.eval, Act.put] <;> omega) (by simp [Act.eval, Act.put] <;> omega) (unhide H1 _) ?_)
                all_goals
                  go_wp2_with (at_mapUpdate; go_must (refine wpList_mapUpdate_own _ rfl _ _ _ 52 rfl 3 3 (Maps.int_keyed Try.underlying3) Try.underlying52 _ w.heap.size _ M rfl hm (by simp only [maxLen]; omega) _ _ _ rfl rfl (unhide Hkey) _ [] (unhide Hval) ?_); go_must (intro w7 hm7 hg7; have H7 := hide (unhide Hfin w7 hm7 hg7); clear hm7 hg7))
                  go_roundw
                  case rel => exact ⟨i1 + 1, v, _, rfl, by rw [unhide Hnx]; go_num, rfl, by rw [unhide Hre], by omega, by omega, H7⟩
                  case measure => have h1 := unhide Hl; simp [intOf]; omega
            · obtain rfl : i1 = u1 := by omega
              have hgt : ¬ (q : Int) ≤ l1 := by have := unhide Hl1; rw [unhide Hqe] at this; omega
              have d4 : decide ((q : Int) ≤ l1) = false := by simpa using hgt
              have d5 : decide ((q : Int) > l1) = true := by simpa using hgt
              have d6 : decide (l1 < (q : Int)) = true := by simpa using hgt
              have Hm := hide (unhide HI3).fi.meet
              have HIe := hide (show FiS w wr s hs fs p gw N2 T cw (mL p fs.length).length (mL p fs.length).length by rw [← unhide Hm]; exact unhide HI3)
              clear HI3
              go_wp2
              refine bodyPost_ret (v := .tuple #[.map (some w.heap.size), .int .i64 (q : Int)]) (by simp [results, Try.results21, go_sem]) rfl ?_
              exact ⟨by have h1 := unhide Hm; have h2 := unhide Hqe; rw [← h1, ← h2]; simp, unhide HIe⟩
        · have HI4 := hide ((unhide HI3).keep (unhide HF) hlt hp)
          go_wp2
          go_roundw
          case rel => exact ⟨i1 + 1, by rw [unhide Hnx]; go_num, by omega, by omega, HI4⟩
          case measure => simp [intOf]; omega
      · obtain rfl : i1 = u := by omega
        generalize hqe : i1 * s = q at *
        have Hqe := hide hqe
        clear hqe
        have hgt : ¬ (q : Int) ≤ l := by have := unhide Hl; omega
        have d1 : decide ((q : Int) ≤ l) = false := by simpa using hgt
        have d2 : decide ((q : Int) > l) = true := by simpa using hgt
        have d3 : decide (l < (q : Int)) = true := by simpa using hgt
        have Hm := hide (unhide HI).fi.meet
        have HIe := hide (show FiS w wr s hs fs p gw N2 T cw (mL p fs.length).length (mL p fs.length).length by rw [← unhide Hm]; exact unhide HI)
        have hq0 : q ≤ 256 := by
          have h1 := Nat.mul_le_mul_right s hun
          rw [← unhide HT, unhide Hqe] at h1
          omega
        clear HI
        go_wp2
        go_loopw [7] (fun y wz => y = .int .i64 l ∧ Hid (FiS w wz s hs fs p gw N2 T cw (mL p fs.length).length (mL p fs.length).length)) (fun _ _ => 0)
        case atStart => exact ⟨rfl, HIe⟩
        case round =>
          clear HIe
          obtain ⟨rfl, HIe⟩ := hrel
          go_wp2
          refine bodyPost_ret (v := .tuple #[.map (some w.heap.size), .int .i64 (q : Int)]) (by simp [results, Try.results21, go_sem]) rfl ?_
          exact ⟨by have h1 := unhide Hm; have h2 := unhide Hqe; rw [← h1, ← h2], unhide HIe⟩

end Go.Proofs.Ytemjhdbmcdlpeaa

/- Walks: allHave, slices.Clone. -/
namespace Go.Proofs.Ytemjhdbmcdlpeaa
set_option linter.unusedSimpArgs false
set_option linter.unusedVariables false
open Go.RowKit Go.Shelf
attribute [local go_sem] field51_0 field51_1

set_option maxRecDepth 100000 in
set_option maxHeartbeats 2000000 in
theorem allHave_c (a : Option Addr) (cap : Nat) (hs : List Int) (fs : List (List Int)) (p : Nat → Bool) (s N : Nat) (w : World) (hF : Fit hs fs) (h256 : tot fs ≤ 256) (hs5 : s ≤ 5) (hW : Wds N w a (mW hs fs p)) (hN : N ≤ w.heap.size) :
    Calls Try.prog 20 #[.slice a (tot fs : Nat) cap, .int .i64 (s : Nat)] w fun e w' => (∃ b, e = .returned (.bool b) ∧ (b = true ↔ Unif s fs)) ∧ Below w.heap.size w w' := by
  have HF := hide hF
  have HW := hide hW
  clear hF hW
  go_enter Try.func20, Try.ntmps20
  go_wp2
  go_loopw [5] (fun i wr => ∃ k : Nat, k ≤ fs.length ∧ i = .int .i64 (tot (fs.take k) : Nat) ∧ Hid (Unif s (fs.take k)) ∧ Below w.heap.size w wr) (fun i _ => tot fs - (intOf i).toNat)
  case atStart => exact ⟨0, Nat.zero_le _, rfl, hide (by simp [Unif]), Below.refl _ _⟩
  case round =>
    obtain ⟨k, hk, rfl, Hu, hb⟩ := hrel
    have hsz := hb.size
    by_cases hlt : k < fs.length
    · obtain ⟨wb, off, x, rfl, hwb, hc, h1, h2, h3, h4, h5, y, hy, hxy⟩ := mW_at (unhide HF) p hlt (((unhide HW).below (hb.mono hN)))
      have hpl := place_lt hlt
      have hts := tot_take_succ hlt
      have htl := tot_take_le fs (k + 1)
      have HL := hide (uhL_wlen h3)
      rw [h4] at HL
      have hwl : wb < wr.heap.size := World.block_lt_of_cell? wr _ hc
      have Hc := hide (fheader_c x wr h1 h2)
      have Hyes : Hid (fs[k].length + 1 = s → Unif s (fs.take (k + 1))) := fun e f hf => by
        rw [List.take_succ_eq_append_getElem hlt] at hf
        rcases List.mem_append.1 hf with hf | hf
        · exact unhide Hu f hf
        · simp only [List.mem_singleton] at hf; subst hf; exact e
      have Hno : Hid (fs[k].length + 1 ≠ s → ¬ Unif s fs) := fun e h => e (h.len hlt)
      have HN : Hid (tot (fs.take (k + 1)) = tot (fs.take k) + (fs[k].length + 1)) := hts
      have hle : tot (fs.take k) + 1 + fs[k].length ≤ 256 := by omega
      clear h3 h4 h5 hy hxy hts htl
      generalize fs[k].length = l at *
      generalize tot (fs.take k) = q at *
      generalize tot fs = n at *
      have hqI : (q : Int) < (n : Int) := by omega
      have hw1 : IntKind.i64.wrap (1 + (l : Int)) = 1 + (l : Int) := by rw [IntKind.wrap_i64]; omega
      have hw2 : IntKind.i64.wrap ((q : Int) + (s : Int)) = (q : Int) + (s : Int) := by rw [IntKind.wrap_i64]; omega
      go_wp2_with fail
      refine (unhide Hc).mono ?_
      rintro e w2 ⟨rfl, hb2⟩
      rw [unhide HL]
      have hbw2 := hb.trans (hb2.mono hsz)
      by_cases hl : l + 1 = s
      · have d1 : ((1 + (l : Int)) != (s : Int)) = false := by simp; omega
        have Hu2 := hide (unhide Hyes hl)
        clear Hno Hyes hb2 hc
        go_wp2
        go_roundw
        case rel => exact ⟨k + 1, by omega, by rw [unhide HN]; go_num, Hu2, hbw2⟩
        case measure => simp [intOf]; omega
      · have d1 : ((1 + (l : Int)) != (s : Int)) = true := by simp; omega
        have Hn := hide (unhide Hno hl)
        clear Hno Hyes hb2 hc
        go_wp2
        go_ret
        exact ⟨⟨_, rfl, by simp; exact unhide Hn⟩, hbw2⟩
    · obtain rfl : k = fs.length := by omega
      have e0 : tot (fs.take fs.length) = tot fs := by rw [List.take_length]
      have hu := unhide Hu
      rw [List.take_length] at hu
      have Hu2 := hide hu
      clear hu Hu
      rw [e0]
      generalize tot fs = n at *
      go_wp2
      go_ret
      exact ⟨⟨_, rfl, by simp; exact unhide Hu2⟩, hb⟩

set_option maxRecDepth 100000 in
set_option maxHeartbeats 2000000 in
theorem clone_c (a : Option Addr) (cap : Nat) (l : List Int) (w : World) (hW : Wds w.heap.size w a l) (hl : l.length ≤ 256) (hc : a = none → cap = 0) :
    Calls Try.prog 22 #[.slice a l.length cap] w fun e w' => (∃ v, e = .returned v ∧ w'.ownsRow w.heap.size 56 1 v l.length (wordsV l)) ∧ Below w.heap.size w w' := by
  have q22 : ∀ (w : World) (a : Option Addr) (n c : Nat), (binOp .eql 22 (.slice a n c) (.slice none 0 0)).run Try.prog w = .ok (.bool a.isNone) w := fun w a n c => Lib.run_eql_slice_nil w _ _ a n c 0 0 Try.underlying22
  cases a with
  | none =>
    have hc0 := hc rfl
    subst hc0
    have hl0 : l = [] := by
      by_cases h : l = []
      · exact h
      · obtain ⟨b, off, e, _⟩ := hW.2 h; cases e
    subst hl0
    go_enter Try.func22, Try.ntmps22
    go_wp2
    go_ret
    exact ⟨⟨_, rfl, World.ownsRow_nil _ _ _ _⟩, Below.refl _ _⟩
  | some ad =>
    obtain ⟨i0, hi0, hz0, hz1, hz2⟩ := info_parts Try.info56m
    have hrow0 : (w.alloc (.cells #[] 56)).ownsRow w.heap.size 56 1 (.slice (some ⟨w.heap.size, 0, none⟩) 0 0) 0 [] := World.ownsRow_made w #[] 0 (Nat.le_refl _) (by simp [maxLen]) rfl
    have hb0 : Below w.heap.size w (w.alloc (.cells #[] 56)) := (Below.refl _ _).alloc (Nat.le_refl _) _
    have hcells : ∀ j u, (wordsV l)[j]? = some u → (w.alloc (.cells #[] 56)).cell? (ad.add j) = some u := fun j u hj => by
      have hne : l ≠ [] := by rintro rfl; simp [wordsV] at hj
      obtain ⟨b, off, e, hB, hcs⟩ := (hW.below hb0).2 hne
      have e' := Option.some.inj e
      subst e'
      have hadd : (⟨b, off, none⟩ : Addr).add j = ⟨b, off + j, none⟩ := by unfold Addr.add; split <;> simp_all
      rw [hadd]
      simp only [wordsV, List.getElem?_map, Option.map_eq_some_iff] at hj
      obtain ⟨x, hx, rfl⟩ := hj
      exact hcs j x hx
    have hwl := wordsV_len l
    have hone := wordsV_one l
    have Hfin : Hid (∀ v' w', w'.ownsRow w.heap.size 56 1 v' (0 + l.length) ([] ++ wordsV l) → (w.alloc (.cells #[] 56)).grownBy w' (some w.heap.size) → w'.ownsRow w.heap.size 56 1 v' l.length (wordsV l) ∧ Below w.heap.size w w') := fun v' w' h hg => by
      rw [Nat.zero_add, List.nil_append] at h
      exact ⟨h, hb0.grown hg (by simp) (fun k e => by injection e with e; omega)⟩
    clear hW
    go_enter Try.func22, Try.ntmps22
    go_wp2_with (at_builtin; go_must (refine wpList_append_own_at _ rfl _ _ 22 rfl w.heap.size 56 i0 _ 1 8 Try.underlying22 hi0 hz0 hz1 hz2 rfl (by decide) _ _ _ rfl hrow0 ad l.length cap (wordsV l) rfl (by rw [hwl, Nat.mul_one]) hcells hone (by simp only [maxLen]; omega) (by omega) (by simp) ?_); go_must (intro v8 w8 hrow8 hg8 _ hat8; have Hr8 := hide hrow8; have Hg8 := hide hg8; clear hrow8 hg8 hat8))
    go_ret
    have hf := unhide Hfin v8 w8 (unhide Hr8) (unhide Hg8)
    exact ⟨⟨_, rfl, hf.1⟩, hf.2⟩

end Go.Proofs.Ytemjhdbmcdlpeaa

/- Walks: settle. -/
namespace Go.Proofs.Ytemjhdbmcdlpeaa
set_option linter.unusedSimpArgs false
set_option linter.unusedVariables false
open Go.RowKit Go.Shelf
attribute [local go_sem] field51_0 field51_1

set_option maxRecDepth 100000 in
set_option maxHeartbeats 4000000 in
theorem settle_c (aw ar : Option Addr) (cw cr cw' cr' : Nat) (hs : List Int) (fs : List (List Int)) (rs L : List Int) (s : Nat) (p : Nat → Bool) (N N2 mb pb t gw gr : Nat) (w : World) (hA : Arn hs fs rs) (hu : Unif s fs) (hs1 : 1 ≤ s) (hO : OOk fs L)
    (hpb : w.cell? ⟨pb, 0, none⟩ = some (.map (some mb))) (hM : WnM w N mb s p fs.length L.length t L) (hroot : ∀ j : Nat, To fs rs j → (j : Int) ∈ L ∧ p j = true) (hin : ∀ i j : Nat, ∀ hi : i < fs.length, (i : Int) ∈ L → To fs fs[i] j → (j : Int) ∈ L ∧ p j = true)
    (hown : ∀ j : Nat, j < L.length → p j = true → L[j]? = some (j : Int)) (hpw : pb ≠ gw) (hpr : pb ≠ gr) (hmw : mb ≠ gw) (hmr : mb ≠ gr) (hwr : gw ≠ gr) (hw0 : gw ≠ w.heap.size) (hr0 : gr ≠ w.heap.size) (hcap : L.length * s ≤ cw)
    (hrow : L ≠ [] → aw = some ⟨gw, 0, none⟩ ∧ w.ownsRow N2 56 1 (.slice (some ⟨gw, 0, none⟩) (L.length * s) cw) (L.length * s) (wordsV (setW hs fs L 0)))
    (hroots : rs ≠ [] → ar = some ⟨gr, 0, none⟩ ∧ w.ownsRow N2 56 1 (.slice (some ⟨gr, 0, none⟩) rs.length cr) rs.length (wordsV rs)) :
    Calls Try.prog 23 #[.agg #[.slice aw (L.length * s : Nat) cw, .slice ar rs.length cr], .int .i64 (s : Nat), .func (.func 42) #[] #[.pointer (some ⟨pb, 0, none⟩)]] w fun e w' => e = .returned (.tuple #[]) ∧ StI w gw gr N2 (L.length * s) cw cr (setW hs fs L L.length) (sR fs L rs) w' := by
  obtain ⟨W1, hW1⟩ : ∃ W1, w.alloc (.cells #[.slice aw (L.length * s : Nat) cw, .slice ar rs.length cr] 24) = W1 := ⟨_, rfl⟩
  have hb1 : Below w.heap.size w W1 := by rw [← hW1]; exact (Below.refl _ _).alloc (Nat.le_refl _) _
  have hs1' : W1.heap.size = w.heap.size + 1 := by rw [← hW1]; simp
  have k0 : W1.cell? ⟨w.heap.size, 0, none⟩ = some (.slice aw (L.length * s : Nat) cw) := by rw [← hW1]; simp [go_sem]
  have k1 : W1.cell? ⟨w.heap.size, 1, none⟩ = some (.slice ar rs.length cr) := by rw [← hW1]; simp [go_sem]
  have hpl : pb < w.heap.size := World.block_lt_of_cell? w _ hpb
  have hml := hM.lt
  have hpb1 := (hb1.cell (p := ⟨pb, 0, none⟩) hpl).trans hpb
  have hM1 := hM.below hb1
  have h256 := hA.n256
  have Hc1 := hide (tall_c ar cr rs fs L s p N N2 mb pb t gr 0 rs.length cr rs W1 hA.ur hA.okr hu hO hpb1 hM1 hroot hown h256 hpr hmr (by have := hA.n8; omega) (fun h => ⟨(hroots h).1, ownsRow_below (hroots h).2 hb1, by simp⟩))
  have HA := hide hA
  have Hu := hide hu
  have HO := hide hO
  have Hin := hide hin
  have Hown := hide hown
  have Hrow := hide hrow
  have Hpb1 := hide hpb1
  have HM1 := hide hM1
  clear hroots hroot hin hown hpb hpb1 hM hM1 hA hu hO
  go_enter Try.func23, Try.ntmps23
  go_wp2_with fail
  refine (unhide Hc1).mono ?_
  rintro e w2 ⟨rfl, hg2, hr2⟩
  clear hW1 Hc1
  have hs2 := hg2.size
  have hl1 : w.heap.size < W1.heap.size := by omega
  have K0 := hide k0
  have hkr : some w.heap.size ≠ some gr := fun e => hr0 (by injection e with e; exact e.symm)
  replace k0 := hg2.cell (a := ⟨w.heap.size, 0, none⟩) k0 hkr
  have hSl : (sR fs L rs).length = rs.length := by simp [sR]
  have hsp0 : splW rs 0 (rs.map (twW fs L)) = sR fs L rs := by
    unfold splW sR
    rw [List.take_zero, List.nil_append, List.drop_of_length_le (by simp), List.append_nil]
  have HI : Hid (StI W1 gw gr N2 (L.length * s) cw cr (setW hs fs L 0) (sR fs L rs) w2) := by
    have hz := setW_len (hs := hs) (unhide Hu) (unhide HO) (k := 0) (Nat.zero_le _)
    refine ⟨(Gb2.refl _ _ _).grown hg2 (.inr (.inl rfl)), fun h => ?_, fun h => ?_⟩
    · have hne : L ≠ [] := fun e => h (by subst e; simp [setW, mix, sH, sF, joinW])
      exact ((ownsRow_below (unhide Hrow hne).2 hb1)).kept hg2 (or_ne (by simp [Value.ownBlock]; omega))
    · have hne : rs ≠ [] := fun e => h (by subst e; rfl)
      have := hr2 hne
      rw [hsp0] at this
      rw [hSl]; exact this
  clear hg2 hr2 k1 hrow
  go_wp2
  go_loopw [6] (fun i wr => ∃ k : Nat, k ≤ L.length ∧ i = .int .i64 (k * s : Nat) ∧ Hid (StI W1 gw gr N2 (L.length * s) cw cr (setW hs fs L k) (sR fs L rs) wr)) (fun i _ => L.length * s - (intOf i).toNat)
  case atStart => exact ⟨0, Nat.zero_le _, by simp, HI⟩
  case round =>
    clear HI
    obtain ⟨k, hk, rfl, HI⟩ := hrel
    have hgr := (unhide HI).g
    have k0r := hgr.cell (fun e => hw0 e.symm) (fun e => hr0 e.symm) (unhide K0)
    have hT : L.length * s ≤ 256 := by
      have h7 := ((unhide Hu).map (unhide HO).rng).all
      have h8 := (unhide HO).tot_le
      rw [h7, List.length_map] at h8
      omega
    have hsz := hgr.size
    have hlr : w.heap.size < wr.heap.size := by omega
    by_cases hlt : k < L.length
    · obtain ⟨j, y, hLk, hj, hy, hy1, hy2, hat, hset, hsub, hspl⟩ := setW_at (unhide HA).fit (unhide Hu) (unhide HO) hlt
      have hq : (k + 1) * s ≤ L.length * s := Nat.mul_le_mul_right s hlt
      rw [Nat.succ_mul] at hq
      have hwl := setW_len (hs := hs) (unhide Hu) (unhide HO) (k := k) hk
      have hne : L ≠ [] := by intro e; subst e; simp at hlt
      have hwne : setW hs fs L k ≠ [] := by intro e; rw [e] at hwl; simp at hwl; omega
      have haw := (unhide Hrow hne).1
      have hrow := (unhide HI).row hwne
      obtain ⟨hx, hxf⟩ := own_cell hrow hat
      have hgw : gw < wr.heap.size := World.block_lt_of_cell? wr _ hx
      have hrx := reh_ok true y
      have Hnx : Hid ((k + 1) * s = k * s + s) := Nat.succ_mul k s
      have hkT : k * s < L.length * s := by omega
      have Hrx := hide hrx
      have Huy := hide (uhL_wlen hy1)
      subst haw
      generalize hqe : k * s = q at *
      generalize hTe : L.length * s = T at *
      generalize reh true y = x at *
      have hqI : (q : Int) < (T : Int) := by omega
      have Hc2 := hide (fheader_c x wr hrx.2.2.2.2.1 hrx.2.2.2.2.2)
      have Hset := hide hset
      have Hsub := hide hsub
      have Hspl := hide hspl
      have Hhw : Hid (headW (uhL x) false (uhA x) = reh false y) := by show _ = _; rw [hrx.2.1, hrx.2.2.2.1]; rfl
      have Hwl := hide hwl
      have HL1 := hide (hrx.2.1.trans (uhL_wlen hy1))
      clear hat hset hsub hspl hrx hrow hwl
      go_wp2_with fail
      refine (unhide Hc2).mono ?_
      rintro e w3 ⟨rfl, hb3⟩
      go_upto_region 7 with fail
      have hs3 := hb3.size
      have hb3' : Below wr.heap.size wr (w3.alloc (.cells #[.int .i64 (uhL x), .bool false, .int .i64 (uhA x)] 32)) := hb3.alloc hs3 _
      have HX := hide ((unhide HI).below hb3')
      have h0X : (w3.alloc (.cells #[.int .i64 (uhL x), .bool false, .int .i64 (uhA x)] 32)).cell? ⟨w3.heap.size, 0, none⟩ = some (.int .i64 (uhL x)) := by simp [go_sem]
      have h1X : (w3.alloc (.cells #[.int .i64 (uhL x), .bool false, .int .i64 (uhA x)] 32)).cell? ⟨w3.heap.size, 1, none⟩ = some (.bool false) := by simp [go_sem]
      have h2X : (w3.alloc (.cells #[.int .i64 (uhL x), .bool false, .int .i64 (uhA x)] 32)).cell? ⟨w3.heap.size, 2, none⟩ = some (.int .i64 (uhA x)) := by simp [go_sem]
      have k0X := (hb3'.cell (p := ⟨w.heap.size, 0, none⟩) hlr).trans k0r
      have xX := (hb3'.cell (p := ⟨gw, q, none⟩) hgw).trans hx
      have zX := (hb3'.frozen (p := ⟨gw, q, none⟩) hgw).trans hxf
      have hlX : w3.heap.size < (w3.alloc (.cells #[.int .i64 (uhL x), .bool false, .int .i64 (uhA x)] 32)).heap.size := by simp
      have hhw : w3.heap.size ≠ gw := by omega
      generalize w3.alloc (.cells #[.int .i64 (uhL x), .bool false, .int .i64 (uhA x)] 32) = X at *
      have hgX : gw < X.heap.size := by omega
      have hkX : w.heap.size < X.heap.size := by omega
      have hdr : Below X.heap.size X X.drew := (Below.refl _ _).drew
      generalize w3.heap.size = hd at *
      have Hc3 := hide (fun W => head_c (uhL x) (uhA x) false W)
      clear hx hxf k0r k0 Hc2 hb3 hb3' HI hs3
      generalize uhL x = xl at *
      generalize uhA x = xa at *
      generalize uhM x = xm at *
      go_cut [27] from 27 to 35 (fun s27 wx => Hid (StI W1 gw gr N2 T cw cr ((setW hs fs L k).set q (headW xl false xa)) (sR fs L rs) wx) ∧ wx.cell? ⟨hd, 0, none⟩ = some (.int .i64 xl) ∧ X.heap.size ≤ wx.heap.size)
      case first =>
        go_region_with (go_at_call 41; go_must (refine (unhide Hc3 _).mono ?_); go_must (rintro e w6 ⟨he, hb6⟩; subst he; have hb6' := hdr.trans hb6; have k06 := (hb6'.cell (p := ⟨w.heap.size, 0, none⟩) hkX).trans k0X; have x6 := (hb6'.cell (p := ⟨gw, q, none⟩) hgX).trans xX; have z6 := (hb6'.frozen (p := ⟨gw, q, none⟩) hgX).trans zX))
        all_goals
          go_wp2_with fail
          go_meet
          case rel =>
            have hst := (unhide HX).below hb6'
            have hsz6 := hb6'.size
            refine ⟨hide (hst.grown (grown_set w6 gw q (.int .u64 (headW xl false xa))) hwr (fun _ => own_set (hst.row hwne) q _)), ?_, by simp [World.setCell]; exact hsz6⟩
            rw [World.cell?_setCell_other _ _ _ _ (by simp [hhw.symm])]
            exact (hb6'.cell (p := ⟨hd, 0, none⟩) hlX).trans h0X
      case rest =>
      obtain ⟨Hcc, h0c, hsc⟩ := hcut
      rw [unhide Hhw] at Hcc
      have Hcg := (unhide Hcc).g
      have k0c := Hcg.cell (fun e => hw0 e.symm) (fun e => hr0 e.symm) (unhide K0)
      have hlc : w.heap.size < wc.heap.size := by omega
      have hdc : hd < wc.heap.size := by omega
      have hwl' : ((setW hs fs L k).set q (reh false y)).length = T := by rw [List.length_set]; exact unhide Hwl
      have hrowc := (unhide Hcc).row (by intro e; rw [e] at hwl'; simp at hwl'; omega)
      have hpbc := Hcg.cell hpw hpr (unhide Hpb1)
      have hMc := (unhide HM1).gb2 Hcg hmw hmr
      have hfl := (unhide Hu).len hj
      obtain rfl : xl = ((fs[j].length : Nat) : Int) := by rw [unhide HL1]; omega
      have hwlw : IntKind.i64.wrap ((q : Int) + 1) = (q : Int) + 1 := by rw [IntKind.wrap_i64]; omega
      have hwls : IntKind.i64.wrap ((q : Int) + (s : Int)) = (q : Int) + (s : Int) := by rw [IntKind.wrap_i64]; omega
      have Hct : Hid (∀ (a : Option Addr) (cap : Nat), (fs[j].length ≠ 0 → a = some ⟨gw, q + 1, none⟩) → Calls Try.prog 40 #[.slice a (fs[j].length : Nat) cap, .func (.func 42) #[] #[.pointer (some ⟨pb, 0, none⟩)]] wc.drew fun e w' => ∃ v, e = .returned v ∧ v = .tuple #[] ∧ StI W1 gw gr N2 T cw cr (setW hs fs L (k + 1)) (sR fs L rs) w') := by
        intro a cap ha
        have hbd : Below wc.heap.size wc wc.drew := (Below.refl _ _).drew
        refine (tpart_c a cap fs[j] fs L s p N N2 mb pb t gw (q + 1) T cw _ wc.drew ((unhide HA).uf _ (List.getElem_mem hj)) ((unhide HA).okf _ (List.getElem_mem hj)) (unhide Hu) (unhide HO) hpbc (hMc.below hbd) (fun j' h => unhide Hin j j' hj (by rw [← hLk]; exact List.getElem_mem hlt) h) (unhide Hown) h256 hpw hmw (by omega) (ownsRow_below hrowc hbd) (fun h => ha (fun e => h (List.eq_nil_of_length_eq_zero e))) (unhide Hsub)).mono ?_
        rintro e w' ⟨rfl, hg, hr⟩
        rw [unhide Hspl] at hr
        exact ⟨_, rfl, rfl, ((unhide Hcc).below hbd).grown hg hwr (fun _ => hr)⟩
      clear Hsub Hspl Hset Hcc HX HA Hu HO Hin Hown Hrow Hc3 hrowc hpbc hMc Hcg k0X h0X h1X h2X xX zX Hpb1 HM1 Hwl Hhw HL1 Huy Hrx
      generalize hfe : fs[j].length = fl at *
      have hsl : (0 : Int) ≤ (q : Int) + 1 ∧ (q : Int) + 1 ≤ (T : Int) := by omega
      by_cases hcp : cw = q + 1
      · obtain rfl : fl = 0 := by omega
        subst hcp
        go_upto_region 8 with fail
        go_region_law (refine step_call_w (by rfl) 40 #[.slice (some ⟨gw, 0, none⟩) 0 (0), .func (.func 42) #[] #[.pointer (some ⟨pb, 0, none⟩)]] (by go_simp) (fun v w' => v = .tuple #[] ∧ StI W1 gw gr N2 T (q + 1) cr (setW hs fs L (k + 1)) (sR fs L rs) w') (unhide Hct (some ⟨gw, 0, none⟩) (0) (fun h => absurd rfl h)) ?_; rintro vT w9 ⟨rfl, hF9⟩; have H9 := hide hF9)
        all_goals
          clear hF9
          go_wp2
          go_roundw
          case rel => exact ⟨k + 1, by omega, by rw [unhide Hnx]; go_num, H9⟩
          case measure => simp [intOf]; omega
      · have hcp1 : q + 1 < cw := by omega
        have hsl2 : (0 : Int) ≤ (fl : Int) ∧ (fl : Int) ≤ ((cw - (q + 1) : Nat) : Int) := by omega
        have hsl3 : (fl : Int) ≤ ((cw - (q + 1) : Nat) : Int) := by omega
        have hsl4 : fl ≤ cw - (q + 1) := by omega
        go_upto_region 8 with fail
        go_region_law (refine step_call_w (by rfl) 40 #[.slice (some ⟨gw, q + 1, none⟩) (fl : Nat) (cw - (q + 1)), .func (.func 42) #[] #[.pointer (some ⟨pb, 0, none⟩)]] (by go_simp) (fun v w' => v = .tuple #[] ∧ StI W1 gw gr N2 T cw cr (setW hs fs L (k + 1)) (sR fs L rs) w') (unhide Hct (some ⟨gw, q + 1, none⟩) (cw - (q + 1)) (fun _ => rfl)) ?_; rintro vT w9 ⟨rfl, hF9⟩; have H9 := hide hF9)
        all_goals
          clear hF9
          go_wp2
          go_roundw
          case rel => exact ⟨k + 1, by omega, by rw [unhide Hnx]; go_num, H9⟩
          case measure => simp [intOf]; omega
    · obtain rfl : k = L.length := by omega
      have hfin := unhide HI
      have HF : Hid (StI w gw gr N2 (L.length * s) cw cr (setW hs fs L L.length) (sR fs L rs) wr) := ⟨⟨hfin.g.os.trans hb1.os, hfin.g.tape.trans hb1.tape, hfin.g.output.trans hb1.output, by have := hfin.g.size; omega, fun k h1 h2 h3 => (hfin.g.block k (by omega) h2 h3).trans (hb1.block k h1)⟩, hfin.row, hfin.roots⟩
      clear hfin HI
      generalize hTe : L.length * s = T at *
      go_wp2
      exact bodyPost_end (v := .tuple #[]) (results_none rfl _ _ _) rfl ⟨rfl, by rw [hTe]; exact unhide HF⟩

end Go.Proofs.Ytemjhdbmcdlpeaa

/- Walks: fields. -/
namespace Go.Proofs.Ytemjhdbmcdlpeaa
set_option linter.unusedSimpArgs false
set_option linter.unusedVariables false
open Go.RowKit Go.Shelf
attribute [local go_sem] field51_0 field51_1

def FldRes (wb p l : Nat) (e : Ending) : Prop := ∃ a c, e = .returned (.slice a l c) ∧ (0 < l → a = some ⟨wb, p + 1, none⟩)

set_option maxRecDepth 100000 in
set_option maxHeartbeats 2000000 in
theorem fields_c (mb wb n cap p : Nat) (x : Int) (w : World) (h0 : w.cell? ⟨mb, 0, none⟩ = some (.slice (some ⟨wb, 0, none⟩) n cap)) (hx : w.cell? ⟨wb, p, none⟩ = some (.int .u64 x)) (hn : n ≤ 256) (hcap : n ≤ cap) (h1 : 0 ≤ x) (h2 : x < 18446744073709551616)
    (hk : unheadOk x = true) (hend : p + 1 + wlen x ≤ n) :
    Calls Try.prog 64 #[.pointer (some ⟨mb, 0, none⟩), .int .i64 (p : Nat)] w fun e w' => FldRes wb p (wlen x) e ∧ Below w.heap.size w w' := by
  have hlm : mb < w.heap.size := World.block_lt_of_cell? w _ h0
  have hlw : wb < w.heap.size := World.block_lt_of_cell? w _ hx
  have HL := hide (uhL_wlen hk)
  have hp : p < n := by omega
  have h4 := wlen_le hk
  have Hh := hide (header_c mb wb n cap p x w.drew h0 hx hp hn h1 h2)
  have w1 : IntKind.i64.wrap ((p : Int) + 1) = (p : Int) + 1 := by rw [IntKind.wrap_i64]; omega
  clear hk
  generalize wlen x = l at *
  by_cases hcp : cap = p + 1
  · subst hcp
    obtain rfl : l = 0 := by omega
    go_enter Try.func64, Try.ntmps64
    go_wp2
    go_region_with (go_at_call 63; go_must (refine (unhide Hh).mono ?_); go_must (rintro e w2 ⟨he, hb2⟩; rw [unhide HL] at he; subst he; have k0 := (hb2.cell (p := ⟨mb, 0, none⟩) hlm).trans h0))
    all_goals
      go_wp2
      go_ret
      exact ⟨⟨_, _, rfl, fun h => absurd h (by omega)⟩, (Below.refl _ w).drew.trans hb2⟩
  · have hcp1 : p + 1 < cap := by omega
    go_enter Try.func64, Try.ntmps64
    go_wp2
    go_region_with (go_at_call 63; go_must (refine (unhide Hh).mono ?_); go_must (rintro e w2 ⟨he, hb2⟩; rw [unhide HL] at he; subst he; have k0 := (hb2.cell (p := ⟨mb, 0, none⟩) hlm).trans h0))
    all_goals
      go_wp2
      go_ret
      exact ⟨⟨_, _, rfl, fun _ => by simp⟩, (Below.refl _ w).drew.trans hb2⟩

end Go.Proofs.Ytemjhdbmcdlpeaa

/- Walks: take, climb. -/
namespace Go.Proofs.Ytemjhdbmcdlpeaa
set_option linter.unusedSimpArgs false
set_option linter.unusedVariables false
open Go.RowKit Go.Shelf
attribute [local go_sem] field51_0 field51_1

/-- The places of objects. -/
def plc (fs : List (List Int)) (K : List Nat) : List Int := K.map fun i => ((tot (fs.take i) : Nat) : Int)
theorem plc_snoc (fs : List (List Int)) (K : List Nat) (i : Nat) : plc fs (K ++ [i]) = plc fs K ++ [((tot (fs.take i) : Nat) : Int)] := by simp [plc]
theorem plc_len (fs : List (List Int)) (K : List Nat) : (plc fs K).length = K.length := by simp [plc]

/-- A marker of an arena: which objects are marked, which are kept. -/
def MkA (W : World) (N mb : Nat) (vw vr : Value) (hs : List Int) (fs : List (List Int)) (rs : List Int) (room : Nat) (p : Nat → Bool) (K : List Nat) (lost : Bool) : Prop := ∃ vk, Mk W N mb vw vr vk (mW hs fs p) rs (plc fs K) room lost

theorem MkA.below {W W' : World} {N mb : Nat} {vw vr : Value} {hs : List Int} {fs : List (List Int)} {rs : List Int} {room : Nat} {p : Nat → Bool} {K : List Nat} {lost : Bool} (h : MkA W N mb vw vr hs fs rs room p K lost) (hb : Below W.heap.size W W') : MkA W' N mb vw vr hs fs rs room p K lost := by
  obtain ⟨vk, h⟩ := h
  exact ⟨vk, h.below hb⟩

/-- What take leaves. -/
def TkRes (N mb : Nat) (vw vr : Value) (hs : List Int) (fs : List (List Int)) (rs : List Int) (room : Nat) (p : Nat → Bool) (K : List Nat) (lost : Bool) (i : Nat) (W : World) : Prop :=
  (K.length = room ∧ MkA W N mb vw vr hs fs rs room (upd p i) K true) ∨ (K.length ≠ room ∧ MkA W N mb vw vr hs fs rs room (upd p i) (K ++ [i]) lost)

set_option maxRecDepth 100000 in
set_option maxHeartbeats 2000000 in
theorem take_c (hs : List Int) (fs : List (List Int)) (rs : List Int) (p : Nat → Bool) (K : List Nat) (N mb : Nat) (vw vr : Value) (room i : Nat) (lost : Bool) (w : World)
    (hM : MkA w N mb vw vr hs fs rs room p K lost) (hF : Fit hs fs) (h256 : tot fs ≤ 256) (hroom : room ≤ 64) (hK : K.length ≤ room) (hi : i < fs.length) :
    Calls Try.prog 56 #[.pointer (some ⟨mb, 0, none⟩), .int .i64 (tot (fs.take i) : Nat)] w fun e w' => (e = .returned (.tuple #[]) ∧ TkRes N mb vw vr hs fs rs room p K lost i w') ∧ Below N w w' ∧ KeepT w w' := by
  obtain ⟨i0, hi0, hz0, hz1, hz2⟩ := info_parts Try.info3
  obtain ⟨vk, hM⟩ := hM
  have hpl := place_lt hi
  have hml := mW_len hF p
  obtain ⟨wb, cap, hvw, hwN, hwb, hcap⟩ := hM.words (by rw [hml]; omega)
  rw [hml] at hvw hcap
  subst hvw
  obtain ⟨x, hx, hx1, hx2, hx3, hx4⟩ := fit_at hF hi
  have hr2 := reh_ok (p i) x
  have hmg := mW_get hF p hx
  have hNw : N ≤ w.heap.size := by omega
  have Hh := hide (header_c mb wb (tot fs) cap _ _ w hM.box.c0 (hM.wcell hml.symm hmg).1 hpl h256 hr2.2.2.2.2.1 hr2.2.2.2.2.2)
  have Hset : Hid (∀ W, Below w.heap.size w W → Calls Try.prog 54 #[.pointer (some ⟨mb, 0, none⟩), .int .i64 (tot (fs.take i) : Nat), .agg #[.int .i64 (uhL (reh (p i) x)), .bool (uhM (reh (p i) x)), .int .i64 (uhA (reh (p i) x))], .bool true] W fun e w' => e = .returned (.tuple #[]) ∧ Mk w' N mb (.slice (some ⟨wb, 0, none⟩) (tot fs) cap) vr vk (mW hs fs (upd p i)) rs (plc fs K) room lost ∧ Below N W w' ∧ KeepT W w') := fun W hbW => by
    have hMW := hM.below hbW
    refine (set_w mb wb (tot fs) cap _ _ _ _ _ true W hMW.box.c0 (hMW.wcell hml.symm hmg).1 (hMW.wcell hml.symm hmg).2 hpl h256).mono ?_
    rintro e w' ⟨rfl, w1, hb1, rfl⟩
    refine ⟨rfl, ?_, ?_, (KeepT.below hb1).setCell (ty_row (by have := (hMW.below hb1).wo; rw [hml] at this; exact this)) (.inl rfl) _⟩
    · have := (hMW.below hb1).setW hml.symm (tot (fs.take i)) (headW (uhL (reh (p i) x)) true (uhA (reh (p i) x)))
      rw [show headW (uhL (reh (p i) x)) true (uhA (reh (p i) x)) = reh true x from by rw [hr2.2.1, hr2.2.2.2.1]; rfl, mW_set hF p hx] at this
      rw [hr2.2.1, hr2.2.2.2.1]
      exact this
    · exact (hb1.mono (by have := hbW.size; omega)).setCell (p := ⟨wb, tot (fs.take i), none⟩) hwN _
  have Hpl : Hid (plc fs (K ++ [i]) = plc fs K ++ [((tot (fs.take i) : Nat) : Int)]) := plc_snoc fs K i
  have Hkl : Hid ((plc fs K).length = K.length) := plc_len fs K
  clear hM hmg hml hr2 hx hx1 hx2 hx3 hx4
  generalize uhL (reh (p i) x) = L at *
  generalize uhM (reh (p i) x) = M at *
  generalize uhA (reh (p i) x) = A at *
  generalize hpp : tot (fs.take i) = pl at *
  clear hpp
  generalize hkk : plc fs K = PK at *
  have Hkk := hide hkk
  clear hkk
  go_enter Try.func56, Try.ntmps56
  go_wp2_with fail
  refine (unhide Hh).mono ?_
  rintro e w2 ⟨rfl, hb2⟩
  go_wp2_with fail
  refine (unhide Hset w2 hb2).mono ?_
  rintro e w3 ⟨rfl, hM3, hb3, hk3⟩
  have hs2 := hb2.size
  have hs3 := hb3.size
  have hbN : Below N w w3 := (hb2.mono hNw).trans hb3
  have HkN := hide ((KeepT.below hb2).trans hk3)
  clear hk3
  have q2 := hM3.box.c2
  have q3 := hM3.box.c3
  have q4 := hM3.box.c4
  have z3 := hM3.box.fr 3
  have z4 := hM3.box.fr 4
  have hko := hM3.ko
  have hlm := hM3.box.lt
  obtain ⟨ka, kc, rfl⟩ := ownsRow_slice hko
  rw [unhide Hkl] at q3 hko
  have HM3 := hide hM3
  clear hM3 Hh Hset hb2 hb3
  by_cases hfull : K.length = room
  · have d0 : ((K.length : Int) == (room : Int)) = true := by simp; omega
    have Hfull := hide hfull
    clear hfull
    go_wp2
    go_quiet (fail)
    have hM4 := (unhide HM3).below (below_drewN (Below.refl _ _) nq)
    have hb4 := below_drewN hbN nq
    have Hk4 := hide ((unhide HkN).trans (KeepT.below (below_drewN (Below.refl _ w3) nq)))
    clear q2 q3 q4 z3 z4 hko hlm HM3 hbN hs3 d0 HkN
    generalize w3.drewN nq = w4 at *
    have q4 := hM4.box.c4
    have z4 := hM4.box.fr 4
    have hlm := hM4.box.lt
    have hmN := hM4.lo
    have HM4 := hide hM4
    clear hM4
    go_wp2
    refine bodyPost_ret (v := .tuple #[]) (results_none rfl _ _ _) rfl ⟨⟨rfl, .inl ⟨unhide Hfull, .slice ka PK.length kc, ?_⟩⟩, hb4.setCell (p := ⟨mb, 4, none⟩) hmN _, (unhide Hk4).setCell (unhide HM4).box.ty (.inr (.inr rfl)) _⟩
    rw [unhide Hkk]
    exact (unhide HM4).setL true
  · have d0 : ((K.length : Int) == (room : Int)) = false := by simp; omega
    have Hfull := hide hfull
    have hKr : K.length < room := by omega
    clear hfull
    go_wp2
    go_quiet (fail)
    have hM4 := (unhide HM3).below (below_drewN (Below.refl _ _) nq)
    have hb4 := below_drewN hbN nq
    have Hk4 := hide ((unhide HkN).trans (KeepT.below (below_drewN (Below.refl _ w3) nq)))
    clear q2 q3 q4 z3 z4 hko hlm HM3 hbN hs3 d0 HkN
    generalize w3.drewN nq = w4 at *
    have q3 := hM4.box.c3
    have z3 := hM4.box.fr 3
    have hlm := hM4.box.lt
    have hmN := hM4.lo
    have hko := hM4.ko
    rw [unhide Hkl] at q3 hko
    have HM4 := hide hM4
    clear hM4
    go_wp2_with (at_builtin; go_must (refine wpList_append_own_at _ rfl _ _ 38 rfl N 3 i0 _ 1 8 Try.underlying38 hi0 hz0 hz1 hz2 rfl (by decide) _ _ _ rfl (hko.alloc _) ⟨w4.heap.size, 0, none⟩ 1 1 [.int .i64 (pl : Int)] rfl rfl (cell_one_at _ _ _ _ (by simp)) (by simp [Value.oneCell']) (by simp only [maxLen]; omega) (by omega) (by simp; omega) ?_); go_must (intro v' w5 hrow hg5 _ hat; obtain ⟨g5, c5, hv5⟩ := ownsRow_succ hrow; subst hv5; have hpush := ((unhide HM4).alloc (.cells #[.int .i64 (pl : Int)] 3)).push (x := (pl : Int)) (by rw [unhide Hkl]; exact hrow) (by rw [unhide Hkl]; exact hg5) (by rw [unhide Hkl]; exact hat); have r3 := hpush.1.c3; have t3 := hpush.1.fr 3; have Hpush := hide hpush.2; have Hk5 := hide (((unhide Hk4).alloc (.cells #[.int .i64 (pl : Int)] 3)).grown (hko.alloc _) hg5 (.inr (.inl rfl))); have Hty := hide hpush.1.ty; clear hpush))
    refine bodyPost_end (v := .tuple #[]) (results_none rfl _ _ _) rfl ⟨⟨rfl, .inr ⟨unhide Hfull, .slice (some ⟨g5, 0, none⟩) (K.length + 1) c5, ?_⟩⟩, ?_, (unhide Hk5).setCell (unhide Hty) (.inr (.inr rfl)) _⟩
    · rw [unhide Hpl]
      exact unhide Hpush
    · exact ((hb4.alloc (by omega) _).grown hg5 (by simp; omega) (fun q e => (hko.lt q e).1)).setCell (p := ⟨mb, 3, none⟩) hmN _

end Go.Proofs.Ytemjhdbmcdlpeaa

/- Walks: climb. -/
namespace Go.Proofs.Ytemjhdbmcdlpeaa
set_option linter.unusedSimpArgs false
set_option linter.unusedVariables false
open Go.RowKit Go.Shelf
attribute [local go_sem] field51_0 field51_1

/-- What holds while objects are marked: E are those that are still to be gone through. -/
structure Inv (fs : List (List Int)) (rs : List Int) (E : Nat → Prop) (n0 : Nat) (p : Nat → Bool) (K : List Nat) (lost : Bool) : Prop where
  rch : ∀ j, p j = true → Rch fs rs j
  inb : ∀ j ∈ K, j < fs.length
  km : ∀ j ∈ K, p j = true
  cl : lost = false → ∀ j, p j = true → E j ∨ j ∈ K ∨ Cl fs p j
  le : unm fs.length p ≤ n0
  ls : lost = true → unm fs.length p < n0

theorem Inv.full {fs : List (List Int)} {rs : List Int} {E : Nat → Prop} {n0 : Nat} {p : Nat → Bool} {K : List Nat} {lost : Bool} (h : Inv fs rs E n0 p K lost) {j : Nat} (hj : j < fs.length) (hp : p j = false) (hr : Rch fs rs j) : Inv fs rs E n0 (upd p j) K true := by
  have hu := unm_upd hj hp
  have := h.le
  refine ⟨fun k hk => ?_, h.inb, fun k hk => upd_le (h.km k hk), fun e => (by cases e), by omega, fun _ => by omega⟩
  rcases upd_inv hk with rfl | hk
  · exact hr
  · exact h.rch k hk

theorem Inv.push {fs : List (List Int)} {rs : List Int} {E : Nat → Prop} {n0 : Nat} {p : Nat → Bool} {K : List Nat} {lost : Bool} (h : Inv fs rs E n0 p K lost) {j : Nat} (hj : j < fs.length) (hp : p j = false) (hr : Rch fs rs j) : Inv fs rs E n0 (upd p j) (K ++ [j]) lost := by
  have hu := unm_upd hj hp
  have := h.le
  refine ⟨fun k hk => ?_, fun k hk => ?_, fun k hk => ?_, fun e k hk => ?_, by omega, fun e => by have := h.ls e; omega⟩
  · rcases upd_inv hk with rfl | hk
    · exact hr
    · exact h.rch k hk
  · rcases List.mem_append.1 hk with hk | hk
    · exact h.inb k hk
    · simp at hk; subst hk; exact hj
  · rcases List.mem_append.1 hk with hk | hk
    · exact upd_le (h.km k hk)
    · simp at hk; subst hk; exact upd_self _ _
  · rcases upd_inv hk with rfl | hk
    · exact .inr (.inl (by simp))
    · rcases h.cl e k hk with h1 | h1 | h1
      · exact .inl h1
      · exact .inr (.inl (by simp [h1]))
      · exact .inr (.inr h1.upd)

theorem Inv.pop {fs : List (List Int)} {rs : List Int} {E : Nat → Prop} {n0 : Nat} {p : Nat → Bool} {K : List Nat} {i : Nat} {lost : Bool} (h : Inv fs rs E n0 p (K ++ [i]) lost) (hc : Cl fs p i) : Inv fs rs E n0 p K lost := by
  refine ⟨h.rch, fun k hk => h.inb k (by simp [hk]), fun k hk => h.km k (by simp [hk]), fun e k hk => ?_, h.le, h.ls⟩
  rcases h.cl e k hk with h1 | h1 | h1
  · exact .inl h1
  · rcases List.mem_append.1 h1 with h1 | h1
    · exact .inr (.inl h1)
    · simp at h1; subst h1; exact .inr (.inr hc)
  · exact .inr (.inr h1)

/-- How many places are kept, as memory tells. -/
def mesK (mb : Nat) (w : World) : Nat := match w.cell? ⟨mb, 3, none⟩ with
  | some (.slice _ n _) => n
  | _ => 0
/-- How many objects are not marked, as memory tells. -/
def mesU (vw : Value) (fs : List (List Int)) (w : World) : Nat := ((List.range fs.length).filter fun (i : Nat) => match w.cell? ⟨vw.ownBlock.getD 0, tot (fs.take i), none⟩ with
  | some (.int _ x) => !uhM x
  | _ => false).length

theorem mesK_eq {W : World} {N mb : Nat} {vw vr : Value} {hs : List Int} {fs : List (List Int)} {rs : List Int} {room : Nat} {p : Nat → Bool} {K : List Nat} {lost : Bool} (h : MkA W N mb vw vr hs fs rs room p K lost) : mesK mb W = K.length := by
  obtain ⟨vk, h⟩ := h
  obtain ⟨a, c, hv⟩ := ownsRow_slice h.ko
  subst hv
  unfold mesK
  rw [h.box.c3, plc_len]

theorem mesU_eq {W : World} {N mb : Nat} {vw vr : Value} {hs : List Int} {fs : List (List Int)} {rs : List Int} {room : Nat} {p : Nat → Bool} {K : List Nat} {lost : Bool} (h : MkA W N mb vw vr hs fs rs room p K lost) (hF : Fit hs fs) : mesU vw fs W = unm fs.length p := by
  obtain ⟨vk, h⟩ := h
  unfold mesU unm
  congr 1
  apply List.filter_congr
  intro i hi
  have hi' : i < fs.length := List.mem_range.1 hi
  have hml := mW_len hF p
  have hpl := place_lt hi'
  obtain ⟨wb, cap, hvw, _⟩ := h.words (by rw [hml]; omega)
  rw [hml] at hvw
  subst hvw
  obtain ⟨x, hx, _⟩ := fit_at hF hi'
  have := (h.wcell hml.symm (mW_get hF p hx)).1
  show (match W.cell? ⟨wb, tot (fs.take i), none⟩ with | some (.int _ x) => !uhM x | _ => false) = _
  rw [this]
  simp only [(reh_ok (p i) x).2.2.1]

/-- What climb leaves. -/
def ClRes (N mb : Nat) (vw vr : Value) (hs : List Int) (fs : List (List Int)) (rs : List Int) (room : Nat) (E : Nat → Prop) (n0 : Nat) (p : Nat → Bool) (W : World) : Prop :=
  ∃ p' lost', MkA W N mb vw vr hs fs rs room p' [] lost' ∧ Inv fs rs E n0 p' [] lost' ∧ ∀ j, p j = true → p' j = true

/-- The fields of an object that is kept, in memory. -/
theorem fld_wds {W : World} {N mb wb cap : Nat} {vr vk : Value} {hs : List Int} {fs : List (List Int)} {rs PK : List Int} {room : Nat} {lost : Bool} {p : Nat → Bool} (h : Mk W N mb (.slice (some ⟨wb, 0, none⟩) (tot fs) cap) vr vk (mW hs fs p) rs PK room lost) (hF : Fit hs fs) {i : Nat} {f : List Int} (hf : fs[i]? = some f) (h4 : f.length ≤ 4)
    {a : Option Addr} (ha : 0 < f.length → a = some ⟨wb, tot (fs.take i) + 1, none⟩) : Wds W.heap.size W a f := by
  refine ⟨by omega, fun hne => ?_⟩
  have hpos : 0 < f.length := List.length_pos_iff.2 hne
  have hml := mW_len hF p
  refine ⟨wb, tot (fs.take i) + 1, ha hpos, ?_, fun k v hk => ?_⟩
  · exact (h.wo.lt wb rfl).2
  · have hj := joinW_fields (mkH hs p) fs i f (by rw [mkH_len]; exact hF.len) hf
    have hk' : k < f.length := (List.getElem?_eq_some_iff.1 hk).1
    have : (mW hs fs p)[tot (fs.take i) + 1 + k]? = some v := by
      rw [← hj, List.getElem?_take, if_pos hk', List.getElem?_drop] at hk
      exact hk
    exact (h.wcell hml.symm this).1

set_option maxRecDepth 100000 in
set_option maxHeartbeats 2000000 in
theorem climb_c (hs : List Int) (fs : List (List Int)) (rs : List Int) (E : Nat → Prop) (n0 : Nat) (p : Nat → Bool) (K : List Nat) (N mb : Nat) (vw vr : Value) (room : Nat) (lost : Bool) (w : World)
    (hM : MkA w N mb vw vr hs fs rs room p K lost) (hA : Arn hs fs rs) (hroom : room ≤ 64) (hK : K.length ≤ room) (hI : Inv fs rs E n0 p K lost) :
    Calls Try.prog 57 #[.pointer (some ⟨mb, 0, none⟩)] w fun e w' => (e = .returned (.tuple #[]) ∧ ClRes N mb vw vr hs fs rs room E n0 p w') ∧ Below N w w' ∧ KeepT w w' := by
  have hF := hA.fit
  have h256 := hA.n256
  have HA := hide hA
  have HF := hide hF
  have HM0 := hide hM
  have HI0 := hide hI
  clear hA hF hM hI
  go_enter Try.func57, Try.ntmps57
  go_wp2
  go_loopw [] (fun wr => ∃ p' K' lost', Hid (MkA wr N mb vw vr hs fs rs room p' K' lost') ∧ Hid (Inv fs rs E n0 p' K' lost') ∧ Hid (∀ j, p j = true → p' j = true) ∧ K'.length ≤ room ∧ Below N w wr ∧ Hid (KeepT w wr)) (fun wr => 2 * mesU vw fs wr + mesK mb wr)
  case atStart => exact ⟨p, K, lost, HM0, HI0, hide (fun j h => h), hK, Below.refl _ _, hide (KeepT.refl _)⟩
  case round =>
    clear HM0 HI0 hK
    obtain ⟨p', K', lost', HM, HI, Hle, hKr, hb, Hkt⟩ := hrel
    have HmU := hide (mesU_eq (unhide HM) (unhide HF))
    have HmK := hide (mesK_eq (unhide HM))
    have HMA := HM
    obtain ⟨vk, HM⟩ := unhide HM
    replace HM := hide HM
    rcases List.eq_nil_or_concat K' with rfl | ⟨K0, i, hK'⟩
    · have q3 := (unhide HM).box.c3
      obtain ⟨ka, kc, hv⟩ := ownsRow_slice (unhide HM).ko
      subst hv
      rw [plc_len] at q3
      simp only [List.length_nil] at q3
      have hlm := (unhide HM).box.lt
      go_wp2
      exact bodyPost_end (v := .tuple #[]) (results_none rfl _ _ _) rfl ⟨⟨rfl, p', lost', unhide HMA, unhide HI, unhide Hle⟩, hb, unhide Hkt⟩
    · rw [List.concat_eq_append] at hK'
      subst hK'
      have hi : i < fs.length := (unhide HI).inb i (by simp)
      have hKl : K0.length + 1 ≤ room := by simpa using hKr
      have HM1 : Hid (Mk wr N mb vw vr vk (mW hs fs p') rs (plc fs K0 ++ [((tot (fs.take i) : Nat) : Int)]) room lost') := by
        have := unhide HM
        rw [plc_snoc] at this
        exact this
      obtain ⟨g, kc, hvk, hkc, hgl, hcl⟩ := (unhide HM1).last
      rw [plc_len] at hvk hkc hcl
      subst hvk
      have q3 := (unhide HM1).box.c3
      have z3 := (unhide HM1).box.fr 3
      have hlm := (unhide HM1).box.lt
      have hmN := (unhide HM1).lo
      have hml := mW_len (unhide HF) p'
      have hpl := place_lt hi
      obtain ⟨wb, cap, hvw, hwN, hwb, hcap⟩ := (unhide HM1).words (by rw [hml]; omega)
      rw [hml] at hvw hcap
      subst hvw
      obtain ⟨x, hx, hx1, hx2, hx3, hx4⟩ := fit_at (unhide HF) hi
      have hr2 := reh_ok (p' i) x
      have hmg := mW_get (unhide HF) p' hx
      have h4 : fs[i].length ≤ 4 := by rw [← hx2]; exact wlen_le hx1
      have hts := tot_take_succ hi
      have htl := tot_take_le fs (i + 1)
      have Hfld : Hid (Calls Try.prog 64 #[.pointer (some ⟨mb, 0, none⟩), .int .i64 (tot (fs.take i) : Nat)] wr fun e w' => FldRes wb (tot (fs.take i)) fs[i].length e ∧ Below wr.heap.size wr w') := by
        have := fields_c mb wb (tot fs) cap _ _ wr (unhide HM1).box.c0 ((unhide HM1).wcell hml.symm hmg).1 h256 hcap hr2.2.2.2.2.1 hr2.2.2.2.2.2 hr2.1 (by rw [reh_wlen hx1, hx2]; omega)
        rw [reh_wlen hx1, hx2] at this
        exact this
      have Hun : Hid (∀ W a c, Below wr.heap.size wr W → (0 < fs[i].length → a = some ⟨wb, tot (fs.take i) + 1, none⟩) → Calls Try.prog 55 #[.pointer (some ⟨mb, 0, none⟩), .slice a fs[i].length c] W fun e w' => UnRes fs p' fs[i] e ∧ Below W.heap.size W w') := fun W a c hbW ha => by
        have hMW := (unhide HM1).below hbW
        exact unmarked_c a c fs[i] hs fs p' N mb _ vr _ rs _ room lost' W hMW (unhide HF) h256 (fld_wds hMW (unhide HF) (List.getElem?_eq_getElem hi) h4 ha) ((unhide HA).uf _ (List.getElem_mem hi)) (by omega) ((unhide HA).okf _ (List.getElem_mem hi))
      have Htk : Hid (∀ W j, Below wr.heap.size wr W → j < fs.length → Calls Try.prog 56 #[.pointer (some ⟨mb, 0, none⟩), .int .i64 (tot (fs.take j) : Nat)] W fun e w' => (e = .returned (.tuple #[]) ∧ TkRes N mb (.slice (some ⟨wb, 0, none⟩) (tot fs) cap) vr hs fs rs room p' (K0 ++ [i]) lost' j w') ∧ Below N W w' ∧ KeepT W w') := fun W j hbW hj =>
        take_c hs fs rs p' (K0 ++ [i]) N mb _ vr room j lost' W ((unhide HMA).below hbW) (unhide HF) h256 hroom hKr hj
      have Hfi := hide (List.getElem?_eq_getElem hi)
      have hNw : N ≤ wr.heap.size := by omega
      clear hml hmg hr2 hx hx1 hx2 hx3 hx4 hts htl HM
      generalize fs[i] = f at *
      have w1 : IntKind.i64.wrap (((K0.length + 1 : Nat) : Int) - 1) = (K0.length : Int) := by rw [IntKind.wrap_i64]; omega
      have e1 : ((K0.length + 1 : Nat) : Int) - 1 = (K0.length : Int) := by omega
      go_wp2_with fail
      refine (unhide Hfld).mono ?_
      rintro e w2 ⟨⟨fa, fc, he, hfa⟩, hb2⟩
      subst he
      have Hun2 := hide (unhide Hun w2 fa fc hb2 hfa)
      clear Hfld Hun hfa
      go_wp2_with fail
      refine (unhide Hun2).mono ?_
      rintro e w3 ⟨hres, hb3⟩
      have hs2 := hb2.size
      have hs3 := hb3.size
      have hb23 : Below wr.heap.size wr w3 := hb2.trans (hb3.mono hs2)
      clear Hun2
      rcases hres with ⟨j, hj, hpj, hto, he⟩ | ⟨hall, he⟩
      · subst he
        have Htk2 := hide (unhide Htk w3 j hb23 hj)
        have Hr : Hid (Rch fs rs j) := hide (rch_step ((unhide HI).rch i ((unhide HI).km i (by simp))) (unhide Hfi) hto)
        have Hpj := hide hpj
        clear hto hpj Htk
        go_wp2_with fail
        refine (unhide Htk2).mono ?_
        rintro e w4 ⟨⟨he, hres⟩, hb4, hk4⟩
        subst he
        have Hk4 := hide ((unhide Hkt).trans ((KeepT.below hb23).trans hk4))
        clear hk4
        have Hres := hide hres
        clear hres Htk2
        have hbw4 : Below N w w4 := (hb.trans (hb23.mono hNw)).trans hb4
        go_wp2
        go_roundw
        case rel =>
          rcases unhide Hres with ⟨h1, h2⟩ | ⟨h1, h2⟩
          · exact ⟨_, _, _, hide h2, hide ((unhide HI).full hj (unhide Hpj) (unhide Hr)), hide (fun k hk => upd_le (unhide Hle k hk)), hKr, hbw4, Hk4⟩
          · exact ⟨_, _, _, hide h2, hide ((unhide HI).push hj (unhide Hpj) (unhide Hr)), hide (fun k hk => upd_le (unhide Hle k hk)), by rw [List.length_append, List.length_singleton]; omega, hbw4, Hk4⟩
        case measure =>
          have hu := unm_upd hj (unhide Hpj)
          rw [unhide HmU, unhide HmK]
          rcases unhide Hres with ⟨h1, h2⟩ | ⟨h1, h2⟩
          · rw [mesU_eq h2 (unhide HF), mesK_eq h2]; omega
          · rw [mesU_eq h2 (unhide HF), mesK_eq h2]; simp only [List.length_append, List.length_singleton]; omega
      · subst he
        have hM3 := (unhide HM1).below hb23
        have r3 := hM3.box.c3
        have t3 := hM3.box.fr 3
        have Hpop := hide (hM3.pop (plc_len fs K0))
        have Hcl : Hid (Cl fs p' i) := hide (fun f' j hf' ht => by rw [unhide Hfi] at hf'; injection hf' with hf'; subst hf'; exact hall j ht)
        have hlm3 := hM3.box.lt
        have Hk3 := hide (((unhide Hkt).trans (KeepT.below hb23)).setCell (j := 3) hM3.box.ty (.inr (.inr rfl)) (.slice (some ⟨g, 0, none⟩) K0.length kc))
        clear hM3 hall Htk
        go_wp2
        go_roundw
        case rel => exact ⟨p', K0, lost', hide ⟨_, unhide Hpop⟩, hide ((unhide HI).pop (unhide Hcl)), Hle, by omega, (hb.trans (hb23.mono hNw)).setCell (p := ⟨mb, 3, none⟩) hmN _, Hk3⟩
        case measure =>
          have h2 : MkA (w3.setCell ⟨mb, 3, none⟩ (.slice (some ⟨g, 0, none⟩) K0.length kc)) N mb (.slice (some ⟨wb, 0, none⟩) (tot fs) cap) vr hs fs rs room p' K0 lost' := ⟨_, unhide Hpop⟩
          rw [unhide HmU, unhide HmK, mesU_eq h2 (unhide HF), mesK_eq h2, List.length_append, List.length_singleton]; omega

end Go.Proofs.Ytemjhdbmcdlpeaa

/- Walks: newMarker's closure; all marks away. -/
namespace Go.Proofs.Ytemjhdbmcdlpeaa
set_option linter.unusedSimpArgs false
set_option linter.unusedVariables false
open Go.RowKit Go.Shelf
attribute [local go_sem] field51_0 field51_1

/-- The arena of which the first k objects are without marks. -/
def fW (hs : List Int) (fs : List (List Int)) (k : Nat) : List Int := joinW (mkF hs k) fs

theorem fW_len {hs : List Int} {fs : List (List Int)} (h : Fit hs fs) (k : Nat) : (fW hs fs k).length = tot fs := by
  rw [fW, joinW_len _ _ (by rw [mkF_len]; exact h.len)]
theorem fW_get {hs : List Int} {fs : List (List Int)} (h : Fit hs fs) {i : Nat} {x : Int} (hx : hs[i]? = some x) : (fW hs fs i)[tot (fs.take i)]? = some x := by
  have hi : i < fs.length := by have := (List.getElem?_eq_some_iff.1 hx).1; have := h.len; omega
  rw [fW, joinW_get _ _ _ (by rw [mkF_len]; exact h.len) hi, mkF_get, hx]
  simp
theorem fW_set {hs : List Int} {fs : List (List Int)} (h : Fit hs fs) {i : Nat} {x : Int} (hx : hs[i]? = some x) : (fW hs fs i).set (tot (fs.take i)) (reh false x) = fW hs fs (i + 1) := by
  have hi : i < fs.length := by have := (List.getElem?_eq_some_iff.1 hx).1; have := h.len; omega
  rw [fW, joinW_set _ _ _ _ (by rw [mkF_len]; exact h.len) hi, mkF_set hx, fW]

theorem cell_of_box {W : World} {b : Nat} {v : Value} {t : TypeId} (h : W.heap[b]? = some (.cells #[v] t)) : W.cell? ⟨b, 0, none⟩ = some v := by
  rw [cell_of_row W b 0 _ t (0, 0) h]; rfl

set_option maxRecDepth 100000 in
set_option maxHeartbeats 1000000 in
theorem nm1_c (pb mb wb n cap q : Nat) (x L A : Int) (M : Bool) (w : World) (hp : w.heap[pb]? = some (.cells #[.pointer (some ⟨mb, 0, none⟩)] 77)) (h0 : w.cell? ⟨mb, 0, none⟩ = some (.slice (some ⟨wb, 0, none⟩) n cap)) (hx : w.cell? ⟨wb, q, none⟩ = some (.int .u64 x)) (hf : w.frozen? ⟨wb, q, none⟩ = false) (hq : q < n) (hn : n ≤ 256) :
    Calls Try.prog 53 #[.int .i64 (q : Nat), .agg #[.int .i64 L, .bool M, .int .i64 A], .pointer (some ⟨pb, 0, none⟩)] w fun e w' => e = .returned (.tuple #[]) ∧ ∃ w1, Below w.heap.size w w1 ∧ w' = w1.setCell ⟨wb, q, none⟩ (.int .u64 (headW L false A)) := by
  have hlm : mb < w.heap.size := World.block_lt_of_cell? w _ h0
  have hlw : wb < w.heap.size := World.block_lt_of_cell? w _ hx
  have hlp : pb < w.heap.size := (Array.getElem?_eq_some_iff.1 hp).1
  have hcp := cell_of_box hp
  have hb0 : Below w.heap.size w (w.alloc (.cells #[.int .i64 L, .bool M, .int .i64 A] 32)) := (Below.refl _ _).alloc (Nat.le_refl _) _
  have Hc := hide (set_w mb wb n cap q x L A M false _ ((hb0.cell (p := ⟨mb, 0, none⟩) hlm).trans h0) ((hb0.cell (p := ⟨wb, q, none⟩) hlw).trans hx) ((hb0.frozen (p := ⟨wb, q, none⟩) hlw).trans hf) hq hn)
  clear hp
  go_enter Try.func53, Try.ntmps53
  go_wp2_with fail
  refine (unhide Hc).mono ?_
  rintro e w2 ⟨rfl, w1, hb1, rfl⟩
  go_wp2
  exact bodyPost_end (v := .tuple #[]) (results_none rfl _ _ _) rfl ⟨rfl, w1, hb0.trans (hb1.mono (by simp)), rfl⟩

/-- What holds while marks are taken away. -/
def NmI (w0 : World) (N mb pb : Nat) (vw vr vk : Value) (hs : List Int) (fs : List (List Int)) (rs : List Int) (room : Nat) (k : Nat) (W : World) : Prop :=
  Mk W N mb vw vr vk (fW hs fs k) rs [] room false ∧ W.heap[pb]? = some (.cells #[.pointer (some ⟨mb, 0, none⟩)] 77) ∧ Below N w0 W ∧ KeepT w0 W

theorem nmEach (N mb pb cap : Nat) (a : Option Addr) (vr vk : Value) (hs : List Int) (fs : List (List Int)) (rs : List Int) (room : Nat) (w : World) (hF : Fit hs fs) (h256 : tot fs ≤ 256)
    (hM : Mk w N mb (.slice a (tot fs) cap) vr vk (joinW hs fs) rs [] room false) (hp : w.heap[pb]? = some (.cells #[.pointer (some ⟨mb, 0, none⟩)] 77)) :
    Calls Try.prog 52 #[.slice a (tot fs : Nat) cap, .func (.func 53) #[] #[.pointer (some ⟨pb, 0, none⟩)]] w fun e w' => e = .returned (.tuple #[]) ∧ NmI w N mb pb (.slice a (tot fs) cap) vr vk hs fs rs room fs.length w' := by
  refine each39_c _ a cap fs (NmI w N mb pb (.slice a (tot fs) cap) vr vk hs fs rs room) w h256 ⟨?_, hp, Below.refl _ _, KeepT.refl _⟩ ?_
  · rw [fW, mkF_zero]; exact hM
  · intro k hk W hI
    obtain ⟨hMW, hpW, hbW, hkW⟩ := hI
    obtain ⟨x, hx, hx1, hx2, hx3, hx4⟩ := fit_at hF hk
    have hml := fW_len hF k
    have hpl := place_lt hk
    obtain ⟨wb, cap', hvw, hwN, hwb, hcap⟩ := hMW.words (by rw [hml]; omega)
    rw [hml] at hvw
    injection hvw with h1 _ h3
    subst h1 h3
    have hg := fW_get hF hx
    have hc := (hMW.wcell hml.symm hg).1
    refine ⟨wb, 0, x, rfl, by rw [Nat.zero_add]; exact hc, hx3, hx4, hx1, hx2, fun W' hb' => ?_⟩
    have hM' := hMW.below hb'
    have hp' : W'.heap[pb]? = some (.cells #[.pointer (some ⟨mb, 0, none⟩)] 77) := by rw [hb'.block pb (Array.getElem?_eq_some_iff.1 hpW).1]; exact hpW
    refine (nm1_c pb mb wb (tot fs) cap _ x _ (uhA x) (uhM x) W' hp' hM'.box.c0 (hM'.wcell hml.symm hg).1 (hM'.wcell hml.symm hg).2 hpl h256).mono ?_
    rintro e W2 ⟨rfl, w1, hb1, rfl⟩
    have hM1 := hM'.below hb1
    have hty := ty_row (show w1.ownsRow N 56 1 (.slice (some ⟨wb, 0, none⟩) (tot fs) cap) (tot fs) (wordsV (fW hs fs k)) from by have := hM1.wo; rw [hml] at this; exact this)
    have hkt : KeepT W' (w1.setCell ⟨wb, tot (fs.take k), none⟩ (.int .u64 (headW (fs[k].length : Int) false (uhA x)))) := (KeepT.below hb1).setCell hty (.inl rfl) _
    refine ⟨rfl, ⟨?_, ?_, ?_, ?_⟩, hkt.k51, by have := hb1.size; simpa [World.setCell] using this⟩
    · have := hM1.setW hml.symm (tot (fs.take k)) (headW (fs[k].length : Int) false (uhA x))
      have e : headW (fs[k].length : Int) false (uhA x) = reh false x := by
        unfold reh
        rw [uhL_wlen hx1, hx2]
      rw [e, fW_set hF hx] at this
      rw [e]
      exact this
    · exact hkt pb _ 77 hp' (by decide) (by decide) (by decide)
    · exact (hbW.trans ((hb'.trans (hb1.mono hb'.size)).mono (by omega))).setCell (p := ⟨wb, tot (fs.take k), none⟩) hwN _
    · exact (hkW.trans (KeepT.below hb')).trans hkt

end Go.Proofs.Ytemjhdbmcdlpeaa

/- Walks: again's closure. -/
namespace Go.Proofs.Ytemjhdbmcdlpeaa
set_option linter.unusedSimpArgs false
set_option linter.unusedVariables false
open Go.RowKit Go.Shelf
attribute [local go_sem] field51_0 field51_1

theorem Inv.next {fs : List (List Int)} {rs : List Int} {n0 k : Nat} {p : Nat → Bool} {lost : Bool} (h : Inv fs rs (fun j => k ≤ j) n0 p [] lost) (hp : p k = false) : Inv fs rs (fun j => k + 1 ≤ j) n0 p [] lost := by
  refine ⟨h.rch, h.inb, h.km, fun e j hj => ?_, h.le, h.ls⟩
  rcases h.cl e j hj with h1 | h1 | h1
  · refine .inl ?_
    have : j ≠ k := fun e => by subst e; rw [hp] at hj; cases hj
    show k + 1 ≤ j
    have : k ≤ j := h1
    omega
  · exact .inr (.inl h1)
  · exact .inr (.inr h1)

theorem Inv.open {fs : List (List Int)} {rs : List Int} {n0 k : Nat} {p : Nat → Bool} {lost : Bool} (h : Inv fs rs (fun j => k ≤ j) n0 p [] lost) (hp : p k = true) (hk : k < fs.length) : Inv fs rs (fun j => k + 1 ≤ j) n0 p [k] lost := by
  refine ⟨h.rch, fun j hj => ?_, fun j hj => ?_, fun e j hj => ?_, h.le, h.ls⟩
  · simp at hj; subst hj; exact hk
  · simp at hj; subst hj; exact hp
  · rcases h.cl e j hj with h1 | h1 | h1
    · have h2 : k ≤ j := h1
      by_cases e : j = k
      · exact .inr (.inl (by simp [e]))
      · exact .inl (show k + 1 ≤ j by omega)
    · simp at h1
    · exact .inr (.inr h1)

set_option maxRecDepth 100000 in
set_option maxHeartbeats 2000000 in
theorem ag1_c (hs : List Int) (fs : List (List Int)) (rs : List Int) (n0 k : Nat) (p : Nat → Bool) (N mb pb : Nat) (vw vr : Value) (room : Nat) (lost : Bool) (L A : Int) (w : World)
    (hM : MkA w N mb vw vr hs fs rs room p [] lost) (hA : Arn hs fs rs) (hr1 : 1 ≤ room) (hroom : room ≤ 64) (hk : k < fs.length) (hI : Inv fs rs (fun j => k ≤ j) n0 p [] lost) (hp : w.heap[pb]? = some (.cells #[.pointer (some ⟨mb, 0, none⟩)] 77)) :
    Calls Try.prog 65 #[.int .i64 (tot (fs.take k) : Nat), .agg #[.int .i64 L, .bool (p k), .int .i64 A], .pointer (some ⟨pb, 0, none⟩)] w fun e w' => (e = .returned (.tuple #[]) ∧ ClRes N mb vw vr hs fs rs room (fun j => k + 1 ≤ j) n0 p w') ∧ Below N w w' ∧ KeepT w w' := by
  obtain ⟨i0, hi0, hz0, hz1, hz2⟩ := info_parts Try.info3
  have hlp : pb < w.heap.size := (Array.getElem?_eq_some_iff.1 hp).1
  have hNw : N ≤ w.heap.size := by obtain ⟨vk, h⟩ := hM; have := h.box.lt; have := h.lo; omega
  cases hpk : p k
  · have hb0 : Below w.heap.size w (w.alloc (.cells #[.int .i64 L, .bool false, .int .i64 A] 32)) := (Below.refl _ _).alloc (Nat.le_refl _) _
    have HM := hide (hM.below hb0)
    have HI := hide (hI.next hpk)
    clear hM hI hpk hp
    go_enter Try.func65, Try.ntmps65
    go_wp2
    exact bodyPost_end (v := .tuple #[]) (results_none rfl _ _ _) rfl ⟨⟨rfl, p, lost, unhide HM, unhide HI, fun j h => h⟩, hb0.mono hNw, KeepT.below hb0⟩
  · obtain ⟨W1, hW1⟩ : ∃ W1, w.alloc (.cells #[.int .i64 L, .bool true, .int .i64 A] 32) = W1 := ⟨_, rfl⟩
    have hb0 : Below w.heap.size w W1 := by rw [← hW1]; exact (Below.refl _ _).alloc (Nat.le_refl _) _
    have b1 : W1.cell? ⟨w.heap.size, 1, none⟩ = some (.bool true) := by rw [← hW1]; simp [go_sem]
    have hs1 : w.heap.size < W1.heap.size := by rw [← hW1]; simp
    have HI := hide (hI.open hpk hk)
    obtain ⟨vk, hM⟩ := hM.below hb0
    have hp1 : W1.heap[pb]? = some (.cells #[.pointer (some ⟨mb, 0, none⟩)] 77) := by rw [hb0.block pb hlp]; exact hp
    have hcp := cell_of_box hp1
    have Hp1 := hide hp1
    have q3 := hM.box.c3
    have z3 := hM.box.fr 3
    have hlm := hM.box.lt
    have hmN := hM.lo
    have hko := hM.ko
    obtain ⟨ka, kc, rfl⟩ := ownsRow_slice hko
    have hkl : (plc fs ([] : List Nat)).length = 0 := rfl
    have Hkd := hide hM
    rw [hkl] at q3 hko
    have hkd := hko
    have hlp1 : pb < W1.heap.size := by omega
    have hb0N := hb0.mono hNw
    have Hclimb : Hid (∀ W lost v, Mk W N mb vw vr v (mW hs fs p) rs (plc fs [k]) room lost → Inv fs rs (fun j => k + 1 ≤ j) n0 p [k] lost → Calls Try.prog 57 #[.pointer (some ⟨mb, 0, none⟩)] W fun e w' => (e = .returned (.tuple #[]) ∧ ClRes N mb vw vr hs fs rs room (fun j => k + 1 ≤ j) n0 p w') ∧ Below N W w' ∧ KeepT W w') := fun W lost v h1 h2 =>
      climb_c hs fs rs _ n0 p [k] N mb vw vr room lost W ⟨v, h1⟩ hA hroom (by simpa using hr1) h2
    have Hpl : Hid (plc fs [k] = plc fs [] ++ [((tot (fs.take k) : Nat) : Int)]) := rfl
    have hq : tot (fs.take k) ≤ 256 := by have := place_lt hk; have := hA.n256; omega
    clear hM hI hpk hp hp1 hko hkl hA
    generalize tot (fs.take k) = q at *
    go_enter Try.func65, Try.ntmps65
    go_wp2
    clear hW1
    go_region_law (refine step_append_at rfl _ _ 38 rfl N 3 i0 _ 1 8 Try.underlying38 hi0 hz0 hz1 hz2 rfl (Nat.zero_lt_one) (.slice ka 0 kc) 0 _ rfl (hkd.alloc _).drew ⟨W1.heap.size, 0, none⟩ 1 1 [.int .i64 (q : Int)] rfl rfl (cell_one_at _ _ _ _ rfl) (by simp [Value.oneCell']) (by simp only [maxLen]; omega) (by omega) (by show N ≤ (W1.heap.push _).size; simp; omega) ?_; intro v' w5 hrow hg5 hat; have hpush := (((unhide Hkd).alloc (.cells #[.int .i64 (q : Int)] 3)).below ((Below.refl _ _).drew)).push (x := (q : Int)) hrow hg5 hat; have r3 := hpush.1.c3; have t3 := hpush.1.fr 3; have hlm5 := hpush.1.lt; have Hpush := hide hpush.2; have Hk5 := hide ((((KeepT.refl W1).alloc (.cells #[.int .i64 (q : Int)] 3)).trans (KeepT.below ((Below.refl _ _).drew))).grown (hkd.alloc _).drew hg5 (.inr (.inl rfl))); have Hty := hide hpush.1.ty; clear hpush; have c5 := cell_of_box ((unhide Hk5) pb _ 77 (unhide Hp1) (by decide) (by decide) (by decide)); have hpb5 := (Array.getElem?_eq_some_iff.1 ((unhide Hk5) pb _ 77 (unhide Hp1) (by decide) (by decide) (by decide))).1; obtain ⟨g5, cap5, hv5⟩ := ownsRow_succ hrow; subst hv5)
    all_goals
      have Hc9 := hide (unhide Hclimb _ lost _ (by rw [unhide Hpl]; exact unhide Hpush) (unhide HI))
      have Hb9 : Hid (Below N w (w5.setCell ⟨mb, 3, none⟩ (.slice (some ⟨g5, 0, none⟩) 1 cap5))) := hide (((hb0N.alloc (by omega) (.cells #[.int .i64 (q : Int)] 3)).drew.grown hg5 (by show N ≤ (W1.heap.push _).size; simp; omega) (fun z e => (hkd.lt z e).1)).setCell (p := ⟨mb, 3, none⟩) hmN _)
      have Hk9 := hide (((KeepT.below hb0).trans (unhide Hk5)).setCell (j := 3) (unhide Hty) (.inr (.inr rfl)) (.slice (some ⟨g5, 0, none⟩) 1 cap5))
      clear Hclimb Hpush
      go_wp2_with fail
      refine (unhide Hc9).mono ?_
      rintro e w6 ⟨⟨he, hres⟩, hb6, hk6⟩
      subst he
      have Hres := hide hres
      have Hk6 := hide hk6
      clear hres Hc9 hk6
      go_wp2
      exact bodyPost_end (v := .tuple #[]) (results_none rfl _ _ _) rfl ⟨⟨rfl, unhide Hres⟩, (unhide Hb9).trans hb6, (unhide Hk9).trans (unhide Hk6)⟩

end Go.Proofs.Ytemjhdbmcdlpeaa

/- Walks: again, markAll. -/
namespace Go.Proofs.Ytemjhdbmcdlpeaa
set_option linter.unusedSimpArgs false
set_option linter.unusedVariables false
open Go.RowKit Go.Shelf
attribute [local go_sem] field51_0 field51_1

theorem to_lt {fs : List (List Int)} {l : List Int} {j : Nat} (h : To fs l j) : j < fs.length := by
  obtain ⟨x, _, _, h⟩ := h
  have := (List.getElem?_eq_some_iff.1 h).1
  rw [stF_len] at this
  exact this
theorem rch_lt {fs : List (List Int)} {rs : List Int} {j : Nat} (h : Rch fs rs j) : j < fs.length :=
  h (fun j => j < fs.length) (fun _ h => to_lt h) (fun _ _ _ _ _ h => to_lt h)

/-- What holds while marked objects are gone through once more. -/
def AgI (w0 : World) (N mb pb : Nat) (vw vr : Value) (hs : List Int) (fs : List (List Int)) (rs : List Int) (room n0 : Nat) (p : Nat → Bool) (k : Nat) (W : World) : Prop :=
  ClRes N mb vw vr hs fs rs room (fun j => k ≤ j) n0 p W ∧ W.heap[pb]? = some (.cells #[.pointer (some ⟨mb, 0, none⟩)] 77) ∧ Below N w0 W ∧ KeepT w0 W

theorem agEach (N mb pb cap : Nat) (a : Option Addr) (vr : Value) (hs : List Int) (fs : List (List Int)) (rs : List Int) (room n0 : Nat) (p : Nat → Bool) (w : World) (hA : Arn hs fs rs) (hr1 : 1 ≤ room) (hroom : room ≤ 64)
    (hM : ClRes N mb (.slice a (tot fs) cap) vr hs fs rs room (fun j => 0 ≤ j) n0 p w) (hp : w.heap[pb]? = some (.cells #[.pointer (some ⟨mb, 0, none⟩)] 77)) :
    Calls Try.prog 52 #[.slice a (tot fs : Nat) cap, .func (.func 65) #[] #[.pointer (some ⟨pb, 0, none⟩)]] w fun e w' => e = .returned (.tuple #[]) ∧ AgI w N mb pb (.slice a (tot fs) cap) vr hs fs rs room n0 p fs.length w' := by
  have hF := hA.fit
  refine each56_c _ a cap fs (AgI w N mb pb (.slice a (tot fs) cap) vr hs fs rs room n0 p) w hA.n256 ⟨hM, hp, Below.refl _ _, KeepT.refl _⟩ ?_
  intro k hk W hI
  obtain ⟨⟨p', lost', hMA, hI', hle⟩, hpW, hbW, hkW⟩ := hI
  have hMA' := hMA
  obtain ⟨vk, hMW⟩ := hMA
  obtain ⟨x, hx, hx1, hx2, hx3, hx4⟩ := fit_at hF hk
  have hml := mW_len hF p'
  have hpl := place_lt hk
  obtain ⟨wb, cap', hvw, hwN, hwb, hcap⟩ := hMW.words (by rw [hml]; omega)
  rw [hml] at hvw
  injection hvw with h1 _ h3
  subst h1 h3
  have hg := mW_get hF p' hx
  have hr2 := reh_ok (p' k) x
  refine ⟨wb, 0, reh (p' k) x, rfl, by rw [Nat.zero_add]; exact (hMW.wcell hml.symm hg).1, hr2.2.2.2.2.1, hr2.2.2.2.2.2, hr2.1, by rw [reh_wlen hx1]; exact hx2, fun W' hb' => ?_⟩
  have hp' : W'.heap[pb]? = some (.cells #[.pointer (some ⟨mb, 0, none⟩)] 77) := by rw [hb'.block pb (Array.getElem?_eq_some_iff.1 hpW).1]; exact hpW
  rw [hr2.2.2.1]
  refine (ag1_c hs fs rs n0 k p' N mb pb _ vr room lost' _ _ W' (hMA'.below hb') hA hr1 hroom hk hI' hp').mono ?_
  rintro e W2 ⟨⟨rfl, p2, lost2, h2, h3, h4⟩, hb2, hk2⟩
  refine ⟨rfl, ⟨⟨p2, lost2, h2, h3, fun j hj => h4 j (hle j hj)⟩, hk2 pb _ 77 hp' (by decide) (by decide) (by decide), (hbW.trans (hb'.mono (by omega))).trans hb2, (hkW.trans (KeepT.below hb')).trans hk2⟩, hk2.k51, hb2.size⟩

theorem Inv.again {fs : List (List Int)} {rs : List Int} {E : Nat → Prop} {n0 : Nat} {p : Nat → Bool} {lost : Bool} (h : Inv fs rs E n0 p [] lost) : Inv fs rs (fun j => 0 ≤ j) (unm fs.length p) p [] false :=
  ⟨h.rch, h.inb, h.km, fun _ j _ => .inl (Nat.zero_le j), Nat.le_refl _, fun e => by cases e⟩

theorem Inv.none {fs : List (List Int)} {rs : List Int} {n0 : Nat} {p : Nat → Bool} {lost : Bool} (h : Inv fs rs (fun j => fs.length ≤ j) n0 p [] lost) : Inv fs rs (fun _ => False) n0 p [] lost := by
  refine ⟨h.rch, h.inb, h.km, fun e j hj => ?_, h.le, h.ls⟩
  rcases h.cl e j hj with h1 | h1 | h1
  · have := rch_lt (h.rch j hj)
    have h2 : fs.length ≤ j := h1
    omega
  · exact .inr (.inl h1)
  · exact .inr (.inr h1)

set_option maxRecDepth 100000 in
set_option maxHeartbeats 2000000 in
theorem again_c (hs : List Int) (fs : List (List Int)) (rs : List Int) (n0 : Nat) (p : Nat → Bool) (N mb : Nat) (vw vr : Value) (room : Nat) (w : World)
    (hM : MkA w N mb vw vr hs fs rs room p [] true) (hA : Arn hs fs rs) (hr1 : 1 ≤ room) (hroom : room ≤ 64) (hI : Inv fs rs (fun _ => False) n0 p [] true) :
    Calls Try.prog 58 #[.pointer (some ⟨mb, 0, none⟩)] w fun e w' => (e = .returned (.tuple #[]) ∧ ClRes N mb vw vr hs fs rs room (fun _ => False) (unm fs.length p) p w') ∧ Below N w w' ∧ KeepT w w' := by
  have hml := mW_len hA.fit p
  obtain ⟨W1, hW1⟩ : ∃ W1, w.alloc (.cells #[.pointer (some ⟨mb, 0, none⟩)] 77) = W1 := ⟨_, rfl⟩
  have hb0 : Below w.heap.size w W1 := by rw [← hW1]; exact (Below.refl _ _).alloc (Nat.le_refl _) _
  have hs1 : w.heap.size < W1.heap.size := by rw [← hW1]; simp
  have hp1 : W1.heap[w.heap.size]? = some (.cells #[.pointer (some ⟨mb, 0, none⟩)] 77) := by rw [← hW1]; exact heap_alloc_new _ _
  have hcp := cell_of_box hp1
  obtain ⟨vk, hM1⟩ := hM.below hb0
  have hM2 := hM1.setL false
  have q4 := hM1.box.c4
  have z4 := hM1.box.fr 4
  have q0 := hM1.box.c0
  have hmN := hM1.lo
  have hlm := hM1.box.lt
  have hNw : N ≤ w.heap.size := by obtain ⟨vk, h⟩ := hM; have := h.box.lt; have := h.lo; omega
  obtain ⟨a, cap, hvw⟩ := ownsRow_slice hM1.wo
  rw [hml] at hvw
  subst hvw
  have hp2 : (W1.setCell ⟨mb, 4, none⟩ (.bool false)).heap[w.heap.size]? = some (.cells #[.pointer (some ⟨mb, 0, none⟩)] 77) := by
    refine ((KeepT.refl W1).setCell (j := 4) hM1.box.ty (.inr (.inr rfl)) (.bool false)) _ _ 77 hp1 (by decide) (by decide) (by decide)
  have Hk2 := hide ((KeepT.below hb0).setCell (j := 4) hM1.box.ty (.inr (.inr rfl)) (.bool false))
  have Hb2 := hide ((hb0.mono hNw).setCell (p := ⟨mb, 4, none⟩) hmN (.bool false))
  have Hc := hide (agEach N mb w.heap.size cap a vr hs fs rs room (unm fs.length p) p (W1.setCell ⟨mb, 4, none⟩ (.bool false)) hA hr1 hroom ⟨p, false, ⟨_, hM2⟩, hI.again, fun j h => h⟩ hp2)
  clear hM hM1 hM2 hp1 hp2 hI hA hml
  generalize tot fs = n at *
  go_enter Try.func58, Try.ntmps58
  go_wp2_with fail
  refine (unhide Hc).mono ?_
  rintro e w3 ⟨he, ⟨p', lost', h1, h2, h3⟩, _, hb3, hk3⟩
  subst he
  have Hres : Hid (ClRes N mb (.slice a n cap) vr hs fs rs room (fun _ => False) (unm fs.length p) p w3) := hide ⟨p', lost', h1, h2.none, h3⟩
  have Hk3 := hide hk3
  clear h1 h2 h3 hk3 hW1 Hc
  go_wp2
  exact bodyPost_end (v := .tuple #[]) (results_none rfl _ _ _) rfl ⟨⟨rfl, unhide Hres⟩, (unhide Hb2).trans hb3, (unhide Hk2).trans (unhide Hk3)⟩

end Go.Proofs.Ytemjhdbmcdlpeaa
