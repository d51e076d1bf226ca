/- Walks: the document's answer: pair. -/
import Derived.Test.YtmelhphhealomaaProg
import Derived.Test.YtmelhphhealomaaMem
import Derived.Test.YtmelhphhealomaaRf
import Derived.Deep.RegionWith
namespace Go.Proofs.Ytmelhphhealomaa
set_option linter.unusedSimpArgs false
set_option linter.unusedVariables false
open Go.RowKit

set_option maxRecDepth 100000 in
set_option maxHeartbeats 4000000 in
theorem pair_c (a1 a2 : Option Addr) (c1 c2 : Nat) (la lb : List V) (pf pt : Nat) (F T : List Int) (vf vt : Value) (w : World) (h1 : Vals pf w a1 la) (h2 : Vals pf w a2 lb) (hP : PS w pf pt F T vf vt) (hFT : F.length = T.length) (hln : F.length ≤ 1000) (hla : la.length ≤ 1000) :
    Calls Try.prog 29 #[.slice a1 la.length c1, .slice a2 lb.length c2, .pointer (some ⟨pf, 0, none⟩), .pointer (some ⟨pt, 0, none⟩)] w fun e w' => Below pf w w' ∧ ((e = .returned (.bool false) ∧ prun F T la lb = none) ∨
      (e = .returned (.bool true) ∧ ∃ F' T' vf' vt', prun F T la lb = some (F', T') ∧ F'.length = T'.length ∧ F'.length ≤ F.length + la.length ∧ PS w' pf pt F' T' vf' vt')) := by
  obtain ⟨i0, hi, hz0, hz1, hz2⟩ := info_parts Try.info3
  have hlt := hP.lt
  have hl1 := h1.1
  have hl2 := h2.1
  by_cases hl : la.length = lb.length
  · have d1 : ((la.length : Int) != (lb.length : Int)) = false := by simp [hl]
    have d2 : ((lb.length : Int) != (lb.length : Int)) = false := by simp
    rw [hl]
    have Hl := hide hl
    have hlb : lb.length ≤ 1000 := by omega
    have hle : la.length ≤ lb.length := by omega
    have hge : lb.length ≤ la.length := by omega
    clear hl
    have hgd := guard35
    go_enter Try.func29, Try.ntmps29
    go_wp2
    go_loopw [9] (fun i wr => ∃ (k : Nat) (F' T' : List Int) (vf' vt' : Value), k ≤ lb.length ∧ i = .int .i64 k ∧ Hid (prun F T la lb = prun F' T' (la.drop k) (lb.drop k)) ∧ Hid (F'.length = T'.length) ∧ F'.length ≤ F.length + k ∧ PS wr pf pt F' T' vf' vt' ∧ Below pf w wr) (fun i _ => lb.length - (intOf i).toNat)
    case atStart => exact ⟨0, F, T, vf, vt, Nat.zero_le _, rfl, rfl, hFT, by omega, hP, Below.refl _ _⟩
    case round =>
      clear hP
      obtain ⟨k, F', T', vf', vt', hk, rfl, Hrun, HFT, hFl, hP, hb⟩ := hrel
      have hszp := hP.sz
      by_cases hltk : k < lb.length
      · have hlt1 : k < la.length := by omega
        obtain ⟨b1, o1, r1, n1, rfl, hbB1, hx1, hx2, Hv1⟩ := (h1.below hb).at hlt1
        obtain ⟨b2, o2, r2, n2, rfl, hbB2, hy1, hy2, Hv2⟩ := (h2.below hb).at hltk
        have hltI : (k : Int) < (lb.length : Int) := by omega
        have Hst : Hid (prun F T la lb = (pstep F' T' (r1, n1) (r2, n2)).bind (fun s => prun s.1 s.2 (la.drop (k + 1)) (lb.drop (k + 1)))) := by
          show prun F T la lb = _
          rw [unhide Hrun, List.drop_eq_getElem_cons hlt1, List.drop_eq_getElem_cons hltk, Hv1.out, Hv2.out]; rfl
        clear Hrun Hv1 Hv2
        by_cases hrr : r1 = true ∧ r2 = true
        · obtain ⟨rfl, rfl⟩ := hrr
          obtain ⟨fa, fc, rfl, hIf, _⟩ := ints_of_owns hP.rf rfl (by omega)
          obtain ⟨ta, tc, rfl, hIt, _⟩ := ints_of_owns hP.rt rfl (by have := unhide HFT; omega)
          have e1 := hP.cf
          have e2 := hP.ct
          have hF3 : ∀ k, Calls Try.prog 40 #[.slice fa F'.length fc, .int .i64 n1] (wr.drewN k) fun e w' => e = .returned (.bool (decide (n1 ∈ F'))) ∧ w' = wr.drewN k := fun k => has_c fa fc F' n1 _ (wr.drewN k) hIf
          have hT3 : ∀ k, Calls Try.prog 40 #[.slice ta T'.length tc, .int .i64 n2] (wr.drewN k) fun e w' => e = .returned (.bool (decide (n2 ∈ T'))) ∧ w' = wr.drewN k := fun k => has_c ta tc T' n2 _ (wr.drewN k) hIt
          have Hst : Hid (prun F T la lb = ((if n1 ∈ F' then (if n2 ∈ T' then (if T'[F'.idxOf n1]? = some n2 then some (F', T') else none) else none) else (if n2 ∈ T' then none else some (F' ++ [n1], T' ++ [n2])))).bind (fun s => prun s.1 s.2 (la.drop (k + 1)) (lb.drop (k + 1)))) := by
            show prun F T la lb = _
            rw [unhide Hst, pstep, if_pos ⟨rfl, rfl⟩]
          by_cases m1 : n1 ∈ F' <;> by_cases m2 : n2 ∈ T'
          · have hlk : F'.idxOf n1 < T'.length := by have := List.idxOf_lt_length_iff.2 m1; have := unhide HFT; omega
            have HG := hide (List.getElem?_eq_getElem hlk)
            obtain ⟨bt, ot, rfl, hbt, hct⟩ := hIt.at hlk
            have hP3 : ∀ j k, Calls Try.prog 41 #[.slice fa F'.length fc, .int .i64 n1] ((wr.drewN j).drewN k) fun e w' => e = .returned (.int .i64 (F'.idxOf n1 : Int)) ∧ w' = (wr.drewN j).drewN k := fun j k => (place_c fa fc F' n1 _ ((wr.drewN j).drewN k) hIf).mono (by rintro e w' ⟨rfl, rfl⟩; rw [placeOf, if_pos m1]; exact ⟨rfl, rfl⟩)
            have hlkI : ((F'.idxOf n1 : Nat) : Int) < (T'.length : Int) := by omega
            simp only [m1, m2, decide_true] at hF3 hT3
            have Hst : Hid (prun F T la lb = (if T'[F'.idxOf n1]? = some n2 then some (F', T') else none).bind (fun s => prun s.1 s.2 (la.drop (k + 1)) (lb.drop (k + 1)))) := by
              show prun F T la lb = _
              rw [unhide Hst, if_pos m1, if_pos m2]
            clear m1 m2
            generalize F'.idxOf n1 = q at *
            generalize T'[q] = y at *
            by_cases hy : y = n2
            · have dy : (y != n2) = false := by simp [hy]
              have Hst : Hid (prun F T la lb = prun F' T' (la.drop (k + 1)) (lb.drop (k + 1))) := by
                show prun F T la lb = _
                rw [unhide Hst, unhide HG, hy, if_pos rfl]; rfl
              clear hy
              go_wp2
              go_quiet ((first | (go_at_call_of 40 fc; exact Calls.quiet_of_same (hF3 _)) | (go_at_call_of 40 tc; exact Calls.quiet_of_same (hT3 _))))
              have hP := hP.drewN nq
              have hb := below_drewN hb nq
              have hF4 := hF3 nq
              have hP4 := hP3 nq
              have hct4 : (wr.drewN nq).cell? _ = _ := hct
              clear hF3 hT3 hP3 hIf hIt hct e1 e2
              generalize wr.drewN nq = wq at *
              have e3 := hP.cf
              have e4 := hP.ct
              go_wp2_with (go_at_call 40; go_must (refine hF4.mono ?_); rintro e w3 ⟨rfl, hw3⟩; have hw3 := hw3.symm; subst hw3)
              go_quiet ((go_at_call 41; exact Calls.quiet_of_same (hP4 _)))
              go_wp2
              go_roundw
              case rel => exact ⟨k + 1, F', T', _, _, by omega, by go_num, Hst, HFT, by omega, hP.drewN _, below_drewN hb _⟩
              case measure => simp [intOf]; omega
            · have dy : (y != n2) = true := by simpa using hy
              have Hst : Hid (prun F T la lb = none) := by
                show prun F T la lb = _
                rw [unhide Hst, unhide HG, if_neg (by simpa using hy)]; rfl
              clear hy
              go_wp2
              go_quiet ((first | (go_at_call_of 40 fc; exact Calls.quiet_of_same (hF3 _)) | (go_at_call_of 40 tc; exact Calls.quiet_of_same (hT3 _))))
              have hP := hP.drewN nq
              have hb := below_drewN hb nq
              have hF4 := hF3 nq
              have hP4 := hP3 nq
              have hct4 : (wr.drewN nq).cell? _ = _ := hct
              clear hF3 hT3 hP3 hIf hIt hct e1 e2
              generalize wr.drewN nq = wq at *
              have e3 := hP.cf
              have e4 := hP.ct
              go_wp2_with (go_at_call 40; go_must (refine hF4.mono ?_); rintro e w3 ⟨rfl, hw3⟩; have hw3 := hw3.symm; subst hw3)
              go_quiet ((go_at_call 41; exact Calls.quiet_of_same (hP4 _)))
              go_wp2
              go_ret
              exact ⟨below_drewN hb _, .inl ⟨rfl, unhide Hst⟩⟩
          · simp only [m1, m2, decide_true, decide_false] at hF3 hT3
            have Hst : Hid (prun F T la lb = none) := by
              show prun F T la lb = _
              rw [unhide Hst, if_pos m1, if_neg m2]; rfl
            clear m1 m2
            go_wp2
            go_quiet ((first | (go_at_call_of 40 fc; exact Calls.quiet_of_same (hF3 _)) | (go_at_call_of 40 tc; exact Calls.quiet_of_same (hT3 _))))
            go_wp2
            go_ret
            exact ⟨below_drewN hb _, .inl ⟨rfl, unhide Hst⟩⟩
          · simp only [m1, m2, decide_true, decide_false] at hF3 hT3
            have Hst : Hid (prun F T la lb = none) := by
              show prun F T la lb = _
              rw [unhide Hst, if_neg m1, if_pos m2]; rfl
            clear m1 m2
            go_wp2
            go_quiet ((first | (go_at_call_of 40 fc; exact Calls.quiet_of_same (hF3 _)) | (go_at_call_of 40 tc; exact Calls.quiet_of_same (hT3 _))))
            go_wp2
            go_ret
            exact ⟨below_drewN hb _, .inl ⟨rfl, unhide Hst⟩⟩
          · simp only [m1, m2, decide_false] at hF3 hT3
            have Hst : Hid (prun F T la lb = prun (F' ++ [n1]) (T' ++ [n2]) (la.drop (k + 1)) (lb.drop (k + 1))) := by
              show prun F T la lb = _
              rw [unhide Hst, if_neg m1, if_neg m2]; rfl
            have Hm1 := hide m1
            clear m1 m2
            have hfl : T'.length ≤ F'.length := by have := unhide HFT; omega
            go_wp2
            go_quiet ((first | (go_at_call_of 40 fc; exact Calls.quiet_of_same (hF3 _)) | (go_at_call_of 40 tc; exact Calls.quiet_of_same (hT3 _))))
            have hP := hP.drewN nq
            have hb := below_drewN hb nq
            have hF4 := hF3 nq
            clear hF3 hT3
            generalize wr.drewN nq = wq at *
            have hqq := hP.sz
            have hqq' := hP.lt
            have e3 := hP.cf
            have e4 := hP.ct
            have e5 := hP.ff
            have e6 := hP.ft
            go_wp2_with (first
              | (go_at_call 40; go_must (refine hF4.mono ?_); rintro e w3 ⟨rfl, hw3⟩; have hw3 := hw3.symm; subst hw3)
              | (at_builtin; refine wpList_append_own_at _ rfl _ _ 31 rfl (pt + 1) 3 i0 _ 1 8 Try.underlying31 hi hz0 hz1 hz2 rfl (by decide) _ _ _ rfl ht3 _ 1 1 [.int .i64 n2] rfl rfl (cell_one_at _ _ _ _ (by simp)) (by simp [Value.oneCell']) (by simp only [maxLen]; omega) (by omega) (by simp; omega) ?_; go_must (intro v2 w3 ht4 hg3 _ hat3; obtain ⟨g2, cap2, hv2⟩ := ownsRow_succ ht4; subst hv2; have hb3 : Below (pt + 1) (w2.setCell ⟨pf, 0, none⟩ (.slice (some ⟨g1, 0, none⟩) (F'.length + 1) cap1)) w3 := ((Below.refl (pt + 1) _).alloc (by simp [World.setCell]; omega) (.cells #[.int .i64 n2] 3)).grown hg3 (by simp [World.setCell]; omega) (fun k e => (hP.rt.lt k e).1); have d3 := (hb3.cell (p := ⟨pt, 0, none⟩) (by simp)).trans d2; have d4 := (hb3.frozen (p := ⟨pt, 0, none⟩) (by simp)).trans ((World.frozen?_setCell _ _ _ _).trans c4)))
              | (at_builtin; go_must (refine wpList_append_own_at _ rfl _ _ 31 rfl (pt + 1) 3 i0 _ 1 8 Try.underlying31 hi hz0 hz1 hz2 rfl (by decide) _ _ _ rfl (hP.rf.alloc _) ⟨wq.heap.size, 0, none⟩ 1 1 [.int .i64 n1] rfl rfl (cell_one_at _ _ _ _ (by simp)) (by simp [Value.oneCell']) (by simp only [maxLen]; omega) (by omega) (by simp; omega) ?_); go_must (intro v1 w2 hf2 hg2 _ hat2; obtain ⟨g1, cap1, hv1⟩ := ownsRow_succ hf2; subst hv1; have hb2 : Below (pt + 1) wq w2 := ((Below.refl (pt + 1) wq).alloc (by omega) (.cells #[.int .i64 n1] 3)).grown hg2 (by simp; omega) (fun k e => (hP.rf.lt k e).1); have c1 := (hb2.cell (p := ⟨pf, 0, none⟩) (by simp; omega)).trans e3; have c2 := (hb2.cell (p := ⟨pt, 0, none⟩) (by simp)).trans e4; have c3 := (hb2.frozen (p := ⟨pf, 0, none⟩) (by simp; omega)).trans e5; have c4 := (hb2.frozen (p := ⟨pt, 0, none⟩) (by simp)).trans e6; have ht3 := (ownsRow_setCell_below ((hP.rt.alloc (.cells #[.int .i64 n1] 3)).kept hg2 (apart_inr hP.ap)) (a := ⟨pf, 0, none⟩) (by simp; omega) (.slice (some ⟨g1, 0, none⟩) (F'.length + 1) cap1)).alloc (.cells #[.int .i64 n2] 3); have hsw2 := hb2.size; have d2 : (w2.setCell ⟨pf, 0, none⟩ (.slice (some ⟨g1, 0, none⟩) (F'.length + 1) cap1)).cell? ⟨pt, 0, none⟩ = some (.slice ta T'.length tc) := (World.cell?_setCell_other _ _ _ _ (fun e => by injection e; omega)).trans c2)))
            obtain ⟨r1, r2⟩ := pair_step hP hf2 hg2 hat2 ht4 hg3 hat3
            have hlF : (F' ++ [n1]).length = F'.length + 1 := by simp
            have hlT : (T' ++ [n2]).length = T'.length + 1 := by simp
            obtain ⟨fa5, fc5, hv5, hIf5, _⟩ := ints_of_owns r1.rf rfl (by omega)
            obtain ⟨ta5, tc5, hv6, hIt5, _⟩ := ints_of_owns r1.rt rfl (by omega)
            have hlk : F'.length < (T' ++ [n2]).length := by have := unhide HFT; simp; omega
            have hget : (T' ++ [n2])[F'.length] = n2 := by have := unhide HFT; simp [this]
            have hgl : (F' ++ [n1]).idxOf n1 = F'.length := idxOf_first (k := F'.length) (by simp) (by simp) (by rw [List.take_left' rfl]; exact unhide Hm1)
            have hpl : placeOf (F' ++ [n1]) n1 = F'.length := by rw [placeOf, if_pos (by simp), hgl]
            obtain ⟨bt5, ot5, hta5, hbt5, hct5⟩ := hIt5.at hlk
            rw [hget] at hct5
            subst hta5
            injection hv5 with hv7 hv8 hv9
            injection hv6 with hv10 hv11 hv12
            injection hv10 with hv10
            injection hv10 with hv13 hv14
            subst hv7 hv9 hv12 hv13 hv14
            simp only [Nat.zero_add] at hct5
            have Hst := hide Hst
            have hlkI : (F'.length : Int) < ((T'.length + 1 : Nat) : Int) := by have := unhide HFT; omega
            have Hend : Hid (F'.length + 1 ≤ F.length + (k + 1)) := by show _ ≤ _; omega
            have HF5 : Hid ((F' ++ [n1]).length = (T' ++ [n2]).length) := by have := unhide HFT; show (F' ++ [n1]).length = _; simp; omega
            have hbX := hb.trans r2
            have hP5 : ∀ k, Calls Try.prog 41 #[.slice (some ⟨g1, 0, none⟩) (F'.length + 1) cap1, .int .i64 n1] (World.drewN (w3.setCell ⟨pt, 0, none⟩ (.slice (some ⟨g2, 0, none⟩) (T'.length + 1) cap2)) k) fun e w' => e = .returned (.int .i64 (F'.length : Int)) ∧ w' = World.drewN (w3.setCell ⟨pt, 0, none⟩ (.slice (some ⟨g2, 0, none⟩) (T'.length + 1) cap2)) k := fun k => by
              have := place_c (some ⟨g1, 0, none⟩) cap1 (F' ++ [n1]) n1 _ (World.drewN (w3.setCell ⟨pt, 0, none⟩ (.slice (some ⟨g2, 0, none⟩) (T'.length + 1) cap2)) k) hIf5
              rw [hpl, hlF] at this
              exact this
            have e7 := r1.cf
            have e8 := r1.ct
            clear hv8 hv11 hlk hIf5 hIt5 hget hgl hpl hlF hlT hf2 hg2 hat2 ht4 hg3 hat3 hb2 hb3 c1 c2 c3 c4 d2 d3 d4 ht3 e3 e4 e5 e6 hF4 hP r2 hb
            generalize w3.setCell ⟨pt, 0, none⟩ (.slice (some ⟨g2, 0, none⟩) (T'.length + 1) cap2) = wX at *
            go_quiet ((go_at_call 41; exact Calls.quiet_of_same (hP5 _)))
            go_wp2
            go_roundw
            case rel => exact ⟨k + 1, F' ++ [n1], T' ++ [n2], _, _, by omega, by go_num, unhide Hst, HF5, by have := unhide Hend; simp; omega, r1.drewN _, below_drewN hbX _⟩
            case measure => simp [intOf]; omega
        · have hE' : ∀ b, (r1 == r2 && n1 == n2) = b → ∀ w, (Op.equalIn 10000 35 (.agg #[.bool r1, .int .i64 n1]) (.agg #[.bool r2, .int .i64 n2])).run Try.prog w = .ok b w := fun b hb w => by rw [eql_in, hb]
          cases hE : (r1 == r2 && n1 == n2)
          · have he := hE' _ hE
            have Hno : Hid (prun F T la lb = none) := by
              show prun F T la lb = none
              rw [unhide Hst, pstep, if_neg hrr, if_neg (by intro e; injection e with e3 e4; subst e3 e4; simp at hE)]; rfl
            clear hE' hE
            cases r1
            · go_wp2
              go_still Try.mixed
              go_wp2
              go_ret
              exact ⟨hb.trans (Below.refl _ _).drew, .inl ⟨rfl, unhide Hno⟩⟩
            · cases r2
              · go_wp2
                go_still Try.mixed
                go_wp2
                go_ret
                exact ⟨hb.trans (Below.refl _ _).drew, .inl ⟨rfl, unhide Hno⟩⟩
              · exact absurd ⟨rfl, rfl⟩ hrr
          · have he := hE' _ hE
            have Hyes : Hid (prun F T la lb = prun F' T' (la.drop (k + 1)) (lb.drop (k + 1))) := by
              show prun F T la lb = _
              simp at hE
              obtain ⟨e3, e4⟩ := hE
              subst e3 e4
              rw [unhide Hst, pstep, if_neg hrr, if_pos rfl]; rfl
            have HEq : Hid (r1 = r2) := by simp at hE; exact hE.1
            clear hE' hE
            cases r1
            · cases r2
              · go_wp2
                go_still Try.mixed
                go_wp2
                go_roundw
                case rel => exact ⟨k + 1, F', T', vf', vt', by omega, by go_num, Hyes, HFT, by omega, hP.drew, hb.trans (Below.refl _ _).drew⟩
                case measure => simp [intOf]; omega
              · exact absurd (unhide HEq) (by simp)
            · cases r2
              · exact absurd (unhide HEq) (by simp)
              · exact absurd ⟨rfl, rfl⟩ hrr
      · obtain rfl : k = lb.length := by omega
        have Hfin : Hid (prun F T la lb = some (F', T')) := by
          show prun F T la lb = _
          rw [unhide Hrun, List.drop_length, List.drop_of_length_le hle]; rfl
        go_wp2
        go_ret
        exact ⟨hb, .inr ⟨rfl, F', T', vf', vt', unhide Hfin, unhide HFT, by omega, hP⟩⟩
  · have d1 : ((la.length : Int) != (lb.length : Int)) = true := by simp; omega
    go_enter Try.func29, Try.ntmps29
    go_wp2
    go_ret
    exact ⟨Below.refl _ _, .inl ⟨rfl, prun_len hl⟩⟩

end Go.Proofs.Ytmelhphhealomaa
