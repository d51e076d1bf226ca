/- Walks: the document's ArenaCheck. -/
import Derived.Test.YtahdalejmfbkeaaAc
namespace Go.Proofs.Ytahdalejmfbkeaa
set_option linter.unusedSimpArgs false
set_option linter.unusedVariables false
open Go.RowKit

/-- Each object, where it stands. -/
theorem split_at : ∀ (n : Nat) (ws : List Int) (fs : List (List Int)), ws.length ≤ n → splitR ws = some fs → ∀ (k : Nat) (f : List Int), fs[k]? = some f →
    ∃ x, ws[tot (fs.take k)]? = some x ∧ unheadOk x = true ∧ tot (fs.take k) + 1 + wlen x ≤ ws.length ∧ (ws.drop (tot (fs.take k) + 1)).take (wlen x) = f
  | n, [], fs, _, h, k, f, hf => by
    rw [splitR_nil] at h
    injection h with h
    subst h
    simp at hf
  | 0, x :: r, fs, hn, h, k, f, hf => by simp at hn
  | n + 1, x :: r, fs, hn, h, k, f, hf => by
    rw [splitR_cons] at h
    split at h
    · rename_i hc
      cases hs : splitR (r.drop (wlen x)) with
      | none => rw [hs] at h; simp at h
      | some gs =>
        rw [hs] at h
        simp only [Option.map_some, Option.some.injEq] at h
        subst h
        cases k with
        | zero =>
          simp at hf
          refine ⟨x, by simp [tot], hc.1, by simp [tot]; omega, by simpa [tot] using hf⟩
        | succ k =>
          obtain ⟨y, h1, h2, h3, h4⟩ := split_at n _ gs (by simp at hn ⊢; omega) hs k f (by simpa using hf)
          have e : tot ((r.take (wlen x) :: gs).take (k + 1)) = wlen x + tot (gs.take k) + 1 := by
            rw [List.take_succ_cons, tot_cons, List.length_take]; omega
          rw [List.getElem?_drop] at h1
          rw [List.drop_drop] at h4
          rw [List.length_drop] at h3
          refine ⟨y, by rw [e, List.getElem?_cons_succ]; exact h1, h2, by rw [e]; simp; omega, ?_⟩
          rw [e, List.drop_succ_cons]
          rw [show wlen x + tot (gs.take k) + 1 = wlen x + (tot (gs.take k) + 1) from by omega]
          exact h4
    · cases h

theorem split_obj {ws : List Int} {fs : List (List Int)} (h : splitR ws = some fs) {k : Nat} (hk : k < fs.length) :
    ∃ hp : tot (fs.take k) < ws.length, unheadOk ws[tot (fs.take k)] = true ∧ tot (fs.take k) + 1 + wlen ws[tot (fs.take k)] ≤ ws.length ∧ fieldsAt ws (tot (fs.take k)) = fs[k] := by
  obtain ⟨x, h1, h2, h3, h4⟩ := split_at ws.length ws fs (Nat.le_refl _) h k fs[k] (List.getElem?_eq_getElem hk)
  obtain ⟨hp, e⟩ := List.getElem?_eq_some_iff.1 h1
  subst e
  refine ⟨hp, h2, h3, ?_⟩
  unfold fieldsAt
  rw [List.getD_eq_getElem?_getD, h1, Option.getD_some]
  exact h4

theorem u64_fields {ws : List Int} {fs : List (List Int)} (h : splitR ws = some fs) (hW : U64 ws) : ∀ f ∈ fs, U64 f := by
  intro f hf
  obtain ⟨k, hk, e⟩ := List.getElem_of_mem hf
  obtain ⟨hp, _, _, e2⟩ := split_obj h hk
  rw [← e, ← e2]
  exact (hW.drop _).take _

theorem u64_all {ws rs : List Int} {fs : List (List Int)} (h : splitR ws = some fs) (hW : U64 ws) (hR : U64 rs) : U64 (rs ++ fs.flatten) := by
  intro x hx
  rcases List.mem_append.1 hx with hx | hx
  · exact hR x hx
  · obtain ⟨f, hf, hx⟩ := List.mem_flatten.1 hx
    exact u64_fields h hW f hf x hx

theorem unErr_two {x : Int} (h : unErr x ≠ 0) : unErr x = 2 := by
  unfold unErr at *
  split at h
  · split at h
    · exact absurd rfl h
    · simp_all
  · exact absurd rfl h

theorem arenaE_large {ws rs : List Int} (h : 256 < ws.length ∨ 8 < rs.length) : arenaE ws rs = 1 := by unfold arenaE; rw [if_pos h]
theorem arenaE_form {ws rs : List Int} (h1 : ws.length ≤ 256) (h2 : rs.length ≤ 8) (h : splitR ws = none) : arenaE ws rs = 4 := by unfold arenaE; rw [if_neg (by omega), h]
theorem arenaE_bad {ws rs : List Int} {fs : List (List Int)} (h1 : ws.length ≤ 256) (h2 : rs.length ≤ 8) (h : splitR ws = some fs) (ha : (rs ++ fs.flatten).all (okW (stF 0 fs)) = false) : arenaE ws rs = 2 := by unfold arenaE; rw [if_neg (by omega), h]; simp only [ha]; rfl
theorem arenaE_ok {ws rs : List Int} {fs : List (List Int)} (h1 : ws.length ≤ 256) (h2 : rs.length ≤ 8) (h : splitR ws = some fs) (ha : (rs ++ fs.flatten).all (okW (stF 0 fs)) = true) : arenaE ws rs = 0 := by unfold arenaE; rw [if_neg (by omega), h]; simp only [ha]; rfl

theorem all_take {l : List Int} {p : Int → Bool} {k : Nat} (hk : k < l.length) (h : (l.take k).all p = true) (hp : p l[k] = true) : (l.take (k + 1)).all p = true := by
  rw [List.take_succ_eq_append_getElem hk, List.all_append, h]; simp [hp]
theorem all_not {l : List Int} {p : Int → Bool} {k : Nat} (hk : k < l.length) (hp : p l[k] = false) : l.all p = false := by
  rw [List.all_eq_false]; exact ⟨l[k], List.getElem_mem hk, by simp [hp]⟩

theorem wflat_snoc {L : List (List Int)} {k : Nat} (hk : k < L.length) : (L.take (k + 1)).flatten = (L.take k).flatten ++ L[k] := by
  rw [List.take_succ_eq_append_getElem hk, List.flatten_append]; simp only [List.flatten_cons, List.flatten_nil, List.append_nil]

theorem flat_take_le {α : Type} (fs : List (List α)) (k : Nat) : (fs.take k).flatten.length ≤ tot fs := by
  have h1 := tot_flat (fs.take k)
  have h2 := tot_take_le fs k
  omega

theorem w_take_snoc {l : List Int} {j : Nat} (h : j < l.length) (pre : List Int) : wordsV (pre ++ l.take (j + 1)) = wordsV (pre ++ l.take j) ++ [.int .u64 l[j]] := by
  rw [List.take_succ_eq_append_getElem h, ← List.append_assoc, wordsV_snoc]

set_option maxRecDepth 100000 in
set_option maxHeartbeats 2000000 in
theorem rcheck_some (aw ar : Option Addr) (cw cr : Nat) (ws rs : List Int) (fs : List (List Int)) (B : Nat) (w : World) (hW : Wds B w aw ws) (hR : Wds B w ar rs) (hUW : U64 ws) (hUR : U64 rs) (hB : B ≤ w.heap.size)
    (h256 : ws.length ≤ 256) (h8 : rs.length ≤ 8) (hs : splitR ws = some fs) :
    Calls Try.prog 11 #[.agg #[.slice aw ws.length cw, .slice ar rs.length cr]] w fun e w' => e = .returned (.int .i64 (arenaE ws rs)) ∧ Below w.heap.size w w' := by
  obtain ⟨i0, hi, hz0, hz1, hz2⟩ := info_parts Try.info54
  have Hs := hide hs
  have htot := (splitR_st hs).1
  have hfl := tot_len fs
  clear hs
  have hb1 := (Below.refl w.heap.size w).alloc (Nat.le_refl _) (.cells #[.slice aw ws.length cw, .slice ar rs.length cr] 24)
  go_enter Try.func11, Try.ntmps11
  go_wp2_with fail
  refine (rstarts_c _ _ ws B _ (hW.below (hb1.mono hB)) hUW (by simp; omega) h256).mono ?_
  rintro e w2 ⟨hres, hb2⟩
  obtain ⟨fs', a', cap', he', hres⟩ := hres.resolve_left (fun h => by rw [unhide Hs] at h; cases h.1)
  rw [unhide Hs] at he'
  injection he' with he'
  subst he'
  obtain ⟨he, hI⟩ := hres
  subst he
  have hs2 := hb2.size
  simp only [World.size_alloc] at hs2 hb2
  have c0 : w2.cell? ⟨w.heap.size, 0, none⟩ = some (.slice aw ws.length cw) := by rw [hb2.cell (p := ⟨w.heap.size, 0, none⟩) (by simp)]; simp [go_sem]
  have c1 : w2.cell? ⟨w.heap.size, 1, none⟩ = some (.slice ar rs.length cr) := by rw [hb2.cell (p := ⟨w.heap.size, 1, none⟩) (by simp)]; simp [go_sem]
  have hbw : Below w.heap.size w w2 := hb1.trans (hb2.mono (by omega))
  have Hst := hide (stF_len fs 0)
  have Hsg := hide (fun k hk => stF_get fs 0 k hk)
  have HI := hide hI
  clear hb1 hb2 hI
  go_wp2
  go_loopw [5, 37] (fun s i wr => ∃ k : Nat, k ≤ rs.length ∧ i = .int .i64 k ∧ wr.ownsRow w2.heap.size 54 1 s k (wordsV ([] ++ rs.take k)) ∧ Below w2.heap.size w2 wr) (fun _ i _ => rs.length - (intOf i).toNat)
  case atStart => exact ⟨0, Nat.zero_le _, rfl, by simpa [wordsV] using World.ownsRow_nil _ _ _ _, Below.refl _ _⟩
  case round =>
    obtain ⟨k, hk, rfl, hown, hb⟩ := hrel
    have hsz := hb.size
    by_cases hlt : k < rs.length
    · obtain ⟨b, off, rfl, hbB, hc⟩ := (hR.below ((hbw.mono hB).trans (hb.mono (by omega)))).at hlt
      have HT := hide (w_take_snoc hlt [])
      generalize rs[k] = x at *
      go_wp2_with (at_builtin; go_must (refine wpList_append_own _ rfl _ _ 22 rfl w2.heap.size 54 i0 _ 1 8 Try.underlying22 hi hz0 hz1 hz2 rfl (by decide) _ _ _ rfl (hown.alloc _) ⟨wr.heap.size, 0, none⟩ 1 1 [.int .u64 x] rfl rfl (cell_one_at _ _ _ _ (by simp)) (by simp [Value.oneCell']) (by simp only [maxLen]; omega) (by omega) (by simp; omega) ?_); intro v' w1 hown' hgrow _)
      go_roundw
      case rel => exact ⟨k + 1, by omega, by go_num, by rw [unhide HT]; exact hown', (hb.alloc hsz _).grown hgrow (by simp; omega) (fun q e => (hown.lt q e).1)⟩
      case measure => simp [intOf]; omega
    · obtain rfl : k = rs.length := by omega
      go_wp2
      go_loopw [5, 48] (fun s i wr => ∃ k : Nat, k ≤ fs.length ∧ i = .int .i64 k ∧ wr.ownsRow w2.heap.size 54 1 s (rs ++ (fs.take k).flatten).length (wordsV (rs ++ (fs.take k).flatten)) ∧ Below w2.heap.size w2 wr) (fun _ i _ => fs.length - (intOf i).toNat)
      case atStart => exact ⟨0, Nat.zero_le _, rfl, by simpa using hown, hb⟩
      case round =>
        clear hown hb hsz
        obtain ⟨k, hk, rfl, hown, hb⟩ := hrel
        have hsz := hb.size
        have hbx : wr.cell? ⟨w.heap.size, 0, none⟩ = some (.slice aw ws.length cw) := by rw [hb.cell (p := ⟨w.heap.size, 0, none⟩) (by simp; omega)]; exact c0
        have hnp := flat_take_le fs k
        by_cases hlt : k < fs.length
        · obtain ⟨hp, hk1, hk2, hf0⟩ := split_obj (unhide Hs) hlt
          have Hf := hide hf0
          clear hf0
          have hltS : k < (stF 0 fs).length := by rw [unhide Hst]; exact hlt
          obtain ⟨b, off, rfl, hbB, hc⟩ := ((unhide HI).below hb).at hltS
          have Hsk := hide (show (stF 0 fs)[k] = ((tot (fs.take k) : Nat) : Int) from by have := unhide Hsg k hlt; rw [List.getElem?_eq_getElem hltS, Option.some.injEq, Nat.zero_add] at this; exact this)
          rw [unhide Hsk] at hc
          have HF := hide (wflat_snoc hlt)
          have hlP : (rs ++ (fs.take k).flatten).length ≤ 264 := by rw [List.length_append]; omega
          have hkI : (k : Int) < ((stF 0 fs).length : Int) := by omega
          generalize hpre : rs ++ (fs.take k).flatten = pre at *
          have Hpre := hide hpre
          clear hpre
          have Hcall := hide (rfields_c aw cw ws B wr (hW.below ((hbw.mono hB).trans (hb.mono (by omega)))) hUW (by omega) h256 _ hp hk1 hk2)
          have h4 : (fieldsAt ws (tot (fs.take k))).length ≤ 4 := by rw [fieldsAt_len hp hk2]; exact wlen_le hk1
          rw [← unhide Hf] at HF
          clear hk1 hk2 hp Hsk hltS Hf
          generalize fieldsAt ws (tot (fs.take k)) = f at *
          generalize tot (fs.take k) = p at *
          go_wp2_with fail
          refine (unhide Hcall).mono ?_
          rintro e w4 ⟨a4, cap4, he, hW4, hb4, Hr4⟩
          subst he
          have hs4 := hb4.size
          have hown4 := ownsRow_below hown hb4
          have HN4 : Hid (∀ q, (∀ x, q = some x → x < wr.heap.size) → WdsN q w4 a4 f) := fun q hq => ⟨hW4, fun _ b off ha e => by have := unhide Hr4 b off ha; have := hq b e; omega⟩
          have HN5 := hide (unhide HN4 _ (fun x hx => (hown.lt x hx).2))
          clear Hcall hown HN4 Hr4 hW4
          go_wp2
          go_loopw [5, 57] (fun s i wi => ∃ j : Nat, j ≤ f.length ∧ i = .int .i64 j ∧ wi.ownsRow w2.heap.size 54 1 s (pre.length + j) (wordsV (pre ++ f.take j)) ∧ Below w2.heap.size w2 wi ∧ Hid (WdsN s.ownBlock wi a4 f)) (fun _ i _ => f.length - (intOf i).toNat)
          case atStart => exact ⟨0, Nat.zero_le _, rfl, by simpa using hown4, hb.trans (hb4.mono hsz), HN5⟩
          case round =>
            clear hown4 hb hsz hb4 HN5 hbx hs4 hc
            obtain ⟨j, hj, rfl, hown, hb, HN⟩ := hrel
            have hsz := hb.size
            by_cases hlt2 : j < f.length
            · obtain ⟨b2, off2, rfl, hbB2, hc2⟩ := (unhide HN).1.at hlt2
              have HT := hide (w_take_snoc hlt2 pre)
              have HN2 := hide ((unhide HN).below ((Below.refl _ _).alloc (Nat.le_refl _) (.cells #[.int .u64 f[j]] 54)))
              generalize f[j] = y at *
              go_wp2_with (at_builtin; go_must (refine wpList_append_own_at _ rfl _ _ 22 rfl w2.heap.size 54 i0 _ 1 8 Try.underlying22 hi hz0 hz1 hz2 rfl (by decide) _ _ _ rfl (hown.alloc _) ⟨wr.heap.size, 0, none⟩ 1 1 [.int .u64 y] rfl rfl (cell_one_at _ _ _ _ (by simp)) (by simp [Value.oneCell']) (by simp only [maxLen]; omega) (by omega) (by simp; omega) ?_); go_must (intro v' w1 hown' hgrow _ hat))
              go_roundw
              case rel => exact ⟨j + 1, by omega, by go_num, by rw [unhide HT]; exact hown', (hb.alloc hsz _).grown hgrow (by simp; omega) (fun q e => (hown.lt q e).1), hide ((unhide HN2).append hgrow hat)⟩
              case measure => simp [intOf]; omega
            · obtain rfl : j = f.length := by omega
              go_wp2
              go_roundw
              case rel => exact ⟨k + 1, by omega, by go_num, by rw [unhide HF, ← List.append_assoc, unhide Hpre, List.length_append]; simpa using hown, hb⟩
              case measure => simp [intOf]; omega
        · obtain rfl : k = fs.length := by omega
          rw [List.take_length] at hown hnp
          have hbS := (unhide HI).below hb
          have hnl : (rs ++ fs.flatten).length ≤ 264 := by rw [List.length_append]; omega
          have HUl : Hid (U64 (rs ++ fs.flatten)) := u64_all (unhide Hs) hUW hUR
          have Hbad := hide (fun ha => arenaE_bad h256 h8 (unhide Hs) ha)
          have Hok := hide (fun ha => arenaE_ok h256 h8 (unhide Hs) ha)
          obtain ⟨al, cl, hv, hWl, Hr9⟩ := words_of_owns hown rfl (by omega)
          clear Hr9 hown hnp Hs Hsg
          have hkI : ¬ ((fs.length : Int) < ((stF 0 fs).length : Int)) := by rw [unhide Hst]; omega
          subst hv
          generalize rs ++ fs.flatten = l at *
          generalize stF 0 fs = st at *
          go_wp2
          go_loopw [69] (fun i wi => ∃ k : Nat, k ≤ l.length ∧ i = .int .i64 k ∧ Hid ((l.take k).all (okW st) = true) ∧ Below wr.heap.size wr wi) (fun i _ => l.length - (intOf i).toNat)
          case atStart => exact ⟨0, Nat.zero_le _, rfl, by show (l.take 0).all (okW st) = true; simp, Below.refl _ _⟩
          case round =>
            obtain ⟨k, hk, rfl, Ha, hbi⟩ := hrel
            by_cases hlt : k < l.length
            · obtain ⟨b, off, rfl, hbB, hc⟩ := (hWl.below hbi).at hlt
              have hu := unhide HUl _ (List.getElem_mem hlt)
              have HA := hide (fun hp => all_take (p := okW st) hlt (unhide Ha) hp)
              have HB := hide (fun hp => all_not (p := okW st) hlt hp)
              generalize l[k] = x at *
              by_cases hE : unErr x = 0
              · have HE := hide hE
                cases hr : unRef x
                · have Hr := hide hr
                  have Hnx := hide (unhide HA (by simp [okW, hE, hr]))
                  clear hE hr
                  go_wp2_with (go_at_call 28; go_must (refine (runpack_c x _ hu.1 hu.2).mono ?_); go_must (rintro e w3 ⟨he, hb3⟩; rw [unhide Hr, unhide HE] at he; subst he))
                  go_roundw
                  case rel => exact ⟨k + 1, by omega, by go_num, Hnx, (hbi.trans (hb3.mono hbi.size)).alloc (by have := hb3.size; have := hbi.size; omega) _⟩
                  case measure => simp [intOf]; omega
                · have Hr := hide hr
                  by_cases hm : unNum x ∈ st
                  · have Hnx := hide (unhide HA (by simp [okW, hE, hr, hm]))
                    have Hm := hide hm
                    clear hE hr hm
                    go_wp2_with (first
                      | (go_at_call 28; go_must (refine (runpack_c x _ hu.1 hu.2).mono ?_); go_must (rintro e w3 ⟨he, hb3⟩; rw [unhide Hr, unhide HE] at he; subst he; have hS3 := (hbS.mono hsz).below (hbi.trans (hb3.mono hbi.size))))
                      | (go_at_call 25; go_must (refine (has_c _ _ st (unNum x) _ _ (hS3.below ((Below.refl _ _).alloc (by have := hb3.size; have := hbi.size; omega) _))).mono ?_); go_must (rintro e w4 ⟨he, hw4⟩; rw [decide_eq_true (unhide Hm)] at he; subst he; have hw4 := hw4.symm; subst hw4)))
                    go_roundw
                    case rel => exact ⟨k + 1, by omega, by go_num, Hnx, (hbi.trans (hb3.mono hbi.size)).alloc (by have := hb3.size; have := hbi.size; omega) _⟩
                    case measure => simp [intOf]; omega
                  · have Hno := hide (unhide Hbad (unhide HB (by simp [okW, hE, hr, hm])))
                    have Hm := hide hm
                    clear hE hr hm
                    go_wp2_with (first
                      | (go_at_call 28; go_must (refine (runpack_c x _ hu.1 hu.2).mono ?_); go_must (rintro e w3 ⟨he, hb3⟩; rw [unhide Hr, unhide HE] at he; subst he; have hS3 := (hbS.mono hsz).below (hbi.trans (hb3.mono hbi.size))))
                      | (go_at_call 25; go_must (refine (has_c _ _ st (unNum x) _ _ (hS3.below ((Below.refl _ _).alloc (by have := hb3.size; have := hbi.size; omega) _))).mono ?_); go_must (rintro e w4 ⟨he, hw4⟩; rw [decide_eq_false (unhide Hm)] at he; subst he; have hw4 := hw4.symm; subst hw4)))
                    go_ret
                    exact ⟨ret_int (unhide Hno).symm, hbw.trans ((hb.trans ((hbi.trans (hb3.mono hbi.size)).mono hsz)).mono (by omega) |>.alloc (by have := hb3.size; have := hbi.size; omega) _)⟩
              · have HE := hide (unErr_two hE)
                have Hno := hide (unhide Hbad (unhide HB (by simp [okW, hE])))
                clear hE
                go_wp2_with (go_at_call 28; go_must (refine (runpack_c x _ hu.1 hu.2).mono ?_); go_must (rintro e w3 ⟨he, hb3⟩; rw [unhide HE] at he; subst he))
                go_ret
                exact ⟨ret_int (unhide Hno).symm, hbw.trans ((hb.trans ((hbi.trans (hb3.mono hbi.size)).mono hsz)).mono (by omega) |>.alloc (by have := hb3.size; have := hbi.size; omega) _)⟩
            · obtain rfl : k = l.length := by omega
              have ha := unhide Ha
              rw [List.take_length] at ha
              have Hz := hide (unhide Hok ha)
              clear ha
              go_wp2
              go_ret
              exact ⟨ret_int (unhide Hz).symm, hbw.trans ((hb.trans (hbi.mono hsz)).mono (by omega))⟩

end Go.Proofs.Ytahdalejmfbkeaa
