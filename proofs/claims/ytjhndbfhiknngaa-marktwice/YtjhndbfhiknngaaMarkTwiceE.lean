/- Merged texts: Pf Cb Qa Qb. -/
import Derived.Test.YtjhndbfhiknngaaProg
import Derived.Test.YtjhndbfhiknngaaMarkTwiceD
import Derived.Deep.RegionWith

/- Walks: MarkSwept. -/
namespace Go.Proofs.Ytjhndbfhiknngaa
set_option linter.unusedSimpArgs false
set_option linter.unusedVariables false
open Go.RowKit Go.Shelf

theorem sumB_take {l : List (Nat × Nat)} {k p n : Nat} (hk : k < l.length) (h : l[k] = (p, n)) : sumB (l.take (k + 1)) = sumB (l.take k) + n := by
  rw [List.take_succ_eq_append_getElem hk, sumB_snoc, h]
theorem sumB_take_le : ∀ (l : List (Nat × Nat)) (k : Nat), sumB (l.take k) ≤ sumB l
  | [], k => by simp
  | x :: l, 0 => by simp [sumB]
  | x :: l, k + 1 => by have := sumB_take_le l k; simp [sumB] at *; omega
theorem markS_succ {hs : List Int} {fs : List (List Int)} {k : Nat} {x : Int} (hx : hs[k]? = some x) (hk : k < fs.length) : markS hs fs (k + 1) = markS hs fs k + if uhM x then 1 + fs[k].length else 0 := by
  simp [markS, List.getD_eq_getElem?_getD, hx, hk]
theorem markS_mono (hs : List Int) (fs : List (List Int)) : ∀ k m, k ≤ m → markS hs fs k ≤ markS hs fs m
  | k, 0, h => by obtain rfl : k = 0 := by omega
                  exact Nat.le_refl _
  | k, m + 1, h => by
    rcases Nat.lt_or_ge k (m + 1) with h1 | h1
    · have := markS_mono hs fs k m (by omega)
      have e : markS hs fs (m + 1) = markS hs fs m + if uhM (hs.getD m 0) then 1 + (fs.getD m []).length else 0 := rfl
      omega
    · obtain rfl : k = m + 1 := by omega
      exact Nat.le_refl _

set_option maxRecDepth 100000 in
set_option maxHeartbeats 4000000 in
theorem swept_c (aw ar : Option Addr) (cw cr : Nat) (ws rs : List Int) (w : World) (hW : Wds w.heap.size w aw ws) (hR : Wds w.heap.size w ar rs) (hUW : U64 ws) (hUR : U64 rs) (hcap : ws.length ≤ cw) :
    Calls Try.prog 6 #[.agg #[.slice aw ws.length cw, .slice ar rs.length cr]] w fun e w' => e = .returned (.bool true) ∧ Below w.heap.size w w' := by
  obtain ⟨W1, hW1⟩ : ∃ W1, w.alloc (.cells #[.slice aw ws.length cw, .slice ar rs.length cr] 24) = W1 := ⟨_, rfl⟩
  have hb1 : Below w.heap.size w W1 := by rw [← hW1]; exact (Below.refl w.heap.size w).alloc (Nat.le_refl _) _
  have hs1 : w.heap.size < W1.heap.size := by rw [← hW1]; simp
  have g0 : W1.cell? ⟨w.heap.size, 0, none⟩ = some (.slice aw ws.length cw) := by rw [← hW1]; simp [go_sem]
  have g1 : W1.cell? ⟨w.heap.size, 1, none⟩ = some (.slice ar rs.length cr) := by rw [← hW1]; simp [go_sem]
  have Hc1 := hide (sound_c aw ar cw cr ws rs w.heap.size W1 (hW.below hb1) (hR.below hb1) hUW hUR (by omega))
  go_enter Try.func6, Try.ntmps6
  go_wp2_with fail
  refine (unhide Hc1).mono ?_
  rintro e w2 ⟨rfl, hb2⟩
  clear hW1 Hc1
  have hs2 := hb2.size
  have hbw2 : Below w.heap.size w w2 := hb1.trans (hb2.mono (by omega))
  replace g0 := (hb2.cell (p := ⟨w.heap.size, 0, none⟩) hs1).trans g0
  replace g1 := (hb2.cell (p := ⟨w.heap.size, 1, none⟩) hs1).trans g1
  by_cases hE : arenaE ws rs = 0
  · have d0 : (arenaE ws rs == 0) = true := by simp [hE]
    rw [d0]
    have HE := hide hE
    have Hc2 := hide (sweep_c aw ar cw cr ws rs w.heap.size w2 (hW.below hbw2) (hR.below hbw2) hUW hUR (by omega) hcap)
    clear hb1 hb2 hE d0
    go_wp2_with fail
    refine (unhide Hc2).mono ?_
    rintro e w3 ⟨hres, hb3⟩
    obtain ⟨_, hs, fs, la, lc, hA, hws, he, hBl⟩ := hres.resolve_left (fun h => h.1 (unhide HE))
    subst he
    have hF := hA.fit
    have htot : tot fs = ws.length := by rw [hws, joinW_len _ _ hF.len]
    have h256 : ws.length ≤ 256 := by have := hA.n256; omega
    have hap := sweep_apart hF fs.length (Nat.le_refl _)
    have hsum := sweep_sum hF fs.length (Nat.le_refl _)
    have hsl := sweep_len hs fs fs.length
    have htl := tot_len fs
    rw [List.take_length] at hap hsum
    have Hle := hide (apart_le hap)
    have Hap := hide hap
    have Hsum := hide hsum
    have hs3 := hb3.size
    have hbw3 : Below w.heap.size w w3 := hbw2.trans (hb3.mono (by omega))
    replace g0 := (hb3.cell (p := ⟨w.heap.size, 0, none⟩) (by simp; omega)).trans g0
    replace g1 := (hb3.cell (p := ⟨w.heap.size, 1, none⟩) (by simp; omega)).trans g1
    have hl3 : w.heap.size < w3.heap.size := by omega
    have HBl := hide hBl
    have HF := hide hF
    have Hws := hide hws
    have htb : tot fs ≤ 256 := by omega
    have hsb : sumB (sweepL hs fs fs.length) + markS hs fs fs.length ≤ 256 := by omega
    have Hst := hide (fun k => sumB_take_le (sweepL hs fs fs.length) k)
    have Htot := hide htot
    have Hms := hide (fun k (h : k ≤ fs.length) => markS_mono hs fs k fs.length h)
    have hfl : fs.length ≤ 256 := by omega
    have hsl' : (sweepL hs fs fs.length).length ≤ 256 := by omega
    clear Hc2 hres hBl hws hA hF htot hap hsum hb3 hsl htl
    generalize hSL : sweepL hs fs fs.length = SL at *
    clear hSL
    go_wp2
    go_loopw [5, 6] (fun s i wr => ∃ k : Nat, k ≤ SL.length ∧ i = .int .i64 k ∧ s = .int .i64 (sumB (SL.take k) : Nat) ∧ Below w3.heap.size w3 wr) (fun _ i _ => SL.length - (intOf i).toNat)
    case atStart => exact ⟨0, Nat.zero_le _, rfl, rfl, Below.refl _ _⟩
    case round =>
      obtain ⟨k, hk, rfl, rfl, hb⟩ := hrel
      have hsz := hb.size
      have g0r := (hb.cell (p := ⟨w.heap.size, 0, none⟩) hl3).trans g0
      have g1r := (hb.cell (p := ⟨w.heap.size, 1, none⟩) hl3).trans g1
      have hlr : w.heap.size < wr.heap.size := by omega
      by_cases hlt : k < SL.length
      · obtain ⟨b, off, p, n, rfl, hbB, hc0, hc1, Hpn⟩ := ((unhide HBl).below hb).at hlt
        have hone := (unhide Hap).1 _ (List.getElem_mem hlt)
        rw [unhide Hpn] at hone
        have hple := unhide Hle _ (List.getElem_mem hlt)
        rw [unhide Hpn] at hple
        simp only at hone hple
        have HT := hide (sumB_take hlt (unhide Hpn))
        have hT1 := unhide Hst (k + 1)
        rw [unhide HT] at hT1
        have hkI : (k : Int) < (SL.length : Int) := by omega
        have hq : b < wr.heap.size := by omega
        have e1 : decide ((n : Int) < 1) = false := by simp; omega
        have e2 : decide ((p : Int) < 0) = false := by simp
        have hnext : Hid (∀ a m, 0 < k → SL[k - 1]? = some (a, m) → a + m < p) := fun a m h0 ha => by
          have := (unhide Hap).2.1 (k - 1) (a, m) (p, n) ha (by rw [show k - 1 + 1 = k by omega, List.getElem?_eq_getElem hlt, unhide Hpn])
          simpa using this
        generalize hsm : sumB (SL.take k) = sm at *
        clear hsm
        have w9 : IntKind.i64.wrap ((sm : Int) + (n : Int)) = (sm : Int) + (n : Int) := by rw [IntKind.wrap_i64]; omega
        rcases Nat.eq_zero_or_pos k with h0 | h0
        · subst h0
          have e3 : decide (((0 : Nat) : Int) > 0) = false := by decide
          have e3' : decide ((0 : Int) < ((0 : Nat) : Int)) = false := by decide
          simp only [Nat.zero_mul, Nat.add_zero] at hc0 hc1
          go_wp2
          go_quiet (fail)
          have hbn := below_drewN hb nq
          have hc1n : (wr.drewN nq).cell? ⟨b, off + 1, none⟩ = some (.int .i64 (n : Nat)) := hc1
          have hqn : b < (wr.drewN nq).heap.size := hq
          clear hc0 hc1 g0r g1r hq hlr
          generalize wr.drewN nq = wq at *
          go_wp2
          go_roundw
          case rel => exact ⟨1, by omega, by go_num, by rw [unhide HT]; go_num, hbn⟩
          case measure => simp [intOf]; omega
        · obtain ⟨k', rfl⟩ : ∃ k', k = k' + 1 := ⟨k - 1, by omega⟩
          have hlt' : k' < SL.length := by omega
          obtain ⟨b', off', p', n', hbb, hbB', hd0, hd1, Hpn'⟩ := ((unhide HBl).below hb).at hlt'
          injection hbb with hbb
          injection hbb with hbb1 hbb2
          subst hbb1 hbb2
          have hlt3 := unhide hnext p' n' h0 (by rw [show k' + 1 - 1 = k' by omega, List.getElem?_eq_getElem hlt', unhide Hpn'])
          have e3 : decide (((k' + 1 : Nat) : Int) > 0) = true := decide_eq_true (by omega)
          have e3' : decide ((0 : Int) < ((k' + 1 : Nat) : Int)) = true := decide_eq_true (by omega)
          have f1 : ((k' + 1 : Nat) : Int) - 1 = (k' : Int) := by omega
          have w1 : IntKind.i64.wrap (((k' + 1 : Nat) : Int) - 1) = (k' : Int) := by rw [IntKind.wrap_i64]; omega
          have hkI' : (k' : Int) < (SL.length : Int) := by omega
          have w2 : IntKind.i64.wrap ((p' : Int) + (n' : Int)) = (p' : Int) + (n' : Int) := by rw [IntKind.wrap_i64]; omega
          have e4 : decide ((p' : Int) + (n' : Int) ≥ (p : Int)) = false := by simp; omega
          have e4' : decide ((p : Int) ≤ (p' : Int) + (n' : Int)) = false := by simp; omega
          go_wp2
          go_quiet (fail)
          have hbn := below_drewN hb nq
          have hc1n : (wr.drewN nq).cell? ⟨b, off + (k' + 1) * 2 + 1, none⟩ = some (.int .i64 (n : Nat)) := hc1
          have hqn : b < (wr.drewN nq).heap.size := hq
          clear hc0 hc1 hd0 hd1 g0r g1r hq hlr
          generalize wr.drewN nq = wq at *
          go_wp2
          go_roundw
          case rel => exact ⟨k' + 1 + 1, by omega, by go_num, by rw [unhide HT]; go_num, hbn⟩
          case measure => simp [intOf]; omega
      · obtain rfl : k = SL.length := by omega
        rw [List.take_length]
        have hbwr : Below w.heap.size w wr := hbw3.trans (hb.mono (by omega))
        have Hc4 := hide (heads_c aw ar cw rs.length cr ws hs fs w.heap.size wr (hW.below hbwr) hUW (by omega) (unhide HF) (unhide Hws) h256)
        have hkI : ¬ ((SL.length : Int) < (SL.length : Int)) := by omega
        clear HBl Hle Hap
        go_wp2_with fail
        refine (unhide Hc4).mono ?_
        rintro e w5 ⟨⟨v, he, hown⟩, hb5⟩
        subst he
        have hs5 := hb5.size
        obtain ⟨ha, hc, hv, hHd⟩ := hdrs_of_owns hown (headsH_len hs).symm (by have := (unhide HF).len; omega)
        subst hv
        have hln : (headsH hs).length = fs.length := by rw [headsH_len, (unhide HF).len]
        rw [hln]
        have Hhd : Hid (∀ k, k < fs.length → ∃ x, hs[k]? = some x ∧ (headsH hs)[k]? = some ((((fs.getD k []).length : Nat) : Int), uhM x, uhA x) ∧ markS hs fs (k + 1) = markS hs fs k + if uhM x then 1 + (fs.getD k []).length else 0) := fun k hk => by
          obtain ⟨x, h1, h2, h3, _⟩ := fit_at (unhide HF) hk
          have e2 : fs.getD k [] = fs[k] := by rw [List.getD_eq_getElem?_getD, List.getElem?_eq_getElem hk]; rfl
          rw [e2]
          exact ⟨x, h1, by simp only [headsH, List.getElem?_map, h1, Option.map_some]; rw [uhL_wlen h2, h3], markS_succ h1 hk⟩
        have HHd := hide hHd
        have Hln := hide hln
        have hbw5 : Below w.heap.size w w5 := hbwr.trans (hb5.mono (by omega))
        replace g0r := (hb5.cell (p := ⟨w.heap.size, 0, none⟩) (by simp; omega)).trans g0r
        have hl5 : w.heap.size < w5.heap.size := by omega
        clear hown hHd hln Hc4 hb5
        generalize headsH hs = HH at *
        generalize sumB SL = sb at *
        go_wp2
        go_loopw [5, 76] (fun s i wr => ∃ k : Nat, k ≤ fs.length ∧ i = .int .i64 k ∧ s = .int .i64 (sb + markS hs fs k : Nat) ∧ Below w5.heap.size w5 wr) (fun _ i _ => fs.length - (intOf i).toNat)
        case atStart => exact ⟨0, Nat.zero_le _, rfl, rfl, Below.refl _ _⟩
        case round =>
          obtain ⟨k, hk, rfl, rfl, hb6⟩ := hrel
          have hsz6 := hb6.size
          have g06 := (hb6.cell (p := ⟨w.heap.size, 0, none⟩) hl5).trans g0r
          have hl6 : w.heap.size < wr.heap.size := by omega
          have hmk := unhide Hms k hk
          by_cases hlt : k < fs.length
          · obtain ⟨x, hx, hhk, hsu⟩ := unhide Hhd k hlt
            have hltH : k < HH.length := by have := unhide Hln; omega
            obtain ⟨b, off, n, m, a, rfl, hbB, hc0, hc1, hc2, Hnma⟩ := ((unhide HHd).below hb6).at hltH
            rw [List.getElem?_eq_getElem hltH, unhide Hnma, Option.some.injEq, Prod.mk.injEq, Prod.mk.injEq] at hhk
            obtain ⟨rfl, rfl, rfl⟩ := hhk
            have hmk1 := unhide Hms (k + 1) (by omega)
            have HS := hide hsu
            rw [hsu] at hmk1
            have hq : b < wr.heap.size := by omega
            have hkI : (k : Int) < (fs.length : Int) := by omega
            clear hsu hx Hnma
            generalize (fs.getD k []).length = n at *
            generalize markS hs fs k = mk at *
            cases hm : uhM x
            · rw [hm] at hc1 HS hmk1
              clear hm
              go_wp2
              go_roundw
              case rel => exact ⟨k + 1, by omega, by go_num, by rw [unhide HS]; simp, hb6.alloc hsz6 _⟩
              case measure => simp [intOf]; omega
            · rw [hm] at hc1 HS hmk1
              simp only [if_true] at hmk1
              clear hm
              have w1 : IntKind.i64.wrap (((sb + mk : Nat) : Int) + 1) = ((sb + mk : Nat) : Int) + 1 := by rw [IntKind.wrap_i64]; omega
              have w2 : IntKind.i64.wrap (((sb + mk : Nat) : Int) + 1 + (n : Int)) = ((sb + mk : Nat) : Int) + 1 + (n : Int) := by rw [IntKind.wrap_i64]; omega
              go_wp2
              go_roundw
              case rel => exact ⟨k + 1, by omega, by go_num, by rw [unhide HS]; simp only [if_true]; congr 1; omega, hb6.alloc hsz6 _⟩
              case measure => simp [intOf]; omega
          · obtain rfl : k = fs.length := by omega
            have hkI : ¬ ((fs.length : Int) < (fs.length : Int)) := by omega
            have Hend : Hid (sb + markS hs fs fs.length = ws.length) := by show _ = _; have := unhide Hsum; have := unhide Htot; omega
            rw [unhide Hend]
            go_wp2
            go_ret
            exact ⟨ret_bool (by simp), hbw5.trans (hb6.mono (by omega))⟩
  · have d0 : (arenaE ws rs == 0) = false := by simp [hE]
    have HE := hide hE
    rw [d0]
    have Hc2 := hide (unsound_c aw ar cw cr ws rs w.heap.size w2 (hW.below hbw2) (hR.below hbw2) hUW hUR (by omega) hcap)
    clear hE
    go_wp2_with fail
    refine (unhide Hc2).mono ?_
    rintro e w3 ⟨he, hb3⟩
    have d3 : (arenaE ws rs != 0) = true := by simpa using unhide HE
    rw [d3] at he
    subst he
    go_wp2
    go_ret
    exact ⟨rfl, hbw2.trans (hb3.mono (by omega))⟩

end Go.Proofs.Ytjhndbfhiknngaa

/- Walks: the document's Read. -/
namespace Go.Proofs.Ytjhndbfhiknngaa
set_option linter.unusedSimpArgs false
set_option linter.unusedVariables false
open Go.RowKit Go.Shelf

set_option maxRecDepth 100000 in
set_option maxHeartbeats 1000000 in
theorem runpacked2_c (a s0 : Option Addr) (cap caps : Nat) (ws st : List Int) (B : Nat) (w : World) (hl : Wds B w a ws) (hU : U64 ws) (hS : Ints B w s0 st) (hB : B ≤ w.heap.size) (hn : ws.length ≤ 256) :
    Calls Try.prog 37 #[.slice a ws.length cap, .slice s0 st.length caps] w fun e w' => ∃ a' cap', e = .returned (.slice a' (ws.map (valW st)).length cap') ∧ ValsF w.heap.size w' a' (ws.map (valW st)) ∧ Below w.heap.size w w' := by
  obtain ⟨i0, hi, hz0, hz1, hz2⟩ := info_parts Try.info70'
  go_enter Try.func37, Try.ntmps37
  go_wp2
  go_loopw [5, 12] (fun s i wr => ∃ k : Nat, k ≤ ws.length ∧ i = .int .i64 k ∧ wr.ownsRow w.heap.size 70 2 s k (cellsV ((ws.map (valW st)).take k)) ∧ Below w.heap.size w wr) (fun _ i _ => ws.length - (intOf i).toNat)
  case atStart => exact ⟨0, Nat.zero_le _, rfl, by simpa [cellsV] using World.ownsRow_nil _ _ _ _, Below.refl _ _⟩
  case round =>
    obtain ⟨k, hk, rfl, hown, hb⟩ := hrel
    have hsz := hb.size
    by_cases hlt : k < ws.length
    · obtain ⟨b, off, rfl, hbB, hc⟩ := (hl.below (hb.mono hB)).at hlt
      have hu := hU _ (List.getElem_mem hlt)
      have HT := hide (fun r n => cells_take_succ (st := st) hlt (r := r) (n := n))
      generalize ws[k] = x at *
      cases hr : unRef x
      · have HT2 := hide (unhide HT _ _ (valW_num hr))
        have Hr := hide hr
        clear hr HT
        go_wp2_with (first
          | (go_at_call 33; go_must (refine (runpack_c x _ hu.1 hu.2).mono ?_); go_must (rintro e w3 ⟨he, hb3⟩; rw [unhide Hr] at he; subst he; have hs3 := hb3.size; have hown3 := ownsRow_below hown hb3))
          | (at_builtin; go_must (refine wpList_append_own _ rfl _ _ 45 rfl w.heap.size 70 i0 _ 2 16 Try.underlying45 hi hz0 hz1 hz2 rfl (by decide) _ _ _ rfl ((hown3.alloc _).alloc _) ⟨w3.heap.size + 1, 0, none⟩ 1 1 [.bool false, .int .i64 (unNum x)] rfl rfl (cell_two_at _ _ _ _ _ (by simp)) (by simp [Value.oneCell']) (by simp only [maxLen]; omega) (by omega) (by simp; omega) ?_); intro v' w1 hown' hgrow _))
        go_roundw
        case rel => exact ⟨k + 1, by omega, by go_num, by rw [unhide HT2]; exact hown', (((hb.trans (hb3.mono hsz)).alloc (by omega) _).alloc (by simp; omega) _).grown hgrow (by simp; omega) (fun q e => (hown3.lt q e).1)⟩
        case measure => simp [intOf]; omega
      · have HT2 := hide (unhide HT _ _ (valW_ref hr))
        have Hr := hide hr
        clear hr HT
        go_wp2_with (first
          | (go_at_call 33; go_must (refine (runpack_c x _ hu.1 hu.2).mono ?_); go_must (rintro e w3 ⟨he, hb3⟩; rw [unhide Hr] at he; subst he; have hs3 := hb3.size; have hown3 := ownsRow_below hown hb3; have hS3 := hS.below ((hb.mono hB).trans (hb3.mono (Nat.le_trans hB hsz)))))
          | (go_at_call 49; go_must (refine (place_c _ _ st (unNum x) B _ (hS3.below ((Below.refl _ _).alloc (by omega) _))).mono ?_); go_must (rintro e w4 ⟨he, hw4⟩; subst he; have hw4 := hw4.symm; subst hw4))
          | (at_builtin; go_must (refine wpList_append_own _ rfl _ _ 45 rfl w.heap.size 70 i0 _ 2 16 Try.underlying45 hi hz0 hz1 hz2 rfl (by decide) _ _ _ rfl ((hown3.alloc _).alloc _) ⟨w3.heap.size + 1, 0, none⟩ 1 1 [.bool true, .int .i64 (placeOf st (unNum x))] rfl rfl (cell_two_at _ _ _ _ _ (by simp)) (by simp [Value.oneCell']) (by simp only [maxLen]; omega) (by omega) (by simp; omega) ?_); intro v' w1 hown' hgrow _))
        go_roundw
        case rel => exact ⟨k + 1, by omega, by go_num, by rw [unhide HT2]; exact hown', (((hb.trans (hb3.mono hsz)).alloc (by omega) _).alloc (by simp; omega) _).grown hgrow (by simp; omega) (fun q e => (hown3.lt q e).1)⟩
        case measure => simp [intOf]; omega
    · obtain rfl : k = ws.length := by omega
      rw [List.take_of_length_le (by simp)] at hown
      obtain ⟨a', cap', hv, hV, hr9⟩ := vals_of_owns hown (by simp) (by omega)
      have HV : Hid (ValsF w.heap.size wr a' (ws.map (valW st))) := ⟨hV, hr9⟩
      clear hr9 hV
      subst hv
      go_wp2
      go_ret
      exact ⟨a', cap', rfl, unhide HV, hb⟩

/-- What an append of one object has made. -/
def Apd (wr : World) (gb k : Nat) (v : Value) (es : List Value) (lv : List V) (v10 : Value) (W : World) : Prop :=
  ∃ a7 c7 W1, ValsF wr.heap.size W1 a7 lv ∧ Below wr.heap.size wr W1 ∧ W.ownsRow (gb + 1) 78 1 v10 (k + 1) (es ++ [.slice a7 lv.length c7]) ∧ (W1.alloc (.cells #[.slice a7 lv.length c7] 78)).grownBy W v.ownBlock ∧ (v10.ownBlock = v.ownBlock ∨ v10.ownBlock = some (W1.alloc (.cells #[.slice a7 lv.length c7] 78)).heap.size)

def RdRes (fs : List (List Int)) (rs : List Int) (e : Ending) (W : World) : Prop :=
  ∃ ao co ar cr, e = .returned (.agg #[.slice ao (readG fs rs).objs.length co, .slice ar (readG fs rs).roots.length cr]) ∧ Objs W.heap.size W ao (readG fs rs).objs ∧ Vals W.heap.size W ar (readG fs rs).roots

set_option maxRecDepth 100000 in
set_option maxHeartbeats 8000000 in
theorem rread_c (aw ar : Option Addr) (cw cr : Nat) (ws rs : List Int) (fs : List (List Int)) (B : Nat) (w : World) (hW : Wds B w aw ws) (hR : Wds B w ar rs) (hUW : U64 ws) (hUR : U64 rs) (hB : B ≤ w.heap.size)
    (h256 : ws.length ≤ 256) (h8 : rs.length ≤ 8) (hs : splitR ws = some fs) :
    Calls Try.prog 20 #[.agg #[.slice aw ws.length cw, .slice ar rs.length cr]] w fun e w' => RdRes fs rs e w' ∧ Below w.heap.size w w' := by
  obtain ⟨i0, hi, hz0, hz1, hz2⟩ := info_parts Try.info78'
  have Hs := hide hs
  have htot := (splitR_st hs).1
  have hfl := tot_len fs
  clear hs
  obtain ⟨W4, hW4⟩ : ∃ W4, (w.alloc (.cells #[.slice aw ws.length cw, .slice ar rs.length cr] 24)).alloc (.cells #[.slice none 0 0, .slice none 0 0] 47) = W4 := ⟨_, rfl⟩
  have hbA : Below w.heap.size w W4 := by rw [← hW4]; exact ((Below.refl w.heap.size w).alloc (Nat.le_refl _) _).alloc (by simp) _
  have hs4 : w.heap.size + 1 < W4.heap.size := by rw [← hW4]; simp
  have q0 : W4.cell? ⟨w.heap.size + 1, 0, none⟩ = some (.slice none 0 0) := by rw [← hW4]; simp [go_sem]
  have q1 : W4.cell? ⟨w.heap.size + 1, 1, none⟩ = some (.slice none 0 0) := by rw [← hW4]; simp [go_sem]
  have f0 : W4.frozen? ⟨w.heap.size + 1, 0, none⟩ = false := by rw [← hW4]; simp [go_sem]
  have f1 : W4.frozen? ⟨w.heap.size + 1, 1, none⟩ = false := by rw [← hW4]; simp [go_sem]
  have g0 : W4.cell? ⟨w.heap.size, 0, none⟩ = some (.slice aw ws.length cw) := by rw [← hW4]; simp [go_sem]
  have g1 : W4.cell? ⟨w.heap.size, 1, none⟩ = some (.slice ar rs.length cr) := by rw [← hW4]; simp [go_sem]
  have Hcall := hide (rstarts_c aw cw ws B W4 (hW.below (hbA.mono hB)) hUW (by omega) h256)
  go_enter Try.func20, Try.ntmps20
  go_wp2_with fail
  refine (unhide Hcall).mono ?_
  rintro e w5 ⟨hres, hb5⟩
  obtain ⟨fs', sa, sc, he', hres⟩ := hres.resolve_left (fun h => by rw [unhide Hs] at h; cases h.1)
  rw [unhide Hs] at he'
  injection he' with he'
  subst he'
  obtain ⟨he, hI⟩ := hres
  subst he
  clear hW4 Hcall
  have hs5 := hb5.size
  replace q0 := (hb5.cell (p := ⟨w.heap.size + 1, 0, none⟩) (by simp; omega)).trans q0
  replace q1 := (hb5.cell (p := ⟨w.heap.size + 1, 1, none⟩) (by simp; omega)).trans q1
  replace f0 := (hb5.frozen (p := ⟨w.heap.size + 1, 0, none⟩) (by simp; omega)).trans f0
  replace f1 := (hb5.frozen (p := ⟨w.heap.size + 1, 1, none⟩) (by simp; omega)).trans f1
  replace g0 := (hb5.cell (p := ⟨w.heap.size, 0, none⟩) (by simp; omega)).trans g0
  replace g1 := (hb5.cell (p := ⟨w.heap.size, 1, none⟩) (by simp; omega)).trans g1
  have hbw5 : Below w.heap.size w w5 := hbA.trans (hb5.mono (by omega))
  have Hc2 := hide (runpacked2_c ar sa cr sc rs (stF 0 fs) w5.heap.size w5 ((hR.below (hbw5.mono hB)).mono (by omega)) hUR hI (Nat.le_refl _) (by omega))
  have HI := hide hI
  clear hbA hb5 hI
  go_wp2_with fail
  refine (unhide Hc2).mono ?_
  rintro e w6 ⟨ar6, cr6, he, hV6, hb6⟩
  subst he
  have hs6 := hb6.size
  replace q0 := (hb6.cell (p := ⟨w.heap.size + 1, 0, none⟩) (by simp; omega)).trans q0
  replace q1 := (hb6.cell (p := ⟨w.heap.size + 1, 1, none⟩) (by simp; omega)).trans q1
  replace f0 := (hb6.frozen (p := ⟨w.heap.size + 1, 0, none⟩) (by simp; omega)).trans f0
  replace f1 := (hb6.frozen (p := ⟨w.heap.size + 1, 1, none⟩) (by simp; omega)).trans f1
  replace g0 := (hb6.cell (p := ⟨w.heap.size, 0, none⟩) (by simp; omega)).trans g0
  have hbw6 : Below w.heap.size w w6 := hbw5.trans (hb6.mono (by omega))
  have HI6 := hide ((unhide HI).below hb6)
  have HV6 := hide hV6
  have Hst := hide (stF_len fs 0)
  have Hsg := hide (fun k hk => stF_get fs 0 k hk)
  clear Hc2 HI hV6 g1 hb6
  generalize hrl : (rs.map (valW (stF 0 fs))).length = rl at *
  have Hrl := hide hrl
  clear hrl
  go_wp2
  go_loopw [21] (fun i wr => ∃ (k : Nat) (x : Value) (es : List Value), k ≤ fs.length ∧ i = .int .i64 k ∧ Below w6.heap.size w6 wr ∧ wr.cell? ⟨w6.heap.size, 0, none⟩ = some x ∧ wr.frozen? ⟨w6.heap.size, 0, none⟩ = false ∧ wr.cell? ⟨w6.heap.size, 1, none⟩ = some (.slice ar6 rl cr6) ∧
        ObjRow wr (w6.heap.size + 1) x (objsOf (stF 0 fs) (fs.take k)) es) (fun i _ => fs.length - (intOf i).toNat)
  case atStart => exact ⟨0, .slice none 0 0, [], Nat.zero_le _, rfl, (Below.refl _ _).alloc (Nat.le_refl _) _, by simp [go_sem], by simp [go_sem], by simp [go_sem], objRow_nil _ _⟩
  case round =>
    obtain ⟨k, x, es, hk, rfl, hb, c0, cf0, c1, hrow⟩ := hrel
    have hsz := hb.size
    have hbwr : Below w.heap.size w wr := hbw6.trans (hb.mono (by have := hbw6.size; omega))
    have g0r := (hb.cell (p := ⟨w.heap.size, 0, none⟩) (by simp; omega)).trans g0
    have hqr : w.heap.size < wr.heap.size := by omega
    by_cases hlt : k < fs.length
    · obtain ⟨hp, hk1, hk2, hf0⟩ := split_obj (unhide Hs) hlt
      have hltS : k < (stF 0 fs).length := by rw [unhide Hst]; exact hlt
      obtain ⟨b, off, rfl, hbB, hc⟩ := ((unhide HI6).below (hb.mono (by omega))).at hltS
      have Hsk := hide (show (stF 0 fs)[k] = ((tot (fs.take k) : Nat) : Int) from by have := unhide Hsg k hlt; rw [List.getElem?_eq_getElem hltS, Option.some.injEq, Nat.zero_add] at this; exact this)
      rw [unhide Hsk] at hc
      have hkI : (k : Int) < ((stF 0 fs).length : Int) := by omega
      have hq : w6.heap.size < wr.heap.size := World.block_lt_of_cell? wr _ c0
      have HO := hide (objsOf_succ (stF 0 fs) hlt)
      have HLk := hide (show (objsOf (stF 0 fs) (fs.take k)).length = k by rw [objsOf_len, List.length_take]; omega)
      have hf4 : fs[k].length ≤ 4 := (splitR_st (unhide Hs)).2 _ (List.getElem_mem hlt)
      have hUf := u64_fields (unhide Hs) hUW _ (List.getElem_mem hlt)
      rw [← hf0] at HO hf4 hUf
      have HcF : Hid (∀ W, Below wr.heap.size wr W → Calls Try.prog 32 #[.slice aw ws.length cw, .int .i64 (tot (fs.take k) : Nat)] W fun e w' => ∃ a' cap', e = .returned (.slice a' (fieldsAt ws (tot (fs.take k))).length cap') ∧ Wds w'.heap.size w' a' (fieldsAt ws (tot (fs.take k))) ∧ Below W.heap.size W w') := fun W hbW => by
        refine (rfields_c aw cw ws B W ((hW.below (hbwr.mono hB)).below (hbW.mono (by omega))) hUW (by have := hbW.size; omega) h256 _ hp hk1 hk2).mono ?_
        rintro e w' ⟨a', c', h1, h2, h3, _⟩
        exact ⟨a', c', h1, h2, h3⟩
      have HIr := hide ((unhide HI6).below (hb.mono (by omega)))
      clear Hsk hk1 hk2 hf0 hp
      generalize fieldsAt ws (tot (fs.take k)) = f at *
      generalize tot (fs.take k) = p at *
      have hrr := hrow.row
      rw [unhide HLk] at hrr
      obtain ⟨ca, cc, rfl⟩ := ownsRow_slice hrr
      have hncb : Value.ownBlock (.slice ca k cc) ≠ some w6.heap.size := fun e => by have := (hrr.lt _ e).1; omega
      have HcU : Hid (∀ W a5 c5, Below wr.heap.size wr W → Wds W.heap.size W a5 f → Calls Try.prog 37 #[.slice a5 f.length c5, .slice (some ⟨b, off, none⟩) (stF 0 fs).length sc] W fun e w' => ∃ a' cap', e = .returned (.slice a' (f.map (valW (stF 0 fs))).length cap') ∧ ValsF W.heap.size w' a' (f.map (valW (stF 0 fs))) ∧ Below W.heap.size W w') := fun W a5 c5 hbW hW5 =>
        runpacked2_c a5 (some ⟨b, off, none⟩) c5 sc f (stF 0 fs) W.heap.size W hW5 hUf (((unhide HIr).below (hbW.mono (by omega))).mono (by have := hbW.size; omega)) (Nat.le_refl _) (by omega)
      have HRow := hide hrow
      clear hrow
      go_wp2
      refine wp_region_hoist _ [5, 7, 8, 9, 10, 12] (fun i => match i with
          | 0 => .pointer (some ⟨w6.heap.size, 0, none⟩)
          | 1 => .slice ca k cc
          | 2 => .pointer (some ⟨w.heap.size, 0, none⟩)
          | 3 => .slice aw ws.length cw
          | 4 => .int .i64 (p : Int)
          | 6 => .slice (some ⟨b, off, none⟩) (stF 0 fs).length sc
          | _ => .pointer (some ⟨w6.heap.size, 0, none⟩))
        (fun vs W => match vs with
          | [] => Below wr.heap.size wr W
          | [v5] => (∃ a5 c5, v5 = .slice a5 f.length c5 ∧ Wds W.heap.size W a5 f) ∧ Below wr.heap.size wr W
          | [v5, v7] => (∃ a7 c7, v7 = .slice a7 (f.map (valW (stF 0 fs))).length c7 ∧ ValsF wr.heap.size W a7 (f.map (valW (stF 0 fs)))) ∧ Below wr.heap.size wr W
          | [v5, v7, v8] => (∃ a7 c7, v8 = .agg #[.slice a7 (f.map (valW (stF 0 fs))).length c7] ∧ ValsF wr.heap.size W a7 (f.map (valW (stF 0 fs)))) ∧ Below wr.heap.size wr W
          | [v5, v7, v8, v9] => (∃ a7 c7 W1, v9 = .slice (some ⟨W1.heap.size, 0, none⟩) 1 1 ∧ W = W1.alloc (.cells #[.slice a7 (f.map (valW (stF 0 fs))).length c7] 78) ∧ ValsF wr.heap.size W1 a7 (f.map (valW (stF 0 fs))) ∧ Below wr.heap.size wr W1) ∧ Below wr.heap.size wr W
          | [v5, v7, v8, v9, v10] => Apd wr w6.heap.size k (.slice ca k cc) es (f.map (valW (stF 0 fs))) v10 W
          | [v5, v7, v8, v9, v10, v12] => Below w6.heap.size w6 W ∧ W.cell? ⟨w6.heap.size, 0, none⟩ = some v10 ∧ W.frozen? ⟨w6.heap.size, 0, none⟩ = false ∧ W.cell? ⟨w6.heap.size, 1, none⟩ = some (.slice ar6 rl cr6) ∧ ∃ es', ObjRow W (w6.heap.size + 1) v10 (objsOf (stF 0 fs) (fs.take (k + 1))) es'
          | _ => False) Try.mixed (laid_of (by kernel_rfl)) (Below.refl _ _).drew ?_ ?_ ?_
      · intro i o hio hiT vs a W K hGv hlate hag hdep hK
        have hBW4 : vs.length ≤ 4 → Below wr.heap.size wr W := by
          intro h4
          match vs, hGv, h4 with
          | [], h, _ => exact h
          | [_], h, _ => exact h.2
          | [_, _], h, _ => exact h.2
          | [_, _, _], h, _ => exact h.2
          | [_, _, _, _], h, _ => exact h.2
        have t1 := hag.tm (k := 1) (by simp [dsOf])
        have t3 := hag.tm (k := 3) (by simp [dsOf])
        have t5 := hag.tm (k := 5) (by simp [dsOf])
        have t7 := hag.tm (k := 7) (by simp [dsOf])
        simp at t1 t3 t5 t7
        rcases i with _ | _ | _ | _ | _ | _ | _ | _ | _ | _ | _ | _ | _ | i
        · cases hio
          clear hGv
          unfold Oper.wp
          go_simp
          exact hK
        · have hl4 : vs.length ≤ 4 := hlate 4 10 _ rfl rfl ⟨⟨1, .data⟩, by simp, rfl, rfl⟩
          have s25 : a.tmps[25]?.getD undef = .pointer (some ⟨w6.heap.size, 0, none⟩) := hdep ⟨0, .data⟩ (by cases hio; simp) rfl 25 rfl
          have hcW := ((hBW4 hl4).cell (p := ⟨w6.heap.size, 0, none⟩) hq).trans c0
          cases hio
          clear hGv
          unfold Oper.wp
          go_simp
          exact hK
        · cases hio
          clear hGv
          unfold Oper.wp
          go_simp
          exact hK
        · have hl0 : vs.length ≤ 0 := hlate 0 5 _ rfl rfl ⟨⟨3, .data⟩, by simp, rfl, rfl⟩
          have s27 : a.tmps[27]?.getD undef = .pointer (some ⟨w.heap.size, 0, none⟩) := hdep ⟨2, .data⟩ (by cases hio; simp) rfl 27 rfl
          have hcW := ((hBW4 (by omega)).cell (p := ⟨w.heap.size, 0, none⟩) hqr).trans g0r
          cases hio
          clear hGv
          unfold Oper.wp
          go_simp
          exact hK
        · cases hio
          clear hGv
          unfold Oper.wp
          go_simp
          exact hK
        · exact absurd (by simp) hiT
        · cases hio
          clear hGv
          unfold Oper.wp
          go_simp
          exact hK
        · exact absurd (by simp) hiT
        · exact absurd (by simp) hiT
        · exact absurd (by simp) hiT
        · exact absurd (by simp) hiT
        · cases hio
          clear hGv
          unfold Oper.wp
          go_simp
          exact hK
        · exact absurd (by simp) hiT
        · simp at hio
      · intro j i o hj hio vs a W K hvl hGv hag hdep hK
        rcases j with _ | _ | _ | _ | _ | _ | j
        · obtain rfl : 5 = i := by simpa using hj
          obtain rfl : vs = [] := List.length_eq_zero_iff.1 hvl
          have s28 : a.tmps[28]?.getD undef = .slice aw ws.length cw := hdep ⟨3, .data⟩ (by cases hio; simp) rfl 28 rfl
          have s29 : a.tmps[29]?.getD undef = .int .i64 (p : Int) := hdep ⟨4, .data⟩ (by cases hio; simp) rfl 29 rfl
          cases hio
          refine op_call 32 #[.slice aw ws.length cw, .int .i64 (p : Int)] (by go_simp) ?_
          have hBW : Below wr.heap.size wr W := hGv
          refine (unhide HcF W hBW).mono ?_
          rintro e w' ⟨a', c', rfl, h2, h3⟩
          exact ⟨_, rfl, hK _ _ ⟨⟨a', c', rfl, h2⟩, hBW.trans (h3.mono hBW.size)⟩⟩
        · obtain rfl : 7 = i := by simpa using hj
          obtain ⟨v5, rfl⟩ : ∃ v5, vs = [v5] := by
            match vs, hvl with
            | [v5], _ => exact ⟨v5, rfl⟩
          obtain ⟨⟨a5, c5, rfl, hW5⟩, hBW⟩ := hGv
          have s30 : a.tmps[30]?.getD undef = .slice a5 f.length c5 := hdep ⟨5, .data⟩ (by cases hio; simp) rfl 30 rfl
          have s31 : a.tmps[31]?.getD undef = .slice (some ⟨b, off, none⟩) (stF 0 fs).length sc := hdep ⟨6, .data⟩ (by cases hio; simp) rfl 31 rfl
          cases hio
          refine op_call 37 #[.slice a5 f.length c5, .slice (some ⟨b, off, none⟩) (stF 0 fs).length sc] (by go_simp) ?_
          refine (unhide HcU W a5 c5 hBW hW5).mono ?_
          rintro e w' ⟨a', c', rfl, h2, h3⟩
          exact ⟨_, rfl, hK _ _ ⟨⟨a', c', rfl, h2.base hBW.size⟩, hBW.trans (h3.mono hBW.size)⟩⟩
        · obtain rfl : 8 = i := by simpa using hj
          obtain ⟨v5, v7, rfl⟩ : ∃ v5 v7, vs = [v5, v7] := by
            match vs, hvl with
            | [v5, v7], _ => exact ⟨v5, v7, rfl⟩
          obtain ⟨⟨a7, c7, rfl, hV7⟩, hBW⟩ := hGv
          have s32 : a.tmps[32]?.getD undef = .slice a7 (f.map (valW (stF 0 fs))).length c7 := hdep ⟨7, .data⟩ (by cases hio; simp) rfl 32 rfl
          generalize (f.map (valW (stF 0 fs))) = lv at *
          cases hio
          unfold Oper.wp
          go_simp
          exact hK _ _ ⟨⟨a7, c7, rfl, hV7⟩, hBW⟩
        · obtain rfl : 9 = i := by simpa using hj
          obtain ⟨v5, v7, v8, rfl⟩ : ∃ v5 v7 v8, vs = [v5, v7, v8] := by
            match vs, hvl with
            | [v5, v7, v8], _ => exact ⟨v5, v7, v8, rfl⟩
          obtain ⟨⟨a7, c7, rfl, hV7⟩, hBW⟩ := hGv
          have s33 : a.tmps[33]?.getD undef = .agg #[.slice a7 (f.map (valW (stF 0 fs))).length c7] := hdep ⟨8, .data⟩ (by cases hio; simp) rfl 33 rfl
          generalize (f.map (valW (stF 0 fs))) = lv at *
          cases hio
          unfold Oper.wp
          go_simp
          exact hK _ _ ⟨⟨a7, c7, W, rfl, rfl, hV7, hBW⟩, hBW.alloc hBW.size _⟩
        · obtain rfl : 10 = i := by simpa using hj
          obtain ⟨v5, v7, v8, v9, rfl⟩ : ∃ v5 v7 v8 v9, vs = [v5, v7, v8, v9] := by
            match vs, hvl with
            | [v5, v7, v8, v9], _ => exact ⟨v5, v7, v8, v9, rfl⟩
          obtain ⟨⟨a7, c7, W1, rfl, rfl, hV7, hBW1⟩, hBW⟩ := hGv
          have s26 : a.tmps[26]?.getD undef = .slice ca k cc := hdep ⟨1, .data⟩ (by cases hio; simp) rfl 26 rfl
          have s34 : a.tmps[34]?.getD undef = .slice (some ⟨W1.heap.size, 0, none⟩) 1 1 := hdep ⟨9, .data⟩ (by cases hio; simp) rfl 34 rfl
          cases hio
          have hs1 := hBW1.size
          refine op_append (.tmp 26) (.tmp 34) 44 rfl (w6.heap.size + 1) 78 i0 _ 1 24 Try.underlying44 hi hz0 hz1 hz2 rfl (by decide) (.slice ca k cc) k es (by simpa [Act.eval] using s26) ((ownsRow_below hrr hBW1).alloc _) ⟨W1.heap.size, 0, none⟩ 1 1 [.slice a7 (f.map (valW (stF 0 fs))).length c7] (by simpa [Act.eval] using s34) rfl (cell_one_at _ _ _ _ rfl) (by simp [Value.oneCell']) (by simp only [maxLen]; omega) (by omega) (by simp; omega) ?_
          intro v10 w10 hrow10 hg10 hat10
          exact hK _ _ ⟨a7, c7, W1, hV7, hBW1, hrow10, hg10, hat10⟩
        · obtain rfl : 12 = i := by simpa using hj
          obtain ⟨v5, v7, v8, v9, v10, rfl⟩ : ∃ v5 v7 v8 v9 v10, vs = [v5, v7, v8, v9, v10] := by
            match vs, hvl with
            | [v5, v7, v8, v9, v10], _ => exact ⟨v5, v7, v8, v9, v10, rfl⟩
          obtain ⟨a7, c7, W1, hV7, hBW1, hrow10, hg10, hat10⟩ := hGv
          have hs1 := hBW1.size
          obtain ⟨g7, cap7, hv7⟩ := ownsRow_succ hrow10
          subst hv7
          have s35 : a.tmps[35]?.getD undef = .slice (some ⟨g7, 0, none⟩) (k + 1) cap7 := hdep ⟨10, .data⟩ (by cases hio; simp) rfl 35 rfl
          have s36 : a.tmps[36]?.getD undef = .pointer (some ⟨w6.heap.size, 0, none⟩) := hdep ⟨11, .data⟩ (by cases hio; simp) rfl 36 rfl
          have hblk : W.heap[w6.heap.size]? = wr.heap[w6.heap.size]? := (hg10.block w6.heap.size (by simp; omega) (fun e => hncb e.symm)).trans ((Below.heap_alloc W1 _ _ (by omega)).trans (hBW1.block _ hq))
          have e0 := (World.cell?_of_block (a := ⟨w6.heap.size, 0, none⟩) hblk).trans c0
          have e1 := (World.cell?_of_block (a := ⟨w6.heap.size, 1, none⟩) hblk).trans c1
          have ef := (World.frozen?_of_block (a := ⟨w6.heap.size, 0, none⟩) hblk).trans cf0
          obtain ⟨r1, r2⟩ := obj_step (l := f.map (valW (stF 0 fs))) (ci := c7) (unhide HRow) (by omega) hV7.1 hBW1 hV7.2 (by rw [unhide HLk]; exact hrow10) hg10 hat10 rfl
          cases hio
          clear hrow10 hg10 hat10 hV7 hblk
          unfold Oper.wp
          go_simp
          refine hK undef _ ⟨hb.trans r2, World.cell?_setCell_same' _ _ _ (by rw [e0]; rfl), by rw [World.frozen?_setCell]; exact ef, ?_, _, by rw [unhide HO]; exact r1⟩
          rw [World.cell?_setCell_other _ _ _ _ (by simp)]
          exact e1
        · simp at hj
      · intro vs W hvl hGv
        obtain ⟨v5, v7, v8, v9, v10, v12, rfl⟩ : ∃ v5 v7 v8 v9 v10 v12, vs = [v5, v7, v8, v9, v10, v12] := by
          match vs, hvl with
          | [v5, v7, v8, v9, v10, v12], _ => exact ⟨v5, v7, v8, v9, v10, v12, rfl⟩
        obtain ⟨h1, h2, h3, h4, es', h5⟩ := hGv
        simp only [List.length_cons, List.length_nil, Nat.reduceAdd]
        simp [endAct, dstAt, valAt, List.idxOf?, List.findIdx?, List.findIdx?.go, Act.put]
        go_wp2
        go_roundw
        case rel => exact ⟨k + 1, v10, es', by omega, by go_num, h1, h2, h3, h4, h5⟩
        case measure => simp [intOf]; omega
    · obtain rfl : k = fs.length := by omega
      rw [List.take_length] at hrow
      have hkI : ¬ ((fs.length : Int) < ((stF 0 fs).length : Int)) := by rw [unhide Hst]; omega
      have hol := objsOf_len (stF 0 fs) fs
      obtain ⟨va', vc', hv, hO⟩ := hrow.objs (by omega)
      subst hv
      have HR := hide hrow
      have Hol := hide hol
      clear hO hrow hol
      replace q0 := (hb.cell (p := ⟨w.heap.size + 1, 0, none⟩) (by simp; omega)).trans q0
      replace q1 := (hb.cell (p := ⟨w.heap.size + 1, 1, none⟩) (by simp; omega)).trans q1
      replace f0 := (hb.frozen (p := ⟨w.heap.size + 1, 0, none⟩) (by simp; omega)).trans f0
      replace f1 := (hb.frozen (p := ⟨w.heap.size + 1, 1, none⟩) (by simp; omega)).trans f1
      generalize hL : objsOf (stF 0 fs) fs = L at *
      have HL := hide hL
      clear hL
      go_wp2
      refine bodyPost_ret (v := .agg #[.slice va' L.length vc', .slice ar6 rl cr6]) (by simp [results, Try.results20, go_sem, q0, q1]) rfl ?_
      have hO := ((unhide HR).setCell (p := ⟨w.heap.size + 1, 0, none⟩) (by simp; omega) (.slice va' L.length vc')).setCell (p := ⟨w.heap.size + 1, 1, none⟩) (by simp; omega) (.slice ar6 rl cr6)
      obtain ⟨va2, vc2, hv2, hO2⟩ := hO.objs (by rw [unhide Hol]; omega)
      injection hv2 with e1 _ e3
      subst e1 e3
      have hVF := ((((unhide HV6).below hb).setCell (p := ⟨w.heap.size + 1, 0, none⟩) (by simp; omega) (.slice va' L.length vc')).setCell (p := ⟨w.heap.size + 1, 1, none⟩) (by simp; omega) (.slice ar6 rl cr6))
      refine ⟨⟨va', vc', ar6, cr6, ?_, ?_, hVF.1⟩, (hbwr.setCell (p := ⟨w.heap.size + 1, 0, none⟩) (by simp) _).setCell (p := ⟨w.heap.size + 1, 1, none⟩) (by simp) _⟩
      · have e1 : (readG fs rs).objs = L := unhide HL
        have e2 : (readG fs rs).roots.length = rl := unhide Hrl
        rw [e1, e2]
      · have e1 : (readG fs rs).objs = L := unhide HL
        rw [e1]; exact hO2

end Go.Proofs.Ytjhndbfhiknngaa

/- Walks: the law's size. -/
namespace Go.Proofs.Ytjhndbfhiknngaa
set_option linter.unusedSimpArgs false
set_option linter.unusedVariables false
open Go.RowKit Go.Shelf

/-- How many words some objects have. -/
def sumR (fs : List (List Int)) (l : List Int) : Nat := (l.map fun (i : Int) => 1 + (fs.getD i.toNat []).length).sum

theorem sumR_snoc (fs : List (List Int)) (l : List Int) (x : Int) : sumR fs (l ++ [x]) = sumR fs l + (1 + (fs.getD x.toNat []).length) := by simp [sumR]
theorem sumR_take {fs : List (List Int)} {l : List Int} {k : Nat} (hk : k < l.length) : sumR fs (l.take (k + 1)) = sumR fs (l.take k) + (1 + (fs.getD l[k].toNat []).length) := by
  rw [List.take_succ_eq_append_getElem hk, sumR_snoc]
theorem sumR_take_le (fs : List (List Int)) : ∀ (l : List Int) (k : Nat), sumR fs (l.take k) ≤ sumR fs l
  | [], k => by simp
  | x :: l, 0 => by simp [sumR]
  | x :: l, k + 1 => by have := sumR_take_le fs l k; simp [sumR] at *; omega

theorem sumR_mark {hs : List Int} {fs : List (List Int)} {rs : List Int} {p : Nat → Bool} (h : Arn hs fs rs) (hp : ∀ j, p j = true ↔ Rch fs rs j) : ∀ k, k ≤ fs.length → sumR fs (reachK (readG fs rs) k) = markS (mkH hs p) fs k
  | 0, _ => rfl
  | k + 1, hk => by
    have ih := sumR_mark h hp k (by omega)
    have hk' : k < fs.length := by omega
    obtain ⟨x, hx, _⟩ := fit_at h.fit hk'
    have hm : (mkH hs p)[k]? = some (reh (p k) x) := by rw [mkH_get, hx]; rfl
    have e2 : fs.getD k [] = fs[k] := by rw [List.getD_eq_getElem?_getD, List.getElem?_eq_getElem hk']; rfl
    rw [markS_succ hm hk', (reh_ok (p k) x).2.2.1, ← ih]
    have hd : p k = true ↔ 0 ≤ dG (readG fs rs) k := by
      rw [hp, rch_order h, ← distAt_nonneg (good_read h)]
      rfl
    cases hpk : p k
    · have : dG (readG fs rs) k < 0 := by
        rcases Int.lt_or_le (dG (readG fs rs) k) 0 with h | h
        · exact h
        · rw [hd.2 h] at hpk; cases hpk
      rw [reachK_no this]
      simp
    · rw [reachK_yes (hd.1 hpk), sumR_snoc]
      simp [hk']

theorem reachK_rng {g : Gr} {k : Nat} {x : Int} (h : x ∈ reachK g k) : 0 ≤ x ∧ x < k := by
  unfold reachK at h
  simp only [List.mem_map, List.mem_filter, List.mem_range] at h
  obtain ⟨i, ⟨hi, _⟩, rfl⟩ := h
  omega

set_option maxRecDepth 100000 in
set_option maxHeartbeats 2000000 in
theorem size_c (aw ar : Option Addr) (cw cr : Nat) (ws rs : List Int) (hs : List Int) (fs : List (List Int)) (B : Nat) (w : World) (hW : Wds B w aw ws) (hR : Wds B w ar rs) (hUW : U64 ws) (hUR : U64 rs) (hB : B ≤ w.heap.size) (hA : Arn hs fs rs) (hws : ws = joinW hs fs)
    (hle : sumR fs (reachK (readG fs rs) (readG fs rs).objs.length) ≤ 256) :
    Calls Try.prog 25 #[.agg #[.slice aw ws.length cw, .slice ar rs.length cr]] w fun e w' => e = .returned (.int .i64 (sumR fs (reachK (readG fs rs) (readG fs rs).objs.length) : Nat)) ∧ Below w.heap.size w w' := by
  have hsp : splitR ws = some fs := by rw [hws]; exact fit_split hA.fit
  have h256 : ws.length ≤ 256 := by rw [hws, joinW_len _ _ hA.fit.len]; exact hA.n256
  obtain ⟨W1, hW1⟩ : ∃ W1, w.alloc (.cells #[.slice aw ws.length cw, .slice ar rs.length cr] 24) = W1 := ⟨_, rfl⟩
  have hb1 : Below w.heap.size w W1 := by rw [← hW1]; exact (Below.refl w.heap.size w).alloc (Nat.le_refl _) _
  have hs1 : w.heap.size < W1.heap.size := by rw [← hW1]; simp
  have g0 : W1.cell? ⟨w.heap.size, 0, none⟩ = some (.slice aw ws.length cw) := by rw [← hW1]; simp [go_sem]
  have g1 : W1.cell? ⟨w.heap.size, 1, none⟩ = some (.slice ar rs.length cr) := by rw [← hW1]; simp [go_sem]
  have Hc1 := hide (rread_c aw ar cw cr ws rs fs B W1 (hW.below (hb1.mono hB)) (hR.below (hb1.mono hB)) hUW hUR (by omega) h256 hA.n8 hsp)
  have HG := hide (good_read hA)
  have Hgl := hide (readG_len fs rs)
  have hfl : fs.length ≤ 256 := by have := tot_len fs; have := hA.n256; omega
  have Hfl : Hid (∀ (k : Nat) (l : List V), (readG fs rs).objs[k]? = some l → l.length = (fs.getD k []).length) := fun k l h => by
    obtain ⟨hk, e⟩ := readG_flen h
    rw [e, List.getD_eq_getElem?_getD, List.getElem?_eq_getElem hk]; rfl
  clear hA hws hsp
  go_enter Try.func25, Try.ntmps25
  go_wp2_with fail
  refine (unhide Hc1).mono ?_
  rintro e w2 ⟨⟨ao, co, ar2, cr2, he, hO, hV⟩, hb2⟩
  subst he
  have hs2 := hb2.size
  have hbw2 : Below w.heap.size w w2 := hb1.trans (hb2.mono (by omega))
  obtain ⟨W2, hW2⟩ : ∃ W2, w2.alloc (.cells #[.slice ao (readG fs rs).objs.length co, .slice ar2 (readG fs rs).roots.length cr2] 47) = W2 := ⟨_, rfl⟩
  have hb2' : Below w2.heap.size w2 W2 := by rw [← hW2]; exact (Below.refl _ _).alloc (Nat.le_refl _) _
  have hs2' : w2.heap.size < W2.heap.size := by rw [← hW2]; simp
  have k0 : W2.cell? ⟨w2.heap.size, 0, none⟩ = some (.slice ao (readG fs rs).objs.length co) := by rw [← hW2]; simp [go_sem]
  have k1 : W2.cell? ⟨w2.heap.size, 1, none⟩ = some (.slice ar2 (readG fs rs).roots.length cr2) := by rw [← hW2]; simp [go_sem]
  have Hc2 := hide (refReach_c ao ar2 co cr2 (readG fs rs) w2.heap.size W2 (hO.below hb2') (hV.below hb2') (by omega) (unhide HG))
  have HO := hide (hO.below hb2')
  have hbW2 : Below w.heap.size w W2 := hbw2.trans (hb2'.mono (by omega))
  clear Hc1 hO hV hW1 hb1 hb2 g0 g1
  go_wp2_with fail
  refine (unhide Hc2).mono ?_
  rintro e w3 ⟨ra, rc, he, hI, hb3⟩
  subst he
  have hs3 := hb3.size
  replace k0 := (hb3.cell (p := ⟨w2.heap.size, 0, none⟩) hs2').trans k0
  have hl3 : w2.heap.size < w3.heap.size := by omega
  have HI := hide hI
  replace HO := hide ((unhide HO).below (hb3.mono (by omega)))
  have Hrng : Hid (∀ x ∈ reachK (readG fs rs) (readG fs rs).objs.length, 0 ≤ x ∧ x < (readG fs rs).objs.length) := fun x hx => reachK_rng hx
  have hbw3 : Below w.heap.size w w3 := hbW2.trans (hb3.mono (by omega))
  have hrk : (reachK (readG fs rs) (readG fs rs).objs.length).length ≤ 256 := by have := reachK_len (readG fs rs) (readG fs rs).objs.length; have := unhide Hgl; omega
  have hol : (readG fs rs).objs.length ≤ 256 := by have := unhide Hgl; omega
  have Hst := hide (fun k => sumR_take_le fs (reachK (readG fs rs) (readG fs rs).objs.length) k)
  clear Hc2 hI hb3 hW2 Hgl HG
  generalize hRK : reachK (readG fs rs) (readG fs rs).objs.length = RK at *
  have HRK := hide hRK
  clear hRK
  go_wp2
  go_loopw [3, 12] (fun s i wr => ∃ k : Nat, k ≤ RK.length ∧ i = .int .i64 k ∧ s = .int .i64 (sumR fs (RK.take k) : Nat) ∧ Below w3.heap.size w3 wr) (fun _ i _ => RK.length - (intOf i).toNat)
  case atStart => exact ⟨0, Nat.zero_le _, rfl, rfl, Below.refl _ _⟩
  case round =>
    obtain ⟨k, hk, rfl, rfl, hb⟩ := hrel
    have hsz := hb.size
    have k0r := (hb.cell (p := ⟨w2.heap.size, 0, none⟩) hl3).trans k0
    have hlr : w2.heap.size < wr.heap.size := by omega
    by_cases hlt : k < RK.length
    · obtain ⟨b1, o1, rfl, hB1, hc1⟩ := ((unhide HI).below hb).at hlt
      have hrx := unhide Hrng _ (List.getElem_mem hlt)
      have HT := hide (sumR_take (fs := fs) hlt)
      have hT1 := unhide Hst (k + 1)
      rw [unhide HT] at hT1
      generalize RK[k] = x at *
      obtain ⟨j, rfl⟩ := Int.eq_ofNat_of_zero_le hrx.1
      have hjl : j < (readG fs rs).objs.length := by have := hrx.2; omega
      obtain ⟨b2, o2, ai, ci, rfl, hB2, hc2, _⟩ := ((unhide HO).below (hb.mono (by omega))).at hjl
      have hfe := unhide Hfl j _ (List.getElem?_eq_getElem hjl)
      rw [hfe] at hc2
      rw [Int.toNat_natCast] at HT hT1
      have hkI : (k : Int) < (RK.length : Int) := by omega
      have hjI : (j : Int) < ((readG fs rs).objs.length : Int) := by omega
      have hq1 : b1 < wr.heap.size := by omega
      have hq2 : b2 < wr.heap.size := by omega
      clear hfe hrx
      generalize (fs.getD j []).length = n at *
      generalize sumR fs (RK.take k) = sm at *
      have w1 : IntKind.i64.wrap ((sm : Int) + 1) = (sm : Int) + 1 := by rw [IntKind.wrap_i64]; omega
      have w2' : IntKind.i64.wrap ((sm : Int) + 1 + (n : Int)) = (sm : Int) + 1 + (n : Int) := by rw [IntKind.wrap_i64]; omega
      go_wp2
      go_roundw
      case rel => exact ⟨k + 1, by omega, by go_num, by rw [unhide HT]; go_num, hb⟩
      case measure => simp [intOf]; omega
    · obtain rfl : k = RK.length := by omega
      rw [List.take_length]
      go_wp2
      go_ret
      exact ⟨by rw [unhide HRK]; rfl, hbw3.trans (hb.mono (by omega))⟩

end Go.Proofs.Ytjhndbfhiknngaa

/- Walks: MarkTwice. -/
namespace Go.Proofs.Ytjhndbfhiknngaa
set_option linter.unusedSimpArgs false
set_option linter.unusedVariables false
open Go.RowKit Go.Shelf

theorem mkH_mkH (hs : List Int) (p q : Nat → Bool) : mkH (mkH hs p) q = mkH hs q := by
  apply List.ext_getElem?
  intro k
  rw [mkH_get, mkH_get, mkH_get]
  cases hs[k]? with
  | none => rfl
  | some x => simp [reh_reh]

/-- What holds of an arena that was marked. -/
theorem twice_plain {ws rs L R : List Int} {room : Int} (h : MrkIs ws rs room L R) (hE : mrkE ws rs room = 0) :
    ∃ hs fs p, Arn hs fs rs ∧ ws = joinW hs fs ∧ (∀ j, p j = true ↔ Rch fs rs j) ∧ L = joinW (mkH hs p) fs ∧ R = rs ∧ Arn (mkH hs p) fs rs ∧ arenaE L rs = 0 ∧ mrkE L rs room = 0 ∧ U64 L ∧ L.length = ws.length ∧ L.length ≤ 256 ∧
      (∀ L' R', MrkIs L rs room L' R' → L' = L ∧ R' = rs) ∧ (∀ hs' fs', Arn hs' fs' rs → L = joinW hs' fs' → sumB (sweepL hs' fs' fs'.length) + sumR fs (reachK (readG fs rs) (readG fs rs).objs.length) = ws.length ∧ Apart (sweepL hs' fs' fs'.length) 256 ∧ (sweepL hs' fs' fs'.length).length ≤ 256) := by
  rcases h with h | ⟨_, h1, h2, rfl, hs, fs, p, hA, hw, hp, rfl⟩
  · exact absurd hE h.1
  have hA' : Arn (mkH hs p) fs R := hA.same (fit_mkH hA.fit p)
  have hE' : arenaE (mW hs fs p) R = 0 := hA'.check
  have hm' : mrkE (mW hs fs p) R room = 0 := by rw [mrkE, if_neg (by simp [hE']), if_neg (by omega)]
  have hl : (mW hs fs p).length = ws.length := by rw [hw, mW_len hA.fit, joinW_len _ _ hA.fit.len]
  have h256 : (mW hs fs p).length ≤ 256 := by rw [mW_len hA.fit]; exact hA.n256
  refine ⟨hs, fs, p, hA, hw, hp, rfl, rfl, hA', hE', hm', joinW_u64 hA (fit_mkH hA.fit p), hl, h256, ?_, ?_⟩
  · intro L' R' h'
    rcases h' with h' | ⟨_, _, _, rfl, hs', fs', p', hA2, hw2, hp2, rfl⟩
    · exact absurd hm' h'.1
    · obtain ⟨rfl, rfl⟩ := arn_uniq hA' hA2 hw2
      rw [bool_fn_eq hp2 hp]
      exact ⟨by show joinW (mkH (mkH hs p) p) fs = joinW (mkH hs p) fs; rw [mkH_mkH], rfl⟩
  · intro hs' fs' hA2 hw2
    obtain ⟨rfl, rfl⟩ := arn_uniq hA' hA2 hw2
    have hsum := sweep_sum hA2.fit fs.length (Nat.le_refl _)
    have hap := sweep_apart hA2.fit fs.length (Nat.le_refl _)
    rw [List.take_length] at hsum hap
    have hr := sumR_mark hA hp fs.length (Nat.le_refl _)
    rw [readG_len, hr]
    have htot : tot fs = ws.length := by rw [hw, joinW_len _ _ hA.fit.len]
    have hn := hA.n256
    refine ⟨by omega, ⟨hap.1, hap.2.1, fun x hx => by have := hap.2.2 x hx; omega⟩, ?_⟩
    have := sweep_len (mkH hs p) fs fs.length
    have := tot_len fs
    omega

set_option maxRecDepth 100000 in
set_option maxHeartbeats 4000000 in
theorem twice_c (aw ar : Option Addr) (cw cr : Nat) (ws rs : List Int) (room : Int) (w : World) (hW : Wds w.heap.size w aw ws) (hR : Wds w.heap.size w ar rs) (hUW : U64 ws) (hUR : U64 rs) (hcap : ws.length ≤ cw) :
    Calls Try.prog 7 #[.agg #[.slice aw ws.length cw, .slice ar rs.length cr], .int .i64 room] w fun e w' => e = .returned (.bool true) ∧ Below w.heap.size w w' := by
  obtain ⟨W1, hW1⟩ : ∃ W1, w.alloc (.cells #[.slice aw ws.length cw, .slice ar rs.length cr] 24) = W1 := ⟨_, rfl⟩
  have hb1 : Below w.heap.size w W1 := by rw [← hW1]; exact (Below.refl w.heap.size w).alloc (Nat.le_refl _) _
  have hs1 : w.heap.size < W1.heap.size := by rw [← hW1]; simp
  have g0 : W1.cell? ⟨w.heap.size, 0, none⟩ = some (.slice aw ws.length cw) := by rw [← hW1]; simp [go_sem]
  have g1 : W1.cell? ⟨w.heap.size, 1, none⟩ = some (.slice ar rs.length cr) := by rw [← hW1]; simp [go_sem]
  have Hc1 := hide (mark_c aw ar cw cr ws rs room w.heap.size W1 (hW.below hb1) (hR.below hb1) hUW hUR (by omega) hcap)
  go_enter Try.func7, Try.ntmps7
  go_wp2_with fail
  refine (unhide Hc1).mono ?_
  rintro e w2 ⟨hres, hb2⟩
  obtain ⟨ba, bc, ba', bc', BL, BR, he, hBL, hBR, hbc, HB⟩ := hres.all
  subst he
  have hs2 := hb2.size
  have hbw2 : Below w.heap.size w w2 := hb1.trans (hb2.mono (by omega))
  obtain ⟨W2, hW2⟩ : ∃ W2, w2.alloc (.cells #[.slice ba BL.length bc, .slice ba' BR.length bc'] 24) = W2 := ⟨_, rfl⟩
  have hb2' : Below w2.heap.size w2 W2 := by rw [← hW2]; exact (Below.refl _ w2).alloc (Nat.le_refl _) _
  have hs2' : w2.heap.size < W2.heap.size := by rw [← hW2]; simp
  have k0 : W2.cell? ⟨w2.heap.size, 0, none⟩ = some (.slice ba BL.length bc) := by rw [← hW2]; simp [go_sem]
  have k1 : W2.cell? ⟨w2.heap.size, 1, none⟩ = some (.slice ba' BR.length bc') := by rw [← hW2]; simp [go_sem]
  replace g0 := (hb2'.cell (p := ⟨w.heap.size, 0, none⟩) (by simp; omega)).trans ((hb2.cell (p := ⟨w.heap.size, 0, none⟩) hs1).trans g0)
  replace g1 := (hb2'.cell (p := ⟨w.heap.size, 1, none⟩) (by simp; omega)).trans ((hb2.cell (p := ⟨w.heap.size, 1, none⟩) hs1).trans g1)
  have hbW2 : Below w.heap.size w W2 := hbw2.trans (hb2'.mono (by omega))
  have hwW2 : w.heap.size < W2.heap.size := by omega
  have HBL := hide ((hBL.below hb2').mono (Nat.le_of_lt hs2'))
  have HBR := hide ((hBR.below hb2').mono (Nat.le_of_lt hs2'))
  have Hc2 := hide (sound_c aw ar cw cr ws rs w.heap.size W2 (hW.below hbW2) (hR.below hbW2) hUW hUR (by omega))
  have HE1 : Hid (mrkE ws rs room = mrkE ws rs room) := hide rfl
  generalize hE1 : mrkE ws rs room = E1 at *
  replace HE1 := hide hE1
  clear Hc1 hres hBL hBR hE1 hb2 hbw2 hW1 hb1
  go_wp2_with fail
  refine (unhide Hc2).mono ?_
  rintro e w3 ⟨rfl, hb3⟩
  have hs3 := hb3.size
  have hbw3 : Below w.heap.size w w3 := hbW2.trans (hb3.mono (by omega))
  replace g0 := (hb3.cell (p := ⟨w.heap.size, 0, none⟩) hwW2).trans g0
  replace g1 := (hb3.cell (p := ⟨w.heap.size, 1, none⟩) hwW2).trans g1
  replace k0 := (hb3.cell (p := ⟨w2.heap.size, 0, none⟩) hs2').trans k0
  replace k1 := (hb3.cell (p := ⟨w2.heap.size, 1, none⟩) hs2').trans k1
  replace HBL := hide (((unhide HBL).below hb3).mono hs3)
  replace HBR := hide (((unhide HBR).below hb3).mono hs3)
  have hw3 : w.heap.size < w3.heap.size := by omega
  have hw3' : w2.heap.size < w3.heap.size := by omega
  clear Hc2 hW2 hb3 hb2'
  by_cases hE : arenaE ws rs = 0
  · have d0 : (arenaE ws rs == 0) = true := by simp [hE]
    rw [d0]
    by_cases hbad : room < 1 ∨ 64 < room
    · have hne : (E1 != 0) = true := by
        have := unhide HE1
        rw [mrkE, if_neg (by simp [hE]), if_pos hbad] at this
        rw [← this]; rfl
      rcases hbad with hr | hr
      · have d1 : decide (room < 1) = true := by simpa using hr
        go_wp2
        go_ret
        exact ⟨rfl, hbw3⟩
      · have d1 : decide (room < 1) = false := by simp; omega
        have d2 : decide (room > 64) = true := by simpa using hr
        have d2' : decide (64 < room) = true := by simpa using hr
        go_wp2
        go_ret
        exact ⟨rfl, hbw3⟩
    · have e0 : E1 = 0 := by rw [← unhide HE1, mrkE, if_neg (by simp [hE]), if_neg hbad]
      subst e0
      obtain ⟨hs, fs, p, hA, hws, hp, hL, hRR, hA', hE', hm', hUL, hll, h256, hun, hsw⟩ := twice_plain (unhide HB) (unhide HE1)
      subst hRR
      have d1 : decide (room < 1) = false := by simp; omega
      have d2 : decide (room > 64) = false := by simp; omega
      have d2' : decide (64 < room) = false := by simp; omega
      have Hc3 := hide (mark_c ba ba' bc bc' BL BR room w3.heap.size w3 (unhide HBL) (unhide HBR) hUL hUR (Nat.le_refl _) hbc)
      have Hun := hide hun
      have Hsw := hide hsw
      have HE' := hide hE'
      have Hm' := hide hm'
      have Hll := hide hll
      have HA := hide hA
      have Hws := hide hws
      have HL := hide hL
      have HUL := hide hUL
      clear hA hws hp hL hA' hE' hm' hUL hun hsw hE d0 hbad HB HE1
      rw [hll] at k0 Hc3 h256
      clear hll
      go_wp2_with fail
      refine (unhide Hc3).mono ?_
      rintro e w4 ⟨hres, hb4⟩
      obtain ⟨ca, cc, ca', cc', CL, CR, he, hCL, hCR, hcc, HC⟩ := hres.all
      rw [unhide Hm'] at he
      subst he
      obtain ⟨hc1, hc2⟩ := unhide Hun CL CR (unhide HC)
      subst hc1 hc2
      rw [unhide Hll]
      have hs4 := hb4.size
      have hbw4 : Below w.heap.size w w4 := hbw3.trans (hb4.mono (by omega))
      obtain ⟨W4, hW4⟩ : ∃ W4, w4.alloc (.cells #[.slice ca ws.length cc, .slice ca' CR.length cc'] 24) = W4 := ⟨_, rfl⟩
      have hb4' : Below w4.heap.size w4 W4 := by rw [← hW4]; exact (Below.refl _ w4).alloc (Nat.le_refl _) _
      have hs4' : w4.heap.size < W4.heap.size := by rw [← hW4]; simp
      have m0 : W4.cell? ⟨w4.heap.size, 0, none⟩ = some (.slice ca ws.length cc) := by rw [← hW4]; simp [go_sem]
      have m1 : W4.cell? ⟨w4.heap.size, 1, none⟩ = some (.slice ca' CR.length cc') := by rw [← hW4]; simp [go_sem]
      replace g0 := (hb4'.cell (p := ⟨w.heap.size, 0, none⟩) (by simp; omega)).trans ((hb4.cell (p := ⟨w.heap.size, 0, none⟩) hw3).trans g0)
      replace g1 := (hb4'.cell (p := ⟨w.heap.size, 1, none⟩) (by simp; omega)).trans ((hb4.cell (p := ⟨w.heap.size, 1, none⟩) hw3).trans g1)
      replace k0 := (hb4'.cell (p := ⟨w2.heap.size, 0, none⟩) (by simp; omega)).trans ((hb4.cell (p := ⟨w2.heap.size, 0, none⟩) hw3').trans k0)
      replace k1 := (hb4'.cell (p := ⟨w2.heap.size, 1, none⟩) (by simp; omega)).trans ((hb4.cell (p := ⟨w2.heap.size, 1, none⟩) hw3').trans k1)
      have hbW4 : Below w.heap.size w W4 := hbw4.trans (hb4'.mono (by omega))
      have hb34 : Below w3.heap.size w3 W4 := hb4.trans (hb4'.mono hs4)
      replace HBL := hide (((unhide HBL).below hb34).mono (B' := W4.heap.size) (by omega))
      replace HBR := hide (((unhide HBR).below hb34).mono (B' := W4.heap.size) (by omega))
      have HCL := hide ((hCL.below hb4').mono (B' := W4.heap.size) (by omega))
      have HCR := hide ((hCR.below hb4').mono (B' := W4.heap.size) (by omega))
      have hwW4 : w.heap.size < W4.heap.size := by omega
      have hwW4' : w2.heap.size < W4.heap.size := by omega
      have Hc5 : Hid (Calls Try.prog 9 #[.agg #[.slice ba ws.length bc, .slice ba' CR.length bc']] W4 fun e w' => SwRes CL CR e w' ∧ Below W4.heap.size W4 w') := by
        have := sweep_c ba ba' bc bc' CL CR W4.heap.size W4 (unhide HBL) (unhide HBR) (unhide HUL) hUR (Nat.le_refl _) hbc
        rw [unhide Hll] at this
        exact this
      clear Hc3 hres hCL hCR HC hb4 hbw4 hb34 Hun Hm' hb4'
      go_wp2_with fail
      refine (unhide Hc5).mono ?_
      rintro e w5 ⟨hres, hb5⟩
      obtain ⟨_, hs', fs', la, lc, hA5, hw5, he, hBl⟩ := hres.resolve_left (fun h => h.1 (unhide HE'))
      subst he
      obtain ⟨hsum, hap, hsl⟩ := unhide Hsw hs' fs' hA5 hw5
      have hs5 := hb5.size
      replace g0 := (hb5.cell (p := ⟨w.heap.size, 0, none⟩) hwW4).trans g0
      replace g1 := (hb5.cell (p := ⟨w.heap.size, 1, none⟩) hwW4).trans g1
      replace k0 := (hb5.cell (p := ⟨w2.heap.size, 0, none⟩) hwW4').trans k0
      replace k1 := (hb5.cell (p := ⟨w2.heap.size, 1, none⟩) hwW4').trans k1
      replace m0 := (hb5.cell (p := ⟨w4.heap.size, 0, none⟩) hs4').trans m0
      replace m1 := (hb5.cell (p := ⟨w4.heap.size, 1, none⟩) hs4').trans m1
      have hbw5 : Below w.heap.size w w5 := hbW4.trans (hb5.mono (by omega))
      have Hc6 : Hid (Calls Try.prog 11 #[.agg #[.slice ba ws.length bc, .slice ba' CR.length bc'], .agg #[.slice ca ws.length cc, .slice ca' CR.length cc']] w5 fun e w' => e = .returned (.bool true) ∧ Below w5.heap.size w5 w') := by
        have := arenas_eq_c ba ba' ca ca' bc bc' cc cc' CL CR CL CR w5.heap.size w5 (((unhide HBL).below hb5).mono hs5) (((unhide HBR).below hb5).mono hs5) (((unhide HCL).below hb5).mono hs5) (((unhide HCR).below hb5).mono hs5) (Nat.le_refl _)
        simp only [decide_true, Bool.and_self] at this
        rw [unhide Hll] at this
        exact this
      have HBl := hide hBl
      have Hsum := hide hsum
      have hsl' := hsl
      have Hap := hide (apart_le hap)
      have Hst := hide (fun k => sumB_take_le (sweepL hs' fs' fs'.length) k)
      have hle1 : sumB (sweepL hs' fs' fs'.length) ≤ 256 := by omega
      have hle2 : sumR fs (reachK (readG fs CR) (readG fs CR).objs.length) ≤ 256 := by omega
      have hw5' : w.heap.size < w5.heap.size := by omega
      have hw5'' : w2.heap.size < w5.heap.size := by omega
      have hw5''' : w4.heap.size < w5.heap.size := by omega
      have d5 : ((ws.length : Int) != (ws.length : Int)) = false := by simp
      clear Hc5 hres hBl hsum hap hsl hA5 hw5 hb5 HBL HBR HCL HCR Hsw hW4 HE'
      generalize sweepL hs' fs' fs'.length = SL at *
      go_wp2_with fail
      refine (unhide Hc6).mono ?_
      rintro e w6 ⟨rfl, hb6⟩
      have hs6 := hb6.size
      replace g0 := (hb6.cell (p := ⟨w.heap.size, 0, none⟩) hw5').trans g0
      replace g1 := (hb6.cell (p := ⟨w.heap.size, 1, none⟩) hw5').trans g1
      replace k0 := (hb6.cell (p := ⟨w2.heap.size, 0, none⟩) hw5'').trans k0
      have hbw6 : Below w.heap.size w w6 := hbw5.trans (hb6.mono (by omega))
      replace HBl := hide (((unhide HBl).below hb6).mono hs6)
      have hw6 : w.heap.size < w6.heap.size := by omega
      have hw6' : w2.heap.size < w6.heap.size := by omega
      clear Hc6 hb6 m0 m1 k1
      go_wp2
      go_loopw [11, 71] (fun s i wr => ∃ k : Nat, k ≤ SL.length ∧ i = .int .i64 k ∧ s = .int .i64 (sumB (SL.take k) : Nat) ∧ Below w6.heap.size w6 wr) (fun _ i _ => SL.length - (intOf i).toNat)
      case atStart => exact ⟨0, Nat.zero_le _, rfl, rfl, Below.refl _ _⟩
      case round =>
        obtain ⟨k, hk, rfl, rfl, hb⟩ := hrel
        have hsz := hb.size
        have g0r := (hb.cell (p := ⟨w.heap.size, 0, none⟩) hw6).trans g0
        have g1r := (hb.cell (p := ⟨w.heap.size, 1, none⟩) hw6).trans g1
        have hlr : w.heap.size < wr.heap.size := by omega
        by_cases hlt : k < SL.length
        · obtain ⟨b, off, q, n, rfl, hbB, hc0, hc1, Hpn⟩ := ((unhide HBl).below hb).at hlt
          have HT := hide (sumB_take hlt (unhide Hpn))
          have hT1 := unhide Hst (k + 1)
          rw [unhide HT] at hT1
          have hkI : (k : Int) < (SL.length : Int) := by omega
          have hq : b < wr.heap.size := by omega
          clear Hpn
          generalize sumB (SL.take k) = sm at *
          have w9 : IntKind.i64.wrap ((sm : Int) + (n : Int)) = (sm : Int) + (n : Int) := by rw [IntKind.wrap_i64]; omega
          go_wp2
          go_roundw
          case rel => exact ⟨k + 1, by omega, by go_num, by rw [unhide HT]; go_num, hb.alloc hsz _⟩
          case measure => simp [intOf]; omega
        · obtain rfl : k = SL.length := by omega
          rw [List.take_length]
          have hkI : ¬ ((SL.length : Int) < (SL.length : Int)) := by omega
          have hbwr : Below w.heap.size w wr := hbw6.trans (hb.mono (by omega))
          have Hc8 := hide (size_c aw ar cw cr ws CR hs fs w.heap.size wr.drew (hW.below hbwr.drew) (hR.below hbwr.drew) hUW hUR (by show w.heap.size ≤ wr.heap.size; omega) (unhide HA) (unhide Hws) hle2)
          have Hs2 : Hid (sumB SL + sumR fs (reachK (readG fs CR) (readG fs CR).objs.length) = ws.length) := Hsum
          clear HBl Hst Hap
          generalize sumR fs (reachK (readG fs CR) (readG fs CR).objs.length) = sr at *
          generalize sumB SL = sb at *
          have e9 : (ws.length : Int) - (sr : Int) = (sb : Int) := by have := unhide Hs2; omega
          have w9 : IntKind.i64.wrap ((ws.length : Int) - (sr : Int)) = (sb : Int) := by rw [IntKind.wrap_i64]; omega
          have d9 : ((sb : Int) == (sb : Int)) = true := by simp
          go_wp2
          go_region_with (go_at_call 25; go_must (refine (unhide Hc8).mono ?_); go_must (rintro e w9 ⟨he, hb9⟩; subst he; have g09 := (hb9.cell (p := ⟨w.heap.size, 0, none⟩) hlr).trans g0r; have g19 := (hb9.cell (p := ⟨w.heap.size, 1, none⟩) hlr).trans g1r; have hs9 := hb9.size; have hl9 : w.heap.size < w9.heap.size := Nat.lt_of_lt_of_le hlr hs9))
          all_goals
            go_wp2
            go_ret
            exact ⟨ret_bool (by simp; rw [IntKind.wrap_i64]; omega), hbwr.trans ((Below.refl _ wr).drew.trans (hb9.mono (Nat.le_of_lt hlr)))⟩
  · have d0 : (arenaE ws rs == 0) = false := by simp [hE]
    have hne : (E1 != 0) = true := by
      have := unhide HE1
      rw [mrkE, if_pos hE] at this
      rw [← this]; simpa using hE
    rw [d0]
    go_wp2
    go_ret
    exact ⟨rfl, hbw3⟩

end Go.Proofs.Ytjhndbfhiknngaa
