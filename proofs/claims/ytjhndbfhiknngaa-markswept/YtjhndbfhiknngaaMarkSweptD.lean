/- Merged texts: Pe Pf. -/
import Derived.Test.YtjhndbfhiknngaaProg
import Derived.Test.YtjhndbfhiknngaaMarkSweptC

/- Walks: the document's Heads. -/
namespace Go.Proofs.Ytjhndbfhiknngaa
set_option linter.unusedSimpArgs false
set_option linter.unusedVariables false
open Go.RowKit Go.Shelf

/-- The headers of words. -/
def headsH (hs : List Int) : List Hd := hs.map fun x => (uhL x, uhM x, uhA x)
theorem headsH_len (hs : List Int) : (headsH hs).length = hs.length := by simp [headsH]
theorem headsH_succ {hs : List Int} {k : Nat} {x : Int} (hx : hs[k]? = some x) : headsH (hs.take (k + 1)) = headsH (hs.take k) ++ [(uhL x, uhM x, uhA x)] := by
  have hk := (List.getElem?_eq_some_iff.1 hx).1
  rw [List.take_succ_eq_append_getElem hk, (List.getElem?_eq_some_iff.1 hx).2]
  simp [headsH]

theorem owns_mono {w : World} {base base' : Nat} {e : TypeId} {size : Nat} {v : Value} {n : Nat} {xs : List Value} (h : w.ownsRow base e size v n xs) (hb : base' ≤ base) : w.ownsRow base' e size v n xs := by
  refine ⟨h.1, ?_⟩
  rcases h.2 with h2 | ⟨g, cap, cur, h1, h2, h3⟩
  · exact .inl h2
  · exact .inr ⟨g, cap, cur, h1, by omega, h3⟩

set_option maxRecDepth 100000 in
set_option maxHeartbeats 2000000 in
theorem heads_c (aw ar : Option Addr) (cw nr cr : Nat) (ws : List Int) (hs : List Int) (fs : List (List Int)) (B : Nat) (w : World) (hW : Wds B w aw ws) (hUW : U64 ws) (hB : B ≤ w.heap.size) (hF : Fit hs fs) (hws : ws = joinW hs fs) (h256 : ws.length ≤ 256) :
    Calls Try.prog 24 #[.agg #[.slice aw ws.length cw, .slice ar nr cr]] w fun e w' => (∃ v, e = .returned v ∧ w'.ownsRow w.heap.size 51 3 v hs.length (cellsH (headsH hs))) ∧ Below w.heap.size w w' := by
  obtain ⟨i0, hi0, hz0, hz1, hz2⟩ := info_parts Try.info51
  have hsp : splitR ws = some fs := by rw [hws]; exact fit_split hF
  have htot : tot fs = ws.length := by rw [hws, joinW_len _ _ hF.len]
  obtain ⟨W1, hW1⟩ : ∃ W1, w.alloc (.cells #[.slice aw ws.length cw, .slice ar nr cr] 24) = W1 := ⟨_, rfl⟩
  have hb1 : Below w.heap.size w W1 := by rw [← hW1]; exact (Below.refl w.heap.size w).alloc (Nat.le_refl _) _
  have hs1 : w.heap.size < W1.heap.size := by rw [← hW1]; simp
  have g0 : W1.cell? ⟨w.heap.size, 0, none⟩ = some (.slice aw ws.length cw) := by rw [← hW1]; simp [go_sem]
  have Hc1 := hide (rstarts_c aw cw ws B W1 (hW.below (hb1.mono hB)) hUW (by omega) h256)
  have Hw : Hid (∀ k x, hs[k]? = some x → ws[tot (fs.take k)]? = some x) := fun k x hx => by
    have hk : k < fs.length := by have := (List.getElem?_eq_some_iff.1 hx).1; have := hF.len; omega
    rw [hws, joinW_get _ _ _ hF.len hk]; exact hx
  have Hat : Hid (∀ k, k < fs.length → ∃ x, hs[k]? = some x ∧ unheadOk x = true ∧ wlen x = (fs.getD k []).length ∧ 0 ≤ x ∧ x < 18446744073709551616) := fun k hk => by
    obtain ⟨x, h1, h2, h3, h4⟩ := fit_at hF hk
    exact ⟨x, h1, h2, by rw [List.getD_eq_getElem?_getD, List.getElem?_eq_getElem hk]; exact h3, h4⟩
  have hlen : hs.length ≤ fs.length := by have := hF.len; omega
  have hlen' : fs.length ≤ hs.length := by have := hF.len; omega
  have htl := tot_len fs
  have Hsp := hide hsp
  have htw : tot fs ≤ ws.length := by omega
  clear hF hws hsp htot
  go_enter Try.func24, Try.ntmps24
  go_wp2_with fail
  refine (unhide Hc1).mono ?_
  rintro e w2 ⟨hres, hb2⟩
  obtain ⟨fs', sa, sc, hfs', he, hI⟩ := hres.resolve_left (fun h => by have := unhide Hsp; rw [h.1] at this; cases this)
  obtain rfl : fs' = fs := by have := unhide Hsp; rw [hfs'] at this; injection this
  subst he
  have hs2 := hb2.size
  have hbw2 : Below w.heap.size w w2 := hb1.trans (hb2.mono (by omega))
  replace g0 := (hb2.cell (p := ⟨w.heap.size, 0, none⟩) hs1).trans g0
  have hl2 : w.heap.size < w2.heap.size := by omega
  have HI := hide hI
  have HW := hide (hW.below (hbw2.mono hB))
  have hst : (stF 0 fs').length = fs'.length := stF_len fs' 0
  have hst1 : (stF 0 fs').length ≤ fs'.length := by omega
  have hst2 : fs'.length ≤ (stF 0 fs').length := by omega
  have Hsg := hide (fun k hk => stF_get fs' 0 k hk)
  clear hW1 Hc1 hres hfs' hI hb1 hb2 hst hW
  go_wp2
  go_loopw [5, 18] (fun s i wr => ∃ k : Nat, k ≤ fs'.length ∧ i = .int .i64 k ∧ wr.ownsRow w2.heap.size 51 3 s k (cellsH (headsH (hs.take k))) ∧ Below w2.heap.size w2 wr) (fun _ i _ => fs'.length - (intOf i).toNat)
  case atStart => exact ⟨0, Nat.zero_le _, rfl, by simpa [cellsH, headsH] using World.ownsRow_nil _ _ _ _, Below.refl _ _⟩
  case round =>
    obtain ⟨k, hk, rfl, hown, hb⟩ := hrel
    have hsz := hb.size
    have g0r := (hb.cell (p := ⟨w.heap.size, 0, none⟩) hl2).trans g0
    have hlr : w.heap.size < wr.heap.size := by omega
    by_cases hlt : k < fs'.length
    · obtain ⟨x, hx, hx1, hx2, hx3, hx4⟩ := unhide Hat k hlt
      have hltS : k < (stF 0 fs').length := by omega
      obtain ⟨b1, o1, rfl, hB1, hc1⟩ := ((unhide HI).below hb).at hltS
      have h1 := unhide Hsg k hlt
      rw [List.getElem?_eq_getElem hltS, Option.some.injEq, Nat.zero_add] at h1
      rw [h1] at hc1
      have hwx := unhide Hw k x hx
      have hpl : tot (fs'.take k) < ws.length := (List.getElem?_eq_some_iff.1 hwx).1
      obtain ⟨b2, o2, rfl, hB2, hc2⟩ := ((unhide HW).below (hb.mono (by omega))).at hpl
      rw [(List.getElem?_eq_some_iff.1 hwx).2] at hc2
      have HS := hide (headsH_succ hx)
      have hkI : (k : Int) < ((stF 0 fs').length : Int) := by omega
      have hpI : ((tot (fs'.take k) : Nat) : Int) < (ws.length : Int) := by omega
      have hq1 : b1 < wr.heap.size := by omega
      have hq2 : b2 < wr.heap.size := by omega
      clear h1 hwx hx hx2
      generalize tot (fs'.take k) = q at *
      generalize (stF 0 fs').length = sl at *
      go_wp2_with (first
        | (go_at_call 34; go_must (refine (runhead_c x _ hx3 hx4).mono ?_); go_must (rintro e w3 ⟨he, hb3⟩; subst he; have hs3 := hb3.size; have hown3 := ownsRow_below hown hb3))
        | (at_builtin; go_must (refine wpList_append_own _ rfl _ _ 58 rfl w2.heap.size 51 i0 _ 3 24 Try.underlying58 hi0 hz0 hz1 hz2 rfl (by decide) _ _ _ rfl ((hown3.alloc _).alloc _) ⟨w3.heap.size + 1, 0, none⟩ 1 1 [.int .i64 (uhL x), .bool (uhM x), .int .i64 (uhA x)] rfl rfl (cell_three_at _ _ _ _ _ _ (by simp)) (by simp [Value.oneCell']) (by simp only [maxLen]; omega) (by omega) (by simp; omega) ?_); intro v' w1 hown' hgrow _))
      go_roundw
      case rel => exact ⟨k + 1, by omega, by go_num, by rw [unhide HS, cellsH_snoc]; exact hown', (((hb.trans (hb3.mono hsz)).alloc (by omega) _).alloc (by simp; omega) _).grown hgrow (by simp; omega) (fun q e => (hown3.lt q e).1)⟩
      case measure => simp [intOf]; omega
    · obtain rfl : k = fs'.length := by omega
      have hkI : ¬ ((fs'.length : Int) < ((stF 0 fs').length : Int)) := by omega
      have Hown : Hid (wr.ownsRow w.heap.size 51 3 u5 fs'.length (cellsH (headsH hs))) := by
        have := owns_mono (base' := w.heap.size) hown (by omega)
        rw [List.take_of_length_le hlen] at this
        exact this
      have Hln : Hid (hs.length = fs'.length) := by show _ = _; omega
      clear hown
      go_wp2
      go_ret
      refine ⟨⟨_, rfl, ?_⟩, hbw2.trans (hb.mono (by omega))⟩
      rw [unhide Hln]
      exact unhide Hown

end Go.Proofs.Ytjhndbfhiknngaa

/- Walks: MarkSwept. -/
namespace Go.Proofs.Ytjhndbfhiknngaa
set_option linter.unusedSimpArgs false
set_option linter.unusedVariables false
open Go.RowKit Go.Shelf

theorem sumB_take {l : List (Nat × Nat)} {k p n : Nat} (hk : k < l.length) (h : l[k] = (p, n)) : sumB (l.take (k + 1)) = sumB (l.take k) + n := by
  rw [List.take_succ_eq_append_getElem hk, sumB_snoc, h]
theorem sumB_take_le : ∀ (l : List (Nat × Nat)) (k : Nat), sumB (l.take k) ≤ sumB l
  | [], k => by simp
  | x :: l, 0 => by simp [sumB]
  | x :: l, k + 1 => by have := sumB_take_le l k; simp [sumB] at *; omega
theorem markS_succ {hs : List Int} {fs : List (List Int)} {k : Nat} {x : Int} (hx : hs[k]? = some x) (hk : k < fs.length) : markS hs fs (k + 1) = markS hs fs k + if uhM x then 1 + fs[k].length else 0 := by
  simp [markS, List.getD_eq_getElem?_getD, hx, hk]
theorem markS_mono (hs : List Int) (fs : List (List Int)) : ∀ k m, k ≤ m → markS hs fs k ≤ markS hs fs m
  | k, 0, h => by obtain rfl : k = 0 := by omega
                  exact Nat.le_refl _
  | k, m + 1, h => by
    rcases Nat.lt_or_ge k (m + 1) with h1 | h1
    · have := markS_mono hs fs k m (by omega)
      have e : markS hs fs (m + 1) = markS hs fs m + if uhM (hs.getD m 0) then 1 + (fs.getD m []).length else 0 := rfl
      omega
    · obtain rfl : k = m + 1 := by omega
      exact Nat.le_refl _

set_option maxRecDepth 100000 in
set_option maxHeartbeats 4000000 in
theorem swept_c (aw ar : Option Addr) (cw cr : Nat) (ws rs : List Int) (w : World) (hW : Wds w.heap.size w aw ws) (hR : Wds w.heap.size w ar rs) (hUW : U64 ws) (hUR : U64 rs) (hcap : ws.length ≤ cw) :
    Calls Try.prog 6 #[.agg #[.slice aw ws.length cw, .slice ar rs.length cr]] w fun e w' => e = .returned (.bool true) ∧ Below w.heap.size w w' := by
  obtain ⟨W1, hW1⟩ : ∃ W1, w.alloc (.cells #[.slice aw ws.length cw, .slice ar rs.length cr] 24) = W1 := ⟨_, rfl⟩
  have hb1 : Below w.heap.size w W1 := by rw [← hW1]; exact (Below.refl w.heap.size w).alloc (Nat.le_refl _) _
  have hs1 : w.heap.size < W1.heap.size := by rw [← hW1]; simp
  have g0 : W1.cell? ⟨w.heap.size, 0, none⟩ = some (.slice aw ws.length cw) := by rw [← hW1]; simp [go_sem]
  have g1 : W1.cell? ⟨w.heap.size, 1, none⟩ = some (.slice ar rs.length cr) := by rw [← hW1]; simp [go_sem]
  have Hc1 := hide (sound_c aw ar cw cr ws rs w.heap.size W1 (hW.below hb1) (hR.below hb1) hUW hUR (by omega))
  go_enter Try.func6, Try.ntmps6
  go_wp2_with fail
  refine (unhide Hc1).mono ?_
  rintro e w2 ⟨rfl, hb2⟩
  clear hW1 Hc1
  have hs2 := hb2.size
  have hbw2 : Below w.heap.size w w2 := hb1.trans (hb2.mono (by omega))
  replace g0 := (hb2.cell (p := ⟨w.heap.size, 0, none⟩) hs1).trans g0
  replace g1 := (hb2.cell (p := ⟨w.heap.size, 1, none⟩) hs1).trans g1
  by_cases hE : arenaE ws rs = 0
  · have d0 : (arenaE ws rs == 0) = true := by simp [hE]
    rw [d0]
    have HE := hide hE
    have Hc2 := hide (sweep_c aw ar cw cr ws rs w.heap.size w2 (hW.below hbw2) (hR.below hbw2) hUW hUR (by omega) hcap)
    clear hb1 hb2 hE d0
    go_wp2_with fail
    refine (unhide Hc2).mono ?_
    rintro e w3 ⟨hres, hb3⟩
    obtain ⟨_, hs, fs, la, lc, hA, hws, he, hBl⟩ := hres.resolve_left (fun h => h.1 (unhide HE))
    subst he
    have hF := hA.fit
    have htot : tot fs = ws.length := by rw [hws, joinW_len _ _ hF.len]
    have h256 : ws.length ≤ 256 := by have := hA.n256; omega
    have hap := sweep_apart hF fs.length (Nat.le_refl _)
    have hsum := sweep_sum hF fs.length (Nat.le_refl _)
    have hsl := sweep_len hs fs fs.length
    have htl := tot_len fs
    rw [List.take_length] at hap hsum
    have Hle := hide (apart_le hap)
    have Hap := hide hap
    have Hsum := hide hsum
    have hs3 := hb3.size
    have hbw3 : Below w.heap.size w w3 := hbw2.trans (hb3.mono (by omega))
    replace g0 := (hb3.cell (p := ⟨w.heap.size, 0, none⟩) (by simp; omega)).trans g0
    replace g1 := (hb3.cell (p := ⟨w.heap.size, 1, none⟩) (by simp; omega)).trans g1
    have hl3 : w.heap.size < w3.heap.size := by omega
    have HBl := hide hBl
    have HF := hide hF
    have Hws := hide hws
    have htb : tot fs ≤ 256 := by omega
    have hsb : sumB (sweepL hs fs fs.length) + markS hs fs fs.length ≤ 256 := by omega
    have Hst := hide (fun k => sumB_take_le (sweepL hs fs fs.length) k)
    have Htot := hide htot
    have Hms := hide (fun k (h : k ≤ fs.length) => markS_mono hs fs k fs.length h)
    have hfl : fs.length ≤ 256 := by omega
    have hsl' : (sweepL hs fs fs.length).length ≤ 256 := by omega
    clear Hc2 hres hBl hws hA hF htot hap hsum hb3 hsl htl
    generalize hSL : sweepL hs fs fs.length = SL at *
    clear hSL
    go_wp2
    go_loopw [5, 6] (fun s i wr => ∃ k : Nat, k ≤ SL.length ∧ i = .int .i64 k ∧ s = .int .i64 (sumB (SL.take k) : Nat) ∧ Below w3.heap.size w3 wr) (fun _ i _ => SL.length - (intOf i).toNat)
    case atStart => exact ⟨0, Nat.zero_le _, rfl, rfl, Below.refl _ _⟩
    case round =>
      obtain ⟨k, hk, rfl, rfl, hb⟩ := hrel
      have hsz := hb.size
      have g0r := (hb.cell (p := ⟨w.heap.size, 0, none⟩) hl3).trans g0
      have g1r := (hb.cell (p := ⟨w.heap.size, 1, none⟩) hl3).trans g1
      have hlr : w.heap.size < wr.heap.size := by omega
      by_cases hlt : k < SL.length
      · obtain ⟨b, off, p, n, rfl, hbB, hc0, hc1, Hpn⟩ := ((unhide HBl).below hb).at hlt
        have hone := (unhide Hap).1 _ (List.getElem_mem hlt)
        rw [unhide Hpn] at hone
        have hple := unhide Hle _ (List.getElem_mem hlt)
        rw [unhide Hpn] at hple
        simp only at hone hple
        have HT := hide (sumB_take hlt (unhide Hpn))
        have hT1 := unhide Hst (k + 1)
        rw [unhide HT] at hT1
        have hkI : (k : Int) < (SL.length : Int) := by omega
        have hq : b < wr.heap.size := by omega
        have e1 : decide ((n : Int) < 1) = false := by simp; omega
        have e2 : decide ((p : Int) < 0) = false := by simp
        have hnext : Hid (∀ a m, 0 < k → SL[k - 1]? = some (a, m) → a + m < p) := fun a m h0 ha => by
          have := (unhide Hap).2.1 (k - 1) (a, m) (p, n) ha (by rw [show k - 1 + 1 = k by omega, List.getElem?_eq_getElem hlt, unhide Hpn])
          simpa using this
        generalize hsm : sumB (SL.take k) = sm at *
        clear hsm
        have w9 : IntKind.i64.wrap ((sm : Int) + (n : Int)) = (sm : Int) + (n : Int) := by rw [IntKind.wrap_i64]; omega
        rcases Nat.eq_zero_or_pos k with h0 | h0
        · subst h0
          have e3 : decide (((0 : Nat) : Int) > 0) = false := by decide
          have e3' : decide ((0 : Int) < ((0 : Nat) : Int)) = false := by decide
          simp only [Nat.zero_mul, Nat.add_zero] at hc0 hc1
          go_wp2
          go_quiet (fail)
          have hbn := below_drewN hb nq
          have hc1n : (wr.drewN nq).cell? ⟨b, off + 1, none⟩ = some (.int .i64 (n : Nat)) := hc1
          have hqn : b < (wr.drewN nq).heap.size := hq
          clear hc0 hc1 g0r g1r hq hlr
          generalize wr.drewN nq = wq at *
          go_wp2
          go_roundw
          case rel => exact ⟨1, by omega, by go_num, by rw [unhide HT]; go_num, hbn⟩
          case measure => simp [intOf]; omega
        · obtain ⟨k', rfl⟩ : ∃ k', k = k' + 1 := ⟨k - 1, by omega⟩
          have hlt' : k' < SL.length := by omega
          obtain ⟨b', off', p', n', hbb, hbB', hd0, hd1, Hpn'⟩ := ((unhide HBl).below hb).at hlt'
          injection hbb with hbb
          injection hbb with hbb1 hbb2
          subst hbb1 hbb2
          have hlt3 := unhide hnext p' n' h0 (by rw [show k' + 1 - 1 = k' by omega, List.getElem?_eq_getElem hlt', unhide Hpn'])
          have e3 : decide (((k' + 1 : Nat) : Int) > 0) = true := decide_eq_true (by omega)
          have e3' : decide ((0 : Int) < ((k' + 1 : Nat) : Int)) = true := decide_eq_true (by omega)
          have f1 : ((k' + 1 : Nat) : Int) - 1 = (k' : Int) := by omega
          have w1 : IntKind.i64.wrap (((k' + 1 : Nat) : Int) - 1) = (k' : Int) := by rw [IntKind.wrap_i64]; omega
          have hkI' : (k' : Int) < (SL.length : Int) := by omega
          have w2 : IntKind.i64.wrap ((p' : Int) + (n' : Int)) = (p' : Int) + (n' : Int) := by rw [IntKind.wrap_i64]; omega
          have e4 : decide ((p' : Int) + (n' : Int) ≥ (p : Int)) = false := by simp; omega
          have e4' : decide ((p : Int) ≤ (p' : Int) + (n' : Int)) = false := by simp; omega
          go_wp2
          go_quiet (fail)
          have hbn := below_drewN hb nq
          have hc1n : (wr.drewN nq).cell? ⟨b, off + (k' + 1) * 2 + 1, none⟩ = some (.int .i64 (n : Nat)) := hc1
          have hqn : b < (wr.drewN nq).heap.size := hq
          clear hc0 hc1 hd0 hd1 g0r g1r hq hlr
          generalize wr.drewN nq = wq at *
          go_wp2
          go_roundw
          case rel => exact ⟨k' + 1 + 1, by omega, by go_num, by rw [unhide HT]; go_num, hbn⟩
          case measure => simp [intOf]; omega
      · obtain rfl : k = SL.length := by omega
        rw [List.take_length]
        have hbwr : Below w.heap.size w wr := hbw3.trans (hb.mono (by omega))
        have Hc4 := hide (heads_c aw ar cw rs.length cr ws hs fs w.heap.size wr (hW.below hbwr) hUW (by omega) (unhide HF) (unhide Hws) h256)
        have hkI : ¬ ((SL.length : Int) < (SL.length : Int)) := by omega
        clear HBl Hle Hap
        go_wp2_with fail
        refine (unhide Hc4).mono ?_
        rintro e w5 ⟨⟨v, he, hown⟩, hb5⟩
        subst he
        have hs5 := hb5.size
        obtain ⟨ha, hc, hv, hHd⟩ := hdrs_of_owns hown (headsH_len hs).symm (by have := (unhide HF).len; omega)
        subst hv
        have hln : (headsH hs).length = fs.length := by rw [headsH_len, (unhide HF).len]
        rw [hln]
        have Hhd : Hid (∀ k, k < fs.length → ∃ x, hs[k]? = some x ∧ (headsH hs)[k]? = some ((((fs.getD k []).length : Nat) : Int), uhM x, uhA x) ∧ markS hs fs (k + 1) = markS hs fs k + if uhM x then 1 + (fs.getD k []).length else 0) := fun k hk => by
          obtain ⟨x, h1, h2, h3, _⟩ := fit_at (unhide HF) hk
          have e2 : fs.getD k [] = fs[k] := by rw [List.getD_eq_getElem?_getD, List.getElem?_eq_getElem hk]; rfl
          rw [e2]
          exact ⟨x, h1, by simp only [headsH, List.getElem?_map, h1, Option.map_some]; rw [uhL_wlen h2, h3], markS_succ h1 hk⟩
        have HHd := hide hHd
        have Hln := hide hln
        have hbw5 : Below w.heap.size w w5 := hbwr.trans (hb5.mono (by omega))
        replace g0r := (hb5.cell (p := ⟨w.heap.size, 0, none⟩) (by simp; omega)).trans g0r
        have hl5 : w.heap.size < w5.heap.size := by omega
        clear hown hHd hln Hc4 hb5
        generalize headsH hs = HH at *
        generalize sumB SL = sb at *
        go_wp2
        go_loopw [5, 76] (fun s i wr => ∃ k : Nat, k ≤ fs.length ∧ i = .int .i64 k ∧ s = .int .i64 (sb + markS hs fs k : Nat) ∧ Below w5.heap.size w5 wr) (fun _ i _ => fs.length - (intOf i).toNat)
        case atStart => exact ⟨0, Nat.zero_le _, rfl, rfl, Below.refl _ _⟩
        case round =>
          obtain ⟨k, hk, rfl, rfl, hb6⟩ := hrel
          have hsz6 := hb6.size
          have g06 := (hb6.cell (p := ⟨w.heap.size, 0, none⟩) hl5).trans g0r
          have hl6 : w.heap.size < wr.heap.size := by omega
          have hmk := unhide Hms k hk
          by_cases hlt : k < fs.length
          · obtain ⟨x, hx, hhk, hsu⟩ := unhide Hhd k hlt
            have hltH : k < HH.length := by have := unhide Hln; omega
            obtain ⟨b, off, n, m, a, rfl, hbB, hc0, hc1, hc2, Hnma⟩ := ((unhide HHd).below hb6).at hltH
            rw [List.getElem?_eq_getElem hltH, unhide Hnma, Option.some.injEq, Prod.mk.injEq, Prod.mk.injEq] at hhk
            obtain ⟨rfl, rfl, rfl⟩ := hhk
            have hmk1 := unhide Hms (k + 1) (by omega)
            have HS := hide hsu
            rw [hsu] at hmk1
            have hq : b < wr.heap.size := by omega
            have hkI : (k : Int) < (fs.length : Int) := by omega
            clear hsu hx Hnma
            generalize (fs.getD k []).length = n at *
            generalize markS hs fs k = mk at *
            cases hm : uhM x
            · rw [hm] at hc1 HS hmk1
              clear hm
              go_wp2
              go_roundw
              case rel => exact ⟨k + 1, by omega, by go_num, by rw [unhide HS]; simp, hb6.alloc hsz6 _⟩
              case measure => simp [intOf]; omega
            · rw [hm] at hc1 HS hmk1
              simp only [if_true] at hmk1
              clear hm
              have w1 : IntKind.i64.wrap (((sb + mk : Nat) : Int) + 1) = ((sb + mk : Nat) : Int) + 1 := by rw [IntKind.wrap_i64]; omega
              have w2 : IntKind.i64.wrap (((sb + mk : Nat) : Int) + 1 + (n : Int)) = ((sb + mk : Nat) : Int) + 1 + (n : Int) := by rw [IntKind.wrap_i64]; omega
              go_wp2
              go_roundw
              case rel => exact ⟨k + 1, by omega, by go_num, by rw [unhide HS]; simp only [if_true]; congr 1; omega, hb6.alloc hsz6 _⟩
              case measure => simp [intOf]; omega
          · obtain rfl : k = fs.length := by omega
            have hkI : ¬ ((fs.length : Int) < (fs.length : Int)) := by omega
            have Hend : Hid (sb + markS hs fs fs.length = ws.length) := by show _ = _; have := unhide Hsum; have := unhide Htot; omega
            rw [unhide Hend]
            go_wp2
            go_ret
            exact ⟨ret_bool (by simp), hbw5.trans (hb6.mono (by omega))⟩
  · have d0 : (arenaE ws rs == 0) = false := by simp [hE]
    have HE := hide hE
    rw [d0]
    have Hc2 := hide (unsound_c aw ar cw cr ws rs w.heap.size w2 (hW.below hbw2) (hR.below hbw2) hUW hUR (by omega) hcap)
    clear hE
    go_wp2_with fail
    refine (unhide Hc2).mono ?_
    rintro e w3 ⟨he, hb3⟩
    have d3 : (arenaE ws rs != 0) = true := by simpa using unhide HE
    rw [d3] at he
    subst he
    go_wp2
    go_ret
    exact ⟨rfl, hbw2.trans (hb3.mono (by omega))⟩

end Go.Proofs.Ytjhndbfhiknngaa
