/- Merged texts: Me Pe Ta Tc Cb Tb Pa Md Mf Pb Mh Mi Pc Pd. -/
import Derived.Test.YtjhndbfhiknngaaProg
import Derived.Test.YtjhndbfhiknngaaMarkTellsC
import Derived.Maps.AppendAt
import Derived.RegionTactic
import Derived.BigQuiet

/- Walks: unmarked. -/
namespace Go.Proofs.Ytjhndbfhiknngaa
set_option linter.unusedSimpArgs false
set_option linter.unusedVariables false
open Go.RowKit Go.Shelf
attribute [local go_sem] field51_0 field51_1

/-- The arena that is being marked: its headers with these marks. -/
def mW (hs : List Int) (fs : List (List Int)) (p : Nat → Bool) : List Int := joinW (mkH hs p) fs

theorem mW_len {hs : List Int} {fs : List (List Int)} (h : Fit hs fs) (p : Nat → Bool) : (mW hs fs p).length = tot fs := by
  rw [mW, joinW_len _ _ (by rw [mkH_len]; exact h.len)]

theorem mW_get {hs : List Int} {fs : List (List Int)} (h : Fit hs fs) (p : Nat → Bool) {i : Nat} {x : Int} (hx : hs[i]? = some x) : (mW hs fs p)[tot (fs.take i)]? = some (reh (p i) x) := by
  have hi : i < fs.length := by have := (List.getElem?_eq_some_iff.1 hx).1; have := h.len; omega
  rw [mW, joinW_get _ _ _ (by rw [mkH_len]; exact h.len) hi, mkH_get, hx]
  rfl

theorem mW_set {hs : List Int} {fs : List (List Int)} (h : Fit hs fs) (p : Nat → Bool) {i : Nat} {x : Int} (hx : hs[i]? = some x) : (mW hs fs p).set (tot (fs.take i)) (reh true x) = mW hs fs (upd p i) := by
  have hi : i < fs.length := by have := (List.getElem?_eq_some_iff.1 hx).1; have := h.len; omega
  rw [mW, joinW_set _ _ _ _ (by rw [mkH_len]; exact h.len) hi, mkH_set hx, mW]

theorem place_lt {fs : List (List Int)} {i : Nat} (h : i < fs.length) : tot (fs.take i) < tot fs := by
  have h1 := tot_take_succ h
  have h2 := tot_take_le fs (i + 1)
  omega

theorem fit_at {hs : List Int} {fs : List (List Int)} (h : Fit hs fs) {i : Nat} (hi : i < fs.length) : ∃ x, hs[i]? = some x ∧ unheadOk x = true ∧ wlen x = fs[i].length ∧ 0 ≤ x ∧ x < 18446744073709551616 := by
  have hi' : i < hs.length := by have := h.len; omega
  exact ⟨hs[i], List.getElem?_eq_getElem hi', h.ok i _ _ (List.getElem?_eq_getElem hi') (List.getElem?_eq_getElem hi)⟩

/-- What unmarked tells: the first object that is not marked, to which words refer. -/
def UnRes (fs : List (List Int)) (p : Nat → Bool) (l : List Int) (e : Ending) : Prop :=
  (∃ j, j < fs.length ∧ p j = false ∧ To fs l j ∧ e = .returned (.tuple #[.int .i64 (tot (fs.take j) : Nat), .bool true])) ∨
    ((∀ j, To fs l j → p j = true) ∧ e = .returned (.tuple #[.int .i64 0, .bool false]))

set_option maxRecDepth 100000 in
set_option maxHeartbeats 2000000 in
theorem unmarked_c (a : Option Addr) (c : Nat) (l : List Int) (hs : List Int) (fs : List (List Int)) (p : Nat → Bool) (N mb : Nat) (vw vr vk : Value) (rs K : List Int) (room : Nat) (lost : Bool) (w : World)
    (hM : Mk w N mb vw vr vk (mW hs fs p) rs K room lost) (hF : Fit hs fs) (h256 : tot fs ≤ 256) (hl : Wds w.heap.size w a l) (hU : U64 l) (hlen : l.length ≤ 8) (hok : ∀ x ∈ l, okW (stF 0 fs) x = true) :
    Calls Try.prog 41 #[.pointer (some ⟨mb, 0, none⟩), .slice a l.length c] w fun e w' => UnRes fs p l e ∧ Below w.heap.size w w' := by
  have HM := hide hM
  have hlm := hM.box.lt
  clear hM
  go_enter Try.func41, Try.ntmps41
  go_wp2
  go_loopw [12] (fun i wr => ∃ k : Nat, k ≤ l.length ∧ i = .int .i64 k ∧ Hid (∀ j, To fs (l.take k) j → p j = true) ∧ Below w.heap.size w wr) (fun i _ => l.length - (intOf i).toNat)
  case atStart => exact ⟨0, Nat.zero_le _, rfl, hide (fun j h => by obtain ⟨x, hx, _⟩ := h; simp at hx), Below.refl _ _⟩
  case round =>
    obtain ⟨k, hk, rfl, Hdone, hb⟩ := hrel
    have hsz := hb.size
    by_cases hlt : k < l.length
    · obtain ⟨b, off, rfl, hbB, hc⟩ := (hl.below hb).at hlt
      have hu := hU _ (List.getElem_mem hlt)
      have Hx := hide (List.getElem_mem hlt)
      have Hok := hide (ok_ref (hok _ (List.getElem_mem hlt)))
      have HT := hide (show l.take (k + 1) = l.take k ++ [l[k]] from List.take_succ_eq_append_getElem hlt)
      have hkI : (k : Int) < (l.length : Int) := by omega
      generalize l[k] = x at *
      have hq : b < wr.heap.size := by omega
      cases hr : unRef x
      · have Hr := hide hr
        have HE := hide (unhide Hok).1
        have HN : Hid (∀ j, To fs (l.take (k + 1)) j → p j = true) := hide (fun j h => by
          obtain ⟨y, hy, h1, h2⟩ := h
          rw [unhide HT] at hy
          rcases List.mem_append.1 hy with hy | hy
          · exact unhide Hdone j ⟨y, hy, h1, h2⟩
          · simp at hy; subst hy; rw [unhide Hr] at h1; cases h1)
        clear hr Hok
        go_wp2_with (go_at_call 53; go_must (refine (unpack_c x _ hu.1 hu.2).mono ?_); go_must (rintro e w3 ⟨he, hb3⟩; rw [unhide Hr, unhide HE] at he; subst he; have hs3 := hb3.size))
        go_roundw
        case rel => exact ⟨k + 1, by omega, by go_num, HN, (hb.trans (hb3.mono hsz)).alloc (by omega) _⟩
        case measure => simp [intOf]; omega
      · obtain ⟨j, hj⟩ := (unhide Hok).2 hr
        have hjl : j < fs.length := by have := (List.getElem?_eq_some_iff.1 hj).1; rw [stF_len] at this; exact this
        have hj' := stF_get fs 0 j hjl
        rw [Nat.zero_add] at hj'
        have Hnum : Hid (unNum x = ((tot (fs.take j) : Nat) : Int)) := by
          have := hj.symm.trans hj'
          injection this
        have hpl := place_lt hjl
        obtain ⟨y, hy, hy1, _, hy3, hy4⟩ := fit_at hF hjl
        have Hto : Hid (To fs l j) := hide ⟨x, unhide Hx, hr, hj⟩
        have Huniq : Hid (∀ j', (stF 0 fs)[j']? = some (unNum x) → j' = j) := hide (fun j' h => st_inj h hj)
        have HE := hide (unhide Hok).1
        obtain ⟨wb, cap, hvw, hwN, hwb, hcap⟩ := (unhide HM).words (by rw [mW_len hF]; omega)
        have hml := mW_len hF p
        rw [hml] at hvw hcap
        subst hvw
        have Hh : Hid (∀ W, Below w.heap.size w W → Calls Try.prog 54 #[.pointer (some ⟨mb, 0, none⟩), .int .i64 (tot (fs.take j) : Nat)] W fun e w' => e = .returned (.agg #[.int .i64 (uhL (reh (p j) y)), .bool (uhM (reh (p j) y)), .int .i64 (uhA (reh (p j) y))]) ∧ Below W.heap.size W w') := fun W hbW => by
          have hr2 := reh_ok (p j) y
          have hMW := (unhide HM).below hbW
          exact header_c mb wb (tot fs) cap _ _ W hMW.box.c0 (hMW.wcell hml.symm (mW_get hF p hy)).1 hpl h256 hr2.2.2.2.2.1 hr2.2.2.2.2.2
        have Hm : Hid (uhM (reh (p j) y) = p j) := (reh_ok (p j) y).2.2.1
        rw [unhide Hm] at Hh
        have Hr := hide hr
        clear hr Hok hj hj' hy hml
        generalize hpe : tot (fs.take j) = pl at *
        have Hpe := hide hpe
        clear hpe
        cases hpj : p j
        · rw [hpj] at Hh
          have Hpj := hide hpj
          clear hpj
          go_wp2_with (first
            | (go_at_call 53; go_must (refine (unpack_c x _ hu.1 hu.2).mono ?_); go_must (rintro e w3 ⟨he, hb3⟩; rw [unhide Hr, unhide HE, unhide Hnum] at he; subst he; have hs3 := hb3.size))
            | (go_at_call 54; go_must (refine (unhide Hh _ ((hb.trans (hb3.mono hsz)).alloc (by omega) _)).mono ?_); go_must (rintro e w4 ⟨he, hb4⟩; subst he; have hs4 := hb4.size; simp only [World.size_alloc] at hs4; have g0 := hb4.cell (p := ⟨w3.heap.size, 0, none⟩) (by simp); have g1 := hb4.cell (p := ⟨w3.heap.size, 1, none⟩) (by simp); simp [go_sem] at g0 g1; have hq4 : w3.heap.size < w4.heap.size := by omega)))
          go_ret2
          exact ⟨.inl ⟨j, hjl, unhide Hpj, unhide Hto, by rw [unhide Hpe]; rfl⟩, ((hb.trans (hb3.mono hsz)).alloc (by omega) _).trans (hb4.mono (by simp; omega))⟩
        · rw [hpj] at Hh
          have HN : Hid (∀ j, To fs (l.take (k + 1)) j → p j = true) := hide (fun j' h => by
            obtain ⟨z, hz, h1, h2⟩ := h
            rw [unhide HT] at hz
            rcases List.mem_append.1 hz with hz | hz
            · exact unhide Hdone j' ⟨z, hz, h1, h2⟩
            · simp at hz; subst hz; rw [unhide Huniq j' h2]; exact hpj)
          clear hpj
          go_wp2_with (first
            | (go_at_call 53; go_must (refine (unpack_c x _ hu.1 hu.2).mono ?_); go_must (rintro e w3 ⟨he, hb3⟩; rw [unhide Hr, unhide HE, unhide Hnum] at he; subst he; have hs3 := hb3.size))
            | (go_at_call 54; go_must (refine (unhide Hh _ ((hb.trans (hb3.mono hsz)).alloc (by omega) _)).mono ?_); go_must (rintro e w4 ⟨he, hb4⟩; subst he; have hs4 := hb4.size; simp only [World.size_alloc] at hs4)))
          go_roundw
          case rel => exact ⟨k + 1, by omega, by go_num, HN, ((hb.trans (hb3.mono hsz)).alloc (by omega) _).trans (hb4.mono (by simp; omega))⟩
          case measure => simp [intOf]; omega
    · obtain rfl : k = l.length := by omega
      have HN := Hdone
      rw [List.take_length] at HN
      go_wp2
      go_ret2
      exact ⟨.inr ⟨unhide HN, rfl⟩, hb⟩

end Go.Proofs.Ytjhndbfhiknngaa

/- Walks: the document's Heads. -/
namespace Go.Proofs.Ytjhndbfhiknngaa
set_option linter.unusedSimpArgs false
set_option linter.unusedVariables false
open Go.RowKit Go.Shelf

/-- The headers of words. -/
def headsH (hs : List Int) : List Hd := hs.map fun x => (uhL x, uhM x, uhA x)
theorem headsH_len (hs : List Int) : (headsH hs).length = hs.length := by simp [headsH]
theorem headsH_succ {hs : List Int} {k : Nat} {x : Int} (hx : hs[k]? = some x) : headsH (hs.take (k + 1)) = headsH (hs.take k) ++ [(uhL x, uhM x, uhA x)] := by
  have hk := (List.getElem?_eq_some_iff.1 hx).1
  rw [List.take_succ_eq_append_getElem hk, (List.getElem?_eq_some_iff.1 hx).2]
  simp [headsH]

theorem owns_mono {w : World} {base base' : Nat} {e : TypeId} {size : Nat} {v : Value} {n : Nat} {xs : List Value} (h : w.ownsRow base e size v n xs) (hb : base' ≤ base) : w.ownsRow base' e size v n xs := by
  refine ⟨h.1, ?_⟩
  rcases h.2 with h2 | ⟨g, cap, cur, h1, h2, h3⟩
  · exact .inl h2
  · exact .inr ⟨g, cap, cur, h1, by omega, h3⟩

set_option maxRecDepth 100000 in
set_option maxHeartbeats 2000000 in
theorem heads_c (aw ar : Option Addr) (cw nr cr : Nat) (ws : List Int) (hs : List Int) (fs : List (List Int)) (B : Nat) (w : World) (hW : Wds B w aw ws) (hUW : U64 ws) (hB : B ≤ w.heap.size) (hF : Fit hs fs) (hws : ws = joinW hs fs) (h256 : ws.length ≤ 256) :
    Calls Try.prog 24 #[.agg #[.slice aw ws.length cw, .slice ar nr cr]] w fun e w' => (∃ v, e = .returned v ∧ w'.ownsRow w.heap.size 51 3 v hs.length (cellsH (headsH hs))) ∧ Below w.heap.size w w' := by
  obtain ⟨i0, hi0, hz0, hz1, hz2⟩ := info_parts Try.info51
  have hsp : splitR ws = some fs := by rw [hws]; exact fit_split hF
  have htot : tot fs = ws.length := by rw [hws, joinW_len _ _ hF.len]
  obtain ⟨W1, hW1⟩ : ∃ W1, w.alloc (.cells #[.slice aw ws.length cw, .slice ar nr cr] 24) = W1 := ⟨_, rfl⟩
  have hb1 : Below w.heap.size w W1 := by rw [← hW1]; exact (Below.refl w.heap.size w).alloc (Nat.le_refl _) _
  have hs1 : w.heap.size < W1.heap.size := by rw [← hW1]; simp
  have g0 : W1.cell? ⟨w.heap.size, 0, none⟩ = some (.slice aw ws.length cw) := by rw [← hW1]; simp [go_sem]
  have Hc1 := hide (rstarts_c aw cw ws B W1 (hW.below (hb1.mono hB)) hUW (by omega) h256)
  have Hw : Hid (∀ k x, hs[k]? = some x → ws[tot (fs.take k)]? = some x) := fun k x hx => by
    have hk : k < fs.length := by have := (List.getElem?_eq_some_iff.1 hx).1; have := hF.len; omega
    rw [hws, joinW_get _ _ _ hF.len hk]; exact hx
  have Hat : Hid (∀ k, k < fs.length → ∃ x, hs[k]? = some x ∧ unheadOk x = true ∧ wlen x = (fs.getD k []).length ∧ 0 ≤ x ∧ x < 18446744073709551616) := fun k hk => by
    obtain ⟨x, h1, h2, h3, h4⟩ := fit_at hF hk
    exact ⟨x, h1, h2, by rw [List.getD_eq_getElem?_getD, List.getElem?_eq_getElem hk]; exact h3, h4⟩
  have hlen : hs.length ≤ fs.length := by have := hF.len; omega
  have hlen' : fs.length ≤ hs.length := by have := hF.len; omega
  have htl := tot_len fs
  have Hsp := hide hsp
  have htw : tot fs ≤ ws.length := by omega
  clear hF hws hsp htot
  go_enter Try.func24, Try.ntmps24
  go_wp2_with fail
  refine (unhide Hc1).mono ?_
  rintro e w2 ⟨hres, hb2⟩
  obtain ⟨fs', sa, sc, hfs', he, hI⟩ := hres.resolve_left (fun h => by have := unhide Hsp; rw [h.1] at this; cases this)
  obtain rfl : fs' = fs := by have := unhide Hsp; rw [hfs'] at this; injection this
  subst he
  have hs2 := hb2.size
  have hbw2 : Below w.heap.size w w2 := hb1.trans (hb2.mono (by omega))
  replace g0 := (hb2.cell (p := ⟨w.heap.size, 0, none⟩) hs1).trans g0
  have hl2 : w.heap.size < w2.heap.size := by omega
  have HI := hide hI
  have HW := hide (hW.below (hbw2.mono hB))
  have hst : (stF 0 fs').length = fs'.length := stF_len fs' 0
  have hst1 : (stF 0 fs').length ≤ fs'.length := by omega
  have hst2 : fs'.length ≤ (stF 0 fs').length := by omega
  have Hsg := hide (fun k hk => stF_get fs' 0 k hk)
  clear hW1 Hc1 hres hfs' hI hb1 hb2 hst hW
  go_wp2
  go_loopw [5, 18] (fun s i wr => ∃ k : Nat, k ≤ fs'.length ∧ i = .int .i64 k ∧ wr.ownsRow w2.heap.size 51 3 s k (cellsH (headsH (hs.take k))) ∧ Below w2.heap.size w2 wr) (fun _ i _ => fs'.length - (intOf i).toNat)
  case atStart => exact ⟨0, Nat.zero_le _, rfl, by simpa [cellsH, headsH] using World.ownsRow_nil _ _ _ _, Below.refl _ _⟩
  case round =>
    obtain ⟨k, hk, rfl, hown, hb⟩ := hrel
    have hsz := hb.size
    have g0r := (hb.cell (p := ⟨w.heap.size, 0, none⟩) hl2).trans g0
    have hlr : w.heap.size < wr.heap.size := by omega
    by_cases hlt : k < fs'.length
    · obtain ⟨x, hx, hx1, hx2, hx3, hx4⟩ := unhide Hat k hlt
      have hltS : k < (stF 0 fs').length := by omega
      obtain ⟨b1, o1, rfl, hB1, hc1⟩ := ((unhide HI).below hb).at hltS
      have h1 := unhide Hsg k hlt
      rw [List.getElem?_eq_getElem hltS, Option.some.injEq, Nat.zero_add] at h1
      rw [h1] at hc1
      have hwx := unhide Hw k x hx
      have hpl : tot (fs'.take k) < ws.length := (List.getElem?_eq_some_iff.1 hwx).1
      obtain ⟨b2, o2, rfl, hB2, hc2⟩ := ((unhide HW).below (hb.mono (by omega))).at hpl
      rw [(List.getElem?_eq_some_iff.1 hwx).2] at hc2
      have HS := hide (headsH_succ hx)
      have hkI : (k : Int) < ((stF 0 fs').length : Int) := by omega
      have hpI : ((tot (fs'.take k) : Nat) : Int) < (ws.length : Int) := by omega
      have hq1 : b1 < wr.heap.size := by omega
      have hq2 : b2 < wr.heap.size := by omega
      clear h1 hwx hx hx2
      generalize tot (fs'.take k) = q at *
      generalize (stF 0 fs').length = sl at *
      go_wp2_with (first
        | (go_at_call 34; go_must (refine (runhead_c x _ hx3 hx4).mono ?_); go_must (rintro e w3 ⟨he, hb3⟩; subst he; have hs3 := hb3.size; have hown3 := ownsRow_below hown hb3))
        | (at_builtin; go_must (refine wpList_append_own _ rfl _ _ 58 rfl w2.heap.size 51 i0 _ 3 24 Try.underlying58 hi0 hz0 hz1 hz2 rfl (by decide) _ _ _ rfl ((hown3.alloc _).alloc _) ⟨w3.heap.size + 1, 0, none⟩ 1 1 [.int .i64 (uhL x), .bool (uhM x), .int .i64 (uhA x)] rfl rfl (cell_three_at _ _ _ _ _ _ (by simp)) (by simp [Value.oneCell']) (by simp only [maxLen]; omega) (by omega) (by simp; omega) ?_); intro v' w1 hown' hgrow _))
      go_roundw
      case rel => exact ⟨k + 1, by omega, by go_num, by rw [unhide HS, cellsH_snoc]; exact hown', (((hb.trans (hb3.mono hsz)).alloc (by omega) _).alloc (by simp; omega) _).grown hgrow (by simp; omega) (fun q e => (hown3.lt q e).1)⟩
      case measure => simp [intOf]; omega
    · obtain rfl : k = fs'.length := by omega
      have hkI : ¬ ((fs'.length : Int) < ((stF 0 fs').length : Int)) := by omega
      have Hown : Hid (wr.ownsRow w.heap.size 51 3 u5 fs'.length (cellsH (headsH hs))) := by
        have := owns_mono (base' := w.heap.size) hown (by omega)
        rw [List.take_of_length_le hlen] at this
        exact this
      have Hln : Hid (hs.length = fs'.length) := by show _ = _; omega
      clear hown
      go_wp2
      go_ret
      refine ⟨⟨_, rfl, ?_⟩, hbw2.trans (hb.mono (by omega))⟩
      rw [unhide Hln]
      exact unhide Hown

end Go.Proofs.Ytjhndbfhiknngaa

/- Plain: the document's Mark lays what was read, with marks. -/
namespace Go.Proofs.Ytjhndbfhiknngaa
set_option linter.unusedSimpArgs false
set_option linter.unusedVariables false
open Go.RowKit Go.Shelf

/-- Headers, the first k of them with these marks. -/
def hdK (hs : List Int) (p : Nat → Bool) (k : Nat) : List Hd := hs.mapIdx fun i x => (uhL x, if i < k then p i else uhM x, uhA x)

theorem hdK_len (hs : List Int) (p : Nat → Bool) (k : Nat) : (hdK hs p k).length = hs.length := by simp [hdK]
theorem hdK_get (hs : List Int) (p : Nat → Bool) (k i : Nat) : (hdK hs p k)[i]? = (hs[i]?).map fun x => (uhL x, if i < k then p i else uhM x, uhA x) := by simp [hdK, List.getElem?_mapIdx]
theorem hdK_zero (hs : List Int) (p : Nat → Bool) : hdK hs p 0 = headsH hs := by
  apply List.ext_getElem?
  intro i
  rw [hdK_get, headsH, List.getElem?_map]
  simp
theorem hdK_set {hs : List Int} {p : Nat → Bool} {k : Nat} {x : Int} (hx : hs[k]? = some x) : (hdK hs p k).set k (uhL x, p k, uhA x) = hdK hs p (k + 1) := by
  apply List.ext_getElem?
  intro i
  have hk := (List.getElem?_eq_some_iff.1 hx).1
  rw [List.getElem?_set, hdK_get, hdK_get, hdK_len]
  by_cases e : k = i
  · subst e
    rw [if_pos rfl, if_pos hk, hx]
    simp
  · rw [if_neg e]
    cases hs[i]? with
    | none => rfl
    | some y =>
      simp only [Option.map_some]
      by_cases hi : i < k
      · rw [if_pos hi, if_pos (by omega)]
      · rw [if_neg hi, if_neg (by omega)]
theorem hdK_all (hs : List Int) (p : Nat → Bool) (k : Nat) (h : hs.length ≤ k) : (hdK hs p k).map hW = mkH hs p := by
  apply List.ext_getElem?
  intro i
  rw [List.getElem?_map, hdK_get, mkH_get]
  cases e : hs[i]? with
  | none => rfl
  | some y =>
    have := (List.getElem?_eq_some_iff.1 e).1
    simp only [Option.map_some]
    rw [if_pos (by omega)]
    rfl

theorem cellsH_set : ∀ (l : List Hd) (k : Nat) (h : Hd) (b : Bool), l[k]? = some h → (cellsH l).set (k * 3 + 1) (.bool b) = cellsH (l.set k (h.1, b, h.2.2))
  | [], _, _, _, h => by simp at h
  | x :: l, 0, h, b, e => by simp at e; subst e; simp [cellsH]
  | x :: l, k + 1, h, b, e => by
    have ih := cellsH_set l k h b (by simpa using e)
    have e1 : (k + 1) * 3 + 1 = k * 3 + 1 + 1 + 1 + 1 := by omega
    rw [e1]
    simp only [cellsH, List.flatMap_cons, List.cons_append, List.nil_append, List.set_cons_succ] at *
    rw [ih]

theorem read_lay {hs : List Int} {fs : List (List Int)} {rs : List Int} (h : Arn hs fs rs) : stF 0 (readG fs rs).objs = stF 0 fs ∧ layFields (stF 0 fs) (readG fs rs).objs = fs ∧ (readG fs rs).roots.map (packV (stF 0 fs)) = rs ∧ NumOk (readG fs rs).roots ∧ ∀ l ∈ (readG fs rs).objs, NumOk l := by
  have hnd := stF_nodup fs 0
  refine ⟨stF_same _ _ _ (lens_read fs rs), ?_, map_word_back hnd h.ur h.okr, ⟨?_⟩, fun l hl => ⟨?_⟩⟩
  · unfold layFields readG
    simp only
    rw [List.map_map]
    conv => rhs; rw [← List.map_id fs]
    apply List.map_congr_left
    intro f hf
    exact map_word_back hnd (h.uf f hf) (h.okf f hf)
  · intro v hv hr
    unfold readG at hv
    obtain ⟨x, hx, rfl⟩ := List.mem_map.1 hv
    exact (word_back hnd (h.ur x hx).1 (h.ur x hx).2 (h.okr x hx)).2.2 hr
  · intro v hv hr
    unfold readG at hl
    obtain ⟨f, hf, rfl⟩ := List.mem_map.1 hl
    obtain ⟨x, hx, rfl⟩ := List.mem_map.1 hv
    exact (word_back hnd (h.uf f hf x hx).1 (h.uf f hf x hx).2 (h.okf f hf x hx)).2.2 hr

end Go.Proofs.Ytjhndbfhiknngaa

/- Walks: the document's Reach, its row new. -/
namespace Go.Proofs.Ytjhndbfhiknngaa
set_option linter.unusedSimpArgs false
set_option linter.unusedVariables false
open Go.RowKit

set_option maxRecDepth 100000 in
set_option maxHeartbeats 1000000 in
theorem refReachF_c (ao ar : Option Addr) (co cr : Nat) (g : Gr) (B : Nat) (w : World) (ho : Objs B w ao g.objs) (hr : Vals B w ar g.roots) (hB : B ≤ w.heap.size) (hG : Good g) :
    Calls Try.prog 19 #[.agg #[.slice ao g.objs.length co, .slice ar g.roots.length cr]] w fun e w' => ∃ a cap, e = .returned (.slice a (reachK g g.objs.length).length cap) ∧ Ints w'.heap.size w' a (reachK g g.objs.length) ∧ Below w.heap.size w w' ∧ Hid (∀ b off, a = some ⟨b, off, none⟩ → w.heap.size ≤ b) := by
  obtain ⟨i0, hi, hz0, hz1, hz2⟩ := info_parts Try.info3
  have hn24 := hG.n24
  have hb1 := (Below.refl w.heap.size w).alloc (Nat.le_refl _) (.cells #[.slice ao g.objs.length co, .slice ar g.roots.length cr] 47)
  go_enter Try.func19, Try.ntmps19
  go_wp2_with fail
  refine (refDist_c ao ar co cr g B _ (ho.below (hb1.mono hB)) (hr.below (hb1.mono hB)) (by simp; omega) hG).mono ?_
  rintro e w2 ⟨ad, cd, rfl, hI2, hb2⟩
  have hbw2 : Below w.heap.size w w2 := hb1.trans (hb2.mono (by simp))
  clear hb1 hb2
  have hlD : (distL g).length = g.objs.length := distL_len g
  have HlD := hide hlD
  have hDk : Hid (∀ k, k < g.objs.length → (distL g)[k]? = some (dG g k)) := fun k hk => by simp [distL, List.getElem?_map, List.getElem?_range hk, dG]
  rw [hlD]
  clear hlD
  generalize distL g = D at *
  go_wp2
  go_loopw [3, 9] (fun s i wr => ∃ k : Nat, k ≤ g.objs.length ∧ i = .int .i64 k ∧ wr.ownsRow w2.heap.size 3 1 s (reachK g k).length (intsV (reachK g k)) ∧ Below w2.heap.size w2 wr) (fun _ i _ => g.objs.length - (intOf i).toNat)
  case atStart => exact ⟨0, Nat.zero_le _, rfl, World.ownsRow_nil _ _ _ _, Below.refl _ _⟩
  case round =>
    obtain ⟨k, hk, rfl, hown, hb⟩ := hrel
    have hsz := hb.size
    have hkl := reachK_len g k
    by_cases hlt : k < g.objs.length
    · have hltD : k < D.length := by rw [unhide HlD]; exact hlt
      obtain ⟨bd, od, rfl, hbd, hcd⟩ := (hI2.below hb).at hltD
      have hx := unhide hDk k hlt
      rw [List.getElem?_eq_getElem hltD] at hx
      injection hx with hx
      rw [hx] at hcd
      have Hyes := hide (fun h => reachK_yes (g := g) (k := k) h)
      have Hno := hide (fun h => reachK_no (g := g) (k := k) h)
      clear hx
      generalize dG g k = x at *
      have hmx : (reachK g k).length + 1 ≤ maxLen := by simp only [maxLen]; omega
      have hmy : ((reachK g k).length + 1) * 8 ≤ 140737488355328 := by omega
      by_cases hx0 : 0 ≤ x
      · have d : decide (x ≥ 0) = true := by simpa using hx0
        have d' : decide (0 ≤ x) = true := by simpa using hx0
        have HT := hide (unhide Hyes hx0)
        go_wp2_with (at_builtin; go_must (refine wpList_append_own _ rfl _ _ 40 rfl w2.heap.size 3 i0 _ 1 8 Try.underlying40 hi hz0 hz1 hz2 rfl (by decide) _ _ _ rfl (hown.alloc _) ⟨wr.heap.size, 0, none⟩ 1 1 [.int .i64 k] rfl rfl (cell_one_at _ _ _ _ (by simp)) (by simp [Value.oneCell']) hmx hmy (by simp; omega) ?_); intro v' w1 hown' hgrow _)
        go_roundw
        case rel => exact ⟨k + 1, by omega, by go_num, by rw [unhide HT, intsV_snoc, List.length_append]; exact hown', (hb.alloc hsz _).grown hgrow (by simp; omega) (fun q e => (hown.lt q e).1)⟩
        case measure => simp [intOf]; omega
      · have d : decide (x ≥ 0) = false := by simp; omega
        have d' : decide (0 ≤ x) = false := by simp; omega
        have HT := hide (unhide Hno (by omega))
        go_wp2
        go_roundw
        case rel => exact ⟨k + 1, by omega, by go_num, by rw [unhide HT]; exact hown, hb⟩
        case measure => simp [intOf]; omega
    · obtain rfl : k = g.objs.length := by omega
      obtain ⟨a', cap', hv, hV, hr9⟩ := ints_of_owns hown rfl (by omega)
      have Hv := hide hv
      have H9 : Hid (∀ b off, a' = some ⟨b, off, none⟩ → w.heap.size ≤ b) := fun b off e => by have := hr9 b off e; have := hbw2.size; omega
      clear hv hr9
      go_wp2
      go_ret
      exact ⟨a', cap', congrArg Ending.returned (unhide Hv), hV, hbw2.trans (hb.mono hbw2.size), H9⟩

end Go.Proofs.Ytjhndbfhiknngaa

/- Walks: the document's Read. -/
namespace Go.Proofs.Ytjhndbfhiknngaa
set_option linter.unusedSimpArgs false
set_option linter.unusedVariables false
open Go.RowKit Go.Shelf

set_option maxRecDepth 100000 in
set_option maxHeartbeats 1000000 in
theorem runpacked2_c (a s0 : Option Addr) (cap caps : Nat) (ws st : List Int) (B : Nat) (w : World) (hl : Wds B w a ws) (hU : U64 ws) (hS : Ints B w s0 st) (hB : B ≤ w.heap.size) (hn : ws.length ≤ 256) :
    Calls Try.prog 37 #[.slice a ws.length cap, .slice s0 st.length caps] w fun e w' => ∃ a' cap', e = .returned (.slice a' (ws.map (valW st)).length cap') ∧ ValsF w.heap.size w' a' (ws.map (valW st)) ∧ Below w.heap.size w w' := by
  obtain ⟨i0, hi, hz0, hz1, hz2⟩ := info_parts Try.info70'
  go_enter Try.func37, Try.ntmps37
  go_wp2
  go_loopw [5, 12] (fun s i wr => ∃ k : Nat, k ≤ ws.length ∧ i = .int .i64 k ∧ wr.ownsRow w.heap.size 70 2 s k (cellsV ((ws.map (valW st)).take k)) ∧ Below w.heap.size w wr) (fun _ i _ => ws.length - (intOf i).toNat)
  case atStart => exact ⟨0, Nat.zero_le _, rfl, by simpa [cellsV] using World.ownsRow_nil _ _ _ _, Below.refl _ _⟩
  case round =>
    obtain ⟨k, hk, rfl, hown, hb⟩ := hrel
    have hsz := hb.size
    by_cases hlt : k < ws.length
    · obtain ⟨b, off, rfl, hbB, hc⟩ := (hl.below (hb.mono hB)).at hlt
      have hu := hU _ (List.getElem_mem hlt)
      have HT := hide (fun r n => cells_take_succ (st := st) hlt (r := r) (n := n))
      generalize ws[k] = x at *
      cases hr : unRef x
      · have HT2 := hide (unhide HT _ _ (valW_num hr))
        have Hr := hide hr
        clear hr HT
        go_wp2_with (first
          | (go_at_call 33; go_must (refine (runpack_c x _ hu.1 hu.2).mono ?_); go_must (rintro e w3 ⟨he, hb3⟩; rw [unhide Hr] at he; subst he; have hs3 := hb3.size; have hown3 := ownsRow_below hown hb3))
          | (at_builtin; go_must (refine wpList_append_own _ rfl _ _ 45 rfl w.heap.size 70 i0 _ 2 16 Try.underlying45 hi hz0 hz1 hz2 rfl (by decide) _ _ _ rfl ((hown3.alloc _).alloc _) ⟨w3.heap.size + 1, 0, none⟩ 1 1 [.bool false, .int .i64 (unNum x)] rfl rfl (cell_two_at _ _ _ _ _ (by simp)) (by simp [Value.oneCell']) (by simp only [maxLen]; omega) (by omega) (by simp; omega) ?_); intro v' w1 hown' hgrow _))
        go_roundw
        case rel => exact ⟨k + 1, by omega, by go_num, by rw [unhide HT2]; exact hown', (((hb.trans (hb3.mono hsz)).alloc (by omega) _).alloc (by simp; omega) _).grown hgrow (by simp; omega) (fun q e => (hown3.lt q e).1)⟩
        case measure => simp [intOf]; omega
      · have HT2 := hide (unhide HT _ _ (valW_ref hr))
        have Hr := hide hr
        clear hr HT
        go_wp2_with (first
          | (go_at_call 33; go_must (refine (runpack_c x _ hu.1 hu.2).mono ?_); go_must (rintro e w3 ⟨he, hb3⟩; rw [unhide Hr] at he; subst he; have hs3 := hb3.size; have hown3 := ownsRow_below hown hb3; have hS3 := hS.below ((hb.mono hB).trans (hb3.mono (Nat.le_trans hB hsz)))))
          | (go_at_call 49; go_must (refine (place_c _ _ st (unNum x) B _ (hS3.below ((Below.refl _ _).alloc (by omega) _))).mono ?_); go_must (rintro e w4 ⟨he, hw4⟩; subst he; have hw4 := hw4.symm; subst hw4))
          | (at_builtin; go_must (refine wpList_append_own _ rfl _ _ 45 rfl w.heap.size 70 i0 _ 2 16 Try.underlying45 hi hz0 hz1 hz2 rfl (by decide) _ _ _ rfl ((hown3.alloc _).alloc _) ⟨w3.heap.size + 1, 0, none⟩ 1 1 [.bool true, .int .i64 (placeOf st (unNum x))] rfl rfl (cell_two_at _ _ _ _ _ (by simp)) (by simp [Value.oneCell']) (by simp only [maxLen]; omega) (by omega) (by simp; omega) ?_); intro v' w1 hown' hgrow _))
        go_roundw
        case rel => exact ⟨k + 1, by omega, by go_num, by rw [unhide HT2]; exact hown', (((hb.trans (hb3.mono hsz)).alloc (by omega) _).alloc (by simp; omega) _).grown hgrow (by simp; omega) (fun q e => (hown3.lt q e).1)⟩
        case measure => simp [intOf]; omega
    · obtain rfl : k = ws.length := by omega
      rw [List.take_of_length_le (by simp)] at hown
      obtain ⟨a', cap', hv, hV, hr9⟩ := vals_of_owns hown (by simp) (by omega)
      have HV : Hid (ValsF w.heap.size wr a' (ws.map (valW st))) := ⟨hV, hr9⟩
      clear hr9 hV
      subst hv
      go_wp2
      go_ret
      exact ⟨a', cap', rfl, unhide HV, hb⟩

/-- What an append of one object has made. -/
def Apd (wr : World) (gb k : Nat) (v : Value) (es : List Value) (lv : List V) (v10 : Value) (W : World) : Prop :=
  ∃ a7 c7 W1, ValsF wr.heap.size W1 a7 lv ∧ Below wr.heap.size wr W1 ∧ W.ownsRow (gb + 1) 78 1 v10 (k + 1) (es ++ [.slice a7 lv.length c7]) ∧ (W1.alloc (.cells #[.slice a7 lv.length c7] 78)).grownBy W v.ownBlock ∧ (v10.ownBlock = v.ownBlock ∨ v10.ownBlock = some (W1.alloc (.cells #[.slice a7 lv.length c7] 78)).heap.size)

def RdRes (fs : List (List Int)) (rs : List Int) (e : Ending) (W : World) : Prop :=
  ∃ ao co ar cr, e = .returned (.agg #[.slice ao (readG fs rs).objs.length co, .slice ar (readG fs rs).roots.length cr]) ∧ Objs W.heap.size W ao (readG fs rs).objs ∧ Vals W.heap.size W ar (readG fs rs).roots

set_option maxRecDepth 100000 in
set_option maxHeartbeats 8000000 in
theorem rread_c (aw ar : Option Addr) (cw cr : Nat) (ws rs : List Int) (fs : List (List Int)) (B : Nat) (w : World) (hW : Wds B w aw ws) (hR : Wds B w ar rs) (hUW : U64 ws) (hUR : U64 rs) (hB : B ≤ w.heap.size)
    (h256 : ws.length ≤ 256) (h8 : rs.length ≤ 8) (hs : splitR ws = some fs) :
    Calls Try.prog 20 #[.agg #[.slice aw ws.length cw, .slice ar rs.length cr]] w fun e w' => RdRes fs rs e w' ∧ Below w.heap.size w w' := by
  obtain ⟨i0, hi, hz0, hz1, hz2⟩ := info_parts Try.info78'
  have Hs := hide hs
  have htot := (splitR_st hs).1
  have hfl := tot_len fs
  clear hs
  obtain ⟨W4, hW4⟩ : ∃ W4, (w.alloc (.cells #[.slice aw ws.length cw, .slice ar rs.length cr] 24)).alloc (.cells #[.slice none 0 0, .slice none 0 0] 47) = W4 := ⟨_, rfl⟩
  have hbA : Below w.heap.size w W4 := by rw [← hW4]; exact ((Below.refl w.heap.size w).alloc (Nat.le_refl _) _).alloc (by simp) _
  have hs4 : w.heap.size + 1 < W4.heap.size := by rw [← hW4]; simp
  have q0 : W4.cell? ⟨w.heap.size + 1, 0, none⟩ = some (.slice none 0 0) := by rw [← hW4]; simp [go_sem]
  have q1 : W4.cell? ⟨w.heap.size + 1, 1, none⟩ = some (.slice none 0 0) := by rw [← hW4]; simp [go_sem]
  have f0 : W4.frozen? ⟨w.heap.size + 1, 0, none⟩ = false := by rw [← hW4]; simp [go_sem]
  have f1 : W4.frozen? ⟨w.heap.size + 1, 1, none⟩ = false := by rw [← hW4]; simp [go_sem]
  have g0 : W4.cell? ⟨w.heap.size, 0, none⟩ = some (.slice aw ws.length cw) := by rw [← hW4]; simp [go_sem]
  have g1 : W4.cell? ⟨w.heap.size, 1, none⟩ = some (.slice ar rs.length cr) := by rw [← hW4]; simp [go_sem]
  have Hcall := hide (rstarts_c aw cw ws B W4 (hW.below (hbA.mono hB)) hUW (by omega) h256)
  go_enter Try.func20, Try.ntmps20
  go_wp2_with fail
  refine (unhide Hcall).mono ?_
  rintro e w5 ⟨hres, hb5⟩
  obtain ⟨fs', sa, sc, he', hres⟩ := hres.resolve_left (fun h => by rw [unhide Hs] at h; cases h.1)
  rw [unhide Hs] at he'
  injection he' with he'
  subst he'
  obtain ⟨he, hI⟩ := hres
  subst he
  clear hW4 Hcall
  have hs5 := hb5.size
  replace q0 := (hb5.cell (p := ⟨w.heap.size + 1, 0, none⟩) (by simp; omega)).trans q0
  replace q1 := (hb5.cell (p := ⟨w.heap.size + 1, 1, none⟩) (by simp; omega)).trans q1
  replace f0 := (hb5.frozen (p := ⟨w.heap.size + 1, 0, none⟩) (by simp; omega)).trans f0
  replace f1 := (hb5.frozen (p := ⟨w.heap.size + 1, 1, none⟩) (by simp; omega)).trans f1
  replace g0 := (hb5.cell (p := ⟨w.heap.size, 0, none⟩) (by simp; omega)).trans g0
  replace g1 := (hb5.cell (p := ⟨w.heap.size, 1, none⟩) (by simp; omega)).trans g1
  have hbw5 : Below w.heap.size w w5 := hbA.trans (hb5.mono (by omega))
  have Hc2 := hide (runpacked2_c ar sa cr sc rs (stF 0 fs) w5.heap.size w5 ((hR.below (hbw5.mono hB)).mono (by omega)) hUR hI (Nat.le_refl _) (by omega))
  have HI := hide hI
  clear hbA hb5 hI
  go_wp2_with fail
  refine (unhide Hc2).mono ?_
  rintro e w6 ⟨ar6, cr6, he, hV6, hb6⟩
  subst he
  have hs6 := hb6.size
  replace q0 := (hb6.cell (p := ⟨w.heap.size + 1, 0, none⟩) (by simp; omega)).trans q0
  replace q1 := (hb6.cell (p := ⟨w.heap.size + 1, 1, none⟩) (by simp; omega)).trans q1
  replace f0 := (hb6.frozen (p := ⟨w.heap.size + 1, 0, none⟩) (by simp; omega)).trans f0
  replace f1 := (hb6.frozen (p := ⟨w.heap.size + 1, 1, none⟩) (by simp; omega)).trans f1
  replace g0 := (hb6.cell (p := ⟨w.heap.size, 0, none⟩) (by simp; omega)).trans g0
  have hbw6 : Below w.heap.size w w6 := hbw5.trans (hb6.mono (by omega))
  have HI6 := hide ((unhide HI).below hb6)
  have HV6 := hide hV6
  have Hst := hide (stF_len fs 0)
  have Hsg := hide (fun k hk => stF_get fs 0 k hk)
  clear Hc2 HI hV6 g1 hb6
  generalize hrl : (rs.map (valW (stF 0 fs))).length = rl at *
  have Hrl := hide hrl
  clear hrl
  go_wp2
  go_loopw [21] (fun i wr => ∃ (k : Nat) (x : Value) (es : List Value), k ≤ fs.length ∧ i = .int .i64 k ∧ Below w6.heap.size w6 wr ∧ wr.cell? ⟨w6.heap.size, 0, none⟩ = some x ∧ wr.frozen? ⟨w6.heap.size, 0, none⟩ = false ∧ wr.cell? ⟨w6.heap.size, 1, none⟩ = some (.slice ar6 rl cr6) ∧
        ObjRow wr (w6.heap.size + 1) x (objsOf (stF 0 fs) (fs.take k)) es) (fun i _ => fs.length - (intOf i).toNat)
  case atStart => exact ⟨0, .slice none 0 0, [], Nat.zero_le _, rfl, (Below.refl _ _).alloc (Nat.le_refl _) _, by simp [go_sem], by simp [go_sem], by simp [go_sem], objRow_nil _ _⟩
  case round =>
    obtain ⟨k, x, es, hk, rfl, hb, c0, cf0, c1, hrow⟩ := hrel
    have hsz := hb.size
    have hbwr : Below w.heap.size w wr := hbw6.trans (hb.mono (by have := hbw6.size; omega))
    have g0r := (hb.cell (p := ⟨w.heap.size, 0, none⟩) (by simp; omega)).trans g0
    have hqr : w.heap.size < wr.heap.size := by omega
    by_cases hlt : k < fs.length
    · obtain ⟨hp, hk1, hk2, hf0⟩ := split_obj (unhide Hs) hlt
      have hltS : k < (stF 0 fs).length := by rw [unhide Hst]; exact hlt
      obtain ⟨b, off, rfl, hbB, hc⟩ := ((unhide HI6).below (hb.mono (by omega))).at hltS
      have Hsk := hide (show (stF 0 fs)[k] = ((tot (fs.take k) : Nat) : Int) from by have := unhide Hsg k hlt; rw [List.getElem?_eq_getElem hltS, Option.some.injEq, Nat.zero_add] at this; exact this)
      rw [unhide Hsk] at hc
      have hkI : (k : Int) < ((stF 0 fs).length : Int) := by omega
      have hq : w6.heap.size < wr.heap.size := World.block_lt_of_cell? wr _ c0
      have HO := hide (objsOf_succ (stF 0 fs) hlt)
      have HLk := hide (show (objsOf (stF 0 fs) (fs.take k)).length = k by rw [objsOf_len, List.length_take]; omega)
      have hf4 : fs[k].length ≤ 4 := (splitR_st (unhide Hs)).2 _ (List.getElem_mem hlt)
      have hUf := u64_fields (unhide Hs) hUW _ (List.getElem_mem hlt)
      rw [← hf0] at HO hf4 hUf
      have HcF : Hid (∀ W, Below wr.heap.size wr W → Calls Try.prog 32 #[.slice aw ws.length cw, .int .i64 (tot (fs.take k) : Nat)] W fun e w' => ∃ a' cap', e = .returned (.slice a' (fieldsAt ws (tot (fs.take k))).length cap') ∧ Wds w'.heap.size w' a' (fieldsAt ws (tot (fs.take k))) ∧ Below W.heap.size W w') := fun W hbW => by
        refine (rfields_c aw cw ws B W ((hW.below (hbwr.mono hB)).below (hbW.mono (by omega))) hUW (by have := hbW.size; omega) h256 _ hp hk1 hk2).mono ?_
        rintro e w' ⟨a', c', h1, h2, h3, _⟩
        exact ⟨a', c', h1, h2, h3⟩
      have HIr := hide ((unhide HI6).below (hb.mono (by omega)))
      clear Hsk hk1 hk2 hf0 hp
      generalize fieldsAt ws (tot (fs.take k)) = f at *
      generalize tot (fs.take k) = p at *
      have hrr := hrow.row
      rw [unhide HLk] at hrr
      obtain ⟨ca, cc, rfl⟩ := ownsRow_slice hrr
      have hncb : Value.ownBlock (.slice ca k cc) ≠ some w6.heap.size := fun e => by have := (hrr.lt _ e).1; omega
      have HcU : Hid (∀ W a5 c5, Below wr.heap.size wr W → Wds W.heap.size W a5 f → Calls Try.prog 37 #[.slice a5 f.length c5, .slice (some ⟨b, off, none⟩) (stF 0 fs).length sc] W fun e w' => ∃ a' cap', e = .returned (.slice a' (f.map (valW (stF 0 fs))).length cap') ∧ ValsF W.heap.size w' a' (f.map (valW (stF 0 fs))) ∧ Below W.heap.size W w') := fun W a5 c5 hbW hW5 =>
        runpacked2_c a5 (some ⟨b, off, none⟩) c5 sc f (stF 0 fs) W.heap.size W hW5 hUf (((unhide HIr).below (hbW.mono (by omega))).mono (by have := hbW.size; omega)) (Nat.le_refl _) (by omega)
      have HRow := hide hrow
      clear hrow
      go_wp2
      refine wp_region_hoist _ [5, 7, 8, 9, 10, 12] (fun i => match i with
          | 0 => .pointer (some ⟨w6.heap.size, 0, none⟩)
          | 1 => .slice ca k cc
          | 2 => .pointer (some ⟨w.heap.size, 0, none⟩)
          | 3 => .slice aw ws.length cw
          | 4 => .int .i64 (p : Int)
          | 6 => .slice (some ⟨b, off, none⟩) (stF 0 fs).length sc
          | _ => .pointer (some ⟨w6.heap.size, 0, none⟩))
        (fun vs W => match vs with
          | [] => Below wr.heap.size wr W
          | [v5] => (∃ a5 c5, v5 = .slice a5 f.length c5 ∧ Wds W.heap.size W a5 f) ∧ Below wr.heap.size wr W
          | [v5, v7] => (∃ a7 c7, v7 = .slice a7 (f.map (valW (stF 0 fs))).length c7 ∧ ValsF wr.heap.size W a7 (f.map (valW (stF 0 fs)))) ∧ Below wr.heap.size wr W
          | [v5, v7, v8] => (∃ a7 c7, v8 = .agg #[.slice a7 (f.map (valW (stF 0 fs))).length c7] ∧ ValsF wr.heap.size W a7 (f.map (valW (stF 0 fs)))) ∧ Below wr.heap.size wr W
          | [v5, v7, v8, v9] => (∃ a7 c7 W1, v9 = .slice (some ⟨W1.heap.size, 0, none⟩) 1 1 ∧ W = W1.alloc (.cells #[.slice a7 (f.map (valW (stF 0 fs))).length c7] 78) ∧ ValsF wr.heap.size W1 a7 (f.map (valW (stF 0 fs))) ∧ Below wr.heap.size wr W1) ∧ Below wr.heap.size wr W
          | [v5, v7, v8, v9, v10] => Apd wr w6.heap.size k (.slice ca k cc) es (f.map (valW (stF 0 fs))) v10 W
          | [v5, v7, v8, v9, v10, v12] => Below w6.heap.size w6 W ∧ W.cell? ⟨w6.heap.size, 0, none⟩ = some v10 ∧ W.frozen? ⟨w6.heap.size, 0, none⟩ = false ∧ W.cell? ⟨w6.heap.size, 1, none⟩ = some (.slice ar6 rl cr6) ∧ ∃ es', ObjRow W (w6.heap.size + 1) v10 (objsOf (stF 0 fs) (fs.take (k + 1))) es'
          | _ => False) Try.mixed (laid_of (by kernel_rfl)) (Below.refl _ _).drew ?_ ?_ ?_
      · intro i o hio hiT vs a W K hGv hlate hag hdep hK
        have hBW4 : vs.length ≤ 4 → Below wr.heap.size wr W := by
          intro h4
          match vs, hGv, h4 with
          | [], h, _ => exact h
          | [_], h, _ => exact h.2
          | [_, _], h, _ => exact h.2
          | [_, _, _], h, _ => exact h.2
          | [_, _, _, _], h, _ => exact h.2
        have t1 := hag.tm (k := 1) (by simp [dsOf])
        have t3 := hag.tm (k := 3) (by simp [dsOf])
        have t5 := hag.tm (k := 5) (by simp [dsOf])
        have t7 := hag.tm (k := 7) (by simp [dsOf])
        simp at t1 t3 t5 t7
        rcases i with _ | _ | _ | _ | _ | _ | _ | _ | _ | _ | _ | _ | _ | i
        · cases hio
          clear hGv
          unfold Oper.wp
          go_simp
          exact hK
        · have hl4 : vs.length ≤ 4 := hlate 4 10 _ rfl rfl ⟨⟨1, .data⟩, by simp, rfl, rfl⟩
          have s25 : a.tmps[25]?.getD undef = .pointer (some ⟨w6.heap.size, 0, none⟩) := hdep ⟨0, .data⟩ (by cases hio; simp) rfl 25 rfl
          have hcW := ((hBW4 hl4).cell (p := ⟨w6.heap.size, 0, none⟩) hq).trans c0
          cases hio
          clear hGv
          unfold Oper.wp
          go_simp
          exact hK
        · cases hio
          clear hGv
          unfold Oper.wp
          go_simp
          exact hK
        · have hl0 : vs.length ≤ 0 := hlate 0 5 _ rfl rfl ⟨⟨3, .data⟩, by simp, rfl, rfl⟩
          have s27 : a.tmps[27]?.getD undef = .pointer (some ⟨w.heap.size, 0, none⟩) := hdep ⟨2, .data⟩ (by cases hio; simp) rfl 27 rfl
          have hcW := ((hBW4 (by omega)).cell (p := ⟨w.heap.size, 0, none⟩) hqr).trans g0r
          cases hio
          clear hGv
          unfold Oper.wp
          go_simp
          exact hK
        · cases hio
          clear hGv
          unfold Oper.wp
          go_simp
          exact hK
        · exact absurd (by simp) hiT
        · cases hio
          clear hGv
          unfold Oper.wp
          go_simp
          exact hK
        · exact absurd (by simp) hiT
        · exact absurd (by simp) hiT
        · exact absurd (by simp) hiT
        · exact absurd (by simp) hiT
        · cases hio
          clear hGv
          unfold Oper.wp
          go_simp
          exact hK
        · exact absurd (by simp) hiT
        · simp at hio
      · intro j i o hj hio vs a W K hvl hGv hag hdep hK
        rcases j with _ | _ | _ | _ | _ | _ | j
        · obtain rfl : 5 = i := by simpa using hj
          obtain rfl : vs = [] := List.length_eq_zero_iff.1 hvl
          have s28 : a.tmps[28]?.getD undef = .slice aw ws.length cw := hdep ⟨3, .data⟩ (by cases hio; simp) rfl 28 rfl
          have s29 : a.tmps[29]?.getD undef = .int .i64 (p : Int) := hdep ⟨4, .data⟩ (by cases hio; simp) rfl 29 rfl
          cases hio
          refine op_call 32 #[.slice aw ws.length cw, .int .i64 (p : Int)] (by go_simp) ?_
          have hBW : Below wr.heap.size wr W := hGv
          refine (unhide HcF W hBW).mono ?_
          rintro e w' ⟨a', c', rfl, h2, h3⟩
          exact ⟨_, rfl, hK _ _ ⟨⟨a', c', rfl, h2⟩, hBW.trans (h3.mono hBW.size)⟩⟩
        · obtain rfl : 7 = i := by simpa using hj
          obtain ⟨v5, rfl⟩ : ∃ v5, vs = [v5] := by
            match vs, hvl with
            | [v5], _ => exact ⟨v5, rfl⟩
          obtain ⟨⟨a5, c5, rfl, hW5⟩, hBW⟩ := hGv
          have s30 : a.tmps[30]?.getD undef = .slice a5 f.length c5 := hdep ⟨5, .data⟩ (by cases hio; simp) rfl 30 rfl
          have s31 : a.tmps[31]?.getD undef = .slice (some ⟨b, off, none⟩) (stF 0 fs).length sc := hdep ⟨6, .data⟩ (by cases hio; simp) rfl 31 rfl
          cases hio
          refine op_call 37 #[.slice a5 f.length c5, .slice (some ⟨b, off, none⟩) (stF 0 fs).length sc] (by go_simp) ?_
          refine (unhide HcU W a5 c5 hBW hW5).mono ?_
          rintro e w' ⟨a', c', rfl, h2, h3⟩
          exact ⟨_, rfl, hK _ _ ⟨⟨a', c', rfl, h2.base hBW.size⟩, hBW.trans (h3.mono hBW.size)⟩⟩
        · obtain rfl : 8 = i := by simpa using hj
          obtain ⟨v5, v7, rfl⟩ : ∃ v5 v7, vs = [v5, v7] := by
            match vs, hvl with
            | [v5, v7], _ => exact ⟨v5, v7, rfl⟩
          obtain ⟨⟨a7, c7, rfl, hV7⟩, hBW⟩ := hGv
          have s32 : a.tmps[32]?.getD undef = .slice a7 (f.map (valW (stF 0 fs))).length c7 := hdep ⟨7, .data⟩ (by cases hio; simp) rfl 32 rfl
          generalize (f.map (valW (stF 0 fs))) = lv at *
          cases hio
          unfold Oper.wp
          go_simp
          exact hK _ _ ⟨⟨a7, c7, rfl, hV7⟩, hBW⟩
        · obtain rfl : 9 = i := by simpa using hj
          obtain ⟨v5, v7, v8, rfl⟩ : ∃ v5 v7 v8, vs = [v5, v7, v8] := by
            match vs, hvl with
            | [v5, v7, v8], _ => exact ⟨v5, v7, v8, rfl⟩
          obtain ⟨⟨a7, c7, rfl, hV7⟩, hBW⟩ := hGv
          have s33 : a.tmps[33]?.getD undef = .agg #[.slice a7 (f.map (valW (stF 0 fs))).length c7] := hdep ⟨8, .data⟩ (by cases hio; simp) rfl 33 rfl
          generalize (f.map (valW (stF 0 fs))) = lv at *
          cases hio
          unfold Oper.wp
          go_simp
          exact hK _ _ ⟨⟨a7, c7, W, rfl, rfl, hV7, hBW⟩, hBW.alloc hBW.size _⟩
        · obtain rfl : 10 = i := by simpa using hj
          obtain ⟨v5, v7, v8, v9, rfl⟩ : ∃ v5 v7 v8 v9, vs = [v5, v7, v8, v9] := by
            match vs, hvl with
            | [v5, v7, v8, v9], _ => exact ⟨v5, v7, v8, v9, rfl⟩
          obtain ⟨⟨a7, c7, W1, rfl, rfl, hV7, hBW1⟩, hBW⟩ := hGv
          have s26 : a.tmps[26]?.getD undef = .slice ca k cc := hdep ⟨1, .data⟩ (by cases hio; simp) rfl 26 rfl
          have s34 : a.tmps[34]?.getD undef = .slice (some ⟨W1.heap.size, 0, none⟩) 1 1 := hdep ⟨9, .data⟩ (by cases hio; simp) rfl 34 rfl
          cases hio
          have hs1 := hBW1.size
          refine op_append (.tmp 26) (.tmp 34) 44 rfl (w6.heap.size + 1) 78 i0 _ 1 24 Try.underlying44 hi hz0 hz1 hz2 rfl (by decide) (.slice ca k cc) k es (by simpa [Act.eval] using s26) ((ownsRow_below hrr hBW1).alloc _) ⟨W1.heap.size, 0, none⟩ 1 1 [.slice a7 (f.map (valW (stF 0 fs))).length c7] (by simpa [Act.eval] using s34) rfl (cell_one_at _ _ _ _ rfl) (by simp [Value.oneCell']) (by simp only [maxLen]; omega) (by omega) (by simp; omega) ?_
          intro v10 w10 hrow10 hg10 hat10
          exact hK _ _ ⟨a7, c7, W1, hV7, hBW1, hrow10, hg10, hat10⟩
        · obtain rfl : 12 = i := by simpa using hj
          obtain ⟨v5, v7, v8, v9, v10, rfl⟩ : ∃ v5 v7 v8 v9 v10, vs = [v5, v7, v8, v9, v10] := by
            match vs, hvl with
            | [v5, v7, v8, v9, v10], _ => exact ⟨v5, v7, v8, v9, v10, rfl⟩
          obtain ⟨a7, c7, W1, hV7, hBW1, hrow10, hg10, hat10⟩ := hGv
          have hs1 := hBW1.size
          obtain ⟨g7, cap7, hv7⟩ := ownsRow_succ hrow10
          subst hv7
          have s35 : a.tmps[35]?.getD undef = .slice (some ⟨g7, 0, none⟩) (k + 1) cap7 := hdep ⟨10, .data⟩ (by cases hio; simp) rfl 35 rfl
          have s36 : a.tmps[36]?.getD undef = .pointer (some ⟨w6.heap.size, 0, none⟩) := hdep ⟨11, .data⟩ (by cases hio; simp) rfl 36 rfl
          have hblk : W.heap[w6.heap.size]? = wr.heap[w6.heap.size]? := (hg10.block w6.heap.size (by simp; omega) (fun e => hncb e.symm)).trans ((Below.heap_alloc W1 _ _ (by omega)).trans (hBW1.block _ hq))
          have e0 := (World.cell?_of_block (a := ⟨w6.heap.size, 0, none⟩) hblk).trans c0
          have e1 := (World.cell?_of_block (a := ⟨w6.heap.size, 1, none⟩) hblk).trans c1
          have ef := (World.frozen?_of_block (a := ⟨w6.heap.size, 0, none⟩) hblk).trans cf0
          obtain ⟨r1, r2⟩ := obj_step (l := f.map (valW (stF 0 fs))) (ci := c7) (unhide HRow) (by omega) hV7.1 hBW1 hV7.2 (by rw [unhide HLk]; exact hrow10) hg10 hat10 rfl
          cases hio
          clear hrow10 hg10 hat10 hV7 hblk
          unfold Oper.wp
          go_simp
          refine hK undef _ ⟨hb.trans r2, World.cell?_setCell_same' _ _ _ (by rw [e0]; rfl), by rw [World.frozen?_setCell]; exact ef, ?_, _, by rw [unhide HO]; exact r1⟩
          rw [World.cell?_setCell_other _ _ _ _ (by simp)]
          exact e1
        · simp at hj
      · intro vs W hvl hGv
        obtain ⟨v5, v7, v8, v9, v10, v12, rfl⟩ : ∃ v5 v7 v8 v9 v10 v12, vs = [v5, v7, v8, v9, v10, v12] := by
          match vs, hvl with
          | [v5, v7, v8, v9, v10, v12], _ => exact ⟨v5, v7, v8, v9, v10, v12, rfl⟩
        obtain ⟨h1, h2, h3, h4, es', h5⟩ := hGv
        simp only [List.length_cons, List.length_nil, Nat.reduceAdd]
        simp [endAct, dstAt, valAt, List.idxOf?, List.findIdx?, List.findIdx?.go, Act.put]
        go_wp2
        go_roundw
        case rel => exact ⟨k + 1, v10, es', by omega, by go_num, h1, h2, h3, h4, h5⟩
        case measure => simp [intOf]; omega
    · obtain rfl : k = fs.length := by omega
      rw [List.take_length] at hrow
      have hkI : ¬ ((fs.length : Int) < ((stF 0 fs).length : Int)) := by rw [unhide Hst]; omega
      have hol := objsOf_len (stF 0 fs) fs
      obtain ⟨va', vc', hv, hO⟩ := hrow.objs (by omega)
      subst hv
      have HR := hide hrow
      have Hol := hide hol
      clear hO hrow hol
      replace q0 := (hb.cell (p := ⟨w.heap.size + 1, 0, none⟩) (by simp; omega)).trans q0
      replace q1 := (hb.cell (p := ⟨w.heap.size + 1, 1, none⟩) (by simp; omega)).trans q1
      replace f0 := (hb.frozen (p := ⟨w.heap.size + 1, 0, none⟩) (by simp; omega)).trans f0
      replace f1 := (hb.frozen (p := ⟨w.heap.size + 1, 1, none⟩) (by simp; omega)).trans f1
      generalize hL : objsOf (stF 0 fs) fs = L at *
      have HL := hide hL
      clear hL
      go_wp2
      refine bodyPost_ret (v := .agg #[.slice va' L.length vc', .slice ar6 rl cr6]) (by simp [results, Try.results20, go_sem, q0, q1]) rfl ?_
      have hO := ((unhide HR).setCell (p := ⟨w.heap.size + 1, 0, none⟩) (by simp; omega) (.slice va' L.length vc')).setCell (p := ⟨w.heap.size + 1, 1, none⟩) (by simp; omega) (.slice ar6 rl cr6)
      obtain ⟨va2, vc2, hv2, hO2⟩ := hO.objs (by rw [unhide Hol]; omega)
      injection hv2 with e1 _ e3
      subst e1 e3
      have hVF := ((((unhide HV6).below hb).setCell (p := ⟨w.heap.size + 1, 0, none⟩) (by simp; omega) (.slice va' L.length vc')).setCell (p := ⟨w.heap.size + 1, 1, none⟩) (by simp; omega) (.slice ar6 rl cr6))
      refine ⟨⟨va', vc', ar6, cr6, ?_, ?_, hVF.1⟩, (hbwr.setCell (p := ⟨w.heap.size + 1, 0, none⟩) (by simp) _).setCell (p := ⟨w.heap.size + 1, 1, none⟩) (by simp) _⟩
      · have e1 : (readG fs rs).objs = L := unhide HL
        have e2 : (readG fs rs).roots.length = rl := unhide Hrl
        rw [e1, e2]
      · have e1 : (readG fs rs).objs = L := unhide HL
        rw [e1]; exact hO2

end Go.Proofs.Ytjhndbfhiknngaa

/- Walks: the document's Mark. -/
namespace Go.Proofs.Ytjhndbfhiknngaa
set_option linter.unusedSimpArgs false
set_option linter.unusedVariables false
open Go.RowKit Go.Shelf

/-- A block that holds no number. -/
def NoNum (W : World) (rb : Nat) : Prop := ∃ cs t, W.heap[rb]? = some (.cells cs t) ∧ ∀ (i : Nat) (k : IntKind) (x : Int), cs[i]? ≠ some (Value.int k x)

theorem NoNum.wds {W : World} {rb B j : Nat} {a : Option Addr} {l : List Int} (h : NoNum W rb) (hw : Wds B W a l) (u : Value) : Wds B (W.setCell ⟨rb, j, none⟩ u) a l := by
  refine ⟨hw.1, fun hne => ?_⟩
  obtain ⟨b, off, rfl, hB, hc⟩ := hw.2 hne
  obtain ⟨cs, t, hb, hn⟩ := h
  have hbr : b ≠ rb := by
    rintro rfl
    have h0 : 0 < l.length := List.length_pos_iff.2 hne
    have := hc 0 l[0] (List.getElem?_eq_getElem h0)
    rw [cell_of_row W b (off + 0) cs t (0, 0) hb] at this
    exact hn _ _ _ this
  refine ⟨b, off, rfl, hB, fun k v hk => ?_⟩
  rw [World.cell?_of_block (a := ⟨b, off + k, none⟩) (Below.heap_setCell _ _ _ _ hbr)]
  exact hc k v hk

theorem NoNum.set {W : World} {rb j : Nat} (h : NoNum W rb) {u : Value} (hu : ∀ (k : IntKind) (x : Int), u ≠ Value.int k x) : NoNum (W.setCell ⟨rb, j, none⟩ u) rb := by
  obtain ⟨cs, t, hb, hn⟩ := h
  refine ⟨_, t, heap_setCell_same W rb j cs t u hb, fun i k x => ?_⟩
  rw [Array.getElem?_setIfInBounds]
  split
  · split
    · intro e; injection e with e; exact hu k x e
    · simp
  · exact hn i k x

theorem ints_keep {B : Nat} {W W' : World} {a : Option Addr} {l : List Int} (h : Ints B W a l) (hb : ∀ b off, a = some ⟨b, off, none⟩ → b < B → W'.heap[b]? = W.heap[b]?) : Ints B W' a l := by
  refine ⟨h.1, fun hne => ?_⟩
  obtain ⟨b, off, rfl, hB, hc⟩ := h.2 hne
  refine ⟨b, off, rfl, hB, fun k v hk => ?_⟩
  rw [World.cell?_of_block (a := ⟨b, off + k, none⟩) (hb b off rfl hB)]
  exact hc k v hk

/-- What the document's Mark tells. -/
def RMk (L rs : List Int) (e : Ending) (W : World) : Prop :=
  ∃ aw cw ar cr, e = .returned (.agg #[.slice aw L.length cw, .slice ar rs.length cr]) ∧ Wds W.heap.size W aw L ∧ Wds W.heap.size W ar rs

set_option maxRecDepth 100000 in
set_option maxHeartbeats 4000000 in
theorem rmark_c (aw ar : Option Addr) (cw cr : Nat) (ws rs : List Int) (hs : List Int) (fs : List (List Int)) (p : Nat → Bool) (B : Nat) (w : World) (hW : Wds B w aw ws) (hR : Wds B w ar rs) (hUW : U64 ws) (hUR : U64 rs) (hB : B ≤ w.heap.size) (hA : Arn hs fs rs) (hws : ws = joinW hs fs) (hp : ∀ j, p j = true ↔ Rch fs rs j) :
    Calls Try.prog 14 #[.agg #[.slice aw ws.length cw, .slice ar rs.length cr]] w fun e w' => RMk (mW hs fs p) rs e w' ∧ Below w.heap.size w w' := by
  have hsp : splitR ws = some fs := by rw [hws]; exact fit_split hA.fit
  have h256 : ws.length ≤ 256 := by rw [hws, joinW_len _ _ hA.fit.len]; exact hA.n256
  obtain ⟨W1, hW1⟩ : ∃ W1, (w.alloc (.cells #[.slice aw ws.length cw, .slice ar rs.length cr] 24)).alloc (.cells #[.slice none 0 0, .slice none 0 0] 24) = W1 := ⟨_, rfl⟩
  have hb1 : Below w.heap.size w W1 := by rw [← hW1]; exact ((Below.refl w.heap.size w).alloc (Nat.le_refl _) _).alloc (by simp) _
  have hs1 : w.heap.size + 1 < W1.heap.size := by rw [← hW1]; simp
  have g0 : W1.cell? ⟨w.heap.size, 0, none⟩ = some (.slice aw ws.length cw) := by rw [← hW1]; simp [go_sem]
  have g1 : W1.cell? ⟨w.heap.size, 1, none⟩ = some (.slice ar rs.length cr) := by rw [← hW1]; simp [go_sem]
  have hr0 : W1.heap[w.heap.size + 1]? = some (.cells #[.slice none 0 0, .slice none 0 0] 24) := by
    have := heap_alloc_new (w.alloc (.cells #[.slice aw ws.length cw, .slice ar rs.length cr] 24)) (.cells #[.slice none 0 0, .slice none 0 0] 24)
    rw [hW1] at this
    simpa using this
  have Hc1 := hide (rread_c aw ar cw cr ws rs fs B W1 (hW.below (hb1.mono hB)) (hR.below (hb1.mono hB)) hUW hUR (by omega) h256 hA.n8 hsp)
  have HA := hide hA
  have HG := hide (good_read hA)
  have Hws := hide hws
  have Hp := hide hp
  have Hr0 := hide hr0
  clear hA hws hsp hp hr0
  go_enter Try.func14, Try.ntmps14
  go_wp2_with fail
  refine (unhide Hc1).mono ?_
  rintro e w2 ⟨⟨ao, co, ar2, cr2, he, hO, hV⟩, hb2⟩
  subst he
  have hs2 := hb2.size
  have hbw2 : Below w.heap.size w w2 := hb1.trans (hb2.mono (by omega))
  obtain ⟨W2, hW2⟩ : ∃ W2, w2.alloc (.cells #[.slice ao (readG fs rs).objs.length co, .slice ar2 (readG fs rs).roots.length cr2] 47) = W2 := ⟨_, rfl⟩
  have hb2' : Below w2.heap.size w2 W2 := by rw [← hW2]; exact (Below.refl _ _).alloc (Nat.le_refl _) _
  have hs2' : w2.heap.size < W2.heap.size := by rw [← hW2]; simp
  have k0 : W2.cell? ⟨w2.heap.size, 0, none⟩ = some (.slice ao (readG fs rs).objs.length co) := by rw [← hW2]; simp [go_sem]
  have k1 : W2.cell? ⟨w2.heap.size, 1, none⟩ = some (.slice ar2 (readG fs rs).roots.length cr2) := by rw [← hW2]; simp [go_sem]
  replace g0 := (hb2'.cell (p := ⟨w.heap.size, 0, none⟩) (by simp; omega)).trans ((hb2.cell (p := ⟨w.heap.size, 0, none⟩) (by simp; omega)).trans g0)
  replace g1 := (hb2'.cell (p := ⟨w.heap.size, 1, none⟩) (by simp; omega)).trans ((hb2.cell (p := ⟨w.heap.size, 1, none⟩) (by simp; omega)).trans g1)
  have hbW2 : Below w.heap.size w W2 := hbw2.trans (hb2'.mono (by omega))
  have hwW2 : w.heap.size < W2.heap.size := by omega
  replace Hr0 := hide ((hb2'.block (w.heap.size + 1) (by omega)).trans ((hb2.block (w.heap.size + 1) (by omega)).trans (unhide Hr0)))
  have HO := hide ((hO.below hb2').mono (B' := W2.heap.size) (by omega))
  have HV := hide ((hV.below hb2').mono (B' := W2.heap.size) (by omega))
  have Hc2 := hide (heads_c aw ar cw rs.length cr ws hs fs B W2 (hW.below (hbW2.mono hB)) hUW (by omega) (unhide HA).fit (unhide Hws) h256)
  clear Hc1 hO hV hW1 hb1 hb2 hb2' hbw2
  go_wp2_with fail
  refine (unhide Hc2).mono ?_
  rintro e w3 ⟨⟨v, he, hown⟩, hb3⟩
  subst he
  have hs3 := hb3.size
  obtain ⟨va, vc, hv⟩ := ownsRow_slice hown
  subst hv
  replace k0 := (hb3.cell (p := ⟨w2.heap.size, 0, none⟩) hs2').trans k0
  replace k1 := (hb3.cell (p := ⟨w2.heap.size, 1, none⟩) hs2').trans k1
  replace Hr0 := hide ((hb3.block (w.heap.size + 1) (by omega)).trans (unhide Hr0))
  replace HO := hide ((unhide HO).below hb3)
  replace HV := hide ((unhide HV).below hb3)
  have hbw3 : Below w.heap.size w w3 := hbW2.trans (hb3.mono (by omega))
  have Hc3 := hide (refReachF_c ao ar2 co cr2 (readG fs rs) W2.heap.size w3 (unhide HO) (unhide HV) hs3 (unhide HG))
  have Hown := hide hown
  have Hlt3 : Hid (∀ g, Value.ownBlock (.slice va hs.length vc) = some g → g < w3.heap.size) := fun g e => (hown.lt g e).2
  have hl3 : w2.heap.size < w3.heap.size := by omega
  clear Hc2 hown hW2 hb3 g0 g1
  go_wp2_with fail
  refine (unhide Hc3).mono ?_
  rintro e w4 ⟨ra, rc, he, hI, hb4, Hnew⟩
  subst he
  have hs4 := hb4.size
  replace k0 := (hb4.cell (p := ⟨w2.heap.size, 0, none⟩) hl3).trans k0
  replace k1 := (hb4.cell (p := ⟨w2.heap.size, 1, none⟩) hl3).trans k1
  replace Hr0 := hide ((hb4.block (w.heap.size + 1) (by omega)).trans (unhide Hr0))
  have hbw4 : Below w.heap.size w w4 := hbw3.trans (hb4.mono (by omega))
  have HI := hide hI
  have hl4 : w2.heap.size < w4.heap.size := by omega
  replace HO := hide ((unhide HO).below (hb4.mono hs3))
  replace HV := hide ((unhide HV).below (hb4.mono hs3))
  replace Hown := hide (ownsRow_below (unhide Hown) hb4)
  have HpK : Hid (∀ k : Nat, decide ((k : Int) ∈ reachK (readG fs rs) (readG fs rs).objs.length) = p k) := fun k => by
    rw [Bool.eq_iff_iff, decide_eq_true_eq, mem_reachK (unhide HA), unhide Hp]
  have hlen : hs.length ≤ 256 := by have := (unhide HA).fit.len; have := tot_len fs; have := (unhide HA).n256; omega
  have Hat : Hid (∀ k, k < hs.length → ∃ x, hs[k]? = some x) := fun k hk => ⟨_, List.getElem?_eq_getElem hk⟩
  clear Hc3 hI hb4 hbw3 hW hR hUW hUR Hws
  generalize reachK (readG fs rs) (readG fs rs).objs.length = RK at *
  go_wp2
  go_loopw [6] (fun i wr => ∃ k : Nat, k ≤ hs.length ∧ i = .int .i64 k ∧ Hid (wr.ownsRow W2.heap.size 51 3 (.slice va hs.length vc) hs.length (cellsH (hdK hs p k))) ∧ Hid (w4.grownBy wr (Value.ownBlock (.slice va hs.length vc)))) (fun i _ => hs.length - (intOf i).toNat)
  case atStart => exact ⟨0, Nat.zero_le _, rfl, by rw [hdK_zero]; exact Hown, hide ⟨rfl, rfl, rfl, Nat.le_refl _, fun _ _ _ => rfl⟩⟩
  case round =>
    obtain ⟨k, hk, rfl, HK, Hg⟩ := hrel
    have hsz := (unhide Hg).size
    have hbr : Below W2.heap.size w4 wr := (Below.refl _ w4).grown (unhide Hg) (by omega) (fun g e => ((unhide Hown).lt g e).1)
    have k0r := (hbr.cell (p := ⟨w2.heap.size, 0, none⟩) hs2').trans k0
    have k1r := (hbr.cell (p := ⟨w2.heap.size, 1, none⟩) hs2').trans k1
    have hlr : w2.heap.size < wr.heap.size := by omega
    by_cases hlt : k < hs.length
    · obtain ⟨x, hx⟩ := unhide Hat k hlt
      have hIr : Ints w4.heap.size wr ra RK := ints_keep (unhide HI) (fun b off e hbB => (unhide Hg).block b hbB (fun e' => by
          have h1 := unhide Hnew b off e
          have h2 := unhide Hlt3 b e'.symm
          omega))
      have hH : Hid (Calls Try.prog 21 #[.slice ra RK.length rc, .int .i64 (k : Int)] wr fun e w' => e = .returned (.bool (p k)) ∧ w' = wr) := by
        have := has_c ra rc RK (k : Int) w4.heap.size wr hIr
        rw [unhide HpK k] at this
        exact this
      obtain ⟨g, hv, hvc⟩ : ∃ g, va = some ⟨g, 0, none⟩ ∧ hs.length ≤ vc := by
        rcases (unhide HK).2 with ⟨_, h0⟩ | ⟨g, cap, cur, e, _, _, h3, _⟩
        · omega
        · injection e with e1 _ e3
          exact ⟨g, e1, by omega⟩
      subst hv
      have hxy := cellsH_get (hdK hs p k) k _ (by rw [hdK_get, hx]; rfl)
      have hkn : k * 3 + 1 < hs.length * 3 := by omega
      have x1 : wr.cell? ⟨g, k * 3 + 1, none⟩ = some (.bool (uhM x)) := by
        rw [(unhide HK).cellAt _ hkn, hxy.2.1]
        simp
      have xf := (unhide HK).frozenAt (k * 3 + 1)
      have hgl := ((unhide HK).lt g rfl).2
      have hkI : (k : Int) < (hs.length : Int) := by omega
      have HK1 : Hid ((wr.setCell ⟨g, k * 3 + 1, none⟩ (.bool (p k))).ownsRow W2.heap.size 51 3 (.slice (some ⟨g, 0, none⟩) hs.length vc) hs.length (cellsH (hdK hs p (k + 1)))) := by
        have := ((unhide HK).stored (k * 3 + 1) (.bool (p k))).1
        rw [cellsH_set (hdK hs p k) k _ (p k) (by rw [hdK_get, hx]; rfl)] at this
        rw [← hdK_set hx]
        exact this
      have Hg1 : Hid (w4.grownBy (wr.setCell ⟨g, k * 3 + 1, none⟩ (.bool (p k))) (some g)) := by
        have h1 := grown_set wr g (k * 3 + 1) (.bool (p k))
        have h2 := unhide Hg
        exact ⟨h1.os.trans h2.os, h1.tape.trans h2.tape, h1.output.trans h2.output, Nat.le_trans h2.size h1.size, fun j hj hne => (h1.block j (by omega) hne).trans (h2.block j hj hne)⟩
      clear hIr hxy hx
      generalize p k = pk at *
      go_wp2_with fail
      refine (unhide hH).mono ?_
      rintro e w8 ⟨he, hw8⟩
      subst he
      have hw8 := hw8.symm
      subst hw8
      clear hH
      go_wp2
      go_roundw
      case rel => exact ⟨k + 1, by omega, by go_num, HK1, Hg1⟩
      case measure => simp [intOf]; omega
    · obtain rfl : k = hs.length := by omega
      obtain ⟨ha, hc, hv, hHd⟩ := hdrs_of_owns (unhide HK) (hdK_len hs p hs.length).symm (by omega)
      rw [hdK_len] at hv
      injection hv with hv1 _ hv3
      subst hv1 hv3
      obtain ⟨hst, hlf, hlr2, hnr, hno⟩ := read_lay (unhide HA)
      have hG := unhide HG
      have hgl := readG_len fs rs
      have hfl := (unhide HA).fit.len
      have Hc5 : Hid (Calls Try.prog 35 #[.agg #[.slice ao (readG fs rs).objs.length co, .slice ar2 (readG fs rs).roots.length cr2], .slice va hs.length vc] wr fun e w' => RMk (mW hs fs p) rs e w' ∧ Below wr.heap.size wr w') := by
        have := rlay_c ao ar2 va co cr2 vc (readG fs rs) (hdK hs p hs.length) wr.heap.size wr (((unhide HO).below hbr).mono (by omega)) (((unhide HV).below hbr).mono (by omega)) hHd (by rw [hdK_len]; omega) (Nat.le_refl _) (by omega) hG.n4 hG.n8 hG.rr hG.ro hnr hno
        rw [hdK_len] at this
        refine this.mono ?_
        rintro e w' ⟨⟨aw', cw', ar', cr', he, h1, h2⟩, h3⟩
        have e1 : layHW (stF 0 (readG fs rs).objs) (hdK hs p hs.length) (readG fs rs).objs = mW hs fs p := by
          unfold layHW mW
          rw [hst, hlf, hdK_all _ _ _ (Nat.le_refl _)]
        rw [e1] at he h1
        rw [hst, hlr2] at he h2
        exact ⟨⟨aw', cw', ar', cr', he, h1, h2⟩, h3⟩
      have hrb : wr.heap[w.heap.size + 1]? = some (.cells #[.slice none 0 0, .slice none 0 0] 24) := (hbr.block (w.heap.size + 1) (by omega)).trans (unhide Hr0)
      have Hrb := hide hrb
      have hkI : ¬ ((hs.length : Int) < (hs.length : Int)) := by omega
      have hbwr : Below w.heap.size w wr := hbw4.trans (hbr.mono (by omega))
      clear hst hlf hlr2 hnr hno hG hgl hfl hHd HK Hg hrb HO HV
      go_wp2_with fail
      refine (unhide Hc5).mono ?_
      rintro e w5 ⟨⟨aw', cw', ar', cr', he, h1, h2⟩, hb5⟩
      subst he
      have hs5 := hb5.size
      have hrb5 : w5.heap[w.heap.size + 1]? = some (.cells #[.slice none 0 0, .slice none 0 0] 24) := (hb5.block (w.heap.size + 1) (by omega)).trans (unhide Hrb)
      have r0 : w5.cell? ⟨w.heap.size + 1, 0, none⟩ = some (.slice none 0 0) := by rw [cell_of_row w5 (w.heap.size + 1) 0 _ 24 (0, 0) hrb5]; rfl
      have r1 : w5.cell? ⟨w.heap.size + 1, 1, none⟩ = some (.slice none 0 0) := by rw [cell_of_row w5 (w.heap.size + 1) 1 _ 24 (0, 0) hrb5]; rfl
      have z0 : w5.frozen? ⟨w.heap.size + 1, 0, none⟩ = false := frozen_of_row _ _ 0 _ 24 hrb5
      have z1 : w5.frozen? ⟨w.heap.size + 1, 1, none⟩ = false := frozen_of_row _ _ 1 _ 24 hrb5
      have hl5 : w.heap.size + 1 < w5.heap.size := by omega
      have hnn : NoNum w5 (w.heap.size + 1) := ⟨_, 24, hrb5, fun i k x => by
        match i with
        | 0 => simp
        | 1 => simp
        | i + 2 => simp⟩
      have Hfin : Hid (∀ W, W = (w5.setCell ⟨w.heap.size + 1, 0, none⟩ (.slice aw' (mW hs fs p).length cw')).setCell ⟨w.heap.size + 1, 1, none⟩ (.slice ar' rs.length cr') → RMk (mW hs fs p) rs (.returned (.agg #[.slice aw' (mW hs fs p).length cw', .slice ar' rs.length cr'])) W ∧ Below w.heap.size w W) := fun W h => by
        subst h
        have hsz5 : ((w5.setCell ⟨w.heap.size + 1, 0, none⟩ (.slice aw' (mW hs fs p).length cw')).setCell ⟨w.heap.size + 1, 1, none⟩ (.slice ar' rs.length cr')).heap.size = w5.heap.size := by simp [World.setCell]
        have hn1 := hnn.set (j := 0) (u := .slice aw' (mW hs fs p).length cw') (by simp)
        refine ⟨⟨aw', cw', ar', cr', rfl, ?_, ?_⟩, ((hbwr.trans (hb5.mono (by omega))).setCell (p := ⟨w.heap.size + 1, 0, none⟩) (by simp) _).setCell (p := ⟨w.heap.size + 1, 1, none⟩) (by simp) _⟩
        · rw [hsz5]; exact hn1.wds (hnn.wds h1 _) _
        · rw [hsz5]; exact hn1.wds (hnn.wds h2 _) _
      clear h1 h2 hnn hrb5 Hc5
      generalize (mW hs fs p).length = n at *
      go_wp2
      exact bodyPost_ret (v := .agg #[.slice aw' n cw', .slice ar' rs.length cr']) (by simp [results, Try.results14, go_sem, r0, r1]) rfl (unhide Hfin _ rfl)

end Go.Proofs.Ytjhndbfhiknngaa

/- Plain: what is swept. -/
namespace Go.Proofs.Ytjhndbfhiknngaa
set_option linter.unusedSimpArgs false
set_option linter.unusedVariables false
open Go.RowKit

/-- One block more, at the end. -/
def joinB (l : List (Nat × Nat)) (b : Nat × Nat) : List (Nat × Nat) := match l.getLast? with
  | some x => if x.1 + x.2 = b.1 then l.dropLast ++ [(x.1, x.2 + b.2)] else l ++ [b]
  | none => [b]

theorem joinB_nil (b : Nat × Nat) : joinB [] b = [b] := rfl
theorem joinB_yes {l : List (Nat × Nat)} {a n : Nat} {b : Nat × Nat} (h : a + n = b.1) : joinB (l ++ [(a, n)]) b = l ++ [(a, n + b.2)] := by
  simp [joinB, h]
theorem joinB_no {l : List (Nat × Nat)} {a n : Nat} {b : Nat × Nat} (h : a + n ≠ b.1) : joinB (l ++ [(a, n)]) b = l ++ [(a, n), b] := by
  simp [joinB, h]

theorem joinB_more (l : List (Nat × Nat)) (p m : Nat) : joinB (joinB l (p, m)) (p + m, 1) = joinB l (p, m + 1) := by
  rcases List.eq_nil_or_concat l with rfl | ⟨l0, x, rfl⟩
  · rw [joinB_nil, joinB_nil]
    have := joinB_yes (l := []) (a := p) (n := m) (b := (p + m, 1)) rfl
    simpa using this
  · rw [List.concat_eq_append]
    obtain ⟨a, n⟩ := x
    by_cases h : a + n = p
    · rw [joinB_yes (b := (p, m)) h, joinB_yes (b := (p, m + 1)) h, joinB_yes (by simp; omega)]
      simp; omega
    · rw [joinB_no (b := (p, m)) h, joinB_no (b := (p, m + 1)) h]
      have := joinB_yes (l := l0 ++ [(a, n)]) (a := p) (n := m) (b := (p + m, 1)) rfl
      simpa using this

theorem joinB_len (l : List (Nat × Nat)) (b : Nat × Nat) : (joinB l b).length ≤ l.length + 1 := by
  rcases List.eq_nil_or_concat l with rfl | ⟨l0, ⟨a, n⟩, rfl⟩
  · simp [joinB_nil]
  · rw [List.concat_eq_append]
    by_cases h : a + n = b.1
    · rw [joinB_yes h]; simp
    · rw [joinB_no h]; simp

/-- What is swept of the first k objects. -/
def sweepL (hs : List Int) (fs : List (List Int)) : Nat → List (Nat × Nat)
  | 0 => []
  | k + 1 => if uhM (hs.getD k 0) then sweepL hs fs k else joinB (sweepL hs fs k) (tot (fs.take k), 1 + (fs.getD k []).length)

theorem sweep_yes {hs : List Int} {fs : List (List Int)} {k : Nat} {x : Int} (hx : hs[k]? = some x) (h : uhM x = true) : sweepL hs fs (k + 1) = sweepL hs fs k := by
  simp [sweepL, List.getD_eq_getElem?_getD, hx, h]
theorem sweep_no {hs : List Int} {fs : List (List Int)} {k : Nat} {x : Int} (hx : hs[k]? = some x) (hk : k < fs.length) (h : uhM x = false) : sweepL hs fs (k + 1) = joinB (sweepL hs fs k) (tot (fs.take k), 1 + fs[k].length) := by
  simp [sweepL, List.getD_eq_getElem?_getD, hx, h, hk]

theorem sweep_len (hs : List Int) (fs : List (List Int)) : ∀ k, (sweepL hs fs k).length ≤ k
  | 0 => by simp [sweepL]
  | k + 1 => by
    have := sweep_len hs fs k
    unfold sweepL
    split
    · omega
    · have := joinB_len (sweepL hs fs k) (tot (fs.take k), 1 + (fs.getD k []).length)
      omega

/-- How many words blocks have. -/
def sumB (l : List (Nat × Nat)) : Nat := (l.map fun x => x.2).sum

theorem sumB_snoc (l : List (Nat × Nat)) (x : Nat × Nat) : sumB (l ++ [x]) = sumB l + x.2 := by simp [sumB]

theorem sumB_join (l : List (Nat × Nat)) (b : Nat × Nat) : sumB (joinB l b) = sumB l + b.2 := by
  rcases List.eq_nil_or_concat l with rfl | ⟨l0, ⟨a, n⟩, rfl⟩
  · simp [joinB_nil, sumB]
  · rw [List.concat_eq_append]
    by_cases h : a + n = b.1
    · rw [joinB_yes h, sumB_snoc, sumB_snoc]; simp; omega
    · rw [joinB_no h]; simp [sumB]; omega

/-- Blocks that stand apart, by place, the last one ending at e at most. -/
def Apart : List (Nat × Nat) → Nat → Prop
  | l, e => (∀ x ∈ l, 1 ≤ x.2) ∧ (∀ (i : Nat) (x y : Nat × Nat), l[i]? = some x → l[i + 1]? = some y → x.1 + x.2 < y.1) ∧ (∀ x, l.getLast? = some x → x.1 + x.2 ≤ e)

theorem apart_join {l : List (Nat × Nat)} {p m : Nat} (h : Apart l p) (hm : 1 ≤ m) : Apart (joinB l (p, m)) (p + m) := by
  rcases List.eq_nil_or_concat l with rfl | ⟨l0, ⟨a, n⟩, rfl⟩
  · rw [joinB_nil]
    refine ⟨by simpa using hm, fun i x y h1 h2 => ?_, fun x hx => ?_⟩
    · simp at h2
    · simp at hx; subst hx; simp
  · rw [List.concat_eq_append] at h ⊢
    obtain ⟨h1, h2, h3⟩ := h
    have hl := h3 (a, n) (by simp)
    have hn := h1 (a, n) (by simp)
    simp only at hl hn
    by_cases e : a + n = p
    · rw [joinB_yes (b := (p, m)) e]
      refine ⟨fun x hx => ?_, fun i x y hx hy => ?_, fun x hx => ?_⟩
      · rcases List.mem_append.1 hx with hx | hx
        · exact h1 x (by simp [hx])
        · simp at hx; subst hx; simp; omega
      · by_cases hi : i + 1 < l0.length
        · rw [List.getElem?_append_left (by omega)] at hx hy
          exact h2 i x y (by rw [List.getElem?_append_left (by omega)]; exact hx) (by rw [List.getElem?_append_left (by omega)]; exact hy)
        · have hi' : i + 1 = l0.length := by
            have := (List.getElem?_eq_some_iff.1 hy).1
            simp at this
            omega
          rw [List.getElem?_append_left (by omega)] at hx
          rw [List.getElem?_append_right (by omega), hi', Nat.sub_self] at hy
          simp at hy
          subst hy
          have := h2 i x (a, n) (by rw [List.getElem?_append_left (by omega)]; exact hx) (by rw [List.getElem?_append_right (by omega), hi', Nat.sub_self]; rfl)
          simpa using this
      · simp at hx; subst hx; simp; omega
    · rw [joinB_no (b := (p, m)) e]
      refine ⟨fun x hx => ?_, fun i x y hx hy => ?_, fun x hx => ?_⟩
      · simp at hx
        rcases hx with hx | rfl | rfl
        · exact h1 x (by simp [hx])
        · exact hn
        · exact hm
      · rw [show l0 ++ [(a, n), (p, m)] = (l0 ++ [(a, n)]) ++ [(p, m)] by simp] at hx hy
        by_cases hi : i + 1 < (l0 ++ [(a, n)]).length
        · rw [List.getElem?_append_left (by omega)] at hx hy
          exact h2 i x y hx hy
        · have hi' : i + 1 = (l0 ++ [(a, n)]).length := by
            have := (List.getElem?_eq_some_iff.1 hy).1
            simp at this ⊢
            simp at hi
            omega
          rw [List.getElem?_append_left (by omega)] at hx
          rw [List.getElem?_append_right (by omega), hi', Nat.sub_self] at hy
          simp at hy
          subst hy
          have : i = l0.length := by simp at hi'; omega
          subst this
          simp at hx
          subst hx
          show a + n < p
          omega
      · simp at hx; subst hx; simp

theorem sweep_apart {hs : List Int} {fs : List (List Int)} (h : Fit hs fs) : ∀ k, k ≤ fs.length → Apart (sweepL hs fs k) (tot (fs.take k))
  | 0, _ => ⟨by simp [sweepL], by simp [sweepL], by simp [sweepL]⟩
  | k + 1, hk => by
    have ih := sweep_apart h k (by omega)
    have hk' : k < fs.length := by omega
    have hts := tot_take_succ hk'
    have hx : hs[k]? = some (hs[k]'(by have := h.len; omega)) := List.getElem?_eq_getElem _
    cases hm : uhM (hs[k]'(by have := h.len; omega))
    · rw [sweep_no hx hk' hm, hts, show tot (fs.take k) + (fs[k].length + 1) = tot (fs.take k) + (1 + fs[k].length) by omega]
      exact apart_join ih (by omega)
    · rw [sweep_yes hx hm]
      exact ⟨ih.1, ih.2.1, fun x hx => by have := ih.2.2 x hx; omega⟩

/-- How many words the marked ones of the first k objects have. -/
def markS (hs : List Int) (fs : List (List Int)) : Nat → Nat
  | 0 => 0
  | k + 1 => markS hs fs k + if uhM (hs.getD k 0) then 1 + (fs.getD k []).length else 0

theorem sweep_sum {hs : List Int} {fs : List (List Int)} (h : Fit hs fs) : ∀ k, k ≤ fs.length → sumB (sweepL hs fs k) + markS hs fs k = tot (fs.take k)
  | 0, _ => by simp [sweepL, markS, sumB, tot]
  | k + 1, hk => by
    have ih := sweep_sum h k (by omega)
    have hk' : k < fs.length := by omega
    have hts := tot_take_succ hk'
    have hx : hs[k]? = some (hs[k]'(by have := h.len; omega)) := List.getElem?_eq_getElem _
    have e1 : hs.getD k 0 = hs[k]'(by have := h.len; omega) := by rw [List.getD_eq_getElem?_getD, hx]; rfl
    have e2 : fs.getD k [] = fs[k] := by rw [List.getD_eq_getElem?_getD, List.getElem?_eq_getElem hk']; rfl
    cases hm : uhM (hs[k]'(by have := h.len; omega))
    · rw [sweep_no hx hk' hm, sumB_join, hts]
      simp only [markS, e1, hm]
      simp; omega
    · rw [sweep_yes hx hm, hts]
      simp only [markS, e1, e2, hm]
      simp; omega

end Go.Proofs.Ytjhndbfhiknngaa

/- Walks: fields. -/
namespace Go.Proofs.Ytjhndbfhiknngaa
set_option linter.unusedSimpArgs false
set_option linter.unusedVariables false
open Go.RowKit Go.Shelf
attribute [local go_sem] field51_0 field51_1

def FldRes (wb p l : Nat) (e : Ending) : Prop := ∃ a c, e = .returned (.slice a l c) ∧ (0 < l → a = some ⟨wb, p + 1, none⟩)

set_option maxRecDepth 100000 in
set_option maxHeartbeats 2000000 in
theorem fields_c (mb wb n cap p : Nat) (x : Int) (w : World) (h0 : w.cell? ⟨mb, 0, none⟩ = some (.slice (some ⟨wb, 0, none⟩) n cap)) (hx : w.cell? ⟨wb, p, none⟩ = some (.int .u64 x)) (hn : n ≤ 256) (hcap : n ≤ cap) (h1 : 0 ≤ x) (h2 : x < 18446744073709551616)
    (hk : unheadOk x = true) (hend : p + 1 + wlen x ≤ n) :
    Calls Try.prog 55 #[.pointer (some ⟨mb, 0, none⟩), .int .i64 (p : Nat)] w fun e w' => FldRes wb p (wlen x) e ∧ Below w.heap.size w w' := by
  have hlm : mb < w.heap.size := World.block_lt_of_cell? w _ h0
  have hlw : wb < w.heap.size := World.block_lt_of_cell? w _ hx
  have HL := hide (uhL_wlen hk)
  have hp : p < n := by omega
  have h4 := wlen_le hk
  have Hh := hide (header_c mb wb n cap p x w.drew h0 hx hp hn h1 h2)
  have w1 : IntKind.i64.wrap ((p : Int) + 1) = (p : Int) + 1 := by rw [IntKind.wrap_i64]; omega
  clear hk
  generalize wlen x = l at *
  by_cases hcp : cap = p + 1
  · subst hcp
    obtain rfl : l = 0 := by omega
    go_enter Try.func55, Try.ntmps55
    go_wp2
    go_region_with (go_at_call 54; go_must (refine (unhide Hh).mono ?_); go_must (rintro e w2 ⟨he, hb2⟩; rw [unhide HL] at he; subst he; have k0 := (hb2.cell (p := ⟨mb, 0, none⟩) hlm).trans h0))
    all_goals
      go_wp2
      go_ret
      exact ⟨⟨_, _, rfl, fun h => absurd h (by omega)⟩, (Below.refl _ w).drew.trans hb2⟩
  · have hcp1 : p + 1 < cap := by omega
    go_enter Try.func55, Try.ntmps55
    go_wp2
    go_region_with (go_at_call 54; go_must (refine (unhide Hh).mono ?_); go_must (rintro e w2 ⟨he, hb2⟩; rw [unhide HL] at he; subst he; have k0 := (hb2.cell (p := ⟨mb, 0, none⟩) hlm).trans h0))
    all_goals
      go_wp2
      go_ret
      exact ⟨⟨_, _, rfl, fun _ => by simp⟩, (Below.refl _ w).drew.trans hb2⟩

end Go.Proofs.Ytjhndbfhiknngaa

/- Walks: take, climb. -/
namespace Go.Proofs.Ytjhndbfhiknngaa
set_option linter.unusedSimpArgs false
set_option linter.unusedVariables false
open Go.RowKit Go.Shelf
attribute [local go_sem] field51_0 field51_1

theorem below_drewN {B : Nat} {a w : World} (h : Below B a w) (n : Nat) : Below B a (w.drewN n) := ⟨h.os, h.tape, h.output, h.size, h.block⟩

/-- The places of objects. -/
def plc (fs : List (List Int)) (K : List Nat) : List Int := K.map fun i => ((tot (fs.take i) : Nat) : Int)
theorem plc_snoc (fs : List (List Int)) (K : List Nat) (i : Nat) : plc fs (K ++ [i]) = plc fs K ++ [((tot (fs.take i) : Nat) : Int)] := by simp [plc]
theorem plc_len (fs : List (List Int)) (K : List Nat) : (plc fs K).length = K.length := by simp [plc]

/-- A marker of an arena: which objects are marked, which are kept. -/
def MkA (W : World) (N mb : Nat) (vw vr : Value) (hs : List Int) (fs : List (List Int)) (rs : List Int) (room : Nat) (p : Nat → Bool) (K : List Nat) (lost : Bool) : Prop := ∃ vk, Mk W N mb vw vr vk (mW hs fs p) rs (plc fs K) room lost

theorem MkA.below {W W' : World} {N mb : Nat} {vw vr : Value} {hs : List Int} {fs : List (List Int)} {rs : List Int} {room : Nat} {p : Nat → Bool} {K : List Nat} {lost : Bool} (h : MkA W N mb vw vr hs fs rs room p K lost) (hb : Below W.heap.size W W') : MkA W' N mb vw vr hs fs rs room p K lost := by
  obtain ⟨vk, h⟩ := h
  exact ⟨vk, h.below hb⟩

/-- What take leaves. -/
def TkRes (N mb : Nat) (vw vr : Value) (hs : List Int) (fs : List (List Int)) (rs : List Int) (room : Nat) (p : Nat → Bool) (K : List Nat) (lost : Bool) (i : Nat) (W : World) : Prop :=
  (K.length = room ∧ MkA W N mb vw vr hs fs rs room (upd p i) K true) ∨ (K.length ≠ room ∧ MkA W N mb vw vr hs fs rs room (upd p i) (K ++ [i]) lost)

set_option maxRecDepth 100000 in
set_option maxHeartbeats 2000000 in
theorem take_c (hs : List Int) (fs : List (List Int)) (rs : List Int) (p : Nat → Bool) (K : List Nat) (N mb : Nat) (vw vr : Value) (room i : Nat) (lost : Bool) (w : World)
    (hM : MkA w N mb vw vr hs fs rs room p K lost) (hF : Fit hs fs) (h256 : tot fs ≤ 256) (hroom : room ≤ 64) (hK : K.length ≤ room) (hi : i < fs.length) :
    Calls Try.prog 42 #[.pointer (some ⟨mb, 0, none⟩), .int .i64 (tot (fs.take i) : Nat)] w fun e w' => (e = .returned (.tuple #[]) ∧ TkRes N mb vw vr hs fs rs room p K lost i w') ∧ Below N w w' ∧ KeepT w w' := by
  obtain ⟨i0, hi0, hz0, hz1, hz2⟩ := info_parts Try.info3
  obtain ⟨vk, hM⟩ := hM
  have hpl := place_lt hi
  have hml := mW_len hF p
  obtain ⟨wb, cap, hvw, hwN, hwb, hcap⟩ := hM.words (by rw [hml]; omega)
  rw [hml] at hvw hcap
  subst hvw
  obtain ⟨x, hx, hx1, hx2, hx3, hx4⟩ := fit_at hF hi
  have hr2 := reh_ok (p i) x
  have hmg := mW_get hF p hx
  have hNw : N ≤ w.heap.size := by omega
  have Hh := hide (header_c mb wb (tot fs) cap _ _ w hM.box.c0 (hM.wcell hml.symm hmg).1 hpl h256 hr2.2.2.2.2.1 hr2.2.2.2.2.2)
  have Hset : Hid (∀ W, Below w.heap.size w W → Calls Try.prog 40 #[.pointer (some ⟨mb, 0, none⟩), .int .i64 (tot (fs.take i) : Nat), .agg #[.int .i64 (uhL (reh (p i) x)), .bool (uhM (reh (p i) x)), .int .i64 (uhA (reh (p i) x))], .bool true] W fun e w' => e = .returned (.tuple #[]) ∧ Mk w' N mb (.slice (some ⟨wb, 0, none⟩) (tot fs) cap) vr vk (mW hs fs (upd p i)) rs (plc fs K) room lost ∧ Below N W w' ∧ KeepT W w') := fun W hbW => by
    have hMW := hM.below hbW
    refine (set_w mb wb (tot fs) cap _ _ _ _ _ true W hMW.box.c0 (hMW.wcell hml.symm hmg).1 (hMW.wcell hml.symm hmg).2 hpl h256).mono ?_
    rintro e w' ⟨rfl, w1, hb1, rfl⟩
    refine ⟨rfl, ?_, ?_, (KeepT.below hb1).setCell (ty_row (by have := (hMW.below hb1).wo; rw [hml] at this; exact this)) (.inl rfl) _⟩
    · have := (hMW.below hb1).setW hml.symm (tot (fs.take i)) (headW (uhL (reh (p i) x)) true (uhA (reh (p i) x)))
      rw [show headW (uhL (reh (p i) x)) true (uhA (reh (p i) x)) = reh true x from by rw [hr2.2.1, hr2.2.2.2.1]; rfl, mW_set hF p hx] at this
      rw [hr2.2.1, hr2.2.2.2.1]
      exact this
    · exact (hb1.mono (by have := hbW.size; omega)).setCell (p := ⟨wb, tot (fs.take i), none⟩) hwN _
  have Hpl : Hid (plc fs (K ++ [i]) = plc fs K ++ [((tot (fs.take i) : Nat) : Int)]) := plc_snoc fs K i
  have Hkl : Hid ((plc fs K).length = K.length) := plc_len fs K
  clear hM hmg hml hr2 hx hx1 hx2 hx3 hx4
  generalize uhL (reh (p i) x) = L at *
  generalize uhM (reh (p i) x) = M at *
  generalize uhA (reh (p i) x) = A at *
  generalize hpp : tot (fs.take i) = pl at *
  clear hpp
  generalize hkk : plc fs K = PK at *
  have Hkk := hide hkk
  clear hkk
  go_enter Try.func42, Try.ntmps42
  go_wp2_with fail
  refine (unhide Hh).mono ?_
  rintro e w2 ⟨rfl, hb2⟩
  go_wp2_with fail
  refine (unhide Hset w2 hb2).mono ?_
  rintro e w3 ⟨rfl, hM3, hb3, hk3⟩
  have hs2 := hb2.size
  have hs3 := hb3.size
  have hbN : Below N w w3 := (hb2.mono hNw).trans hb3
  have HkN := hide ((KeepT.below hb2).trans hk3)
  clear hk3
  have q2 := hM3.box.c2
  have q3 := hM3.box.c3
  have q4 := hM3.box.c4
  have z3 := hM3.box.fr 3
  have z4 := hM3.box.fr 4
  have hko := hM3.ko
  have hlm := hM3.box.lt
  obtain ⟨ka, kc, rfl⟩ := ownsRow_slice hko
  rw [unhide Hkl] at q3 hko
  have HM3 := hide hM3
  clear hM3 Hh Hset hb2 hb3
  by_cases hfull : K.length = room
  · have d0 : ((K.length : Int) == (room : Int)) = true := by simp; omega
    have Hfull := hide hfull
    clear hfull
    go_wp2
    go_quiet (fail)
    have hM4 := (unhide HM3).below (below_drewN (Below.refl _ _) nq)
    have hb4 := below_drewN hbN nq
    have Hk4 := hide ((unhide HkN).trans (KeepT.below (below_drewN (Below.refl _ w3) nq)))
    clear q2 q3 q4 z3 z4 hko hlm HM3 hbN hs3 d0 HkN
    generalize w3.drewN nq = w4 at *
    have q4 := hM4.box.c4
    have z4 := hM4.box.fr 4
    have hlm := hM4.box.lt
    have hmN := hM4.lo
    have HM4 := hide hM4
    clear hM4
    go_wp2
    refine bodyPost_ret (v := .tuple #[]) (results_none rfl _ _ _) rfl ⟨⟨rfl, .inl ⟨unhide Hfull, .slice ka PK.length kc, ?_⟩⟩, hb4.setCell (p := ⟨mb, 4, none⟩) hmN _, (unhide Hk4).setCell (unhide HM4).box.ty (.inr (.inr rfl)) _⟩
    rw [unhide Hkk]
    exact (unhide HM4).setL true
  · have d0 : ((K.length : Int) == (room : Int)) = false := by simp; omega
    have Hfull := hide hfull
    have hKr : K.length < room := by omega
    clear hfull
    go_wp2
    go_quiet (fail)
    have hM4 := (unhide HM3).below (below_drewN (Below.refl _ _) nq)
    have hb4 := below_drewN hbN nq
    have Hk4 := hide ((unhide HkN).trans (KeepT.below (below_drewN (Below.refl _ w3) nq)))
    clear q2 q3 q4 z3 z4 hko hlm HM3 hbN hs3 d0 HkN
    generalize w3.drewN nq = w4 at *
    have q3 := hM4.box.c3
    have z3 := hM4.box.fr 3
    have hlm := hM4.box.lt
    have hmN := hM4.lo
    have hko := hM4.ko
    rw [unhide Hkl] at q3 hko
    have HM4 := hide hM4
    clear hM4
    go_wp2_with (at_builtin; go_must (refine wpList_append_own_at _ rfl _ _ 40 rfl N 3 i0 _ 1 8 Try.underlying40 hi0 hz0 hz1 hz2 rfl (by decide) _ _ _ rfl (hko.alloc _) ⟨w4.heap.size, 0, none⟩ 1 1 [.int .i64 (pl : Int)] rfl rfl (cell_one_at _ _ _ _ (by simp)) (by simp [Value.oneCell']) (by simp only [maxLen]; omega) (by omega) (by simp; omega) ?_); go_must (intro v' w5 hrow hg5 _ hat; obtain ⟨g5, c5, hv5⟩ := ownsRow_succ hrow; subst hv5; have hpush := ((unhide HM4).alloc (.cells #[.int .i64 (pl : Int)] 3)).push (x := (pl : Int)) (by rw [unhide Hkl]; exact hrow) (by rw [unhide Hkl]; exact hg5) (by rw [unhide Hkl]; exact hat); have r3 := hpush.1.c3; have t3 := hpush.1.fr 3; have Hpush := hide hpush.2; have Hk5 := hide (((unhide Hk4).alloc (.cells #[.int .i64 (pl : Int)] 3)).grown (hko.alloc _) hg5 (.inr (.inl rfl))); have Hty := hide hpush.1.ty; clear hpush))
    refine bodyPost_end (v := .tuple #[]) (results_none rfl _ _ _) rfl ⟨⟨rfl, .inr ⟨unhide Hfull, .slice (some ⟨g5, 0, none⟩) (K.length + 1) c5, ?_⟩⟩, ?_, (unhide Hk5).setCell (unhide Hty) (.inr (.inr rfl)) _⟩
    · rw [unhide Hpl]
      exact unhide Hpush
    · exact ((hb4.alloc (by omega) _).grown hg5 (by simp; omega) (fun q e => (hko.lt q e).1)).setCell (p := ⟨mb, 3, none⟩) hmN _

end Go.Proofs.Ytjhndbfhiknngaa

/- Walks: join. -/
namespace Go.Proofs.Ytjhndbfhiknngaa
set_option linter.unusedSimpArgs false
set_option linter.unusedVariables false
open Go.RowKit Go.Shelf

theorem Try.info57 : (Try.prog.info? 57).map (fun i => (i.zero, i.size, i.bytes)) = some (some (.agg #[.int .i64 0, .int .i64 0]), 2, 16) := by kernel_rfl

/-- The cells of blocks. -/
def cellsB (l : List (Nat × Nat)) : List Value := l.flatMap fun x => [.int .i64 (x.1 : Nat), .int .i64 (x.2 : Nat)]

theorem cellsB_snoc (l : List (Nat × Nat)) (a n : Nat) : cellsB (l ++ [(a, n)]) = cellsB l ++ [.int .i64 (a : Nat), .int .i64 (n : Nat)] := by simp [cellsB]
theorem cellsB_len : ∀ (l : List (Nat × Nat)), (cellsB l).length = l.length * 2
  | [] => rfl
  | x :: l => by have := cellsB_len l; simp only [cellsB, List.flatMap_cons, List.length_append, List.length_cons, List.length_nil] at *; omega

theorem cellsB_get : ∀ (l : List (Nat × Nat)) (k : Nat) (x : Nat × Nat), l[k]? = some x → (cellsB l)[k * 2]? = some (.int .i64 (x.1 : Nat)) ∧ (cellsB l)[k * 2 + 1]? = some (.int .i64 (x.2 : Nat))
  | [], _, _, h => by simp at h
  | x :: l, 0, v, h => by simp at h; subst h; simp [cellsB]
  | x :: l, k + 1, v, h => by
    have := cellsB_get l k v (by simpa using h)
    have e1 : (k + 1) * 2 = k * 2 + 1 + 1 := by omega
    have e2 : (k + 1) * 2 + 1 = k * 2 + 1 + 1 + 1 := by omega
    rw [e1]
    simp only [cellsB, List.flatMap_cons, List.cons_append, List.nil_append, List.getElem?_cons_succ]
    exact this

theorem cellsB_last (l : List (Nat × Nat)) (a n m : Nat) : (cellsB (l ++ [(a, n)])).set (l.length * 2 + 1) (.int .i64 (m : Nat)) = cellsB (l ++ [(a, m)]) := by
  rw [cellsB_snoc, cellsB_snoc, List.set_append_right _ _ (by rw [cellsB_len]; omega), cellsB_len, show l.length * 2 + 1 - l.length * 2 = 1 by omega]
  rfl

/-- What join leaves. -/
def JnRes (base : Nat) (l : List (Nat × Nat)) (b : Nat × Nat) (v : Value) (w : World) (e : Ending) (W : World) : Prop :=
  ∃ v', e = .returned v' ∧ W.ownsRow base 57 2 v' (joinB l b).length (cellsB (joinB l b)) ∧ w.grownBy W v.ownBlock ∧ (v'.ownBlock = v.ownBlock ∨ ∃ k, v'.ownBlock = some k ∧ w.heap.size ≤ k)

theorem grown_alloc {w W : World} {row : Option Nat} (o : Obj) (h : (w.alloc o).grownBy W row) (hn : row = none ∨ ∃ k, row = some k ∧ k < w.heap.size) : w.grownBy W row :=
  ⟨h.os, h.tape, h.output, by have := h.size; simp at this; omega, fun k hk hne => by rw [h.block k (by simp; omega) hne]; exact Below.heap_alloc _ _ _ hk⟩

theorem row_none {w : World} {base : Nat} {e : TypeId} {size : Nat} {v : Value} {n : Nat} {xs : List Value} (h : w.ownsRow base e size v n xs) : v.ownBlock = none ∨ ∃ k, v.ownBlock = some k ∧ k < w.heap.size := by
  cases hv : v.ownBlock with
  | none => exact .inl rfl
  | some k => exact .inr ⟨k, rfl, (h.lt k hv).2⟩

set_option maxRecDepth 100000 in
set_option maxHeartbeats 2000000 in
theorem join_c (v : Value) (base : Nat) (l : List (Nat × Nat)) (p m : Nat) (w : World) (h : w.ownsRow base 57 2 v l.length (cellsB l)) (hl : ∀ x ∈ l, x.1 + x.2 ≤ 256) (hn : l.length ≤ 256) (hp : p ≤ 256) (hm : m ≤ 256) (hbase : base ≤ w.heap.size) :
    Calls Try.prog 31 #[v, .agg #[.int .i64 (p : Nat), .int .i64 (m : Nat)]] w fun e w' => JnRes base l (p, m) v w e w' := by
  obtain ⟨i0, hi0, hz0, hz1, hz2⟩ := info_parts Try.info57
  rcases List.eq_nil_or_concat l with rfl | ⟨l0, ⟨a, n⟩, hl0⟩
  · obtain ⟨va, vc, hv⟩ := ownsRow_slice h
    simp only [List.length_nil] at hv h
    subst hv
    have H := hide h
    have h1 := (h.alloc (.cells #[.int .i64 (p : Nat), .int .i64 (m : Nat)] 57)).drew
    have d0 : decide ((0 : Int) > 0) = false := by decide
    have d0' : decide ((0 : Int) < 0) = false := by decide
    go_enter Try.func31, Try.ntmps31
    go_wp2
    go_quiet (fail)
    have hb2 : Below w.heap.size w ((w.alloc (.cells #[.int .i64 (p : Nat), .int .i64 (m : Nat)] 57)).drewN nq) := below_drewN ((Below.refl _ _).alloc (Nat.le_refl _) _) nq
    have c0 : ((w.alloc (.cells #[.int .i64 (p : Nat), .int .i64 (m : Nat)] 57)).drewN nq).cell? ⟨w.heap.size, 0, none⟩ = some (.int .i64 (p : Nat)) := by show (w.alloc _).cell? _ = _; simp [go_sem]
    have c1 : ((w.alloc (.cells #[.int .i64 (p : Nat), .int .i64 (m : Nat)] 57)).drewN nq).cell? ⟨w.heap.size, 1, none⟩ = some (.int .i64 (m : Nat)) := by show (w.alloc _).cell? _ = _; simp [go_sem]
    have hs2 : w.heap.size < ((w.alloc (.cells #[.int .i64 (p : Nat), .int .i64 (m : Nat)] 57)).drewN nq).heap.size := by show w.heap.size < (w.heap.push _).size; simp
    clear h1
    generalize (w.alloc (.cells #[.int .i64 (p : Nat), .int .i64 (m : Nat)] 57)).drewN nq = W2 at *
    have h2 := ownsRow_below (unhide H) hb2
    go_wp2_with (at_builtin; go_must (refine wpList_append_own_at _ rfl _ _ 28 rfl base 57 i0 _ 2 16 Try.underlying28 hi0 hz0 hz1 hz2 rfl (by decide) _ _ _ rfl (h2.alloc _) ⟨W2.heap.size, 0, none⟩ 1 1 [.int .i64 (p : Nat), .int .i64 (m : Nat)] rfl rfl (cell_two_at _ _ _ _ _ (by simp)) (by simp [Value.oneCell']) (by simp only [maxLen]; omega) (by omega) (by simp; omega) ?_); go_must (intro v' w5 hrow hg5 _ hat))
    go_ret
    refine ⟨v', rfl, ?_, ?_, ?_⟩
    · exact hrow
    · have := hg5.size
      simp at this
      exact ⟨hg5.os.trans hb2.os, hg5.tape.trans hb2.tape, hg5.output.trans hb2.output, by omega, fun k hk hne => by rw [hg5.block k (by simp; omega) hne, Below.heap_alloc _ _ _ (by omega), hb2.block k hk]⟩
    · rcases hat with e | e
      · exact .inl e
      · exact .inr ⟨_, e, by simp; omega⟩
  · rw [List.concat_eq_append] at hl0
    subst hl0
    have hK : (l0 ++ [(a, n)]).length = l0.length + 1 := by simp
    rw [hK] at h hn
    obtain ⟨g, cap, hv⟩ := ownsRow_succ h
    subst hv
    have hcap : l0.length + 1 ≤ cap := by
      rcases h.2 with ⟨e, _⟩ | ⟨g', cap', cur, e, _, _, h3, _⟩
      · cases e
      · injection e with _ _ e; omega
    have hg := (h.lt g rfl).2
    have hxy := cellsB_get (l0 ++ [(a, n)]) l0.length (a, n) (by simp)
    have x0 : w.cell? ⟨g, l0.length * 2, none⟩ = some (.int .i64 (a : Nat)) := by rw [h.cellAt _ (by omega)]; exact hxy.1
    have x1 : w.cell? ⟨g, l0.length * 2 + 1, none⟩ = some (.int .i64 (n : Nat)) := by rw [h.cellAt _ (by omega)]; exact hxy.2
    have xf := h.frozenAt (l0.length * 2 + 1)
    have han := hl (a, n) (by simp)
    simp only at han
    have H := hide h
    obtain ⟨W1, hW1⟩ : ∃ W1, w.alloc (.cells #[.int .i64 (p : Nat), .int .i64 (m : Nat)] 57) = W1 := ⟨_, rfl⟩
    have hb1 : Below w.heap.size w W1 := by rw [← hW1]; exact (Below.refl _ _).alloc (Nat.le_refl _) _
    have hs1 : w.heap.size < W1.heap.size := by rw [← hW1]; simp
    have c0 : W1.cell? ⟨w.heap.size, 0, none⟩ = some (.int .i64 (p : Nat)) := by rw [← hW1]; simp [go_sem]
    have c1 : W1.cell? ⟨w.heap.size, 1, none⟩ = some (.int .i64 (m : Nat)) := by rw [← hW1]; simp [go_sem]
    replace x0 := (hb1.cell (p := ⟨g, l0.length * 2, none⟩) hg).trans x0
    replace x1 := (hb1.cell (p := ⟨g, l0.length * 2 + 1, none⟩) hg).trans x1
    replace xf := (hb1.frozen (p := ⟨g, l0.length * 2 + 1, none⟩) hg).trans xf
    have hg1 : g < W1.heap.size := by omega
    have d0 : decide (((l0.length + 1 : Nat) : Int) > 0) = true := decide_eq_true (by omega)
    have d0' : decide ((0 : Int) < ((l0.length + 1 : Nat) : Int)) = true := decide_eq_true (by omega)
    have e1 : ((l0.length + 1 : Nat) : Int) - 1 = (l0.length : Int) := by omega
    have w1 : IntKind.i64.wrap (((l0.length + 1 : Nat) : Int) - 1) = (l0.length : Int) := by rw [IntKind.wrap_i64]; omega
    have w2 : IntKind.i64.wrap ((a : Int) + (n : Int)) = (a : Int) + (n : Int) := by rw [IntKind.wrap_i64]; omega
    have hI : (l0.length : Int) < ((l0.length + 1 : Nat) : Int) := by omega
    clear hxy h hl hK
    by_cases hc : a + n = p
    · have HJ := hide (joinB_yes (l := l0) (b := (p, m)) hc)
      have d1 : ((a : Int) + (n : Int) == (p : Int)) = true := by simp; omega
      go_enter Try.func31, Try.ntmps31
      go_wp2
      go_quiet (fail)
      have hb2 := below_drewN hb1 nq
      have y0 : (W1.drewN nq).cell? ⟨g, l0.length * 2, none⟩ = some (.int .i64 (a : Nat)) := x0
      have y1 : (W1.drewN nq).cell? ⟨g, l0.length * 2 + 1, none⟩ = some (.int .i64 (n : Nat)) := x1
      have yf : (W1.drewN nq).frozen? ⟨g, l0.length * 2 + 1, none⟩ = false := xf
      have b0 : (W1.drewN nq).cell? ⟨w.heap.size, 0, none⟩ = some (.int .i64 (p : Nat)) := c0
      have b1 : (W1.drewN nq).cell? ⟨w.heap.size, 1, none⟩ = some (.int .i64 (m : Nat)) := c1
      have hs2 : w.heap.size < (W1.drewN nq).heap.size := hs1
      have hg2 : g < (W1.drewN nq).heap.size := hg1
      clear x0 x1 xf c0 c1 hb1 hs1 hg1 hW1
      generalize W1.drewN nq = W2 at *
      have w3 : IntKind.i64.wrap ((n : Int) + (m : Int)) = (n : Int) + (m : Int) := by rw [IntKind.wrap_i64]; omega
      go_wp2
      go_region
      all_goals
        go_wp2
        go_ret
        have hr2 := (ownsRow_below (unhide H) hb2).drew
        have hst := hr2.stored (l0.length * 2 + 1) (.int .i64 ((n : Int) + (m : Int)))
        refine ⟨.slice (some ⟨g, 0, none⟩) (l0.length + 1) cap, rfl, ?_, ?_, .inl rfl⟩
        · rw [unhide HJ, List.length_append, List.length_singleton]
          have := hst.1
          rw [← Int.natCast_add, cellsB_last] at this
          rw [← Int.natCast_add]
          exact this
        · have := hst.2
          exact ⟨this.os.trans hb2.os, this.tape.trans hb2.tape, this.output.trans hb2.output, by have := this.size; exact Nat.le_trans (Nat.le_of_lt hs2) this, fun k hk hne => (this.block k (Nat.lt_trans hk hs2) hne).trans (hb2.block k hk)⟩
    · have HJ := hide (joinB_no (l := l0) (b := (p, m)) hc)
      have d1 : ((a : Int) + (n : Int) == (p : Int)) = false := by simp; omega
      go_enter Try.func31, Try.ntmps31
      go_wp2
      go_quiet (fail)
      have hb2 := below_drewN hb1 nq
      have y0 : (W1.drewN nq).cell? ⟨g, l0.length * 2, none⟩ = some (.int .i64 (a : Nat)) := x0
      have y1 : (W1.drewN nq).cell? ⟨g, l0.length * 2 + 1, none⟩ = some (.int .i64 (n : Nat)) := x1
      have yf : (W1.drewN nq).frozen? ⟨g, l0.length * 2 + 1, none⟩ = false := xf
      have b0 : (W1.drewN nq).cell? ⟨w.heap.size, 0, none⟩ = some (.int .i64 (p : Nat)) := c0
      have b1 : (W1.drewN nq).cell? ⟨w.heap.size, 1, none⟩ = some (.int .i64 (m : Nat)) := c1
      have hs2 : w.heap.size < (W1.drewN nq).heap.size := hs1
      have hg2 : g < (W1.drewN nq).heap.size := hg1
      clear x0 x1 xf c0 c1 hb1 hs1 hg1 hW1
      generalize W1.drewN nq = W2 at *
      have h2 := ownsRow_below (unhide H) hb2
      go_wp2_with (at_builtin; go_must (refine wpList_append_own_at _ rfl _ _ 28 rfl base 57 i0 _ 2 16 Try.underlying28 hi0 hz0 hz1 hz2 rfl (by decide) _ _ _ rfl (h2.alloc _) ⟨W2.heap.size, 0, none⟩ 1 1 [.int .i64 (p : Nat), .int .i64 (m : Nat)] rfl rfl (cell_two_at _ _ _ _ _ (by simp)) (by simp [Value.oneCell']) (by simp only [maxLen]; omega) (by omega) (by simp; omega) ?_); go_must (intro v' w5 hrow hg5 _ hat))
      go_ret
      refine ⟨v', rfl, ?_, ?_, ?_⟩
      · rw [unhide HJ, show l0 ++ [(a, n), (p, m)] = (l0 ++ [(a, n)]) ++ [(p, m)] by simp, cellsB_snoc, List.length_append, List.length_append]
        exact hrow
      · have := hg5.size
        simp at this
        exact ⟨hg5.os.trans hb2.os, hg5.tape.trans hb2.tape, hg5.output.trans hb2.output, by omega, fun k hk hne => by rw [hg5.block k (by simp; omega) hne, Below.heap_alloc _ _ _ (by omega), hb2.block k hk]⟩
      · rcases hat with e | e
        · exact .inl e
        · exact .inr ⟨_, e, by simp; omega⟩

end Go.Proofs.Ytjhndbfhiknngaa

/- Walks: each. -/
namespace Go.Proofs.Ytjhndbfhiknngaa
set_option linter.unusedSimpArgs false
set_option linter.unusedVariables false
open Go.RowKit Go.Shelf
attribute [local go_sem] field51_0 field51_1

/-- Headers in boxes are as they were. -/
def Keep51 (W W' : World) : Prop := ∀ (k : Nat) (cs : Array Value), W.heap[k]? = some (.cells cs 51) → W'.heap[k]? = some (.cells cs 51)

theorem KeepT.k51 {W W' : World} (h : KeepT W W') : Keep51 W W' := fun k cs hk => h k cs 51 hk (by decide) (by decide) (by decide)

/-- What each may rely on at an object. -/
def EachAt (fid : Nat) (c0 : Value) (a : Option Addr) (fs : List (List Int)) (I : Nat → World → Prop) (k : Nat) (l : Nat) (W : World) : Prop :=
  ∃ wb off x, a = some ⟨wb, off, none⟩ ∧ W.cell? ⟨wb, off + tot (fs.take k), none⟩ = some (.int .u64 x) ∧ 0 ≤ x ∧ x < 18446744073709551616 ∧ unheadOk x = true ∧ wlen x = l ∧
    ∀ W', Below W.heap.size W W' → Calls Try.prog fid #[.int .i64 (tot (fs.take k) : Nat), .agg #[.int .i64 l, .bool (uhM x), .int .i64 (uhA x)], c0] W' fun e W'' => e = .returned (.tuple #[]) ∧ I (k + 1) W'' ∧ Keep51 W' W'' ∧ W'.heap.size ≤ W''.heap.size

set_option maxRecDepth 100000 in
set_option maxHeartbeats 2000000 in
theorem each39_c (c0 : Value) (a : Option Addr) (cap : Nat) (fs : List (List Int)) (I : Nat → World → Prop) (w : World) (h256 : tot fs ≤ 256) (hI : I 0 w)
    (hat : ∀ (k : Nat) (hk : k < fs.length) W, I k W → EachAt 39 c0 a fs I k fs[k].length W) :
    Calls Try.prog 29 #[.slice a (tot fs : Nat) cap, .func (.func 39) #[] #[c0]] w fun e w' => e = .returned (.tuple #[]) ∧ I fs.length w' := by
  have HI := hide hI
  have Hat := hide hat
  clear hI hat
  go_enter Try.func29, Try.ntmps29
  go_wp2
  go_loopw [4] (fun i wr => ∃ k : Nat, k ≤ fs.length ∧ i = .int .i64 (tot (fs.take k) : Nat) ∧ Hid (I k wr)) (fun i _ => tot fs - (intOf i).toNat)
  case atStart => exact ⟨0, Nat.zero_le _, rfl, HI⟩
  case round =>
    clear HI
    obtain ⟨k, hk, rfl, HI⟩ := hrel
    by_cases hlt : k < fs.length
    · obtain ⟨wb, off, x, rfl, hx, hx1, hx2, hx3, hx4, hcall⟩ := unhide Hat k hlt wr (unhide HI)
      have hpl := place_lt hlt
      have hts := tot_take_succ hlt
      have htl := tot_take_le fs (k + 1)
      have HL := hide (uhL_wlen hx3)
      rw [hx4] at HL
      have HE := hide (uhE_ok hx3)
      have Hcall := hide hcall
      have HN : Hid (tot (fs.take (k + 1)) = tot (fs.take k) + 1 + fs[k].length) := by show _ = _; omega
      have hwl : wb < wr.heap.size := World.block_lt_of_cell? wr _ hx
      have hle : tot (fs.take k) + 1 + fs[k].length ≤ 256 := by omega
      clear hcall hx3 hx4 hts htl HI
      generalize fs[k].length = l at *
      generalize tot (fs.take k) = q at *
      generalize tot fs = n at *
      have hqI : (q : Int) < (n : Int) := by omega
      go_wp2_with fail
      refine (unhead_c x _ hx1 hx2).mono ?_
      rintro e w2 ⟨he, hb2⟩
      rw [unhide HL, unhide HE] at he
      subst he
      have hs2 := hb2.size
      have Hc2 := hide (unhide Hcall (w2.alloc (.cells #[.int .i64 (l : Nat), .bool (uhM x), .int .i64 (uhA x)] 51)) (hb2.alloc hs2 _))
      clear Hcall
      go_wp2_with fail
      refine (unhide Hc2).mono ?_
      rintro e w3 ⟨he, hI3, hk3, hs3⟩
      subst he
      have h51 := hk3 w2.heap.size #[.int .i64 (l : Nat), .bool (uhM x), .int .i64 (uhA x)] (heap_alloc_new _ _)
      have g0 : w3.cell? ⟨w2.heap.size, 0, none⟩ = some (.int .i64 (l : Nat)) := by rw [cell_of_row w3 w2.heap.size 0 _ 51 (0, 0) h51]; rfl
      have hl3 : w2.heap.size < w3.heap.size := by simp only [World.size_alloc] at hs3; omega
      have HI3 := hide hI3
      clear h51 hk3 hI3 Hc2
      go_wp2
      go_roundw
      case rel => exact ⟨k + 1, by omega, by rw [unhide HN]; go_num, HI3⟩
      case measure => simp [intOf]; omega
    · obtain rfl : k = fs.length := by omega
      have e0 : tot (fs.take fs.length) = tot fs := by rw [List.take_length]
      rw [e0]
      generalize tot fs = n at *
      go_wp2
      exact bodyPost_end (v := .tuple #[]) (results_none rfl _ _ _) rfl ⟨rfl, unhide HI⟩

set_option maxRecDepth 100000 in
set_option maxHeartbeats 2000000 in
theorem each56_c (c0 : Value) (a : Option Addr) (cap : Nat) (fs : List (List Int)) (I : Nat → World → Prop) (w : World) (h256 : tot fs ≤ 256) (hI : I 0 w)
    (hat : ∀ (k : Nat) (hk : k < fs.length) W, I k W → EachAt 56 c0 a fs I k fs[k].length W) :
    Calls Try.prog 29 #[.slice a (tot fs : Nat) cap, .func (.func 56) #[] #[c0]] w fun e w' => e = .returned (.tuple #[]) ∧ I fs.length w' := by
  have HI := hide hI
  have Hat := hide hat
  clear hI hat
  go_enter Try.func29, Try.ntmps29
  go_wp2
  go_loopw [4] (fun i wr => ∃ k : Nat, k ≤ fs.length ∧ i = .int .i64 (tot (fs.take k) : Nat) ∧ Hid (I k wr)) (fun i _ => tot fs - (intOf i).toNat)
  case atStart => exact ⟨0, Nat.zero_le _, rfl, HI⟩
  case round =>
    clear HI
    obtain ⟨k, hk, rfl, HI⟩ := hrel
    by_cases hlt : k < fs.length
    · obtain ⟨wb, off, x, rfl, hx, hx1, hx2, hx3, hx4, hcall⟩ := unhide Hat k hlt wr (unhide HI)
      have hpl := place_lt hlt
      have hts := tot_take_succ hlt
      have htl := tot_take_le fs (k + 1)
      have HL := hide (uhL_wlen hx3)
      rw [hx4] at HL
      have HE := hide (uhE_ok hx3)
      have Hcall := hide hcall
      have HN : Hid (tot (fs.take (k + 1)) = tot (fs.take k) + 1 + fs[k].length) := by show _ = _; omega
      have hwl : wb < wr.heap.size := World.block_lt_of_cell? wr _ hx
      have hle : tot (fs.take k) + 1 + fs[k].length ≤ 256 := by omega
      clear hcall hx3 hx4 hts htl HI
      generalize fs[k].length = l at *
      generalize tot (fs.take k) = q at *
      generalize tot fs = n at *
      have hqI : (q : Int) < (n : Int) := by omega
      go_wp2_with fail
      refine (unhead_c x _ hx1 hx2).mono ?_
      rintro e w2 ⟨he, hb2⟩
      rw [unhide HL, unhide HE] at he
      subst he
      have hs2 := hb2.size
      have Hc2 := hide (unhide Hcall (w2.alloc (.cells #[.int .i64 (l : Nat), .bool (uhM x), .int .i64 (uhA x)] 51)) (hb2.alloc hs2 _))
      clear Hcall
      go_wp2_with fail
      refine (unhide Hc2).mono ?_
      rintro e w3 ⟨he, hI3, hk3, hs3⟩
      subst he
      have h51 := hk3 w2.heap.size #[.int .i64 (l : Nat), .bool (uhM x), .int .i64 (uhA x)] (heap_alloc_new _ _)
      have g0 : w3.cell? ⟨w2.heap.size, 0, none⟩ = some (.int .i64 (l : Nat)) := by rw [cell_of_row w3 w2.heap.size 0 _ 51 (0, 0) h51]; rfl
      have hl3 : w2.heap.size < w3.heap.size := by simp only [World.size_alloc] at hs3; omega
      have HI3 := hide hI3
      clear h51 hk3 hI3 Hc2
      go_wp2
      go_roundw
      case rel => exact ⟨k + 1, by omega, by rw [unhide HN]; go_num, HI3⟩
      case measure => simp [intOf]; omega
    · obtain rfl : k = fs.length := by omega
      have e0 : tot (fs.take fs.length) = tot fs := by rw [List.take_length]
      rw [e0]
      generalize tot fs = n at *
      go_wp2
      exact bodyPost_end (v := .tuple #[]) (results_none rfl _ _ _) rfl ⟨rfl, unhide HI⟩

set_option maxRecDepth 100000 in
set_option maxHeartbeats 2000000 in
theorem each30_c (c0 : Value) (a : Option Addr) (cap : Nat) (fs : List (List Int)) (I : Nat → World → Prop) (w : World) (h256 : tot fs ≤ 256) (hI : I 0 w)
    (hat : ∀ (k : Nat) (hk : k < fs.length) W, I k W → EachAt 30 c0 a fs I k fs[k].length W) :
    Calls Try.prog 29 #[.slice a (tot fs : Nat) cap, .func (.func 30) #[] #[c0]] w fun e w' => e = .returned (.tuple #[]) ∧ I fs.length w' := by
  have HI := hide hI
  have Hat := hide hat
  clear hI hat
  go_enter Try.func29, Try.ntmps29
  go_wp2
  go_loopw [4] (fun i wr => ∃ k : Nat, k ≤ fs.length ∧ i = .int .i64 (tot (fs.take k) : Nat) ∧ Hid (I k wr)) (fun i _ => tot fs - (intOf i).toNat)
  case atStart => exact ⟨0, Nat.zero_le _, rfl, HI⟩
  case round =>
    clear HI
    obtain ⟨k, hk, rfl, HI⟩ := hrel
    by_cases hlt : k < fs.length
    · obtain ⟨wb, off, x, rfl, hx, hx1, hx2, hx3, hx4, hcall⟩ := unhide Hat k hlt wr (unhide HI)
      have hpl := place_lt hlt
      have hts := tot_take_succ hlt
      have htl := tot_take_le fs (k + 1)
      have HL := hide (uhL_wlen hx3)
      rw [hx4] at HL
      have HE := hide (uhE_ok hx3)
      have Hcall := hide hcall
      have HN : Hid (tot (fs.take (k + 1)) = tot (fs.take k) + 1 + fs[k].length) := by show _ = _; omega
      have hwl : wb < wr.heap.size := World.block_lt_of_cell? wr _ hx
      have hle : tot (fs.take k) + 1 + fs[k].length ≤ 256 := by omega
      clear hcall hx3 hx4 hts htl HI
      generalize fs[k].length = l at *
      generalize tot (fs.take k) = q at *
      generalize tot fs = n at *
      have hqI : (q : Int) < (n : Int) := by omega
      go_wp2_with fail
      refine (unhead_c x _ hx1 hx2).mono ?_
      rintro e w2 ⟨he, hb2⟩
      rw [unhide HL, unhide HE] at he
      subst he
      have hs2 := hb2.size
      have Hc2 := hide (unhide Hcall (w2.alloc (.cells #[.int .i64 (l : Nat), .bool (uhM x), .int .i64 (uhA x)] 51)) (hb2.alloc hs2 _))
      clear Hcall
      go_wp2_with fail
      refine (unhide Hc2).mono ?_
      rintro e w3 ⟨he, hI3, hk3, hs3⟩
      subst he
      have h51 := hk3 w2.heap.size #[.int .i64 (l : Nat), .bool (uhM x), .int .i64 (uhA x)] (heap_alloc_new _ _)
      have g0 : w3.cell? ⟨w2.heap.size, 0, none⟩ = some (.int .i64 (l : Nat)) := by rw [cell_of_row w3 w2.heap.size 0 _ 51 (0, 0) h51]; rfl
      have hl3 : w2.heap.size < w3.heap.size := by simp only [World.size_alloc] at hs3; omega
      have HI3 := hide hI3
      clear h51 hk3 hI3 Hc2
      go_wp2
      go_roundw
      case rel => exact ⟨k + 1, by omega, by rw [unhide HN]; go_num, HI3⟩
      case measure => simp [intOf]; omega
    · obtain rfl : k = fs.length := by omega
      have e0 : tot (fs.take fs.length) = tot fs := by rw [List.take_length]
      rw [e0]
      generalize tot fs = n at *
      go_wp2
      exact bodyPost_end (v := .tuple #[]) (results_none rfl _ _ _) rfl ⟨rfl, unhide HI⟩

end Go.Proofs.Ytjhndbfhiknngaa

/- Walks: newMarker's closure; all marks away. -/
namespace Go.Proofs.Ytjhndbfhiknngaa
set_option linter.unusedSimpArgs false
set_option linter.unusedVariables false
open Go.RowKit Go.Shelf
attribute [local go_sem] field51_0 field51_1

/-- The arena of which the first k objects are without marks. -/
def fW (hs : List Int) (fs : List (List Int)) (k : Nat) : List Int := joinW (mkF hs k) fs

theorem fW_len {hs : List Int} {fs : List (List Int)} (h : Fit hs fs) (k : Nat) : (fW hs fs k).length = tot fs := by
  rw [fW, joinW_len _ _ (by rw [mkF_len]; exact h.len)]
theorem fW_get {hs : List Int} {fs : List (List Int)} (h : Fit hs fs) {i : Nat} {x : Int} (hx : hs[i]? = some x) : (fW hs fs i)[tot (fs.take i)]? = some x := by
  have hi : i < fs.length := by have := (List.getElem?_eq_some_iff.1 hx).1; have := h.len; omega
  rw [fW, joinW_get _ _ _ (by rw [mkF_len]; exact h.len) hi, mkF_get, hx]
  simp
theorem fW_set {hs : List Int} {fs : List (List Int)} (h : Fit hs fs) {i : Nat} {x : Int} (hx : hs[i]? = some x) : (fW hs fs i).set (tot (fs.take i)) (reh false x) = fW hs fs (i + 1) := by
  have hi : i < fs.length := by have := (List.getElem?_eq_some_iff.1 hx).1; have := h.len; omega
  rw [fW, joinW_set _ _ _ _ (by rw [mkF_len]; exact h.len) hi, mkF_set hx, fW]

theorem cell_of_box {W : World} {b : Nat} {v : Value} {t : TypeId} (h : W.heap[b]? = some (.cells #[v] t)) : W.cell? ⟨b, 0, none⟩ = some v := by
  rw [cell_of_row W b 0 _ t (0, 0) h]; rfl

set_option maxRecDepth 100000 in
set_option maxHeartbeats 1000000 in
theorem nm1_c (pb mb wb n cap q : Nat) (x L A : Int) (M : Bool) (w : World) (hp : w.heap[pb]? = some (.cells #[.pointer (some ⟨mb, 0, none⟩)] 61)) (h0 : w.cell? ⟨mb, 0, none⟩ = some (.slice (some ⟨wb, 0, none⟩) n cap)) (hx : w.cell? ⟨wb, q, none⟩ = some (.int .u64 x)) (hf : w.frozen? ⟨wb, q, none⟩ = false) (hq : q < n) (hn : n ≤ 256) :
    Calls Try.prog 39 #[.int .i64 (q : Nat), .agg #[.int .i64 L, .bool M, .int .i64 A], .pointer (some ⟨pb, 0, none⟩)] w fun e w' => e = .returned (.tuple #[]) ∧ ∃ w1, Below w.heap.size w w1 ∧ w' = w1.setCell ⟨wb, q, none⟩ (.int .u64 (headW L false A)) := by
  have hlm : mb < w.heap.size := World.block_lt_of_cell? w _ h0
  have hlw : wb < w.heap.size := World.block_lt_of_cell? w _ hx
  have hlp : pb < w.heap.size := (Array.getElem?_eq_some_iff.1 hp).1
  have hcp := cell_of_box hp
  have hb0 : Below w.heap.size w (w.alloc (.cells #[.int .i64 L, .bool M, .int .i64 A] 51)) := (Below.refl _ _).alloc (Nat.le_refl _) _
  have Hc := hide (set_w mb wb n cap q x L A M false _ ((hb0.cell (p := ⟨mb, 0, none⟩) hlm).trans h0) ((hb0.cell (p := ⟨wb, q, none⟩) hlw).trans hx) ((hb0.frozen (p := ⟨wb, q, none⟩) hlw).trans hf) hq hn)
  clear hp
  go_enter Try.func39, Try.ntmps39
  go_wp2_with fail
  refine (unhide Hc).mono ?_
  rintro e w2 ⟨rfl, w1, hb1, rfl⟩
  go_wp2
  exact bodyPost_end (v := .tuple #[]) (results_none rfl _ _ _) rfl ⟨rfl, w1, hb0.trans (hb1.mono (by simp)), rfl⟩

/-- What holds while marks are taken away. -/
def NmI (w0 : World) (N mb pb : Nat) (vw vr vk : Value) (hs : List Int) (fs : List (List Int)) (rs : List Int) (room : Nat) (k : Nat) (W : World) : Prop :=
  Mk W N mb vw vr vk (fW hs fs k) rs [] room false ∧ W.heap[pb]? = some (.cells #[.pointer (some ⟨mb, 0, none⟩)] 61) ∧ Below N w0 W ∧ KeepT w0 W

theorem nmEach (N mb pb cap : Nat) (a : Option Addr) (vr vk : Value) (hs : List Int) (fs : List (List Int)) (rs : List Int) (room : Nat) (w : World) (hF : Fit hs fs) (h256 : tot fs ≤ 256)
    (hM : Mk w N mb (.slice a (tot fs) cap) vr vk (joinW hs fs) rs [] room false) (hp : w.heap[pb]? = some (.cells #[.pointer (some ⟨mb, 0, none⟩)] 61)) :
    Calls Try.prog 29 #[.slice a (tot fs : Nat) cap, .func (.func 39) #[] #[.pointer (some ⟨pb, 0, none⟩)]] w fun e w' => e = .returned (.tuple #[]) ∧ NmI w N mb pb (.slice a (tot fs) cap) vr vk hs fs rs room fs.length w' := by
  refine each39_c _ a cap fs (NmI w N mb pb (.slice a (tot fs) cap) vr vk hs fs rs room) w h256 ⟨?_, hp, Below.refl _ _, KeepT.refl _⟩ ?_
  · rw [fW, mkF_zero]; exact hM
  · intro k hk W hI
    obtain ⟨hMW, hpW, hbW, hkW⟩ := hI
    obtain ⟨x, hx, hx1, hx2, hx3, hx4⟩ := fit_at hF hk
    have hml := fW_len hF k
    have hpl := place_lt hk
    obtain ⟨wb, cap', hvw, hwN, hwb, hcap⟩ := hMW.words (by rw [hml]; omega)
    rw [hml] at hvw
    injection hvw with h1 _ h3
    subst h1 h3
    have hg := fW_get hF hx
    have hc := (hMW.wcell hml.symm hg).1
    refine ⟨wb, 0, x, rfl, by rw [Nat.zero_add]; exact hc, hx3, hx4, hx1, hx2, fun W' hb' => ?_⟩
    have hM' := hMW.below hb'
    have hp' : W'.heap[pb]? = some (.cells #[.pointer (some ⟨mb, 0, none⟩)] 61) := by rw [hb'.block pb (Array.getElem?_eq_some_iff.1 hpW).1]; exact hpW
    refine (nm1_c pb mb wb (tot fs) cap _ x _ (uhA x) (uhM x) W' hp' hM'.box.c0 (hM'.wcell hml.symm hg).1 (hM'.wcell hml.symm hg).2 hpl h256).mono ?_
    rintro e W2 ⟨rfl, w1, hb1, rfl⟩
    have hM1 := hM'.below hb1
    have hty := ty_row (show w1.ownsRow N 55 1 (.slice (some ⟨wb, 0, none⟩) (tot fs) cap) (tot fs) (wordsV (fW hs fs k)) from by have := hM1.wo; rw [hml] at this; exact this)
    have hkt : KeepT W' (w1.setCell ⟨wb, tot (fs.take k), none⟩ (.int .u64 (headW (fs[k].length : Int) false (uhA x)))) := (KeepT.below hb1).setCell hty (.inl rfl) _
    refine ⟨rfl, ⟨?_, ?_, ?_, ?_⟩, hkt.k51, by have := hb1.size; simpa [World.setCell] using this⟩
    · have := hM1.setW hml.symm (tot (fs.take k)) (headW (fs[k].length : Int) false (uhA x))
      have e : headW (fs[k].length : Int) false (uhA x) = reh false x := by
        unfold reh
        rw [uhL_wlen hx1, hx2]
      rw [e, fW_set hF hx] at this
      rw [e]
      exact this
    · exact hkt pb _ 61 hp' (by decide) (by decide) (by decide)
    · exact (hbW.trans ((hb'.trans (hb1.mono hb'.size)).mono (by omega))).setCell (p := ⟨wb, tot (fs.take k), none⟩) hwN _
    · exact (hkW.trans (KeepT.below hb')).trans hkt

end Go.Proofs.Ytjhndbfhiknngaa

/- Walks: Sweep. -/
namespace Go.Proofs.Ytjhndbfhiknngaa
set_option linter.unusedSimpArgs false
set_option linter.unusedVariables false
open Go.RowKit Go.Shelf
attribute [local go_sem] field51_0 field51_1

/-- The blocks that are swept so far, in a variable. -/
def SwS (N vb : Nat) (l : List (Nat × Nat)) (W : World) : Prop := ∃ v, W.ownsRow N 57 2 v l.length (cellsB l) ∧ W.heap[vb]? = some (.cells #[v] 28) ∧ v.ownBlock ≠ some vb

theorem SwS.below {N vb : Nat} {l : List (Nat × Nat)} {W W' : World} (h : SwS N vb l W) (hb : Below W.heap.size W W') : SwS N vb l W' := by
  obtain ⟨v, h1, h2, h3⟩ := h
  exact ⟨v, ownsRow_below h1 hb, by rw [hb.block vb (Array.getElem?_eq_some_iff.1 h2).1]; exact h2, h3⟩

theorem Keep51.below {W W' : World} (h : Below W.heap.size W W') : Keep51 W W' := fun k cs hk => by rw [h.block k (Array.getElem?_eq_some_iff.1 hk).1]; exact hk
theorem Keep51.trans {a b c : World} (h : Keep51 a b) (h' : Keep51 b c) : Keep51 a c := fun k cs hk => h' k cs (h k cs hk)
theorem keep51_grown {W W' : World} {base n : Nat} {v : Value} {xs : List Value} (hr : W.ownsRow base 57 2 v n xs) (hg : W.grownBy W' v.ownBlock) : Keep51 W W' := by
  intro k cs hk
  rw [hg.block k (Array.getElem?_eq_some_iff.1 hk).1 ?_]
  · exact hk
  · intro e
    rcases hr.2 with ⟨rfl, _⟩ | ⟨g, cap, cur, rfl, _, hb, _⟩
    · simp [Value.ownBlock] at e
    · obtain rfl : k = g := by simpa [Value.ownBlock] using e
      rw [hk] at hb
      injection hb with hb
      injection hb with _ hb
      exact absurd hb (by decide)
theorem keep51_set {W : World} {vb : Nat} {v u : Value} (h : W.heap[vb]? = some (.cells #[v] 28)) : Keep51 W (W.setCell ⟨vb, 0, none⟩ u) := by
  intro k cs hk
  rw [Below.heap_setCell _ _ _ _ ?_]
  · exact hk
  · rintro rfl
    rw [hk] at h
    injection h with h
    injection h with _ h
    exact absurd h (by decide)

set_option maxRecDepth 100000 in
set_option maxHeartbeats 1000000 in
theorem sw1_c (N vb : Nat) (l : List (Nat × Nat)) (q n : Nat) (b : Bool) (A : Int) (w : World) (hS : SwS N vb l w) (hN : N ≤ vb) (hl : ∀ x ∈ l, x.1 + x.2 ≤ 256) (hn : l.length ≤ 256) (hq : q ≤ 256) (hm : n ≤ 4) :
    Calls Try.prog 30 #[.int .i64 (q : Nat), .agg #[.int .i64 (n : Nat), .bool b, .int .i64 A], .pointer (some ⟨vb, 0, none⟩)] w fun e w' => e = .returned (.tuple #[]) ∧ SwS N vb (if b then l else joinB l (q, 1 + n)) w' ∧ Below N w w' ∧ Keep51 w w' := by
  have hNw : N ≤ w.heap.size := by obtain ⟨v, _, h2, _⟩ := hS; have := (Array.getElem?_eq_some_iff.1 h2).1; omega
  have hb0 : Below w.heap.size w (w.alloc (.cells #[.int .i64 (n : Nat), .bool b, .int .i64 A] 51)) := (Below.refl _ _).alloc (Nat.le_refl _) _
  cases b
  · obtain ⟨v, h1, h2, h3⟩ := hS.below hb0
    have hcv := cell_of_box h2
    have hfv : (w.alloc (.cells #[.int .i64 (n : Nat), .bool false, .int .i64 A] 51)).frozen? ⟨vb, 0, none⟩ = false := frozen_of_row _ vb 0 _ 28 h2
    have hlv : vb < (w.alloc (.cells #[.int .i64 (n : Nat), .bool false, .int .i64 A] 51)).heap.size := (Array.getElem?_eq_some_iff.1 h2).1
    have hlv' : vb < w.heap.size := by obtain ⟨v, _, h2, _⟩ := hS; exact (Array.getElem?_eq_some_iff.1 h2).1
    have H1 := hide h1
    have H2 := hide h2
    obtain ⟨va, vc, hv⟩ := ownsRow_slice h1
    subst hv
    have Hc := hide (join_c (.slice va l.length vc) N l q (1 + n) _ h1 hl hn hq (by omega) (by simp; omega))
    rw [Int.natCast_add] at Hc
    have w1 : IntKind.i64.wrap (1 + (n : Int)) = 1 + (n : Int) := by rw [IntKind.wrap_i64]; omega
    clear h1 h2 hS
    go_enter Try.func30, Try.ntmps30
    go_wp2_with fail
    refine (unhide Hc).mono ?_
    rintro e w2 ⟨v', rfl, hr', hg', hat⟩
    have hne : some vb ≠ Value.ownBlock (.slice va l.length vc) := fun e => h3 e.symm
    have h2' : w2.heap[vb]? = some (.cells #[.slice va l.length vc] 28) := (hg'.block vb hlv hne).trans (unhide H2)
    have hcv2 := cell_of_box h2'
    have hfv2 : w2.frozen? ⟨vb, 0, none⟩ = false := frozen_of_row _ vb 0 _ 28 h2'
    have hlv2 : vb < w2.heap.size := (Array.getElem?_eq_some_iff.1 h2').1
    obtain ⟨va', vc', hv'⟩ := ownsRow_slice hr'
    have Hr' := hide hr'
    have Hg' := hide hg'
    have H2' := hide h2'
    have Hv' := hide hv'
    clear hr' hg' h2' hne
    subst hv'
    clear Hv'
    generalize hjl : (joinB l (q, 1 + n)).length = jl at *
    have Hjl := hide hjl
    clear hjl
    go_wp2
    refine bodyPost_end (v := .tuple #[]) (results_none rfl _ _ _) rfl ⟨rfl, ⟨.slice va' jl vc', ?_, ?_, ?_⟩, ?_, ?_⟩
    · have hgs := grown_set w2 vb 0 (.slice va' jl vc')
      have hx : Value.ownBlock (.slice va' jl vc') ≠ some vb := by
        rcases hat with e | ⟨k, e, hk⟩
        · rw [e]; exact h3
        · rw [e]; intro e'; injection e' with e'; simp at hk; omega
      have := (unhide Hr').kept hgs (.inr hx)
      rw [← unhide Hjl] at this ⊢
      exact this
    · exact heap_setCell_same w2 vb 0 _ 28 _ (unhide H2')
    · rcases hat with e | ⟨k, e, hk⟩
      · rw [e]; exact h3
      · rw [e]; intro e'; injection e' with e'; simp at hk; omega
    · exact (((hb0.mono hNw)).grown (unhide Hg') (by simp; omega) (fun k e => ((unhide H1).lt k e).1)).setCell (p := ⟨vb, 0, none⟩) hN _
    · exact ((Keep51.below hb0).trans (keep51_grown (unhide H1) (unhide Hg'))).trans (keep51_set (unhide H2'))
  · have HS := hide (hS.below hb0)
    clear hS
    go_enter Try.func30, Try.ntmps30
    go_wp2
    exact bodyPost_end (v := .tuple #[]) (results_none rfl _ _ _) rfl ⟨rfl, unhide HS, hb0.mono hNw, Keep51.below hb0⟩

end Go.Proofs.Ytjhndbfhiknngaa

/- Walks: Sweep. -/
namespace Go.Proofs.Ytjhndbfhiknngaa
set_option linter.unusedSimpArgs false
set_option linter.unusedVariables false
open Go.RowKit Go.Shelf

theorem apart_le {l : List (Nat × Nat)} {e : Nat} (h : Apart l e) : ∀ x ∈ l, x.1 + x.2 ≤ e := by
  have key : ∀ (d i : Nat) (x : Nat × Nat), i + d + 1 = l.length → l[i]? = some x → x.1 + x.2 ≤ e := by
    intro d
    induction d with
    | zero =>
      intro i x hi hx
      refine h.2.2 x ?_
      rw [List.getLast?_eq_getElem?, show l.length - 1 = i by omega]
      exact hx
    | succ d ih =>
      intro i x hi hx
      have hlt : i + 1 < l.length := by omega
      have h1 := h.2.1 i x l[i + 1] hx (List.getElem?_eq_getElem hlt)
      have h2 := ih (i + 1) l[i + 1] (by omega) (List.getElem?_eq_getElem hlt)
      omega
  intro x hx
  obtain ⟨i, hi⟩ := List.getElem?_of_mem hx
  have hlt := (List.getElem?_eq_some_iff.1 hi).1
  exact key (l.length - i - 1) i x (by omega) hi

/-- A slice of blocks, below block B. -/
def Blks (B : Nat) (w : World) (a : Option Addr) (l : List (Nat × Nat)) : Prop :=
  l.length ≤ 9223372036854775807 ∧ (l ≠ [] → ∃ b off, a = some ⟨b, off, none⟩ ∧ b < B ∧ ∀ k x, l[k]? = some x → w.cell? ⟨b, off + k * 2, none⟩ = some (.int .i64 (x.1 : Nat)) ∧ w.cell? ⟨b, off + k * 2 + 1, none⟩ = some (.int .i64 (x.2 : Nat)))

theorem Blks.below {B : Nat} {w w' : World} {a : Option Addr} {l : List (Nat × Nat)} (h : Blks B w a l) (hb : Below B w w') : Blks B w' a l := by
  refine ⟨h.1, fun hne => ?_⟩
  obtain ⟨b, off, rfl, hB, hc⟩ := h.2 hne
  refine ⟨b, off, rfl, hB, fun k v hk => ?_⟩
  rw [hb.cell (p := ⟨b, off + k * 2, none⟩) hB, hb.cell (p := ⟨b, off + k * 2 + 1, none⟩) hB]
  exact hc k v hk

theorem Blks.mono {B B' : Nat} {w : World} {a : Option Addr} {l : List (Nat × Nat)} (h : Blks B w a l) (hb : B ≤ B') : Blks B' w a l := by
  refine ⟨h.1, fun hne => ?_⟩
  obtain ⟨b, off, rfl, hB, hc⟩ := h.2 hne
  exact ⟨b, off, rfl, by omega, hc⟩

theorem Blks.at {B : Nat} {w : World} {a : Option Addr} {l : List (Nat × Nat)} (h : Blks B w a l) {k : Nat} (hk : k < l.length) :
    ∃ b off p n, a = some ⟨b, off, none⟩ ∧ b < B ∧ w.cell? ⟨b, off + k * 2, none⟩ = some (.int .i64 (p : Nat)) ∧ w.cell? ⟨b, off + k * 2 + 1, none⟩ = some (.int .i64 (n : Nat)) ∧ Hid (l[k] = (p, n)) := by
  obtain ⟨b, off, rfl, hB, hc⟩ := h.2 (by intro e; subst e; simp at hk)
  exact ⟨b, off, l[k].1, l[k].2, rfl, hB, (hc k l[k] (by simp [hk])).1, (hc k l[k] (by simp [hk])).2, rfl⟩

theorem blks_of_owns {w : World} {base : Nat} {e : TypeId} {v : Value} {n : Nat} {l : List (Nat × Nat)} (h : w.ownsRow base e 2 v n (cellsB l)) (hn : n = l.length) (hs : n ≤ 9223372036854775807) :
    ∃ a cap, v = .slice a l.length cap ∧ Blks w.heap.size w a l := by
  obtain ⟨_, h2⟩ := h
  rcases h2 with ⟨rfl, h0⟩ | ⟨g, cap, cur, rfl, hb, hg, hc1, hc2, hc3, htake⟩
  · refine ⟨none, 0, by rw [← hn, h0], ⟨by omega, fun hne => ?_⟩⟩
    have : l = [] := List.eq_nil_of_length_eq_zero (by omega)
    exact absurd this hne
  · refine ⟨_, cap, by rw [hn], ⟨by omega, fun _ => ⟨g, 0, rfl, (Array.getElem?_eq_some_iff.1 hg).1, fun k v hk => ?_⟩⟩⟩
    obtain ⟨h1, h2⟩ := cellsB_get l k v hk
    rw [← htake] at h1 h2
    rw [List.getElem?_take] at h1 h2
    have hcell : ∀ j u, (if j < n * 2 then cur.toList[j]? else none) = some u → w.cell? ⟨g, 0 + j, none⟩ = some u := by
      intro j u hj
      split at hj
      · rw [Nat.zero_add, cell_of_row w g j cur e (0, 0) hg]; simpa using hj
      · cases hj
    exact ⟨hcell _ _ h1, by have := hcell _ _ h2; simpa [Nat.add_assoc] using this⟩

theorem swEach (N vb cap : Nat) (a : Option Addr) (hs : List Int) (fs : List (List Int)) (rs : List Int) (w : World) (hA : Arn hs fs rs) (hW : Wds N w a (joinW hs fs)) (hN : N ≤ vb) (hS : SwS N vb [] w) :
    Calls Try.prog 29 #[.slice a (tot fs : Nat) cap, .func (.func 30) #[] #[.pointer (some ⟨vb, 0, none⟩)]] w fun e w' => e = .returned (.tuple #[]) ∧ SwS N vb (sweepL hs fs fs.length) w' ∧ Below N w w' := by
  have hF := hA.fit
  refine each30_c _ a cap fs (fun k W => SwS N vb (sweepL hs fs k) W ∧ Below N w W) w hA.n256 ⟨hS, Below.refl _ _⟩ ?_
  intro k hk W hI
  obtain ⟨hSW, hbW⟩ := hI
  obtain ⟨x, hx, hx1, hx2, hx3, hx4⟩ := fit_at hF hk
  have hpl := place_lt hk
  have hjl := joinW_len hs fs hF.len
  have hlt : tot (fs.take k) < (joinW hs fs).length := by omega
  obtain ⟨b, off, ha, hbN, hc⟩ := (hW.below hbW).at hlt
  subst ha
  have hg := joinW_get hs fs k hF.len hk
  rw [hx] at hg
  rw [(List.getElem?_eq_some_iff.1 hg).2] at hc
  have hkm : W.heap.size ≤ W.heap.size := Nat.le_refl _
  have hNW : N ≤ W.heap.size := by obtain ⟨v, _, h2, _⟩ := hSW; have := (Array.getElem?_eq_some_iff.1 h2).1; omega
  refine ⟨b, off, x, rfl, hc, hx3, hx4, hx1, hx2, fun W' hb' => ?_⟩
  have hap := sweep_apart hF k (by omega)
  have hsl := sweep_len hs fs k
  have htl := tot_len fs
  have h256 := hA.n256
  refine (sw1_c N vb (sweepL hs fs k) (tot (fs.take k)) fs[k].length (uhM x) (uhA x) W' (hSW.below hb') hN (fun y hy => by have := apart_le hap y hy; omega) (by omega) (by omega) (by rw [← hx2]; exact wlen_le hx1)).mono ?_
  rintro e W2 ⟨rfl, h1, h2, h3⟩
  refine ⟨rfl, ⟨?_, (hbW.trans (hb'.mono hNW)).trans h2⟩, h3, h2.size⟩
  cases hm : uhM x
  · rw [sweep_no hx hk hm]; rw [hm] at h1; exact h1
  · rw [sweep_yes hx hm]; rw [hm] at h1; exact h1

/-- What Sweep tells. -/
def SwRes (ws rs : List Int) (e : Ending) (W : World) : Prop :=
  (arenaE ws rs ≠ 0 ∧ e = .returned (.tuple #[.slice none 0 0, .int .i64 (arenaE ws rs)])) ∨
  (arenaE ws rs = 0 ∧ ∃ hs fs a c, Arn hs fs rs ∧ ws = joinW hs fs ∧ e = .returned (.tuple #[.slice a (sweepL hs fs fs.length).length c, .int .i64 0]) ∧ Blks W.heap.size W a (sweepL hs fs fs.length))

set_option maxRecDepth 100000 in
set_option maxHeartbeats 2000000 in
theorem sweep_c (aw ar : Option Addr) (cw cr : Nat) (ws rs : List Int) (B : Nat) (w : World) (hW : Wds B w aw ws) (hR : Wds B w ar rs) (hUW : U64 ws) (hUR : U64 rs) (hB : B ≤ w.heap.size) (hcap : ws.length ≤ cw) :
    Calls Try.prog 9 #[.agg #[.slice aw ws.length cw, .slice ar rs.length cr]] w fun e w' => SwRes ws rs e w' ∧ Below w.heap.size w w' := by
  obtain ⟨W1, hW1⟩ : ∃ W1, w.alloc (.cells #[.slice aw ws.length cw, .slice ar rs.length cr] 24) = W1 := ⟨_, rfl⟩
  have hb1 : Below w.heap.size w W1 := by rw [← hW1]; exact (Below.refl w.heap.size w).alloc (Nat.le_refl _) _
  have hs1 : w.heap.size < W1.heap.size := by rw [← hW1]; simp
  have g0 : W1.cell? ⟨w.heap.size, 0, none⟩ = some (.slice aw ws.length cw) := by rw [← hW1]; simp [go_sem]
  have g1 : W1.cell? ⟨w.heap.size, 1, none⟩ = some (.slice ar rs.length cr) := by rw [← hW1]; simp [go_sem]
  have Hc1 := hide (acheck_c aw ar cw cr ws rs B W1 (hW.below (hb1.mono hB)) (hR.below (hb1.mono hB)) hUW hUR (by omega) hcap)
  go_enter Try.func9, Try.ntmps9
  go_wp2_with fail
  refine (unhide Hc1).mono ?_
  rintro e w2 ⟨rfl, hb2⟩
  clear hW1 Hc1
  have hs2 := hb2.size
  have hbw2 : Below w.heap.size w w2 := hb1.trans (hb2.mono (by omega))
  replace g0 := (hb2.cell (p := ⟨w.heap.size, 0, none⟩) hs1).trans g0
  replace g1 := (hb2.cell (p := ⟨w.heap.size, 1, none⟩) hs1).trans g1
  have hl2 : w.heap.size < w2.heap.size := by omega
  clear hb1 hb2
  by_cases hE : arenaE ws rs = 0
  · obtain ⟨hs, fs, hA, hws⟩ := arn_of hUW hUR hE
    have hjl : tot fs = ws.length := by rw [hws, joinW_len _ _ hA.fit.len]
    have HE := hide hE
    rw [hE]
    obtain ⟨W2, hW2⟩ : ∃ W2, w2.alloc (.cells #[.slice none 0 0] 28) = W2 := ⟨_, rfl⟩
    have hb2' : Below w2.heap.size w2 W2 := by rw [← hW2]; exact (Below.refl _ _).alloc (Nat.le_refl _) _
    have hs2' : w2.heap.size < W2.heap.size := by rw [← hW2]; simp
    have hv2 : W2.heap[w2.heap.size]? = some (.cells #[.slice none 0 0] 28) := by rw [← hW2]; exact heap_alloc_new _ _
    replace g0 := (hb2'.cell (p := ⟨w.heap.size, 0, none⟩) hl2).trans g0
    have hbW2 : Below w.heap.size w W2 := hbw2.trans (hb2'.mono (by omega))
    have Hc2 : Hid (Calls Try.prog 29 #[.slice aw ws.length cw, .func (.func 30) #[] #[.pointer (some ⟨w2.heap.size, 0, none⟩)]] W2 fun e w' => e = .returned (.tuple #[]) ∧ SwS w2.heap.size w2.heap.size (sweepL hs fs fs.length) w' ∧ Below w2.heap.size W2 w') := by
      have := swEach w2.heap.size w2.heap.size cw aw hs fs rs W2 hA (by rw [← hws]; exact ((hW.below (hbW2.mono hB)).mono (by omega))) (Nat.le_refl _) ⟨.slice none 0 0, World.ownsRow_nil _ _ _ _, hv2, by simp [Value.ownBlock]⟩
      rw [hjl] at this
      exact this
    have hsl := sweep_len hs fs fs.length
    have htl := tot_len fs
    have h256 := hA.n256
    have Hfin : Hid (∀ a c W, Blks W.heap.size W a (sweepL hs fs fs.length) → SwRes ws rs (.returned (.tuple #[.slice a (sweepL hs fs fs.length).length c, .int .i64 0])) W) := fun a c W h => .inr ⟨unhide HE, hs, fs, a, c, hA, hws, rfl, h⟩
    have hl2' : w.heap.size < W2.heap.size := by omega
    clear hE hv2 hA hws hjl hW hR
    generalize sweepL hs fs fs.length = SL at *
    go_wp2_with fail
    refine (unhide Hc2).mono ?_
    rintro e w3 ⟨rfl, ⟨v, hr3, hv3, _⟩, hb3⟩
    obtain ⟨a, c, hv, hBl⟩ := blks_of_owns hr3 rfl (by omega)
    subst hv
    have c3 := cell_of_box hv3
    have hl3 : w2.heap.size < w3.heap.size := (Array.getElem?_eq_some_iff.1 hv3).1
    have HBl := hide hBl
    clear hr3 hv3 hBl Hc2 hW2
    go_wp2
    go_ret2
    exact ⟨unhide Hfin a c w3 (unhide HBl), hbW2.trans (hb3.mono (by omega))⟩
  · have HE := hide hE
    have Hfin : Hid (∀ W, SwRes ws rs (.returned (.tuple #[.slice none 0 0, .int .i64 (arenaE ws rs)])) W) := fun W => .inl ⟨unhide HE, rfl⟩
    generalize arenaE ws rs = E at *
    have d0 : (E != 0) = true := by simpa using hE
    clear hE
    go_wp2
    go_ret2
    exact ⟨unhide Hfin _, hbw2⟩

end Go.Proofs.Ytjhndbfhiknngaa
