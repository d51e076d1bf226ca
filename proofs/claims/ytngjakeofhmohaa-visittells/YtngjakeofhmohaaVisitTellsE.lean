/- Merged texts: Cb Gq Fa Fb Fc Pe Ta Tc Tb Gr. -/
import Derived.Test.YtngjakeofhmohaaProg
import Derived.Test.YtngjakeofhmohaaVisitTellsD
import Derived.Deep.RegionWith

/- Walks: the document's Read. -/
namespace Go.Proofs.Ytngjakeofhmohaa
set_option linter.unusedSimpArgs false
set_option linter.unusedVariables false
open Go.RowKit Go.Shelf

set_option maxRecDepth 100000 in
set_option maxHeartbeats 1000000 in
theorem runpacked2_c (a s0 : Option Addr) (cap caps : Nat) (ws st : List Int) (B : Nat) (w : World) (hl : Wds B w a ws) (hU : U64 ws) (hS : Ints B w s0 st) (hB : B ≤ w.heap.size) (hn : ws.length ≤ 256) :
    Calls Try.prog 31 #[.slice a ws.length cap, .slice s0 st.length caps] w fun e w' => ∃ a' cap', e = .returned (.slice a' (ws.map (valW st)).length cap') ∧ ValsF w.heap.size w' a' (ws.map (valW st)) ∧ Below w.heap.size w w' := by
  obtain ⟨i0, hi, hz0, hz1, hz2⟩ := info_parts Try.info61'
  go_enter Try.func31, Try.ntmps31
  go_wp2
  go_loopw [5, 12] (fun s i wr => ∃ k : Nat, k ≤ ws.length ∧ i = .int .i64 k ∧ wr.ownsRow w.heap.size 61 2 s k (cellsV ((ws.map (valW st)).take k)) ∧ Below w.heap.size w wr) (fun _ i _ => ws.length - (intOf i).toNat)
  case atStart => exact ⟨0, Nat.zero_le _, rfl, by simpa [cellsV] using World.ownsRow_nil _ _ _ _, Below.refl _ _⟩
  case round =>
    obtain ⟨k, hk, rfl, hown, hb⟩ := hrel
    have hsz := hb.size
    by_cases hlt : k < ws.length
    · obtain ⟨b, off, rfl, hbB, hc⟩ := (hl.below (hb.mono hB)).at hlt
      have hu := hU _ (List.getElem_mem hlt)
      have HT := hide (fun r n => cells_take_succ (st := st) hlt (r := r) (n := n))
      generalize ws[k] = x at *
      cases hr : unRef x
      · have HT2 := hide (unhide HT _ _ (valW_num hr))
        have Hr := hide hr
        clear hr HT
        go_wp2_with (first
          | (go_at_call 26; go_must (refine (runpack_c x _ hu.1 hu.2).mono ?_); go_must (rintro e w3 ⟨he, hb3⟩; rw [unhide Hr] at he; subst he; have hs3 := hb3.size; have hown3 := ownsRow_below hown hb3))
          | (at_builtin; go_must (refine wpList_append_own _ rfl _ _ 41 rfl w.heap.size 61 i0 _ 2 16 Try.underlying41 hi hz0 hz1 hz2 rfl (by decide) _ _ _ rfl ((hown3.alloc _).alloc _) ⟨w3.heap.size + 1, 0, none⟩ 1 1 [.bool false, .int .i64 (unNum x)] rfl rfl (cell_two_at _ _ _ _ _ (by simp)) (by simp [Value.oneCell']) (by simp only [maxLen]; omega) (by omega) (by simp; omega) ?_); intro v' w1 hown' hgrow _))
        go_roundw
        case rel => exact ⟨k + 1, by omega, by go_num, by rw [unhide HT2]; exact hown', (((hb.trans (hb3.mono hsz)).alloc (by omega) _).alloc (by simp; omega) _).grown hgrow (by simp; omega) (fun q e => (hown3.lt q e).1)⟩
        case measure => simp [intOf]; omega
      · have HT2 := hide (unhide HT _ _ (valW_ref hr))
        have Hr := hide hr
        clear hr HT
        go_wp2_with (first
          | (go_at_call 26; go_must (refine (runpack_c x _ hu.1 hu.2).mono ?_); go_must (rintro e w3 ⟨he, hb3⟩; rw [unhide Hr] at he; subst he; have hs3 := hb3.size; have hown3 := ownsRow_below hown hb3; have hS3 := hS.below ((hb.mono hB).trans (hb3.mono (Nat.le_trans hB hsz)))))
          | (go_at_call 46; go_must (refine (place_c _ _ st (unNum x) B _ (hS3.below ((Below.refl _ _).alloc (by omega) _))).mono ?_); go_must (rintro e w4 ⟨he, hw4⟩; subst he; have hw4 := hw4.symm; subst hw4))
          | (at_builtin; go_must (refine wpList_append_own _ rfl _ _ 41 rfl w.heap.size 61 i0 _ 2 16 Try.underlying41 hi hz0 hz1 hz2 rfl (by decide) _ _ _ rfl ((hown3.alloc _).alloc _) ⟨w3.heap.size + 1, 0, none⟩ 1 1 [.bool true, .int .i64 (placeOf st (unNum x))] rfl rfl (cell_two_at _ _ _ _ _ (by simp)) (by simp [Value.oneCell']) (by simp only [maxLen]; omega) (by omega) (by simp; omega) ?_); intro v' w1 hown' hgrow _))
        go_roundw
        case rel => exact ⟨k + 1, by omega, by go_num, by rw [unhide HT2]; exact hown', (((hb.trans (hb3.mono hsz)).alloc (by omega) _).alloc (by simp; omega) _).grown hgrow (by simp; omega) (fun q e => (hown3.lt q e).1)⟩
        case measure => simp [intOf]; omega
    · obtain rfl : k = ws.length := by omega
      rw [List.take_of_length_le (by simp)] at hown
      obtain ⟨a', cap', hv, hV, hr9⟩ := vals_of_owns hown (by simp) (by omega)
      have HV : Hid (ValsF w.heap.size wr a' (ws.map (valW st))) := ⟨hV, hr9⟩
      clear hr9 hV
      subst hv
      go_wp2
      go_ret
      exact ⟨a', cap', rfl, unhide HV, hb⟩

/-- What an append of one object has made. -/
def Apd (wr : World) (gb k : Nat) (v : Value) (es : List Value) (lv : List V) (v10 : Value) (W : World) : Prop :=
  ∃ a7 c7 W1, ValsF wr.heap.size W1 a7 lv ∧ Below wr.heap.size wr W1 ∧ W.ownsRow (gb + 1) 79 1 v10 (k + 1) (es ++ [.slice a7 lv.length c7]) ∧ (W1.alloc (.cells #[.slice a7 lv.length c7] 79)).grownBy W v.ownBlock ∧ (v10.ownBlock = v.ownBlock ∨ v10.ownBlock = some (W1.alloc (.cells #[.slice a7 lv.length c7] 79)).heap.size)

def RdRes (fs : List (List Int)) (rs : List Int) (e : Ending) (W : World) : Prop :=
  ∃ ao co ar cr, e = .returned (.agg #[.slice ao (readG fs rs).objs.length co, .slice ar (readG fs rs).roots.length cr]) ∧ Objs W.heap.size W ao (readG fs rs).objs ∧ Vals W.heap.size W ar (readG fs rs).roots

set_option maxRecDepth 100000 in
set_option maxHeartbeats 8000000 in
theorem rread_c (aw ar : Option Addr) (cw cr : Nat) (ws rs : List Int) (fs : List (List Int)) (B : Nat) (w : World) (hW : Wds B w aw ws) (hR : Wds B w ar rs) (hUW : U64 ws) (hUR : U64 rs) (hB : B ≤ w.heap.size)
    (h256 : ws.length ≤ 256) (h8 : rs.length ≤ 8) (hs : splitR ws = some fs) :
    Calls Try.prog 17 #[.agg #[.slice aw ws.length cw, .slice ar rs.length cr]] w fun e w' => RdRes fs rs e w' ∧ Below w.heap.size w w' := by
  obtain ⟨i0, hi, hz0, hz1, hz2⟩ := info_parts Try.info79'
  have Hs := hide hs
  have htot := (splitR_st hs).1
  have hfl := tot_len fs
  clear hs
  obtain ⟨W4, hW4⟩ : ∃ W4, (w.alloc (.cells #[.slice aw ws.length cw, .slice ar rs.length cr] 24)).alloc (.cells #[.slice none 0 0, .slice none 0 0] 43) = W4 := ⟨_, rfl⟩
  have hbA : Below w.heap.size w W4 := by rw [← hW4]; exact ((Below.refl w.heap.size w).alloc (Nat.le_refl _) _).alloc (by simp) _
  have hs4 : w.heap.size + 1 < W4.heap.size := by rw [← hW4]; simp
  have q0 : W4.cell? ⟨w.heap.size + 1, 0, none⟩ = some (.slice none 0 0) := by rw [← hW4]; simp [go_sem]
  have q1 : W4.cell? ⟨w.heap.size + 1, 1, none⟩ = some (.slice none 0 0) := by rw [← hW4]; simp [go_sem]
  have f0 : W4.frozen? ⟨w.heap.size + 1, 0, none⟩ = false := by rw [← hW4]; simp [go_sem]
  have f1 : W4.frozen? ⟨w.heap.size + 1, 1, none⟩ = false := by rw [← hW4]; simp [go_sem]
  have g0 : W4.cell? ⟨w.heap.size, 0, none⟩ = some (.slice aw ws.length cw) := by rw [← hW4]; simp [go_sem]
  have g1 : W4.cell? ⟨w.heap.size, 1, none⟩ = some (.slice ar rs.length cr) := by rw [← hW4]; simp [go_sem]
  have Hcall := hide (rstarts_c aw cw ws B W4 (hW.below (hbA.mono hB)) hUW (by omega) h256)
  go_enter Try.func17, Try.ntmps17
  go_wp2_with fail
  refine (unhide Hcall).mono ?_
  rintro e w5 ⟨hres, hb5⟩
  obtain ⟨fs', sa, sc, he', hres⟩ := hres.resolve_left (fun h => by rw [unhide Hs] at h; cases h.1)
  rw [unhide Hs] at he'
  injection he' with he'
  subst he'
  obtain ⟨he, hI⟩ := hres
  subst he
  clear hW4 Hcall
  have hs5 := hb5.size
  replace q0 := (hb5.cell (p := ⟨w.heap.size + 1, 0, none⟩) (by simp; omega)).trans q0
  replace q1 := (hb5.cell (p := ⟨w.heap.size + 1, 1, none⟩) (by simp; omega)).trans q1
  replace f0 := (hb5.frozen (p := ⟨w.heap.size + 1, 0, none⟩) (by simp; omega)).trans f0
  replace f1 := (hb5.frozen (p := ⟨w.heap.size + 1, 1, none⟩) (by simp; omega)).trans f1
  replace g0 := (hb5.cell (p := ⟨w.heap.size, 0, none⟩) (by simp; omega)).trans g0
  replace g1 := (hb5.cell (p := ⟨w.heap.size, 1, none⟩) (by simp; omega)).trans g1
  have hbw5 : Below w.heap.size w w5 := hbA.trans (hb5.mono (by omega))
  have Hc2 := hide (runpacked2_c ar sa cr sc rs (stF 0 fs) w5.heap.size w5 ((hR.below (hbw5.mono hB)).mono (by omega)) hUR hI (Nat.le_refl _) (by omega))
  have HI := hide hI
  clear hbA hb5 hI
  go_wp2_with fail
  refine (unhide Hc2).mono ?_
  rintro e w6 ⟨ar6, cr6, he, hV6, hb6⟩
  subst he
  have hs6 := hb6.size
  replace q0 := (hb6.cell (p := ⟨w.heap.size + 1, 0, none⟩) (by simp; omega)).trans q0
  replace q1 := (hb6.cell (p := ⟨w.heap.size + 1, 1, none⟩) (by simp; omega)).trans q1
  replace f0 := (hb6.frozen (p := ⟨w.heap.size + 1, 0, none⟩) (by simp; omega)).trans f0
  replace f1 := (hb6.frozen (p := ⟨w.heap.size + 1, 1, none⟩) (by simp; omega)).trans f1
  replace g0 := (hb6.cell (p := ⟨w.heap.size, 0, none⟩) (by simp; omega)).trans g0
  have hbw6 : Below w.heap.size w w6 := hbw5.trans (hb6.mono (by omega))
  have HI6 := hide ((unhide HI).below hb6)
  have HV6 := hide hV6
  have Hst := hide (stF_len fs 0)
  have Hsg := hide (fun k hk => stF_get fs 0 k hk)
  clear Hc2 HI hV6 g1 hb6
  generalize hrl : (rs.map (valW (stF 0 fs))).length = rl at *
  have Hrl := hide hrl
  clear hrl
  go_wp2
  go_loopw [21] (fun i wr => ∃ (k : Nat) (x : Value) (es : List Value), k ≤ fs.length ∧ i = .int .i64 k ∧ Below w6.heap.size w6 wr ∧ wr.cell? ⟨w6.heap.size, 0, none⟩ = some x ∧ wr.frozen? ⟨w6.heap.size, 0, none⟩ = false ∧ wr.cell? ⟨w6.heap.size, 1, none⟩ = some (.slice ar6 rl cr6) ∧
        ObjRow wr (w6.heap.size + 1) x (objsOf (stF 0 fs) (fs.take k)) es) (fun i _ => fs.length - (intOf i).toNat)
  case atStart => exact ⟨0, .slice none 0 0, [], Nat.zero_le _, rfl, (Below.refl _ _).alloc (Nat.le_refl _) _, by simp [go_sem], by simp [go_sem], by simp [go_sem], objRow_nil _ _⟩
  case round =>
    obtain ⟨k, x, es, hk, rfl, hb, c0, cf0, c1, hrow⟩ := hrel
    have hsz := hb.size
    have hbwr : Below w.heap.size w wr := hbw6.trans (hb.mono (by have := hbw6.size; omega))
    have g0r := (hb.cell (p := ⟨w.heap.size, 0, none⟩) (by simp; omega)).trans g0
    have hqr : w.heap.size < wr.heap.size := by omega
    by_cases hlt : k < fs.length
    · obtain ⟨hp, hk1, hk2, hf0⟩ := split_obj (unhide Hs) hlt
      have hltS : k < (stF 0 fs).length := by rw [unhide Hst]; exact hlt
      obtain ⟨b, off, rfl, hbB, hc⟩ := ((unhide HI6).below (hb.mono (by omega))).at hltS
      have Hsk := hide (show (stF 0 fs)[k] = ((tot (fs.take k) : Nat) : Int) from by have := unhide Hsg k hlt; rw [List.getElem?_eq_getElem hltS, Option.some.injEq, Nat.zero_add] at this; exact this)
      rw [unhide Hsk] at hc
      have hkI : (k : Int) < ((stF 0 fs).length : Int) := by omega
      have hq : w6.heap.size < wr.heap.size := World.block_lt_of_cell? wr _ c0
      have HO := hide (objsOf_succ (stF 0 fs) hlt)
      have HLk := hide (show (objsOf (stF 0 fs) (fs.take k)).length = k by rw [objsOf_len, List.length_take]; omega)
      have hf4 : fs[k].length ≤ 4 := (splitR_st (unhide Hs)).2 _ (List.getElem_mem hlt)
      have hUf := u64_fields (unhide Hs) hUW _ (List.getElem_mem hlt)
      rw [← hf0] at HO hf4 hUf
      have HcF : Hid (∀ W, Below wr.heap.size wr W → Calls Try.prog 20 #[.slice aw ws.length cw, .int .i64 (tot (fs.take k) : Nat)] W fun e w' => ∃ a' cap', e = .returned (.slice a' (fieldsAt ws (tot (fs.take k))).length cap') ∧ Wds w'.heap.size w' a' (fieldsAt ws (tot (fs.take k))) ∧ Below W.heap.size W w') := fun W hbW => by
        refine (rfields_c aw cw ws B W ((hW.below (hbwr.mono hB)).below (hbW.mono (by omega))) hUW (by have := hbW.size; omega) h256 _ hp hk1 hk2).mono ?_
        rintro e w' ⟨a', c', h1, h2, h3, _⟩
        exact ⟨a', c', h1, h2, h3⟩
      have HIr := hide ((unhide HI6).below (hb.mono (by omega)))
      clear Hsk hk1 hk2 hf0 hp
      generalize fieldsAt ws (tot (fs.take k)) = f at *
      generalize tot (fs.take k) = p at *
      have hrr := hrow.row
      rw [unhide HLk] at hrr
      obtain ⟨ca, cc, rfl⟩ := ownsRow_slice hrr
      have hncb : Value.ownBlock (.slice ca k cc) ≠ some w6.heap.size := fun e => by have := (hrr.lt _ e).1; omega
      have HcU : Hid (∀ W a5 c5, Below wr.heap.size wr W → Wds W.heap.size W a5 f → Calls Try.prog 31 #[.slice a5 f.length c5, .slice (some ⟨b, off, none⟩) (stF 0 fs).length sc] W fun e w' => ∃ a' cap', e = .returned (.slice a' (f.map (valW (stF 0 fs))).length cap') ∧ ValsF W.heap.size w' a' (f.map (valW (stF 0 fs))) ∧ Below W.heap.size W w') := fun W a5 c5 hbW hW5 =>
        runpacked2_c a5 (some ⟨b, off, none⟩) c5 sc f (stF 0 fs) W.heap.size W hW5 hUf (((unhide HIr).below (hbW.mono (by omega))).mono (by have := hbW.size; omega)) (Nat.le_refl _) (by omega)
      have HRow := hide hrow
      clear hrow
      go_wp2
      refine wp_region_hoist _ [5, 7, 8, 9, 10, 12] (fun i => match i with
          | 0 => .pointer (some ⟨w6.heap.size, 0, none⟩)
          | 1 => .slice ca k cc
          | 2 => .pointer (some ⟨w.heap.size, 0, none⟩)
          | 3 => .slice aw ws.length cw
          | 4 => .int .i64 (p : Int)
          | 6 => .slice (some ⟨b, off, none⟩) (stF 0 fs).length sc
          | _ => .pointer (some ⟨w6.heap.size, 0, none⟩))
        (fun vs W => match vs with
          | [] => Below wr.heap.size wr W
          | [v5] => (∃ a5 c5, v5 = .slice a5 f.length c5 ∧ Wds W.heap.size W a5 f) ∧ Below wr.heap.size wr W
          | [v5, v7] => (∃ a7 c7, v7 = .slice a7 (f.map (valW (stF 0 fs))).length c7 ∧ ValsF wr.heap.size W a7 (f.map (valW (stF 0 fs)))) ∧ Below wr.heap.size wr W
          | [v5, v7, v8] => (∃ a7 c7, v8 = .agg #[.slice a7 (f.map (valW (stF 0 fs))).length c7] ∧ ValsF wr.heap.size W a7 (f.map (valW (stF 0 fs)))) ∧ Below wr.heap.size wr W
          | [v5, v7, v8, v9] => (∃ a7 c7 W1, v9 = .slice (some ⟨W1.heap.size, 0, none⟩) 1 1 ∧ W = W1.alloc (.cells #[.slice a7 (f.map (valW (stF 0 fs))).length c7] 79) ∧ ValsF wr.heap.size W1 a7 (f.map (valW (stF 0 fs))) ∧ Below wr.heap.size wr W1) ∧ Below wr.heap.size wr W
          | [v5, v7, v8, v9, v10] => Apd wr w6.heap.size k (.slice ca k cc) es (f.map (valW (stF 0 fs))) v10 W
          | [v5, v7, v8, v9, v10, v12] => Below w6.heap.size w6 W ∧ W.cell? ⟨w6.heap.size, 0, none⟩ = some v10 ∧ W.frozen? ⟨w6.heap.size, 0, none⟩ = false ∧ W.cell? ⟨w6.heap.size, 1, none⟩ = some (.slice ar6 rl cr6) ∧ ∃ es', ObjRow W (w6.heap.size + 1) v10 (objsOf (stF 0 fs) (fs.take (k + 1))) es'
          | _ => False) Try.mixed (laid_of (by kernel_rfl)) (Below.refl _ _).drew ?_ ?_ ?_
      · intro i o hio hiT vs a W K hGv hlate hag hdep hK
        have hBW4 : vs.length ≤ 4 → Below wr.heap.size wr W := by
          intro h4
          match vs, hGv, h4 with
          | [], h, _ => exact h
          | [_], h, _ => exact h.2
          | [_, _], h, _ => exact h.2
          | [_, _, _], h, _ => exact h.2
          | [_, _, _, _], h, _ => exact h.2
        have t1 := hag.tm (k := 1) (by simp [dsOf])
        have t3 := hag.tm (k := 3) (by simp [dsOf])
        have t5 := hag.tm (k := 5) (by simp [dsOf])
        have t7 := hag.tm (k := 7) (by simp [dsOf])
        simp at t1 t3 t5 t7
        rcases i with _ | _ | _ | _ | _ | _ | _ | _ | _ | _ | _ | _ | _ | i
        · cases hio
          clear hGv
          unfold Oper.wp
          go_simp
          exact hK
        · have hl4 : vs.length ≤ 4 := hlate 4 10 _ rfl rfl ⟨⟨1, .data⟩, by simp, rfl, rfl⟩
          have s25 : a.tmps[25]?.getD undef = .pointer (some ⟨w6.heap.size, 0, none⟩) := hdep ⟨0, .data⟩ (by cases hio; simp) rfl 25 rfl
          have hcW := ((hBW4 hl4).cell (p := ⟨w6.heap.size, 0, none⟩) hq).trans c0
          cases hio
          clear hGv
          unfold Oper.wp
          go_simp
          exact hK
        · cases hio
          clear hGv
          unfold Oper.wp
          go_simp
          exact hK
        · have hl0 : vs.length ≤ 0 := hlate 0 5 _ rfl rfl ⟨⟨3, .data⟩, by simp, rfl, rfl⟩
          have s27 : a.tmps[27]?.getD undef = .pointer (some ⟨w.heap.size, 0, none⟩) := hdep ⟨2, .data⟩ (by cases hio; simp) rfl 27 rfl
          have hcW := ((hBW4 (by omega)).cell (p := ⟨w.heap.size, 0, none⟩) hqr).trans g0r
          cases hio
          clear hGv
          unfold Oper.wp
          go_simp
          exact hK
        · cases hio
          clear hGv
          unfold Oper.wp
          go_simp
          exact hK
        · exact absurd (by simp) hiT
        · cases hio
          clear hGv
          unfold Oper.wp
          go_simp
          exact hK
        · exact absurd (by simp) hiT
        · exact absurd (by simp) hiT
        · exact absurd (by simp) hiT
        · exact absurd (by simp) hiT
        · cases hio
          clear hGv
          unfold Oper.wp
          go_simp
          exact hK
        · exact absurd (by simp) hiT
        · simp at hio
      · intro j i o hj hio vs a W K hvl hGv hag hdep hK
        rcases j with _ | _ | _ | _ | _ | _ | j
        · obtain rfl : 5 = i := by simpa using hj
          obtain rfl : vs = [] := List.length_eq_zero_iff.1 hvl
          have s28 : a.tmps[28]?.getD undef = .slice aw ws.length cw := hdep ⟨3, .data⟩ (by cases hio; simp) rfl 28 rfl
          have s29 : a.tmps[29]?.getD undef = .int .i64 (p : Int) := hdep ⟨4, .data⟩ (by cases hio; simp) rfl 29 rfl
          cases hio
          refine op_call 20 #[.slice aw ws.length cw, .int .i64 (p : Int)] (by go_simp) ?_
          have hBW : Below wr.heap.size wr W := hGv
          refine (unhide HcF W hBW).mono ?_
          rintro e w' ⟨a', c', rfl, h2, h3⟩
          exact ⟨_, rfl, hK _ _ ⟨⟨a', c', rfl, h2⟩, hBW.trans (h3.mono hBW.size)⟩⟩
        · obtain rfl : 7 = i := by simpa using hj
          obtain ⟨v5, rfl⟩ : ∃ v5, vs = [v5] := by
            match vs, hvl with
            | [v5], _ => exact ⟨v5, rfl⟩
          obtain ⟨⟨a5, c5, rfl, hW5⟩, hBW⟩ := hGv
          have s30 : a.tmps[30]?.getD undef = .slice a5 f.length c5 := hdep ⟨5, .data⟩ (by cases hio; simp) rfl 30 rfl
          have s31 : a.tmps[31]?.getD undef = .slice (some ⟨b, off, none⟩) (stF 0 fs).length sc := hdep ⟨6, .data⟩ (by cases hio; simp) rfl 31 rfl
          cases hio
          refine op_call 31 #[.slice a5 f.length c5, .slice (some ⟨b, off, none⟩) (stF 0 fs).length sc] (by go_simp) ?_
          refine (unhide HcU W a5 c5 hBW hW5).mono ?_
          rintro e w' ⟨a', c', rfl, h2, h3⟩
          exact ⟨_, rfl, hK _ _ ⟨⟨a', c', rfl, h2.base hBW.size⟩, hBW.trans (h3.mono hBW.size)⟩⟩
        · obtain rfl : 8 = i := by simpa using hj
          obtain ⟨v5, v7, rfl⟩ : ∃ v5 v7, vs = [v5, v7] := by
            match vs, hvl with
            | [v5, v7], _ => exact ⟨v5, v7, rfl⟩
          obtain ⟨⟨a7, c7, rfl, hV7⟩, hBW⟩ := hGv
          have s32 : a.tmps[32]?.getD undef = .slice a7 (f.map (valW (stF 0 fs))).length c7 := hdep ⟨7, .data⟩ (by cases hio; simp) rfl 32 rfl
          generalize (f.map (valW (stF 0 fs))) = lv at *
          cases hio
          unfold Oper.wp
          go_simp
          exact hK _ _ ⟨⟨a7, c7, rfl, hV7⟩, hBW⟩
        · obtain rfl : 9 = i := by simpa using hj
          obtain ⟨v5, v7, v8, rfl⟩ : ∃ v5 v7 v8, vs = [v5, v7, v8] := by
            match vs, hvl with
            | [v5, v7, v8], _ => exact ⟨v5, v7, v8, rfl⟩
          obtain ⟨⟨a7, c7, rfl, hV7⟩, hBW⟩ := hGv
          have s33 : a.tmps[33]?.getD undef = .agg #[.slice a7 (f.map (valW (stF 0 fs))).length c7] := hdep ⟨8, .data⟩ (by cases hio; simp) rfl 33 rfl
          generalize (f.map (valW (stF 0 fs))) = lv at *
          cases hio
          unfold Oper.wp
          go_simp
          exact hK _ _ ⟨⟨a7, c7, W, rfl, rfl, hV7, hBW⟩, hBW.alloc hBW.size _⟩
        · obtain rfl : 10 = i := by simpa using hj
          obtain ⟨v5, v7, v8, v9, rfl⟩ : ∃ v5 v7 v8 v9, vs = [v5, v7, v8, v9] := by
            match vs, hvl with
            | [v5, v7, v8, v9], _ => exact ⟨v5, v7, v8, v9, rfl⟩
          obtain ⟨⟨a7, c7, W1, rfl, rfl, hV7, hBW1⟩, hBW⟩ := hGv
          have s26 : a.tmps[26]?.getD undef = .slice ca k cc := hdep ⟨1, .data⟩ (by cases hio; simp) rfl 26 rfl
          have s34 : a.tmps[34]?.getD undef = .slice (some ⟨W1.heap.size, 0, none⟩) 1 1 := hdep ⟨9, .data⟩ (by cases hio; simp) rfl 34 rfl
          cases hio
          have hs1 := hBW1.size
          refine op_append (.tmp 26) (.tmp 34) 40 rfl (w6.heap.size + 1) 79 i0 _ 1 24 Try.underlying40 hi hz0 hz1 hz2 rfl (by decide) (.slice ca k cc) k es (by simpa [Act.eval] using s26) ((ownsRow_below hrr hBW1).alloc _) ⟨W1.heap.size, 0, none⟩ 1 1 [.slice a7 (f.map (valW (stF 0 fs))).length c7] (by simpa [Act.eval] using s34) rfl (cell_one_at _ _ _ _ rfl) (by simp [Value.oneCell']) (by simp only [maxLen]; omega) (by omega) (by simp; omega) ?_
          intro v10 w10 hrow10 hg10 hat10
          exact hK _ _ ⟨a7, c7, W1, hV7, hBW1, hrow10, hg10, hat10⟩
        · obtain rfl : 12 = i := by simpa using hj
          obtain ⟨v5, v7, v8, v9, v10, rfl⟩ : ∃ v5 v7 v8 v9 v10, vs = [v5, v7, v8, v9, v10] := by
            match vs, hvl with
            | [v5, v7, v8, v9, v10], _ => exact ⟨v5, v7, v8, v9, v10, rfl⟩
          obtain ⟨a7, c7, W1, hV7, hBW1, hrow10, hg10, hat10⟩ := hGv
          have hs1 := hBW1.size
          obtain ⟨g7, cap7, hv7⟩ := ownsRow_succ hrow10
          subst hv7
          have s35 : a.tmps[35]?.getD undef = .slice (some ⟨g7, 0, none⟩) (k + 1) cap7 := hdep ⟨10, .data⟩ (by cases hio; simp) rfl 35 rfl
          have s36 : a.tmps[36]?.getD undef = .pointer (some ⟨w6.heap.size, 0, none⟩) := hdep ⟨11, .data⟩ (by cases hio; simp) rfl 36 rfl
          have hblk : W.heap[w6.heap.size]? = wr.heap[w6.heap.size]? := (hg10.block w6.heap.size (by simp; omega) (fun e => hncb e.symm)).trans ((Below.heap_alloc W1 _ _ (by omega)).trans (hBW1.block _ hq))
          have e0 := (World.cell?_of_block (a := ⟨w6.heap.size, 0, none⟩) hblk).trans c0
          have e1 := (World.cell?_of_block (a := ⟨w6.heap.size, 1, none⟩) hblk).trans c1
          have ef := (World.frozen?_of_block (a := ⟨w6.heap.size, 0, none⟩) hblk).trans cf0
          obtain ⟨r1, r2⟩ := obj_step (l := f.map (valW (stF 0 fs))) (ci := c7) (unhide HRow) (by omega) hV7.1 hBW1 hV7.2 (by rw [unhide HLk]; exact hrow10) hg10 hat10 rfl
          cases hio
          clear hrow10 hg10 hat10 hV7 hblk
          unfold Oper.wp
          go_simp
          refine hK undef _ ⟨hb.trans r2, World.cell?_setCell_same' _ _ _ (by rw [e0]; rfl), by rw [World.frozen?_setCell]; exact ef, ?_, _, by rw [unhide HO]; exact r1⟩
          rw [World.cell?_setCell_other _ _ _ _ (by simp)]
          exact e1
        · simp at hj
      · intro vs W hvl hGv
        obtain ⟨v5, v7, v8, v9, v10, v12, rfl⟩ : ∃ v5 v7 v8 v9 v10 v12, vs = [v5, v7, v8, v9, v10, v12] := by
          match vs, hvl with
          | [v5, v7, v8, v9, v10, v12], _ => exact ⟨v5, v7, v8, v9, v10, v12, rfl⟩
        obtain ⟨h1, h2, h3, h4, es', h5⟩ := hGv
        simp only [List.length_cons, List.length_nil, Nat.reduceAdd]
        simp [endAct, dstAt, valAt, List.idxOf?, List.findIdx?, List.findIdx?.go, Act.put]
        go_wp2
        go_roundw
        case rel => exact ⟨k + 1, v10, es', by omega, by go_num, h1, h2, h3, h4, h5⟩
        case measure => simp [intOf]; omega
    · obtain rfl : k = fs.length := by omega
      rw [List.take_length] at hrow
      have hkI : ¬ ((fs.length : Int) < ((stF 0 fs).length : Int)) := by rw [unhide Hst]; omega
      have hol := objsOf_len (stF 0 fs) fs
      obtain ⟨va', vc', hv, hO⟩ := hrow.objs (by omega)
      subst hv
      have HR := hide hrow
      have Hol := hide hol
      clear hO hrow hol
      replace q0 := (hb.cell (p := ⟨w.heap.size + 1, 0, none⟩) (by simp; omega)).trans q0
      replace q1 := (hb.cell (p := ⟨w.heap.size + 1, 1, none⟩) (by simp; omega)).trans q1
      replace f0 := (hb.frozen (p := ⟨w.heap.size + 1, 0, none⟩) (by simp; omega)).trans f0
      replace f1 := (hb.frozen (p := ⟨w.heap.size + 1, 1, none⟩) (by simp; omega)).trans f1
      generalize hL : objsOf (stF 0 fs) fs = L at *
      have HL := hide hL
      clear hL
      go_wp2
      refine bodyPost_ret (v := .agg #[.slice va' L.length vc', .slice ar6 rl cr6]) (by simp [results, Try.results17, go_sem, q0, q1]) rfl ?_
      have hO := ((unhide HR).setCell (p := ⟨w.heap.size + 1, 0, none⟩) (by simp; omega) (.slice va' L.length vc')).setCell (p := ⟨w.heap.size + 1, 1, none⟩) (by simp; omega) (.slice ar6 rl cr6)
      obtain ⟨va2, vc2, hv2, hO2⟩ := hO.objs (by rw [unhide Hol]; omega)
      injection hv2 with e1 _ e3
      subst e1 e3
      have hVF := ((((unhide HV6).below hb).setCell (p := ⟨w.heap.size + 1, 0, none⟩) (by simp; omega) (.slice va' L.length vc')).setCell (p := ⟨w.heap.size + 1, 1, none⟩) (by simp; omega) (.slice ar6 rl cr6))
      refine ⟨⟨va', vc', ar6, cr6, ?_, ?_, hVF.1⟩, (hbwr.setCell (p := ⟨w.heap.size + 1, 0, none⟩) (by simp) _).setCell (p := ⟨w.heap.size + 1, 1, none⟩) (by simp) _⟩
      · have e1 : (readG fs rs).objs = L := unhide HL
        have e2 : (readG fs rs).roots.length = rl := unhide Hrl
        rw [e1, e2]
      · have e1 : (readG fs rs).objs = L := unhide HL
        rw [e1]; exact hO2

end Go.Proofs.Ytngjakeofhmohaa

/- Walks: the document's Visit. -/
namespace Go.Proofs.Ytngjakeofhmohaa
set_option linter.unusedSimpArgs false
set_option linter.unusedVariables false
open Go.RowKit Go.Shelf

theorem natI_get {O : List Nat} {i : Nat} (hi : i < (natI O).length) : ∃ j, O[i]? = some j ∧ (natI O)[i] = (j : Int) := by
  have hi' : i < O.length := by rw [natI_len] at hi; exact hi
  exact ⟨O[i], List.getElem?_eq_getElem hi', by simp [natI]⟩

theorem plc_take {fs : List (List Int)} {O : List Nat} {k j : Nat} (hk : O[k]? = some j) : plc fs (O.take (k + 1)) = plc fs (O.take k) ++ [((tot (fs.take j) : Nat) : Int)] := by
  have hlt := (List.getElem?_eq_some_iff.1 hk).1
  have he : O[k] = j := (List.getElem?_eq_some_iff.1 hk).2
  rw [List.take_succ_eq_append_getElem hlt, he, plc_snoc]

/-- What the document's Visit tells. -/
def RvRes (fs : List (List Int)) (rs : List Int) (e : Ending) (W : World) : Prop :=
  ∃ a c, e = .returned (.slice a (plc fs (visL fs rs)).length c) ∧ Ints W.heap.size W a (plc fs (visL fs rs))

set_option maxRecDepth 100000 in
set_option maxHeartbeats 4000000 in
theorem rvisit_c (aw ar : Option Addr) (cw cr : Nat) (ws rs : List Int) (hs : List Int) (fs : List (List Int)) (B : Nat) (w : World) (hW : Wds B w aw ws) (hR : Wds B w ar rs) (hUW : U64 ws) (hUR : U64 rs) (hB : B ≤ w.heap.size) (hA : Arn hs fs rs) (hws : ws = joinW hs fs) :
    Calls Try.prog 11 #[.agg #[.slice aw ws.length cw, .slice ar rs.length cr]] w fun e w' => RvRes fs rs e w' ∧ Below w.heap.size w w' := by
  obtain ⟨i0, hi, hz0, hz1, hz2⟩ := info_parts Try.info3
  have hsp : splitR ws = some fs := by rw [hws]; exact fit_split hA.fit
  have h256 : ws.length ≤ 256 := by rw [hws, joinW_len _ _ hA.fit.len]; exact hA.n256
  have h8 := hA.n8
  have HA := hide hA
  have Hsp := hide hsp
  obtain ⟨W1, hW1⟩ : ∃ W1, w.alloc (.cells #[.slice aw ws.length cw, .slice ar rs.length cr] 24) = W1 := ⟨_, rfl⟩
  have hb1 : Below w.heap.size w W1 := by rw [← hW1]; exact (Below.refl w.heap.size w).alloc (Nat.le_refl _) _
  have hs1 : w.heap.size < W1.heap.size := by rw [← hW1]; simp
  have g0 : W1.cell? ⟨w.heap.size, 0, none⟩ = some (.slice aw ws.length cw) := by rw [← hW1]; simp [go_sem]
  have g1 : W1.cell? ⟨w.heap.size, 1, none⟩ = some (.slice ar rs.length cr) := by rw [← hW1]; simp [go_sem]
  have Hc1 := hide (rstarts_c aw cw ws B W1 (hW.below (hb1.mono hB)) hUW (by omega) h256)
  clear hA hsp hws
  go_enter Try.func11, Try.ntmps11
  go_wp2_with fail
  refine (unhide Hc1).mono ?_
  rintro e w2 ⟨hres, hb2⟩
  obtain ⟨sa, sc, he, hSI⟩ : ∃ sa sc, e = .returned (.tuple #[.slice sa (stF 0 fs).length sc, .bool true]) ∧ Ints w2.heap.size w2 sa (stF 0 fs) := by
    rcases hres with ⟨h1, _⟩ | ⟨fs2, sa, sc, h1, h2, h3⟩
    · rw [unhide Hsp] at h1; cases h1
    · rw [unhide Hsp] at h1
      injection h1 with h1
      subst h1
      exact ⟨sa, sc, h2, h3⟩
  subst he
  have hs2 := hb2.size
  have hbw2 : Below w.heap.size w w2 := hb1.trans (hb2.mono (by omega))
  replace g0 := (hb2.cell (p := ⟨w.heap.size, 0, none⟩) hs1).trans g0
  replace g1 := (hb2.cell (p := ⟨w.heap.size, 1, none⟩) hs1).trans g1
  have hl2 : w.heap.size < w2.heap.size := by omega
  have HS := hide hSI
  have Hrd : Hid (∀ W, Below w2.heap.size w2 W → Calls Try.prog 17 #[.agg #[.slice aw ws.length cw, .slice ar rs.length cr]] W fun e w' => RdRes fs rs e w' ∧ Below W.heap.size W w') := fun W h => by
    have hbW : Below w.heap.size w W := hbw2.trans (h.mono (by omega))
    exact rread_c aw ar cw cr ws rs fs B W (hW.below (hbW.mono hB)) (hR.below (hbW.mono hB)) hUW hUR (by have := hbW.size; omega) h256 h8 (unhide Hsp)
  clear hW1 hres Hc1 hSI hb1 hb2
  have Hup : Hid (∀ W, Below w2.heap.size w2 W → Calls Try.prog 31 #[.slice ar rs.length cr, .slice sa (stF 0 fs).length sc] W fun e w' => ∃ a' cap', e = .returned (.slice a' rs.length cap') ∧ ValsF W.heap.size w' a' (rs.map (valW (stF 0 fs))) ∧ Below W.heap.size W w') := fun W h => by
    have hbW : Below w.heap.size w W := hbw2.trans (h.mono (by omega))
    refine (runpacked2_c ar sa cr sc rs (stF 0 fs) w2.heap.size W ((hR.below (hbW.mono hB)).mono (by omega)) hUR ((unhide HS).below h) h.size (by omega)).mono ?_
    rintro e w' ⟨a', c', he, h1, h2⟩
    rw [List.length_map] at he
    exact ⟨a', c', he, h1, h2⟩
  have Hwk : Hid (∀ W go gc gr gk va vc, Objs W.heap.size W go (readG fs rs).objs → Vals W.heap.size W va (rs.map (valW (stF 0 fs))) → Calls Try.prog 30 #[.agg #[.slice go (readG fs rs).objs.length gc, .slice gr (readG fs rs).roots.length gk], .slice va rs.length vc, .slice none 0 0] W fun e w' => ∃ a c, e = .returned (.slice a (visL fs rs).length c) ∧ Ints w'.heap.size w' a (natI (visL fs rs)) ∧ Below W.heap.size W w') := fun W go gc gr gk va vc ho hv => by
    have hG := good_read (unhide HA)
    have hwk := rwalk_c (readG fs rs) hG go gr gc gk W.heap.size W.heap.size (Nat.le_refl _) _ (readG fs rs).roots [] va vc (.slice none 0 0) W (Nat.lt_succ_self _) hv hG.rr hG.n8 ho (World.ownsRow_nil _ _ _ _) ⟨by simp, by simp⟩ (Nat.le_refl _)
    rw [readG_rlen] at hwk ⊢
    refine hwk.mono ?_
    rintro e w' ⟨v, he, hrow, hrg⟩
    have hlen : (visL fs rs).length ≤ 256 := by have := visL_len (unhide HA); have := (unhide HA).n256; omega
    obtain ⟨a, c, hv, hI, _⟩ := ints_of_owns (l := natI (visL fs rs)) hrow (natI_len _).symm (by show (visL fs rs).length ≤ _; omega)
    rw [natI_len] at hv
    exact ⟨a, c, by rw [he, hv], hI, (Below.refl _ W).grown hrg.1 (Nat.le_refl _) (fun k e => by cases e)⟩
  have h1c : ∀ W, Below w2.heap.size w2 W → W.cell? ⟨w.heap.size, 1, none⟩ = some (.slice ar rs.length cr) ∧ w.heap.size < W.heap.size := fun W h => ⟨(h.cell (p := ⟨w.heap.size, 1, none⟩) hl2).trans g1, by have := h.size; omega⟩
  have H1c := hide h1c
  clear h1c
  go_upto_region 3 with fail
  go_cut [20, 21, 22] from 14 to 22 (fun s20 s21 s22 wx => ∃ a c, s20 = .slice a (visL fs rs).length c ∧ s21 = .int .i64 (visL fs rs).length ∧ s22 = .int .i64 0 ∧ Hid (Ints wx.heap.size wx a (natI (visL fs rs))) ∧ Below w2.heap.size w2 wx)
  case first =>
    go_region_with (first
      | (go_at_call 17; go_must (refine (unhide Hrd _ (Below.refl _ _).drew).mono ?_); go_must (rintro e w3 ⟨⟨go, gc, gr, gk, he, hgo, hgr⟩, hb3⟩; subst he; have hb3' : Below w2.heap.size w2 w3 := (Below.refl _ _).drew.trans hb3; have k1 := (unhide H1c w3 hb3').1; have k2 := (unhide H1c w3 hb3').2; have Hgo := hide hgo; clear hgo hgr))
      | (go_at_call 31; go_must (refine (unhide Hup _ hb3').mono ?_); go_must (rintro e w4 ⟨va, vc, he, hva, hb4⟩; subst he; have hs4 := hb4.size; have hb4' : Below w2.heap.size w2 w4 := hb3'.trans (hb4.mono hb3'.size); have Hc := hide (unhide Hwk w4 go gc gr gk va vc (((unhide Hgo).below hb4).mono hs4) hva.1); clear hva))
      | (go_at_call 30; go_must (refine (unhide Hc).mono ?_); go_must (rintro e w5 ⟨a5, c5, he, hI5, hb5⟩; subst he; have hb5' : Below w2.heap.size w2 w5 := hb4'.trans (hb5.mono hb4'.size); have HI5 := hide hI5; clear hI5)))
    all_goals
      go_wp2_with fail
      go_meet
      case rel => exact ⟨a5, c5, rfl, rfl, rfl, HI5, hb5'⟩
  case rest =>
  obtain ⟨a6, c6, rfl, rfl, rfl, HI6, hb6⟩ := hcut
  have hs6 := hb6.size
  have hbw6 : Below w.heap.size w wc := hbw2.trans (hb6.mono (by omega))
  have HS6 := hide ((unhide HS).below hb6)
  have hvl : (visL fs rs).length ≤ 256 := by have := visL_len (unhide HA); have := (unhide HA).n256; omega
  have Hpt := hide (fun (k j : Nat) (h : (visL fs rs)[k]? = some j) => plc_take (fs := fs) h)
  have Hlt := hide (fun (k j : Nat) (h : (visL fs rs)[k]? = some j) => visL_lt (unhide HA) (List.mem_of_getElem? h))
  have Htl := hide (fun (k : Nat) => plc_len fs ((visL fs rs).take k))
  have Hst : Hid (∀ j, j < fs.length → (stF 0 fs)[j]? = some ((tot (fs.take j) : Nat) : Int)) := fun j hj => by have := stF_get fs 0 j hj; rw [Nat.zero_add] at this; exact this
  have hfl : fs.length ≤ 256 := by have := tot_len fs; have := (unhide HA).n256; omega
  have Hsl := hide (stF_len fs 0)
  have hsl := unhide Hsl
  rw [hsl]
  clear Hrd Hup Hwk H1c HS hb6 hsl hW hR g0 g1
  generalize hO : visL fs rs = O at *
  have HO := hide hO
  clear hO
  go_wp2
  go_loopw [5, 22] (fun s i wr => ∃ k : Nat, k ≤ O.length ∧ i = .int .i64 k ∧ wr.ownsRow wc.heap.size 3 1 s (plc fs (O.take k)).length (intsV (plc fs (O.take k))) ∧ Below wc.heap.size wc wr) (fun _ i _ => O.length - (intOf i).toNat)
  case atStart => exact ⟨0, Nat.zero_le _, rfl, World.ownsRow_nil _ _ _ _, Below.refl _ _⟩
  case round =>
    obtain ⟨k, hk, rfl, hrow, hb⟩ := hrel
    have hsr := hb.size
    by_cases hlt : k < O.length
    · have hlt' : k < (natI O).length := by rw [natI_len]; exact hlt
      obtain ⟨b, off, rfl, hbB, hc⟩ := ((unhide HI6).below hb).at hlt'
      obtain ⟨j, hj, hje⟩ := natI_get hlt'
      rw [hje] at hc
      have hjl := unhide Hlt k j hj
      have hjs : j < (stF 0 fs).length := by rw [unhide Hsl]; exact hjl
      obtain ⟨b2, off2, rfl, hbB2, hc2⟩ := ((unhide HS6).below (hb.mono (by omega))).at hjs
      have hq := unhide Hst j hjl
      rw [List.getElem?_eq_getElem hjs] at hq
      injection hq with hq
      rw [hq] at hc2
      have HT := hide (unhide Hpt k j hj)
      have hkl : (plc fs (O.take k)).length ≤ 256 := by have := unhide Htl k; rw [this, List.length_take]; omega
      have hkI : (k : Int) < (O.length : Int) := by omega
      have hjI : (j : Int) < (fs.length : Int) := by omega
      have hb' : b < wr.heap.size := by omega
      have hb2' : b2 < wr.heap.size := by omega
      clear hq hje hjs
      generalize tot (fs.take j) = p at *
      generalize plc fs (O.take k) = PK at *
      obtain ⟨sa', sc', rfl⟩ := ownsRow_slice hrow
      go_wp2_with (at_builtin; go_must (refine wpList_append_own _ rfl _ _ 25 rfl wc.heap.size 3 i0 _ 1 8 Try.underlying25 hi hz0 hz1 hz2 rfl (by decide) _ _ _ rfl (hrow.alloc _) ⟨wr.heap.size, 0, none⟩ 1 1 [.int .i64 (p : Int)] rfl rfl (cell_one_at _ _ _ _ (by simp)) (by simp [Value.oneCell']) (by simp only [maxLen]; omega) (by omega) (by simp; omega) ?_); intro v' w1 hown' hgrow _)
      go_roundw
      case rel => exact ⟨k + 1, by omega, by go_num, by rw [unhide HT, intsV_snoc, List.length_append]; exact hown', (hb.alloc hsr _).grown hgrow (by simp; omega) (fun q e => (hrow.lt q e).1)⟩
      case measure => simp [intOf]; omega
    · obtain rfl : k = O.length := by omega
      have hrow2 := hrow
      rw [List.take_length] at hrow2
      obtain ⟨a9, c9, hv, hI9, _⟩ := ints_of_owns hrow2 rfl (by rw [plc_len]; omega)
      have Hv := hide hv
      have HI9 := hide hI9
      clear hv hrow hrow2 hI9
      go_wp2
      go_ret
      exact ⟨⟨a9, c9, by rw [unhide HO]; exact congrArg Ending.returned (unhide Hv), by rw [unhide HO]; exact unhide HI9⟩, hbw6.trans (hb.mono (by have := hbw6.size; omega))⟩

end Go.Proofs.Ytngjakeofhmohaa

/- Walks: the document's Words, Arenas, packed. -/
namespace Go.Proofs.Ytngjakeofhmohaa
set_option linter.unusedSimpArgs false
set_option linter.unusedVariables false
open Go.RowKit Go.Shelf

set_option maxRecDepth 100000 in
set_option maxHeartbeats 1000000 in
theorem words_eq_c (a1 a2 : Option Addr) (c1 c2 : Nat) (l1 l2 : List Int) (B : Nat) (w : World) (h1 : Wds B w a1 l1) (h2 : Wds B w a2 l2) (hB : B ≤ w.heap.size) :
    Calls Try.prog 27 #[.slice a1 l1.length c1, .slice a2 l2.length c2] w fun e w' => e = .returned (.bool (decide (l1 = l2))) ∧ Below w.heap.size w w' := by
  have hl1 := h1.1
  have hl2 := h2.1
  by_cases hl : l1.length = l2.length
  · have d1 : ((l1.length : Int) != (l2.length : Int)) = false := by simp [hl]
    have d2 : ((l2.length : Int) != (l2.length : Int)) = false := by simp
    rw [hl]
    have Hl := hide hl
    have hle : l1.length ≤ l2.length := by omega
    have hge : l2.length ≤ l1.length := by omega
    clear hl
    go_enter Try.func27, Try.ntmps27
    go_wp2
    go_loopw [5] (fun i wr => ∃ k : Nat, k ≤ l2.length ∧ i = .int .i64 k ∧ Hid (l1.take k = l2.take k) ∧ Below w.heap.size w wr) (fun i _ => l2.length - (intOf i).toNat)
    case atStart => exact ⟨0, Nat.zero_le _, rfl, by show l1.take 0 = l2.take 0; simp, Below.refl _ _⟩
    case round =>
      obtain ⟨k, hk, rfl, Heq, hb⟩ := hrel
      by_cases hlt : k < l2.length
      · have hlt1 : k < l1.length := by omega
        obtain ⟨b1, o1, rfl, hbB1, hx1⟩ := (h1.below (hb.mono hB)).at hlt1
        obtain ⟨b2, o2, rfl, hbB2, hx2⟩ := (h2.below (hb.mono hB)).at hlt
        have hltI : (k : Int) < (l2.length : Int) := by omega
        have HT1 := hide (List.take_succ_eq_append_getElem hlt1)
        have HT2 := hide (List.take_succ_eq_append_getElem hlt)
        have HN : Hid (l1 = l2 → l1[k] = l2[k]) := by intro e; subst e; rfl
        generalize l1[k] = x at *
        generalize l2[k] = y at *
        by_cases hxy : x = y
        · have d : (x != y) = false := by simpa using hxy
          have Hxy := hide hxy
          clear hxy
          go_wp2
          go_still Try.mixed
          go_wp2
          go_roundw
          case rel => exact ⟨k + 1, by omega, by go_num, by show l1.take (k + 1) = _; rw [unhide HT1, unhide HT2, unhide Heq, unhide Hxy], hb.trans (Below.refl _ _).drew⟩
          case measure => simp [intOf]; omega
        · have d : (x != y) = true := by simpa using hxy
          have Hxy := hide hxy
          clear hxy
          go_wp2
          go_still Try.mixed
          go_wp2
          go_ret
          exact ⟨ret_bool (Eq.symm (decide_eq_false (fun e => unhide Hxy (unhide HN e)))), hb.trans (Below.refl _ _).drew⟩
      · obtain rfl : k = l2.length := by omega
        have Hfin : Hid (l1 = l2) := by
          have := unhide Heq
          rw [List.take_length, List.take_of_length_le hle] at this
          exact this
        go_wp2
        go_ret
        exact ⟨ret_bool (Eq.symm (decide_eq_true (unhide Hfin))), hb⟩
  · have d1 : ((l1.length : Int) != (l2.length : Int)) = true := by simp; omega
    go_enter Try.func27, Try.ntmps27
    go_wp2
    go_ret
    exact ⟨ret_bool (Eq.symm (decide_eq_false (fun e => hl (by rw [e])))), Below.refl _ _⟩

set_option maxRecDepth 100000 in
set_option maxHeartbeats 1000000 in
theorem arenas_eq_c (aw ar bw br : Option Addr) (cw cr dw dr : Nat) (ws rs vs us : List Int) (B : Nat) (w : World) (h1 : Wds B w aw ws) (h2 : Wds B w ar rs) (h3 : Wds B w bw vs) (h4 : Wds B w br us) (hB : B ≤ w.heap.size) :
    Calls Try.prog 8 #[.agg #[.slice aw ws.length cw, .slice ar rs.length cr], .agg #[.slice bw vs.length dw, .slice br us.length dr]] w fun e w' => e = .returned (.bool (decide (ws = vs) && decide (rs = us))) ∧ Below w.heap.size w w' := by
  obtain ⟨W0, hW0⟩ : ∃ W0, (w.alloc (.cells #[.slice aw ws.length cw, .slice ar rs.length cr] 24)).alloc (.cells #[.slice bw vs.length dw, .slice br us.length dr] 24) = W0 := ⟨_, rfl⟩
  have hb0 : Below w.heap.size w W0 := by rw [← hW0]; exact ((Below.refl _ _).alloc (Nat.le_refl _) _).alloc (by simp) _
  have hs0 : w.heap.size + 1 < W0.heap.size := by rw [← hW0]; simp
  have g0 : W0.cell? ⟨w.heap.size, 0, none⟩ = some (.slice aw ws.length cw) := by rw [← hW0]; simp [go_sem]
  have g1 : W0.cell? ⟨w.heap.size, 1, none⟩ = some (.slice ar rs.length cr) := by rw [← hW0]; simp [go_sem]
  have k0 : W0.cell? ⟨w.heap.size + 1, 0, none⟩ = some (.slice bw vs.length dw) := by rw [← hW0]; simp [go_sem]
  have k1 : W0.cell? ⟨w.heap.size + 1, 1, none⟩ = some (.slice br us.length dr) := by rw [← hW0]; simp [go_sem]
  have Hc1 := hide (words_eq_c aw bw cw dw ws vs B W0 (h1.below (hb0.mono hB)) (h3.below (hb0.mono hB)) (by omega))
  go_enter Try.func8, Try.ntmps8
  go_wp2_with fail
  refine (unhide Hc1).mono ?_
  rintro e w2 ⟨he, hb2⟩
  subst he
  clear hW0 Hc1
  have hs2 := hb2.size
  have hbw2 : Below w.heap.size w w2 := hb0.trans (hb2.mono (by omega))
  replace g1 := (hb2.cell (p := ⟨w.heap.size, 1, none⟩) (by simp; omega)).trans g1
  replace k1 := (hb2.cell (p := ⟨w.heap.size + 1, 1, none⟩) hs0).trans k1
  cases hd : decide (ws = vs)
  · have Hd := hide hd
    clear hd
    go_wp2
    go_ret
    exact ⟨ret_bool (by have := unhide Hd; simp at this; simp [this]), hbw2⟩
  · have Hd := hide hd
    clear hd
    have Hc2 := hide (words_eq_c ar br cr dr rs us B w2 (h2.below (hbw2.mono hB)) (h4.below (hbw2.mono hB)) (by omega))
    go_wp2_with fail
    refine (unhide Hc2).mono ?_
    rintro e w3 ⟨he, hb3⟩
    subst he
    go_wp2
    go_ret
    exact ⟨ret_bool (by have := unhide Hd; simp at this; simp [this]), hbw2.trans (hb3.mono (by omega))⟩

theorem words_take_succ {l : List V} {st : List Int} {k : Nat} (hk : k < l.length) {x : Int} (h : packV st l[k] = x) : wordsV ((l.map (packV st)).take (k + 1)) = wordsV ((l.map (packV st)).take k) ++ [.int .u64 x] := by
  rw [List.take_succ_eq_append_getElem (by simpa using hk), List.getElem_map, h, wordsV_snoc]

set_option maxRecDepth 100000 in
set_option maxHeartbeats 2000000 in
theorem rpacked_c (a s0 : Option Addr) (cap caps : Nat) (l : List V) (st : List Int) (B : Nat) (w : World) (hV : Vals B w a l) (hS : Ints B w s0 st) (hB : B ≤ w.heap.size) (hl : l.length ≤ 1000)
    (hr : ∀ v ∈ l, v.1 = true → 0 ≤ v.2 ∧ v.2 < st.length) (hst : ∀ x ∈ st, 0 ≤ x ∧ x ≤ 9223372036854775807) (hn : ∀ v ∈ l, v.1 = false → -9223372036854775808 ≤ v.2 ∧ v.2 ≤ 9223372036854775807) (hsl : st.length ≤ 1000) :
    Calls Try.prog 44 #[.slice a l.length cap, .slice s0 st.length caps] w fun e w' => ∃ a' cap', e = .returned (.slice a' (l.map (packV st)).length cap') ∧ WdsF w.heap.size w' a' (l.map (packV st)) ∧ Below w.heap.size w w' := by
  obtain ⟨i0, hi, hz0, hz1, hz2⟩ := info_parts Try.info52
  go_enter Try.func44, Try.ntmps44
  go_wp2
  go_loopw [5, 12] (fun s i wr => ∃ k : Nat, k ≤ l.length ∧ i = .int .i64 k ∧ wr.ownsRow w.heap.size 52 1 s k (wordsV ((l.map (packV st)).take k)) ∧ Below w.heap.size w wr) (fun _ i _ => l.length - (intOf i).toNat)
  case atStart => exact ⟨0, Nat.zero_le _, rfl, by simpa [wordsV] using World.ownsRow_nil _ _ _ _, Below.refl _ _⟩
  case round =>
    obtain ⟨k, hk, rfl, hown, hb⟩ := hrel
    have hsz := hb.size
    by_cases hlt : k < l.length
    · obtain ⟨b, off, r, m, rfl, hbB, hc1, hc2, Hv⟩ := (hV.below (hb.mono hB)).at hlt
      have hmem : (r, m) ∈ l := by rw [← Hv.out]; exact List.getElem_mem hlt
      have HT := hide (fun x h => words_take_succ (st := st) hlt (x := x) h)
      rw [Hv.out] at HT
      cases r
      · have hrng := hn _ hmem rfl
        have HT2 := hide (unhide HT _ packV_num)
        clear HT Hv
        have Hc := hide (rpack_c false m (wr.alloc (.cells #[.bool false, .int .i64 m] 61)) hrng.1 hrng.2)
        go_wp2_with fail
        refine (unhide Hc).mono ?_
        rintro e w3 ⟨he, hb3⟩
        subst he
        simp only [World.size_alloc] at hb3
        have hs3 := hb3.size
        simp only [World.size_alloc] at hs3
        have hown3 := ownsRow_below (hown.alloc (.cells #[.bool false, .int .i64 m] 61)) (by simpa using hb3)
        have hbw3 : Below w.heap.size w w3 := (hb.alloc (by omega) _).trans (hb3.mono (by omega))
        clear hown Hc
        go_wp2_with (at_builtin; go_must (refine wpList_append_own _ rfl _ _ 22 rfl w.heap.size 52 i0 _ 1 8 Try.underlying22 hi hz0 hz1 hz2 rfl (by decide) _ _ _ rfl (hown3.alloc _) ⟨w3.heap.size, 0, none⟩ 1 1 [.int .u64 (packW false m)] rfl rfl (cell_one_at _ _ _ _ (by simp)) (by simp [Value.oneCell']) (by simp only [maxLen]; omega) (by omega) (by simp; omega) ?_); intro v' w1 hown' hgrow _)
        go_roundw
        case rel => exact ⟨k + 1, by omega, by go_num, by rw [unhide HT2]; exact hown', (hbw3.alloc (by omega) _).grown hgrow (by simp; omega) (fun q e => (hown3.lt q e).1)⟩
        case measure => simp [intOf]; omega
      · have hrng := hr _ hmem rfl
        obtain ⟨mn, rfl⟩ := Int.eq_ofNat_of_zero_le hrng.1
        have hmn : mn < st.length := by have := hrng.2; simp at this; omega
        have hxr := hst _ (List.getElem_mem hmn)
        obtain ⟨b2, off2, rfl, hbB2, hx⟩ := (hS.below (hb.mono hB)).at hmn
        have HT2 := hide (unhide HT (packW true st[mn]) (by simp [packV, List.getD_eq_getElem?_getD, hmn]))
        have hmnI : (mn : Int) < (st.length : Int) := by omega
        have hb2w : b2 < wr.heap.size := by omega
        clear HT Hv hrng
        generalize st[mn] = p at *
        have Hc := hide (rpack_c true p (wr.alloc (.cells #[.bool true, .int .i64 p] 61)) (by omega) (by omega))
        go_wp2_with fail
        refine (unhide Hc).mono ?_
        rintro e w3 ⟨he, hb3⟩
        subst he
        simp only [World.size_alloc] at hb3
        have hs3 := hb3.size
        simp only [World.size_alloc] at hs3
        have hown3 := ownsRow_below (hown.alloc (.cells #[.bool true, .int .i64 p] 61)) (by simpa using hb3)
        have hbw3 : Below w.heap.size w w3 := (hb.alloc (by omega) _).trans (hb3.mono (by omega))
        clear hown Hc
        go_wp2_with (at_builtin; go_must (refine wpList_append_own _ rfl _ _ 22 rfl w.heap.size 52 i0 _ 1 8 Try.underlying22 hi hz0 hz1 hz2 rfl (by decide) _ _ _ rfl (hown3.alloc _) ⟨w3.heap.size, 0, none⟩ 1 1 [.int .u64 (packW true p)] rfl rfl (cell_one_at _ _ _ _ (by simp)) (by simp [Value.oneCell']) (by simp only [maxLen]; omega) (by omega) (by simp; omega) ?_); intro v' w1 hown' hgrow _)
        go_roundw
        case rel => exact ⟨k + 1, by omega, by go_num, by rw [unhide HT2]; exact hown', (hbw3.alloc (by omega) _).grown hgrow (by simp; omega) (fun q e => (hown3.lt q e).1)⟩
        case measure => simp [intOf]; omega
    · obtain rfl : k = l.length := by omega
      rw [List.take_of_length_le (by simp)] at hown
      obtain ⟨a', cap', hv, hWF, _⟩ := wordsF_of_owns hown (by simp) (by omega)
      have HW := hide hWF
      clear hWF
      subst hv
      go_wp2
      go_ret
      exact ⟨a', cap', rfl, unhide HW, hb⟩

end Go.Proofs.Ytngjakeofhmohaa

/- Walks: the document's Plain; headers in memory. -/
namespace Go.Proofs.Ytngjakeofhmohaa
set_option linter.unusedSimpArgs false
set_option linter.unusedVariables false
open Go.RowKit Go.Shelf

theorem Try.info68 : (Try.prog.info? 68).map (fun i => (i.zero, i.size, i.bytes)) = some (some (.agg #[.int .i64 0, .bool false, .int .i64 0]), 3, 24) := by kernel_rfl
theorem Try.info2 : (Try.prog.info? 2).map (fun i => (i.zero, i.size, i.bytes)) = some (some (.int .i64 0), 1, 8) := by kernel_rfl

theorem cell_three_at (w : World) (x y z : Value) (t : TypeId) (m : Nat) (hm : m = w.heap.size) : ∀ j u, [x, y, z][j]? = some u → (w.alloc (.cells #[x, y, z] t)).cell? ((⟨m, 0, none⟩ : Addr).add j) = some u := by
  subst hm
  intro j u h
  have hadd : (⟨w.heap.size, 0, none⟩ : Addr).add j = ⟨w.heap.size, j, none⟩ := by unfold Addr.add; split <;> simp_all
  rw [hadd]
  match j, h with
  | 0, h => simp at h; subst h; simp [go_sem]
  | 1, h => simp at h; subst h; simp [go_sem]
  | 2, h => simp at h; subst h; simp [go_sem]
  | j + 3, h => simp at h

/-- A header: how many fields, its mark, its age. -/
abbrev Hd := Int × Bool × Int
def hW (h : Hd) : Int := headW h.1 h.2.1 h.2.2
def cellsH (l : List Hd) : List Value := l.flatMap fun h => [.int .i64 h.1, .bool h.2.1, .int .i64 h.2.2]
theorem cellsH_snoc (l : List Hd) (h : Hd) : cellsH (l ++ [h]) = cellsH l ++ [.int .i64 h.1, .bool h.2.1, .int .i64 h.2.2] := by simp [cellsH]

theorem cellsH_get : ∀ (l : List Hd) (k : Nat) (h : Hd), l[k]? = some h → (cellsH l)[k * 3]? = some (.int .i64 h.1) ∧ (cellsH l)[k * 3 + 1]? = some (.bool h.2.1) ∧ (cellsH l)[k * 3 + 2]? = some (.int .i64 h.2.2)
  | [], _, _, h => by simp at h
  | x :: l, 0, v, h => by simp at h; subst h; simp [cellsH]
  | x :: l, k + 1, v, h => by
    have := cellsH_get l k v (by simpa using h)
    have e1 : (k + 1) * 3 = k * 3 + 1 + 1 + 1 := by omega
    rw [e1]
    simp only [cellsH, List.flatMap_cons, List.cons_append, List.nil_append, List.getElem?_cons_succ]
    exact this

/-- A slice of headers, below block B. -/
def Hdrs (B : Nat) (w : World) (a : Option Addr) (l : List Hd) : Prop :=
  l.length ≤ 9223372036854775807 ∧ (l ≠ [] → ∃ b off, a = some ⟨b, off, none⟩ ∧ b < B ∧ ∀ k h, l[k]? = some h → w.cell? ⟨b, off + k * 3, none⟩ = some (.int .i64 h.1) ∧ w.cell? ⟨b, off + k * 3 + 1, none⟩ = some (.bool h.2.1) ∧ w.cell? ⟨b, off + k * 3 + 2, none⟩ = some (.int .i64 h.2.2))

theorem Hdrs.below {B : Nat} {w w' : World} {a : Option Addr} {l : List Hd} (h : Hdrs B w a l) (hb : Below B w w') : Hdrs B w' a l := by
  refine ⟨h.1, fun hne => ?_⟩
  obtain ⟨b, off, rfl, hB, hc⟩ := h.2 hne
  refine ⟨b, off, rfl, hB, fun k v hk => ?_⟩
  rw [hb.cell (p := ⟨b, off + k * 3, none⟩) hB, hb.cell (p := ⟨b, off + k * 3 + 1, none⟩) hB, hb.cell (p := ⟨b, off + k * 3 + 2, none⟩) hB]
  exact hc k v hk

theorem Hdrs.mono {B B' : Nat} {w : World} {a : Option Addr} {l : List Hd} (h : Hdrs B w a l) (hb : B ≤ B') : Hdrs B' w a l := by
  refine ⟨h.1, fun hne => ?_⟩
  obtain ⟨b, off, rfl, hB, hc⟩ := h.2 hne
  exact ⟨b, off, rfl, by omega, hc⟩

theorem Hdrs.at {B : Nat} {w : World} {a : Option Addr} {l : List Hd} (h : Hdrs B w a l) {k : Nat} (hk : k < l.length) :
    ∃ b off n m e, a = some ⟨b, off, none⟩ ∧ b < B ∧ w.cell? ⟨b, off + k * 3, none⟩ = some (.int .i64 n) ∧ w.cell? ⟨b, off + k * 3 + 1, none⟩ = some (.bool m) ∧ w.cell? ⟨b, off + k * 3 + 2, none⟩ = some (.int .i64 e) ∧ Hid (l[k] = (n, m, e)) := by
  obtain ⟨b, off, rfl, hB, hc⟩ := h.2 (by intro e; subst e; simp at hk)
  obtain ⟨h1, h2, h3⟩ := hc k l[k] (by simp [hk])
  exact ⟨b, off, l[k].1, l[k].2.1, l[k].2.2, rfl, hB, h1, h2, h3, rfl⟩

theorem hdrs_of_owns {w : World} {base : Nat} {e : TypeId} {v : Value} {n : Nat} {l : List Hd} (h : w.ownsRow base e 3 v n (cellsH l)) (hn : n = l.length) (hs : n ≤ 9223372036854775807) :
    ∃ a cap, v = .slice a l.length cap ∧ Hdrs w.heap.size w a l := by
  obtain ⟨_, h2⟩ := h
  rcases h2 with ⟨rfl, h0⟩ | ⟨g, cap, cur, rfl, hb, hg, hc1, hc2, hc3, htake⟩
  · refine ⟨none, 0, by rw [← hn, h0], ⟨by omega, fun hne => ?_⟩⟩
    have : l = [] := List.eq_nil_of_length_eq_zero (by omega)
    exact absurd this hne
  · refine ⟨_, cap, by rw [hn], ⟨by omega, fun _ => ⟨g, 0, rfl, (Array.getElem?_eq_some_iff.1 hg).1, fun k v hk => ?_⟩⟩⟩
    obtain ⟨h1, h2, h3⟩ := cellsH_get l k v hk
    rw [← htake] at h1 h2 h3
    rw [List.getElem?_take] at h1 h2 h3
    have hcell : ∀ j u, (if j < n * 3 then cur.toList[j]? else none) = some u → w.cell? ⟨g, 0 + j, none⟩ = some u := by
      intro j u hj
      split at hj
      · rw [Nat.zero_add, cell_of_row w g j cur e (0, 0) hg]; simpa using hj
      · cases hj
    exact ⟨hcell _ _ h1, by have := hcell _ _ h2; simpa [Nat.add_assoc] using this, by have := hcell _ _ h3; simpa [Nat.add_assoc] using this⟩

/-- Headers of objects, not marked, of age 0. -/
def plainH (L : List (List V)) : List Hd := L.map fun o => ((o.length : Int), false, 0)
theorem plainH_len (L : List (List V)) : (plainH L).length = L.length := by simp [plainH]
theorem plainH_succ {L : List (List V)} {k : Nat} (h : k < L.length) : cellsH (plainH (L.take (k + 1))) = cellsH (plainH (L.take k)) ++ [.int .i64 (L[k].length : Int), .bool false, .int .i64 0] := by
  rw [List.take_succ_eq_append_getElem h]; simp only [plainH, List.map_append, List.map_cons, List.map_nil, cellsH_snoc]

end Go.Proofs.Ytngjakeofhmohaa

/- Walks: the document's Lay. -/
namespace Go.Proofs.Ytngjakeofhmohaa
set_option linter.unusedSimpArgs false
set_option linter.unusedVariables false
open Go.RowKit Go.Shelf

/-- The words of the first k objects, with headers. -/
def layHK (st : List Int) (H : List Hd) (L : List (List V)) (k : Nat) : List Int := joinW ((H.take k).map hW) (layFields st (L.take k))
def layHW (st : List Int) (H : List Hd) (L : List (List V)) : List Int := joinW (H.map hW) (layFields st L)

theorem layHK_succ (st : List Int) {H : List Hd} {L : List (List V)} {k : Nat} (hH : k < H.length) (h : k < L.length) : layHK st H L (k + 1) = layHK st H L k ++ ([hW H[k]] ++ L[k].map (packV st)) := by
  unfold layHK layFields
  rw [List.take_succ_eq_append_getElem h, List.take_succ_eq_append_getElem hH, List.map_append, List.map_append]
  exact joinW_snoc _ _ _ _ (by simp; omega)

theorem layHK_len (st : List Int) {H : List Hd} {L : List (List V)} (hl : H.length = L.length) (k : Nat) : (layHK st H L k).length = tot (L.take k) := by
  unfold layHK
  rw [joinW_len _ _ (by simp [layFields, hl])]
  unfold tot layFields
  rw [List.map_map]
  congr 1
  apply List.map_congr_left
  intro l _
  simp

/-- A row of words, whose slice lies in a box. -/
structure BoxW (W : World) (cb : Nat) (s : Value) (l : List Int) (r : Value) : Prop where
  c : W.cell? ⟨cb, 0, none⟩ = some s
  fz : W.frozen? ⟨cb, 0, none⟩ = false
  c1 : W.cell? ⟨cb, 1, none⟩ = some r
  row : W.ownsRow (cb + 1) 52 1 s l.length (wordsV l)

theorem BoxW.below {W W' : World} {cb : Nat} {s r : Value} {l : List Int} (h : BoxW W cb s l r) (hb : Below W.heap.size W W') : BoxW W' cb s l r := by
  have hlt := World.block_lt_of_cell? W _ h.c
  exact ⟨(hb.cell (p := ⟨cb, 0, none⟩) hlt).trans h.c, (hb.frozen (p := ⟨cb, 0, none⟩) hlt).trans h.fz, (hb.cell (p := ⟨cb, 1, none⟩) hlt).trans h.c1, ownsRow_below h.row hb⟩

theorem BoxW.put {W W1 w1 : World} {cb : Nat} {s v1 r : Value} {l : List Int} {x : Int} (h : BoxW W cb s l r) (h1 : Below W.heap.size W W1) (hg : W1.grownBy w1 s.ownBlock) (hrow : w1.ownsRow (cb + 1) 52 1 v1 (l.length + 1) (wordsV l ++ [.int .u64 x])) :
    BoxW (w1.setCell ⟨cb, 0, none⟩ v1) cb v1 (l ++ [x]) r ∧ Below cb W (w1.setCell ⟨cb, 0, none⟩ v1) := by
  have hlt : cb < W.heap.size := World.block_lt_of_cell? W _ h.c
  have hs1 := h1.size
  have hcb : w1.heap[cb]? = W.heap[cb]? := (hg.block cb (by omega) (fun e => by have := (h.row.lt _ e.symm).1; omega)).trans (h1.block cb hlt)
  have hc := (World.cell?_of_block (a := ⟨cb, 0, none⟩) hcb).trans h.c
  refine ⟨⟨World.cell?_setCell_same' _ _ _ (by rw [hc]; rfl), ?_, ?_, ?_⟩, ?_⟩
  · rw [World.frozen?_setCell]; exact (World.frozen?_of_block (a := ⟨cb, 0, none⟩) hcb).trans h.fz
  · rw [World.cell?_setCell_other _ _ _ _ (by simp)]
    exact (World.cell?_of_block (a := ⟨cb, 1, none⟩) hcb).trans h.c1
  · rw [wordsV_snoc, List.length_append]; exact ownsRow_setCell_below hrow (by simp) _
  · exact ((h1.mono (B' := cb) (by omega)).grown hg (by omega) (fun q e => by have := (h.row.lt q e).1; omega)).setCell (p := ⟨cb, 0, none⟩) (Nat.le_refl _) _

theorem WdsN.setCell {x : Option Nat} {W : World} {a : Option Addr} {l : List Int} (h : WdsN x W a l) {p : Addr} (hp : ∀ b off, a = some ⟨b, off, none⟩ → p.block < b) (u : Value) : WdsN x (W.setCell p u) a l := by
  have hs : (W.setCell p u).heap.size = W.heap.size := by simp [World.setCell]
  refine ⟨⟨h.1.1, fun hne => ?_⟩, h.2⟩
  obtain ⟨b, off, rfl, hB, hc⟩ := h.1.2 hne
  have h3 := hp b off rfl
  refine ⟨b, off, rfl, by rw [hs]; exact hB, fun k v hk => ?_⟩
  exact (World.cell?_of_block (a := ⟨b, off + k, none⟩) (Below.heap_setCell W p u b (by omega))).trans (hc k v hk)

def RLayRes (st : List Int) (H : List Hd) (g : Gr) (e : Ending) (W : World) : Prop :=
  ∃ aw cw ar cr, e = .returned (.agg #[.slice aw (layHW st H g.objs).length cw, .slice ar (g.roots.map (packV st)).length cr]) ∧ Wds W.heap.size W aw (layHW st H g.objs) ∧ Wds W.heap.size W ar (g.roots.map (packV st))

set_option maxRecDepth 100000 in
set_option maxHeartbeats 8000000 in
theorem rlay_c (ao ar ah : Option Addr) (co cr ch : Nat) (g : Gr) (H : List Hd) (B : Nat) (w : World) (ho : Objs B w ao g.objs) (hr : Vals B w ar g.roots) (hH : Hdrs B w ah H) (hHl : H.length = g.objs.length) (hB : B ≤ w.heap.size)
    (hn : g.objs.length ≤ 256) (h4 : ∀ l ∈ g.objs, l.length ≤ 4) (h8 : g.roots.length ≤ 8) (hrr : ∀ v ∈ g.roots, v.1 = true → 0 ≤ v.2 ∧ v.2 < g.objs.length) (hro : ∀ l ∈ g.objs, ∀ v ∈ l, v.1 = true → 0 ≤ v.2 ∧ v.2 < g.objs.length) (hnr : NumOk g.roots) (hno : ∀ l ∈ g.objs, NumOk l) :
    Calls Try.prog 29 #[.agg #[.slice ao g.objs.length co, .slice ar g.roots.length cr], .slice ah H.length ch] w fun e w' => RLayRes (stF 0 g.objs) H g e w' ∧ Below w.heap.size w w' := by
  obtain ⟨i0, hi, hz0, hz1, hz2⟩ := info_parts Try.info52
  obtain ⟨i2, hi2, hy0, hy1, hy2⟩ := info_parts Try.info2
  have htL := tot_le5 _ h4
  have HHl := hide hHl
  have hH1 : H.length ≤ g.objs.length := by omega
  have hH2 : g.objs.length ≤ H.length := by omega
  clear hHl
  obtain ⟨W4, hW4⟩ : ∃ W4, (w.alloc (.cells #[.slice ao g.objs.length co, .slice ar g.roots.length cr] 43)).alloc (.cells #[.slice none 0 0, .slice none 0 0] 24) = W4 := ⟨_, rfl⟩
  have hbA : Below w.heap.size w W4 := by rw [← hW4]; exact ((Below.refl w.heap.size w).alloc (Nat.le_refl _) _).alloc (by simp) _
  have hs4 : w.heap.size + 1 < W4.heap.size := by rw [← hW4]; simp
  have q0 : W4.cell? ⟨w.heap.size + 1, 0, none⟩ = some (.slice none 0 0) := by rw [← hW4]; simp [go_sem]
  have q1 : W4.cell? ⟨w.heap.size + 1, 1, none⟩ = some (.slice none 0 0) := by rw [← hW4]; simp [go_sem]
  have f0 : W4.frozen? ⟨w.heap.size + 1, 0, none⟩ = false := by rw [← hW4]; simp [go_sem]
  have f1 : W4.frozen? ⟨w.heap.size + 1, 1, none⟩ = false := by rw [← hW4]; simp [go_sem]
  have g0 : W4.cell? ⟨w.heap.size, 0, none⟩ = some (.slice ao g.objs.length co) := by rw [← hW4]; simp [go_sem]
  have g1 : W4.cell? ⟨w.heap.size, 1, none⟩ = some (.slice ar g.roots.length cr) := by rw [← hW4]; simp [go_sem]
  go_enter Try.func29, Try.ntmps29
  go_wp2
  clear hW4
  go_loopw [5, 6, 19] (fun s nx i wr => ∃ k : Nat, k ≤ g.objs.length ∧ i = .int .i64 k ∧ nx = .int .i64 (tot (g.objs.take k) : Nat) ∧ wr.ownsRow W4.heap.size 2 1 s k (intsV (stF 0 (g.objs.take k))) ∧ Below W4.heap.size W4 wr) (fun _ _ i _ => g.objs.length - (intOf i).toNat)
  case atStart => exact ⟨0, Nat.zero_le _, rfl, rfl, by simpa [intsV, stF] using World.ownsRow_nil _ _ _ _, Below.refl _ _⟩
  case round =>
    obtain ⟨k, hk, rfl, rfl, hown, hb⟩ := hrel
    have hsz := hb.size
    have hbwr : Below w.heap.size w wr := hbA.trans (hb.mono (by omega))
    by_cases hlt : k < g.objs.length
    · obtain ⟨b, off, ai, ci, rfl, hbB, hcb, _⟩ := (ho.below (hbwr.mono hB)).at hlt
      have hf4 := h4 _ (List.getElem_mem hlt)
      have HN := hide (tot_take_succ hlt)
      have hle := tot_take_le g.objs (k + 1)
      rw [unhide HN] at hle
      have HS : Hid (intsV (stF 0 (g.objs.take (k + 1))) = intsV (stF 0 (g.objs.take k)) ++ [.int .i64 ((tot (g.objs.take k) : Nat) : Int)]) := by
        show _ = _
        rw [List.take_succ_eq_append_getElem hlt, stF_snoc, intsV_snoc, Nat.zero_add]
      generalize g.objs[k].length = n at *
      generalize tot (g.objs.take k) = p at *
      go_wp2_with (at_builtin; go_must (refine wpList_append_own _ rfl _ _ 88 rfl W4.heap.size 2 i2 _ 1 8 Try.underlying88 hi2 hy0 hy1 hy2 rfl (by decide) _ _ _ rfl ((hown.alloc _).alloc _) ⟨wr.heap.size + 1, 0, none⟩ 1 1 [.int .i64 (p : Int)] rfl rfl (cell_one_at _ _ _ _ (by simp)) (by simp [Value.oneCell']) (by simp only [maxLen]; omega) (by omega) (by simp; omega) ?_); go_must (intro v' w1 hown' hgrow _; have hc6 := hgrow.cell (a := ⟨wr.heap.size, 0, none⟩) (v := .slice ai n ci) (by simp [go_sem]) (fun e => by have := (hown.lt _ e.symm).2; simp at this)))
      go_roundw
      case rel => exact ⟨k + 1, by omega, by go_num, by rw [unhide HN]; go_num, by rw [unhide HS]; exact hown', ((hb.alloc hsz _).alloc (by simp; omega) _).grown hgrow (by simp; omega) (fun q e => (hown.lt q e).1)⟩
      case measure => simp [intOf]; omega
    · obtain rfl : k = g.objs.length := by omega
      rw [List.take_length] at hown
      obtain ⟨sa, sc, hv, hI, hr9⟩ := ints_of_owns hown (stF_len _ 0).symm (by omega)
      clear hr9 hown
      subst hv
      have hstl := stF_len g.objs 0
      have hstm : ∀ x ∈ stF 0 g.objs, 0 ≤ x ∧ x ≤ 9223372036854775807 := fun x hx => by have := stF_mem g.objs 0 x hx; omega
      replace q0 := (hb.cell (p := ⟨w.heap.size + 1, 0, none⟩) (by simp; omega)).trans q0
      replace q1 := (hb.cell (p := ⟨w.heap.size + 1, 1, none⟩) (by simp; omega)).trans q1
      replace f0 := (hb.frozen (p := ⟨w.heap.size + 1, 0, none⟩) (by simp; omega)).trans f0
      replace f1 := (hb.frozen (p := ⟨w.heap.size + 1, 1, none⟩) (by simp; omega)).trans f1
      replace g0 := (hb.cell (p := ⟨w.heap.size, 0, none⟩) (by simp; omega)).trans g0
      replace g1 := (hb.cell (p := ⟨w.heap.size, 1, none⟩) (by simp; omega)).trans g1
      have Hc1 := hide (rpacked_c ar sa cr sc g.roots (stF 0 g.objs) wr.heap.size wr ((hr.below (hbwr.mono hB)).mono (by omega)) hI (Nat.le_refl _) (by omega) (by rw [hstl]; exact hrr) hstm hnr.wide (by omega))
      have HcP : Hid (∀ W (l : List V) a c, l ∈ g.objs → Below wr.heap.size wr W → Vals B W a l → Calls Try.prog 44 #[.slice a l.length c, .slice sa (stF 0 g.objs).length sc] W fun e w' => ∃ a' cap', e = .returned (.slice a' (l.map (packV (stF 0 g.objs))).length cap') ∧ WdsF W.heap.size w' a' (l.map (packV (stF 0 g.objs))) ∧ Below W.heap.size W w') := fun W l a c hl hb2 hv =>
        rpacked_c a sa c sc l (stF 0 g.objs) W.heap.size W (hv.mono (by have := hb2.size; omega)) ((hI.below hb2).mono hb2.size) (Nat.le_refl _) (by have := h4 l hl; omega) (by rw [hstl]; exact hro l hl) hstm (hno l hl).wide (by omega)
      have hbR := hbwr
      clear hI hstm hbA hbwr hb hstl
      generalize hS : stF 0 g.objs = S at *
      have HS := hide hS
      clear hS
      go_wp2_with fail
      refine (unhide Hc1).mono ?_
      rintro e w6 ⟨ar6, cr6, he, hV6, hb6⟩
      subst he
      clear Hc1
      have hs6 := hb6.size
      have hbw6 : Below w.heap.size w w6 := hbR.trans (hb6.mono (by omega))
      replace q0 := (hb6.cell (p := ⟨w.heap.size + 1, 0, none⟩) (by simp; omega)).trans q0
      replace q1 := (hb6.cell (p := ⟨w.heap.size + 1, 1, none⟩) (by simp; omega)).trans q1
      replace f0 := (hb6.frozen (p := ⟨w.heap.size + 1, 0, none⟩) (by simp; omega)).trans f0
      replace f1 := (hb6.frozen (p := ⟨w.heap.size + 1, 1, none⟩) (by simp; omega)).trans f1
      replace g0 := (hb6.cell (p := ⟨w.heap.size, 0, none⟩) (by simp; omega)).trans g0
      have HV6 := hide hV6
      have hlt6 : w.heap.size < w6.heap.size := by omega
      have hlt6' : w.heap.size + 1 < w6.heap.size := by omega
      have Hrl : Hid ((g.roots.map (packV S)).length = g.roots.length) := by show _ = _; simp
      have HcP6 : Hid (∀ W (l : List V) a c, l ∈ g.objs → Below w6.heap.size w6 W → Vals B W a l → Calls Try.prog 44 #[.slice a l.length c, .slice sa S.length sc] W fun e w' => ∃ a' cap', e = .returned (.slice a' (l.map (packV S)).length cap') ∧ WdsF W.heap.size w' a' (l.map (packV S)) ∧ Below W.heap.size W w') := fun W l a c hl hb2 hv => unhide HcP W l a c hl (hb6.trans (hb2.mono hs6)) hv
      rw [unhide Hrl]
      clear hV6 g1 hb6 HcP
      go_wp2
      go_loopw [42] (fun i wr => ∃ (k : Nat) (x : Value), k ≤ g.objs.length ∧ i = .int .i64 k ∧ Below w6.heap.size w6 wr ∧ BoxW wr w6.heap.size x (layHK S H g.objs k) (.slice ar6 g.roots.length cr6)) (fun i _ => g.objs.length - (intOf i).toNat)
      case atStart => exact ⟨0, .slice none 0 0, Nat.zero_le _, rfl, (Below.refl _ _).alloc (Nat.le_refl _) _, ⟨by simp [go_sem], by simp [go_sem], by simp [go_sem], by simpa [layHK, layFields, joinW, wordsV] using World.ownsRow_nil _ _ _ _⟩⟩
      case round =>
        obtain ⟨k, x, hk, rfl, hb, hbx⟩ := hrel
        have hsz := hb.size
        have hbwr : Below w.heap.size w wr := hbw6.trans (hb.mono (by omega))
        have hq : w6.heap.size < wr.heap.size := World.block_lt_of_cell? wr _ hbx.c
        by_cases hlt : k < g.objs.length
        · have hltH : k < H.length := by omega
          obtain ⟨b, off, ai, ci, rfl, hbB, hcb, hva⟩ := (ho.below (hbwr.mono hB)).at hlt
          obtain ⟨b2, off2, hn2, hm2, he2, rfl, hbB2, hh1, hh2, hh3, HhH⟩ := (hH.below (hbwr.mono hB)).at hltH
          have hmem := List.getElem_mem hlt
          have hf4 := h4 _ hmem
          have HK := hide (layHK_succ S hltH hlt)
          have hLk := layHK_len S (unhide HHl) k
          have hle := tot_take_le g.objs k
          have HhW : Hid (hW H[k] = headW hn2 hm2 he2) := by show _ = _; rw [HhH.out]; rfl
          have HcP2 := hide (fun W a c hb hv => unhide HcP6 W _ a c hmem hb hv)
          have HvO : Hid (Vals B w ai g.objs[k]) := hide (hva.below' (hbwr.mono hB))
          have hkH : (k : Int) < (H.length : Int) := by omega
          rw [unhide HhW] at HK
          generalize g.objs[k] = o at *
          generalize layHK S H g.objs k = pre at *
          have hpl : pre.length ≤ 1280 := by omega
          clear hLk hle hmem HhW HhH hva
          have hb2w : b2 < wr.heap.size := by omega
          have HcH := hide (rhead_c hn2 he2 hm2 (wr.alloc (.cells #[.slice ai o.length ci] 79)))
          go_wp2_with fail
          refine (unhide HcH).mono ?_
          rintro e w8 ⟨he, hb8⟩
          subst he
          clear HcH hh1 hh2 hh3
          simp only [World.size_alloc] at hb8
          have hs8 := hb8.size
          simp only [World.size_alloc] at hs8
          have hb8' : Below wr.heap.size wr w8 := ((Below.refl _ _).alloc (Nat.le_refl _) _).trans (hb8.mono (by omega))
          have bo : w8.cell? ⟨wr.heap.size, 0, none⟩ = some (.slice ai o.length ci) := by rw [hb8.cell (p := ⟨wr.heap.size, 0, none⟩) (by simp)]; simp [go_sem]
          have hbx8 := hbx.below hb8'
          have c08 := hbx8.c
          have cf08 := hbx8.fz
          have hrow8 := hbx8.row
          obtain ⟨ca, cc, rfl⟩ := ownsRow_slice hrow8
          have hncb : Value.ownBlock (.slice ca pre.length cc) ≠ some w6.heap.size := fun e => by have := (hrow8.lt _ e).1; omega
          have hncw : Value.ownBlock (.slice ca pre.length cc) ≠ some wr.heap.size := fun e => by have := (hbx.row.lt _ e).2; omega
          generalize headW hn2 hm2 he2 = hw at *
          generalize headE hn2 he2 = hee at *
          have hq8 : w6.heap.size < w8.heap.size := by omega
          have hqw8 : wr.heap.size < w8.heap.size := by omega
          have hb8a : Below w8.heap.size w8 (w8.alloc (.cells #[.int .u64 hw] 52)) := (Below.refl _ _).alloc (Nat.le_refl _) _
          go_wp2_with (first
            | (at_builtin; go_must (refine wpList_append_own_at _ rfl _ _ 22 rfl (w6.heap.size + 1) 52 i0 _ 1 8 Try.underlying22 hi hz0 hz1 hz2 rfl (by decide) _ _ _ rfl (hrow8.alloc _) ⟨w8.heap.size, 0, none⟩ 1 1 [.int .u64 hw] rfl rfl (cell_one_at _ _ _ _ (by simp)) (by simp [Value.oneCell']) (by simp only [maxLen]; omega) (by omega) (by simp; omega) ?_); go_must (intro v1 w9 hrow9 hg9 _ hat9; obtain ⟨g9, cap9, hv9⟩ := ownsRow_succ hrow9; subst hv9; have hs9 := hg9.size; simp only [World.size_alloc] at hs9; have c09 := hg9.cell ((World.grownBy_alloc w8 (.cells #[.int .u64 hw] 52) none).cell c08 (by simp)) (fun e => hncb e.symm); have cf9 := (World.frozen?_of_block (a := ⟨w6.heap.size, 0, none⟩) (hg9.block w6.heap.size (by simp; omega) (fun e => hncb e.symm))).trans ((World.frozen?_of_block (a := ⟨w6.heap.size, 0, none⟩) (Below.heap_alloc w8 _ _ hq8)).trans cf08); have bo9 := hg9.cell ((World.grownBy_alloc w8 (.cells #[.int .u64 hw] 52) none).cell bo (by simp)) (fun e => hncw e.symm)))
            | fail)
          obtain ⟨r1, r2⟩ := hbx8.put hb8a hg9 hrow9
          obtain ⟨X, hX⟩ : ∃ X, w9.setCell ⟨w6.heap.size, 0, none⟩ (.slice (some ⟨g9, 0, none⟩) (pre.length + 1) cap9) = X := ⟨_, rfl⟩
          rw [hX] at r1 r2
          rw [hX]
          have hbX : Below w6.heap.size w6 X := (hb.trans (hb8'.mono (by omega))).trans r2
          have hqo : wr.heap.size < X.heap.size := by have := r2.size; omega
          have hbwX : Below w.heap.size w X := hbw6.trans (hbX.mono (by omega))
          have Hc3 := hide (unhide HcP2 X ai ci hbX ((unhide HvO).below (hbwX.mono hB)))
          have HR1 := hide r1
          have hol : (o.map (packV S)).length ≤ 4 := by simp; exact hf4
          generalize o.map (packV S) = pv at *
          clear hX bo bo9 c08 cf08 c09 cf9 hrow8 hrow9 hg9 hat9 hb8 hb8' hb8a hbx hbx8 r1 HcP2 HvO
          refine (unhide Hc3).mono ?_
          rintro e w10 ⟨a10, c10, he, hW10, hb10⟩
          subst he
          have hs10 := hb10.size
          have hbx10 := (unhide HR1).below hb10
          have HN10 : Hid (WdsN (some g9) w10 a10 pv) := by
            refine ⟨hW10.1, fun _ b off ha e => ?_⟩
            have h1 := hW10.2 b off ha
            have h2 := (unhide HR1).row.lt g9 rfl
            injection e with e
            omega
          have Hnew : Hid (∀ b off, a10 = some ⟨b, off, none⟩ → w6.heap.size < b) := fun b off ha => by have := hW10.2 b off ha; omega
          have HB10 := hide hbx10
          clear Hc3 hW10 HR1 hbx10
          go_wp2
          go_loopw [66] (fun i wi => ∃ (j : Nat) (y : Value), j ≤ pv.length ∧ i = .int .i64 j ∧ BoxW wi w6.heap.size y (pre ++ [hw] ++ pv.take j) (.slice ar6 g.roots.length cr6) ∧ Below w6.heap.size w6 wi ∧ Hid (WdsN y.ownBlock wi a10 pv)) (fun i _ => pv.length - (intOf i).toNat)
          case atStart => exact ⟨0, .slice (some ⟨g9, 0, none⟩) (pre.length + 1) cap9, Nat.zero_le _, rfl, by simpa using unhide HB10, hbX.trans (hb10.mono (by omega)), HN10⟩
          case round =>
            clear HN10 HB10 hb10 hs10 hs9 hs8
            obtain ⟨j, y, hj, rfl, hbx, hb2, HN⟩ := hrel
            have hsz2 := hb2.size
            have hq2 : w6.heap.size < wr.heap.size := World.block_lt_of_cell? wr _ hbx.c
            by_cases hlt2 : j < pv.length
            · obtain ⟨b4, off4, rfl, hbB4, hc4⟩ := (unhide HN).1.at hlt2
              have HT : Hid (pre ++ [hw] ++ pv.take (j + 1) = (pre ++ [hw] ++ pv.take j) ++ [pv[j]]) := by show _ = _; rw [List.take_succ_eq_append_getElem hlt2, ← List.append_assoc]
              have hpl2 : (pre ++ [hw] ++ pv.take j).length ≤ 1285 := by simp; omega
              have HN2 := hide ((unhide HN).below ((Below.refl _ _).alloc (Nat.le_refl _) (.cells #[.int .u64 pv[j]] 52)))
              generalize pv[j] = z at *
              generalize pre ++ [hw] ++ pv.take j = pre2 at *
              have c08 := hbx.c
              have cf08 := hbx.fz
              have hrow8 := hbx.row
              obtain ⟨ca2, cc2, rfl⟩ := ownsRow_slice hrow8
              have hncb2 : Value.ownBlock (.slice ca2 pre2.length cc2) ≠ some w6.heap.size := fun e => by have := (hrow8.lt _ e).1; omega
              have Hbx := hide hbx
              clear hbx
              go_wp2_with (at_builtin; go_must (refine wpList_append_own_at _ rfl _ _ 22 rfl (w6.heap.size + 1) 52 i0 _ 1 8 Try.underlying22 hi hz0 hz1 hz2 rfl (by decide) _ _ _ rfl (hrow8.alloc _) ⟨wr.heap.size, 0, none⟩ 1 1 [.int .u64 z] rfl rfl (cell_one_at _ _ _ _ (by simp)) (by simp [Value.oneCell']) (by simp only [maxLen]; omega) (by omega) (by simp; omega) ?_); go_must (intro v1 w9 hrow9 hg9 _ hat9; obtain ⟨g9', cap9', hv9⟩ := ownsRow_succ hrow9; subst hv9; have hs9 := hg9.size; simp only [World.size_alloc] at hs9; have c09 := hg9.cell ((World.grownBy_alloc wr (.cells #[.int .u64 z] 52) none).cell c08 (by simp)) (fun e => hncb2 e.symm); have cf9 := (World.frozen?_of_block (a := ⟨w6.heap.size, 0, none⟩) (hg9.block w6.heap.size (by simp; omega) (fun e => hncb2 e.symm))).trans ((World.frozen?_of_block (a := ⟨w6.heap.size, 0, none⟩) (Below.heap_alloc wr _ _ hq2)).trans cf08)))
              go_roundw
              case rel =>
                obtain ⟨r1, r2⟩ := (unhide Hbx).put ((Below.refl _ _).alloc (Nat.le_refl _) _) hg9 hrow9
                exact ⟨j + 1, _, by omega, by go_num, by rw [unhide HT]; exact r1, hb2.trans r2, hide (((unhide HN2).append hg9 hat9).setCell (p := ⟨w6.heap.size, 0, none⟩) (unhide Hnew) _)⟩
              case measure => simp [intOf]; omega
            · obtain rfl : j = pv.length := by omega
              rw [List.take_length] at hbx
              go_wp2
              go_roundw
              case rel => exact ⟨k + 1, y, by omega, by go_num, hb2, by rw [unhide HK, ← List.append_assoc]; exact hbx⟩
              case measure => simp [intOf]; omega
        · obtain rfl : k = g.objs.length := by omega
          have hall : layHK S H g.objs g.objs.length = layHW S H g.objs := by unfold layHK layHW; rw [List.take_length, ← unhide HHl, List.take_length]
          have hlen : (layHW S H g.objs).length ≤ 1280 := by rw [← hall, layHK_len S (unhide HHl)]; have := tot_take_le g.objs g.objs.length; omega
          rw [hall] at hbx
          have c0 := hbx.c
          have c1 := hbx.c1
          obtain ⟨va', vc', hv, hWF, _⟩ := wordsF_of_owns hbx.row rfl (by omega)
          subst hv
          have HWF := hide hWF
          have HRF := hide ((unhide HV6).below hb)
          clear hWF hbx hall
          replace q0 := (hb.cell (p := ⟨w.heap.size + 1, 0, none⟩) (by simp; omega)).trans q0
          replace q1 := (hb.cell (p := ⟨w.heap.size + 1, 1, none⟩) (by simp; omega)).trans q1
          replace f0 := (hb.frozen (p := ⟨w.heap.size + 1, 0, none⟩) (by simp; omega)).trans f0
          replace f1 := (hb.frozen (p := ⟨w.heap.size + 1, 1, none⟩) (by simp; omega)).trans f1
          generalize hLW : layHW S H g.objs = LW at *
          have HLW := hide hLW
          clear hLW
          go_wp2
          refine bodyPost_ret (v := .agg #[.slice va' LW.length vc', .slice ar6 g.roots.length cr6]) (by simp [results, Try.results29, go_sem, q0, q1, f0, f1]) rfl ?_
          have e1 : layHW (stF 0 g.objs) H g.objs = LW := by rw [unhide HS]; exact unhide HLW
          refine ⟨⟨va', vc', ar6, cr6, by rw [e1, unhide HS, unhide Hrl], ?_, ?_⟩, (hbwr.setCell (p := ⟨w.heap.size + 1, 0, none⟩) (by simp) _).setCell (p := ⟨w.heap.size + 1, 1, none⟩) (by simp) _⟩
          · rw [e1]
            exact (((unhide HWF).setCell (p := ⟨w.heap.size + 1, 0, none⟩) (by simp; omega) _).setCell (p := ⟨w.heap.size + 1, 1, none⟩) (by simp; omega) _).1
          · rw [unhide HS]
            exact (((unhide HRF).setCell (p := ⟨w.heap.size + 1, 0, none⟩) (by simp; omega) _).setCell (p := ⟨w.heap.size + 1, 1, none⟩) (by simp; omega) _).1

end Go.Proofs.Ytngjakeofhmohaa

/- Walks: the document's Heads. -/
namespace Go.Proofs.Ytngjakeofhmohaa
set_option linter.unusedSimpArgs false
set_option linter.unusedVariables false
open Go.RowKit Go.Shelf

/-- The headers of words. -/
def headsH (hs : List Int) : List Hd := hs.map fun x => (uhL x, uhM x, uhA x)
theorem headsH_len (hs : List Int) : (headsH hs).length = hs.length := by simp [headsH]
theorem headsH_succ {hs : List Int} {k : Nat} {x : Int} (hx : hs[k]? = some x) : headsH (hs.take (k + 1)) = headsH (hs.take k) ++ [(uhL x, uhM x, uhA x)] := by
  have hk := (List.getElem?_eq_some_iff.1 hx).1
  rw [List.take_succ_eq_append_getElem hk, (List.getElem?_eq_some_iff.1 hx).2]
  simp [headsH]

theorem owns_mono {w : World} {base base' : Nat} {e : TypeId} {size : Nat} {v : Value} {n : Nat} {xs : List Value} (h : w.ownsRow base e size v n xs) (hb : base' ≤ base) : w.ownsRow base' e size v n xs := by
  refine ⟨h.1, ?_⟩
  rcases h.2 with h2 | ⟨g, cap, cur, h1, h2, h3⟩
  · exact .inl h2
  · exact .inr ⟨g, cap, cur, h1, by omega, h3⟩

set_option maxRecDepth 100000 in
set_option maxHeartbeats 2000000 in
theorem heads_c (aw ar : Option Addr) (cw nr cr : Nat) (ws : List Int) (hs : List Int) (fs : List (List Int)) (B : Nat) (w : World) (hW : Wds B w aw ws) (hUW : U64 ws) (hB : B ≤ w.heap.size) (hF : Fit hs fs) (hws : ws = joinW hs fs) (h256 : ws.length ≤ 256) :
    Calls Try.prog 28 #[.agg #[.slice aw ws.length cw, .slice ar nr cr]] w fun e w' => (∃ v, e = .returned v ∧ w'.ownsRow w.heap.size 68 3 v hs.length (cellsH (headsH hs))) ∧ Below w.heap.size w w' := by
  obtain ⟨i0, hi0, hz0, hz1, hz2⟩ := info_parts Try.info68
  have hsp : splitR ws = some fs := by rw [hws]; exact fit_split hF
  have htot : tot fs = ws.length := by rw [hws, joinW_len _ _ hF.len]
  obtain ⟨W1, hW1⟩ : ∃ W1, w.alloc (.cells #[.slice aw ws.length cw, .slice ar nr cr] 24) = W1 := ⟨_, rfl⟩
  have hb1 : Below w.heap.size w W1 := by rw [← hW1]; exact (Below.refl w.heap.size w).alloc (Nat.le_refl _) _
  have hs1 : w.heap.size < W1.heap.size := by rw [← hW1]; simp
  have g0 : W1.cell? ⟨w.heap.size, 0, none⟩ = some (.slice aw ws.length cw) := by rw [← hW1]; simp [go_sem]
  have Hc1 := hide (rstarts_c aw cw ws B W1 (hW.below (hb1.mono hB)) hUW (by omega) h256)
  have Hw : Hid (∀ k x, hs[k]? = some x → ws[tot (fs.take k)]? = some x) := fun k x hx => by
    have hk : k < fs.length := by have := (List.getElem?_eq_some_iff.1 hx).1; have := hF.len; omega
    rw [hws, joinW_get _ _ _ hF.len hk]; exact hx
  have Hat : Hid (∀ k, k < fs.length → ∃ x, hs[k]? = some x ∧ unheadOk x = true ∧ wlen x = (fs.getD k []).length ∧ 0 ≤ x ∧ x < 18446744073709551616) := fun k hk => by
    obtain ⟨x, h1, h2, h3, h4⟩ := fit_at hF hk
    exact ⟨x, h1, h2, by rw [List.getD_eq_getElem?_getD, List.getElem?_eq_getElem hk]; exact h3, h4⟩
  have hlen : hs.length ≤ fs.length := by have := hF.len; omega
  have hlen' : fs.length ≤ hs.length := by have := hF.len; omega
  have htl := tot_len fs
  have Hsp := hide hsp
  have htw : tot fs ≤ ws.length := by omega
  clear hF hws hsp htot
  go_enter Try.func28, Try.ntmps28
  go_wp2_with fail
  refine (unhide Hc1).mono ?_
  rintro e w2 ⟨hres, hb2⟩
  obtain ⟨fs', sa, sc, hfs', he, hI⟩ := hres.resolve_left (fun h => by have := unhide Hsp; rw [h.1] at this; cases this)
  obtain rfl : fs' = fs := by have := unhide Hsp; rw [hfs'] at this; injection this
  subst he
  have hs2 := hb2.size
  have hbw2 : Below w.heap.size w w2 := hb1.trans (hb2.mono (by omega))
  replace g0 := (hb2.cell (p := ⟨w.heap.size, 0, none⟩) hs1).trans g0
  have hl2 : w.heap.size < w2.heap.size := by omega
  have HI := hide hI
  have HW := hide (hW.below (hbw2.mono hB))
  have hst : (stF 0 fs').length = fs'.length := stF_len fs' 0
  have hst1 : (stF 0 fs').length ≤ fs'.length := by omega
  have hst2 : fs'.length ≤ (stF 0 fs').length := by omega
  have Hsg := hide (fun k hk => stF_get fs' 0 k hk)
  clear hW1 Hc1 hres hfs' hI hb1 hb2 hst hW
  go_wp2
  go_loopw [5, 18] (fun s i wr => ∃ k : Nat, k ≤ fs'.length ∧ i = .int .i64 k ∧ wr.ownsRow w2.heap.size 68 3 s k (cellsH (headsH (hs.take k))) ∧ Below w2.heap.size w2 wr) (fun _ i _ => fs'.length - (intOf i).toNat)
  case atStart => exact ⟨0, Nat.zero_le _, rfl, by simpa [cellsH, headsH] using World.ownsRow_nil _ _ _ _, Below.refl _ _⟩
  case round =>
    obtain ⟨k, hk, rfl, hown, hb⟩ := hrel
    have hsz := hb.size
    have g0r := (hb.cell (p := ⟨w.heap.size, 0, none⟩) hl2).trans g0
    have hlr : w.heap.size < wr.heap.size := by omega
    by_cases hlt : k < fs'.length
    · obtain ⟨x, hx, hx1, hx2, hx3, hx4⟩ := unhide Hat k hlt
      have hltS : k < (stF 0 fs').length := by omega
      obtain ⟨b1, o1, rfl, hB1, hc1⟩ := ((unhide HI).below hb).at hltS
      have h1 := unhide Hsg k hlt
      rw [List.getElem?_eq_getElem hltS, Option.some.injEq, Nat.zero_add] at h1
      rw [h1] at hc1
      have hwx := unhide Hw k x hx
      have hpl : tot (fs'.take k) < ws.length := (List.getElem?_eq_some_iff.1 hwx).1
      obtain ⟨b2, o2, rfl, hB2, hc2⟩ := ((unhide HW).below (hb.mono (by omega))).at hpl
      rw [(List.getElem?_eq_some_iff.1 hwx).2] at hc2
      have HS := hide (headsH_succ hx)
      have hkI : (k : Int) < ((stF 0 fs').length : Int) := by omega
      have hpI : ((tot (fs'.take k) : Nat) : Int) < (ws.length : Int) := by omega
      have hq1 : b1 < wr.heap.size := by omega
      have hq2 : b2 < wr.heap.size := by omega
      clear h1 hwx hx hx2
      generalize tot (fs'.take k) = q at *
      generalize (stF 0 fs').length = sl at *
      go_wp2_with (first
        | (go_at_call 35; go_must (refine (runhead_c x _ hx3 hx4).mono ?_); go_must (rintro e w3 ⟨he, hb3⟩; subst he; have hs3 := hb3.size; have hown3 := ownsRow_below hown hb3))
        | (at_builtin; go_must (refine wpList_append_own _ rfl _ _ 65 rfl w2.heap.size 68 i0 _ 3 24 Try.underlying65 hi0 hz0 hz1 hz2 rfl (by decide) _ _ _ rfl ((hown3.alloc _).alloc _) ⟨w3.heap.size + 1, 0, none⟩ 1 1 [.int .i64 (uhL x), .bool (uhM x), .int .i64 (uhA x)] rfl rfl (cell_three_at _ _ _ _ _ _ (by simp)) (by simp [Value.oneCell']) (by simp only [maxLen]; omega) (by omega) (by simp; omega) ?_); intro v' w1 hown' hgrow _))
      go_roundw
      case rel => exact ⟨k + 1, by omega, by go_num, by rw [unhide HS, cellsH_snoc]; exact hown', (((hb.trans (hb3.mono hsz)).alloc (by omega) _).alloc (by simp; omega) _).grown hgrow (by simp; omega) (fun q e => (hown3.lt q e).1)⟩
      case measure => simp [intOf]; omega
    · obtain rfl : k = fs'.length := by omega
      have hkI : ¬ ((fs'.length : Int) < ((stF 0 fs').length : Int)) := by omega
      have Hown : Hid (wr.ownsRow w.heap.size 68 3 u5 fs'.length (cellsH (headsH hs))) := by
        have := owns_mono (base' := w.heap.size) hown (by omega)
        rw [List.take_of_length_le hlen] at this
        exact this
      have Hln : Hid (hs.length = fs'.length) := by show _ = _; omega
      clear hown
      go_wp2
      go_ret
      refine ⟨⟨_, rfl, ?_⟩, hbw2.trans (hb.mono (by omega))⟩
      rw [unhide Hln]
      exact unhide Hown

end Go.Proofs.Ytngjakeofhmohaa

/- Plain: the document's Mark lays what was read, with marks. -/
namespace Go.Proofs.Ytngjakeofhmohaa
set_option linter.unusedSimpArgs false
set_option linter.unusedVariables false
open Go.RowKit Go.Shelf

/-- Headers, the first k of them with these marks. -/
def hdK (hs : List Int) (p : Nat → Bool) (k : Nat) : List Hd := hs.mapIdx fun i x => (uhL x, if i < k then p i else uhM x, uhA x)

theorem hdK_len (hs : List Int) (p : Nat → Bool) (k : Nat) : (hdK hs p k).length = hs.length := by simp [hdK]
theorem hdK_get (hs : List Int) (p : Nat → Bool) (k i : Nat) : (hdK hs p k)[i]? = (hs[i]?).map fun x => (uhL x, if i < k then p i else uhM x, uhA x) := by simp [hdK, List.getElem?_mapIdx]
theorem hdK_zero (hs : List Int) (p : Nat → Bool) : hdK hs p 0 = headsH hs := by
  apply List.ext_getElem?
  intro i
  rw [hdK_get, headsH, List.getElem?_map]
  simp
theorem hdK_set {hs : List Int} {p : Nat → Bool} {k : Nat} {x : Int} (hx : hs[k]? = some x) : (hdK hs p k).set k (uhL x, p k, uhA x) = hdK hs p (k + 1) := by
  apply List.ext_getElem?
  intro i
  have hk := (List.getElem?_eq_some_iff.1 hx).1
  rw [List.getElem?_set, hdK_get, hdK_get, hdK_len]
  by_cases e : k = i
  · subst e
    rw [if_pos rfl, if_pos hk, hx]
    simp
  · rw [if_neg e]
    cases hs[i]? with
    | none => rfl
    | some y =>
      simp only [Option.map_some]
      by_cases hi : i < k
      · rw [if_pos hi, if_pos (by omega)]
      · rw [if_neg hi, if_neg (by omega)]
theorem hdK_all (hs : List Int) (p : Nat → Bool) (k : Nat) (h : hs.length ≤ k) : (hdK hs p k).map hW = mkH hs p := by
  apply List.ext_getElem?
  intro i
  rw [List.getElem?_map, hdK_get, mkH_get]
  cases e : hs[i]? with
  | none => rfl
  | some y =>
    have := (List.getElem?_eq_some_iff.1 e).1
    simp only [Option.map_some]
    rw [if_pos (by omega)]
    rfl

theorem cellsH_set : ∀ (l : List Hd) (k : Nat) (h : Hd) (b : Bool), l[k]? = some h → (cellsH l).set (k * 3 + 1) (.bool b) = cellsH (l.set k (h.1, b, h.2.2))
  | [], _, _, _, h => by simp at h
  | x :: l, 0, h, b, e => by simp at e; subst e; simp [cellsH]
  | x :: l, k + 1, h, b, e => by
    have ih := cellsH_set l k h b (by simpa using e)
    have e1 : (k + 1) * 3 + 1 = k * 3 + 1 + 1 + 1 + 1 := by omega
    rw [e1]
    simp only [cellsH, List.flatMap_cons, List.cons_append, List.nil_append, List.set_cons_succ] at *
    rw [ih]

theorem read_lay {hs : List Int} {fs : List (List Int)} {rs : List Int} (h : Arn hs fs rs) : stF 0 (readG fs rs).objs = stF 0 fs ∧ layFields (stF 0 fs) (readG fs rs).objs = fs ∧ (readG fs rs).roots.map (packV (stF 0 fs)) = rs ∧ NumOk (readG fs rs).roots ∧ ∀ l ∈ (readG fs rs).objs, NumOk l := by
  have hnd := stF_nodup fs 0
  refine ⟨stF_same _ _ _ (lens_read fs rs), ?_, map_word_back hnd h.ur h.okr, ⟨?_⟩, fun l hl => ⟨?_⟩⟩
  · unfold layFields readG
    simp only
    rw [List.map_map]
    conv => rhs; rw [← List.map_id fs]
    apply List.map_congr_left
    intro f hf
    exact map_word_back hnd (h.uf f hf) (h.okf f hf)
  · intro v hv hr
    unfold readG at hv
    obtain ⟨x, hx, rfl⟩ := List.mem_map.1 hv
    exact (word_back hnd (h.ur x hx).1 (h.ur x hx).2 (h.okr x hx)).2.2 hr
  · intro v hv hr
    unfold readG at hl
    obtain ⟨f, hf, rfl⟩ := List.mem_map.1 hl
    obtain ⟨x, hx, rfl⟩ := List.mem_map.1 hv
    exact (word_back hnd (h.uf f hf x hx).1 (h.uf f hf x hx).2 (h.okf f hf x hx)).2.2 hr

end Go.Proofs.Ytngjakeofhmohaa

/- Walks: the document's Reach, its row new. -/
namespace Go.Proofs.Ytngjakeofhmohaa
set_option linter.unusedSimpArgs false
set_option linter.unusedVariables false
open Go.RowKit

set_option maxRecDepth 100000 in
set_option maxHeartbeats 1000000 in
theorem refReachF_c (ao ar : Option Addr) (co cr : Nat) (g : Gr) (B : Nat) (w : World) (ho : Objs B w ao g.objs) (hr : Vals B w ar g.roots) (hB : B ≤ w.heap.size) (hG : Good g) :
    Calls Try.prog 16 #[.agg #[.slice ao g.objs.length co, .slice ar g.roots.length cr]] w fun e w' => ∃ a cap, e = .returned (.slice a (reachK g g.objs.length).length cap) ∧ Ints w'.heap.size w' a (reachK g g.objs.length) ∧ Below w.heap.size w w' ∧ Hid (∀ b off, a = some ⟨b, off, none⟩ → w.heap.size ≤ b) := by
  obtain ⟨i0, hi, hz0, hz1, hz2⟩ := info_parts Try.info3
  have hn24 := hG.n24
  have hb1 := (Below.refl w.heap.size w).alloc (Nat.le_refl _) (.cells #[.slice ao g.objs.length co, .slice ar g.roots.length cr] 43)
  go_enter Try.func16, Try.ntmps16
  go_wp2_with fail
  refine (refDist_c ao ar co cr g B _ (ho.below (hb1.mono hB)) (hr.below (hb1.mono hB)) (by simp; omega) hG).mono ?_
  rintro e w2 ⟨ad, cd, rfl, hI2, hb2⟩
  have hbw2 : Below w.heap.size w w2 := hb1.trans (hb2.mono (by simp))
  clear hb1 hb2
  have hlD : (distL g).length = g.objs.length := distL_len g
  have HlD := hide hlD
  have hDk : Hid (∀ k, k < g.objs.length → (distL g)[k]? = some (dG g k)) := fun k hk => by simp [distL, List.getElem?_map, List.getElem?_range hk, dG]
  rw [hlD]
  clear hlD
  generalize distL g = D at *
  go_wp2
  go_loopw [3, 9] (fun s i wr => ∃ k : Nat, k ≤ g.objs.length ∧ i = .int .i64 k ∧ wr.ownsRow w2.heap.size 3 1 s (reachK g k).length (intsV (reachK g k)) ∧ Below w2.heap.size w2 wr) (fun _ i _ => g.objs.length - (intOf i).toNat)
  case atStart => exact ⟨0, Nat.zero_le _, rfl, World.ownsRow_nil _ _ _ _, Below.refl _ _⟩
  case round =>
    obtain ⟨k, hk, rfl, hown, hb⟩ := hrel
    have hsz := hb.size
    have hkl := reachK_len g k
    by_cases hlt : k < g.objs.length
    · have hltD : k < D.length := by rw [unhide HlD]; exact hlt
      obtain ⟨bd, od, rfl, hbd, hcd⟩ := (hI2.below hb).at hltD
      have hx := unhide hDk k hlt
      rw [List.getElem?_eq_getElem hltD] at hx
      injection hx with hx
      rw [hx] at hcd
      have Hyes := hide (fun h => reachK_yes (g := g) (k := k) h)
      have Hno := hide (fun h => reachK_no (g := g) (k := k) h)
      clear hx
      generalize dG g k = x at *
      have hmx : (reachK g k).length + 1 ≤ maxLen := by simp only [maxLen]; omega
      have hmy : ((reachK g k).length + 1) * 8 ≤ 140737488355328 := by omega
      by_cases hx0 : 0 ≤ x
      · have d : decide (x ≥ 0) = true := by simpa using hx0
        have d' : decide (0 ≤ x) = true := by simpa using hx0
        have HT := hide (unhide Hyes hx0)
        go_wp2_with (at_builtin; go_must (refine wpList_append_own _ rfl _ _ 25 rfl w2.heap.size 3 i0 _ 1 8 Try.underlying25 hi hz0 hz1 hz2 rfl (by decide) _ _ _ rfl (hown.alloc _) ⟨wr.heap.size, 0, none⟩ 1 1 [.int .i64 k] rfl rfl (cell_one_at _ _ _ _ (by simp)) (by simp [Value.oneCell']) hmx hmy (by simp; omega) ?_); intro v' w1 hown' hgrow _)
        go_roundw
        case rel => exact ⟨k + 1, by omega, by go_num, by rw [unhide HT, intsV_snoc, List.length_append]; exact hown', (hb.alloc hsz _).grown hgrow (by simp; omega) (fun q e => (hown.lt q e).1)⟩
        case measure => simp [intOf]; omega
      · have d : decide (x ≥ 0) = false := by simp; omega
        have d' : decide (0 ≤ x) = false := by simp; omega
        have HT := hide (unhide Hno (by omega))
        go_wp2
        go_roundw
        case rel => exact ⟨k + 1, by omega, by go_num, by rw [unhide HT]; exact hown, hb⟩
        case measure => simp [intOf]; omega
    · obtain rfl : k = g.objs.length := by omega
      obtain ⟨a', cap', hv, hV, hr9⟩ := ints_of_owns hown rfl (by omega)
      have Hv := hide hv
      have H9 : Hid (∀ b off, a' = some ⟨b, off, none⟩ → w.heap.size ≤ b) := fun b off e => by have := hr9 b off e; have := hbw2.size; omega
      clear hv hr9
      go_wp2
      go_ret
      exact ⟨a', cap', congrArg Ending.returned (unhide Hv), hV, hbw2.trans (hb.mono hbw2.size), H9⟩

end Go.Proofs.Ytngjakeofhmohaa

/- Walks: the document's Mark. -/
namespace Go.Proofs.Ytngjakeofhmohaa
set_option linter.unusedSimpArgs false
set_option linter.unusedVariables false
open Go.RowKit Go.Shelf

/-- A block that holds no number. -/
def NoNum (W : World) (rb : Nat) : Prop := ∃ cs t, W.heap[rb]? = some (.cells cs t) ∧ ∀ (i : Nat) (k : IntKind) (x : Int), cs[i]? ≠ some (Value.int k x)

theorem NoNum.wds {W : World} {rb B j : Nat} {a : Option Addr} {l : List Int} (h : NoNum W rb) (hw : Wds B W a l) (u : Value) : Wds B (W.setCell ⟨rb, j, none⟩ u) a l := by
  refine ⟨hw.1, fun hne => ?_⟩
  obtain ⟨b, off, rfl, hB, hc⟩ := hw.2 hne
  obtain ⟨cs, t, hb, hn⟩ := h
  have hbr : b ≠ rb := by
    rintro rfl
    have h0 : 0 < l.length := List.length_pos_iff.2 hne
    have := hc 0 l[0] (List.getElem?_eq_getElem h0)
    rw [cell_of_row W b (off + 0) cs t (0, 0) hb] at this
    exact hn _ _ _ this
  refine ⟨b, off, rfl, hB, fun k v hk => ?_⟩
  rw [World.cell?_of_block (a := ⟨b, off + k, none⟩) (Below.heap_setCell _ _ _ _ hbr)]
  exact hc k v hk

theorem NoNum.set {W : World} {rb j : Nat} (h : NoNum W rb) {u : Value} (hu : ∀ (k : IntKind) (x : Int), u ≠ Value.int k x) : NoNum (W.setCell ⟨rb, j, none⟩ u) rb := by
  obtain ⟨cs, t, hb, hn⟩ := h
  refine ⟨_, t, heap_setCell_same W rb j cs t u hb, fun i k x => ?_⟩
  rw [Array.getElem?_setIfInBounds]
  split
  · split
    · intro e; injection e with e; exact hu k x e
    · simp
  · exact hn i k x

theorem ints_keep {B : Nat} {W W' : World} {a : Option Addr} {l : List Int} (h : Ints B W a l) (hb : ∀ b off, a = some ⟨b, off, none⟩ → b < B → W'.heap[b]? = W.heap[b]?) : Ints B W' a l := by
  refine ⟨h.1, fun hne => ?_⟩
  obtain ⟨b, off, rfl, hB, hc⟩ := h.2 hne
  refine ⟨b, off, rfl, hB, fun k v hk => ?_⟩
  rw [World.cell?_of_block (a := ⟨b, off + k, none⟩) (hb b off rfl hB)]
  exact hc k v hk

/-- What the document's Mark tells. -/
def RMk (L rs : List Int) (e : Ending) (W : World) : Prop :=
  ∃ aw cw ar cr, e = .returned (.agg #[.slice aw L.length cw, .slice ar rs.length cr]) ∧ Wds W.heap.size W aw L ∧ Wds W.heap.size W ar rs

set_option maxRecDepth 100000 in
set_option maxHeartbeats 4000000 in
theorem rmark_c (aw ar : Option Addr) (cw cr : Nat) (ws rs : List Int) (hs : List Int) (fs : List (List Int)) (p : Nat → Bool) (B : Nat) (w : World) (hW : Wds B w aw ws) (hR : Wds B w ar rs) (hUW : U64 ws) (hUR : U64 rs) (hB : B ≤ w.heap.size) (hA : Arn hs fs rs) (hws : ws = joinW hs fs) (hp : ∀ j, p j = true ↔ Rch fs rs j) :
    Calls Try.prog 9 #[.agg #[.slice aw ws.length cw, .slice ar rs.length cr]] w fun e w' => RMk (mW hs fs p) rs e w' ∧ Below w.heap.size w w' := by
  have hsp : splitR ws = some fs := by rw [hws]; exact fit_split hA.fit
  have h256 : ws.length ≤ 256 := by rw [hws, joinW_len _ _ hA.fit.len]; exact hA.n256
  obtain ⟨W1, hW1⟩ : ∃ W1, (w.alloc (.cells #[.slice aw ws.length cw, .slice ar rs.length cr] 24)).alloc (.cells #[.slice none 0 0, .slice none 0 0] 24) = W1 := ⟨_, rfl⟩
  have hb1 : Below w.heap.size w W1 := by rw [← hW1]; exact ((Below.refl w.heap.size w).alloc (Nat.le_refl _) _).alloc (by simp) _
  have hs1 : w.heap.size + 1 < W1.heap.size := by rw [← hW1]; simp
  have g0 : W1.cell? ⟨w.heap.size, 0, none⟩ = some (.slice aw ws.length cw) := by rw [← hW1]; simp [go_sem]
  have g1 : W1.cell? ⟨w.heap.size, 1, none⟩ = some (.slice ar rs.length cr) := by rw [← hW1]; simp [go_sem]
  have hr0 : W1.heap[w.heap.size + 1]? = some (.cells #[.slice none 0 0, .slice none 0 0] 24) := by
    have := heap_alloc_new (w.alloc (.cells #[.slice aw ws.length cw, .slice ar rs.length cr] 24)) (.cells #[.slice none 0 0, .slice none 0 0] 24)
    rw [hW1] at this
    simpa using this
  have Hc1 := hide (rread_c aw ar cw cr ws rs fs B W1 (hW.below (hb1.mono hB)) (hR.below (hb1.mono hB)) hUW hUR (by omega) h256 hA.n8 hsp)
  have HA := hide hA
  have HG := hide (good_read hA)
  have Hws := hide hws
  have Hp := hide hp
  have Hr0 := hide hr0
  clear hA hws hsp hp hr0
  go_enter Try.func9, Try.ntmps9
  go_wp2_with fail
  refine (unhide Hc1).mono ?_
  rintro e w2 ⟨⟨ao, co, ar2, cr2, he, hO, hV⟩, hb2⟩
  subst he
  have hs2 := hb2.size
  have hbw2 : Below w.heap.size w w2 := hb1.trans (hb2.mono (by omega))
  obtain ⟨W2, hW2⟩ : ∃ W2, w2.alloc (.cells #[.slice ao (readG fs rs).objs.length co, .slice ar2 (readG fs rs).roots.length cr2] 43) = W2 := ⟨_, rfl⟩
  have hb2' : Below w2.heap.size w2 W2 := by rw [← hW2]; exact (Below.refl _ _).alloc (Nat.le_refl _) _
  have hs2' : w2.heap.size < W2.heap.size := by rw [← hW2]; simp
  have k0 : W2.cell? ⟨w2.heap.size, 0, none⟩ = some (.slice ao (readG fs rs).objs.length co) := by rw [← hW2]; simp [go_sem]
  have k1 : W2.cell? ⟨w2.heap.size, 1, none⟩ = some (.slice ar2 (readG fs rs).roots.length cr2) := by rw [← hW2]; simp [go_sem]
  replace g0 := (hb2'.cell (p := ⟨w.heap.size, 0, none⟩) (by simp; omega)).trans ((hb2.cell (p := ⟨w.heap.size, 0, none⟩) (by simp; omega)).trans g0)
  replace g1 := (hb2'.cell (p := ⟨w.heap.size, 1, none⟩) (by simp; omega)).trans ((hb2.cell (p := ⟨w.heap.size, 1, none⟩) (by simp; omega)).trans g1)
  have hbW2 : Below w.heap.size w W2 := hbw2.trans (hb2'.mono (by omega))
  have hwW2 : w.heap.size < W2.heap.size := by omega
  replace Hr0 := hide ((hb2'.block (w.heap.size + 1) (by omega)).trans ((hb2.block (w.heap.size + 1) (by omega)).trans (unhide Hr0)))
  have HO := hide ((hO.below hb2').mono (B' := W2.heap.size) (by omega))
  have HV := hide ((hV.below hb2').mono (B' := W2.heap.size) (by omega))
  have Hc2 := hide (heads_c aw ar cw rs.length cr ws hs fs B W2 (hW.below (hbW2.mono hB)) hUW (by omega) (unhide HA).fit (unhide Hws) h256)
  clear Hc1 hO hV hW1 hb1 hb2 hb2' hbw2
  go_wp2_with fail
  refine (unhide Hc2).mono ?_
  rintro e w3 ⟨⟨v, he, hown⟩, hb3⟩
  subst he
  have hs3 := hb3.size
  obtain ⟨va, vc, hv⟩ := ownsRow_slice hown
  subst hv
  replace k0 := (hb3.cell (p := ⟨w2.heap.size, 0, none⟩) hs2').trans k0
  replace k1 := (hb3.cell (p := ⟨w2.heap.size, 1, none⟩) hs2').trans k1
  replace Hr0 := hide ((hb3.block (w.heap.size + 1) (by omega)).trans (unhide Hr0))
  replace HO := hide ((unhide HO).below hb3)
  replace HV := hide ((unhide HV).below hb3)
  have hbw3 : Below w.heap.size w w3 := hbW2.trans (hb3.mono (by omega))
  have Hc3 := hide (refReachF_c ao ar2 co cr2 (readG fs rs) W2.heap.size w3 (unhide HO) (unhide HV) hs3 (unhide HG))
  have Hown := hide hown
  have Hlt3 : Hid (∀ g, Value.ownBlock (.slice va hs.length vc) = some g → g < w3.heap.size) := fun g e => (hown.lt g e).2
  have hl3 : w2.heap.size < w3.heap.size := by omega
  clear Hc2 hown hW2 hb3 g0 g1
  go_wp2_with fail
  refine (unhide Hc3).mono ?_
  rintro e w4 ⟨ra, rc, he, hI, hb4, Hnew⟩
  subst he
  have hs4 := hb4.size
  replace k0 := (hb4.cell (p := ⟨w2.heap.size, 0, none⟩) hl3).trans k0
  replace k1 := (hb4.cell (p := ⟨w2.heap.size, 1, none⟩) hl3).trans k1
  replace Hr0 := hide ((hb4.block (w.heap.size + 1) (by omega)).trans (unhide Hr0))
  have hbw4 : Below w.heap.size w w4 := hbw3.trans (hb4.mono (by omega))
  have HI := hide hI
  have hl4 : w2.heap.size < w4.heap.size := by omega
  replace HO := hide ((unhide HO).below (hb4.mono hs3))
  replace HV := hide ((unhide HV).below (hb4.mono hs3))
  replace Hown := hide (ownsRow_below (unhide Hown) hb4)
  have HpK : Hid (∀ k : Nat, decide ((k : Int) ∈ reachK (readG fs rs) (readG fs rs).objs.length) = p k) := fun k => by
    rw [Bool.eq_iff_iff, decide_eq_true_eq, mem_reachK (unhide HA), unhide Hp]
  have hlen : hs.length ≤ 256 := by have := (unhide HA).fit.len; have := tot_len fs; have := (unhide HA).n256; omega
  have Hat : Hid (∀ k, k < hs.length → ∃ x, hs[k]? = some x) := fun k hk => ⟨_, List.getElem?_eq_getElem hk⟩
  clear Hc3 hI hb4 hbw3 hW hR hUW hUR Hws
  generalize reachK (readG fs rs) (readG fs rs).objs.length = RK at *
  go_wp2
  go_loopw [6] (fun i wr => ∃ k : Nat, k ≤ hs.length ∧ i = .int .i64 k ∧ Hid (wr.ownsRow W2.heap.size 68 3 (.slice va hs.length vc) hs.length (cellsH (hdK hs p k))) ∧ Hid (w4.grownBy wr (Value.ownBlock (.slice va hs.length vc)))) (fun i _ => hs.length - (intOf i).toNat)
  case atStart => exact ⟨0, Nat.zero_le _, rfl, by rw [hdK_zero]; exact Hown, hide ⟨rfl, rfl, rfl, Nat.le_refl _, fun _ _ _ => rfl⟩⟩
  case round =>
    obtain ⟨k, hk, rfl, HK, Hg⟩ := hrel
    have hsz := (unhide Hg).size
    have hbr : Below W2.heap.size w4 wr := (Below.refl _ w4).grown (unhide Hg) (by omega) (fun g e => ((unhide Hown).lt g e).1)
    have k0r := (hbr.cell (p := ⟨w2.heap.size, 0, none⟩) hs2').trans k0
    have k1r := (hbr.cell (p := ⟨w2.heap.size, 1, none⟩) hs2').trans k1
    have hlr : w2.heap.size < wr.heap.size := by omega
    by_cases hlt : k < hs.length
    · obtain ⟨x, hx⟩ := unhide Hat k hlt
      have hIr : Ints w4.heap.size wr ra RK := ints_keep (unhide HI) (fun b off e hbB => (unhide Hg).block b hbB (fun e' => by
          have h1 := unhide Hnew b off e
          have h2 := unhide Hlt3 b e'.symm
          omega))
      have hH : Hid (Calls Try.prog 18 #[.slice ra RK.length rc, .int .i64 (k : Int)] wr fun e w' => e = .returned (.bool (p k)) ∧ w' = wr) := by
        have := has_c ra rc RK (k : Int) w4.heap.size wr hIr
        rw [unhide HpK k] at this
        exact this
      obtain ⟨g, hv, hvc⟩ : ∃ g, va = some ⟨g, 0, none⟩ ∧ hs.length ≤ vc := by
        rcases (unhide HK).2 with ⟨_, h0⟩ | ⟨g, cap, cur, e, _, _, h3, _⟩
        · omega
        · injection e with e1 _ e3
          exact ⟨g, e1, by omega⟩
      subst hv
      have hxy := cellsH_get (hdK hs p k) k _ (by rw [hdK_get, hx]; rfl)
      have hkn : k * 3 + 1 < hs.length * 3 := by omega
      have x1 : wr.cell? ⟨g, k * 3 + 1, none⟩ = some (.bool (uhM x)) := by
        rw [(unhide HK).cellAt _ hkn, hxy.2.1]
        simp
      have xf := (unhide HK).frozenAt (k * 3 + 1)
      have hgl := ((unhide HK).lt g rfl).2
      have hkI : (k : Int) < (hs.length : Int) := by omega
      have HK1 : Hid ((wr.setCell ⟨g, k * 3 + 1, none⟩ (.bool (p k))).ownsRow W2.heap.size 68 3 (.slice (some ⟨g, 0, none⟩) hs.length vc) hs.length (cellsH (hdK hs p (k + 1)))) := by
        have := ((unhide HK).stored (k * 3 + 1) (.bool (p k))).1
        rw [cellsH_set (hdK hs p k) k _ (p k) (by rw [hdK_get, hx]; rfl)] at this
        rw [← hdK_set hx]
        exact this
      have Hg1 : Hid (w4.grownBy (wr.setCell ⟨g, k * 3 + 1, none⟩ (.bool (p k))) (some g)) := by
        have h1 := grown_set wr g (k * 3 + 1) (.bool (p k))
        have h2 := unhide Hg
        exact ⟨h1.os.trans h2.os, h1.tape.trans h2.tape, h1.output.trans h2.output, Nat.le_trans h2.size h1.size, fun j hj hne => (h1.block j (by omega) hne).trans (h2.block j hj hne)⟩
      clear hIr hxy hx
      generalize p k = pk at *
      go_wp2_with fail
      refine (unhide hH).mono ?_
      rintro e w8 ⟨he, hw8⟩
      subst he
      have hw8 := hw8.symm
      subst hw8
      clear hH
      go_wp2
      go_roundw
      case rel => exact ⟨k + 1, by omega, by go_num, HK1, Hg1⟩
      case measure => simp [intOf]; omega
    · obtain rfl : k = hs.length := by omega
      obtain ⟨ha, hc, hv, hHd⟩ := hdrs_of_owns (unhide HK) (hdK_len hs p hs.length).symm (by omega)
      rw [hdK_len] at hv
      injection hv with hv1 _ hv3
      subst hv1 hv3
      obtain ⟨hst, hlf, hlr2, hnr, hno⟩ := read_lay (unhide HA)
      have hG := unhide HG
      have hgl := readG_len fs rs
      have hfl := (unhide HA).fit.len
      have Hc5 : Hid (Calls Try.prog 29 #[.agg #[.slice ao (readG fs rs).objs.length co, .slice ar2 (readG fs rs).roots.length cr2], .slice va hs.length vc] wr fun e w' => RMk (mW hs fs p) rs e w' ∧ Below wr.heap.size wr w') := by
        have := rlay_c ao ar2 va co cr2 vc (readG fs rs) (hdK hs p hs.length) wr.heap.size wr (((unhide HO).below hbr).mono (by omega)) (((unhide HV).below hbr).mono (by omega)) hHd (by rw [hdK_len]; omega) (Nat.le_refl _) (by omega) hG.n4 hG.n8 hG.rr hG.ro hnr hno
        rw [hdK_len] at this
        refine this.mono ?_
        rintro e w' ⟨⟨aw', cw', ar', cr', he, h1, h2⟩, h3⟩
        have e1 : layHW (stF 0 (readG fs rs).objs) (hdK hs p hs.length) (readG fs rs).objs = mW hs fs p := by
          unfold layHW mW
          rw [hst, hlf, hdK_all _ _ _ (Nat.le_refl _)]
        rw [e1] at he h1
        rw [hst, hlr2] at he h2
        exact ⟨⟨aw', cw', ar', cr', he, h1, h2⟩, h3⟩
      have hrb : wr.heap[w.heap.size + 1]? = some (.cells #[.slice none 0 0, .slice none 0 0] 24) := (hbr.block (w.heap.size + 1) (by omega)).trans (unhide Hr0)
      have Hrb := hide hrb
      have hkI : ¬ ((hs.length : Int) < (hs.length : Int)) := by omega
      have hbwr : Below w.heap.size w wr := hbw4.trans (hbr.mono (by omega))
      clear hst hlf hlr2 hnr hno hG hgl hfl hHd HK Hg hrb HO HV
      go_wp2_with fail
      refine (unhide Hc5).mono ?_
      rintro e w5 ⟨⟨aw', cw', ar', cr', he, h1, h2⟩, hb5⟩
      subst he
      have hs5 := hb5.size
      have hrb5 : w5.heap[w.heap.size + 1]? = some (.cells #[.slice none 0 0, .slice none 0 0] 24) := (hb5.block (w.heap.size + 1) (by omega)).trans (unhide Hrb)
      have r0 : w5.cell? ⟨w.heap.size + 1, 0, none⟩ = some (.slice none 0 0) := by rw [cell_of_row w5 (w.heap.size + 1) 0 _ 24 (0, 0) hrb5]; rfl
      have r1 : w5.cell? ⟨w.heap.size + 1, 1, none⟩ = some (.slice none 0 0) := by rw [cell_of_row w5 (w.heap.size + 1) 1 _ 24 (0, 0) hrb5]; rfl
      have z0 : w5.frozen? ⟨w.heap.size + 1, 0, none⟩ = false := frozen_of_row _ _ 0 _ 24 hrb5
      have z1 : w5.frozen? ⟨w.heap.size + 1, 1, none⟩ = false := frozen_of_row _ _ 1 _ 24 hrb5
      have hl5 : w.heap.size + 1 < w5.heap.size := by omega
      have hnn : NoNum w5 (w.heap.size + 1) := ⟨_, 24, hrb5, fun i k x => by
        match i with
        | 0 => simp
        | 1 => simp
        | i + 2 => simp⟩
      have Hfin : Hid (∀ W, W = (w5.setCell ⟨w.heap.size + 1, 0, none⟩ (.slice aw' (mW hs fs p).length cw')).setCell ⟨w.heap.size + 1, 1, none⟩ (.slice ar' rs.length cr') → RMk (mW hs fs p) rs (.returned (.agg #[.slice aw' (mW hs fs p).length cw', .slice ar' rs.length cr'])) W ∧ Below w.heap.size w W) := fun W h => by
        subst h
        have hsz5 : ((w5.setCell ⟨w.heap.size + 1, 0, none⟩ (.slice aw' (mW hs fs p).length cw')).setCell ⟨w.heap.size + 1, 1, none⟩ (.slice ar' rs.length cr')).heap.size = w5.heap.size := by simp [World.setCell]
        have hn1 := hnn.set (j := 0) (u := .slice aw' (mW hs fs p).length cw') (by simp)
        refine ⟨⟨aw', cw', ar', cr', rfl, ?_, ?_⟩, ((hbwr.trans (hb5.mono (by omega))).setCell (p := ⟨w.heap.size + 1, 0, none⟩) (by simp) _).setCell (p := ⟨w.heap.size + 1, 1, none⟩) (by simp) _⟩
        · rw [hsz5]; exact hn1.wds (hnn.wds h1 _) _
        · rw [hsz5]; exact hn1.wds (hnn.wds h2 _) _
      clear h1 h2 hnn hrb5 Hc5
      generalize (mW hs fs p).length = n at *
      go_wp2
      exact bodyPost_ret (v := .agg #[.slice aw' n cw', .slice ar' rs.length cr']) (by simp [results, Try.results9, go_sem, r0, r1]) rfl (unhide Hfin _ rfl)

end Go.Proofs.Ytngjakeofhmohaa

/- Walks: VisitTells. -/
namespace Go.Proofs.Ytngjakeofhmohaa
set_option linter.unusedSimpArgs false
set_option linter.unusedVariables false
open Go.RowKit Go.Shelf

set_option maxRecDepth 100000 in
set_option maxHeartbeats 8000000 in
theorem vtells_c (aw ar : Option Addr) (cw cr : Nat) (ws rs : List Int) (w : World) (hW : Wds w.heap.size w aw ws) (hR : Wds w.heap.size w ar rs) (hUW : U64 ws) (hUR : U64 rs) (hcap : ws.length ≤ cw) :
    Calls Try.prog 3 #[.agg #[.slice aw ws.length cw, .slice ar rs.length cr]] w fun e w' => e = .returned (.bool true) ∧ Below w.heap.size w w' := by
  obtain ⟨W1, hW1⟩ : ∃ W1, w.alloc (.cells #[.slice aw ws.length cw, .slice ar rs.length cr] 24) = W1 := ⟨_, rfl⟩
  have hb1 : Below w.heap.size w W1 := by rw [← hW1]; exact (Below.refl w.heap.size w).alloc (Nat.le_refl _) _
  have hs1 : w.heap.size < W1.heap.size := by rw [← hW1]; simp
  have g0 : W1.cell? ⟨w.heap.size, 0, none⟩ = some (.slice aw ws.length cw) := by rw [← hW1]; simp [go_sem]
  have g1 : W1.cell? ⟨w.heap.size, 1, none⟩ = some (.slice ar rs.length cr) := by rw [← hW1]; simp [go_sem]
  have Hc1 := hide (visit_c aw ar cw cr ws rs w.heap.size W1 (hW.below hb1) (hR.below hb1) hUW hUR (by omega) hcap)
  go_enter Try.func3, Try.ntmps3
  go_wp2_with fail
  refine (unhide Hc1).mono ?_
  rintro e w2 ⟨hres, hb2⟩
  have hs2 := hb2.size
  have hbw2 : Below w.heap.size w w2 := hb1.trans (hb2.mono (by omega))
  replace g0 := (hb2.cell (p := ⟨w.heap.size, 0, none⟩) hs1).trans g0
  replace g1 := (hb2.cell (p := ⟨w.heap.size, 1, none⟩) hs1).trans g1
  have hl2 : w.heap.size < w2.heap.size := by omega
  clear hb1 hb2 Hc1 hW1
  rcases hres with ⟨hE, he⟩ | ⟨hE, hs, fs, ba, bc, ba', bc', oa, oc, hA, hws, he, hBL, _, hBR, hO, _⟩
  · subst he
    obtain ⟨W2, hW2⟩ : ∃ W2, w2.alloc (.cells #[.slice none 0 0, .slice none 0 0] 24) = W2 := ⟨_, rfl⟩
    have hb2' : Below w2.heap.size w2 W2 := by rw [← hW2]; exact (Below.refl _ w2).alloc (Nat.le_refl _) _
    have hs2' : w2.heap.size < W2.heap.size := by rw [← hW2]; simp
    have k0 : W2.cell? ⟨w2.heap.size, 0, none⟩ = some (.slice none 0 0) := by rw [← hW2]; simp [go_sem]
    have k1 : W2.cell? ⟨w2.heap.size, 1, none⟩ = some (.slice none 0 0) := by rw [← hW2]; simp [go_sem]
    have hbW2 : Below w.heap.size w W2 := hbw2.trans (hb2'.mono (by omega))
    have hwW2 : w.heap.size < W2.heap.size := by omega
    have Hc3 := hide (rcheck_c aw ar cw cr ws rs w.heap.size W2 (hW.below hbW2) (hR.below hbW2) hUW hUR (by omega))
    generalize hAE : arenaE ws rs = AE at *
    have d0 : (AE != 0) = true := by simpa using hE
    have d1 : (AE == AE) = true := by simp
    have HW2 := hide hW2
    clear hAE hE hbw2 hW2
    go_wp2_with fail
    rw [unhide HW2]
    refine (unhide Hc3).mono ?_
    rintro e w4 ⟨he, hb4⟩
    subst he
    have hs4 := hb4.size
    have hbw4 : Below w.heap.size w w4 := hbW2.trans (hb4.mono (by omega))
    replace k0 := (hb4.cell (p := ⟨w2.heap.size, 0, none⟩) hs2').trans k0
    replace k1 := (hb4.cell (p := ⟨w2.heap.size, 1, none⟩) hs2').trans k1
    have hw4' : w2.heap.size < w4.heap.size := by omega
    have Hc7 : Hid (Calls Try.prog 8 #[.agg #[.slice none 0 0, .slice none 0 0], .agg #[.slice none 0 0, .slice none 0 0]] w4 fun e w' => e = .returned (.bool true) ∧ Below w4.heap.size w4 w') := by
      have := arenas_eq_c none none none none 0 0 0 0 [] [] [] [] w4.heap.size w4 (wds_nil rfl) (wds_nil rfl) (wds_nil rfl) (wds_nil rfl) (Nat.le_refl _)
      simp only [decide_true, Bool.and_self] at this
      exact this
    clear Hc3 hb4 HW2 hb2'
    go_wp2_with fail
    refine (unhide Hc7).mono ?_
    rintro e w7 ⟨he, hb7⟩
    subst he
    clear Hc7
    go_wp2
    go_ret
    exact ⟨rfl, hbw4.trans (hb7.mono (by omega))⟩
  · subst he
    have HA := hide hA
    have Hws := hide hws
    have HE := hide hE
    obtain ⟨W2, hW2⟩ : ∃ W2, w2.alloc (.cells #[.slice ba (mW hs fs (visP fs rs)).length bc, .slice ba' rs.length bc'] 24) = W2 := ⟨_, rfl⟩
    have hb2' : Below w2.heap.size w2 W2 := by rw [← hW2]; exact (Below.refl _ w2).alloc (Nat.le_refl _) _
    have hs2' : w2.heap.size < W2.heap.size := by rw [← hW2]; simp
    have k0 : W2.cell? ⟨w2.heap.size, 0, none⟩ = some (.slice ba (mW hs fs (visP fs rs)).length bc) := by rw [← hW2]; simp [go_sem]
    have k1 : W2.cell? ⟨w2.heap.size, 1, none⟩ = some (.slice ba' rs.length bc') := by rw [← hW2]; simp [go_sem]
    replace g0 := (hb2'.cell (p := ⟨w.heap.size, 0, none⟩) hl2).trans g0
    replace g1 := (hb2'.cell (p := ⟨w.heap.size, 1, none⟩) hl2).trans g1
    have hbW2 : Below w.heap.size w W2 := hbw2.trans (hb2'.mono (by omega))
    have hwW2 : w.heap.size < W2.heap.size := by omega
    have Hc3 := hide (rcheck_c aw ar cw cr ws rs w.heap.size W2 (hW.below hbW2) (hR.below hbW2) hUW hUR (by omega))
    rw [hE] at Hc3
    have HBL := hide ((hBL.below hb2').mono (Nat.le_of_lt hs2'))
    have HBR := hide ((hBR.below hb2').mono (Nat.le_of_lt hs2'))
    have HOL := hide ((hO.below hb2').mono (Nat.le_of_lt hs2'))
    have Hp := hide (visP_rch hA)
    clear hA hws hE hBL hBR hO hbw2
    generalize hBLe : mW hs fs (visP fs rs) = BL at *
    generalize hPLe : plc fs (visL fs rs) = PL at *
    have HBLe := hide hBLe
    have HPLe := hide hPLe
    clear hBLe hPLe
    go_wp2_with fail
    refine (unhide Hc3).mono ?_
    rintro e w4 ⟨he, hb4⟩
    subst he
    have hs4 := hb4.size
    have hbw4 : Below w.heap.size w w4 := hbW2.trans (hb4.mono (by omega))
    replace g0 := (hb4.cell (p := ⟨w.heap.size, 0, none⟩) hwW2).trans g0
    replace g1 := (hb4.cell (p := ⟨w.heap.size, 1, none⟩) hwW2).trans g1
    replace k0 := (hb4.cell (p := ⟨w2.heap.size, 0, none⟩) hs2').trans k0
    replace k1 := (hb4.cell (p := ⟨w2.heap.size, 1, none⟩) hs2').trans k1
    have hw4 : w.heap.size < w4.heap.size := by omega
    have hw4' : w2.heap.size < w4.heap.size := by omega
    have HB4 := hide (((unhide HBL).below hb4).mono hs4)
    have HR4 := hide (((unhide HBR).below hb4).mono hs4)
    have HO4 := hide (((unhide HOL).below hb4).mono hs4)
    have Hc9 : Hid (Calls Try.prog 9 #[.agg #[.slice aw ws.length cw, .slice ar rs.length cr]] w4.drew fun e w' => RMk BL rs e w' ∧ Below w4.heap.size w4 w') := by
      have := rmark_c aw ar cw cr ws rs hs fs (visP fs rs) w.heap.size w4.drew (hW.below hbw4.drew) (hR.below hbw4.drew) hUW hUR (by show w.heap.size ≤ w4.heap.size; omega) (unhide HA) (unhide Hws) (unhide Hp)
      rw [unhide HBLe] at this
      refine this.mono ?_
      rintro e w' ⟨h1, h2⟩
      exact ⟨h1, (Below.refl _ w4).drew.trans h2⟩
    have Hc8 : Hid (∀ W xa xc ya yc, Below w4.heap.size w4 W → Wds W.heap.size W xa BL → Wds W.heap.size W ya rs → Calls Try.prog 8 #[.agg #[.slice ba BL.length bc, .slice ba' rs.length bc'], .agg #[.slice xa BL.length xc, .slice ya rs.length yc]] W fun e w' => e = .returned (.bool true) ∧ Below W.heap.size W w') := fun W xa xc ya yc hbW h1 h2 => by
      have := arenas_eq_c ba ba' xa ya bc bc' xc yc BL rs BL rs W.heap.size W (((unhide HB4).below hbW).mono hbW.size) (((unhide HR4).below hbW).mono hbW.size) h1 h2 (Nat.le_refl _)
      simp only [decide_true, Bool.and_self] at this
      exact this
    have Hc11 : Hid (∀ W, Below w4.heap.size w4 W → Calls Try.prog 11 #[.agg #[.slice aw ws.length cw, .slice ar rs.length cr]] W fun e w' => (∃ a c, e = .returned (.slice a PL.length c) ∧ Ints w'.heap.size w' a PL) ∧ Below W.heap.size W w') := fun W hbW => by
      have hbWw : Below w.heap.size w W := hbw4.trans (hbW.mono (by omega))
      have := rvisit_c aw ar cw cr ws rs hs fs w.heap.size W (hW.below hbWw) (hR.below hbWw) hUW hUR (by have := hbWw.size; omega) (unhide HA) (unhide Hws)
      refine this.mono ?_
      rintro e w' ⟨⟨a, c, h1, h2⟩, h3⟩
      rw [unhide HPLe] at h1 h2
      exact ⟨⟨a, c, h1, h2⟩, h3⟩
    have Hc10 : Hid (∀ W xa xc, Below w4.heap.size w4 W → Ints W.heap.size W xa PL → Calls Try.prog 10 #[.slice oa PL.length oc, .slice xa PL.length xc] W fun e w' => e = .returned (.bool true) ∧ Below W.heap.size W w') := fun W xa xc hbW h1 => by
      have := ints_eq_c oa xa oc xc PL PL W.heap.size W (((unhide HO4).below hbW).mono hbW.size) h1 (Nat.le_refl _)
      simp only [decide_true] at this
      exact this
    clear Hc3 hb4 hW2 hb2' HBL HBR HOL HB4 HR4 HO4 HA Hws HBLe HPLe Hp HE hW hR
    go_wp2
    go_region_with (first
      | (go_at_call 9; go_must (refine (unhide Hc9).mono ?_); go_must (rintro e w5 ⟨⟨xa, xc, ya, yc, he, hx, hy⟩, hb5⟩; subst he; have hs5 := hb5.size; have k05 := (hb5.cell (p := ⟨w2.heap.size, 0, none⟩) hw4').trans k0; have k15 := (hb5.cell (p := ⟨w2.heap.size, 1, none⟩) hw4').trans k1; have hl5 : w2.heap.size < w5.heap.size := Nat.lt_of_lt_of_le hw4' hs5; have Hca := hide (unhide Hc8 w5 xa xc ya yc hb5 hx hy); clear hx hy))
      | (go_at_call 8; go_must (refine (unhide Hca).mono ?_); go_must (rintro e w6 ⟨he, hb6⟩; subst he; have hb6' : Below w4.heap.size w4 w6 := hb5.trans (hb6.mono hs5); have hs6 := hb6'.size; have g06 := (hb6'.cell (p := ⟨w.heap.size, 0, none⟩) hw4).trans g0; have g16 := (hb6'.cell (p := ⟨w.heap.size, 1, none⟩) hw4).trans g1; have hl6 : w.heap.size < w6.heap.size := Nat.lt_of_lt_of_le hw4 hs6))
      | (go_at_call 11; go_must (refine (unhide Hc11 _ hb6').mono ?_); go_must (rintro e w7 ⟨⟨za, zc, he, hz⟩, hb7⟩; subst he; have hb7' : Below w4.heap.size w4 w7 := hb6'.trans (hb7.mono hs6); have Hcb := hide (unhide Hc10 w7 za zc hb7' hz); clear hz))
      | (go_at_call 10; go_must (refine (unhide Hcb).mono ?_); go_must (rintro e w8 ⟨he, hb8⟩; subst he)))
    all_goals
      go_wp2
      go_ret
      exact ⟨rfl, hbw4.trans ((hb7'.trans (hb8.mono hb7'.size)).mono (by omega))⟩

end Go.Proofs.Ytngjakeofhmohaa
