/- Merged texts: Cb Gm Gn Go. -/
import Derived.Test.YtngjakeofhmohaaProg
import Derived.Test.YtngjakeofhmohaaVisitOnceD

/- Walks: the document's Read. -/
namespace Go.Proofs.Ytngjakeofhmohaa
set_option linter.unusedSimpArgs false
set_option linter.unusedVariables false
open Go.RowKit Go.Shelf

set_option maxRecDepth 100000 in
set_option maxHeartbeats 1000000 in
theorem runpacked2_c (a s0 : Option Addr) (cap caps : Nat) (ws st : List Int) (B : Nat) (w : World) (hl : Wds B w a ws) (hU : U64 ws) (hS : Ints B w s0 st) (hB : B ≤ w.heap.size) (hn : ws.length ≤ 256) :
    Calls Try.prog 31 #[.slice a ws.length cap, .slice s0 st.length caps] w fun e w' => ∃ a' cap', e = .returned (.slice a' (ws.map (valW st)).length cap') ∧ ValsF w.heap.size w' a' (ws.map (valW st)) ∧ Below w.heap.size w w' := by
  obtain ⟨i0, hi, hz0, hz1, hz2⟩ := info_parts Try.info61'
  go_enter Try.func31, Try.ntmps31
  go_wp2
  go_loopw [5, 12] (fun s i wr => ∃ k : Nat, k ≤ ws.length ∧ i = .int .i64 k ∧ wr.ownsRow w.heap.size 61 2 s k (cellsV ((ws.map (valW st)).take k)) ∧ Below w.heap.size w wr) (fun _ i _ => ws.length - (intOf i).toNat)
  case atStart => exact ⟨0, Nat.zero_le _, rfl, by simpa [cellsV] using World.ownsRow_nil _ _ _ _, Below.refl _ _⟩
  case round =>
    obtain ⟨k, hk, rfl, hown, hb⟩ := hrel
    have hsz := hb.size
    by_cases hlt : k < ws.length
    · obtain ⟨b, off, rfl, hbB, hc⟩ := (hl.below (hb.mono hB)).at hlt
      have hu := hU _ (List.getElem_mem hlt)
      have HT := hide (fun r n => cells_take_succ (st := st) hlt (r := r) (n := n))
      generalize ws[k] = x at *
      cases hr : unRef x
      · have HT2 := hide (unhide HT _ _ (valW_num hr))
        have Hr := hide hr
        clear hr HT
        go_wp2_with (first
          | (go_at_call 26; go_must (refine (runpack_c x _ hu.1 hu.2).mono ?_); go_must (rintro e w3 ⟨he, hb3⟩; rw [unhide Hr] at he; subst he; have hs3 := hb3.size; have hown3 := ownsRow_below hown hb3))
          | (at_builtin; go_must (refine wpList_append_own _ rfl _ _ 41 rfl w.heap.size 61 i0 _ 2 16 Try.underlying41 hi hz0 hz1 hz2 rfl (by decide) _ _ _ rfl ((hown3.alloc _).alloc _) ⟨w3.heap.size + 1, 0, none⟩ 1 1 [.bool false, .int .i64 (unNum x)] rfl rfl (cell_two_at _ _ _ _ _ (by simp)) (by simp [Value.oneCell']) (by simp only [maxLen]; omega) (by omega) (by simp; omega) ?_); intro v' w1 hown' hgrow _))
        go_roundw
        case rel => exact ⟨k + 1, by omega, by go_num, by rw [unhide HT2]; exact hown', (((hb.trans (hb3.mono hsz)).alloc (by omega) _).alloc (by simp; omega) _).grown hgrow (by simp; omega) (fun q e => (hown3.lt q e).1)⟩
        case measure => simp [intOf]; omega
      · have HT2 := hide (unhide HT _ _ (valW_ref hr))
        have Hr := hide hr
        clear hr HT
        go_wp2_with (first
          | (go_at_call 26; go_must (refine (runpack_c x _ hu.1 hu.2).mono ?_); go_must (rintro e w3 ⟨he, hb3⟩; rw [unhide Hr] at he; subst he; have hs3 := hb3.size; have hown3 := ownsRow_below hown hb3; have hS3 := hS.below ((hb.mono hB).trans (hb3.mono (Nat.le_trans hB hsz)))))
          | (go_at_call 46; go_must (refine (place_c _ _ st (unNum x) B _ (hS3.below ((Below.refl _ _).alloc (by omega) _))).mono ?_); go_must (rintro e w4 ⟨he, hw4⟩; subst he; have hw4 := hw4.symm; subst hw4))
          | (at_builtin; go_must (refine wpList_append_own _ rfl _ _ 41 rfl w.heap.size 61 i0 _ 2 16 Try.underlying41 hi hz0 hz1 hz2 rfl (by decide) _ _ _ rfl ((hown3.alloc _).alloc _) ⟨w3.heap.size + 1, 0, none⟩ 1 1 [.bool true, .int .i64 (placeOf st (unNum x))] rfl rfl (cell_two_at _ _ _ _ _ (by simp)) (by simp [Value.oneCell']) (by simp only [maxLen]; omega) (by omega) (by simp; omega) ?_); intro v' w1 hown' hgrow _))
        go_roundw
        case rel => exact ⟨k + 1, by omega, by go_num, by rw [unhide HT2]; exact hown', (((hb.trans (hb3.mono hsz)).alloc (by omega) _).alloc (by simp; omega) _).grown hgrow (by simp; omega) (fun q e => (hown3.lt q e).1)⟩
        case measure => simp [intOf]; omega
    · obtain rfl : k = ws.length := by omega
      rw [List.take_of_length_le (by simp)] at hown
      obtain ⟨a', cap', hv, hV, hr9⟩ := vals_of_owns hown (by simp) (by omega)
      have HV : Hid (ValsF w.heap.size wr a' (ws.map (valW st))) := ⟨hV, hr9⟩
      clear hr9 hV
      subst hv
      go_wp2
      go_ret
      exact ⟨a', cap', rfl, unhide HV, hb⟩

/-- What an append of one object has made. -/
def Apd (wr : World) (gb k : Nat) (v : Value) (es : List Value) (lv : List V) (v10 : Value) (W : World) : Prop :=
  ∃ a7 c7 W1, ValsF wr.heap.size W1 a7 lv ∧ Below wr.heap.size wr W1 ∧ W.ownsRow (gb + 1) 79 1 v10 (k + 1) (es ++ [.slice a7 lv.length c7]) ∧ (W1.alloc (.cells #[.slice a7 lv.length c7] 79)).grownBy W v.ownBlock ∧ (v10.ownBlock = v.ownBlock ∨ v10.ownBlock = some (W1.alloc (.cells #[.slice a7 lv.length c7] 79)).heap.size)

def RdRes (fs : List (List Int)) (rs : List Int) (e : Ending) (W : World) : Prop :=
  ∃ ao co ar cr, e = .returned (.agg #[.slice ao (readG fs rs).objs.length co, .slice ar (readG fs rs).roots.length cr]) ∧ Objs W.heap.size W ao (readG fs rs).objs ∧ Vals W.heap.size W ar (readG fs rs).roots

set_option maxRecDepth 100000 in
set_option maxHeartbeats 8000000 in
theorem rread_c (aw ar : Option Addr) (cw cr : Nat) (ws rs : List Int) (fs : List (List Int)) (B : Nat) (w : World) (hW : Wds B w aw ws) (hR : Wds B w ar rs) (hUW : U64 ws) (hUR : U64 rs) (hB : B ≤ w.heap.size)
    (h256 : ws.length ≤ 256) (h8 : rs.length ≤ 8) (hs : splitR ws = some fs) :
    Calls Try.prog 17 #[.agg #[.slice aw ws.length cw, .slice ar rs.length cr]] w fun e w' => RdRes fs rs e w' ∧ Below w.heap.size w w' := by
  obtain ⟨i0, hi, hz0, hz1, hz2⟩ := info_parts Try.info79'
  have Hs := hide hs
  have htot := (splitR_st hs).1
  have hfl := tot_len fs
  clear hs
  obtain ⟨W4, hW4⟩ : ∃ W4, (w.alloc (.cells #[.slice aw ws.length cw, .slice ar rs.length cr] 24)).alloc (.cells #[.slice none 0 0, .slice none 0 0] 43) = W4 := ⟨_, rfl⟩
  have hbA : Below w.heap.size w W4 := by rw [← hW4]; exact ((Below.refl w.heap.size w).alloc (Nat.le_refl _) _).alloc (by simp) _
  have hs4 : w.heap.size + 1 < W4.heap.size := by rw [← hW4]; simp
  have q0 : W4.cell? ⟨w.heap.size + 1, 0, none⟩ = some (.slice none 0 0) := by rw [← hW4]; simp [go_sem]
  have q1 : W4.cell? ⟨w.heap.size + 1, 1, none⟩ = some (.slice none 0 0) := by rw [← hW4]; simp [go_sem]
  have f0 : W4.frozen? ⟨w.heap.size + 1, 0, none⟩ = false := by rw [← hW4]; simp [go_sem]
  have f1 : W4.frozen? ⟨w.heap.size + 1, 1, none⟩ = false := by rw [← hW4]; simp [go_sem]
  have g0 : W4.cell? ⟨w.heap.size, 0, none⟩ = some (.slice aw ws.length cw) := by rw [← hW4]; simp [go_sem]
  have g1 : W4.cell? ⟨w.heap.size, 1, none⟩ = some (.slice ar rs.length cr) := by rw [← hW4]; simp [go_sem]
  have Hcall := hide (rstarts_c aw cw ws B W4 (hW.below (hbA.mono hB)) hUW (by omega) h256)
  go_enter Try.func17, Try.ntmps17
  go_wp2_with fail
  refine (unhide Hcall).mono ?_
  rintro e w5 ⟨hres, hb5⟩
  obtain ⟨fs', sa, sc, he', hres⟩ := hres.resolve_left (fun h => by rw [unhide Hs] at h; cases h.1)
  rw [unhide Hs] at he'
  injection he' with he'
  subst he'
  obtain ⟨he, hI⟩ := hres
  subst he
  clear hW4 Hcall
  have hs5 := hb5.size
  replace q0 := (hb5.cell (p := ⟨w.heap.size + 1, 0, none⟩) (by simp; omega)).trans q0
  replace q1 := (hb5.cell (p := ⟨w.heap.size + 1, 1, none⟩) (by simp; omega)).trans q1
  replace f0 := (hb5.frozen (p := ⟨w.heap.size + 1, 0, none⟩) (by simp; omega)).trans f0
  replace f1 := (hb5.frozen (p := ⟨w.heap.size + 1, 1, none⟩) (by simp; omega)).trans f1
  replace g0 := (hb5.cell (p := ⟨w.heap.size, 0, none⟩) (by simp; omega)).trans g0
  replace g1 := (hb5.cell (p := ⟨w.heap.size, 1, none⟩) (by simp; omega)).trans g1
  have hbw5 : Below w.heap.size w w5 := hbA.trans (hb5.mono (by omega))
  have Hc2 := hide (runpacked2_c ar sa cr sc rs (stF 0 fs) w5.heap.size w5 ((hR.below (hbw5.mono hB)).mono (by omega)) hUR hI (Nat.le_refl _) (by omega))
  have HI := hide hI
  clear hbA hb5 hI
  go_wp2_with fail
  refine (unhide Hc2).mono ?_
  rintro e w6 ⟨ar6, cr6, he, hV6, hb6⟩
  subst he
  have hs6 := hb6.size
  replace q0 := (hb6.cell (p := ⟨w.heap.size + 1, 0, none⟩) (by simp; omega)).trans q0
  replace q1 := (hb6.cell (p := ⟨w.heap.size + 1, 1, none⟩) (by simp; omega)).trans q1
  replace f0 := (hb6.frozen (p := ⟨w.heap.size + 1, 0, none⟩) (by simp; omega)).trans f0
  replace f1 := (hb6.frozen (p := ⟨w.heap.size + 1, 1, none⟩) (by simp; omega)).trans f1
  replace g0 := (hb6.cell (p := ⟨w.heap.size, 0, none⟩) (by simp; omega)).trans g0
  have hbw6 : Below w.heap.size w w6 := hbw5.trans (hb6.mono (by omega))
  have HI6 := hide ((unhide HI).below hb6)
  have HV6 := hide hV6
  have Hst := hide (stF_len fs 0)
  have Hsg := hide (fun k hk => stF_get fs 0 k hk)
  clear Hc2 HI hV6 g1 hb6
  generalize hrl : (rs.map (valW (stF 0 fs))).length = rl at *
  have Hrl := hide hrl
  clear hrl
  go_wp2
  go_loopw [21] (fun i wr => ∃ (k : Nat) (x : Value) (es : List Value), k ≤ fs.length ∧ i = .int .i64 k ∧ Below w6.heap.size w6 wr ∧ wr.cell? ⟨w6.heap.size, 0, none⟩ = some x ∧ wr.frozen? ⟨w6.heap.size, 0, none⟩ = false ∧ wr.cell? ⟨w6.heap.size, 1, none⟩ = some (.slice ar6 rl cr6) ∧
        ObjRow wr (w6.heap.size + 1) x (objsOf (stF 0 fs) (fs.take k)) es) (fun i _ => fs.length - (intOf i).toNat)
  case atStart => exact ⟨0, .slice none 0 0, [], Nat.zero_le _, rfl, (Below.refl _ _).alloc (Nat.le_refl _) _, by simp [go_sem], by simp [go_sem], by simp [go_sem], objRow_nil _ _⟩
  case round =>
    obtain ⟨k, x, es, hk, rfl, hb, c0, cf0, c1, hrow⟩ := hrel
    have hsz := hb.size
    have hbwr : Below w.heap.size w wr := hbw6.trans (hb.mono (by have := hbw6.size; omega))
    have g0r := (hb.cell (p := ⟨w.heap.size, 0, none⟩) (by simp; omega)).trans g0
    have hqr : w.heap.size < wr.heap.size := by omega
    by_cases hlt : k < fs.length
    · obtain ⟨hp, hk1, hk2, hf0⟩ := split_obj (unhide Hs) hlt
      have hltS : k < (stF 0 fs).length := by rw [unhide Hst]; exact hlt
      obtain ⟨b, off, rfl, hbB, hc⟩ := ((unhide HI6).below (hb.mono (by omega))).at hltS
      have Hsk := hide (show (stF 0 fs)[k] = ((tot (fs.take k) : Nat) : Int) from by have := unhide Hsg k hlt; rw [List.getElem?_eq_getElem hltS, Option.some.injEq, Nat.zero_add] at this; exact this)
      rw [unhide Hsk] at hc
      have hkI : (k : Int) < ((stF 0 fs).length : Int) := by omega
      have hq : w6.heap.size < wr.heap.size := World.block_lt_of_cell? wr _ c0
      have HO := hide (objsOf_succ (stF 0 fs) hlt)
      have HLk := hide (show (objsOf (stF 0 fs) (fs.take k)).length = k by rw [objsOf_len, List.length_take]; omega)
      have hf4 : fs[k].length ≤ 4 := (splitR_st (unhide Hs)).2 _ (List.getElem_mem hlt)
      have hUf := u64_fields (unhide Hs) hUW _ (List.getElem_mem hlt)
      rw [← hf0] at HO hf4 hUf
      have HcF : Hid (∀ W, Below wr.heap.size wr W → Calls Try.prog 20 #[.slice aw ws.length cw, .int .i64 (tot (fs.take k) : Nat)] W fun e w' => ∃ a' cap', e = .returned (.slice a' (fieldsAt ws (tot (fs.take k))).length cap') ∧ Wds w'.heap.size w' a' (fieldsAt ws (tot (fs.take k))) ∧ Below W.heap.size W w') := fun W hbW => by
        refine (rfields_c aw cw ws B W ((hW.below (hbwr.mono hB)).below (hbW.mono (by omega))) hUW (by have := hbW.size; omega) h256 _ hp hk1 hk2).mono ?_
        rintro e w' ⟨a', c', h1, h2, h3, _⟩
        exact ⟨a', c', h1, h2, h3⟩
      have HIr := hide ((unhide HI6).below (hb.mono (by omega)))
      clear Hsk hk1 hk2 hf0 hp
      generalize fieldsAt ws (tot (fs.take k)) = f at *
      generalize tot (fs.take k) = p at *
      have hrr := hrow.row
      rw [unhide HLk] at hrr
      obtain ⟨ca, cc, rfl⟩ := ownsRow_slice hrr
      have hncb : Value.ownBlock (.slice ca k cc) ≠ some w6.heap.size := fun e => by have := (hrr.lt _ e).1; omega
      have HcU : Hid (∀ W a5 c5, Below wr.heap.size wr W → Wds W.heap.size W a5 f → Calls Try.prog 31 #[.slice a5 f.length c5, .slice (some ⟨b, off, none⟩) (stF 0 fs).length sc] W fun e w' => ∃ a' cap', e = .returned (.slice a' (f.map (valW (stF 0 fs))).length cap') ∧ ValsF W.heap.size w' a' (f.map (valW (stF 0 fs))) ∧ Below W.heap.size W w') := fun W a5 c5 hbW hW5 =>
        runpacked2_c a5 (some ⟨b, off, none⟩) c5 sc f (stF 0 fs) W.heap.size W hW5 hUf (((unhide HIr).below (hbW.mono (by omega))).mono (by have := hbW.size; omega)) (Nat.le_refl _) (by omega)
      have HRow := hide hrow
      clear hrow
      go_wp2
      refine wp_region_hoist _ [5, 7, 8, 9, 10, 12] (fun i => match i with
          | 0 => .pointer (some ⟨w6.heap.size, 0, none⟩)
          | 1 => .slice ca k cc
          | 2 => .pointer (some ⟨w.heap.size, 0, none⟩)
          | 3 => .slice aw ws.length cw
          | 4 => .int .i64 (p : Int)
          | 6 => .slice (some ⟨b, off, none⟩) (stF 0 fs).length sc
          | _ => .pointer (some ⟨w6.heap.size, 0, none⟩))
        (fun vs W => match vs with
          | [] => Below wr.heap.size wr W
          | [v5] => (∃ a5 c5, v5 = .slice a5 f.length c5 ∧ Wds W.heap.size W a5 f) ∧ Below wr.heap.size wr W
          | [v5, v7] => (∃ a7 c7, v7 = .slice a7 (f.map (valW (stF 0 fs))).length c7 ∧ ValsF wr.heap.size W a7 (f.map (valW (stF 0 fs)))) ∧ Below wr.heap.size wr W
          | [v5, v7, v8] => (∃ a7 c7, v8 = .agg #[.slice a7 (f.map (valW (stF 0 fs))).length c7] ∧ ValsF wr.heap.size W a7 (f.map (valW (stF 0 fs)))) ∧ Below wr.heap.size wr W
          | [v5, v7, v8, v9] => (∃ a7 c7 W1, v9 = .slice (some ⟨W1.heap.size, 0, none⟩) 1 1 ∧ W = W1.alloc (.cells #[.slice a7 (f.map (valW (stF 0 fs))).length c7] 79) ∧ ValsF wr.heap.size W1 a7 (f.map (valW (stF 0 fs))) ∧ Below wr.heap.size wr W1) ∧ Below wr.heap.size wr W
          | [v5, v7, v8, v9, v10] => Apd wr w6.heap.size k (.slice ca k cc) es (f.map (valW (stF 0 fs))) v10 W
          | [v5, v7, v8, v9, v10, v12] => Below w6.heap.size w6 W ∧ W.cell? ⟨w6.heap.size, 0, none⟩ = some v10 ∧ W.frozen? ⟨w6.heap.size, 0, none⟩ = false ∧ W.cell? ⟨w6.heap.size, 1, none⟩ = some (.slice ar6 rl cr6) ∧ ∃ es', ObjRow W (w6.heap.size + 1) v10 (objsOf (stF 0 fs) (fs.take (k + 1))) es'
          | _ => False) Try.mixed (laid_of (by kernel_rfl)) (Below.refl _ _).drew ?_ ?_ ?_
      · intro i o hio hiT vs a W K hGv hlate hag hdep hK
        have hBW4 : vs.length ≤ 4 → Below wr.heap.size wr W := by
          intro h4
          match vs, hGv, h4 with
          | [], h, _ => exact h
          | [_], h, _ => exact h.2
          | [_, _], h, _ => exact h.2
          | [_, _, _], h, _ => exact h.2
          | [_, _, _, _], h, _ => exact h.2
        have t1 := hag.tm (k := 1) (by simp [dsOf])
        have t3 := hag.tm (k := 3) (by simp [dsOf])
        have t5 := hag.tm (k := 5) (by simp [dsOf])
        have t7 := hag.tm (k := 7) (by simp [dsOf])
        simp at t1 t3 t5 t7
        rcases i with _ | _ | _ | _ | _ | _ | _ | _ | _ | _ | _ | _ | _ | i
        · cases hio
          clear hGv
          unfold Oper.wp
          go_simp
          exact hK
        · have hl4 : vs.length ≤ 4 := hlate 4 10 _ rfl rfl ⟨⟨1, .data⟩, by simp, rfl, rfl⟩
          have s25 : a.tmps[25]?.getD undef = .pointer (some ⟨w6.heap.size, 0, none⟩) := hdep ⟨0, .data⟩ (by cases hio; simp) rfl 25 rfl
          have hcW := ((hBW4 hl4).cell (p := ⟨w6.heap.size, 0, none⟩) hq).trans c0
          cases hio
          clear hGv
          unfold Oper.wp
          go_simp
          exact hK
        · cases hio
          clear hGv
          unfold Oper.wp
          go_simp
          exact hK
        · have hl0 : vs.length ≤ 0 := hlate 0 5 _ rfl rfl ⟨⟨3, .data⟩, by simp, rfl, rfl⟩
          have s27 : a.tmps[27]?.getD undef = .pointer (some ⟨w.heap.size, 0, none⟩) := hdep ⟨2, .data⟩ (by cases hio; simp) rfl 27 rfl
          have hcW := ((hBW4 (by omega)).cell (p := ⟨w.heap.size, 0, none⟩) hqr).trans g0r
          cases hio
          clear hGv
          unfold Oper.wp
          go_simp
          exact hK
        · cases hio
          clear hGv
          unfold Oper.wp
          go_simp
          exact hK
        · exact absurd (by simp) hiT
        · cases hio
          clear hGv
          unfold Oper.wp
          go_simp
          exact hK
        · exact absurd (by simp) hiT
        · exact absurd (by simp) hiT
        · exact absurd (by simp) hiT
        · exact absurd (by simp) hiT
        · cases hio
          clear hGv
          unfold Oper.wp
          go_simp
          exact hK
        · exact absurd (by simp) hiT
        · simp at hio
      · intro j i o hj hio vs a W K hvl hGv hag hdep hK
        rcases j with _ | _ | _ | _ | _ | _ | j
        · obtain rfl : 5 = i := by simpa using hj
          obtain rfl : vs = [] := List.length_eq_zero_iff.1 hvl
          have s28 : a.tmps[28]?.getD undef = .slice aw ws.length cw := hdep ⟨3, .data⟩ (by cases hio; simp) rfl 28 rfl
          have s29 : a.tmps[29]?.getD undef = .int .i64 (p : Int) := hdep ⟨4, .data⟩ (by cases hio; simp) rfl 29 rfl
          cases hio
          refine op_call 20 #[.slice aw ws.length cw, .int .i64 (p : Int)] (by go_simp) ?_
          have hBW : Below wr.heap.size wr W := hGv
          refine (unhide HcF W hBW).mono ?_
          rintro e w' ⟨a', c', rfl, h2, h3⟩
          exact ⟨_, rfl, hK _ _ ⟨⟨a', c', rfl, h2⟩, hBW.trans (h3.mono hBW.size)⟩⟩
        · obtain rfl : 7 = i := by simpa using hj
          obtain ⟨v5, rfl⟩ : ∃ v5, vs = [v5] := by
            match vs, hvl with
            | [v5], _ => exact ⟨v5, rfl⟩
          obtain ⟨⟨a5, c5, rfl, hW5⟩, hBW⟩ := hGv
          have s30 : a.tmps[30]?.getD undef = .slice a5 f.length c5 := hdep ⟨5, .data⟩ (by cases hio; simp) rfl 30 rfl
          have s31 : a.tmps[31]?.getD undef = .slice (some ⟨b, off, none⟩) (stF 0 fs).length sc := hdep ⟨6, .data⟩ (by cases hio; simp) rfl 31 rfl
          cases hio
          refine op_call 31 #[.slice a5 f.length c5, .slice (some ⟨b, off, none⟩) (stF 0 fs).length sc] (by go_simp) ?_
          refine (unhide HcU W a5 c5 hBW hW5).mono ?_
          rintro e w' ⟨a', c', rfl, h2, h3⟩
          exact ⟨_, rfl, hK _ _ ⟨⟨a', c', rfl, h2.base hBW.size⟩, hBW.trans (h3.mono hBW.size)⟩⟩
        · obtain rfl : 8 = i := by simpa using hj
          obtain ⟨v5, v7, rfl⟩ : ∃ v5 v7, vs = [v5, v7] := by
            match vs, hvl with
            | [v5, v7], _ => exact ⟨v5, v7, rfl⟩
          obtain ⟨⟨a7, c7, rfl, hV7⟩, hBW⟩ := hGv
          have s32 : a.tmps[32]?.getD undef = .slice a7 (f.map (valW (stF 0 fs))).length c7 := hdep ⟨7, .data⟩ (by cases hio; simp) rfl 32 rfl
          generalize (f.map (valW (stF 0 fs))) = lv at *
          cases hio
          unfold Oper.wp
          go_simp
          exact hK _ _ ⟨⟨a7, c7, rfl, hV7⟩, hBW⟩
        · obtain rfl : 9 = i := by simpa using hj
          obtain ⟨v5, v7, v8, rfl⟩ : ∃ v5 v7 v8, vs = [v5, v7, v8] := by
            match vs, hvl with
            | [v5, v7, v8], _ => exact ⟨v5, v7, v8, rfl⟩
          obtain ⟨⟨a7, c7, rfl, hV7⟩, hBW⟩ := hGv
          have s33 : a.tmps[33]?.getD undef = .agg #[.slice a7 (f.map (valW (stF 0 fs))).length c7] := hdep ⟨8, .data⟩ (by cases hio; simp) rfl 33 rfl
          generalize (f.map (valW (stF 0 fs))) = lv at *
          cases hio
          unfold Oper.wp
          go_simp
          exact hK _ _ ⟨⟨a7, c7, W, rfl, rfl, hV7, hBW⟩, hBW.alloc hBW.size _⟩
        · obtain rfl : 10 = i := by simpa using hj
          obtain ⟨v5, v7, v8, v9, rfl⟩ : ∃ v5 v7 v8 v9, vs = [v5, v7, v8, v9] := by
            match vs, hvl with
            | [v5, v7, v8, v9], _ => exact ⟨v5, v7, v8, v9, rfl⟩
          obtain ⟨⟨a7, c7, W1, rfl, rfl, hV7, hBW1⟩, hBW⟩ := hGv
          have s26 : a.tmps[26]?.getD undef = .slice ca k cc := hdep ⟨1, .data⟩ (by cases hio; simp) rfl 26 rfl
          have s34 : a.tmps[34]?.getD undef = .slice (some ⟨W1.heap.size, 0, none⟩) 1 1 := hdep ⟨9, .data⟩ (by cases hio; simp) rfl 34 rfl
          cases hio
          have hs1 := hBW1.size
          refine op_append (.tmp 26) (.tmp 34) 40 rfl (w6.heap.size + 1) 79 i0 _ 1 24 Try.underlying40 hi hz0 hz1 hz2 rfl (by decide) (.slice ca k cc) k es (by simpa [Act.eval] using s26) ((ownsRow_below hrr hBW1).alloc _) ⟨W1.heap.size, 0, none⟩ 1 1 [.slice a7 (f.map (valW (stF 0 fs))).length c7] (by simpa [Act.eval] using s34) rfl (cell_one_at _ _ _ _ rfl) (by simp [Value.oneCell']) (by simp only [maxLen]; omega) (by omega) (by simp; omega) ?_
          intro v10 w10 hrow10 hg10 hat10
          exact hK _ _ ⟨a7, c7, W1, hV7, hBW1, hrow10, hg10, hat10⟩
        · obtain rfl : 12 = i := by simpa using hj
          obtain ⟨v5, v7, v8, v9, v10, rfl⟩ : ∃ v5 v7 v8 v9 v10, vs = [v5, v7, v8, v9, v10] := by
            match vs, hvl with
            | [v5, v7, v8, v9, v10], _ => exact ⟨v5, v7, v8, v9, v10, rfl⟩
          obtain ⟨a7, c7, W1, hV7, hBW1, hrow10, hg10, hat10⟩ := hGv
          have hs1 := hBW1.size
          obtain ⟨g7, cap7, hv7⟩ := ownsRow_succ hrow10
          subst hv7
          have s35 : a.tmps[35]?.getD undef = .slice (some ⟨g7, 0, none⟩) (k + 1) cap7 := hdep ⟨10, .data⟩ (by cases hio; simp) rfl 35 rfl
          have s36 : a.tmps[36]?.getD undef = .pointer (some ⟨w6.heap.size, 0, none⟩) := hdep ⟨11, .data⟩ (by cases hio; simp) rfl 36 rfl
          have hblk : W.heap[w6.heap.size]? = wr.heap[w6.heap.size]? := (hg10.block w6.heap.size (by simp; omega) (fun e => hncb e.symm)).trans ((Below.heap_alloc W1 _ _ (by omega)).trans (hBW1.block _ hq))
          have e0 := (World.cell?_of_block (a := ⟨w6.heap.size, 0, none⟩) hblk).trans c0
          have e1 := (World.cell?_of_block (a := ⟨w6.heap.size, 1, none⟩) hblk).trans c1
          have ef := (World.frozen?_of_block (a := ⟨w6.heap.size, 0, none⟩) hblk).trans cf0
          obtain ⟨r1, r2⟩ := obj_step (l := f.map (valW (stF 0 fs))) (ci := c7) (unhide HRow) (by omega) hV7.1 hBW1 hV7.2 (by rw [unhide HLk]; exact hrow10) hg10 hat10 rfl
          cases hio
          clear hrow10 hg10 hat10 hV7 hblk
          unfold Oper.wp
          go_simp
          refine hK undef _ ⟨hb.trans r2, World.cell?_setCell_same' _ _ _ (by rw [e0]; rfl), by rw [World.frozen?_setCell]; exact ef, ?_, _, by rw [unhide HO]; exact r1⟩
          rw [World.cell?_setCell_other _ _ _ _ (by simp)]
          exact e1
        · simp at hj
      · intro vs W hvl hGv
        obtain ⟨v5, v7, v8, v9, v10, v12, rfl⟩ : ∃ v5 v7 v8 v9 v10 v12, vs = [v5, v7, v8, v9, v10, v12] := by
          match vs, hvl with
          | [v5, v7, v8, v9, v10, v12], _ => exact ⟨v5, v7, v8, v9, v10, v12, rfl⟩
        obtain ⟨h1, h2, h3, h4, es', h5⟩ := hGv
        simp only [List.length_cons, List.length_nil, Nat.reduceAdd]
        simp [endAct, dstAt, valAt, List.idxOf?, List.findIdx?, List.findIdx?.go, Act.put]
        go_wp2
        go_roundw
        case rel => exact ⟨k + 1, v10, es', by omega, by go_num, h1, h2, h3, h4, h5⟩
        case measure => simp [intOf]; omega
    · obtain rfl : k = fs.length := by omega
      rw [List.take_length] at hrow
      have hkI : ¬ ((fs.length : Int) < ((stF 0 fs).length : Int)) := by rw [unhide Hst]; omega
      have hol := objsOf_len (stF 0 fs) fs
      obtain ⟨va', vc', hv, hO⟩ := hrow.objs (by omega)
      subst hv
      have HR := hide hrow
      have Hol := hide hol
      clear hO hrow hol
      replace q0 := (hb.cell (p := ⟨w.heap.size + 1, 0, none⟩) (by simp; omega)).trans q0
      replace q1 := (hb.cell (p := ⟨w.heap.size + 1, 1, none⟩) (by simp; omega)).trans q1
      replace f0 := (hb.frozen (p := ⟨w.heap.size + 1, 0, none⟩) (by simp; omega)).trans f0
      replace f1 := (hb.frozen (p := ⟨w.heap.size + 1, 1, none⟩) (by simp; omega)).trans f1
      generalize hL : objsOf (stF 0 fs) fs = L at *
      have HL := hide hL
      clear hL
      go_wp2
      refine bodyPost_ret (v := .agg #[.slice va' L.length vc', .slice ar6 rl cr6]) (by simp [results, Try.results17, go_sem, q0, q1]) rfl ?_
      have hO := ((unhide HR).setCell (p := ⟨w.heap.size + 1, 0, none⟩) (by simp; omega) (.slice va' L.length vc')).setCell (p := ⟨w.heap.size + 1, 1, none⟩) (by simp; omega) (.slice ar6 rl cr6)
      obtain ⟨va2, vc2, hv2, hO2⟩ := hO.objs (by rw [unhide Hol]; omega)
      injection hv2 with e1 _ e3
      subst e1 e3
      have hVF := ((((unhide HV6).below hb).setCell (p := ⟨w.heap.size + 1, 0, none⟩) (by simp; omega) (.slice va' L.length vc')).setCell (p := ⟨w.heap.size + 1, 1, none⟩) (by simp; omega) (.slice ar6 rl cr6))
      refine ⟨⟨va', vc', ar6, cr6, ?_, ?_, hVF.1⟩, (hbwr.setCell (p := ⟨w.heap.size + 1, 0, none⟩) (by simp) _).setCell (p := ⟨w.heap.size + 1, 1, none⟩) (by simp) _⟩
      · have e1 : (readG fs rs).objs = L := unhide HL
        have e2 : (readG fs rs).roots.length = rl := unhide Hrl
        rw [e1, e2]
      · have e1 : (readG fs rs).objs = L := unhide HL
        rw [e1]; exact hO2

end Go.Proofs.Ytngjakeofhmohaa

/- Walks: hasWord. -/
namespace Go.Proofs.Ytngjakeofhmohaa
set_option linter.unusedSimpArgs false
set_option linter.unusedVariables false
open Go.RowKit Go.Shelf

set_option maxRecDepth 100000 in
set_option maxHeartbeats 1000000 in
theorem hasWord_c (a : Option Addr) (cap : Nat) (l : List Int) (p : Nat) (B : Nat) (w : World) (hl : Wds B w a l) (hp : p < 256) :
    Calls Try.prog 19 #[.slice a l.length cap, .int .i64 (p : Nat)] w fun e w' => e = .returned (.bool (decide (2 * (p : Int) ∈ l))) ∧ w' = w := by
  have hlen := hl.1
  have hw1 : IntKind.u64.wrap (p : Int) = (p : Int) := by rw [IntKind.wrap_u64]; omega
  have hw2 : IntKind.u64.wrap ((p : Int) * 2) = (p : Int) * 2 := by rw [IntKind.wrap_u64]; omega
  have hx2 : (p : Int) * 2 = 2 * (p : Int) := by omega
  rw [← hx2]
  clear hx2
  go_enter Try.func19, Try.ntmps19
  go_wp2
  go_loop [9] (fun i => ∃ k : Nat, k ≤ l.length ∧ i = .int .i64 k ∧ Hid ((p : Int) * 2 ∉ l.take k)) (fun i => l.length - (intOf i).toNat)
  case atStart => exact ⟨0, Nat.zero_le _, rfl, by show (p : Int) * 2 ∉ l.take 0; simp⟩
  case round =>
    obtain ⟨k, hk, rfl, Hno⟩ := hrel
    by_cases hlt : k < l.length
    · obtain ⟨b, off, rfl, hbB, hc⟩ := hl.at hlt
      have HT := hide (mem_take_succ hlt ((p : Int) * 2))
      have HM := hide (List.getElem_mem hlt)
      generalize l[k] = y at *
      by_cases hxy : y = (p : Int) * 2
      · have d : (y == (p : Int) * 2) = true := by simpa using hxy
        have Hxy := hide hxy
        clear hxy
        go_wp2
        go_ret
        exact ⟨ret_bool (Eq.symm (decide_eq_true (by have := unhide HM; rw [unhide Hxy] at this; exact this))), rfl⟩
      · have d : (y == (p : Int) * 2) = false := by simpa using hxy
        go_wp2
        go_round
        case rel => exact ⟨k + 1, by omega, by go_num, fun h => by rcases (unhide HT).1 h with h | h; exact unhide Hno h; exact hxy h.symm⟩
        case measure => simp [intOf]; omega
    · obtain rfl : k = l.length := by omega
      have hno := unhide Hno
      rw [List.take_length] at hno
      have Hno2 := hide hno
      clear hno
      go_wp2
      go_ret
      exact ⟨ret_bool (Eq.symm (decide_eq_false (unhide Hno2))), rfl⟩

end Go.Proofs.Ytngjakeofhmohaa

/- Walks: VisitOnce. -/
namespace Go.Proofs.Ytngjakeofhmohaa
set_option linter.unusedSimpArgs false
set_option linter.unusedVariables false
open Go.RowKit Go.Shelf

/-- As many as can be come to. -/
theorem reach_len {hs : List Int} {fs : List (List Int)} {rs : List Int} (h : Arn hs fs rs) : (reachK (readG fs rs) (readG fs rs).objs.length).length = (visL fs rs).length := by
  have h1 := visL_ok h
  have hm := mem_reachK h
  unfold reachK at hm ⊢
  rw [List.length_map]
  have hm' : ∀ j : Nat, j ∈ (List.range (readG fs rs).objs.length).filter (fun (i : Nat) => decide (0 ≤ dG (readG fs rs) i)) ↔ Rch fs rs j := fun j => by
    rw [← hm j, List.mem_map]
    constructor
    · intro hj; exact ⟨j, hj, rfl⟩
    · rintro ⟨i, hi, e⟩
      have : i = j := by omega
      subst this
      exact hi
  apply Nat.le_antisymm
  · exact nodup_sub_len _ _ (List.Pairwise.sublist List.filter_sublist List.nodup_range) (fun j hj => (h1.2.1 j).2 ((hm' j).1 hj))
  · exact nodup_sub_len _ _ h1.1 (fun j hj => (hm' j).2 ((h1.2.1 j).1 hj))

theorem to_word {fs : List (List Int)} {l : List Int} {j : Nat} (hU : U64 l) (hok : ∀ x ∈ l, okW (stF 0 fs) x = true) (hj : j < fs.length) (h : To fs l j) : 2 * ((tot (fs.take j) : Nat) : Int) ∈ l := by
  obtain ⟨x, hx, hr, hn⟩ := h
  have h1 := stF_get fs 0 j hj
  rw [Nat.zero_add, hn] at h1
  injection h1 with h1
  have := ref_word (hU x hx).1 (hU x hx).2 (ok_ref (hok x hx)).1 hr h1
  rw [← this]
  exact hx

/-- Does a root refer to p, or a field of one of the first k that were come to? -/
def bF (fs : List (List Int)) (rs : List Int) (O : List Nat) (p : Nat) (k : Nat) : Bool := decide (2 * (p : Int) ∈ rs) || (O.take k).any fun m => decide (2 * (p : Int) ∈ fs.getD m [])

theorem bF_zero (fs : List (List Int)) (rs : List Int) (O : List Nat) (p : Nat) : bF fs rs O p 0 = decide (2 * (p : Int) ∈ rs) := by simp [bF]
theorem bF_succ {fs : List (List Int)} {rs : List Int} {O : List Nat} {p k m : Nat} {f : List Int} (hk : O[k]? = some m) (hf : fs[m]? = some f) (h : bF fs rs O p k = false) : bF fs rs O p (k + 1) = decide (2 * (p : Int) ∈ f) := by
  have hlt := (List.getElem?_eq_some_iff.1 hk).1
  have he : O[k] = m := (List.getElem?_eq_some_iff.1 hk).2
  unfold bF at h ⊢
  rw [List.take_succ_eq_append_getElem hlt, he, List.any_append, ← Bool.or_assoc, h]
  simp [hf]

theorem bF_end {hs : List Int} {fs : List (List Int)} {rs : List Int} (h : Arn hs fs rs) {i j : Nat} (hi : (visL fs rs)[i]? = some j) : bF fs rs (visL fs rs) (tot (fs.take j)) i = true := by
  have hj := visL_lt h (List.mem_of_getElem? hi)
  unfold bF
  rcases (visL_ok h).2.2 i j hi with h1 | ⟨k, m, f, h1, h2, h3, h4⟩
  · have := to_word h.ur h.okr hj h1
    simp [this]
  · have hm := List.mem_of_getElem? h3
    have h5 := to_word (h.uf f hm) (h.okf f hm) hj h4
    rw [Bool.or_eq_true]
    refine .inr (List.any_eq_true.2 ⟨m, ?_, ?_⟩)
    · refine List.mem_of_getElem? (i := k) ?_
      rw [List.getElem?_take, if_pos h1]
      exact h2
    · rw [getD_of h3]
      simpa using h5

theorem fields_is {hs : List Int} {fs : List (List Int)} (hF : Fit hs fs) {m : Nat} {f : List Int} (hf : fs[m]? = some f) : fieldsAt (joinW hs fs) (tot (fs.take m)) = f ∧ ∃ (hp : tot (fs.take m) < (joinW hs fs).length), unheadOk (joinW hs fs)[tot (fs.take m)] = true ∧ tot (fs.take m) + 1 + wlen (joinW hs fs)[tot (fs.take m)] ≤ (joinW hs fs).length := by
  have hm := (List.getElem?_eq_some_iff.1 hf).1
  have he : fs[m] = f := (List.getElem?_eq_some_iff.1 hf).2
  obtain ⟨x, hx, h1, h2, _⟩ := fit_at hF hm
  have hg := joinW_get hs fs m hF.len hm
  rw [hx] at hg
  have hp := (List.getElem?_eq_some_iff.1 hg).1
  have hgx : (joinW hs fs)[tot (fs.take m)] = x := (List.getElem?_eq_some_iff.1 hg).2
  have hl := joinW_len hs fs hF.len
  have ht := tot_take_succ hm
  have hle := tot_take_le fs (m + 1)
  rw [he] at h2 ht
  refine ⟨?_, hp, by rw [hgx]; exact h1, by rw [hgx, h2, hl]; omega⟩
  unfold fieldsAt
  rw [List.getD_eq_getElem?_getD, hg, Option.getD_some, h2]
  exact joinW_fields hs fs m f hF.len hf

theorem plc_get {fs : List (List Int)} {O : List Nat} {i : Nat} (hi : i < (plc fs O).length) : ∃ j, O[i]? = some j ∧ (plc fs O)[i] = ((tot (fs.take j) : Nat) : Int) := by
  have hi' : i < O.length := by rw [plc_len] at hi; exact hi
  exact ⟨O[i], List.getElem?_eq_getElem hi', by simp [plc]⟩

theorem plc_fresh {hs : List Int} {fs : List (List Int)} {rs : List Int} (h : Arn hs fs rs) {i j : Nat} (hi : (visL fs rs)[i]? = some j) : ((tot (fs.take j) : Nat) : Int) ∉ (plc fs (visL fs rs)).take i := by
  intro hm
  obtain ⟨k, hk⟩ := List.getElem?_of_mem hm
  rw [List.getElem?_take] at hk
  split at hk
  · rename_i hki
    have hkl := (List.getElem?_eq_some_iff.1 hk).1
    obtain ⟨m, h1, h2⟩ := plc_get hkl
    rw [List.getElem?_eq_getElem hkl, h2] at hk
    injection hk with hk
    have : m = j := pl_inj (visL_lt h (List.mem_of_getElem? h1)) (visL_lt h (List.mem_of_getElem? hi)) (by omega)
    subst this
    have hil := (List.getElem?_eq_some_iff.1 hi).1
    have := (List.getElem?_inj (l := visL fs rs) (i := k) (j := i) (by omega) (visL_ok h).1).1 (h1.trans hi.symm)
    omega
  · cases hk

theorem stF_has {fs : List (List Int)} {j : Nat} (hj : j < fs.length) : ((tot (fs.take j) : Nat) : Int) ∈ stF 0 fs := by
  have := stF_get fs 0 j hj
  rw [Nat.zero_add] at this
  exact List.mem_of_getElem? this

end Go.Proofs.Ytngjakeofhmohaa

/- Walks: VisitOnce. -/
namespace Go.Proofs.Ytngjakeofhmohaa
set_option linter.unusedSimpArgs false
set_option linter.unusedVariables false
open Go.RowKit Go.Shelf

theorem ints_take {B b off : Nat} {w : World} {l : List Int} (h : Ints B w (some ⟨b, off, none⟩) l) (i : Nat) : Ints B w (some ⟨b, off, none⟩) (l.take i) := by
  refine ⟨by have := h.1; rw [List.length_take]; omega, fun hne => ?_⟩
  obtain ⟨b', off', e, hB, hc⟩ := h.2 (by rintro rfl; simp at hne)
  injection e with e
  injection e with e1 e2
  subst e1 e2
  refine ⟨b, off, rfl, hB, fun k v hk => ?_⟩
  rw [List.getElem?_take] at hk
  split at hk
  · exact hc k v hk
  · cases hk

set_option maxRecDepth 100000 in
set_option maxHeartbeats 4000000 in
theorem once_c (aw ar : Option Addr) (cw cr : Nat) (ws rs : List Int) (w : World) (hW : Wds w.heap.size w aw ws) (hR : Wds w.heap.size w ar rs) (hUW : U64 ws) (hUR : U64 rs) (hcap : ws.length ≤ cw) :
    Calls Try.prog 5 #[.agg #[.slice aw ws.length cw, .slice ar rs.length cr]] w fun e w' => e = .returned (.bool true) ∧ Below w.heap.size w w' := by
  obtain ⟨W1, hW1⟩ : ∃ W1, w.alloc (.cells #[.slice aw ws.length cw, .slice ar rs.length cr] 24) = W1 := ⟨_, rfl⟩
  have hb1 : Below w.heap.size w W1 := by rw [← hW1]; exact (Below.refl w.heap.size w).alloc (Nat.le_refl _) _
  have hs1 : w.heap.size < W1.heap.size := by rw [← hW1]; simp
  have g0 : W1.cell? ⟨w.heap.size, 0, none⟩ = some (.slice aw ws.length cw) := by rw [← hW1]; simp [go_sem]
  have g1 : W1.cell? ⟨w.heap.size, 1, none⟩ = some (.slice ar rs.length cr) := by rw [← hW1]; simp [go_sem]
  have Hc1 := hide (sound_c aw ar cw cr ws rs w.heap.size W1 (hW.below hb1) (hR.below hb1) hUW hUR (by omega))
  go_enter Try.func5, Try.ntmps5
  go_wp2_with fail
  refine (unhide Hc1).mono ?_
  rintro e w2 ⟨rfl, hb2⟩
  clear hW1 Hc1
  have hs2 := hb2.size
  have hbw2 : Below w.heap.size w w2 := hb1.trans (hb2.mono (by omega))
  replace g0 := (hb2.cell (p := ⟨w.heap.size, 0, none⟩) hs1).trans g0
  replace g1 := (hb2.cell (p := ⟨w.heap.size, 1, none⟩) hs1).trans g1
  have hl2 : w.heap.size < w2.heap.size := by omega
  by_cases hE : arenaE ws rs = 0
  · have d0 : (arenaE ws rs == 0) = true := by simp [hE]
    rw [d0]
    have HE := hide hE
    have Hc2 := hide (visit_c aw ar cw cr ws rs w.heap.size w2 (hW.below hbw2) (hR.below hbw2) hUW hUR (by omega) hcap)
    clear hb1 hb2 hE d0
    go_wp2_with fail
    refine (unhide Hc2).mono ?_
    rintro e w3 ⟨hres, hb3⟩
    have hs3 := hb3.size
    rcases hres with ⟨h1, _⟩ | ⟨_, hs, fs, a, c, a', c', o, oc, hA, hws, he, _, _, _, hO, hoc⟩
    · exact absurd (unhide HE) h1
    subst he
    have hjl := joinW_len hs fs hA.fit.len
    rw [← hws] at hjl
    have h256 : ws.length ≤ 256 := by rw [hjl]; exact hA.n256
    have h8 := hA.n8
    have hsp : splitR ws = some fs := by rw [hws]; exact fit_split hA.fit
    have HA := hide hA
    have Hws := hide hws
    have Hsp := hide hsp
    have Hjl := hide hjl
    clear Hc2 hws hA hsp hjl
    obtain ⟨W3, hW3⟩ : ∃ W3, w3.alloc (.cells #[.slice a (mW hs fs (visP fs rs)).length c, .slice a' rs.length c'] 24) = W3 := ⟨_, rfl⟩
    have hb3' : Below w3.heap.size w3 W3 := by rw [← hW3]; exact (Below.refl _ w3).alloc (Nat.le_refl _) _
    have hs3' : w3.heap.size < W3.heap.size := by rw [← hW3]; simp
    replace g0 := (hb3'.cell (p := ⟨w.heap.size, 0, none⟩) (by simp; omega)).trans ((hb3.cell (p := ⟨w.heap.size, 0, none⟩) hl2).trans g0)
    replace g1 := (hb3'.cell (p := ⟨w.heap.size, 1, none⟩) (by simp; omega)).trans ((hb3.cell (p := ⟨w.heap.size, 1, none⟩) hl2).trans g1)
    have hbW3 : Below w.heap.size w W3 := (hbw2.trans (hb3.mono (by omega))).trans (hb3'.mono (by omega))
    have hwW3 : w.heap.size < W3.heap.size := by omega
    have HO := hide ((hO.below hb3').mono (Nat.le_of_lt hs3'))
    have Hc3 := hide (rstarts_c aw cw ws w.heap.size W3 (hW.below hbW3) hUW (by omega) h256)
    clear hb3 hbw2 hb3' hO
    go_wp2_with fail
    refine (unhide Hc3).mono ?_
    rintro e w4 ⟨hres, hb4⟩
    obtain ⟨sa, sc, he, hSI⟩ : ∃ sa sc, e = .returned (.tuple #[.slice sa (stF 0 fs).length sc, .bool true]) ∧ Ints w4.heap.size w4 sa (stF 0 fs) := by
      rcases hres with ⟨h1, _⟩ | ⟨fs2, sa, sc, h1, h2, h3⟩
      · rw [unhide Hsp] at h1; cases h1
      · rw [unhide Hsp] at h1
        injection h1 with h1
        subst h1
        exact ⟨sa, sc, h2, h3⟩
    subst he
    have hs4 := hb4.size
    replace g0 := (hb4.cell (p := ⟨w.heap.size, 0, none⟩) hwW3).trans g0
    replace g1 := (hb4.cell (p := ⟨w.heap.size, 1, none⟩) hwW3).trans g1
    have hw4 : w.heap.size < w4.heap.size := by omega
    have hbW4 : Below w.heap.size w w4 := hbW3.trans (hb4.mono (by omega))
    have HO4 := hide (((unhide HO).below hb4).mono hs4)
    have HS4 := hide hSI
    have Hc4 := hide (rread_c aw ar cw cr ws rs fs w.heap.size w4 (hW.below hbW4) (hR.below hbW4) hUW hUR (by omega) h256 h8 (unhide Hsp))
    clear hres Hc3 HO hSI hb4 hbW3 hW3
    go_wp2_with fail
    refine (unhide Hc4).mono ?_
    rintro e w5 ⟨⟨go, gc, gr, gk, he, hgo, hgr⟩, hb5⟩
    subst he
    have hs5 := hb5.size
    have Hc5 := hide (refReach_c go gr gc gk (readG fs rs) w5.heap.size w5 hgo hgr (Nat.le_refl _) (good_read (unhide HA)))
    have hbW5 : Below w.heap.size w w5 := hbW4.trans (hb5.mono (by omega))
    clear Hc4 hgo hgr
    go_wp2_with fail
    refine (unhide Hc5).mono ?_
    rintro e w6 ⟨ra, rc, he, _, hb6⟩
    rw [reach_len (unhide HA)] at he
    subst he
    have hs6 := hb6.size
    have hb46 : Below w4.heap.size w4 w6 := hb5.trans (hb6.mono hs5)
    replace g0 := (hb46.cell (p := ⟨w.heap.size, 0, none⟩) hw4).trans g0
    replace g1 := (hb46.cell (p := ⟨w.heap.size, 1, none⟩) hw4).trans g1
    have hw6 : w.heap.size < w6.heap.size := by omega
    have hbW6 : Below w.heap.size w w6 := hbW4.trans (hb46.mono (by omega))
    have HO6 := hide ((unhide HO4).below hb46)
    have HS6 := hide ((unhide HS4).below hb46)
    have hpl := plc_len fs (visL fs rs)
    rw [hpl]
    have Hpl := hide hpl
    have hvl : (visL fs rs).length ≤ 256 := by have := visL_len (unhide HA); have := (unhide HA).n256; omega
    have hoc' : (visL fs rs).length ≤ oc := by rw [← hpl]; exact hoc
    have hsl := stF_len fs 0
    rw [hsl]
    have Hsl := hide hsl
    clear hpl hsl hoc Hc5 hb5 hb6 hbW4 hbW5 HO4 HS4
    generalize hnn : (visL fs rs).length = nv at *
    have Hnn := hide hnn
    clear hnn
    have dnn : ((nv : Int) != (nv : Int)) = false := by simp
    go_wp2
    go_loopw [8] (fun s wr => ∃ i : Nat, i ≤ nv ∧ s = .int .i64 i ∧ Below w6.heap.size w6 wr) (fun s _ => nv - (intOf s).toNat)
    case atStart => exact ⟨0, Nat.zero_le _, rfl, Below.refl _ _⟩
    case round =>
      obtain ⟨WR, hWR⟩ : ∃ WR, WR = wr := ⟨_, rfl⟩
      subst hWR
      obtain ⟨i, hi, rfl, hb⟩ := hrel
      have hsr := hb.size
      by_cases hlt : i < nv
      · have hlt' : i < (plc fs (visL fs rs)).length := by rw [unhide Hpl]; exact hlt
        have hOr := (unhide HO6).below (hb.mono (by omega))
        obtain ⟨j, hj, hje⟩ := plc_get hlt'
        obtain ⟨bo, oo, rfl, hbo, hco⟩ := hOr.at hlt'
        rw [hje] at hco
        have hjl := visL_lt (unhide HA) (List.mem_of_getElem? hj)
        have hp256 : tot (fs.take j) < 256 := by have := place_lt hjl; have := (unhide HA).n256; omega
        have HOr := hide hOr
        have Hin := hide (decide_eq_true (stF_has hjl))
        have Hout := hide (decide_eq_false (plc_fresh (unhide HA) hj))
        have Hend := hide (bF_end (unhide HA) hj)
        have Htl : Hid (((plc fs (visL fs rs)).take i).length = i) := by show _ = _; rw [List.length_take]; omega
        have hbo' : bo < WR.heap.size := by omega
        have hiI : (i : Int) < (nv : Int) := by omega
        have hioc : (i : Int) ≤ (oc : Int) := by omega
        clear hOr hje hj hjl
        generalize tot (fs.take j) = p at *
        have Hh1 : Hid (∀ W, Below WR.heap.size WR W → Calls Try.prog 18 #[.slice sa fs.length sc, .int .i64 (p : Nat)] W fun e w' => e = .returned (.bool true) ∧ w' = W) := fun W hbW => by
          have := has_c sa sc (stF 0 fs) (p : Int) w4.heap.size W (((unhide HS6).below (hb.mono (by omega))).below (hbW.mono (by omega)))
          rw [unhide Hin, unhide Hsl] at this
          exact this
        have Hh2 : Hid (∀ W, Below WR.heap.size WR W → Calls Try.prog 18 #[.slice (some ⟨bo, oo, none⟩) i oc, .int .i64 (p : Nat)] W fun e w' => e = .returned (.bool false) ∧ w' = W) := fun W hbW => by
          have := has_c (some ⟨bo, oo, none⟩) oc ((plc fs (visL fs rs)).take i) (p : Int) w4.heap.size W ((ints_take (unhide HOr) i).below (hbW.mono (by omega)))
          rw [unhide Hout, unhide Htl] at this
          exact this
        clear Hin Hout
        go_upto_region 10 with fail
        go_quiet (first | (go_at_call_of 18 sc; refine Calls.quiet_of_same (unhide Hh1 _ (below_drewN (Below.refl _ _) _))) | (go_at_call_of 18 oc; refine Calls.quiet_of_same (unhide Hh2 _ (below_drewN (Below.refl _ _) _))))
        have hb7 := below_drewN (Below.refl WR.heap.size WR) nq
        clear Hh1 Hh2
        have Hh3 : Hid (∀ W, Below WR.heap.size WR W → Calls Try.prog 19 #[.slice ar rs.length cr, .int .i64 (p : Nat)] W fun e w' => e = .returned (.bool (bF fs rs (visL fs rs) p 0)) ∧ w' = W) := fun W hbW => by
          have := hasWord_c ar cr rs p w.heap.size W (((hR.below hbW6).below (hb.mono (by omega))).below (hbW.mono (by omega))) hp256
          rw [← bF_zero fs rs (visL fs rs) p] at this
          exact this
        have gr0 := (hb.cell (p := ⟨w.heap.size, 0, none⟩) hw6).trans g0
        have gr1 := (hb.cell (p := ⟨w.heap.size, 1, none⟩) hw6).trans g1
        have hwr : w.heap.size < WR.heap.size := by omega
        have Hcells : Hid (∀ W, Below WR.heap.size WR W → W.cell? ⟨w.heap.size, 0, none⟩ = some (.slice aw ws.length cw) ∧ W.cell? ⟨w.heap.size, 1, none⟩ = some (.slice ar rs.length cr) ∧ W.cell? ⟨bo, oo + i, none⟩ = some (.int .i64 (p : Nat)) ∧ w.heap.size < W.heap.size ∧ bo < W.heap.size) := fun W hbW => ⟨(hbW.cell (p := ⟨w.heap.size, 0, none⟩) hwr).trans gr0, (hbW.cell (p := ⟨w.heap.size, 1, none⟩) hwr).trans gr1, (hbW.cell (p := ⟨bo, oo + i, none⟩) hbo').trans hco, by have := hbW.size; omega, by have := hbW.size; omega⟩
        obtain ⟨e0, e1, e2, e3, e4⟩ := unhide Hcells _ hb7
        clear gr0 gr1 hco hbo' hwr
        generalize WR.drewN nq = w7 at *
        have hs7 := hb7.size
        go_upto_region 12 with fail
        go_quiet ((go_at_call 19; refine Calls.quiet_of_same (unhide Hh3 _ (below_drewN hb7 _))))
        have hb8 := below_drewN hb7 nq
        clear Hh3 e0 e1 e2 e3 e4 hb7
        generalize w7.drewN nq = w8 at *
        have hs8 := hb8.size
        go_wp2
        go_loopw [9, 10] (fun s9 s10 wr => ∃ k : Nat, k ≤ i ∧ s10 = .int .i64 k ∧ s9 = .bool (bF fs rs (visL fs rs) p k) ∧ Below WR.heap.size WR wr) (fun _ s10 _ => i - (intOf s10).toNat)
        case atStart => exact ⟨0, Nat.zero_le _, rfl, rfl, hb8⟩
        case round =>
          obtain ⟨k, hk, rfl, rfl, hby⟩ := hrel
          have hsy := hby.size
          cases hbk : bF fs rs (visL fs rs) p k
          · have hki : k < i := by
              refine Nat.lt_of_le_of_ne hk fun e => ?_
              subst e
              rw [unhide Hend] at hbk
              cases hbk
            have hkl : k < (plc fs (visL fs rs)).length := by rw [unhide Hpl]; omega
            obtain ⟨m, hm, hme⟩ := plc_get hkl
            have hml := visL_lt (unhide HA) (List.mem_of_getElem? hm)
            have hmf : fs[m]? = some fs[m] := List.getElem?_eq_getElem hml
            obtain ⟨bo2, oo2, hee, hbo2, hck⟩ := (unhide HOr).at hkl
            injection hee with hee
            injection hee with h1 h2
            subst h1 h2
            rw [hme] at hck
            have Hbs := hide (bF_succ hm hmf hbk)
            obtain ⟨hfi, hfp, hfu, hfe⟩ := fields_is (unhide HA).fit hmf
            have Hfl : Hid (∀ W, Below WR.heap.size WR W → Calls Try.prog 20 #[.slice aw ws.length cw, .int .i64 (tot (fs.take m) : Nat)] W fun e w' => ∃ a' cap', e = .returned (.slice a' fs[m].length cap') ∧ Wds w'.heap.size w' a' fs[m] ∧ Below W.heap.size W w') := fun W hbW => by
              have hWW : Below w.heap.size w W := (hbW6.trans (hb.mono (by omega))).trans (hbW.mono (by omega))
              have hws := unhide Hws
              subst hws
              refine (rfields_c aw cw (joinW hs fs) w.heap.size W (hW.below hWW) hUW (by have := hWW.size; omega) h256 (tot (fs.take m)) hfp hfu hfe).mono ?_
              rintro e w' ⟨a', cap', h1, h2, h3, _⟩
              rw [hfi] at h1 h2
              exact ⟨a', cap', h1, h2, h3⟩
            have Hck : Hid (∀ W, Below WR.heap.size WR W → W.cell? ⟨bo, oo + k, none⟩ = some (.int .i64 (tot (fs.take m) : Nat))) := fun W hbW => (hbW.cell (p := ⟨bo, oo + k, none⟩) (by show bo < _; omega)).trans hck
            clear hfi hfp hfu hfe hmf hm hme hck hkl hbk hbo2
            generalize fs[m] = f at *
            generalize tot (fs.take m) = q at *
            have hkI : (k : Int) < (nv : Int) := by omega
            have hkiI : (k : Int) < (i : Int) := by omega
            have ey := unhide Hck wr hby
            obtain ⟨e0, e1, e2, e3, e4⟩ := unhide Hcells wr hby
            go_upto_region 16 with fail
            go_region_with (first
              | (go_at_call 20; go_must (refine (unhide Hfl _ hby.drew).mono ?_); go_must (rintro e w9 ⟨fa, fc, he, hfw, hb9⟩; subst he; have hb9' : Below WR.heap.size WR w9 := hby.drew.trans (hb9.mono (by show WR.heap.size ≤ wr.heap.size; omega)); have e5 := (unhide Hcells w9 hb9').2.2.1; have e6 := (unhide Hcells w9 hb9').2.2.2.2; have Hfw := hide hfw; clear hfw))
              | (go_at_call 19; go_must (refine (hasWord_c fa fc f p w9.heap.size w9 (unhide Hfw) hp256).mono ?_); go_must (rintro e w10 ⟨he, hw10⟩; rw [← unhide Hbs] at he; subst he hw10)))
            all_goals
              go_wp2
              go_roundw
              case rel => exact ⟨k + 1, by omega, by go_num, rfl, hb9'⟩
              case measure => simp [intOf]; omega
          · clear hbk
            by_cases hki : k < i
            · have hkiI : (k : Int) < (i : Int) := by omega
              go_wp2
              go_roundw
              case rel => exact ⟨i + 1, by omega, by go_num, hb.trans (hby.mono hsr)⟩
              case measure => simp [intOf]; omega
            · have hkiI : ¬ (k : Int) < (i : Int) := by omega
              go_wp2
              go_roundw
              case rel => exact ⟨i + 1, by omega, by go_num, hb.trans (hby.mono hsr)⟩
              case measure => simp [intOf]; omega
      · obtain rfl : i = nv := by omega
        go_wp2
        go_ret
        exact ⟨rfl, hbW6.trans (hb.mono (by omega))⟩
  · have d0 : (arenaE ws rs == 0) = false := by simp [hE]
    have HE := hide hE
    rw [d0]
    have Hc2 := hide (unsound_c aw ar cw cr ws rs w.heap.size w2 (hW.below hbw2) (hR.below hbw2) hUW hUR (by omega) hcap)
    clear hE
    go_wp2_with fail
    refine (unhide Hc2).mono ?_
    rintro e w3 ⟨he, hb3⟩
    have d3 : (arenaE ws rs != 0) = true := by simpa using unhide HE
    rw [d3] at he
    subst he
    go_wp2
    go_ret
    exact ⟨rfl, hbw2.trans (hb3.mono (by omega))⟩

end Go.Proofs.Ytngjakeofhmohaa
