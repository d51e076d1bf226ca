/- Walks: newSearch. -/
import Derived.Test.YtohofkfajmeohaaProg
import Derived.Test.YtohofkfajmeohaaMem
import Derived.Test.YtohofkfajmeohaaCd
namespace Go.Proofs.Ytohofkfajmeohaa
set_option linter.unusedSimpArgs false
set_option linter.unusedVariables false
open Go.RowKit

set_option maxRecDepth 100000 in
set_option maxHeartbeats 4000000 in
theorem newSearch_c (ao ar : Option Addr) (co cr : Nat) (g : Gr) (B : Nat) (w : World) (ho : Objs B w ao g.objs) (hB : B ≤ w.heap.size) (hG : Good g) :
    Calls Try.prog 21 #[.agg #[.slice ao g.objs.length co, .slice ar g.roots.length cr]] w fun e w' => ∃ al cl base ms, e = .returned (.agg #[.slice ao g.objs.length co, .slice ar g.roots.length cr, .slice al g.objs.length cl]) ∧ w.heap.size ≤ base ∧
      Led w' base (.slice al g.objs.length cl) ms (ledK g g.objs.length) ∧ Below w.heap.size w w' := by
  obtain ⟨i0, hi, hz0, hz1, hz2⟩ := info_parts Try.info65
  have ho1 := ho.1
  have hn24 := hG.n24
  go_enter Try.func21, Try.ntmps21
  go_wp2
  have hW0 : ∀ W0, (((w.alloc (.cells #[.slice ao g.objs.length co, .slice ar g.roots.length cr] 25)).alloc (.cells #[.slice none 0 0, .slice none 0 0, .slice none 0 0] 47)).alloc (.cells #[.slice ao g.objs.length co, .slice ar g.roots.length cr, .slice none 0 0] 47)) = W0 →
      SBox W0 (w.heap.size + 1 + 1) ao ar g.objs.length co g.roots.length cr (.slice none 0 0) ∧ Below w.heap.size w W0 ∧ W0.heap.size = w.heap.size + 3 ∧ ((W0.cell? ⟨w.heap.size + 1, 0, none⟩).isSome = true ∧ (W0.cell? ⟨w.heap.size + 1, 1, none⟩).isSome = true ∧ (W0.cell? ⟨w.heap.size + 1, 2, none⟩).isSome = true ∧ W0.frozen? ⟨w.heap.size + 1, 0, none⟩ = false ∧ W0.frozen? ⟨w.heap.size + 1, 1, none⟩ = false ∧ W0.frozen? ⟨w.heap.size + 1, 2, none⟩ = false) := by
    intro W0 h
    subst h
    exact ⟨⟨by simp [go_sem], by simp [go_sem], by simp [go_sem], by simp [go_sem]⟩, (((Below.refl _ _).alloc (Nat.le_refl _) _).alloc (by simp) _).alloc (by simp; omega) _, by simp, by simp [go_sem], by simp [go_sem], by simp [go_sem], by simp [go_sem], by simp [go_sem], by simp [go_sem]⟩
  obtain ⟨W0, hW⟩ : ∃ W0, (((w.alloc (.cells #[.slice ao g.objs.length co, .slice ar g.roots.length cr] 25)).alloc (.cells #[.slice none 0 0, .slice none 0 0, .slice none 0 0] 47)).alloc (.cells #[.slice ao g.objs.length co, .slice ar g.roots.length cr, .slice none 0 0] 47)) = W0 := ⟨_, rfl⟩
  rw [hW]
  obtain ⟨hX0, hb0, hs0, hi0, hi1, hi2, hj0, hj1, hj2⟩ := hW0 W0 hW
  clear hW hW0
  obtain ⟨sb, hsb⟩ : ∃ sb, w.heap.size + 1 + 1 = sb := ⟨_, rfl⟩
  rw [hsb] at hX0
  rw [hsb]
  have Hsb := hide hsb
  have hsb1 : w.heap.size + 1 < sb := by omega
  clear hsb
  go_loopw [11] (fun i wr => ∃ k : Nat, k ≤ g.objs.length ∧ i = .int .i64 k ∧ (∃ vl ms, Led wr (sb + 1) vl ms (ledK g k) ∧ SBox wr sb ao ar g.objs.length co g.roots.length cr vl) ∧ Below sb W0 wr) (fun i _ => g.objs.length - (intOf i).toNat)
  case atStart => exact ⟨0, Nat.zero_le _, rfl, ⟨_, [], led_nil _ _, hX0⟩, Below.refl _ _⟩
  case round =>
    obtain ⟨k, hk, rfl, ⟨vl, ms, hL, hX⟩, hb⟩ := hrel
    have hsz := hb.size
    have hsl := hX.lt
    have Hml := hide (show ms.length = k by rw [← hL.len, ledK_len])
    have hml1 : ms.length ≤ 24 := by rw [unhide Hml]; omega
    obtain ⟨va, vc, rfl⟩ := ownsRow_slice hL.row
    have hc0 := hX.c0
    have hc1 := hX.c1
    have hc2 := hX.c2
    by_cases hlt : k < g.objs.length
    · have hb' : Below B w wr := (hb0.mono hB).trans (hb.mono (by omega))
      have HK := hide (ledK_succ g k)
      go_wp2
      refine wp_region_hoist _ [4, 5, 6, 8] (fun i => match i with
          | 0 => .pointer (some ⟨sb, 2, none⟩)
          | 1 => .slice va ms.length vc
          | 2 => .agg #[.slice ao g.objs.length co, .slice ar g.roots.length cr, .slice va ms.length vc]
          | 3 => .int .i64 (k : Int)
          | _ => .pointer (some ⟨sb, 2, none⟩))
        (fun vs W => match vs with
          | [] => Below wr.heap.size wr W
          | [v4] => ∃ mb n D, v4 = .map (some mb) ∧ wr.heap.size ≤ mb ∧ SetAt W mb n D (ledL g k) ∧ Below wr.heap.size wr W
          | [v4, v5] => ∃ mb n D m5, v4 = .map (some mb) ∧ v5 = .slice (some ⟨m5, 0, none⟩) 1 1 ∧ W.cell? ⟨m5, 0, none⟩ = some (.map (some mb)) ∧ wr.heap.size ≤ mb ∧ SetAt W mb n D (ledL g k) ∧ Below wr.heap.size wr W
          | [v4, v5, v6] => (∃ ms', Led W (sb + 1) v6 ms' (ledK g (k + 1))) ∧ SBox W sb ao ar g.objs.length co g.roots.length cr (.slice va ms.length vc) ∧ Below sb W0 W
          | [v4, v5, v6, v8] => (∃ ms', Led W (sb + 1) v6 ms' (ledK g (k + 1))) ∧ SBox W sb ao ar g.objs.length co g.roots.length cr v6 ∧ Below sb W0 W
          | _ => False) Try.mixed (laid_of (by kernel_rfl)) (Below.refl _ _).drew ?_ ?_ ?_
      · intro i o hio hiT vs a W K hGv hlate hag hdep hK
        have t3 := hag.tm (k := 3) (by simp [dsOf])
        have t4 := hag.tm (k := 4) (by simp [dsOf])
        simp at t3 t4
        rcases i with _ | _ | _ | _ | _ | _ | _ | _ | _ | i
        · cases hio
          unfold Oper.wp
          go_simp
          exact hK
        · have hl2 : vs.length ≤ 2 := hlate 2 6 _ rfl rfl ⟨⟨1, .data⟩, by simp, rfl, rfl⟩
          have s14 : a.tmps[14]?.getD undef = .pointer (some ⟨sb, 2, none⟩) := hdep ⟨0, .data⟩ (by cases hio; simp) rfl 14 rfl
          have hcW : W.cell? ⟨sb, 2, none⟩ = some (.slice va ms.length vc) := by
            have hBW : Below wr.heap.size wr W := by
              match vs, hGv, hl2 with
              | [], h, _ => exact h
              | [_], ⟨_, _, _, _, _, _, h⟩, _ => exact h
              | [_, _], ⟨_, _, _, _, _, _, _, _, _, h⟩, _ => exact h
            exact (hBW.cell (p := ⟨sb, 2, none⟩) hsl).trans hc2
          cases hio
          clear hGv
          unfold Oper.wp
          go_simp
          exact hK
        · have hl0 : vs.length ≤ 0 := hlate 0 4 _ rfl rfl ⟨⟨2, .data⟩, by simp, rfl, rfl⟩
          obtain rfl : vs = [] := List.length_eq_zero_iff.1 (by omega)
          have d0 := (hGv.cell (p := ⟨sb, 0, none⟩) hsl).trans hc0
          have d1 := (hGv.cell (p := ⟨sb, 1, none⟩) hsl).trans hc1
          have d2 := (hGv.cell (p := ⟨sb, 2, none⟩) hsl).trans hc2
          cases hio
          clear hGv
          unfold Oper.wp
          go_simp
          exact hK
        · cases hio
          clear hGv
          unfold Oper.wp
          go_simp
          exact hK
        · exact absurd (by simp) hiT
        · exact absurd (by simp) hiT
        · exact absurd (by simp) hiT
        · cases hio
          clear hGv
          unfold Oper.wp
          go_simp
          exact hK
        · exact absurd (by simp) hiT
        · simp at hio
      · intro j i o hj hio vs a W K hvl hGv hag hdep hK
        rcases j with _ | _ | _ | _ | j
        · obtain rfl : 4 = i := by simpa using hj
          obtain rfl : vs = [] := List.length_eq_zero_iff.1 hvl
          have s16 : a.tmps[16]?.getD undef = .agg #[.slice ao g.objs.length co, .slice ar g.roots.length cr, .slice va ms.length vc] := hdep ⟨2, .data⟩ (by cases hio; simp) rfl 16 rfl
          have s17 : a.tmps[17]?.getD undef = .int .i64 (k : Int) := hdep ⟨3, .data⟩ (by cases hio; simp) rfl 17 rfl
          cases hio
          refine op_call 33 #[.agg #[.slice ao g.objs.length co, .slice ar g.roots.length cr, .slice va ms.length vc], .int .i64 (k : Int)] (by go_simp) ?_
          have hBW : Below wr.heap.size wr W := hGv
          refine (follow_c ao ar va co cr ms.length vc g k B W (ho.below (hb'.trans (hBW.mono (by have := hb'.size; omega)))) (by have := hb'.size; have := hBW.size; omega) hG (by omega) (by omega)).mono ?_
          rintro e w' ⟨mb, n, D, rfl, h1, h2, h3, h4⟩
          exact ⟨_, rfl, hK _ _ ⟨mb, n, D, rfl, by have := hBW.size; omega, h3, hBW.trans (h4.mono hBW.size)⟩⟩
        · obtain rfl : 5 = i := by simpa using hj
          obtain ⟨v4, rfl⟩ : ∃ v4, vs = [v4] := by
            match vs, hvl with
            | [v4], _ => exact ⟨v4, rfl⟩
          obtain ⟨mb, n, D, rfl, h1, h2, h3⟩ := hGv
          have s18 : a.tmps[18]?.getD undef = .map (some mb) := hdep ⟨4, .data⟩ (by cases hio; simp) rfl 18 rfl
          cases hio
          unfold Oper.wp
          go_simp
          exact hK _ _ ⟨mb, n, D, W.heap.size, rfl, rfl, by simp [go_sem], h1, h2.alloc _, h3.alloc h3.size _⟩
        · obtain rfl : 6 = i := by simpa using hj
          obtain ⟨v4, v5, rfl⟩ : ∃ v4 v5, vs = [v4, v5] := by
            match vs, hvl with
            | [v4, v5], _ => exact ⟨v4, v5, rfl⟩
          obtain ⟨mb, n, D, m5, rfl, rfl, h0, h1, h2, h3⟩ := hGv
          have s15 : a.tmps[15]?.getD undef = .slice va ms.length vc := hdep ⟨1, .data⟩ (by cases hio; simp) rfl 15 rfl
          have s19 : a.tmps[19]?.getD undef = .slice (some ⟨m5, 0, none⟩) 1 1 := hdep ⟨5, .data⟩ (by cases hio; simp) rfl 19 rfl
          cases hio
          have hL3 := hL.below h3
          have hs3 := h3.size
          refine op_append (.tmp 15) (.tmp 19) 45 rfl (sb + 1) 65 i0 _ 1 8 Try.underlying45 hi hz0 hz1 hz2 rfl (by decide) _ _ _ (by simpa [Act.eval] using s15) hL3.row ⟨m5, 0, none⟩ 1 1 [.map (some mb)] (by simpa [Act.eval] using s19) rfl ?_ (by simp [Value.oneCell']) (by simp only [maxLen]; omega) (by omega) (by omega) ?_
          · intro j u hj
            match j, hj with
            | 0, hj => simp at hj; subst hj; simpa [Addr.add] using h0
          · intro v6 w6 hrow6 hg6 hat6
            have hmbn : mb ∉ ms := fun hm => by
              obtain ⟨_, _, _, hs⟩ := hL.at' hm
              have := hs.lt
              omega
            refine hK _ _ ⟨⟨_, by rw [unhide HK]; exact hL3.snoc h2 (by omega) hmbn hrow6 hg6⟩, ?_, ?_⟩
            · refine hX.kept ?_
              rw [hg6.block sb (by omega) (fun e => by have := (hL3.row.lt _ e.symm).1; omega)]
              exact h3.block sb hsl
            · exact (hb.trans (h3.mono (by omega))).grown hg6 (by omega) (fun q e => by have := (hL3.row.lt _ e).1; omega)
        · obtain rfl : 8 = i := by simpa using hj
          obtain ⟨v4, v5, v6, rfl⟩ : ∃ v4 v5 v6, vs = [v4, v5, v6] := by
            match vs, hvl with
            | [v4, v5, v6], _ => exact ⟨v4, v5, v6, rfl⟩
          obtain ⟨⟨ms', h1⟩, h2, h3⟩ := hGv
          obtain ⟨va6, vc6, rfl⟩ := ownsRow_slice h1.row
          have s20 : a.tmps[20]?.getD undef = .slice va6 ms'.length vc6 := hdep ⟨6, .data⟩ (by cases hio; simp) rfl 20 rfl
          have s21 : a.tmps[21]?.getD undef = .pointer (some ⟨sb, 2, none⟩) := hdep ⟨7, .data⟩ (by cases hio; simp) rfl 21 rfl
          have e2 := h2.c2
          have f2 := h2.f2
          cases hio
          unfold Oper.wp
          go_simp
          exact hK undef _ ⟨⟨ms', h1.setCell (p := ⟨sb, 2, none⟩) (by simp) _⟩, h2.set _, h3.setCell (p := ⟨sb, 2, none⟩) (by simp) _⟩
        · simp at hj
      · intro vs W hvl hGv
        obtain ⟨v4, v5, v6, v8, rfl⟩ : ∃ v4 v5 v6 v8, vs = [v4, v5, v6, v8] := by
          match vs, hvl with
          | [v4, v5, v6, v8], _ => exact ⟨v4, v5, v6, v8, rfl⟩
        obtain ⟨⟨ms', h1⟩, h2, h3⟩ := hGv
        simp only [List.length_cons, List.length_nil, Nat.reduceAdd]
        simp [endAct, dstAt, valAt, List.idxOf?, List.findIdx?, List.findIdx?.go, Act.put]
        go_wp2
        go_roundw
        case rel => exact ⟨k + 1, by omega, by go_num, ⟨v6, ms', h1, h2⟩, h3⟩
        case measure => simp [intOf]; omega
    · obtain rfl : k = g.objs.length := by omega
      have Hml2 := hide (unhide Hml)
      rw [unhide Hml] at hL hX hc2
      have hi0 := (congrArg Option.isSome (hb.cell (p := ⟨w.heap.size + 1, 0, none⟩) (by simp; omega))).trans hi0
      have hi1 := (congrArg Option.isSome (hb.cell (p := ⟨w.heap.size + 1, 1, none⟩) (by simp; omega))).trans hi1
      have hi2 := (congrArg Option.isSome (hb.cell (p := ⟨w.heap.size + 1, 2, none⟩) (by simp; omega))).trans hi2
      have hj0 := (hb.frozen (p := ⟨w.heap.size + 1, 0, none⟩) (by simp; omega)).trans hj0
      have hj1 := (hb.frozen (p := ⟨w.heap.size + 1, 1, none⟩) (by simp; omega)).trans hj1
      have hj2 := (hb.frozen (p := ⟨w.heap.size + 1, 2, none⟩) (by simp; omega)).trans hj2
      obtain ⟨x0, hi0⟩ := Option.isSome_iff_exists.1 hi0
      obtain ⟨x1, hi1⟩ := Option.isSome_iff_exists.1 hi1
      obtain ⟨x2, hi2⟩ := Option.isSome_iff_exists.1 hi2
      clear Hml Hml2
      go_wp2
      refine bodyPost_ret (v := .agg #[.slice ao g.objs.length co, .slice ar g.roots.length cr, .slice va g.objs.length vc]) (by simp [results, Try.results21, go_sem, hi0, hi1, hi2]) rfl ⟨va, vc, sb + 1, ms, rfl, by omega, ?_, ?_⟩
      · exact ((hL.setCell (p := ⟨w.heap.size + 1, 0, none⟩) (by simp; omega) _).setCell (p := ⟨w.heap.size + 1, 1, none⟩) (by simp; omega) _).setCell (p := ⟨w.heap.size + 1, 2, none⟩) (by simp; omega) _
      · exact (((hb0.trans (hb.mono (by omega))).setCell (p := ⟨w.heap.size + 1, 0, none⟩) (by simp) _).setCell (p := ⟨w.heap.size + 1, 1, none⟩) (by simp) _).setCell (p := ⟨w.heap.size + 1, 2, none⟩) (by simp) _

end Go.Proofs.Ytohofkfajmeohaa
