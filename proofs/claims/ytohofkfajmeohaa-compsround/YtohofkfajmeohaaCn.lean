/- Walks: what an object leads to, as the statements ask for it. -/
import Derived.Test.YtohofkfajmeohaaProg
import Derived.Test.YtohofkfajmeohaaMem
import Derived.Test.YtohofkfajmeohaaSa
import Derived.Test.YtohofkfajmeohaaCm
import Derived.Test.YtohofkfajmeohaaHb
namespace Go.Proofs.Ytohofkfajmeohaa
set_option linter.unusedSimpArgs false
set_option linter.unusedVariables false
open Go.RowKit

theorem check_from {g : Gr} (h : checkG g = 0) (i : Int) : checkG (fromG g i) = 0 := by
  have hG := good_of_check h
  unfold checkG at h ⊢
  have hl : isLargeG g = false := by
    cases hh : isLargeG g with
    | false => rfl
    | true => rw [hh] at h; simp at h
  rw [hl] at h
  have hsub : ∀ v ∈ allV (fromG g i), v ∈ allV g := by
    intro v hv
    unfold allV at hv ⊢
    rw [List.mem_append] at hv ⊢
    rcases hv with hv | hv
    · rcases fieldsOf_or g i with e | e
      · have : v ∈ fieldsOf g i := hv
        rw [e] at this; simp at this
      · exact .inr (List.mem_flatten.2 ⟨_, e, hv⟩)
    · exact .inr hv
  have h2 : (allV g).any (fun v => badV v g.objs.length == 2) = false := by
    cases hh : (allV g).any (fun v => badV v g.objs.length == 2) with
    | false => rfl
    | true => rw [hh] at h; simp at h
  rw [h2] at h
  have h3 : (allV g).any (fun v => badV v g.objs.length == 3) = false := by
    cases hh : (allV g).any (fun v => badV v g.objs.length == 3) with
    | false => rfl
    | true => rw [hh] at h; simp at h
  have hl' : isLargeG (fromG g i) = false := by
    have hgf := good_from hG i
    unfold isLargeG
    have h24 := hgf.n24
    have h8 := hgf.n8
    have h4 : (fromG g i).objs.any (fun l => decide (4 < l.length)) = false := by
      rw [List.any_eq_false]
      intro l hl
      have := hgf.n4 l hl
      simp; omega
    rw [h4]
    simp; omega
  have k2 : (allV (fromG g i)).any (fun v => badV v (fromG g i).objs.length == 2) = false := by
    rw [List.any_eq_false] at h2 ⊢
    exact fun v hv => h2 v (hsub v hv)
  have k3 : (allV (fromG g i)).any (fun v => badV v (fromG g i).objs.length == 3) = false := by
    rw [List.any_eq_false] at h3 ⊢
    exact fun v hv => h3 v (hsub v hv)
  rw [hl', k2, k3]
  rfl

def exF (vs : List Value) (k : Nat) : Value := match vs with
  | [.tuple xs] => xs.getD k undef
  | _ => undef

set_option maxRecDepth 100000 in
set_option maxHeartbeats 4000000 in
theorem leadsLaw_c (ao ar : Option Addr) (co cr : Nat) (g : Gr) (i : Nat) (B : Nat) (w : World) (ho : Objs B w ao g.objs) (hB : B ≤ w.heap.size) (hc : checkG g = 0) (hi : i < g.objs.length) :
    Calls Try.prog 17 #[.agg #[.slice ao g.objs.length co, .slice ar g.roots.length cr], .int .i64 (i : Int)] w fun e w' => ∃ a cap, e = .returned (.tuple #[.slice a (sortL (ledL g i)).length cap, .bool true]) ∧ Ints w'.heap.size w' a (sortL (ledL g i)) ∧ Below w.heap.size w w' := by
  have hG := good_of_check hc
  have Hcf := hide (check_from hc i)
  clear hc
  have ho1 := ho.1
  have hb1 := (Below.refl w.heap.size w).alloc (Nat.le_refl _) (.cells #[.slice ao g.objs.length co, .slice ar g.roots.length cr] 25)
  have hc0 : (w.alloc (.cells #[.slice ao g.objs.length co, .slice ar g.roots.length cr] 25)).cell? ⟨w.heap.size, 0, none⟩ = some (.slice ao g.objs.length co) := by simp [go_sem]
  have Hfs : Hid (fieldsOf g i = g.objs[i]) := by show _ = _; simp [fieldsOf, hi]
  go_enter Try.func17, Try.ntmps17
  go_wp2
  generalize hW : w.alloc (.cells #[.slice ao g.objs.length co, .slice ar g.roots.length cr] 25) = w1 at *
  have hs1 : w1.heap.size = w.heap.size + 1 := by rw [← hW]; simp
  clear hW
  have ho' := ho.below (hb1.mono hB)
  obtain ⟨b, off, ai, ci, rfl, hbB, hcb, hva⟩ := ho'.at hi
  have Hlen : Hid (g.objs[i].length = (fromG g i).roots.length) := by show _ = (fieldsOf g i).length; rw [unhide Hfs]
  have hva' : Vals B w1 ai (fromG g i).roots := by show Vals B w1 ai (fieldsOf g i); rw [unhide Hfs]; exact hva
  rw [unhide Hlen] at hcb
  clear hva Hfs Hlen
  obtain ⟨nf, hnf⟩ : ∃ nf, (fromG g i).roots.length = nf := ⟨_, rfl⟩
  have Hnf := hide hnf
  rw [hnf] at hcb
  clear hnf
  refine wp_region_hoist2 _ [9] (fun k => if k < 9 then 0 else 1) (fun k vs => match k with
      | 0 => .pointer (some ⟨w.heap.size, 0, none⟩)
      | 1 => .slice (some ⟨b, off, none⟩) g.objs.length co
      | 2 => .pointer (some ⟨w.heap.size, 0, none⟩)
      | 3 => .slice (some ⟨b, off, none⟩) g.objs.length co
      | 4 => .int .i64 (i : Int)
      | 5 => .pointer (some ⟨b, off + i, none⟩)
      | 6 => .pointer (some ⟨b, off + i, none⟩)
      | 7 => .slice ai nf ci
      | 8 => .agg #[.slice (some ⟨b, off, none⟩) g.objs.length co, .slice ai nf ci]
      | 10 => vs.getD 0 undef
      | 11 => exF vs 0
      | 12 => exF vs 1
      | 13 => exF vs 0
      | _ => exF vs 1)
    (fun vs W => match vs with
      | [] => Below w1.heap.size w1 W
      | [v] => ∃ a cap, v = .tuple #[.slice a (sortL (ledL g i)).length cap, .int .i64 0] ∧ Ints W.heap.size W a (sortL (ledL g i)) ∧ Below w1.heap.size w1 W
      | _ => False) Try.mixed (laid2_of (by kernel_rfl)) (Below.refl _ _).drew ?_ ?_ ?_
  · intro k o hio hiT vs a W K hGv htd hlate hag hdep hK
    have t2 := hag.tm (k := 2) (by simp [dsOf])
    have t1 := hag.tm (k := 1) (by simp [dsOf])
    simp at t1 t2
    have hBW : Below w1.heap.size w1 W := by
      match vs, hGv with
      | [], h => exact h
      | [_], ⟨_, _, _, _, h⟩ => exact h
    have d0 := (hBW.cell (p := ⟨w.heap.size, 0, none⟩) (by simp; omega)).trans hc0
    have db := (hBW.cell (p := ⟨b, off + i, none⟩) (by simp; omega)).trans hcb
    by_cases hk9 : k < 9
    · clear hGv hlate
      rcases k with _ | _ | _ | _ | _ | _ | _ | _ | _ | k
      · cases hio; unfold Oper.wp; go_simp; exact hK
      · have s := hdep ⟨0, .data⟩ (by cases hio; simp) rfl 9 rfl
        have s9 : a.tmps[9]?.getD undef = .pointer (some ⟨w.heap.size, 0, none⟩) := s
        cases hio; clear hdep s; unfold Oper.wp; go_simp; exact hK
      · cases hio; unfold Oper.wp; go_simp; exact hK
      · have s11 : a.tmps[11]?.getD undef = .pointer (some ⟨w.heap.size, 0, none⟩) := hdep ⟨2, .data⟩ (by cases hio; simp) rfl 11 rfl
        cases hio; clear hdep; unfold Oper.wp; go_simp; exact hK
      · cases hio; unfold Oper.wp; go_simp; exact hK
      · have s12 : a.tmps[12]?.getD undef = .slice (some ⟨b, off, none⟩) g.objs.length co := hdep ⟨3, .data⟩ (by cases hio; simp) rfl 12 rfl
        have s13 : a.tmps[13]?.getD undef = .int .i64 (i : Int) := hdep ⟨4, .data⟩ (by cases hio; simp) rfl 13 rfl
        cases hio; clear hdep; unfold Oper.wp; go_simp; exact hK
      · have s14 : a.tmps[14]?.getD undef = .pointer (some ⟨b, off + i, none⟩) := hdep ⟨5, .data⟩ (by cases hio; simp) rfl 14 rfl
        cases hio; clear hdep; unfold Oper.wp; go_simp; exact hK
      · have s15 : a.tmps[15]?.getD undef = .pointer (some ⟨b, off + i, none⟩) := hdep ⟨6, .data⟩ (by cases hio; simp) rfl 15 rfl
        cases hio; clear hdep; unfold Oper.wp; go_simp; exact hK
      · have s10 : a.tmps[10]?.getD undef = .slice (some ⟨b, off, none⟩) g.objs.length co := hdep ⟨1, .data⟩ (by cases hio; simp) rfl 10 rfl
        have s16 : a.tmps[16]?.getD undef = .slice ai nf ci := hdep ⟨7, .data⟩ (by cases hio; simp) rfl 16 rfl
        cases hio; clear hdep; unfold Oper.wp; go_simp; exact hK
      · omega
    · rw [if_neg hk9] at htd hK
      obtain ⟨v, rfl⟩ : ∃ v, vs = [v] := by
        match vs, htd, hGv with
        | [v], _, _ => exact ⟨v, rfl⟩
        | _ :: _ :: _, _, h => exact h.elim
      obtain ⟨a0, cap0, rfl, hI0, _⟩ := hGv
      rcases k with _ | _ | _ | _ | _ | _ | _ | _ | _ | _ | _ | _ | _ | _ | _ | k
      · omega
      · omega
      · omega
      · omega
      · omega
      · omega
      · omega
      · omega
      · omega
      · exact absurd (by simp) hiT
      · have s18 : a.tmps[18]?.getD undef = .tuple #[.slice a0 (sortL (ledL g i)).length cap0, .int .i64 0] := hdep ⟨9, .data⟩ (by cases hio; simp) rfl 18 rfl
        cases hio; clear hdep; unfold Oper.wp; go_simp; exact hK
      · have s8 : a.tmps[8]?.getD undef = .tuple #[.slice a0 (sortL (ledL g i)).length cap0, .int .i64 0] := hdep ⟨10, .data⟩ (by cases hio; simp) rfl 8 rfl
        cases hio; clear hdep; unfold Oper.wp; go_simp; exact hK
      · have s8 : a.tmps[8]?.getD undef = .tuple #[.slice a0 (sortL (ledL g i)).length cap0, .int .i64 0] := hdep ⟨10, .data⟩ (by cases hio; simp) rfl 8 rfl
        cases hio; clear hdep; unfold Oper.wp; go_simp; exact hK
      · have s19 : a.tmps[19]?.getD undef = .slice a0 (sortL (ledL g i)).length cap0 := hdep ⟨11, .data⟩ (by cases hio; simp) rfl 19 rfl
        cases hio; clear hdep; unfold Oper.wp; go_simp; exact hK
      · have s20 : a.tmps[20]?.getD undef = .int .i64 0 := hdep ⟨12, .data⟩ (by cases hio; simp) rfl 20 rfl
        cases hio; clear hdep; unfold Oper.wp; go_simp; exact hK
      · simp at hio
  · intro j k o hj hio vs a W K hvl hGv hag hdep hK
    rcases j with _ | j
    · obtain rfl : 9 = k := by simpa using hj
      obtain rfl : vs = [] := List.length_eq_zero_iff.1 hvl
      have s17 : a.tmps[17]?.getD undef = .agg #[.slice (some ⟨b, off, none⟩) g.objs.length co, .slice ai nf ci] := hdep ⟨8, .data⟩ (by cases hio; simp) rfl 17 rfl
      cases hio
      refine op_call 28 #[.agg #[.slice (some ⟨b, off, none⟩) g.objs.length co, .slice ai nf ci]] (by go_simp) ?_
      have hBW : Below w1.heap.size w1 W := hGv
      have hsW := hBW.size
      have hR := reach_ok (some ⟨b, off, none⟩) ai co ci (fromG g i) B W (ho'.below (hBW.mono (by omega))) (hva'.below (hBW.mono (by omega))) (by omega) (unhide Hcf)
      rw [unhide Hnf] at hR
      refine hR.mono ?_
      rintro e w' ⟨a', cap', rfl, h1, h2⟩
      exact ⟨_, rfl, hK _ _ ⟨a', cap', rfl, h1, hBW.trans (h2.mono hsW)⟩⟩
    · simp at hj
  · intro vs W hvl hGv
    obtain ⟨v, rfl⟩ : ∃ v, vs = [v] := by
      match vs, hvl with
      | [v], _ => exact ⟨v, rfl⟩
    obtain ⟨a0, cap0, rfl, hI0, hBW⟩ := hGv
    simp only [List.length_cons, List.length_nil, Nat.reduceAdd]
    simp [endAct2, dstAt, valAt2, List.idxOf?, List.findIdx?, List.findIdx?.go, Act.put, exF]
    go_wp2
    go_ret2
    exact ⟨a0, cap0, rfl, hI0, hb1.trans (hBW.mono (by omega))⟩

end Go.Proofs.Ytohofkfajmeohaa
