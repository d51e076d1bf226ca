/- Walks: Retained. -/
import Derived.Test.YthpmckfgngkbhaaProg
import Derived.Test.YthpmckfgngkbhaaMem
import Derived.Test.YthpmckfgngkbhaaDf
namespace Go.Proofs.Ythpmckfgngkbhaa
set_option linter.unusedSimpArgs false
set_option linter.unusedVariables false
open Go.RowKit

theorem grownBy_of_below' {W W' : World} (hb : Below W.heap.size W W') : W.grownBy W' none := ⟨hb.os, hb.tape, hb.output, hb.size, fun k hk _ => hb.block k hk⟩
theorem own_none' (v : Value) : v.ownBlock = none ∨ v.ownBlock ≠ none := by cases v.ownBlock <;> simp

set_option maxRecDepth 100000 in
set_option maxHeartbeats 1000000 in
theorem reach_row (ao ar : Option Addr) (co cr : Nat) (g : Gr) (B : Nat) (w : World) (ho : Objs B w ao g.objs) (hr : Vals B w ar g.roots) (hB : B ≤ w.heap.size) (hc : checkG g = 0) :
    Calls Try.prog 14 #[.agg #[.slice ao g.objs.length co, .slice ar g.roots.length cr]] w fun e w' => ∃ a cap, e = .returned (.tuple #[.slice a (sortL (orderOf g)).length cap, .int .i64 0]) ∧ w'.ownsRow w.heap.size 3 1 (.slice a (sortL (orderOf g)).length cap) (sortL (orderOf g)).length (intsV (sortL (orderOf g))) ∧ Below w.heap.size w w' := by
  have hG := good_of_check hc
  have Hcc := hide hc
  clear hc
  have hb1 := (Below.refl w.heap.size w).alloc (Nat.le_refl _) (.cells #[.slice ao g.objs.length co, .slice ar g.roots.length cr] 25)
  go_enter Try.func14, Try.ntmps14
  go_wp2_with fail
  refine (check_c _ _ _ _ g B _ (ho.below (hb1.mono hB)) (hr.below (hb1.mono hB)) (by simp; omega)).mono ?_
  rintro e w2 ⟨he, hb2⟩
  rw [unhide Hcc] at he
  subst he
  simp only [World.size_alloc] at hb2
  have g0 := hb2.cell (p := ⟨w.heap.size, 0, none⟩) (by simp)
  have g1 := hb2.cell (p := ⟨w.heap.size, 1, none⟩) (by simp)
  simp [go_sem] at g0 g1
  have hs2 := hb2.size
  simp at hs2
  have hbw2 : Below w.heap.size w w2 := hb1.trans (hb2.mono (by omega))
  clear hb1 hb2
  go_wp2_with fail
  refine (search_c _ _ _ _ g B _ (ho.below (hbw2.mono hB)) (hr.below (hbw2.mono hB)) (by omega) hG).mono ?_
  rintro e w3 ⟨vo, vd, D, mb, rfl, hmb, hF, hb3⟩
  have hbw3 : Below w.heap.size w w3 := hbw2.trans (hb3.mono (by omega))
  obtain ⟨oa, oc, rfl⟩ := ownsRow_slice hF.ord
  obtain ⟨da, dc, rfl⟩ := ownsRow_slice hF.dis
  have hlen := (searchN_ok hG g.objs.length).le
  have hn24 := hG.n24
  have hord : w3.ownsRow (mb + 2) 3 1 (.slice oa (orderOf g).length oc) (orderOf g).length (intsV (orderOf g)) := hF.ord
  have hol : (orderOf g).length ≤ 24 := by unfold orderOf; omega
  clear hF
  have HO : Hid ((searchN g g.objs.length).1 = orderOf g) := rfl
  have hfd : ∀ (n1 n2 : Nat) (w : World), (Instr.field 58 (.agg #[.slice oa n1 oc, .slice da n2 dc, .map (some mb)]) 0).run Try.prog w = .ok (.slice oa n1 oc) w := fun _ _ _ => by kernel_rfl
  go_wp2_with (go_at_call 32; go_must (refine (sort_c _ (mb + 2) (orderOf g) _ hord (by omega)).mono ?_); go_must (rintro e w4 ⟨rfl, hord4, hg4⟩))
  have hs2' := hbw2.size
  have hb4 : Below w.heap.size w w4 := hbw3.grown hg4 hbw3.size (fun k e => by have := (hord.lt k e).1; omega)
  rw [← sortL_len (orderOf g)] at hord4
  go_ret2
  refine ⟨oa, oc, by rw [sortL_len]; rfl, ?_, hb4⟩
  have e : (sortL (orderOf g)).length = (orderOf g).length := sortL_len _
  have h4 := hord4
  rw [e] at h4 ⊢
  exact ⟨h4.1, h4.2.imp id fun ⟨g', cap, cur, h1, h2, h3⟩ => ⟨g', cap, cur, h1, by omega, h3⟩⟩

set_option maxRecDepth 100000 in
set_option maxHeartbeats 1000000 in
theorem ret_bad (ao ar : Option Addr) (co cr : Nat) (g : Gr) (v : Int) (B : Nat) (w : World) (ho : Objs B w ao g.objs) (hr : Vals B w ar g.roots) (hB : B ≤ w.heap.size) (hc : checkG g ≠ 0) :
    Calls Try.prog 7 #[.agg #[.slice ao g.objs.length co, .slice ar g.roots.length cr], .int .i64 v] w fun e w' => e = .returned (.tuple #[.slice none 0 0, .int .i64 (checkG g)]) ∧ Below w.heap.size w w' := by
  have hd : (checkG g != 0) = true := by simpa using hc
  have Hc := hide hc
  clear hc
  have hb1 := (Below.refl w.heap.size w).alloc (Nat.le_refl _) (.cells #[.slice ao g.objs.length co, .slice ar g.roots.length cr] 25)
  go_enter Try.func7, Try.ntmps7
  go_wp2_with (go_at_call 14; go_must (refine (reach_bad _ _ _ _ g B _ (ho.below (hb1.mono hB)) (hr.below (hb1.mono hB)) (by simp; omega) (unhide Hc)).mono ?_); go_must (rintro e w2 ⟨rfl, hb2⟩))
  go_ret2
  exact ⟨rfl, hb1.trans (hb2.mono (by simp))⟩

set_option maxRecDepth 100000 in
set_option maxHeartbeats 2000000 in
theorem ret_arg (ao ar : Option Addr) (co cr : Nat) (g : Gr) (v : Int) (B : Nat) (w : World) (ho : Objs B w ao g.objs) (hr : Vals B w ar g.roots) (hB : B ≤ w.heap.size) (hc : checkG g = 0) (hv : v < 0 ∨ (g.objs.length : Int) ≤ v) :
    Calls Try.prog 7 #[.agg #[.slice ao g.objs.length co, .slice ar g.roots.length cr], .int .i64 v] w fun e w' => e = .returned (.tuple #[.slice none 0 0, .int .i64 2]) ∧ Below w.heap.size w w' := by
  have Hc := hide hc
  have ho1 := ho.1
  clear hc
  have hb1 := (Below.refl w.heap.size w).alloc (Nat.le_refl _) (.cells #[.slice ao g.objs.length co, .slice ar g.roots.length cr] 25)
  go_enter Try.func7, Try.ntmps7
  go_wp2_with fail
  refine (reach_row _ _ _ _ g B _ (ho.below (hb1.mono hB)) (hr.below (hb1.mono hB)) (by simp; omega) (unhide Hc)).mono ?_
  rintro e w2 ⟨a2, c2, rfl, _, hb2⟩
  simp only [World.size_alloc] at hb2
  have g0 := hb2.cell (p := ⟨w.heap.size, 0, none⟩) (by simp)
  simp [go_sem] at g0
  have hbw : Below w.heap.size w w2 := hb1.trans (hb2.mono (by omega))
  clear hb1 hb2
  generalize (sortL (orderOf g)).length = n2 at *
  by_cases h0 : v < 0
  · have d : decide (v < 0) = true := by simpa using h0
    go_wp2
    go_ret2
    exact ⟨rfl, hbw⟩
  · have d : decide (v < 0) = false := by simpa using h0
    have h1 : (g.objs.length : Int) ≤ v := by omega
    have d1 : decide (v ≥ (g.objs.length : Int)) = true := by simpa using h1
    have d2 : decide ((g.objs.length : Int) ≤ v) = true := by simpa using h1
    clear hv
    go_wp2
    go_ret2
    exact ⟨rfl, hbw⟩

set_option maxRecDepth 100000 in
set_option maxHeartbeats 2000000 in
theorem ret_f (ao ar : Option Addr) (co cr : Nat) (g : Gr) (v : Int) (B : Nat) (w : World) (ho : Objs B w ao g.objs) (hr : Vals B w ar g.roots) (hB : B ≤ w.heap.size) (hc : checkG g = 0) (hv0 : 0 ≤ v) (hv1 : v < g.objs.length) :
    Calls Try.prog 7 #[.agg #[.slice ao g.objs.length co, .slice ar g.roots.length cr], .int .i64 v] w fun e w' => ∃ a cap, e = .returned (.tuple #[.slice a (retL g v).length cap, .int .i64 0]) ∧ Ints w'.heap.size w' a (retL g v) ∧ Below w.heap.size w w' ∧ (∀ b off, a = some ⟨b, off, none⟩ → w.heap.size ≤ b) := by
  have Hc := hide hc
  have hG := good_of_check hc
  have ho1 := ho.1
  have hr1 := hr.1
  have hn24 := hG.n24
  clear hc
  have hb1 := (Below.refl w.heap.size w).alloc (Nat.le_refl _) (.cells #[.slice ao g.objs.length co, .slice ar g.roots.length cr] 25)
  go_enter Try.func7, Try.ntmps7
  go_wp2_with fail
  refine (reach_row _ _ _ _ g B _ (ho.below (hb1.mono hB)) (hr.below (hb1.mono hB)) (by simp; omega) (unhide Hc)).mono ?_
  rintro e w2 ⟨a2, c2, rfl, hrow2, hb2⟩
  simp only [World.size_alloc] at hb2 hrow2
  have g0 := hb2.cell (p := ⟨w.heap.size, 0, none⟩) (by simp)
  have g1 := hb2.cell (p := ⟨w.heap.size, 1, none⟩) (by simp)
  simp [go_sem] at g0 g1
  have hbw : Below w.heap.size w w2 := hb1.trans (hb2.mono (by omega))
  have hs2 := hb2.size
  simp only [World.size_alloc] at hs2
  clear hb1 hb2
  have d : decide (v < 0) = false := by simp; omega
  have d1 : decide (v ≥ (g.objs.length : Int)) = false := by simp; omega
  have d2 : decide ((g.objs.length : Int) ≤ v) = false := by simp; omega
  have hsl : (sortL (orderOf g)).length ≤ 1000 := by rw [sortL_len]; have := (searchN_ok hG g.objs.length).le; unfold orderOf; omega
  have hsr : ∀ x ∈ sortL (orderOf g), 0 ≤ x ∧ x < (g.objs.length : Int) := fun x hx => order_ok hG ((sortL_mem _ _).1 hx)
  have Hret : Hid ((sortL (orderOf g)).filter (fun o => !decide (o ∈ backL g v)) = retL g v) := by
    show _ = _
    unfold retL
    refine List.filter_congr fun x _ => ?_
    rw [Bool.eq_iff_iff]
    simp [back_mem hG v x]
  generalize sortL (orderOf g) = L at *
  go_wp2_with fail
  refine (wayBack_c _ _ _ _ g v B _ (ho.below (hbw.mono hB)) (hr.below (hbw.mono hB)) (by omega) hG).mono ?_
  rintro e w3 ⟨vo, gb, rfl, hne, hro3, hrn3, hb3⟩
  obtain ⟨oa, oc, rfl⟩ := ownsRow_slice hro3
  have hs3 := hb3.size
  have hrow3 := hrow2.kept (grownBy_of_below' hb3) (own_none' _)
  have hlr := fun k e => hrow2.lt k e
  have hrow4 := hrow3.alloc (.cells #[.slice oa (backL g v).length oc, .slice (some ⟨gb, 0, none⟩) g.objs.length g.objs.length] 43)
  have hrn4 := hrn3.alloc (.cells #[.slice oa (backL g v).length oc, .slice (some ⟨gb, 0, none⟩) g.objs.length g.objs.length] 43)
  have hc4 : (w3.alloc (.cells #[.slice oa (backL g v).length oc, .slice (some ⟨gb, 0, none⟩) g.objs.length g.objs.length] 43)).cell? ⟨w3.heap.size, 1, none⟩ = some (.slice (some ⟨gb, 0, none⟩) g.objs.length g.objs.length) := by simp [go_sem]
  have hgb : w2.heap.size ≤ gb := (hrn3.lt gb rfl).1
  have hbw3 : Below w.heap.size w w3 := hbw.trans (hb3.mono (by omega))
  have hbw4 := hbw3.alloc (by omega) (.cells #[.slice oa (backL g v).length oc, .slice (some ⟨gb, 0, none⟩) g.objs.length g.objs.length] 43)
  go_wp2_with (go_at_call 22; go_must (refine (delF_f g.objs.length (by omega) hn24 w3.heap.size gb (backL g v) _ (w.heap.size + 1) w2.heap.size L _ hrow4 hsr hsl hc4 hrn4 (fun e => by have := (hlr _ e).2; omega) (fun e => by have := (hlr _ e).2; omega)).mono ?_); go_must (rintro e w5 ⟨a5, c5, rfl, hI5, hg5, hfr5⟩))
  go_ret2
  refine ⟨a5, c5, by rw [unhide Hret]; rfl, by rw [← unhide Hret]; exact hI5, ?_, fun b off e => by have := (hrow4.lt b (hfr5 b off e)).1; omega⟩
  exact hbw4.grown hg5 (by simp; omega) (fun k e => by have := (hrow4.lt k e).1; omega)

theorem ret_ok (ao ar : Option Addr) (co cr : Nat) (g : Gr) (v : Int) (B : Nat) (w : World) (ho : Objs B w ao g.objs) (hr : Vals B w ar g.roots) (hB : B ≤ w.heap.size) (hc : checkG g = 0) (hv0 : 0 ≤ v) (hv1 : v < g.objs.length) :
    Calls Try.prog 7 #[.agg #[.slice ao g.objs.length co, .slice ar g.roots.length cr], .int .i64 v] w fun e w' => ∃ a cap, e = .returned (.tuple #[.slice a (retL g v).length cap, .int .i64 0]) ∧ Ints w'.heap.size w' a (retL g v) ∧ Below w.heap.size w w' := by
  refine (ret_f ao ar co cr g v B w ho hr hB hc hv0 hv1).mono ?_
  rintro e w' ⟨a, cap, h1, h2, h3, _⟩
  exact ⟨a, cap, h1, h2, h3⟩

end Go.Proofs.Ythpmckfgngkbhaa
