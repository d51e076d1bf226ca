/- Walks. -/
import Derived.Test.YtmelhphhealomaaProg
import Derived.Test.YtmelhphhealomaaMem
import Derived.Test.YtmelhphhealomaaWd
namespace Go.Proofs.Ytmelhphhealomaa
set_option linter.unusedSimpArgs false
set_option linter.unusedVariables false
open Go.RowKit

theorem any_snoc {α : Type} (p : α → Bool) {l : List α} {k : Nat} (hk : k < l.length) : (l.take (k + 1)).any p = ((l.take k).any p || p l[k]) := by
  rw [List.take_succ_eq_append_getElem hk]
  simp only [List.any_append, List.any_cons, List.any_nil, Bool.or_false]

theorem any_take {α : Type} (p : α → Bool) {l : List α} {k : Nat} (h : (l.take k).any p = true) : l.any p = true := by
  rw [List.any_eq_true] at *
  obtain ⟨x, hx, hp⟩ := h
  exact ⟨x, List.mem_of_mem_take hx, hp⟩

theorem large_of_obj {g : Gr} {k : Nat} (hk : k < g.objs.length) (h : 4 < g.objs[k].length) : isLargeG g = true := by
  simp only [isLargeG, Bool.or_eq_true, List.any_eq_true, decide_eq_true_eq]
  exact .inr ⟨_, List.getElem_mem hk, h⟩

theorem badV_vals (v : V) (n : Nat) : badV v n = 0 ∨ badV v n = 2 ∨ badV v n = 3 := by
  unfold badV; split <;> split <;> simp

/-- The worst so far, none being 2. -/
def worst (l : List V) (n : Nat) : Int := if l.any (fun v => badV v n == 3) then 3 else 0

theorem worst_vals (l : List V) (n : Nat) : worst l n = 0 ∨ worst l n = 3 := by
  unfold worst; split <;> simp

theorem worst_snoc {l : List V} {k : Nat} (hk : k < l.length) {v : V} (hv : l[k] = v) (n : Nat) : worst (l.take (k + 1)) n = if worst (l.take k) n = 3 then 3 else if badV v n = 3 then 3 else 0 := by
  unfold worst
  rw [any_snoc _ hk, hv]
  by_cases h : (List.take k l).any (fun v => badV v n == 3) = true <;> by_cases h' : badV v n = 3 <;> simp [h, h']

theorem not_large {g : Gr} (h1 : ¬ 24 < g.objs.length) (h2 : ¬ 8 < g.roots.length) (h3 : g.objs.any (fun l => decide (4 < l.length)) = false) : isLargeG g = false := by
  simp only [isLargeG, h3, Bool.or_false]; simp; omega

set_option maxHeartbeats 1000000 in
theorem graphCheck_c (ao ar : Option Addr) (co cr : Nat) (g : Gr) (B : Nat) (w : World) (ho : Objs B w ao g.objs) (hr : Vals B w ar g.roots) (hB : B ≤ w.heap.size) :
    Calls Try.prog 15 #[.agg #[.slice ao g.objs.length co, .slice ar g.roots.length cr]] w fun e w' => e = .returned (.int .i64 (checkG g)) ∧ Below w.heap.size w w' := by
  have ho1 := ho.1
  have hr1 := hr.1
  by_cases h24 : 24 < g.objs.length
  · have d1 : (24 : Int) < (g.objs.length : Int) := by omega
    go_enter Try.func15, Try.ntmps15
    go_wp2
    go_ret
    exact ⟨ret_int (by simp [checkG, isLargeG, h24]), (Below.refl _ _).alloc (Nat.le_refl _) _⟩
  · have d1 : decide ((24 : Int) < (g.objs.length : Int)) = false := by simp; omega
    by_cases h8 : 8 < g.roots.length
    · have d2 : (8 : Int) < (g.roots.length : Int) := by omega
      go_enter Try.func15, Try.ntmps15
      go_wp2
      go_ret
      exact ⟨ret_int (by simp [checkG, isLargeG, h8]), (Below.refl _ _).alloc (Nat.le_refl _) _⟩
    · have d2 : decide ((8 : Int) < (g.roots.length : Int)) = false := by simp; omega
      go_enter Try.func15, Try.ntmps15
      go_wp2
      go_loopw [22] (fun i wr => ∃ k : Nat, k ≤ g.objs.length ∧ i = .int .i64 k ∧ (g.objs.take k).any (fun l => decide (4 < l.length)) = false ∧ Below (w.heap.size + 1) (w.alloc (.cells #[.slice ao g.objs.length co, .slice ar g.roots.length cr] 25)) wr) (fun i _ => g.objs.length - (intOf i).toNat)
      case atStart => exact ⟨0, Nat.zero_le _, rfl, by simp, Below.refl _ _⟩
      case round =>
        obtain ⟨k, hk, rfl, hno, hb⟩ := hrel
        have hsz : w.heap.size + 1 ≤ wr.heap.size := by have := hb.size; simpa using this
        have hb' : Below B w wr := ((Below.refl B w).alloc hB _).trans (hb.mono (by omega))
        by_cases hlt : k < g.objs.length
        · obtain ⟨b, off, ai, ci, rfl, hbB, hc, hva⟩ := (ho.below hb').at hlt
          have HT := hide (any_snoc (fun l : List V => decide (4 < l.length)) hlt)
          have HL := hide (large_of_obj hlt)
          generalize g.objs[k] = fs at *
          by_cases h4 : 4 < fs.length
          · have d3 : (4 : Int) < (fs.length : Int) := by omega
            go_wp2
            go_ret
            exact ⟨ret_int (by simp [checkG, unhide HL h4]), ((Below.refl _ w).alloc (Nat.le_refl _) _).trans ((hb.mono (by omega)).alloc (by omega) _)⟩
          · have d3 : decide ((4 : Int) < (fs.length : Int)) = false := by simp; omega
            go_wp2
            go_roundw
            case rel => exact ⟨k + 1, by omega, by go_num, by rw [unhide HT, hno]; simpa using h4, hb.alloc hsz _⟩
            case measure => simp [intOf]; omega
        · obtain rfl : k = g.objs.length := by omega
          rw [List.take_length] at hno
          have Hno := hide hno
          have h4 : ∀ l ∈ g.objs, l.length ≤ 4 := by
            intro l hl
            rw [List.any_eq_false] at hno
            have := hno l hl
            simpa using this
          have HL := hide (not_large h24 h8 hno)
          clear hno
          have hbx0 : wr.cell? ⟨w.heap.size, 0, none⟩ = some (.slice ao g.objs.length co) := by rw [hb.cell (p := ⟨w.heap.size, 0, none⟩) (by simp)]; simp [go_sem]
          have hbx1 : wr.cell? ⟨w.heap.size, 1, none⟩ = some (.slice ar g.roots.length cr) := by rw [hb.cell (p := ⟨w.heap.size, 1, none⟩) (by simp)]; simp [go_sem]
          go_wp2_with (go_at_call 24; go_must (refine (all_c _ _ _ _ g B _ (ho.below hb') (hr.below hb') (by omega) (by omega) (by omega) h4).mono ?_); rintro e w2 ⟨a, cap, rfl, hV, hb2⟩)
          have hl1 := hV.1
          have hsz2 := hb2.size
          have hbx2 : w2.cell? ⟨w.heap.size, 0, none⟩ = some (.slice ao g.objs.length co) := by rw [hb2.cell (p := ⟨w.heap.size, 0, none⟩) (by simp; omega)]; exact hbx0
          go_loopw [5, 34] (fun s i wi => ∃ k : Nat, k ≤ (allV g).length ∧ i = .int .i64 k ∧ s = .int .i64 (worst ((allV g).take k) g.objs.length) ∧ ((allV g).take k).any (fun v => badV v g.objs.length == 2) = false ∧ Below w2.heap.size w2 wi) (fun _ i _ => (allV g).length - (intOf i).toNat)
          case atStart => exact ⟨0, Nat.zero_le _, rfl, by simp [worst], by simp, Below.refl _ _⟩
          case round =>
            clear hbx0 hbx1
            obtain ⟨k, hk, rfl, rfl, hno2, hbi⟩ := hrel
            have hszi := hbi.size
            have hbi0 : wr.cell? ⟨w.heap.size, 0, none⟩ = some (.slice ao g.objs.length co) := by rw [hbi.cell (p := ⟨w.heap.size, 0, none⟩) (by simp; omega)]; exact hbx2
            by_cases hlt : k < (allV g).length
            · obtain ⟨b, off, r, n, rfl, hbB, hc1, hc2, Hv⟩ := (hV.below hbi).at hlt
              have HT := hide (any_snoc (fun v : V => badV v g.objs.length == 2) hlt)
              have HW := hide (worst_snoc hlt Hv.out g.objs.length)
              have HA := hide (fun h => any_take (fun v : V => badV v g.objs.length == 2) (l := allV g) (k := k + 1) h)
              rw [Hv.out] at HT
              have hx := badV_vals (r, n) g.objs.length
              have hy := worst_vals ((allV g).take k) g.objs.length
              generalize worst ((allV g).take k) g.objs.length = y at *
              generalize hX : badV (r, n) g.objs.length = x at *
              have HX := hide hX
              clear hX
              have Hno2 := hide hno2
              clear hno2
              have hbb : Below w.heap.size w wr := ((((Below.refl _ w).alloc (Nat.le_refl _) _).trans (hb.mono (by omega))).trans (hb2.mono (by omega))).trans (hbi.mono (by omega))
              have hq : w.heap.size < wr.heap.size := by omega
              rcases hx with rfl | rfl | rfl
              · rcases hy with rfl | rfl
                · go_wp2_with (go_at_call 25; go_must (refine (bad_c r n _ _).mono ?_); rintro e w3 ⟨he, hb3⟩; rw [unhide HX] at he; subst he)
                  go_roundw
                  case rel => exact ⟨k + 1, by omega, by go_num, by rw [unhide HW]; rfl, by rw [unhide HT, unhide Hno2]; rfl, (hbi.alloc hszi _).trans (hb3.mono (by simp; omega))⟩
                  case measure => simp [intOf]; omega
                · go_wp2_with (go_at_call 25; go_must (refine (bad_c r n _ _).mono ?_); rintro e w3 ⟨he, hb3⟩; rw [unhide HX] at he; subst he)
                  go_roundw
                  case rel => exact ⟨k + 1, by omega, by go_num, by rw [unhide HW]; rfl, by rw [unhide HT, unhide Hno2]; rfl, (hbi.alloc hszi _).trans (hb3.mono (by simp; omega))⟩
                  case measure => simp [intOf]; omega
              · go_wp2_with (go_at_call 25; go_must (refine (bad_c r n _ _).mono ?_); rintro e w3 ⟨he, hb3⟩; rw [unhide HX] at he; subst he)
                go_ret
                exact ⟨ret_int (by simp [checkG, unhide HL, unhide HA (by rw [unhide HT]; simp)]), (hbb.alloc hbb.size _).trans (hb3.mono (by have := hbb.size; simp; omega))⟩
              · rcases hy with rfl | rfl
                · go_wp2_with (go_at_call 25; go_must (refine (bad_c r n _ _).mono ?_); rintro e w3 ⟨he, hb3⟩; rw [unhide HX] at he; subst he)
                  go_roundw
                  case rel => exact ⟨k + 1, by omega, by go_num, by rw [unhide HW]; rfl, by rw [unhide HT, unhide Hno2]; rfl, (hbi.alloc hszi _).trans (hb3.mono (by simp; omega))⟩
                  case measure => simp [intOf]; omega
                · go_wp2_with (go_at_call 25; go_must (refine (bad_c r n _ _).mono ?_); rintro e w3 ⟨he, hb3⟩; rw [unhide HX] at he; subst he)
                  go_roundw
                  case rel => exact ⟨k + 1, by omega, by go_num, by rw [unhide HW]; rfl, by rw [unhide HT, unhide Hno2]; rfl, (hbi.alloc hszi _).trans (hb3.mono (by simp; omega))⟩
                  case measure => simp [intOf]; omega
            · obtain rfl : k = (allV g).length := by omega
              rw [List.take_length] at *
              go_wp2
              go_ret
              refine ⟨ret_int ?_, ((((Below.refl _ w).alloc (Nat.le_refl _) _).trans (hb.mono (by omega))).trans (hb2.mono (by omega))).trans (hbi.mono (by omega))⟩
              simp [checkG, unhide HL, hno2, worst]

end Go.Proofs.Ytmelhphhealomaa
