/- Walks: closed, masked. -/
import Derived.Test.YtadjlimdbbaoaaaProg
import Derived.Test.YtadjlimdbbaoaaaMem
import Derived.Test.YtadjlimdbbaoaaaRa
import Derived.Test.YtadjlimdbbaoaaaWz
namespace Go.Proofs.Ytadjlimdbbaoaaa
set_option linter.unusedSimpArgs false
set_option linter.unusedVariables false
open Go.RowKit

/-- A value refers to nothing outside of a list. -/
def okV (l : List Int) (v : V) : Bool := !v.1 || decide (v.2 ∈ l)
def closedB (g : Gr) (l : List Int) : Bool := g.roots.all (okV l) && l.all fun o => (fieldsOf g o).all (okV l)

theorem all_take {α : Type} {p : α → Bool} {l : List α} {k : Nat} (hk : k < l.length) (h : (l.take k).all p = true) (hp : p l[k] = true) : (l.take (k + 1)).all p = true := by
  rw [List.take_succ_eq_append_getElem hk, List.all_append, h]; simp [hp]

theorem all_not {α : Type} {p : α → Bool} {l : List α} {k : Nat} (hk : k < l.length) (hp : p l[k] = false) : l.all p = false := by
  rw [List.all_eq_false]; exact ⟨_, List.getElem_mem hk, by simp [hp]⟩

set_option maxRecDepth 100000 in
set_option maxHeartbeats 2000000 in
theorem closed_c (ao ar al : Option Addr) (co cr cl : Nat) (g : Gr) (l : List Int) (B : Nat) (w : World) (ho : Objs B w ao g.objs) (hr : Vals B w ar g.roots) (hl : Ints B w al l) (hB : B ≤ w.heap.size) (hrng : ∀ x ∈ l, 0 ≤ x ∧ x < (g.objs.length : Int)) (hn8 : g.roots.length ≤ 1000) (hn4 : ∀ f ∈ g.objs, f.length ≤ 1000) :
    Calls Try.prog 17 #[.agg #[.slice ao g.objs.length co, .slice ar g.roots.length cr], .slice al l.length cl] w fun e w' => e = .returned (.bool (closedB g l)) ∧ Below w.heap.size w w' := by
  have hll := hl.1
  have hol := ho.1
  obtain ⟨W0, hW0⟩ : ∃ W0, w.alloc (.cells #[.slice ao g.objs.length co, .slice ar g.roots.length cr] 25) = W0 := ⟨_, rfl⟩
  have hb0 : Below w.heap.size w W0 := by rw [← hW0]; exact (Below.refl _ _).alloc (Nat.le_refl _) _
  have hs0 : w.heap.size < W0.heap.size := by rw [← hW0]; simp
  have g0 : W0.cell? ⟨w.heap.size, 0, none⟩ = some (.slice ao g.objs.length co) := by rw [← hW0]; simp [go_sem]
  have g1 : W0.cell? ⟨w.heap.size, 1, none⟩ = some (.slice ar g.roots.length cr) := by rw [← hW0]; simp [go_sem]
  go_enter Try.func17, Try.ntmps17
  go_wp2
  clear hW0
  go_loopw [14] (fun i wr => ∃ k : Nat, k ≤ g.roots.length ∧ i = .int .i64 k ∧ Hid ((g.roots.take k).all (okV l) = true) ∧ Below W0.heap.size W0 wr) (fun i _ => g.roots.length - (intOf i).toNat)
  case atStart => exact ⟨0, Nat.zero_le _, rfl, by show (g.roots.take 0).all _ = true; simp, Below.refl _ _⟩
  case round =>
    obtain ⟨k, hk, rfl, Hall, hb⟩ := hrel
    have hsz := hb.size
    have hbw : Below B w wr := (hb0.mono hB).trans (hb.mono (by omega))
    by_cases hlt : k < g.roots.length
    · obtain ⟨b, off, r, n, rfl, hbB, hc1, hc2, Hv⟩ := (hr.below hbw).at hlt
      cases r
      · have Hn : Hid ((g.roots.take (k + 1)).all (okV l) = true) := all_take hlt (unhide Hall) (by rw [Hv.out]; rfl)
        go_wp2
        go_roundw
        case rel => exact ⟨k + 1, by omega, by go_num, Hn, hb.alloc hsz _⟩
        case measure => simp [intOf]; omega
      · have hIa := (hl.below hbw).below ((Below.refl B wr).alloc (by omega) (.cells #[.bool true, .int .i64 n] 47))
        by_cases hm : n ∈ l
        · have Hn : Hid ((g.roots.take (k + 1)).all (okV l) = true) := all_take hlt (unhide Hall) (by rw [Hv.out]; simp [okV, hm])
          have Hm := hide (decide_eq_true hm)
          clear hm
          go_wp2_with (go_at_call 32; go_must (refine (has_c _ _ l n B _ hIa).mono ?_); go_must (rintro e w3 ⟨he, hw3⟩; rw [unhide Hm] at he; subst he; subst hw3))
          go_roundw
          case rel => exact ⟨k + 1, by omega, by go_num, Hn, hb.alloc hsz _⟩
          case measure => simp [intOf]; omega
        · have Hn : Hid (closedB g l = false) := by
            show closedB g l = false
            unfold closedB
            rw [all_not hlt (by rw [Hv.out]; simp [okV, hm])]; rfl
          have Hm := hide (decide_eq_false hm)
          clear hm
          go_wp2_with (go_at_call 32; go_must (refine (has_c _ _ l n B _ hIa).mono ?_); go_must (rintro e w3 ⟨he, hw3⟩; rw [unhide Hm] at he; subst he; subst hw3))
          go_ret
          exact ⟨ret_bool (unhide Hn).symm, (hb0.trans (hb.mono (by omega))).alloc (by omega) _⟩
    · obtain rfl : k = g.roots.length := by omega
      have Hroots : Hid (g.roots.all (okV l) = true) := by have := unhide Hall; rwa [List.take_length] at this
      clear Hall
      go_wp2
      go_loopw [30] (fun i wr => ∃ k : Nat, k ≤ l.length ∧ i = .int .i64 k ∧ Hid ((l.take k).all (fun o => (fieldsOf g o).all (okV l)) = true) ∧ Below W0.heap.size W0 wr) (fun i _ => l.length - (intOf i).toNat)
      case atStart => exact ⟨0, Nat.zero_le _, rfl, by show (l.take 0).all _ = true; simp, hb⟩
      case round =>
        clear hb hsz hbw
        obtain ⟨k, hk, rfl, Hall, hb⟩ := hrel
        have hsz := hb.size
        have hbw : Below B w wr := (hb0.mono hB).trans (hb.mono (by omega))
        by_cases hlt : k < l.length
        · obtain ⟨bl, ol, hal, hblB, hcl⟩ := (hl.below hbw).at hlt
          subst hal
          have hx := hrng _ (List.getElem_mem hlt)
          have g0 := (hb.cell (p := ⟨w.heap.size, 0, none⟩) (by simp; omega)).trans g0
          have Hyes : Hid ((fieldsOf g l[k]).all (okV l) = true → (l.take (k + 1)).all (fun o => (fieldsOf g o).all (okV l)) = true) := fun h => all_take hlt (unhide Hall) h
          have Hnot : Hid ((fieldsOf g l[k]).all (okV l) = false → closedB g l = false) := by
            intro h
            unfold closedB
            rw [all_not (p := fun o => (fieldsOf g o).all (okV l)) hlt h]; simp
          generalize l[k] = o at *
          obtain ⟨o, rfl⟩ := Int.eq_ofNat_of_zero_le hx.1
          have hoN : o < g.objs.length := by omega
          obtain ⟨b, off, ai, ci, rfl, hbB, hcb, hva⟩ := (ho.below hbw).at hoN
          have hva0 := hva.below' hbw
          have hl4 := hn4 _ (List.getElem_mem hoN)
          have Hfs : fieldsOf g (o : Int) = g.objs[o] := by simp [fieldsOf, hoN]
          rw [Hfs] at Hyes Hnot
          clear Hfs
          generalize g.objs[o] = fs at *
          have hoI : (o : Int) < (g.objs.length : Int) := by omega
          go_wp2
          clear hcl hcb hva
          go_loopw [41] (fun i wi => ∃ j : Nat, j ≤ fs.length ∧ i = .int .i64 j ∧ Hid ((fs.take j).all (okV l) = true) ∧ Below W0.heap.size W0 wi) (fun i _ => fs.length - (intOf i).toNat)
          case atStart => exact ⟨0, Nat.zero_le _, rfl, by show (fs.take 0).all _ = true; simp, hb⟩
          case round =>
            clear hb hsz hbw g0
            obtain ⟨j, hj, rfl, Hfall, hb⟩ := hrel
            have hsz := hb.size
            have hbw : Below B w wr := (hb0.mono hB).trans (hb.mono (by omega))
            by_cases hltj : j < fs.length
            · obtain ⟨bj, oj, r, n, rfl, hbBj, hc1, hc2, Hv⟩ := (hva0.below hbw).at hltj
              cases r
              · have Hn : Hid ((fs.take (j + 1)).all (okV l) = true) := all_take hltj (unhide Hfall) (by rw [Hv.out]; rfl)
                go_wp2
                go_roundw
                case rel => exact ⟨j + 1, by omega, by go_num, Hn, hb.alloc hsz _⟩
                case measure => simp [intOf]; omega
              · have hIa := (hl.below hbw).below ((Below.refl B wr).alloc (by omega) (.cells #[.bool true, .int .i64 n] 47))
                by_cases hm : n ∈ l
                · have Hn : Hid ((fs.take (j + 1)).all (okV l) = true) := all_take hltj (unhide Hfall) (by rw [Hv.out]; simp [okV, hm])
                  have Hm := hide (decide_eq_true hm)
                  clear hm
                  go_wp2_with (go_at_call 32; go_must (refine (has_c _ _ l n B _ hIa).mono ?_); go_must (rintro e w3 ⟨he, hw3⟩; rw [unhide Hm] at he; subst he; subst hw3))
                  go_roundw
                  case rel => exact ⟨j + 1, by omega, by go_num, Hn, hb.alloc hsz _⟩
                  case measure => simp [intOf]; omega
                · have Hn : Hid (closedB g l = false) := unhide Hnot (all_not hltj (by rw [Hv.out]; simp [okV, hm]))
                  have Hm := hide (decide_eq_false hm)
                  clear hm
                  go_wp2_with (go_at_call 32; go_must (refine (has_c _ _ l n B _ hIa).mono ?_); go_must (rintro e w3 ⟨he, hw3⟩; rw [unhide Hm] at he; subst he; subst hw3))
                  go_ret
                  exact ⟨ret_bool (unhide Hn).symm, (hb0.trans (hb.mono (by omega))).alloc (by omega) _⟩
            · obtain rfl : j = fs.length := by omega
              have Hn : Hid ((l.take (k + 1)).all (fun o => (fieldsOf g o).all (okV l)) = true) := unhide Hyes (by have := unhide Hfall; rwa [List.take_length] at this)
              go_wp2
              go_roundw
              case rel => exact ⟨k + 1, by omega, by go_num, Hn, hb⟩
              case measure => simp [intOf]; omega
        · obtain rfl : k = l.length := by omega
          have Hn : Hid (closedB g l = true) := by
            show closedB g l = true
            have := unhide Hall
            rw [List.take_length] at this
            unfold closedB
            rw [unhide Hroots, this]; rfl
          go_wp2
          go_ret
          exact ⟨ret_bool (unhide Hn).symm, hb0.trans (hb.mono (by omega))⟩

end Go.Proofs.Ytadjlimdbbaoaaa
