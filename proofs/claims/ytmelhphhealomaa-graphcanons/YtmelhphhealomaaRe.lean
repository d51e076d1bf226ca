/- Walks: the document's answer: Values, Graphs. -/
import Derived.Test.YtmelhphhealomaaProg
import Derived.Test.YtmelhphhealomaaMem
import Derived.Test.YtmelhphhealomaaWn
namespace Go.Proofs.Ytmelhphhealomaa
set_option linter.unusedSimpArgs false
set_option linter.unusedVariables false
open Go.RowKit

set_option maxRecDepth 100000 in
set_option maxHeartbeats 1000000 in
theorem values_eq_c (a1 a2 : Option Addr) (c1 c2 : Nat) (l1 l2 : List V) (B : Nat) (w : World) (h1 : Vals B w a1 l1) (h2 : Vals B w a2 l2) (hB : B ≤ w.heap.size) :
    Calls Try.prog 26 #[.slice a1 l1.length c1, .slice a2 l2.length c2] w fun e w' => e = .returned (.bool (decide (l1 = l2))) ∧ Below w.heap.size w w' := by
  have hl1 := h1.1
  have hl2 := h2.1
  by_cases hl : l1.length = l2.length
  · have d1 : ((l1.length : Int) != (l2.length : Int)) = false := by simp [hl]
    have d2 : ((l2.length : Int) != (l2.length : Int)) = false := by simp
    rw [hl]
    go_enter Try.func26, Try.ntmps26
    go_wp2
    go_loopw [5] (fun i wr => ∃ k : Nat, k ≤ l2.length ∧ i = .int .i64 k ∧ l1.take k = l2.take k ∧ Below w.heap.size w wr) (fun i _ => l2.length - (intOf i).toNat)
    case atStart => exact ⟨0, Nat.zero_le _, rfl, by simp, Below.refl _ _⟩
    case round =>
      obtain ⟨k, hk, rfl, heq, hb⟩ := hrel
      have Heq := hide heq
      clear heq
      by_cases hlt : k < l2.length
      · have hlt1 : k < l1.length := by omega
        obtain ⟨b1, o1, r1, n1, rfl, hbB1, hx1, hx2, Hv1⟩ := (h1.below (hb.mono hB)).at hlt1
        obtain ⟨b2, o2, r2, n2, rfl, hbB2, hy1, hy2, Hv2⟩ := (h2.below (hb.mono hB)).at hlt
        have hltI : (k : Int) < (l2.length : Int) := by omega
        have hgd := guard35
        have HT1 := hide (List.take_succ_eq_append_getElem hlt1)
        have HT2 := hide (List.take_succ_eq_append_getElem hlt)
        rw [Hv1.out] at HT1
        rw [Hv2.out] at HT2
        cases hE : (r1 == r2 && n1 == n2)
        · have he : ∀ w, (Op.equalIn 10000 35 (.agg #[.bool r1, .int .i64 n1]) (.agg #[.bool r2, .int .i64 n2])).run Try.prog w = .ok false w := fun w => by rw [eql_in, hE]
          have HE := hide hE
          clear hE
          go_wp2
          go_still Try.mixed
          go_wp2
          go_ret
          refine ⟨ret_bool (Eq.symm ?_), hb.trans (Below.refl _ _).drew⟩
          rw [decide_eq_false_iff_not]
          intro e
          subst e
          have := Hv1.out.symm.trans Hv2.out
          simp only [Prod.mk.injEq] at this
          have := unhide HE
          simp_all
        · have he : ∀ w, (Op.equalIn 10000 35 (.agg #[.bool r1, .int .i64 n1]) (.agg #[.bool r2, .int .i64 n2])).run Try.prog w = .ok true w := fun w => by rw [eql_in, hE]
          have HE := hide hE
          clear hE
          go_wp2
          go_still Try.mixed
          go_wp2
          go_roundw
          case rel =>
            refine ⟨k + 1, by omega, by go_num, ?_, hb.trans (Below.refl _ _).drew⟩
            rw [unhide HT1, unhide HT2, unhide Heq]
            have := unhide HE
            simp at this
            rw [this.1, this.2]
          case measure => simp [intOf]; omega
      · obtain rfl : k = l2.length := by omega
        go_wp2
        go_ret
        refine ⟨ret_bool (Eq.symm ?_), hb⟩
        rw [decide_eq_true_iff]
        have := unhide Heq
        rw [List.take_length, ← hl, List.take_length] at this
        exact this
  · have d1 : ((l1.length : Int) != (l2.length : Int)) = true := by simp; omega
    go_enter Try.func26, Try.ntmps26
    go_wp2
    go_ret
    refine ⟨ret_bool (Eq.symm ?_), Below.refl _ _⟩
    rw [decide_eq_false_iff_not]
    intro e
    exact hl (by rw [e])

set_option maxRecDepth 100000 in
set_option maxHeartbeats 1000000 in
theorem graphs_c (ao ar bo br : Option Addr) (co cr do' dr : Nat) (g h : Gr) (B : Nat) (w : World) (ho : Objs B w ao g.objs) (hr : Vals B w ar g.roots) (ko : Objs B w bo h.objs) (kr : Vals B w br h.roots) (hB : B ≤ w.heap.size) :
    Calls Try.prog 16 #[.agg #[.slice ao g.objs.length co, .slice ar g.roots.length cr], .agg #[.slice bo h.objs.length do', .slice br h.roots.length dr]] w fun e w' => e = .returned (.bool (sameG g h)) ∧ Below w.heap.size w w' := by
  have ho1 := ho.1
  have ko1 := ko.1
  obtain ⟨W0, hW0⟩ : ∃ W0, (w.alloc (.cells #[.slice ao g.objs.length co, .slice ar g.roots.length cr] 25)).alloc (.cells #[.slice bo h.objs.length do', .slice br h.roots.length dr] 25) = W0 := ⟨_, rfl⟩
  have hb0 : Below w.heap.size w W0 := by rw [← hW0]; exact ((Below.refl _ _).alloc (Nat.le_refl _) _).alloc (by simp) _
  have hs0 : w.heap.size + 1 < W0.heap.size := by rw [← hW0]; simp
  have g0 : W0.cell? ⟨w.heap.size, 0, none⟩ = some (.slice ao g.objs.length co) := by rw [← hW0]; simp [go_sem]
  have g1 : W0.cell? ⟨w.heap.size, 1, none⟩ = some (.slice ar g.roots.length cr) := by rw [← hW0]; simp [go_sem]
  have k0 : W0.cell? ⟨w.heap.size + 1, 0, none⟩ = some (.slice bo h.objs.length do') := by rw [← hW0]; simp [go_sem]
  have k1 : W0.cell? ⟨w.heap.size + 1, 1, none⟩ = some (.slice br h.roots.length dr) := by rw [← hW0]; simp [go_sem]
  by_cases hl : g.objs.length = h.objs.length
  · have d1 : ((g.objs.length : Int) != (h.objs.length : Int)) = false := by simp [hl]
    have d2 : ((h.objs.length : Int) != (h.objs.length : Int)) = false := by simp
    have hla : g.objs.length ≤ h.objs.length := by omega
    have hlb : h.objs.length ≤ g.objs.length := by omega
    have Hl := hide hl
    clear hl
    cases hE : decide (g.roots = h.roots)
    · have HE := hide hE
      have Hs := hide (show sameG g h = false from by unfold sameG; rw [hE]; rfl)
      clear hE
      go_enter Try.func16, Try.ntmps16
      go_wp2_with (go_at_call 26; go_must (refine (values_eq_c _ _ _ _ g.roots h.roots B _ (hr.below (hb0.mono hB)) (kr.below (hb0.mono hB)) (by omega)).mono ?_); go_must (rintro e w3 ⟨he, hb3⟩; rw [unhide HE] at he; subst he))
      go_ret
      exact ⟨ret_bool (unhide Hs).symm, hb0.trans (hb3.mono (by omega))⟩
    · have HE := hide hE
      have Hs := hide (show sameG g h = decide (g.objs = h.objs) from by unfold sameG; rw [hE]; simp)
      clear hE
      go_enter Try.func16, Try.ntmps16
      go_wp2_with (go_at_call 26; go_must (refine (values_eq_c _ _ _ _ g.roots h.roots B _ (hr.below (hb0.mono hB)) (kr.below (hb0.mono hB)) (by omega)).mono ?_); go_must (rintro e w3 ⟨he, hb3⟩; rw [unhide HE] at he; subst he))
      clear hW0
      go_loopw [5] (fun i wr => ∃ k : Nat, k ≤ h.objs.length ∧ i = .int .i64 k ∧ g.objs.take k = h.objs.take k ∧ Below W0.heap.size W0 wr) (fun i _ => h.objs.length - (intOf i).toNat)
      case atStart => exact ⟨0, Nat.zero_le _, rfl, by simp, hb3⟩
      case round =>
        obtain ⟨k, hk, rfl, heq, hb⟩ := hrel
        have hsz := hb.size
        have Heq := hide heq
        clear heq
        have hbw : Below B w wr := (hb0.mono hB).trans (hb.mono (by omega))
        have g0 := (hb.cell (p := ⟨w.heap.size, 0, none⟩) (by simp; omega)).trans g0
        have k0 := (hb.cell (p := ⟨w.heap.size + 1, 0, none⟩) (by simp; omega)).trans k0
        by_cases hlt : k < h.objs.length
        · have hlt1 : k < g.objs.length := by omega
          obtain ⟨b1, o1, ai1, ci1, rfl, hbB1, hx1, hv1⟩ := (ho.below hbw).at hlt1
          obtain ⟨b2, o2, ai2, ci2, rfl, hbB2, hy1, hv2⟩ := (ko.below hbw).at hlt
          have HT1 := hide (List.take_succ_eq_append_getElem hlt1)
          have HT2 := hide (List.take_succ_eq_append_getElem hlt)
          have HN : Hid (g.objs[k] ≠ h.objs[k] → g.objs ≠ h.objs) := fun hne e => hne (by simp only [e])
          generalize g.objs[k] = f1 at *
          generalize h.objs[k] = f2 at *
          have hkI : (k : Int) < (h.objs.length : Int) := by omega
          have hkI1 : (k : Int) < (g.objs.length : Int) := by omega
          have hv1d := hv1.below (Below.refl B wr).drew
          have hv2d := hv2.below (Below.refl B wr).drew
          have hBd : B ≤ wr.drew.heap.size := by show B ≤ wr.heap.size; omega
          cases hE : decide (f1 = f2)
          · have HE := hide hE
            clear hE
            go_wp2
            go_still_tail 12, Try.mixed
            go_wp2_with (go_at_call 26; go_must (refine (values_eq_c _ _ _ _ f1 f2 B _ hv1d hv2d hBd).mono ?_); go_must (rintro e w4 ⟨he, hb4⟩; rw [unhide HE] at he; subst he))
            go_ret
            refine ⟨ret_bool (Eq.symm ?_), hb0.trans ((hb.mono (by omega)).trans ((Below.refl _ _).drew.trans (hb4.mono (by show w.heap.size ≤ wr.heap.size; omega))))⟩
            rw [unhide Hs, decide_eq_false_iff_not]
            exact unhide HN (by simpa using unhide HE)
          · have HE := hide hE
            clear hE
            go_wp2
            go_still_tail 12, Try.mixed
            go_wp2_with (go_at_call 26; go_must (refine (values_eq_c _ _ _ _ f1 f2 B _ hv1d hv2d hBd).mono ?_); go_must (rintro e w4 ⟨he, hb4⟩; rw [unhide HE] at he; subst he))
            go_roundw
            case rel =>
              refine ⟨k + 1, by omega, by go_num, ?_, hb.trans ((Below.refl _ _).drew.trans (hb4.mono (by show W0.heap.size ≤ wr.heap.size; omega)))⟩
              rw [unhide HT1, unhide HT2, unhide Heq, of_decide_eq_true (unhide HE)]
            case measure => simp [intOf]; omega
        · obtain rfl : k = h.objs.length := by omega
          go_wp2
          go_ret
          refine ⟨ret_bool (Eq.symm ?_), hb0.trans (hb.mono (by omega))⟩
          rw [unhide Hs, decide_eq_true_iff]
          have := unhide Heq
          rw [List.take_length, ← unhide Hl, List.take_length] at this
          exact this
  · have d1 : ((g.objs.length : Int) != (h.objs.length : Int)) = true := by simp; omega
    go_enter Try.func16, Try.ntmps16
    go_wp2
    go_ret
    refine ⟨ret_bool (Eq.symm ?_), hb0⟩
    have : decide (g.objs = h.objs) = false := by rw [decide_eq_false_iff_not]; intro e; exact hl (by rw [e])
    unfold sameG; rw [this]; simp

end Go.Proofs.Ytmelhphhealomaa
