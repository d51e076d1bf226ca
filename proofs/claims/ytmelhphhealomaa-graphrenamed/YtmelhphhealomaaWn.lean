/- Walks: whether two lists of values are the same. -/
import Derived.Test.YtmelhphhealomaaProg
import Derived.Test.YtmelhphhealomaaMem
import Derived.Test.YtmelhphhealomaaWl
import Derived.Test.YtmelhphhealomaaWq
namespace Go.Proofs.Ytmelhphhealomaa
set_option linter.unusedSimpArgs false
set_option linter.unusedVariables false
open Go.RowKit

set_option maxRecDepth 100000 in
set_option maxHeartbeats 1000000 in
theorem equal_c (a1 a2 : Option Addr) (c1 c2 : Nat) (l1 l2 : List V) (B : Nat) (w : World) (h1 : Vals B w a1 l1) (h2 : Vals B w a2 l2) (hB : B ≤ w.heap.size) :
    Calls Try.prog 34 #[.slice a1 l1.length c1, .slice a2 l2.length c2] w fun e w' => e = .returned (.bool (decide (l1 = l2))) ∧ Below B w w' := by
  have hl1 := h1.1
  have hl2 := h2.1
  by_cases hl : l1.length = l2.length
  · have d1 : ((l1.length : Int) != (l2.length : Int)) = false := by simp [hl]
    have d2 : ((l2.length : Int) != (l2.length : Int)) = false := by simp
    rw [hl]
    go_enter Try.func34, Try.ntmps34
    go_wp2
    go_loopw [13] (fun i wr => ∃ k : Nat, k ≤ l2.length ∧ i = .int .i64 k ∧ l1.take k = l2.take k ∧ Below B w wr) (fun i _ => l2.length - (intOf i).toNat)
    case atStart => exact ⟨0, Nat.zero_le _, rfl, by simp, Below.refl _ _⟩
    case round =>
      obtain ⟨k, hk, rfl, heq, hb⟩ := hrel
      have Heq := hide heq
      clear heq
      by_cases hlt : k < l2.length
      · have hlt1 : k < l1.length := by omega
        obtain ⟨b1, o1, r1, n1, rfl, hbB1, hx1, hx2, Hv1⟩ := (h1.below hb).at hlt1
        obtain ⟨b2, o2, r2, n2, rfl, hbB2, hy1, hy2, Hv2⟩ := (h2.below hb).at hlt
        have hltI : (k : Int) < (l2.length : Int) := by omega
        have hgd := guard35
        have HT1 := hide (List.take_succ_eq_append_getElem hlt1)
        have HT2 := hide (List.take_succ_eq_append_getElem hlt)
        rw [Hv1.out] at HT1
        rw [Hv2.out] at HT2
        cases hE : (r1 == r2 && n1 == n2)
        · have he : ∀ w, (Op.equalIn 10000 35 (.agg #[.bool r1, .int .i64 n1]) (.agg #[.bool r2, .int .i64 n2])).run Try.prog w = .ok false w := fun w => by rw [eql_in, hE]
          have HE := hide hE
          clear hE
          go_wp2
          go_still Try.mixed
          go_wp2
          go_ret
          refine ⟨ret_bool (Eq.symm ?_), hb.trans (Below.refl _ _).drew⟩
          rw [decide_eq_false_iff_not]
          intro e
          subst e
          have := Hv1.out.symm.trans Hv2.out
          simp only [Prod.mk.injEq] at this
          have := unhide HE
          simp_all
        · have he : ∀ w, (Op.equalIn 10000 35 (.agg #[.bool r1, .int .i64 n1]) (.agg #[.bool r2, .int .i64 n2])).run Try.prog w = .ok true w := fun w => by rw [eql_in, hE]
          have HE := hide hE
          clear hE
          go_wp2
          go_still Try.mixed
          go_wp2
          go_roundw
          case rel =>
            refine ⟨k + 1, by omega, by go_num, ?_, hb.trans (Below.refl _ _).drew⟩
            rw [unhide HT1, unhide HT2, unhide Heq]
            have := unhide HE
            simp at this
            rw [this.1, this.2]
          case measure => simp [intOf]; omega
      · obtain rfl : k = l2.length := by omega
        go_wp2
        go_ret
        refine ⟨ret_bool (Eq.symm ?_), hb⟩
        rw [decide_eq_true_iff]
        have := unhide Heq
        rw [List.take_length, ← hl, List.take_length] at this
        exact this
  · have d1 : ((l1.length : Int) != (l2.length : Int)) = true := by simp; omega
    go_enter Try.func34, Try.ntmps34
    go_wp2
    go_ret
    refine ⟨ret_bool (Eq.symm ?_), Below.refl _ _⟩
    rw [decide_eq_false_iff_not]
    intro e
    exact hl (by rw [e])

set_option maxRecDepth 100000 in
set_option maxHeartbeats 400000 in
theorem equal1_c (a1 a2 : Option Addr) (c1 c2 : Nat) (l1 l2 : List V) (B : Nat) (w : World) (h1 : Vals B w a1 l1) (h2 : Vals B w a2 l2) (hB : B ≤ w.heap.size) :
    Calls Try.prog 36 #[.agg #[.slice a1 l1.length c1], .agg #[.slice a2 l2.length c2]] w fun e w' => e = .returned (.bool (decide (l1 = l2))) ∧ Below B w w' := by
  have hb1 := ((Below.refl B w).alloc hB (.cells #[.slice a1 l1.length c1] 43)).alloc (by simp; omega) (.cells #[.slice a2 l2.length c2] 43)
  go_enter Try.func36, Try.ntmps36
  go_wp2_with (go_at_call 34; go_must (refine (equal_c _ _ _ _ l1 l2 B _ (h1.below hb1) (h2.below hb1) (by simp; omega)).mono ?_); rintro e w3 ⟨rfl, hb3⟩)
  go_ret
  exact ⟨rfl, hb1.trans hb3⟩

set_option maxRecDepth 100000 in
set_option maxHeartbeats 1000000 in
theorem equalFunc_c (a1 a2 : Option Addr) (c1 c2 : Nat) (L1 L2 : List (List V)) (B : Nat) (w : World) (h1 : Objs B w a1 L1) (h2 : Objs B w a2 L2) (hB : B ≤ w.heap.size) :
    Calls Try.prog 35 #[.slice a1 L1.length c1, .slice a2 L2.length c2, .func (.func 36) #[] #[]] w fun e w' => e = .returned (.bool (decide (L1 = L2))) ∧ Below B w w' := by
  have hl1 := h1.1
  have hl2 := h2.1
  by_cases hl : L1.length = L2.length
  · have d1 : ((L1.length : Int) != (L2.length : Int)) = false := by simp [hl]
    have d2 : ((L2.length : Int) != (L2.length : Int)) = false := by simp
    rw [hl]
    go_enter Try.func35, Try.ntmps35
    go_wp2
    go_loopw [17] (fun i wr => ∃ k : Nat, k ≤ L2.length ∧ i = .int .i64 k ∧ L1.take k = L2.take k ∧ Below B w wr) (fun i _ => L2.length - (intOf i).toNat)
    case atStart => exact ⟨0, Nat.zero_le _, rfl, by simp, Below.refl _ _⟩
    case round =>
      obtain ⟨k, hk, rfl, heq, hb⟩ := hrel
      have hsz := hb.size
      have Heq := hide heq
      clear heq
      by_cases hlt : k < L2.length
      · have hlt1 : k < L1.length := by omega
        obtain ⟨b1, o1, ai1, ci1, rfl, hbB1, hx1, hv1⟩ := (h1.below hb).at hlt1
        obtain ⟨b2, o2, ai2, ci2, rfl, hbB2, hy1, hv2⟩ := (h2.below hb).at hlt
        have hq : b2 < wr.heap.size := by omega
        have HT1 := hide (List.take_succ_eq_append_getElem hlt1)
        have HT2 := hide (List.take_succ_eq_append_getElem hlt)
        have HN : Hid (L1[k] ≠ L2[k] → L1 ≠ L2) := fun hne e => by subst e; exact hne rfl
        generalize L1[k] = f1 at *
        generalize L2[k] = f2 at *
        have hbb := ((Below.refl B wr).alloc (by omega) (.cells #[.slice ai1 f1.length ci1] 43)).alloc (by simp; omega) (.cells #[.slice ai2 f2.length ci2] 43)
        cases hE : decide (f1 = f2)
        · have HE := hide hE
          clear hE
          go_wp2_with (go_at_call 36; go_must (refine (equal1_c _ _ _ _ f1 f2 B _ (hv1.below hbb) (hv2.below hbb) (by simp; omega)).mono ?_); rintro e w3 ⟨he, hb3⟩; rw [unhide HE] at he; subst he)
          go_ret
          refine ⟨ret_bool (Eq.symm ?_), hb.trans (hbb.trans hb3)⟩
          rw [decide_eq_false_iff_not]
          exact unhide HN (by simpa using unhide HE)
        · have HE := hide hE
          clear hE
          go_wp2_with (go_at_call 36; go_must (refine (equal1_c _ _ _ _ f1 f2 B _ (hv1.below hbb) (hv2.below hbb) (by simp; omega)).mono ?_); rintro e w3 ⟨he, hb3⟩; rw [unhide HE] at he; subst he)
          go_roundw
          case rel =>
            refine ⟨k + 1, by omega, by go_num, ?_, hb.trans (hbb.trans hb3)⟩
            rw [unhide HT1, unhide HT2, unhide Heq, of_decide_eq_true (unhide HE)]
          case measure => simp [intOf]; omega
      · obtain rfl : k = L2.length := by omega
        go_wp2
        go_ret
        refine ⟨ret_bool (Eq.symm ?_), hb⟩
        rw [decide_eq_true_iff]
        have := unhide Heq
        rw [List.take_length, ← hl, List.take_length] at this
        exact this
  · have d1 : ((L1.length : Int) != (L2.length : Int)) = true := by simp; omega
    go_enter Try.func35, Try.ntmps35
    go_wp2
    go_ret
    refine ⟨ret_bool (Eq.symm ?_), Below.refl _ _⟩
    rw [decide_eq_false_iff_not]
    intro e
    exact hl (by rw [e])

def sameG (g h : Gr) : Bool := decide (g.roots = h.roots) && decide (g.objs = h.objs)

set_option maxRecDepth 100000 in
set_option maxHeartbeats 1000000 in
theorem equalG_c (ao ar bo br : Option Addr) (co cr do' dr : Nat) (g h : Gr) (B : Nat) (w : World) (ho : Objs B w ao g.objs) (hr : Vals B w ar g.roots) (ko : Objs B w bo h.objs) (kr : Vals B w br h.roots) (hB : B ≤ w.heap.size) :
    Calls Try.prog 21 #[.agg #[.slice ao g.objs.length co, .slice ar g.roots.length cr], .agg #[.slice bo h.objs.length do', .slice br h.roots.length dr]] w fun e w' => e = .returned (.bool (sameG g h)) ∧ Below B w w' := by
  have hb1 := ((Below.refl B w).alloc hB (.cells #[.slice ao g.objs.length co, .slice ar g.roots.length cr] 25)).alloc (by simp; omega) (.cells #[.slice bo h.objs.length do', .slice br h.roots.length dr] 25)
  unfold sameG
  cases hE : decide (g.roots = h.roots)
  · have HE := hide hE
    clear hE
    go_enter Try.func21, Try.ntmps21
    go_wp2_with (go_at_call 34; go_must (refine (equal_c _ _ _ _ g.roots h.roots B _ (hr.below hb1) (kr.below hb1) (by simp; omega)).mono ?_); rintro e w3 ⟨he, hb3⟩; rw [unhide HE] at he; subst he)
    go_ret
    exact ⟨ret_bool (by simp), hb1.trans hb3⟩
  · have HE := hide hE
    clear hE
    have hk1 := (((Below.refl (w.heap.size + 2) ((w.alloc (.cells #[.slice ao g.objs.length co, .slice ar g.roots.length cr] 25)).alloc (.cells #[.slice bo h.objs.length do', .slice br h.roots.length dr] 25)))))
    go_enter Try.func21, Try.ntmps21
    go_wp2_with (first
      | (go_at_call 34; go_must (refine (equal_c _ _ _ _ g.roots h.roots (w.heap.size + 2) _ ((hr.below hb1).mono (by omega)) ((kr.below hb1).mono (by omega)) (by simp)).mono ?_); rintro e w3 ⟨he, hb3⟩; rw [unhide HE] at he; subst he; have q1 := hb3.cell (p := ⟨w.heap.size, 0, none⟩) (by simp); have q2 := hb3.cell (p := ⟨w.heap.size + 1, 0, none⟩) (by simp); simp [go_sem] at q1 q2)
      | (go_at_call 35; go_must (refine (equalFunc_c _ _ _ _ g.objs h.objs B _ (ho.below (hb1.trans (hb3.mono (by omega)))) (ko.below (hb1.trans (hb3.mono (by omega)))) (by have := hb3.size; simp at this; omega)).mono ?_); rintro e w4 ⟨rfl, hb4⟩))
    go_ret
    exact ⟨ret_bool (by simp), hb1.trans ((hb3.mono (by omega)).trans hb4)⟩

end Go.Proofs.Ytmelhphhealomaa
