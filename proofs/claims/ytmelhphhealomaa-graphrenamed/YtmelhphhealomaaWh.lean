/- Walks: graph.Check. -/
import Derived.Test.YtmelhphhealomaaProg
import Derived.Test.YtmelhphhealomaaMem
import Derived.Test.YtmelhphhealomaaWf
import Derived.Test.YtmelhphhealomaaWg
namespace Go.Proofs.Ytmelhphhealomaa
set_option linter.unusedSimpArgs false
set_option linter.unusedVariables false
open Go.RowKit Go.Shelf
attribute [local go_sem] Oper.semAt_some

set_option maxRecDepth 100000 in
set_option maxHeartbeats 2000000 in
theorem values_c (ao ar : Option Addr) (no co nr cr : Nat) (w : World) :
    Calls Try.prog 31 #[.agg #[.slice ao no co, .slice ar nr cr]] w fun e w' => e = .returned (.func (.func 44) #[] #[.pointer (some ⟨w.heap.size, 0, none⟩)]) ∧ w' = w.alloc (.cells #[.slice ao no co, .slice ar nr cr] 25) := by
  go_enter Try.func31, Try.ntmps31
  go_wp2
  go_ret
  exact ⟨rfl, rfl⟩

set_option maxRecDepth 100000 in
set_option maxHeartbeats 2000000 in
theorem check_large (ao ar : Option Addr) (co cr : Nat) (g : Gr) (B : Nat) (w : World) (ho : Objs B w ao g.objs) (hr : Vals B w ar g.roots) (hB : B ≤ w.heap.size) (hL : isLargeG g = true) :
    Calls Try.prog 20 #[.agg #[.slice ao g.objs.length co, .slice ar g.roots.length cr]] w fun e w' => e = .returned (.int .i64 (checkG g)) ∧ Below w.heap.size w w' := by
  have hb1 := ((Below.refl B w).alloc hB (.cells #[.slice ao g.objs.length co, .slice ar g.roots.length cr] 25)).alloc (by simp; omega) (.cells #[.int .i64 0] 27)
  have hk1 := ((Below.refl w.heap.size w).alloc (Nat.le_refl _) (.cells #[.slice ao g.objs.length co, .slice ar g.roots.length cr] 25)).alloc (by simp) (.cells #[.int .i64 0] 27)
  have HL := hide hL
  clear hL
  refine (callsIn_wide (n := 8)).1 ?_
  refine callsIn_of_wp_marks Try.func20 rfl trivial ?_ rfl
  simp only [Try.ntmps20, List.size_toArray, List.length_cons, List.length_nil, Nat.reduceAdd, Nat.reduceSub, Array.replicate_succ, Array.replicate_zero, List.push_toArray, List.append_toArray, List.nil_append, List.cons_append]
  gi_wp2_with (refine ⟨trivial, ?_⟩; gi_at_call 30; go_must (refine (callsIn_wide.2 (isLarge_c _ _ _ _ g (w.heap.size + 2) _ ((ho.below hb1).mono (by omega)) ((hr.below hb1).mono (by omega)) (by simp))).mono ?_); rintro e w2 ⟨he, hb2⟩; rw [unhide HL] at he; subst he; have hc2 := (hb2.cell (p := ⟨w.heap.size + 1, 0, none⟩) (by simp)); have hf2 := (hb2.frozen (p := ⟨w.heap.size + 1, 0, none⟩) (by simp)); simp [go_sem] at hc2 hf2)
  have hc3 := World.cell?_setCell_same' w2 ⟨w.heap.size + 1, 0, none⟩ (.int .i64 1) (by rw [hc2]; rfl)
  refine ⟨.int .i64 1, by simp [results, Try.results20, go_sem, hc3], ret_int (by simp [checkG, unhide HL]), ?_⟩
  exact (hk1.trans (hb2.mono (by omega))).setCell (p := ⟨w.heap.size + 1, 0, none⟩) (by simp) _

theorem any_prefix {α : Type} {p : α → Bool} {pre l : List α} (h : pre.any p = true) (hp : pre <+: l) : l.any p = true := by
  rw [List.any_eq_true] at *
  obtain ⟨x, hx, hpx⟩ := h
  exact ⟨x, hp.mem hx, hpx⟩

def refBad (g : Gr) (v : V) : Bool := badV v g.objs.length == 2
def numBad (g : Gr) (v : V) : Bool := badV v g.objs.length == 3

theorem refBad_false (g : Gr) (m : Int) : refBad g (false, m) = false := by
  unfold refBad badV; simp; split <;> simp
theorem refBad_true (g : Gr) (m : Int) : refBad g (true, m) = !isObj m g.objs.length := by
  unfold refBad badV isObj
  by_cases h1 : m < 0 <;> by_cases h2 : (g.objs.length : Int) ≤ m <;> simp [h1, h2] <;> omega
theorem numBad_true (g : Gr) (m : Int) : numBad g (true, m) = false := by
  unfold numBad badV; simp; split <;> simp
theorem numBad_false (g : Gr) (m : Int) : numBad g (false, m) = !isNum m := by
  unfold numBad badV isNum
  by_cases h1 : m < -4611686018427387904 <;> by_cases h2 : 4611686018427387903 < m <;> simp [h1, h2] <;> omega

theorem checkG_eq (g : Gr) (h : isLargeG g = false) : checkG g = if (allV g).any (refBad g) then 2 else if (allV g).any (numBad g) then 3 else 0 := by
  unfold checkG; rw [h]; rfl

set_option maxRecDepth 100000 in
set_option maxHeartbeats 2000000 in
theorem check_small (ao ar : Option Addr) (co cr : Nat) (g : Gr) (B : Nat) (w : World) (ho : Objs B w ao g.objs) (hr : Vals B w ar g.roots) (hB : B ≤ w.heap.size) (hL : isLargeG g = false) :
    Calls Try.prog 20 #[.agg #[.slice ao g.objs.length co, .slice ar g.roots.length cr]] w fun e w' => e = .returned (.int .i64 (checkG g)) ∧ Below w.heap.size w w' := by
  have hb1 := ((Below.refl B w).alloc hB (.cells #[.slice ao g.objs.length co, .slice ar g.roots.length cr] 25)).alloc (by simp; omega) (.cells #[.int .i64 0] 27)
  have hk1 := ((Below.refl w.heap.size w).alloc (Nat.le_refl _) (.cells #[.slice ao g.objs.length co, .slice ar g.roots.length cr] 25)).alloc (by simp) (.cells #[.int .i64 0] 27)
  have HC := hide (checkG_eq g hL)
  have HL := hide hL
  clear hL
  refine (callsIn_wide (n := 8)).1 ?_
  refine callsIn_of_wp_marks Try.func20 rfl trivial ?_ rfl
  simp only [Try.ntmps20, List.size_toArray, List.length_cons, List.length_nil, Nat.reduceAdd, Nat.reduceSub, Array.replicate_succ, Array.replicate_zero, List.push_toArray, List.append_toArray, List.nil_append, List.cons_append]
  gi_wp2_with (first | (refine ⟨trivial, ?_⟩; gi_at_call 30; go_must (refine (callsIn_wide.2 (isLarge_c _ _ _ _ g (w.heap.size + 2) _ ((ho.below hb1).mono (by omega)) ((hr.below hb1).mono (by omega)) (by simp))).mono ?_); rintro e w2 ⟨he, hb2⟩; rw [unhide HL] at he; subst he; have hc2 := (hb2.cell (p := ⟨w.heap.size + 1, 0, none⟩) (by simp)); have hf2 := (hb2.frozen (p := ⟨w.heap.size + 1, 0, none⟩) (by simp)); have hg2 := (hb2.cell (p := ⟨w.heap.size, 0, none⟩) (by simp)); have hh2 := (hb2.cell (p := ⟨w.heap.size, 1, none⟩) (by simp)); simp [go_sem] at hc2 hf2 hg2 hh2) | (refine ⟨trivial, ?_⟩; gi_at_call 31; go_must (refine (callsIn_wide.2 (values_c _ _ _ _ _ _ _)).mono ?_); rintro e w3 ⟨rfl, hw3⟩; subst hw3))
  have hs2 := hb2.size
  simp at hs2
  have hbB : Below B w w2 := hb1.trans (hb2.mono (by omega))
  have hbW : Below w.heap.size w w2 := hk1.trans (hb2.mono (by omega))
  obtain ⟨W3, hW3⟩ : ∃ W3, w2.alloc (.cells #[.slice ao g.objs.length co, .slice ar g.roots.length cr] 25) = W3 := ⟨_, rfl⟩
  rw [hW3]
  have hs3 : W3.heap.size = w2.heap.size + 1 := by rw [← hW3]; simp
  have hx0 : W3.cell? ⟨w2.heap.size, 0, none⟩ = some (.slice ao g.objs.length co) := by rw [← hW3]; simp [go_sem]
  have hx1 : W3.cell? ⟨w2.heap.size, 1, none⟩ = some (.slice ar g.roots.length cr) := by rw [← hW3]; simp [go_sem]
  have hb23 : Below w2.heap.size w2 W3 := by rw [← hW3]; exact (Below.refl _ _).alloc (Nat.le_refl _) _
  clear hW3
  have hc3 := (hb23.cell (p := ⟨w.heap.size + 1, 0, none⟩) (by simp; omega)).trans hc2
  have hf3 := (hb23.frozen (p := ⟨w.heap.size + 1, 0, none⟩) (by simp; omega)).trans hf2
  have hg3 := (hb23.cell (p := ⟨w.heap.size, 0, none⟩) (by simp; omega)).trans hg2
  have hh3 := (hb23.cell (p := ⟨w.heap.size, 1, none⟩) (by simp; omega)).trans hh2
  have hb3B : Below B w W3 := hbB.trans (hb23.mono (by omega))
  have hb3W : Below w.heap.size w W3 := hbW.trans (hb23.mono (by omega))
  refine wpIn_rangeFunc_ownH (F := Fence.wide) (n := 8) rfl (by omega) (gf := 44) (lb := #[.pointer (some ⟨w2.heap.size, 0, none⟩)]) rfl trivial (enters_of Try.func44 (by kernel_rfl) rfl)
    (values1_stops 7 (by omega) w2.heap.size W3.heap.size ao ar co cr g W3 (Nat.le_refl _) (by omega) hx0 hx1 ((ho.below hb3B).mono (by omega)) ((hr.below hb3B).mono (by omega))) belowK_t (belowK_b (Nat.le_refl _)) (Below.refl _ _) (fun _ => rfl)
    (fun pre W => pre.any (refBad g) = false ∧ Below W3.heap.size W3 W)
    (fun c pre W => (c = .ret ∧ pre.any (refBad g) = true) ∧ W.cell? ⟨w.heap.size + 1, 0, none⟩ = some (.int .i64 2) ∧ Below w.heap.size W3 W)
    (OwnFrom.and (ownFrom_pure _ _) (ownFrom_below (Nat.le_refl _) (Nat.le_refl _)))
    (fun c => OwnFrom.and (ownFrom_pure _ _) (OwnFrom.and (Own.from (fun s A B row hs hg hr => cell_kept hs hg hr) _) (ownFrom_below (by omega) (by omega))))
    ⟨rfl, Below.refl _ _⟩
    (fun x a' W => ∃ Bx, W3.heap.size ≤ Bx ∧ W.cell? ⟨Bx, 0, none⟩ = some (.bool x.1) ∧ W.cell? ⟨Bx, 1, none⟩ = some (.int .i64 x.2) ∧ a' = { tmps := #[.agg #[.slice ao g.objs.length co, .slice ar g.roots.length cr], .pointer (some ⟨w.heap.size, 0, none⟩), .pointer (some ⟨w.heap.size + 1, 0, none⟩), .pointer (some ⟨Bx, 0, none⟩), undef, .agg #[.slice ao g.objs.length co, .slice ar g.roots.length cr], .bool false, .agg #[.slice ao g.objs.length co, .slice ar g.roots.length cr], .func (.func 44) #[] #[.pointer (some ⟨w2.heap.size, 0, none⟩)], .agg #[.bool x.1, .int .i64 x.2], undef, undef, undef, undef, undef, undef, undef, undef, undef, undef, undef, undef, undef, undef, undef, undef, undef, undef, undef, undef, undef], defers := [] })
    (fun x a' _ A B row ⟨Bx, h1, h2, h3, h4⟩ hg hr => ⟨Bx, h1, cell_kept h2 hg (fun r e => (hr r e).2), cell_kept h3 hg (fun r e => (hr r e).2), h4⟩) ?assign ?body ?done ?stop
  case assign =>
    rintro l pre x W K ⟨hp, hB⟩ hK
    have := hB.size
    unfold encV
    gi_wp2
    refine hK _ _ ((KeepsOthers.alloc _ _).from _) ((Below.refl _ W).alloc this _) ⟨hp, hB.alloc this _⟩ ⟨W.heap.size, this, ?_, ?_, rfl⟩
    all_goals simp [go_sem]
  case body =>
    rintro l pre ⟨r, m⟩ a' W hl _ ⟨hp, hB⟩ ⟨Bx, hBx, hd1, hd2, rfl⟩ _
    have hsW := hB.size
    have hcW := (hB.cell (p := ⟨w.heap.size + 1, 0, none⟩) (by simp; omega)).trans hc3
    have hfW := (hB.frozen (p := ⟨w.heap.size + 1, 0, none⟩) (by simp; omega)).trans hf3
    have hgW := (hB.cell (p := ⟨w.heap.size, 0, none⟩) (by simp; omega)).trans hg3
    have hhW := (hB.cell (p := ⟨w.heap.size, 1, none⟩) (by simp; omega)).trans hh3
    have hq : w.heap.size + 1 < W.heap.size := by omega
    have Hp := hide hp
    clear hp
    cases r
    · gi_wp2
      refine ⟨trivial, ?_⟩
      gi_wp2
      exact ⟨(KeepsOthers.refl _).from _, Below.refl _ _, by rw [List.any_append, unhide Hp]; simp [refBad_false], hB⟩
    · cases ho : isObj m g.objs.length
      · have Ho := hide ho
        clear ho
        gi_wp2_with (refine ⟨trivial, ?_⟩; gi_at_call 32; go_must (refine (CallsIn.inRound l (callsIn_wide.2 (isObject_c _ _ _ _ _ _ _ _))).mono ?_); rintro e w3 ⟨he, hw3⟩; rw [unhide Ho] at he; subst he; subst hw3)
        refine ⟨((KeepsOthers.setCell _ _ _).trans (KeepsOthers.alloc _ _)).from _, ⟨rfl, by rw [List.any_append]; simp [refBad_true, unhide Ho]⟩, ?_, ((hB.mono (by omega)).setCell (p := ⟨w.heap.size + 1, 0, none⟩) (by simp) _).alloc (by simp; omega) _⟩
        rw [World.cell?_alloc_past _ _ _ (by simp; omega)]
        exact World.cell?_setCell_same' _ _ _ (by rw [hcW]; rfl)
      · have Ho := hide ho
        clear ho
        gi_wp2_with (refine ⟨trivial, ?_⟩; gi_at_call 32; go_must (refine (CallsIn.inRound l (callsIn_wide.2 (isObject_c _ _ _ _ _ _ _ _))).mono ?_); rintro e w3 ⟨he, hw3⟩; rw [unhide Ho] at he; subst he; subst hw3)
        exact ⟨(KeepsOthers.alloc _ _).from _, (Below.refl _ _).alloc hsW _, by rw [List.any_append, unhide Hp]; simp [refBad_true, unhide Ho], hB.alloc hsW _⟩
  case done =>
    rintro D xs W hD rfl ⟨hp, hB⟩ hK
    have HP1 := hide hp
    clear hp
    have hsW := hB.size
    have hcW := (hB.cell (p := ⟨w.heap.size + 1, 0, none⟩) (by simp; omega)).trans hc3
    have hfW := (hB.frozen (p := ⟨w.heap.size + 1, 0, none⟩) (by simp; omega)).trans hf3
    have hgW := (hB.cell (p := ⟨w.heap.size, 0, none⟩) (by simp; omega)).trans hg3
    have hhW := (hB.cell (p := ⟨w.heap.size, 1, none⟩) (by simp; omega)).trans hh3
    have hb4B : Below B w W := hb3B.trans (hB.mono (by omega))
    have hb4W : Below w.heap.size w W := hb3W.trans (hB.mono (by omega))
    have hDs : D < W.heap.size := (Array.getElem?_eq_some_iff.1 hK).1
    have HK := hide hK
    clear hc2 hf2 hg2 hh2 hc3 hf3 hg3 hh3 hx0 hx1 hK
    gi_wp2_with (refine ⟨trivial, ?_⟩; gi_at_call 31; go_must (refine (callsIn_wide.2 (values_c _ _ _ _ _ _ _)).mono ?_); rintro e w3 ⟨rfl, hw3⟩; subst hw3)
    obtain ⟨W4, hW4⟩ : ∃ W4, W.alloc (.cells #[.slice ao g.objs.length co, .slice ar g.roots.length cr] 25) = W4 := ⟨_, rfl⟩
    rw [hW4]
    have hs4 : W4.heap.size = W.heap.size + 1 := by rw [← hW4]; simp
    have hx0 : W4.cell? ⟨W.heap.size, 0, none⟩ = some (.slice ao g.objs.length co) := by rw [← hW4]; simp [go_sem]
    have hx1 : W4.cell? ⟨W.heap.size, 1, none⟩ = some (.slice ar g.roots.length cr) := by rw [← hW4]; simp [go_sem]
    have hb34 : Below W.heap.size W W4 := by rw [← hW4]; exact (Below.refl _ _).alloc (Nat.le_refl _) _
    clear hW4
    have hc3 := (hb34.cell (p := ⟨w.heap.size + 1, 0, none⟩) (by simp; omega)).trans hcW
    have hf3 := (hb34.frozen (p := ⟨w.heap.size + 1, 0, none⟩) (by simp; omega)).trans hfW
    have HK4 : Hid (W4.heap[D]? = some (.deferred (some []))) := (hb34.block D hDs).trans (unhide HK)
    have hb5B : Below B w W4 := hb4B.trans (hb34.mono (by omega))
    have hb5W : Below w.heap.size w W4 := hb4W.trans (hb34.mono (by omega))
    clear hcW hfW hgW hhW
    refine wpIn_rangeFunc_ownH (F := Fence.wide) (n := 8) rfl (by omega) (gf := 44) (lb := #[.pointer (some ⟨W.heap.size, 0, none⟩)]) rfl trivial (enters_of Try.func44 (by kernel_rfl) rfl)
      (values1_stops 7 (by omega) W.heap.size W4.heap.size ao ar co cr g W4 (Nat.le_refl _) (by omega) hx0 hx1 ((ho.below hb5B).mono (by omega)) ((hr.below hb5B).mono (by omega))) belowK_t (belowK_b (Nat.le_refl _)) (Below.refl _ _) (fun _ => rfl)
      (fun pre X => pre.any (numBad g) = false ∧ Below W4.heap.size W4 X)
      (fun c pre X => (c = .ret ∧ pre.any (numBad g) = true) ∧ X.cell? ⟨w.heap.size + 1, 0, none⟩ = some (.int .i64 3) ∧ Below w.heap.size W4 X ∧ X.heap[D]? = some (.deferred (some [])))
      (OwnFrom.and (ownFrom_pure _ _) (ownFrom_below (Nat.le_refl _) (Nat.le_refl _)))
      (fun c => OwnFrom.and (ownFrom_pure _ _) (OwnFrom.and (Own.from (fun s A B row hs hg hr => cell_kept hs hg hr) _) (OwnFrom.and (ownFrom_below (by omega) (by omega))
        (fun _ X Y row hs hg hr => (hg.block D (Array.getElem?_eq_some_iff.1 hs).1 (fun e => by have := (hr D e.symm).1; omega)).trans hs))))
      ⟨rfl, Below.refl _ _⟩
      (fun x a' X => ∃ Bx, W4.heap.size ≤ Bx ∧ X.cell? ⟨Bx, 0, none⟩ = some (.bool x.1) ∧ X.cell? ⟨Bx, 1, none⟩ = some (.int .i64 x.2) ∧ a' = { tmps := #[.agg #[.slice ao g.objs.length co, .slice ar g.roots.length cr], .pointer (some ⟨w.heap.size, 0, none⟩), .pointer (some ⟨w.heap.size + 1, 0, none⟩), undef, .pointer (some ⟨Bx, 0, none⟩), .agg #[.slice ao g.objs.length co, .slice ar g.roots.length cr], .bool false, .agg #[.slice ao g.objs.length co, .slice ar g.roots.length cr], .func (.func 44) #[] #[.pointer (some ⟨w2.heap.size, 0, none⟩)], undef, undef, undef, undef, undef, undef, undef, undef, undef, undef, .agg #[.slice ao g.objs.length co, .slice ar g.roots.length cr], .func (.func 44) #[] #[.pointer (some ⟨W.heap.size, 0, none⟩)], .agg #[.bool x.1, .int .i64 x.2], undef, undef, undef, undef, undef, undef, undef, undef, undef], defers := [] })
      (fun x a' _ A B row ⟨Bx, h1, h2, h3, h4⟩ hg hr => ⟨Bx, h1, cell_kept h2 hg (fun r e => (hr r e).2), cell_kept h3 hg (fun r e => (hr r e).2), h4⟩) ?assign2 ?body2 ?done2 ?stop2
    case assign2 =>
      rintro l pre x X K ⟨hp, hBX⟩ hKK
      have := hBX.size
      unfold encV
      gi_wp2
      refine hKK _ _ ((KeepsOthers.alloc _ _).from _) ((Below.refl _ X).alloc this _) ⟨hp, hBX.alloc this _⟩ ⟨X.heap.size, this, ?_, ?_, rfl⟩
      all_goals simp [go_sem]
    case body2 =>
      rintro l pre ⟨r, m⟩ a' X hl _ ⟨hp, hBX⟩ ⟨Bx, hBx, hd1, hd2, rfl⟩ _
      have hsX := hBX.size
      have hcX := (hBX.cell (p := ⟨w.heap.size + 1, 0, none⟩) (by simp; omega)).trans hc3
      have hfX := (hBX.frozen (p := ⟨w.heap.size + 1, 0, none⟩) (by simp; omega)).trans hf3
      have hDX : X.heap[D]? = some (.deferred (some [])) := (hBX.block D (by omega)).trans (unhide HK4)
      have HDX := hide hDX
      clear hDX
      have Hp := hide hp
      clear hp
      cases r
      · cases hn : isNum m
        · have Hn := hide hn
          clear hn
          gi_wp2_with (refine ⟨trivial, ?_⟩; gi_at_call 33; go_must (refine (CallsIn.inRound l (callsIn_wide.2 (isNumber_c _ _))).mono ?_); rintro e w3 ⟨he, hw3⟩; rw [unhide Hn] at he; subst he; subst hw3)
          refine ⟨(KeepsOthers.setCell _ _ _).from _, ⟨rfl, by rw [List.any_append]; simp [numBad_false, unhide Hn]⟩, World.cell?_setCell_same' _ _ _ (by rw [hcX]; rfl), ((hBX.mono (by omega)).setCell (p := ⟨w.heap.size + 1, 0, none⟩) (by simp) _), ?_⟩
          rw [Below.heap_setCell _ _ _ _ (by simp; omega)]
          exact unhide HDX
        · have Hn := hide hn
          clear hn
          gi_wp2_with (refine ⟨trivial, ?_⟩; gi_at_call 33; go_must (refine (CallsIn.inRound l (callsIn_wide.2 (isNumber_c _ _))).mono ?_); rintro e w3 ⟨he, hw3⟩; rw [unhide Hn] at he; subst he; subst hw3)
          exact ⟨(KeepsOthers.refl _).from _, Below.refl _ _, by rw [List.any_append, unhide Hp]; simp [numBad_false, unhide Hn], hBX⟩
      · gi_wp2
        refine ⟨trivial, ?_⟩
        gi_wp2
        exact ⟨(KeepsOthers.refl _).from _, Below.refl _ _, by rw [List.any_append, unhide Hp]; simp [numBad_true], hBX⟩
    case done2 =>
      rintro D2 xs X hD2 rfl ⟨hp, hBX⟩ hK2
      have Hp := hide hp
      clear hp
      have hsX := hBX.size
      have hcX := (hBX.cell (p := ⟨w.heap.size + 1, 0, none⟩) (by simp; omega)).trans hc3
      have hfX := (hBX.frozen (p := ⟨w.heap.size + 1, 0, none⟩) (by simp; omega)).trans hf3
      have HDX : Hid (X.heap[D]? = some (.deferred (some []))) := (hBX.block D (by omega)).trans (unhide HK4)
      have HK2 := hide hK2
      clear hK2
      gi_wp2
      have hK2 := (Below.heap_setCell X ⟨w.heap.size + 1, 0, none⟩ (.int .i64 0) D2 (by simp; omega)).trans (unhide HK2)
      have hD1 := (Below.heap_setCell X ⟨w.heap.size + 1, 0, none⟩ (.int .i64 0) D (by simp; omega)).trans (unhide HDX)
      have hc5 := World.cell?_setCell_same' X ⟨w.heap.size + 1, 0, none⟩ (.int .i64 0) (by rw [hcX]; rfl)
      have hB5 := (hb5W.trans (hBX.mono (by omega))).setCell (p := ⟨w.heap.size + 1, 0, none⟩) (by simp) (.int .i64 0)
      generalize X.setCell ⟨w.heap.size + 1, 0, none⟩ (.int .i64 0) = Y at *
      have hput := belowK_b (w := W4) (n₀ := W4.heap.size) (Nat.le_refl _) Y D2 _ (.deferred none) hD2 hK2 rfl rfl
      refine ⟨by simp, .inl ⟨_, _, rfl, run_takeDeferred hK2, ?_⟩⟩
      have hK1 := (hput.block D (by omega)).trans hD1
      refine ⟨by simp, .inl ⟨_, _, rfl, run_takeDeferred hK1, ?_⟩⟩
      have hput2 := belowK_b (w := W3) (n₀ := W3.heap.size) (Nat.le_refl _) (Y.putObj D2 (.deferred none)) D _ (.deferred none) hD hK1 rfl rfl
      refine ⟨.int .i64 0, ?_, ret_int ?_, hB5.trans ((hput.mono (by omega)).trans (hput2.mono (by omega)))⟩
      · have hc' := (hput2.cell (p := ⟨w.heap.size + 1, 0, none⟩) (by simp; omega)).trans ((hput.cell (p := ⟨w.heap.size + 1, 0, none⟩) (by simp; omega)).trans hc5)
        simp [results, Try.results20, go_sem, hc']
      · rw [unhide HC, unhide HP1, unhide Hp]; rfl
    case stop2 =>
      rintro D2 c pre X hD2 hSp ⟨⟨rfl, hp⟩, hc, hBX, hDX⟩ hK2
      have Hp := hide hp
      have HK2 := hide hK2
      have HDX := hide hDX
      clear hp hK2 hDX
      gi_wp2
      have hput := belowK_b (w := W4) (n₀ := W4.heap.size) (Nat.le_refl _) X D2 _ (.deferred none) hD2 (unhide HK2) rfl rfl
      refine ⟨by simp, .inl ⟨_, _, rfl, run_takeDeferred (unhide HK2), ?_⟩⟩
      have hK1 := (hput.block D (by omega)).trans (unhide HDX)
      refine ⟨by simp, .inl ⟨_, _, rfl, run_takeDeferred hK1, ?_⟩⟩
      have hput2 := belowK_b (w := W3) (n₀ := W3.heap.size) (Nat.le_refl _) (X.putObj D2 (.deferred none)) D _ (.deferred none) hD hK1 rfl rfl
      refine ⟨.int .i64 3, ?_, ret_int ?_, hb5W.trans (hBX.trans ((hput.mono (by omega)).trans (hput2.mono (by omega))))⟩
      · have hc' := (hput2.cell (p := ⟨w.heap.size + 1, 0, none⟩) (by simp; omega)).trans ((hput.cell (p := ⟨w.heap.size + 1, 0, none⟩) (by simp; omega)).trans hc)
        simp [results, Try.results20, go_sem, hc']
      · rw [unhide HC, unhide HP1, any_prefix (unhide Hp) hSp]; rfl
  case stop =>
    rintro D c pre W hD hSp ⟨⟨rfl, hp⟩, hc, hB⟩ hK
    have Hp := hide hp
    clear hp
    gi_wp2
    refine ⟨by simp, .inl ⟨_, _, rfl, run_takeDeferred hK, ?_⟩⟩
    have hput := belowK_b (w := W3) (n₀ := W3.heap.size) (Nat.le_refl _) W D _ (.deferred none) hD hK rfl rfl
    refine ⟨.int .i64 2, ?_, ret_int ?_, hb3W.trans (hB.trans (hput.mono (by omega)))⟩
    · have hc' := (hput.cell (p := ⟨w.heap.size + 1, 0, none⟩) (by simp; omega)).trans hc
      simp [results, Try.results20, go_sem, hc']
    · rw [unhide HC, any_prefix (unhide Hp) hSp]; rfl

theorem check_c (ao ar : Option Addr) (co cr : Nat) (g : Gr) (B : Nat) (w : World) (ho : Objs B w ao g.objs) (hr : Vals B w ar g.roots) (hB : B ≤ w.heap.size) :
    Calls Try.prog 20 #[.agg #[.slice ao g.objs.length co, .slice ar g.roots.length cr]] w fun e w' => e = .returned (.int .i64 (checkG g)) ∧ Below w.heap.size w w' := by
  cases h : isLargeG g
  · exact check_small ao ar co cr g B w ho hr hB h
  · exact check_large ao ar co cr g B w ho hr hB h

end Go.Proofs.Ytmelhphhealomaa
