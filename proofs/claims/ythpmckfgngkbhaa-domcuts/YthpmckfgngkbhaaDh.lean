/- Walks: Retained, whatever it is asked; inside; DomNested. -/
import Derived.Test.YthpmckfgngkbhaaProg
import Derived.Test.YthpmckfgngkbhaaMem
import Derived.Test.YthpmckfgngkbhaaWs
import Derived.Test.YthpmckfgngkbhaaWu
import Derived.Test.YthpmckfgngkbhaaRa
import Derived.Test.YthpmckfgngkbhaaSb
import Derived.Test.YthpmckfgngkbhaaSj
import Derived.Test.YthpmckfgngkbhaaDg
namespace Go.Proofs.Ythpmckfgngkbhaa
set_option linter.unusedSimpArgs false
set_option linter.unusedVariables false
open Go.RowKit

theorem law_box (x y : Value) (t : TypeId) (w : World) :
    ∀ W0, w.alloc (.cells #[x, y] t) = W0 → W0.heap.size = w.heap.size + 1 ∧ Below w.heap.size w W0 ∧ (∀ X, Below (w.heap.size + 1) W0 X → X.cell? ⟨w.heap.size, 0, none⟩ = some x ∧ X.cell? ⟨w.heap.size, 1, none⟩ = some y) := by
  intro W0 h
  refine ⟨by rw [← h]; simp, by rw [← h]; exact (Below.refl _ _).alloc (Nat.le_refl _) _, fun X hX => ⟨?_, ?_⟩⟩
  · rw [hX.cell (p := ⟨w.heap.size, 0, none⟩) (by simp), ← h]; simp [go_sem]
  · rw [hX.cell (p := ⟨w.heap.size, 1, none⟩) (by simp), ← h]; simp [go_sem]

/-- What Retained says, and what it tells. -/
def retE (g : Gr) (v : Int) : Int := if checkG g ≠ 0 then checkG g else if v < 0 ∨ (g.objs.length : Int) ≤ v then 2 else 0
def retR (g : Gr) (v : Int) : List Int := if retE g v = 0 then retL g v else []

theorem retE_bad {g : Gr} (h : checkG g ≠ 0) (v : Int) : retE g v ≠ 0 := by unfold retE; rw [if_pos h]; exact h
theorem retE_arg {g : Gr} (h : checkG g = 0) {v : Int} (hv : v < 0 ∨ (g.objs.length : Int) ≤ v) : retE g v = 2 := by unfold retE; rw [if_neg (by simpa using h), if_pos hv]
theorem retE_ok {g : Gr} (h : checkG g = 0) {v : Int} (h0 : 0 ≤ v) (h1 : v < g.objs.length) : retE g v = 0 := by unfold retE; rw [if_neg (by simpa using h), if_neg (by omega)]
theorem retR_ok {g : Gr} (h : checkG g = 0) {v : Int} (h0 : 0 ≤ v) (h1 : v < g.objs.length) : retR g v = retL g v := by unfold retR; rw [if_pos (retE_ok h h0 h1)]
theorem ints_nil (B : Nat) (w : World) (a : Option Addr) : Ints B w a [] := ⟨by simp, fun h => absurd rfl h⟩

theorem ret_c (ao ar : Option Addr) (co cr : Nat) (g : Gr) (v : Int) (B : Nat) (w : World) (ho : Objs B w ao g.objs) (hr : Vals B w ar g.roots) (hB : B ≤ w.heap.size) :
    Calls Try.prog 7 #[.agg #[.slice ao g.objs.length co, .slice ar g.roots.length cr], .int .i64 v] w fun e w' => ∃ a cap, e = .returned (.tuple #[.slice a (retR g v).length cap, .int .i64 (retE g v)]) ∧ Ints w'.heap.size w' a (retR g v) ∧ Below w.heap.size w w' := by
  by_cases hc : checkG g = 0
  · by_cases hv : v < 0 ∨ (g.objs.length : Int) ≤ v
    · refine (ret_arg ao ar co cr g v B w ho hr hB hc hv).mono ?_
      rintro e w' ⟨rfl, hb⟩
      have h2 := retE_arg hc hv
      have h3 : retR g v = [] := by unfold retR; rw [if_neg (by omega)]
      rw [h2, h3]
      exact ⟨none, 0, rfl, ints_nil _ _ _, hb⟩
    · have h0 : 0 ≤ v := by omega
      have h1 : v < g.objs.length := by omega
      rw [retE_ok hc h0 h1, retR_ok hc h0 h1]
      exact ret_ok ao ar co cr g v B w ho hr hB hc h0 h1
  · refine (ret_bad ao ar co cr g v B w ho hr hB hc).mono ?_
    rintro e w' ⟨rfl, hb⟩
    have h2 : retE g v = checkG g := by unfold retE; rw [if_pos hc]
    have h3 : retR g v = [] := by unfold retR; rw [if_neg (retE_bad hc v)]
    rw [h2, h3]
    exact ⟨none, 0, rfl, ints_nil _ _ _, hb⟩

set_option maxRecDepth 100000 in
set_option maxHeartbeats 1000000 in
theorem inside_g (a1 a2 : Option Addr) (c1 c2 : Nat) (l1 l2 : List Int) (B : Nat) (w : World) (h1 : Ints B w a1 l1) (h2 : Ints B w a2 l2) :
    Calls Try.prog 20 #[.slice a1 l1.length c1, .slice a2 l2.length c2] w fun e w' => e = .returned (.bool (l1.all fun x => decide (x ∈ l2))) ∧ w' = w := by
  have hl := h1.1
  go_enter Try.func20, Try.ntmps20
  go_wp2
  go_loop [9] (fun i => ∃ k : Nat, k ≤ l1.length ∧ i = .int .i64 k ∧ Hid ((l1.take k).all (fun x => decide (x ∈ l2)) = true)) (fun i => l1.length - (intOf i).toNat)
  case atStart => exact ⟨0, Nat.zero_le _, rfl, by show (l1.take 0).all _ = true; simp⟩
  case round =>
    obtain ⟨k, hk, rfl, Ht⟩ := hrel
    by_cases hlt : k < l1.length
    · obtain ⟨b, off, rfl, hbB, hc⟩ := h1.at hlt
      have Hy := hide (fun h => all_take (p := fun x => decide (x ∈ l2)) hlt (unhide Ht) h)
      have Hn := hide (fun h => all_not (p := fun x => decide (x ∈ l2)) hlt h)
      generalize l1[k] = y at *
      by_cases hy : y ∈ l2
      · have Hyy := hide hy
        clear hy
        go_wp2_with (go_at_call 17; go_must (refine (has_c _ _ l2 y B _ h2).mono ?_); go_must (rintro e w3 ⟨he, hw3⟩; rw [decide_eq_true (unhide Hyy)] at he; subst he; have hw3 := hw3.symm; subst hw3))
        go_round
        case rel => exact ⟨k + 1, by omega, by go_num, hide (unhide Hy (decide_eq_true (unhide Hyy)))⟩
        case measure => simp [intOf]; omega
      · have Hyy := hide hy
        clear hy
        go_wp2_with (go_at_call 17; go_must (refine (has_c _ _ l2 y B _ h2).mono ?_); go_must (rintro e w3 ⟨he, hw3⟩; rw [decide_eq_false (unhide Hyy)] at he; subst he; have hw3 := hw3.symm; subst hw3))
        go_ret
        exact ⟨ret_bool (unhide Hn (decide_eq_false (unhide Hyy))).symm, rfl⟩
    · obtain rfl : k = l1.length := by omega
      have Hf : Hid (l1.all (fun x => decide (x ∈ l2)) = true) := by have := unhide Ht; rw [List.take_length] at this; exact this
      go_wp2
      go_ret
      exact ⟨ret_bool (unhide Hf).symm, rfl⟩

/-- What two keep lies the one within the other, or they keep nothing both. -/
theorem nested {g : Gr} (h : Good g) (v u : Int) : (∀ x ∈ retL g v, x ∈ retL g u) ∨ (∀ x ∈ retL g u, x ∈ retL g v) ∨ (∀ x ∈ retL g v, x ∉ retL g u) := by
  have key : ∀ v u : Int, v ∉ leftL g u → ∀ x ∈ retL g v, x ∈ retL g u := by
    intro v u hvu x hx
    rw [mem_ret] at hx ⊢
    refine ⟨hx.1, fun hc => hx.2 ?_⟩
    refine left_ind h (wo := u) (fun x => x ∈ leftL g v) (fun x hx' hn => ?_) (fun x y hx' hp hy hn => ?_) x hc
    · by_cases e : x = v
      · subst e; exact absurd (left_roots h hx' hn) hvu
      · exact left_roots h hx' e
    · by_cases e : y = v
      · subst e; exact absurd (left_next h hx' hy hn) hvu
      · exact left_next h hp hy e
  by_cases h1 : v ∈ leftL g u
  · by_cases h2 : u ∈ leftL g v
    · refine .inr (.inr fun x hx hxu => ?_)
      rw [mem_ret] at hx hxu
      have : x ∈ leftL g v ∨ x ∈ leftL g u := by
        refine order_ind h (fun x => x ∈ leftL g v ∨ x ∈ leftL g u) (fun x hx => ?_) (fun x y _ hp hy => ?_) x hx.1
        · by_cases e : x = v
          · subst e; exact .inr h1
          · exact .inl (left_roots h hx e)
        · rcases hp with hp | hp
          · by_cases e : y = v
            · subst e; exact .inr h1
            · exact .inl (left_next h hp hy e)
          · by_cases e : y = u
            · subst e; exact .inl h2
            · exact .inr (left_next h hp hy e)
      rcases this with e | e
      · exact hx.2 e
      · exact hxu.2 e
    · exact .inr (.inl (key u v h2))
  · exact .inl (key v u h1)

theorem ret_self {g : Gr} (h : Good g) (v : Int) : v ∈ retL g v ↔ v ∈ orderOf g := by
  rw [mem_ret]
  exact ⟨fun e => e.1, fun e => ⟨e, fun hc => left_ne h hc rfl⟩⟩

set_option maxRecDepth 100000 in
set_option maxHeartbeats 2000000 in
theorem domNested_bad (ao ar : Option Addr) (aoc arc : Nat) (a : Gr) (v u : Int) (w : World) (hao : Objs w.heap.size w ao a.objs) (har : Vals w.heap.size w ar a.roots) (na : checkG a ≠ 0) :
    Calls Try.prog 6 #[.agg #[.slice ao a.objs.length aoc, .slice ar a.roots.length arc], .int .i64 v, .int .i64 u] w fun e w' => e = .returned (.bool true) ∧ Below w.heap.size w w' := by
  have Ha := hide na
  have He1 := hide (retE_bad na v)
  clear na
  go_enter Try.func6, Try.ntmps6
  go_wp2_with fail
  obtain ⟨wu0, hu0⟩ : ∃ u0, w.alloc (.cells #[.slice ao a.objs.length aoc, .slice ar a.roots.length arc] 25) = u0 := ⟨_, rfl⟩
  rw [hu0]
  obtain ⟨hsz0, hw0, hcells⟩ := law_box _ _ 25 w wu0 hu0
  have Hcells := hide hcells
  clear hu0 hcells
  have hn0 : w.heap.size + 1 ≤ wu0.heap.size := by omega
  refine (ret_c _ _ _ _ a v w.heap.size _ (hao.below hw0) (har.below hw0) (by omega)).mono ?_
  rintro e wu1 ⟨a1, c1, rfl, hI1, hb1⟩
  have hk1 : Below (w.heap.size + 1) wu0 wu1 := hb1.mono hn0
  have hw1 : Below w.heap.size w wu1 := hw0.trans (hb1.mono (by omega))
  have hn1 : w.heap.size + 1 ≤ wu1.heap.size := by have := hb1.size; omega
  obtain ⟨x0, x1⟩ := unhide Hcells wu1 hk1
  generalize retR a v = l1 at *
  generalize retE a v = e1 at *
  go_wp2_with fail
  clear x0 x1
  refine (ret_c _ _ _ _ a u w.heap.size _ (hao.below hw1) (har.below hw1) (by omega)).mono ?_
  rintro e wu2 ⟨a2, c2, rfl, hI2, hb2⟩
  have hk2 : Below (w.heap.size + 1) wu0 wu2 := hk1.trans (hb2.mono hn1)
  have hw2 : Below w.heap.size w wu2 := hw1.trans (hb2.mono (by omega))
  have hn2 : w.heap.size + 1 ≤ wu2.heap.size := by have := hb2.size; omega
  have hI1 := (hI1.below hb2).mono (B' := wu2.heap.size) hb2.size
  generalize retR a u = l2 at *
  generalize retE a u = e2 at *
  obtain ⟨x0, x1⟩ := unhide Hcells wu2 hk2
  go_wp2_with fail
  clear x0 x1
  refine (good_c _ _ _ _ a w.heap.size _ (hao.below hw2) (har.below hw2) (by omega)).mono ?_
  rintro e wu3 ⟨he, hb3⟩
  have hk3 : Below (w.heap.size + 1) wu0 wu3 := hk2.trans (hb3.mono hn2)
  have hw3 : Below w.heap.size w wu3 := hw2.trans (hb3.mono (by omega))
  have hn3 : w.heap.size + 1 ≤ wu3.heap.size := by have := hb3.size; omega
  have hI1 := (hI1.below hb3).mono (B' := wu3.heap.size) hb3.size
  have hI2 := (hI2.below hb3).mono (B' := wu3.heap.size) hb3.size
  rw [checkG_beq' (unhide Ha)] at he
  subst he
  have d1 : (e1 != 0) = true := by simpa using unhide He1
  go_wp2
  go_ret
  exact ⟨rfl, hw3⟩

set_option maxRecDepth 100000 in
set_option maxHeartbeats 2000000 in
theorem domNested_arg (ao ar : Option Addr) (aoc arc : Nat) (a : Gr) (v u : Int) (w : World) (hao : Objs w.heap.size w ao a.objs) (har : Vals w.heap.size w ar a.roots) (na : checkG a = 0) (hv : (v < 0 ∨ (a.objs.length : Int) ≤ v) ∨ (u < 0 ∨ (a.objs.length : Int) ≤ u)) :
    Calls Try.prog 6 #[.agg #[.slice ao a.objs.length aoc, .slice ar a.roots.length arc], .int .i64 v, .int .i64 u] w fun e w' => e = .returned (.bool true) ∧ Below w.heap.size w w' := by
  have Ha := hide na
  have hao1 := hao.1
  have Hor : Hid (retE a v = 0 → retE a u ≠ 0) := fun h1 h2 => by
    rcases hv with hv | hv
    · rw [retE_arg na hv] at h1; cases h1
    · rw [retE_arg na hv] at h2; cases h2
  have Hv := hide hv
  clear na hv
  go_enter Try.func6, Try.ntmps6
  go_wp2_with fail
  obtain ⟨wu0, hu0⟩ : ∃ u0, w.alloc (.cells #[.slice ao a.objs.length aoc, .slice ar a.roots.length arc] 25) = u0 := ⟨_, rfl⟩
  rw [hu0]
  obtain ⟨hsz0, hw0, hcells⟩ := law_box _ _ 25 w wu0 hu0
  have Hcells := hide hcells
  clear hu0 hcells
  have hn0 : w.heap.size + 1 ≤ wu0.heap.size := by omega
  refine (ret_c _ _ _ _ a v w.heap.size _ (hao.below hw0) (har.below hw0) (by omega)).mono ?_
  rintro e wu1 ⟨a1, c1, rfl, hI1, hb1⟩
  have hk1 : Below (w.heap.size + 1) wu0 wu1 := hb1.mono hn0
  have hw1 : Below w.heap.size w wu1 := hw0.trans (hb1.mono (by omega))
  have hn1 : w.heap.size + 1 ≤ wu1.heap.size := by have := hb1.size; omega
  obtain ⟨x0, x1⟩ := unhide Hcells wu1 hk1
  generalize retR a v = l1 at *
  generalize retE a v = e1 at *
  go_wp2_with fail
  clear x0 x1
  refine (ret_c _ _ _ _ a u w.heap.size _ (hao.below hw1) (har.below hw1) (by omega)).mono ?_
  rintro e wu2 ⟨a2, c2, rfl, hI2, hb2⟩
  have hk2 : Below (w.heap.size + 1) wu0 wu2 := hk1.trans (hb2.mono hn1)
  have hw2 : Below w.heap.size w wu2 := hw1.trans (hb2.mono (by omega))
  have hn2 : w.heap.size + 1 ≤ wu2.heap.size := by have := hb2.size; omega
  have hI1 := (hI1.below hb2).mono (B' := wu2.heap.size) hb2.size
  generalize retR a u = l2 at *
  generalize retE a u = e2 at *
  obtain ⟨x0, x1⟩ := unhide Hcells wu2 hk2
  go_wp2_with fail
  clear x0 x1
  refine (good_c _ _ _ _ a w.heap.size _ (hao.below hw2) (har.below hw2) (by omega)).mono ?_
  rintro e wu3 ⟨he, hb3⟩
  have hk3 : Below (w.heap.size + 1) wu0 wu3 := hk2.trans (hb3.mono hn2)
  have hw3 : Below w.heap.size w wu3 := hw2.trans (hb3.mono (by omega))
  have hn3 : w.heap.size + 1 ≤ wu3.heap.size := by have := hb3.size; omega
  have hI1 := (hI1.below hb3).mono (B' := wu3.heap.size) hb3.size
  have hI2 := (hI2.below hb3).mono (B' := wu3.heap.size) hb3.size
  rw [checkG_beq (unhide Ha)] at he
  subst he
  obtain ⟨x0, x1⟩ := unhide Hcells wu3 hk3
  by_cases v0 : v < 0
  · have dv0 : decide (v < 0) = true := by simpa using v0
    by_cases he1 : e1 = 0
    · have d1 : (e1 != 0) = false := by simpa using he1
      have d2 : (e2 != 0) = true := by simpa using unhide Hor he1
      have He1 := hide he1
      clear he1
      go_wp2
      go_ret
      exact ⟨rfl, hw3⟩
    · have d1 : (e1 != 0) = true := by simpa using he1
      go_wp2
      go_ret
      exact ⟨rfl, hw3⟩
  · have dv0 : decide (v < 0) = false := by simpa using v0
    by_cases u0 : u < 0
    · have du0 : decide (u < 0) = true := by simpa using u0
      by_cases he1 : e1 = 0
      · have d1 : (e1 != 0) = false := by simpa using he1
        have d2 : (e2 != 0) = true := by simpa using unhide Hor he1
        have He1 := hide he1
        clear he1
        go_wp2
        go_ret
        exact ⟨rfl, hw3⟩
      · have d1 : (e1 != 0) = true := by simpa using he1
        go_wp2
        go_ret
        exact ⟨rfl, hw3⟩
    · have du0 : decide (u < 0) = false := by simpa using u0
      by_cases v1 : (a.objs.length : Int) ≤ v
      · have dv1 : decide (v ≥ (a.objs.length : Int)) = true := by simpa using v1
        have dv1' : decide ((a.objs.length : Int) ≤ v) = true := by simpa using v1
        by_cases he1 : e1 = 0
        · have d1 : (e1 != 0) = false := by simpa using he1
          have d2 : (e2 != 0) = true := by simpa using unhide Hor he1
          have He1 := hide he1
          clear he1
          go_wp2
          go_ret
          exact ⟨rfl, hw3⟩
        · have d1 : (e1 != 0) = true := by simpa using he1
          go_wp2
          go_ret
          exact ⟨rfl, hw3⟩
      · have dv1 : decide (v ≥ (a.objs.length : Int)) = false := by simpa using v1
        have dv1' : decide ((a.objs.length : Int) ≤ v) = false := by simpa using v1
        have u1 : (a.objs.length : Int) ≤ u := by have := unhide Hv; omega
        have du1 : decide (u ≥ (a.objs.length : Int)) = true := by simpa using u1
        have du1' : decide ((a.objs.length : Int) ≤ u) = true := by simpa using u1
        by_cases he1 : e1 = 0
        · have d1 : (e1 != 0) = false := by simpa using he1
          have d2 : (e2 != 0) = true := by simpa using unhide Hor he1
          have He1 := hide he1
          clear he1
          go_wp2
          go_ret
          exact ⟨rfl, hw3⟩
        · have d1 : (e1 != 0) = true := by simpa using he1
          go_wp2
          go_ret
          exact ⟨rfl, hw3⟩

set_option maxRecDepth 100000 in
set_option maxHeartbeats 4000000 in
theorem domNested_ok (ao ar : Option Addr) (aoc arc : Nat) (a : Gr) (v u : Int) (w : World) (hao : Objs w.heap.size w ao a.objs) (har : Vals w.heap.size w ar a.roots) (na : checkG a = 0) (v0 : 0 ≤ v) (v1 : v < a.objs.length) (u0 : 0 ≤ u) (u1 : u < a.objs.length) :
    Calls Try.prog 6 #[.agg #[.slice ao a.objs.length aoc, .slice ar a.roots.length arc], .int .i64 v, .int .i64 u] w fun e w' => e = .returned (.bool true) ∧ Below w.heap.size w w' := by
  have Ha := hide na
  have hG := good_of_check na
  have hao1 := hao.1
  have He1 := hide (retE_ok na v0 v1)
  have He2 := hide (retE_ok na u0 u1)
  have Hl1 := hide (retR_ok na v0 v1)
  have Hl2 := hide (retR_ok na u0 u1)
  clear na
  go_enter Try.func6, Try.ntmps6
  go_wp2_with fail
  obtain ⟨wu0, hu0⟩ : ∃ u0, w.alloc (.cells #[.slice ao a.objs.length aoc, .slice ar a.roots.length arc] 25) = u0 := ⟨_, rfl⟩
  rw [hu0]
  obtain ⟨hsz0, hw0, hcells⟩ := law_box _ _ 25 w wu0 hu0
  have Hcells := hide hcells
  clear hu0 hcells
  have hn0 : w.heap.size + 1 ≤ wu0.heap.size := by omega
  refine (ret_c _ _ _ _ a v w.heap.size _ (hao.below hw0) (har.below hw0) (by omega)).mono ?_
  rintro e wu1 ⟨a1, c1, rfl, hI1, hb1⟩
  have hk1 : Below (w.heap.size + 1) wu0 wu1 := hb1.mono hn0
  have hw1 : Below w.heap.size w wu1 := hw0.trans (hb1.mono (by omega))
  have hn1 : w.heap.size + 1 ≤ wu1.heap.size := by have := hb1.size; omega
  obtain ⟨x0, x1⟩ := unhide Hcells wu1 hk1
  generalize retR a v = l1 at *
  generalize retE a v = e1 at *
  go_wp2_with fail
  clear x0 x1
  refine (ret_c _ _ _ _ a u w.heap.size _ (hao.below hw1) (har.below hw1) (by omega)).mono ?_
  rintro e wu2 ⟨a2, c2, rfl, hI2, hb2⟩
  have hk2 : Below (w.heap.size + 1) wu0 wu2 := hk1.trans (hb2.mono hn1)
  have hw2 : Below w.heap.size w wu2 := hw1.trans (hb2.mono (by omega))
  have hn2 : w.heap.size + 1 ≤ wu2.heap.size := by have := hb2.size; omega
  have hI1 := (hI1.below hb2).mono (B' := wu2.heap.size) hb2.size
  generalize retR a u = l2 at *
  generalize retE a u = e2 at *
  obtain ⟨x0, x1⟩ := unhide Hcells wu2 hk2
  go_wp2_with fail
  clear x0 x1
  refine (good_c _ _ _ _ a w.heap.size _ (hao.below hw2) (har.below hw2) (by omega)).mono ?_
  rintro e wu3 ⟨he, hb3⟩
  have hk3 : Below (w.heap.size + 1) wu0 wu3 := hk2.trans (hb3.mono hn2)
  have hw3 : Below w.heap.size w wu3 := hw2.trans (hb3.mono (by omega))
  have hn3 : w.heap.size + 1 ≤ wu3.heap.size := by have := hb3.size; omega
  have hI1 := (hI1.below hb3).mono (B' := wu3.heap.size) hb3.size
  have hI2 := (hI2.below hb3).mono (B' := wu3.heap.size) hb3.size
  rw [checkG_beq (unhide Ha)] at he
  subst he
  have d1 : (e1 != 0) = false := by simpa using unhide He1
  have d2 : (e2 != 0) = false := by simpa using unhide He2
  have dv0 : decide (v < 0) = false := by simp; omega
  have du0 : decide (u < 0) = false := by simp; omega
  have dv1 : decide (v ≥ (a.objs.length : Int)) = false := by simp; omega
  have dv1' : decide ((a.objs.length : Int) ≤ v) = false := by simp; omega
  have du1 : decide (u ≥ (a.objs.length : Int)) = false := by simp; omega
  have du1' : decide ((a.objs.length : Int) ≤ u) = false := by simp; omega
  obtain ⟨x0, x1⟩ := unhide Hcells wu3 hk3
  have Hself : Hid (decide (v ∈ reachK a a.objs.length) = decide (v ∈ l1)) := by
    show _ = _
    rw [Bool.eq_iff_iff, decide_eq_true_eq, decide_eq_true_eq, unhide Hl1, ret_self hG, ← reach_same hG, sortL_mem]
  have Hin : Hid ((l1.all fun x => decide (x ∈ sortL (orderOf a))) = true) := by
    show _ = _
    rw [List.all_eq_true]
    intro x hx
    rw [unhide Hl1, mem_ret] at hx
    simpa [sortL_mem] using hx.1
  have Hnest := hide (nested hG v u)
  rw [← unhide Hl1, ← unhide Hl2] at Hnest
  clear Hl1 Hl2
  go_wp2_with fail
  clear x0 x1
  refine (reach_ok _ _ _ _ a w.heap.size _ (hao.below hw3) (har.below hw3) (by omega) (unhide Ha)).mono ?_
  rintro e wu4 ⟨a4, c4, rfl, hI4, hb4⟩
  have hk4 : Below (w.heap.size + 1) wu0 wu4 := hk3.trans (hb4.mono hn3)
  have hw4 : Below w.heap.size w wu4 := hw3.trans (hb4.mono (by omega))
  have hn4 : w.heap.size + 1 ≤ wu4.heap.size := by have := hb4.size; omega
  have hI1 := (hI1.below hb4).mono (B' := wu4.heap.size) hb4.size
  have hI2 := (hI2.below hb4).mono (B' := wu4.heap.size) hb4.size
  generalize sortL (orderOf a) = l4 at *
  obtain ⟨x0, x1⟩ := unhide Hcells wu4 hk4
  go_wp2_with fail
  clear x0 x1
  refine (refReach_c _ _ _ _ a w.heap.size _ (hao.below hw4) (har.below hw4) (by omega) hG).mono ?_
  rintro e wu5 ⟨a5, c5, rfl, hI5, hb5⟩
  have hw5 : Below w.heap.size w wu5 := hw4.trans (hb5.mono (by omega))
  have hI1 := (hI1.below hb5).mono (B' := wu5.heap.size) hb5.size
  have hI2 := (hI2.below hb5).mono (B' := wu5.heap.size) hb5.size
  have hI4 := (hI4.below hb5).mono (B' := wu5.heap.size) hb5.size
  generalize reachK a a.objs.length = l5 at *
  go_wp2_with fail
  refine (has_c a5 c5 l5 v wu5.heap.size _ hI5).mono ?_
  rintro e wu6 ⟨he6, hu6⟩
  have hu6 := hu6.symm
  subst hu6
  rw [unhide Hself] at he6
  subst he6
  go_wp2_with fail
  refine (has_c a1 c1 l1 v wu5.heap.size _ hI1).mono ?_
  rintro e wu7 ⟨rfl, hu7⟩
  have hu7 := hu7.symm
  subst hu7
  generalize decide (v ∈ l1) = bb at *
  have dbb : (bb != bb) = false := by cases bb <;> rfl
  go_wp2_with fail
  refine (inside_g a1 a4 c1 c4 l1 l4 wu5.heap.size _ hI1 hI4).mono ?_
  rintro e wu8 ⟨he8, hu8⟩
  have hu8 := hu8.symm
  subst hu8
  rw [unhide Hin] at he8
  subst he8
  go_wp2_with fail
  refine (inside_g a1 a2 c1 c2 l1 l2 wu5.heap.size _ hI1 hI2).mono ?_
  rintro e wu9 ⟨he9, hu9⟩
  have hu9 := hu9.symm
  subst hu9
  by_cases h12 : (l1.all fun x => decide (x ∈ l2)) = true
  · rw [h12] at he9
    subst he9
    go_wp2
    go_ret
    exact ⟨rfl, hw5⟩
  · have h12' : (l1.all fun x => decide (x ∈ l2)) = false := by simpa using h12
    rw [h12'] at he9
    subst he9
    have H12 := hide h12
    clear h12 h12'
    go_wp2_with fail
    refine (inside_g a2 a1 c2 c1 l2 l1 wu5.heap.size _ hI2 hI1).mono ?_
    rintro e wu10 ⟨he10, hu10⟩
    have hu10 := hu10.symm
    subst hu10
    by_cases h21 : (l2.all fun x => decide (x ∈ l1)) = true
    · rw [h21] at he10
      subst he10
      go_wp2
      go_ret
      exact ⟨rfl, hw5⟩
    · have h21' : (l2.all fun x => decide (x ∈ l1)) = false := by simpa using h21
      rw [h21'] at he10
      subst he10
      have Hdis : Hid (∀ x ∈ l1, x ∉ l2) := by
        rcases unhide Hnest with h | h | h
        · exact absurd (List.all_eq_true.2 fun x hx => by simpa using h x hx) (unhide H12)
        · exact absurd (List.all_eq_true.2 fun x hx => by simpa using h x hx) h21
        · exact h
      clear h21 h21' Hnest
      have hl1 := hI1.1
      go_wp2
      go_loop [99] (fun i => ∃ k : Nat, k ≤ l1.length ∧ i = .int .i64 k) (fun i => l1.length - (intOf i).toNat)
      case atStart => exact ⟨0, Nat.zero_le _, rfl⟩
      case round =>
        obtain ⟨k, hk, rfl⟩ := hrel
        by_cases hlt : k < l1.length
        · obtain ⟨b, off, rfl, hbB, hc⟩ := hI1.at hlt
          have Hx := hide (unhide Hdis _ (List.getElem_mem hlt))
          generalize l1[k] = y at *
          go_wp2_with (go_at_call 17; go_must (refine (has_c _ _ l2 y wu5.heap.size _ hI2).mono ?_); go_must (rintro e w3 ⟨he, hw3⟩; rw [decide_eq_false (unhide Hx)] at he; subst he; have hw3 := hw3.symm; subst hw3))
          go_round
          case rel => exact ⟨k + 1, by omega, by go_num⟩
          case measure => simp [intOf]; omega
        · obtain rfl : k = l1.length := by omega
          go_wp2
          go_ret
          exact ⟨rfl, hw5⟩

theorem domNested_c (ao ar : Option Addr) (aoc arc : Nat) (a : Gr) (v u : Int) (w : World) (hao : Objs w.heap.size w ao a.objs) (har : Vals w.heap.size w ar a.roots) :
    Calls Try.prog 6 #[.agg #[.slice ao a.objs.length aoc, .slice ar a.roots.length arc], .int .i64 v, .int .i64 u] w fun e w' => e = .returned (.bool true) ∧ Below w.heap.size w w' := by
  by_cases na : checkG a = 0
  · by_cases hv : (v < 0 ∨ (a.objs.length : Int) ≤ v) ∨ (u < 0 ∨ (a.objs.length : Int) ≤ u)
    · exact domNested_arg ao ar aoc arc a v u w hao har na hv
    · exact domNested_ok ao ar aoc arc a v u w hao har na (by omega) (by omega) (by omega) (by omega)
  · exact domNested_bad ao ar aoc arc a v u w hao har na

end Go.Proofs.Ythpmckfgngkbhaa
