/- Walks: GraphLeast. -/
import Derived.Test.YtadjlimdbbaoaaaProg
import Derived.Test.YtadjlimdbbaoaaaMem
import Derived.Test.YtadjlimdbbaoaaaWs
import Derived.Test.YtadjlimdbbaoaaaWu
import Derived.Test.YtadjlimdbbaoaaaSa
import Derived.Test.YtadjlimdbbaoaaaSb
import Derived.Test.YtadjlimdbbaoaaaSc
import Derived.Test.YtadjlimdbbaoaaaSd
namespace Go.Proofs.Ytadjlimdbbaoaaa
set_option linter.unusedSimpArgs false
set_option linter.unusedVariables false
open Go.RowKit

theorem sortL_nodup {l : List Int} (h : l.Nodup) : (sortL l).Nodup := (sortL_perm l).nodup_iff.2 h

theorem sortL_rises {l : List Int} (h : l.Nodup) : ∀ (i j : Nat) (x y : Int), i + 1 = j → (sortL l)[i]? = some x → (sortL l)[j]? = some y → x < y := by
  intro i j x y hij hx hy
  have h1 := sortL_sorted l
  have h2 := sortL_nodup h
  rw [List.nodup_iff_pairwise_ne] at h2
  rw [List.pairwise_iff_getElem] at h1 h2
  obtain ⟨hi, rfl⟩ := List.getElem?_eq_some_iff.1 hx
  obtain ⟨hj, rfl⟩ := List.getElem?_eq_some_iff.1 hy
  have := h1 i j hi hj (by omega)
  have := h2 i j hi hj (by omega)
  omega

theorem okV_all {l : List Int} {fs : List V} (h : RefsOk fs) : fs.all (okV l) = true ↔ ∀ x ∈ refsL fs, x ∈ l := by
  rw [List.all_eq_true]
  constructor
  · intro h1 x hx
    have := h1 _ ((mem_refsL h x).1 hx)
    simpa [okV] using this
  · rintro h1 ⟨r, n⟩ hv
    cases r
    · rfl
    · have := h1 n ((mem_refsL h n).2 hv)
      simp [okV, this]

theorem closed_order {g : Gr} (h : Good g) : closedB g (sortL (orderOf g)) = true := by
  unfold closedB
  rw [Bool.and_eq_true]
  refine ⟨(okV_all h.refsRoots).2 (fun x hx => (sortL_mem _ _).2 (order_roots g x hx)), List.all_eq_true.2 fun o ho => ?_⟩
  have ho := (sortL_mem _ _).1 ho
  have hr := order_ok h ho
  exact (okV_all (h.refsObjs (fieldsOf_mem hr.1 hr.2))).2 (fun x hx => (sortL_mem _ _).2 (order_closed h ho x hx))

theorem findA_sub (d : Int) (l : List Int) : ∀ (xs : List Int) (st : List Int × List Int), (∀ x ∈ st.1, x ∈ l) → (∀ x ∈ xs, x ∈ l) → ∀ x ∈ (findA d st xs).1, x ∈ l
  | [], st, h, _ => h
  | y :: ys, st, h, hy => by
    refine findA_sub d l ys (findS d st y) ?_ (fun x hx => hy x (List.mem_cons_of_mem _ hx))
    unfold findS
    split
    · exact h
    · intro x hx
      rcases List.mem_append.1 hx with hx | hx
      · exact h x hx
      · simp at hx; subst hx; exact hy x (by simp)

theorem closed_least {g : Gr} (h : Good g) {l : List Int} (hc : closedB g l = true) : ∀ x ∈ orderOf g, x ∈ l := by
  unfold closedB at hc
  rw [Bool.and_eq_true] at hc
  have key : ∀ k, ∀ x ∈ (searchN g k).1, x ∈ l := by
    intro k
    induction k with
    | zero => exact findA_sub 0 l _ ([], []) (by simp) ((okV_all h.refsRoots).1 hc.1)
    | succ k ih =>
      rw [searchN_succ]
      cases ho : (searchN g k).1[k]? with
      | none => exact ih
      | some o =>
        have hm := List.mem_of_getElem? ho
        have hr := (searchN_ok h k).rng o hm
        exact findA_sub _ l _ _ ih ((okV_all (h.refsObjs (fieldsOf_mem hr.1 hr.2))).1 (List.all_eq_true.1 hc.2 o (ih o hm)))
  exact key _

theorem least_box (x y : Value) (t : TypeId) (w : World) :
    ∀ W0, w.alloc (.cells #[x, y] t) = W0 → W0.heap.size = w.heap.size + 1 ∧ Below w.heap.size w W0 ∧ (∀ X, Below (w.heap.size + 1) W0 X → X.cell? ⟨w.heap.size, 0, none⟩ = some x ∧ X.cell? ⟨w.heap.size, 1, none⟩ = some y) := by
  intro W0 h
  refine ⟨by rw [← h]; simp, by rw [← h]; exact (Below.refl _ _).alloc (Nat.le_refl _) _, fun X hX => ⟨?_, ?_⟩⟩
  · rw [hX.cell (p := ⟨w.heap.size, 0, none⟩) (by simp), ← h]; simp [go_sem]
  · rw [hX.cell (p := ⟨w.heap.size, 1, none⟩) (by simp), ← h]; simp [go_sem]

set_option maxRecDepth 100000 in
set_option maxHeartbeats 2000000 in
theorem least_bad (ao ar : Option Addr) (aoc arc : Nat) (a : Gr) (m : Int) (w : World) (hao : Objs w.heap.size w ao a.objs) (har : Vals w.heap.size w ar a.roots) (na : checkG a ≠ 0) :
    Calls Try.prog 4 #[.agg #[.slice ao a.objs.length aoc, .slice ar a.roots.length arc], .int .u32 m] w fun e w' => e = .returned (.bool true) ∧ Below w.heap.size w w' := by
  have Ha := hide na
  clear na
  go_enter Try.func4, Try.ntmps4
  go_wp2_with fail
  obtain ⟨u0, hu0⟩ : ∃ u0, w.alloc (.cells #[.slice ao a.objs.length aoc, .slice ar a.roots.length arc] 25) = u0 := ⟨_, rfl⟩
  rw [hu0]
  obtain ⟨hsz0, hw0, hcells⟩ := least_box _ _ 25 w u0 hu0
  have Hcells := hide hcells
  clear hu0 hcells
  have hn0 : w.heap.size + 1 ≤ u0.heap.size := by omega
  refine (good_c _ _ _ _ a w.heap.size _ (hao.below hw0) (har.below hw0) (by omega)).mono ?_
  rintro e u1 ⟨he, hb1⟩
  rw [checkG_beq' (unhide Ha)] at he
  subst he
  have hw1 : Below w.heap.size w u1 := hw0.trans (hb1.mono (by omega))
  have hn1 : w.heap.size + 1 ≤ u1.heap.size := by have := hb1.size; omega
  obtain ⟨x0, x1⟩ := unhide Hcells u1 (hb1.mono hn0)
  go_wp2_with fail
  clear x0 x1
  refine (refused_c _ _ _ _ a w.heap.size _ (hao.below hw1) (har.below hw1) (by omega)).mono ?_
  rintro e u2 ⟨he, hb2⟩
  rw [checkG_bne' (unhide Ha)] at he
  subst he
  go_wp2
  go_ret
  exact ⟨rfl, hw1.trans (hb2.mono (by omega))⟩

set_option maxRecDepth 100000 in
set_option maxHeartbeats 4000000 in
theorem least_ok (ao ar : Option Addr) (aoc arc : Nat) (a : Gr) (m : Int) (w : World) (hao : Objs w.heap.size w ao a.objs) (har : Vals w.heap.size w ar a.roots) (hm0 : 0 ≤ m) (hm1 : m < 4294967296) (na : checkG a = 0) :
    Calls Try.prog 4 #[.agg #[.slice ao a.objs.length aoc, .slice ar a.roots.length arc], .int .u32 m] w fun e w' => e = .returned (.bool true) ∧ Below w.heap.size w w' := by
  have Ha := hide na
  have hG := good_of_check na
  clear na
  have hn24 := hG.n24
  go_enter Try.func4, Try.ntmps4
  go_wp2_with fail
  obtain ⟨u0, hu0⟩ : ∃ u0, w.alloc (.cells #[.slice ao a.objs.length aoc, .slice ar a.roots.length arc] 25) = u0 := ⟨_, rfl⟩
  rw [hu0]
  obtain ⟨hsz0, hw0, hcells⟩ := least_box _ _ 25 w u0 hu0
  have Hcells := hide hcells
  clear hu0 hcells
  have hn0 : w.heap.size + 1 ≤ u0.heap.size := by omega
  refine (good_c _ _ _ _ a w.heap.size _ (hao.below hw0) (har.below hw0) (by omega)).mono ?_
  rintro e u1 ⟨he, hb1⟩
  rw [checkG_beq (unhide Ha)] at he
  subst he
  have hk1 : Below (w.heap.size + 1) u0 u1 := hb1.mono hn0
  have hw1 : Below w.heap.size w u1 := hw0.trans (hb1.mono (by omega))
  have hn1 : w.heap.size + 1 ≤ u1.heap.size := by have := hb1.size; omega
  obtain ⟨x0, x1⟩ := unhide Hcells u1 hk1
  go_wp2_with fail
  clear x0 x1
  refine (reach_ok _ _ _ _ a w.heap.size _ (hao.below hw1) (har.below hw1) (by omega) (unhide Ha)).mono ?_
  rintro e u2 ⟨al, cl, rfl, hI2, hb2⟩
  have hk2 : Below (w.heap.size + 1) u0 u2 := hk1.trans (hb2.mono hn1)
  have hw2 : Below w.heap.size w u2 := hw1.trans (hb2.mono (by omega))
  have hn2 : w.heap.size + 1 ≤ u2.heap.size := by have := hb2.size; omega
  have Hrise := hide (sortL_rises (order_nodup hG))
  have Hrng : Hid (∀ x ∈ sortL (orderOf a), 0 ≤ x ∧ x < (a.objs.length : Int)) := fun x hx => order_ok hG ((sortL_mem _ _).1 hx)
  have Hcl := hide (closed_order hG)
  have Hleast := hide (fun l hc => closed_least (l := l) hG hc)
  have Hsub : Hid (∀ x, x ∈ sortL (orderOf a) → x ∈ orderOf a) := fun x hx => (sortL_mem _ _).1 hx
  generalize sortL (orderOf a) = l at *
  obtain ⟨x0, x1⟩ := unhide Hcells u2 hk2
  go_wp2_with fail
  clear x0 x1
  refine (rising_c al cl l u2.heap.size _ hI2 (Nat.le_refl _) (unhide Hrise)).mono ?_
  rintro e u3 ⟨rfl, hb3⟩
  have hI3 := (hI2.below hb3).mono (B' := u3.heap.size) hb3.size
  have hk3 : Below (w.heap.size + 1) u0 u3 := hk2.trans (hb3.mono hn2)
  have hw3 : Below w.heap.size w u3 := hw2.trans (hb3.mono (by omega))
  have hn3 : w.heap.size + 1 ≤ u3.heap.size := by have := hb3.size; omega
  obtain ⟨x0, x1⟩ := unhide Hcells u3 hk3
  go_wp2_with fail
  refine (within_c al cl a.objs.length l u3.heap.size _ hI3 (unhide Hrng)).mono ?_
  rintro e u4 ⟨rfl, hu4⟩
  subst hu4
  go_wp2_with fail
  clear x0 x1
  refine (closed_c ao ar al aoc arc cl a l u4.heap.size _ ((hao.below hw3).mono (by omega)) ((har.below hw3).mono (by omega)) hI3 (Nat.le_refl _) (unhide Hrng) (by have := hG.n8; omega) (fun f hf => by have := hG.n4 f hf; omega)).mono ?_
  rintro e u5 ⟨he, hb5⟩
  rw [unhide Hcl] at he
  subst he
  have hI5 := (hI3.below hb5).mono (B' := u5.heap.size) hb5.size
  have hk5 : Below (w.heap.size + 1) u0 u5 := hk3.trans (hb5.mono hn3)
  have hw5 : Below w.heap.size w u5 := hw3.trans (hb5.mono (by omega))
  have hn5 : w.heap.size + 1 ≤ u5.heap.size := by have := hb5.size; omega
  obtain ⟨x0, x1⟩ := unhide Hcells u5 hk5
  go_wp2_with fail
  clear x0 x1
  refine (masked_c a.objs.length m _ (by omega) hm0 hm1).mono ?_
  rintro e u6 ⟨am, cm, s, rfl, hI6, Hs, hb6⟩
  have Hs := hide Hs
  have hI56 := (hI5.below hb6).mono (B' := u6.heap.size) hb6.size
  have hk6 : Below (w.heap.size + 1) u0 u6 := hk5.trans (hb6.mono hn5)
  have hw6 : Below w.heap.size w u6 := hw5.trans (hb6.mono (by omega))
  have hn6 : w.heap.size + 1 ≤ u6.heap.size := by have := hb6.size; omega
  obtain ⟨x0, x1⟩ := unhide Hcells u6 hk6
  go_wp2_with fail
  clear x0 x1
  refine (closed_c ao ar am aoc arc cm a s u6.heap.size _ ((hao.below hw6).mono (by omega)) ((har.below hw6).mono (by omega)) hI6 (Nat.le_refl _) (unhide Hs) (by have := hG.n8; omega) (fun f hf => by have := hG.n4 f hf; omega)).mono ?_
  rintro e u7 ⟨rfl, hb7⟩
  have hI57 := (hI56.below hb7).mono (B' := u7.heap.size) hb7.size
  have hI67 := (hI6.below hb7).mono (B' := u7.heap.size) hb7.size
  have hw7 : Below w.heap.size w u7 := hw6.trans (hb7.mono (by omega))
  cases hc : closedB a s
  · go_wp2
    go_ret
    exact ⟨rfl, hw7⟩
  · have Hin : Hid (∀ x ∈ l, x ∈ s) := fun x hx => unhide Hleast s hc x (unhide Hsub x hx)
    go_wp2_with (go_at_call 19; go_must (refine (inside_c al am cl cm l s u7.heap.size _ hI57 hI67 (unhide Hin)).mono ?_); rintro e u8 ⟨rfl, hu8⟩; subst hu8)
    go_ret
    exact ⟨rfl, hw7⟩

theorem least_c (ao ar : Option Addr) (aoc arc : Nat) (a : Gr) (m : Int) (w : World) (hao : Objs w.heap.size w ao a.objs) (har : Vals w.heap.size w ar a.roots) (hm0 : 0 ≤ m) (hm1 : m < 4294967296) :
    Calls Try.prog 4 #[.agg #[.slice ao a.objs.length aoc, .slice ar a.roots.length arc], .int .u32 m] w fun e w' => e = .returned (.bool true) ∧ Below w.heap.size w w' := by
  by_cases na : checkG a = 0
  · exact least_ok ao ar aoc arc a m w hao har hm0 hm1 na
  · exact least_bad ao ar aoc arc a m w hao har na

end Go.Proofs.Ytadjlimdbbaoaaa
