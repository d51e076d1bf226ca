/- Plain: sorted lists; what is closed. -/
import Derived.Test.YthpmckfgngkbhaaMem
import Derived.Test.YthpmckfgngkbhaaXa
namespace Go.Proofs.Ythpmckfgngkbhaa
set_option linter.unusedSimpArgs false
set_option linter.unusedVariables false
open Go.RowKit

def sortL (l : List Int) : List Int := l.mergeSort fun x y => decide (x ≤ y)

theorem sortL_len (l : List Int) : (sortL l).length = l.length := List.length_mergeSort l
theorem sortL_mem (l : List Int) (x : Int) : x ∈ sortL l ↔ x ∈ l := List.mem_mergeSort
theorem sortL_perm (l : List Int) : (sortL l).Perm l := List.mergeSort_perm l _
theorem sortL_sorted (l : List Int) : (sortL l).Pairwise (· ≤ ·) := by
  have h := List.pairwise_mergeSort (le := fun x y : Int => decide (x ≤ y)) (by intro a b c; simp; omega) (by intro a b; simp; omega) l
  exact h.imp (by simp)


/-- A value refers to nothing outside of a list. -/
def okV (l : List Int) (v : V) : Bool := !v.1 || decide (v.2 ∈ l)
def closedB (g : Gr) (l : List Int) : Bool := g.roots.all (okV l) && l.all fun o => (fieldsOf g o).all (okV l)

theorem all_take {α : Type} {p : α → Bool} {l : List α} {k : Nat} (hk : k < l.length) (h : (l.take k).all p = true) (hp : p l[k] = true) : (l.take (k + 1)).all p = true := by
  rw [List.take_succ_eq_append_getElem hk, List.all_append, h]; simp [hp]

theorem all_not {α : Type} {p : α → Bool} {l : List α} {k : Nat} (hk : k < l.length) (hp : p l[k] = false) : l.all p = false := by
  rw [List.all_eq_false]; exact ⟨_, List.getElem_mem hk, by simp [hp]⟩


theorem sortL_nodup {l : List Int} (h : l.Nodup) : (sortL l).Nodup := (sortL_perm l).nodup_iff.2 h

theorem sortL_rises {l : List Int} (h : l.Nodup) : ∀ (i j : Nat) (x y : Int), i + 1 = j → (sortL l)[i]? = some x → (sortL l)[j]? = some y → x < y := by
  intro i j x y hij hx hy
  have h1 := sortL_sorted l
  have h2 := sortL_nodup h
  rw [List.nodup_iff_pairwise_ne] at h2
  rw [List.pairwise_iff_getElem] at h1 h2
  obtain ⟨hi, rfl⟩ := List.getElem?_eq_some_iff.1 hx
  obtain ⟨hj, rfl⟩ := List.getElem?_eq_some_iff.1 hy
  have := h1 i j hi hj (by omega)
  have := h2 i j hi hj (by omega)
  omega

theorem okV_all {l : List Int} {fs : List V} (h : RefsOk fs) : fs.all (okV l) = true ↔ ∀ x ∈ refsL fs, x ∈ l := by
  rw [List.all_eq_true]
  constructor
  · intro h1 x hx
    have := h1 _ ((mem_refsL h x).1 hx)
    simpa [okV] using this
  · rintro h1 ⟨r, n⟩ hv
    cases r
    · rfl
    · have := h1 n ((mem_refsL h n).2 hv)
      simp [okV, this]

theorem closed_order {g : Gr} (h : Good g) : closedB g (sortL (orderOf g)) = true := by
  unfold closedB
  rw [Bool.and_eq_true]
  refine ⟨(okV_all h.refsRoots).2 (fun x hx => (sortL_mem _ _).2 (order_roots g x hx)), List.all_eq_true.2 fun o ho => ?_⟩
  have ho := (sortL_mem _ _).1 ho
  have hr := order_ok h ho
  exact (okV_all (h.refsObjs (fieldsOf_mem hr.1 hr.2))).2 (fun x hx => (sortL_mem _ _).2 (order_closed h ho x hx))

theorem findA_sub (d : Int) (l : List Int) : ∀ (xs : List Int) (st : List Int × List Int), (∀ x ∈ st.1, x ∈ l) → (∀ x ∈ xs, x ∈ l) → ∀ x ∈ (findA d st xs).1, x ∈ l
  | [], st, h, _ => h
  | y :: ys, st, h, hy => by
    refine findA_sub d l ys (findS d st y) ?_ (fun x hx => hy x (List.mem_cons_of_mem _ hx))
    unfold findS
    split
    · exact h
    · intro x hx
      rcases List.mem_append.1 hx with hx | hx
      · exact h x hx
      · simp at hx; subst hx; exact hy x (by simp)

theorem closed_least {g : Gr} (h : Good g) {l : List Int} (hc : closedB g l = true) : ∀ x ∈ orderOf g, x ∈ l := by
  unfold closedB at hc
  rw [Bool.and_eq_true] at hc
  have key : ∀ k, ∀ x ∈ (searchN g k).1, x ∈ l := by
    intro k
    induction k with
    | zero => exact findA_sub 0 l _ ([], []) (by simp) ((okV_all h.refsRoots).1 hc.1)
    | succ k ih =>
      rw [searchN_succ]
      cases ho : (searchN g k).1[k]? with
      | none => exact ih
      | some o =>
        have hm := List.mem_of_getElem? ho
        have hr := (searchN_ok h k).rng o hm
        exact findA_sub _ l _ _ ih ((okV_all (h.refsObjs (fieldsOf_mem hr.1 hr.2))).1 (List.all_eq_true.1 hc.2 o (ih o hm)))
  exact key _


end Go.Proofs.Ythpmckfgngkbhaa
