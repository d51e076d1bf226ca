/- Walks: the search. -/
import Derived.Test.YtmelhphhealomaaProg
import Derived.Test.YtmelhphhealomaaMem
import Derived.Test.YtmelhphhealomaaWk
import Derived.StillTailTactics
namespace Go.Proofs.Ytmelhphhealomaa
set_option linter.unusedSimpArgs false
set_option linter.unusedVariables false
open Go.RowKit

theorem Try.mixed : Try.prog.follows .mixedOrders = true := by kernel_rfl

/-- What was found behind k rounds of the search. -/
def searchN (g : Gr) : Nat → List Int × List Int
  | 0 => findA 0 ([], []) (valsOf (obsOf g.roots))
  | k + 1 =>
    let st := searchN g k
    match st.1[k]? with
    | none => st
    | some o => findA ((st.2[k]?).getD 0 + 1) st (valsOf (obsOf ((g.objs[o.toNat]?).getD [])))

/-- A graph that may be. -/
structure Good (g : Gr) : Prop where
  n24 : g.objs.length ≤ 24
  n8 : g.roots.length ≤ 8
  n4 : ∀ l ∈ g.objs, l.length ≤ 4
  rr : ∀ v ∈ g.roots, v.1 = true → 0 ≤ v.2 ∧ v.2 < g.objs.length
  ro : ∀ l ∈ g.objs, ∀ v ∈ l, v.1 = true → 0 ≤ v.2 ∧ v.2 < g.objs.length

theorem Good.refsRoots {g : Gr} (h : Good g) : RefsOk g.roots := fun v hv hr => by have := h.rr v hv hr; have := h.n24; omega
theorem Good.refsObjs {g : Gr} (h : Good g) {l : List V} (hl : l ∈ g.objs) : RefsOk l := fun v hv hr => by have := h.ro l hl v hv hr; have := h.n24; omega

/-- The plain facts on what was found. -/
structure StOk (N : Nat) (st : List Int × List Int) : Prop where
  rng : ∀ o ∈ st.1, 0 ≤ o ∧ o < N
  nd : st.1.Nodup
  len : st.2.length = st.1.length
  pos : ∀ (i : Nat) (d : Int), st.2[i]? = some d → 0 ≤ d ∧ d ≤ i

theorem nodup_nat : ∀ (N : Nat) (l : List Nat), l.Nodup → (∀ x ∈ l, x < N) → l.length ≤ N
  | 0, l, _, h => by
    cases l with
    | nil => simp
    | cons x l => exact absurd (h x (by simp)) (by omega)
  | N + 1, l, hn, h => by
    by_cases hm : N ∈ l
    · have h1 := nodup_nat N (l.erase N) (hn.erase N) (fun x hx => by
        have := (List.Nodup.mem_erase_iff hn).1 hx
        have := h x this.2
        omega)
      have h2 := List.length_erase_of_mem hm
      omega
    · have := nodup_nat N l hn (fun x hx => by
        have := h x hx
        have : x ≠ N := fun e => hm (e ▸ hx)
        omega)
      omega

theorem nodup_length {N : Nat} {l : List Int} (hl : l.Nodup) (hr : ∀ o ∈ l, 0 ≤ o ∧ o < N) : l.length ≤ N := by
  have h1 : (l.map Int.toNat).Nodup := by
    rw [List.nodup_iff_pairwise_ne] at hl ⊢
    rw [List.pairwise_map]
    refine List.Pairwise.imp_of_mem ?_ hl
    intro a b ha hb hab e
    have := hr a ha
    have := hr b hb
    exact hab (by omega)
  have := nodup_nat N (l.map Int.toNat) h1 (fun x hx => by
    rw [List.mem_map] at hx
    obtain ⟨o, ho, rfl⟩ := hx
    have := hr o ho
    omega)
  simpa using this

theorem StOk.le {N : Nat} {st : List Int × List Int} (h : StOk N st) : st.1.length ≤ N := nodup_length h.nd h.rng

theorem stOk_find {N : Nat} {st : List Int × List Int} (h : StOk N st) {d o : Int} (h0 : 0 ≤ d) (hd : d ≤ st.1.length) (ho : 0 ≤ o ∧ o < N) : StOk N (findS d st o) := by
  unfold findS
  split
  · exact h
  · rename_i hno
    refine ⟨?_, ?_, ?_, ?_⟩
    · intro x hx
      simp only [List.mem_append, List.mem_singleton] at hx
      rcases hx with hx | rfl
      · exact h.rng x hx
      · exact ho
    · rw [List.nodup_append]
      exact ⟨h.nd, by simp, by intro a ha b hb; simp at hb; subst hb; exact fun e => hno (e ▸ ha)⟩
    · simp [h.len]
    · intro i e hi
      by_cases hlt : i < st.2.length
      · rw [List.getElem?_append_left hlt] at hi; exact h.pos i e hi
      · rw [List.getElem?_append_right (by omega)] at hi
        rcases Nat.eq_zero_or_pos (i - st.2.length) with h' | h'
        · rw [h'] at hi; simp at hi; subst hi; have := h.len; omega
        · rw [List.getElem?_eq_none (by simp; omega)] at hi; cases hi

theorem findS_grows (d : Int) (st : List Int × List Int) (o : Int) : st.1.length ≤ (findS d st o).1.length := by
  unfold findS; split <;> simp

theorem stOk_findA {N : Nat} (d : Int) (h0 : 0 ≤ d) : ∀ (xs : List Int) (st : List Int × List Int), StOk N st → d ≤ st.1.length → (∀ o ∈ xs, 0 ≤ o ∧ o < N) → StOk N (findA d st xs)
  | [], _, h, _, _ => h
  | x :: xs, st, h, hd, hx => by
    have h1 := stOk_find h h0 hd (hx x (by simp))
    have h2 := findS_grows d st x
    exact stOk_findA d h0 xs (findS d st x) h1 (by omega) (fun o ho => hx o (by simp [ho]))

theorem findA_grows (d : Int) : ∀ (xs : List Int) (st : List Int × List Int), st.1.length ≤ (findA d st xs).1.length
  | [], st => Nat.le_refl _
  | x :: xs, st => by
    have h1 := findS_grows d st x
    have h2 := findA_grows d xs (findS d st x)
    simp only [findA, List.foldl_cons] at *
    omega

theorem obs_mem {l : List V} {o : Int} (h : o ∈ valsOf (obsOf l)) : ∃ v ∈ l, v.1 = true ∧ v.2 = o := by
  simp only [valsOf, obsOf, List.mem_map, List.mem_filterMap] at h
  obtain ⟨x, ⟨v, hv, hx⟩, rfl⟩ := h
  unfold obOf at hx
  split at hx
  · rename_i hh; injection hx with hx; subst hx; exact ⟨v, hv, hh.1, rfl⟩
  · cases hx

theorem Good.roots {g : Gr} (h : Good g) : ∀ o ∈ valsOf (obsOf g.roots), 0 ≤ o ∧ o < g.objs.length := by
  intro o ho
  obtain ⟨v, hv, h1, rfl⟩ := obs_mem ho
  exact h.rr v hv h1

theorem Good.fields {g : Gr} (h : Good g) {l : List V} (hl : l ∈ g.objs) : ∀ o ∈ valsOf (obsOf l), 0 ≤ o ∧ o < g.objs.length := by
  intro o ho
  obtain ⟨v, hv, h1, rfl⟩ := obs_mem ho
  exact h.ro l hl v hv h1

theorem stOk_nil (N : Nat) : StOk N ([], []) := ⟨by simp, by simp, rfl, by simp⟩

theorem searchN_ok {g : Gr} (h : Good g) : ∀ k, StOk g.objs.length (searchN g k)
  | 0 => stOk_findA 0 (by omega) _ _ (stOk_nil _) (by simp) h.roots
  | k + 1 => by
    have ih := searchN_ok h k
    simp only [searchN]
    split
    · exact ih
    · rename_i o ho
      have hlt : k < (searchN g k).1.length := (List.getElem?_eq_some_iff.1 ho).1
      have hr := ih.rng o (List.mem_of_getElem? ho)
      have hlo : o.toNat < g.objs.length := by omega
      have hl2 : k < (searchN g k).2.length := by rw [ih.len]; exact hlt
      have hp := ih.pos k _ (List.getElem?_eq_getElem hl2)
      rw [List.getElem?_eq_getElem hl2, List.getElem?_eq_getElem hlo, Option.getD_some, Option.getD_some]
      exact stOk_findA _ (by omega) _ _ ih (by omega) (h.fields (List.getElem_mem hlo))

end Go.Proofs.Ytmelhphhealomaa
