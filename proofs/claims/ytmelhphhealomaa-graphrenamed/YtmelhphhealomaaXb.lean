/- How far objects are: plain facts. -/
import Derived.Test.YtmelhphhealomaaXa
import Derived.Test.YtmelhphhealomaaWz
namespace Go.Proofs.Ytmelhphhealomaa
set_option linter.unusedSimpArgs false
set_option linter.unusedVariables false

/-- The best of what stands before the first k. -/
def bestK (D : Nat → Int) (R : Nat → Bool) : Nat → Int
  | 0 => -1
  | i + 1 => if 0 ≤ D i ∧ R i = true ∧ (bestK D R i < 0 ∨ D i + 1 < bestK D R i) then D i + 1 else bestK D R i

theorem bestK_spec (D : Nat → Int) (R : Nat → Bool) : ∀ k, (bestK D R k = -1 ∧ ∀ i, i < k → ¬ (0 ≤ D i ∧ R i = true)) ∨ (∃ i, i < k ∧ 0 ≤ D i ∧ R i = true ∧ bestK D R k = D i + 1 ∧ ∀ i', i' < k → 0 ≤ D i' → R i' = true → D i ≤ D i')
  | 0 => .inl ⟨rfl, fun i h => by omega⟩
  | k + 1 => by
    have ih := bestK_spec D R k
    by_cases hc : 0 ≤ D k ∧ R k = true
    · rcases ih with ⟨h1, h2⟩ | ⟨i, h1, h2, h3, h4, h5⟩
      · refine .inr ⟨k, by omega, hc.1, hc.2, ?_, ?_⟩
        · show (if _ then _ else _) = _
          rw [if_pos ⟨hc.1, hc.2, .inl (by omega)⟩]
        · intro i' hi' h0 hr
          by_cases e : i' = k
          · subst e; omega
          · exact absurd ⟨h0, hr⟩ (h2 i' (by omega))
      · by_cases hb : D k + 1 < bestK D R k
        · refine .inr ⟨k, by omega, hc.1, hc.2, ?_, ?_⟩
          · show (if _ then _ else _) = _
            rw [if_pos ⟨hc.1, hc.2, .inr hb⟩]
          · intro i' hi' h0 hr
            by_cases e : i' = k
            · subst e; omega
            · have := h5 i' (by omega) h0 hr; omega
        · refine .inr ⟨i, by omega, h2, h3, ?_, ?_⟩
          · show (if _ then _ else _) = _
            rw [if_neg (by rintro ⟨_, _, h | h⟩ <;> omega)]; exact h4
          · intro i' hi' h0 hr
            by_cases e : i' = k
            · subst e; omega
            · exact h5 i' (by omega) h0 hr
    · have e : bestK D R (k + 1) = bestK D R k := by
        show (if _ then _ else _) = _
        rw [if_neg (fun h => hc ⟨h.1, h.2.1⟩)]
      rw [e]
      rcases ih with ⟨h1, h2⟩ | ⟨i, h1, h2, h3, h4, h5⟩
      · refine .inl ⟨h1, fun i hi => ?_⟩
        by_cases e : i = k
        · subst e; exact hc
        · exact h2 i (by omega)
      · refine .inr ⟨i, by omega, h2, h3, h4, fun i' hi' h0 hr => ?_⟩
        by_cases e : i' = k
        · subst e; exact absurd ⟨h0, hr⟩ hc
        · exact h5 i' (by omega) h0 hr

theorem idx_of {l : List Int} (h : l.Nodup) {m : Nat} {o : Int} (hm : l[m]? = some o) : l.idxOf o = m := by
  obtain ⟨hlt, rfl⟩ := List.getElem?_eq_some_iff.1 hm
  have h1 : l.idxOf l[m] < l.length := List.idxOf_lt_length_iff.2 (List.getElem_mem hlt)
  have h2 := List.getElem_idxOf h1
  rw [List.nodup_iff_pairwise_ne, List.pairwise_iff_getElem] at h
  rcases Nat.lt_trichotomy (l.idxOf l[m]) m with h3 | h3 | h3
  · exact absurd h2 (h _ _ h1 hlt h3)
  · exact h3
  · exact absurd h2.symm (h _ _ hlt h1 h3)

theorem distAt_of {g : Gr} (h : Good g) {m : Nat} {o d : Int} (hm : (orderOf g)[m]? = some o) (hd : (distOf g)[m]? = some d) : distAt g o = d := by
  unfold distAt
  rw [if_pos (List.mem_of_getElem? hm), idx_of (order_nodup h) hm, hd]; rfl

theorem distAt_mem {g : Gr} (h : Good g) {o : Int} (ho : o ∈ orderOf g) : ∃ (m : Nat) (d : Int), (orderOf g)[m]? = some o ∧ (distOf g)[m]? = some d ∧ distAt g o = d ∧ 0 ≤ d ∧ d ≤ m := by
  obtain ⟨m, hm, rfl⟩ := List.getElem_of_mem ho
  have hok := searchN_ok h g.objs.length
  have hm2 : m < (distOf g).length := by rw [show (distOf g).length = (orderOf g).length from hok.len]; exact hm
  have h1 := List.getElem?_eq_getElem hm
  have h2 := List.getElem?_eq_getElem hm2
  have h3 := hok.pos m _ h2
  exact ⟨m, _, h1, h2, distAt_of h h1 h2, h3.1, h3.2⟩

theorem distAt_nonneg {g : Gr} (h : Good g) (o : Int) : 0 ≤ distAt g o ↔ o ∈ orderOf g := by
  constructor
  · intro h0
    unfold distAt at h0
    split at h0
    · assumption
    · omega
  · intro ho
    obtain ⟨_, d, _, _, e, h0, _⟩ := distAt_mem h ho
    omega

theorem distAt_bounds {g : Gr} (h : Good g) (o : Int) : -1 ≤ distAt g o ∧ distAt g o ≤ 24 := by
  by_cases ho : o ∈ orderOf g
  · obtain ⟨m, d, h1, _, e, h0, h2⟩ := distAt_mem h ho
    have := (List.getElem?_eq_some_iff.1 h1).1
    have := (searchN_ok h g.objs.length).le
    have := h.n24
    unfold orderOf at *
    omega
  · unfold distAt
    rw [if_neg ho]; omega

/-- An object is as far as one more than the nearest that refers to it. -/
theorem steps_eq {g : Gr} (h : Good g) {j : Nat} (hj : j < g.objs.length) :
    distAt g (j : Int) = if refers g.roots (j : Int) = true then 0 else bestK (fun i => distAt g (i : Int)) (fun i => refers (fieldsOf g (i : Int)) (j : Int)) g.objs.length := by
  have hB := bfs g g.objs.length
  have hR := refers_iff h.refsRoots (j : Int)
  have hF : ∀ (i : Nat), i < g.objs.length → (refers (fieldsOf g (i : Int)) (j : Int) = true ↔ (j : Int) ∈ refsL (fieldsOf g (i : Int))) := fun i hi => refers_iff (h.refsObjs (fieldsOf_mem (by omega) (by omega))) _
  have hlen := (searchN_ok h g.objs.length).le
  by_cases hjo : (j : Int) ∈ orderOf g
  · obtain ⟨p, dp, hp, hd, e, h0, _⟩ := distAt_mem h hjo
    rw [e]
    rcases hB.cause p (j : Int) dp hp hd with ⟨h1, h2⟩ | ⟨h1, m, om, dm, hm, h2, h3, h4, h5, h6⟩
    · rw [if_pos (hR.2 h1)]; exact h2
    · rw [if_neg (fun hh => h1 (hR.1 hh))]
      have hom : om ∈ orderOf g := List.mem_of_getElem? h2
      have hor := order_ok h hom
      obtain ⟨om, rfl⟩ := Int.eq_ofNat_of_zero_le hor.1
      have hdm := distAt_of h h2 h3
      have hdm0 := (distAt_nonneg h (om : Int)).2 hom
      rcases bestK_spec (fun i => distAt g (i : Int)) (fun i => refers (fieldsOf g (i : Int)) (j : Int)) g.objs.length with ⟨_, hno⟩ | ⟨i, hi, b1, b2, b3, b4⟩
      · exact absurd ⟨hdm0, (hF om (by omega)).2 h4⟩ (hno om (by omega))
      · rw [b3]
        have hle := b4 om (by omega) hdm0 ((hF om (by omega)).2 h4)
        have hio := (distAt_nonneg h (i : Int)).1 b1
        obtain ⟨q, dq, hq, hdq, eq, _, _⟩ := distAt_mem h hio
        have hji := (hF i hi).1 b2
        have hmq : m ≤ q := by
          rcases Nat.lt_or_ge q m with hlt | hge
          · exact absurd hji (h6 q (i : Int) hlt hq)
          · exact hge
        have := hB.mono m q dm dq hmq h3 hdq
        omega
  · have e : distAt g (j : Int) = -1 := by unfold distAt; rw [if_neg hjo]
    rw [e, if_neg (fun hh => hjo (order_roots g _ (hR.1 hh)))]
    rcases bestK_spec (fun i => distAt g (i : Int)) (fun i => refers (fieldsOf g (i : Int)) (j : Int)) g.objs.length with ⟨h1, _⟩ | ⟨i, hi, b1, b2, _, _⟩
    · exact h1.symm
    · exact absurd (order_closed h ((distAt_nonneg h (i : Int)).1 b1) _ ((hF i hi).1 b2)) hjo

theorem bestK_bounds {D : Nat → Int} {R : Nat → Bool} (hD : ∀ i, -1 ≤ D i ∧ D i ≤ 24) (k : Nat) : -1 ≤ bestK D R k ∧ bestK D R k ≤ 25 := by
  rcases bestK_spec D R k with ⟨h1, _⟩ | ⟨i, _, h2, _, h3, _⟩
  · omega
  · have := hD i; omega

end Go.Proofs.Ytmelhphhealomaa
