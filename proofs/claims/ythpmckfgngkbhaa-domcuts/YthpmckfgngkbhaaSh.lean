/- How far objects are, level by level: plain facts. -/
import Derived.Test.YthpmckfgngkbhaaXb
namespace Go.Proofs.Ythpmckfgngkbhaa
set_option linter.unusedSimpArgs false
set_option linter.unusedVariables false

/-- What is known behind s levels. -/
def lev (D : Nat → Int) (s j : Nat) : Int := if 0 ≤ D j ∧ D j ≤ (s : Int) then D j else -1
/-- One of the first i that stand at level s refers to j. -/
def hit (D : Nat → Int) (R : Nat → Nat → Bool) (s i j : Nat) : Bool := (List.range i).any fun i' => decide (D i' = (s : Int)) && R i' j
def mid (D : Nat → Int) (R : Nat → Nat → Bool) (s i j : Nat) : Int := if 0 ≤ lev D s j then lev D s j else if hit D R s i j = true then (s : Int) + 1 else -1

theorem hit_succ (D : Nat → Int) (R : Nat → Nat → Bool) (s i j : Nat) : hit D R s (i + 1) j = (hit D R s i j || (decide (D i = (s : Int)) && R i j)) := by
  unfold hit; rw [List.range_succ, List.any_append]; simp

theorem hit_iff (D : Nat → Int) (R : Nat → Nat → Bool) (s i j : Nat) : hit D R s i j = true ↔ ∃ i', i' < i ∧ D i' = (s : Int) ∧ R i' j = true := by
  unfold hit; simp [List.any_eq_true]

theorem lev_cases (D : Nat → Int) (s j : Nat) : (0 ≤ lev D s j ∧ lev D s j = D j ∧ D j ≤ (s : Int)) ∨ (lev D s j = -1 ∧ ¬ (0 ≤ D j ∧ D j ≤ (s : Int))) := by
  unfold lev; split
  · left; omega
  · right; omega

theorem mid_zero (D : Nat → Int) (R : Nat → Nat → Bool) (s j : Nat) : mid D R s 0 j = lev D s j := by
  unfold mid
  rcases lev_cases D s j with ⟨h, _, _⟩ | ⟨h, _⟩
  · rw [if_pos h]
  · rw [if_neg (by omega), if_neg (by simp [hit]), h]

theorem mid_skip {D : Nat → Int} {R : Nat → Nat → Bool} {s i j : Nat} (h : D i ≠ (s : Int)) : mid D R s (i + 1) j = mid D R s i j := by
  unfold mid; rw [hit_succ]; simp [h]

theorem mid_set {D : Nat → Int} {R : Nat → Nat → Bool} {s i j : Nat} (h1 : mid D R s i j < 0) (h2 : D i = (s : Int)) (h3 : R i j = true) : mid D R s (i + 1) j = (s : Int) + 1 := by
  unfold mid at *
  rcases lev_cases D s j with ⟨h, _, _⟩ | ⟨h, _⟩
  · rw [if_pos h] at h1; omega
  · rw [if_neg (by omega), if_pos (by rw [hit_succ]; simp [h2, h3])]

theorem mid_keep {D : Nat → Int} {R : Nat → Nat → Bool} {s i j : Nat} (h : 0 ≤ mid D R s i j ∨ R i j = false) : mid D R s (i + 1) j = mid D R s i j := by
  unfold mid at *
  rcases lev_cases D s j with ⟨h0, _, _⟩ | ⟨h0, _⟩
  · rw [if_pos h0, if_pos h0]
  · have hn : ¬ 0 ≤ lev D s j := by omega
    simp only [if_neg hn] at h ⊢
    rcases h with h | h
    · by_cases hh : hit D R s i j = true
      · rw [if_pos hh, if_pos (by rw [hit_succ, hh]; rfl)]
      · rw [if_neg hh] at h; omega
    · rw [hit_succ, h]; simp

theorem mid_self {D : Nat → Int} {R : Nat → Nat → Bool} {s i k : Nat} : mid D R s k i = (s : Int) ↔ D i = (s : Int) := by
  unfold mid
  rcases lev_cases D s i with ⟨h, h1, h2⟩ | ⟨h, h1⟩
  · rw [if_pos h, h1]
  · rw [if_neg (by omega)]
    split
    · constructor
      · intro e; omega
      · intro e; exfalso; apply h1; omega
    · constructor
      · intro e; omega
      · intro e; exfalso; apply h1; omega

theorem mid_bounds {D : Nat → Int} {R : Nat → Nat → Bool} (s i j : Nat) : -1 ≤ mid D R s i j ∧ mid D R s i j ≤ (s : Int) + 1 := by
  unfold mid
  rcases lev_cases D s j with ⟨h, h1, h2⟩ | ⟨h, h1⟩
  · rw [if_pos h]; omega
  · rw [if_neg (by omega)]; split <;> omega

def dG (g : Gr) (i : Nat) : Int := distAt g (i : Int)
def rG (g : Gr) (i j : Nat) : Bool := refers (fieldsOf g (i : Int)) (j : Int)

theorem mid_end {g : Gr} (h : Good g) {s j : Nat} (hj : j < g.objs.length) : mid (dG g) (rG g) s g.objs.length j = lev (dG g) (s + 1) j := by
  have hst := steps_eq h hj
  have hb := distAt_bounds h (j : Int)
  have hsp := bestK_spec (dG g) (fun i => rG g i j) g.objs.length
  have hst : dG g j = if refers g.roots (j : Int) = true then 0 else bestK (dG g) (fun i => rG g i j) g.objs.length := hst
  have hb1 : -1 ≤ dG g j := hb.1
  unfold mid
  rcases lev_cases (dG g) s j with ⟨h0, h1, h2⟩ | ⟨h0, h1⟩
  · rw [if_pos h0, h1]; unfold lev; rw [if_pos ⟨by omega, by omega⟩]
  · rw [if_neg (by omega)]
    by_cases hh : hit (dG g) (rG g) s g.objs.length j = true
    · rw [if_pos hh]
      obtain ⟨i', hi', e1, e2⟩ := (hit_iff _ _ _ _ _).1 hh
      have : dG g j = (s : Int) + 1 := by
        by_cases hr : refers g.roots (j : Int) = true
        · rw [if_pos hr] at hst; omega
        · rw [if_neg hr] at hst
          rcases hsp with ⟨_, hno⟩ | ⟨i, hi, b1, b2, b3, b4⟩
          · exact absurd ⟨by omega, e2⟩ (hno i' hi')
          · have := b4 i' hi' (by omega) e2
            omega
      unfold lev; rw [if_pos (by omega), this]
    · rw [if_neg hh]
      unfold lev
      rw [if_neg]
      intro hc
      have hs1 : dG g j = (s : Int) + 1 := by omega
      by_cases hr : refers g.roots (j : Int) = true
      · rw [if_pos hr] at hst; omega
      · rw [if_neg hr] at hst
        rcases hsp with ⟨hno, _⟩ | ⟨i, hi, b1, b2, b3, b4⟩
        · omega
        · exact hh ((hit_iff _ _ _ _ _).2 ⟨i, hi, by omega, b2⟩)

theorem lev_start {g : Gr} (h : Good g) {j : Nat} (hj : j < g.objs.length) : lev (dG g) 0 j = if refers g.roots (j : Int) = true then 0 else -1 := by
  have hst := steps_eq h hj
  have hsp := bestK_spec (dG g) (fun i => rG g i j) g.objs.length
  have hst : dG g j = if refers g.roots (j : Int) = true then 0 else bestK (dG g) (fun i => rG g i j) g.objs.length := hst
  unfold lev
  by_cases hr : refers g.roots (j : Int) = true
  · rw [if_pos hr] at hst; rw [if_pos hr, if_pos (by omega), hst]
  · rw [if_neg hr] at hst; rw [if_neg hr, if_neg]
    rcases hsp with ⟨hno, _⟩ | ⟨i, hi, b1, b2, b3, b4⟩ <;> omega

theorem lev_end {g : Gr} (h : Good g) {j : Nat} : lev (dG g) g.objs.length j = dG g j := by
  have hb : -1 ≤ dG g j := (distAt_bounds h (j : Int)).1
  unfold lev
  by_cases h0 : 0 ≤ dG g j
  · obtain ⟨m, d, hm, _, e, _, h2⟩ := distAt_mem h ((distAt_nonneg h (j : Int)).1 h0)
    have h3 := (List.getElem?_eq_some_iff.1 hm).1
    have h4 := (searchN_ok h g.objs.length).le
    have h3 : m < (searchN g g.objs.length).1.length := h3
    rw [if_pos ⟨h0, by unfold dG; omega⟩]
  · rw [if_neg (by omega)]; omega

/-- A list that holds a function's values. -/
def Holds' (dl : List Int) (n : Nat) (f : Nat → Int) : Prop := dl.length = n ∧ ∀ j, j < n → dl[j]? = some (f j)

theorem Holds'.set {dl : List Int} {n : Nat} {f f' : Nat → Int} (h : Holds' dl n f) {j : Nat} (hj : j < n) {v : Int} (hv : f' j = v) (ho : ∀ q, q < n → q ≠ j → f' q = f q) : Holds' (dl.set j v) n f' := by
  refine ⟨by rw [List.length_set]; exact h.1, fun q hq => ?_⟩
  by_cases e : q = j
  · subst e; rw [List.getElem?_set_self (by rw [h.1]; exact hq), hv]
  · rw [List.getElem?_set_ne (fun h => e h.symm), h.2 q hq, ho q hq e]

theorem Holds'.congr {dl : List Int} {n : Nat} {f f' : Nat → Int} (h : Holds' dl n f) (ho : ∀ q, q < n → f' q = f q) : Holds' dl n f' := ⟨h.1, fun q hq => by rw [h.2 q hq, ho q hq]⟩

theorem Holds'.dist {g : Gr} {dl : List Int} (h : Holds' dl g.objs.length (dG g)) : dl = distL g := by
  apply List.ext_getElem?
  intro i
  by_cases hi : i < g.objs.length
  · rw [h.2 i hi]; simp [distL, List.getElem?_map, List.getElem?_range hi, dG]
  · rw [List.getElem?_eq_none (by rw [h.1]; omega), List.getElem?_eq_none (by rw [distL_len]; omega)]

end Go.Proofs.Ythpmckfgngkbhaa
