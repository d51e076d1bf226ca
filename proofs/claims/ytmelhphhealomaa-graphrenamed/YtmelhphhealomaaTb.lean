/- A graph numbered from another object on, and one with one more object: plain facts. -/
import Derived.Test.YtmelhphhealomaaSf
namespace Go.Proofs.Ytmelhphhealomaa
set_option linter.unusedSimpArgs false
set_option linter.unusedVariables false

/-- The first i objects from the k-th on, round and round. -/
def rotL (n k i : Nat) : List Int := (List.range i).map (fun (j : Nat) => (((j + k) % n : Nat) : Int))

theorem rotL_succ (n k i : Nat) : rotL n k (i + 1) = rotL n k i ++ [(((i + k) % n : Nat) : Int)] := by
  unfold rotL; rw [List.range_succ, List.map_append]; rfl

theorem rotL_len (n k i : Nat) : (rotL n k i).length = i := by simp [rotL]

theorem rot_inj {n k i j : Nat} (hi : i < n) (hj : j < n) (h : (i + k) % n = (j + k) % n) : i = j := by
  have h1 := Nat.div_add_mod (i + k) n
  have h2 := Nat.div_add_mod (j + k) n
  rw [h] at h1
  generalize (i + k) / n = a at *
  generalize (j + k) / n = b at *
  generalize (j + k) % n = r at *
  rcases Nat.lt_trichotomy a b with hab | hab | hab
  · have : n * a + n ≤ n * b := by
      have := Nat.mul_le_mul_left n (show a + 1 ≤ b from hab)
      rw [Nat.mul_add, Nat.mul_one] at this; exact this
    omega
  · subst hab; omega
  · have : n * b + n ≤ n * a := by
      have := Nat.mul_le_mul_left n (show b + 1 ≤ a from hab)
      rw [Nat.mul_add, Nat.mul_one] at this; exact this
    omega

theorem rotL_nodup (n k : Nat) : (rotL n k n).Nodup := by
  rw [List.nodup_iff_pairwise_ne]
  unfold rotL
  rw [List.pairwise_map, List.pairwise_iff_getElem]
  intro i j hi hj hij
  simp only [List.length_range] at hi hj
  simp only [List.getElem_range]
  intro e
  have := rot_inj hi hj (by exact_mod_cast e)
  omega

theorem rotL_rng {n : Nat} (hn : 0 < n) (k i : Nat) : ∀ o ∈ rotL n k i, 0 ≤ o ∧ o < (n : Int) := by
  intro o ho
  obtain ⟨j, _, rfl⟩ := List.mem_map.1 ho
  have := Nat.mod_lt (j + k) hn
  omega

theorem rotL_all {n : Nat} (hn : 0 < n) (k : Nat) {x : Int} (h0 : 0 ≤ x) (h1 : x < (n : Int)) : x ∈ rotL n k n := by
  obtain ⟨x, rfl⟩ := Int.eq_ofNat_of_zero_le h0
  have hx : x < n := by omega
  unfold rotL
  refine List.mem_map.2 ⟨(x + (n - k % n)) % n, List.mem_range.2 (Nat.mod_lt _ hn), ?_⟩
  have hk := Nat.mod_lt k hn
  have h2 : ((x + (n - k % n)) % n + k) % n = x := by
    rw [Nat.mod_add_mod, Nat.add_assoc, ← Nat.add_mod_mod, ← Nat.add_mod_mod]
    have e : (n - k % n + k) % n = 0 := by
      have h3 := Nat.div_add_mod k n
      have : n - k % n + k = n * (k / n) + n := by omega
      rw [this, ← Nat.mul_succ, Nat.mul_mod_right]
    rw [Nat.mod_mod, e, Nat.add_zero, Nat.mod_eq_of_lt hx]
  rw [h2]

theorem whole_rot {g : Gr} (hG : Good g) (hn : 0 < g.objs.length) (k : Nat) : Whole g (rotL g.objs.length k g.objs.length) := by
  refine ⟨rotL_nodup _ _, rotL_rng hn k _, fun x hx => ?_, fun o ho x hx => ?_⟩
  · have := hG.roots x hx
    exact rotL_all hn k this.1 this.2
  · have hr := rotL_rng hn k _ o ho
    have := hG.fields (fieldsOf_mem hr.1 hr.2) x hx
    exact rotL_all hn k this.1 this.2

/-- One more object, that refers to the first one. -/
def moreG (g : Gr) : Gr := { objs := g.objs ++ [[(true, 0)]], roots := g.roots }

theorem fields_more {g : Gr} {o : Int} (h0 : 0 ≤ o) (h1 : o < (g.objs.length : Int)) : fieldsOf (moreG g) o = fieldsOf g o := by
  unfold fieldsOf moreG
  rw [List.getElem?_append_left (by omega)]

theorem search_more {g : Gr} (hG : Good g) : ∀ k, searchN (moreG g) k = searchN g k
  | 0 => rfl
  | k + 1 => by
    rw [searchN_succ, searchN_succ, search_more hG k]
    cases ho : (searchN g k).1[k]? with
    | none => rfl
    | some o =>
      have hr := (searchN_ok hG k).rng o (List.mem_of_getElem? ho)
      simp only
      rw [fields_more hr.1 hr.2]

theorem canon_more {g : Gr} (hG : Good g) : canonG (moreG g) = canonG g := by
  have e : orderOf (moreG g) = orderOf g := by
    unfold orderOf
    rw [search_more hG]
    have : (moreG g).objs.length = g.objs.length + 1 := by simp [moreG]
    rw [this, searchN_stable g (searchN_ok hG g.objs.length).le 1]
  unfold canonG
  rw [e]
  simp only [Gr.mk.injEq]
  refine ⟨List.map_congr_left fun o ho => ?_, rfl⟩
  have hr := order_ok hG ho
  rw [fields_more hr.1 hr.2]

theorem check_more {g : Gr} (hc : checkG g = 0) (hn : g.objs.length < 24) : checkG (moreG g) = 0 := by
  have hG := good_of_check hc
  unfold checkG at hc
  by_cases hL : isLargeG g = true
  · rw [if_pos hL] at hc; simp at hc
  rw [if_neg hL] at hc
  by_cases h2 : (allV g).any (fun v => badV v g.objs.length == 2) = true
  · rw [if_pos h2] at hc; simp at hc
  rw [if_neg h2] at hc
  by_cases h3 : (allV g).any (fun v => badV v g.objs.length == 3) = true
  · rw [if_pos h3] at hc; simp at hc
  have h2 : (allV g).any (fun v => badV v g.objs.length == 2) = false := by simpa using h2
  have h3 : (allV g).any (fun v => badV v g.objs.length == 3) = false := by simpa using h3
  rw [List.any_eq_false] at h2 h3
  have hlen : (moreG g).objs.length = g.objs.length + 1 := by simp [moreG]
  have hall : ∀ v ∈ allV (moreG g), badV v (g.objs.length + 1) = 0 := by
    intro v hv
    have hv : v ∈ allV g ∨ v = (true, 0) := by
      unfold allV moreG at *
      simp only [List.flatten_append, List.flatten_cons, List.flatten_nil, List.append_nil, List.mem_append, List.mem_singleton] at hv ⊢
      rcases hv with hv | hv | hv
      · exact .inl (.inl hv)
      · exact .inl (.inr hv)
      · exact .inr hv
    rcases hv with hv | rfl
    · have a2 := h2 v hv
      have a3 := h3 v hv
      unfold badV at *
      by_cases h1 : v.1 = true
      · rw [if_pos h1] at a2 ⊢
        by_cases hb : v.2 < 0 ∨ (g.objs.length : Int) ≤ v.2
        · rw [if_pos hb] at a2; simp at a2
        · rw [if_neg (by omega)]
      · rw [if_neg h1] at a3 ⊢
        by_cases hb : v.2 < -4611686018427387904 ∨ 4611686018427387903 < v.2
        · rw [if_pos hb] at a3; simp at a3
        · rw [if_neg hb]
    · simp only [badV, if_true]; rw [if_neg (by omega)]
  unfold checkG
  rw [if_neg, if_neg, if_neg]
  · simp only [Bool.not_eq_true, List.any_eq_false]
    intro v hv; rw [hlen, hall v hv]; decide
  · simp only [Bool.not_eq_true, List.any_eq_false]
    intro v hv; rw [hlen, hall v hv]; decide
  · have h8 := hG.n8
    simp only [isLargeG, hlen, Bool.not_eq_true, Bool.or_eq_false_iff, decide_eq_false_iff_not, List.any_eq_false]
    refine ⟨⟨by omega, by simp only [moreG]; omega⟩, fun l hl => ?_⟩
    simp only [moreG, List.mem_append, List.mem_singleton] at hl
    rcases hl with hl | rfl
    · have := hG.n4 l hl; simpa using this
    · decide

end Go.Proofs.Ytmelhphhealomaa
