/- What is left of a graph does not hang on numbers: plain facts. -/
import Derived.Test.YtmelhphhealomaaXa
import Derived.Test.YtmelhphhealomaaWm
import Derived.Test.YtmelhphhealomaaRa
import Derived.Test.YtmelhphhealomaaXb
namespace Go.Proofs.Ytmelhphhealomaa
set_option linter.unusedSimpArgs false
set_option linter.unusedVariables false

/-- A graph with the objects of a list, numbered as they stand there. -/
def renL (g : Gr) (L : List Int) : Gr := { objs := L.map (fun o => (fieldsOf g o).map (renV L)), roots := g.roots.map (renV L) }

theorem canon_renL (g : Gr) : canonG g = renL g (orderOf g) := rfl

/-- A list that has all to which roots, and the fields of its own objects, refer. -/
structure Whole (g : Gr) (L : List Int) : Prop where
  nd : L.Nodup
  rng : ∀ o ∈ L, 0 ≤ o ∧ o < (g.objs.length : Int)
  roots : ∀ x ∈ refsL g.roots, x ∈ L
  fields : ∀ o ∈ L, ∀ x ∈ refsL (fieldsOf g o), x ∈ L

theorem whole_order {g : Gr} (h : Good g) : Whole g (orderOf g) :=
  ⟨order_nodup h, fun o ho => order_ok h ho, order_roots g, fun o ho => order_closed h ho⟩

theorem Whole.le {g : Gr} {L : List Int} (h : Whole g L) : L.length ≤ g.objs.length := nodup_length h.nd h.rng

theorem refs_ren {L : List Int} (hL : L.length ≤ 24) : ∀ (l : List V), RefsOk l → (∀ x ∈ refsL l, x ∈ L) → refsL (l.map (renV L)) = (refsL l).map (placeOf L)
  | [], _, _ => rfl
  | (false, n) :: xs, h, hm => by
    have e : refsL ((false, n) :: xs) = refsL xs := by simp [refsL, valsOf, obsOf, obOf]
    have ih := refs_ren hL xs (fun v hv => h v (List.mem_cons_of_mem _ hv)) (by rw [e] at hm; exact hm)
    rw [e, ← ih]
    simp [renV, refsL, valsOf, obsOf, obOf]
  | (true, n) :: xs, h, hm => by
    have hn := h (true, n) (by simp) rfl
    have e : refsL ((true, n) :: xs) = n :: refsL xs := by simp [refsL, valsOf, obsOf, obOf, hn]
    rw [e] at hm
    have ih := refs_ren hL xs (fun v hv => h v (List.mem_cons_of_mem _ hv)) (fun x hx => hm x (List.mem_cons_of_mem _ hx))
    have hp := placeOf_bounds (hm n (by simp))
    have hp2 : 0 ≤ placeOf L n ∧ placeOf L n < 24 := ⟨hp.1, by omega⟩
    have e2 : refsL ((true, placeOf L n) :: xs.map (renV L)) = placeOf L n :: refsL (xs.map (renV L)) := by simp [refsL, valsOf, obsOf, obOf, hp2]
    rw [e, List.map_cons, List.map_cons, ← ih, ← e2]
    simp [renV]

theorem mem_map_place {L O : List Int} (hO : ∀ x ∈ O, x ∈ L) {y : Int} (hy : y ∈ L) : placeOf L y ∈ O.map (placeOf L) ↔ y ∈ O := by
  constructor
  · intro h
    obtain ⟨x, hx, e⟩ := List.mem_map.1 h
    rw [← placeOf_inj (hO x hx) hy e]; exact hx
  · intro h
    exact List.mem_map_of_mem h

theorem findA_ren {L : List Int} (d : Int) : ∀ (xs : List Int) (st : List Int × List Int), (∀ x ∈ st.1, x ∈ L) → (∀ x ∈ xs, x ∈ L) →
    findA d (st.1.map (placeOf L), st.2) (xs.map (placeOf L)) = ((findA d st xs).1.map (placeOf L), (findA d st xs).2)
  | [], st, _, _ => rfl
  | x :: xs, st, hs, hx => by
    show findA d (findS d (st.1.map (placeOf L), st.2) (placeOf L x)) (xs.map (placeOf L)) = _
    have e : findS d (st.1.map (placeOf L), st.2) (placeOf L x) = ((findS d st x).1.map (placeOf L), (findS d st x).2) := by
      unfold findS
      by_cases hm : x ∈ st.1
      · rw [if_pos hm, if_pos ((mem_map_place hs (hx x (by simp))).2 hm)]
      · rw [if_neg hm, if_neg (fun h => hm ((mem_map_place hs (hx x (by simp))).1 h))]; simp
    rw [e]
    refine findA_ren d xs (findS d st x) ?_ (fun y hy => hx y (List.mem_cons_of_mem _ hy))
    unfold findS
    split
    · exact hs
    · intro y hy
      rcases List.mem_append.1 hy with hy | hy
      · exact hs y hy
      · simp at hy; subst hy; exact hx y (by simp)

theorem fields_ren {g : Gr} {L : List Int} {o : Int} (ho : o ∈ L) : fieldsOf (renL g L) (placeOf L o) = (fieldsOf g o).map (renV L) := by
  have h := placeOf_get ho
  unfold fieldsOf renL
  simp only [List.getElem?_map, h, Option.map_some, Option.getD_some]
  rfl

theorem search_sub {g : Gr} (hG : Good g) {L : List Int} (hL : Whole g L) : ∀ k, ∀ x ∈ (searchN g k).1, x ∈ L := by
  have hsub : ∀ (d : Int) (xs : List Int) (st : List Int × List Int), (∀ x ∈ st.1, x ∈ L) → (∀ x ∈ xs, x ∈ L) → ∀ x ∈ (findA d st xs).1, x ∈ L := by
    intro d xs
    induction xs with
    | nil => intro st h _; exact h
    | cons y ys ih =>
      intro st h hy
      refine ih (findS d st y) ?_ (fun x hx => hy x (List.mem_cons_of_mem _ hx))
      unfold findS
      split
      · exact h
      · intro x hx
        rcases List.mem_append.1 hx with hx | hx
        · exact h x hx
        · simp at hx; subst hx; exact hy x (by simp)
  intro k
  induction k with
  | zero => exact hsub 0 _ ([], []) (by simp) hL.roots
  | succ k ih =>
    rw [searchN_succ]
    cases ho : (searchN g k).1[k]? with
    | none => exact ih
    | some o => exact hsub _ _ _ ih (hL.fields o (ih o (List.mem_of_getElem? ho)))

theorem search_ren {g : Gr} (hG : Good g) {L : List Int} (hL : Whole g L) : ∀ k, searchN (renL g L) k = ((searchN g k).1.map (placeOf L), (searchN g k).2)
  | 0 => by
    have h24 : L.length ≤ 24 := by have := hL.le; have := hG.n24; omega
    show findA 0 ([], []) (refsL (g.roots.map (renV L))) = _
    rw [refs_ren h24 g.roots hG.refsRoots hL.roots]
    exact findA_ren 0 (refsL g.roots) ([], []) (by simp) hL.roots
  | k + 1 => by
    have h24 : L.length ≤ 24 := by have := hL.le; have := hG.n24; omega
    rw [searchN_succ, searchN_succ, search_ren hG hL k]
    simp only [List.getElem?_map]
    cases ho : (searchN g k).1[k]? with
    | none => rfl
    | some o =>
      have hs := search_sub hG hL k
      have hoL := hs o (List.mem_of_getElem? ho)
      have hr := hL.rng o hoL
      simp only [Option.map_some]
      rw [fields_ren hoL, refs_ren h24 _ (hG.refsObjs (fieldsOf_mem hr.1 hr.2)) (hL.fields o hoL)]
      exact findA_ren _ _ (searchN g k) hs (hL.fields o hoL)

theorem sub_length {l L : List Int} (hl : l.Nodup) (hs : ∀ x ∈ l, x ∈ L) : l.length ≤ L.length := by
  have h1 : (l.map (placeOf L)).Nodup := by
    rw [List.nodup_iff_pairwise_ne, List.pairwise_map]
    rw [List.nodup_iff_pairwise_ne] at hl
    exact hl.imp_of_mem (fun {a b} ha hb hab e => hab (placeOf_inj (hs a ha) (hs b hb) e))
  have h2 := nodup_length (N := L.length) h1 (by
    intro o ho
    obtain ⟨x, hx, rfl⟩ := List.mem_map.1 ho
    exact placeOf_bounds (hs x hx))
  simpa using h2

theorem search_whole {g : Gr} (hG : Good g) {L : List Int} (hL : Whole g L) : searchN g L.length = searchN g g.objs.length := by
  have h1 : (searchN g L.length).1.length ≤ L.length := by
    have hnd := (searchN_ok hG L.length).nd
    exact sub_length hnd (search_sub hG hL L.length)
  have h2 := (searchN_ok hG g.objs.length).le
  have e1 := searchN_stable g h1 g.objs.length
  have e2 := searchN_stable g h2 L.length
  rw [← e1, ← e2, Nat.add_comm]

theorem renL_len (g : Gr) (L : List Int) : (renL g L).objs.length = L.length := by simp [renL]

theorem order_ren {g : Gr} (hG : Good g) {L : List Int} (hL : Whole g L) : orderOf (renL g L) = (orderOf g).map (placeOf L) ∧ distOf (renL g L) = distOf g := by
  unfold orderOf distOf
  rw [renL_len, search_ren hG hL, search_whole hG hL]
  exact ⟨rfl, rfl⟩

theorem placeOf_map {L O : List Int} (hO : ∀ x ∈ O, x ∈ L) {x : Int} (hx : x ∈ O) : placeOf (O.map (placeOf L)) (placeOf L x) = placeOf O x := by
  unfold placeOf
  rw [if_pos hx, if_pos (show x ∈ L from hO x hx)]
  have hm : ((L.idxOf x : Nat) : Int) ∈ O.map (fun x => if x ∈ L then ((L.idxOf x : Nat) : Int) else 0) := List.mem_map.2 ⟨x, hx, by rw [if_pos (hO x hx)]⟩
  rw [if_pos hm]
  congr 1
  have h1 := List.idxOf_lt_length_iff.2 hx
  have h2 := List.getElem_idxOf h1
  refine idxOf_first (by simpa using h1) ?_ ?_
  · rw [List.getElem_map, h2, if_pos (hO x hx)]
  · rw [← List.map_take]
    intro h
    obtain ⟨y, hy, e⟩ := List.mem_map.1 h
    have hyO := List.mem_of_mem_take hy
    rw [if_pos (hO y hyO)] at e
    have e2 : y = x := placeOf_inj (order := L) (hO y hyO) (hO x hx) (by unfold placeOf; rw [if_pos (hO y hyO), if_pos (hO x hx)]; exact e)
    subst e2
    rw [List.mem_take_iff_getElem] at hy
    obtain ⟨j, hj, hj2⟩ := hy
    have h4 := List.not_of_lt_findIdx (p := (· == y)) (xs := O) (i := j) (show j < O.idxOf y by omega)
    simp [hj2] at h4

theorem renV_ren {L O : List Int} (hO : ∀ x ∈ O, x ∈ L) {v : V} (hv : v.1 = true → v.2 ∈ O) : renV (O.map (placeOf L)) (renV L v) = renV O v := by
  obtain ⟨r, n⟩ := v
  cases r
  · simp [renV]
  · have h := hv rfl
    simp only [renV, if_true]
    rw [placeOf_map hO h]

theorem map_renV_ren {L O : List Int} (hO : ∀ x ∈ O, x ∈ L) {l : List V} (hl : RefsOk l) (hm : ∀ x ∈ refsL l, x ∈ O) : (l.map (renV L)).map (renV (O.map (placeOf L))) = l.map (renV O) := by
  rw [List.map_map]
  refine List.map_congr_left fun v hv => ?_
  refine renV_ren hO fun h1 => hm _ ((mem_refsL hl _).2 ?_)
  obtain ⟨r, n⟩ := v
  simp only at h1
  subst h1
  exact hv

theorem canon_ren {g : Gr} (hG : Good g) {L : List Int} (hL : Whole g L) : canonG (renL g L) = canonG g := by
  have hO : ∀ x ∈ orderOf g, x ∈ L := search_sub hG hL _
  have e := (order_ren hG hL).1
  unfold canonG
  rw [e]
  simp only [Gr.mk.injEq]
  constructor
  · rw [List.map_map]
    refine List.map_congr_left fun o ho => ?_
    have hr := order_ok hG ho
    simp only [Function.comp]
    rw [fields_ren (hO o ho), map_renV_ren hO (hG.refsObjs (fieldsOf_mem hr.1 hr.2)) (order_closed hG ho)]
  · exact map_renV_ren hO hG.refsRoots (order_roots g)

theorem mem_refs_of {l : List V} {v : V} (hl : RefsOk l) (hv : v ∈ l) (h1 : v.1 = true) : v.2 ∈ refsL l := by
  refine (mem_refsL hl _).2 ?_
  obtain ⟨r, n⟩ := v
  simp only at h1
  subst h1
  exact hv

theorem check_ren {g : Gr} (hc : checkG g = 0) {L : List Int} (hL : Whole g L) : checkG (renL g L) = 0 := by
  have hG := good_of_check hc
  have hle := hL.le
  have h24 := hG.n24
  have h8 := hG.n8
  have hnum : ∀ v ∈ allV g, v.1 = false → -4611686018427387904 ≤ v.2 ∧ v.2 ≤ 4611686018427387903 := by
    intro v hv h1
    unfold checkG at hc
    by_cases hL : isLargeG g = true
    · rw [if_pos hL] at hc; simp at hc
    rw [if_neg hL] at hc
    by_cases h2 : (allV g).any (fun v => badV v g.objs.length == 2) = true
    · rw [if_pos h2] at hc; simp at hc
    rw [if_neg h2] at hc
    by_cases h3 : (allV g).any (fun v => badV v g.objs.length == 3) = true
    · rw [if_pos h3] at hc; simp at hc
    have h3 : (allV g).any (fun v => badV v g.objs.length == 3) = false := by simpa using h3
    rw [List.any_eq_false] at h3
    have := h3 v hv
    unfold badV at this
    rw [if_neg (by simp [h1])] at this
    by_cases hb : v.2 < -4611686018427387904 ∨ 4611686018427387903 < v.2
    · rw [if_pos hb] at this; simp at this
    · omega
  have hall : ∀ v ∈ allV (renL g L), badV v L.length = 0 := by
    have hone : ∀ (l : List V), RefsOk l → (∀ x ∈ refsL l, x ∈ L) → (∀ v ∈ l, v.1 = false → -4611686018427387904 ≤ v.2 ∧ v.2 ≤ 4611686018427387903) → ∀ v ∈ l.map (renV L), badV v L.length = 0 := by
      intro l hl hm hn v hv
      obtain ⟨u, hu, rfl⟩ := List.mem_map.1 hv
      obtain ⟨r, n⟩ := u
      cases r
      · have := hn _ hu rfl
        simp only [renV, badV, Bool.false_eq_true, if_false]
        rw [if_neg (by simp only at this; omega)]
      · have hp := placeOf_bounds (hm _ (mem_refs_of hl hu rfl))
        simp only [renV, badV, if_true]
        rw [if_neg (by simp only at hp; omega)]
    intro v hv
    unfold allV renL at hv
    rcases List.mem_append.1 hv with hv | hv
    · exact hone _ hG.refsRoots hL.roots (fun u hu => hnum u (by unfold allV; exact List.mem_append_left _ hu)) v hv
    · obtain ⟨l, hl, hv⟩ := List.mem_flatten.1 hv
      obtain ⟨o, ho, rfl⟩ := List.mem_map.1 hl
      have hr := hL.rng o ho
      have hf := fieldsOf_mem hr.1 hr.2
      exact hone _ (hG.refsObjs hf) (hL.fields o ho) (fun u hu => hnum u (by unfold allV; exact List.mem_append_right _ (List.mem_flatten.2 ⟨_, hf, hu⟩))) v hv
  unfold checkG
  rw [if_neg, if_neg, if_neg]
  · simp only [Bool.not_eq_true, List.any_eq_false]
    intro v hv; rw [renL_len, hall v hv]; decide
  · simp only [Bool.not_eq_true, List.any_eq_false]
    intro v hv; rw [renL_len, hall v hv]; decide
  · simp only [isLargeG, renL_len, Bool.not_eq_true, Bool.or_eq_false_iff, decide_eq_false_iff_not, List.any_eq_false]
    refine ⟨⟨by omega, by simp only [renL, List.length_map]; omega⟩, fun l hl => ?_⟩
    simp only [renL] at hl
    obtain ⟨o, ho, rfl⟩ := List.mem_map.1 hl
    have hr := hL.rng o ho
    have := hG.n4 _ (fieldsOf_mem hr.1 hr.2)
    simp only [List.length_map, decide_eq_true_eq]; omega

end Go.Proofs.Ytmelhphhealomaa
