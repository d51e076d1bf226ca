/- Two searches side by side: pairs go together just if what is left is one. -/
import Derived.Test.YtmelhphhealomaaXa
import Derived.Test.YtmelhphhealomaaRf
namespace Go.Proofs.Ytmelhphhealomaa
set_option linter.unusedSimpArgs false
set_option linter.unusedVariables false
open Go.RowKit

/-- One value more: what it refers to is found. -/
def ins (F : List Int) (x : V) : List Int := if x.1 = true then (if x.2 ∈ F then F else F ++ [x.2]) else F
def insA (F : List Int) (l : List V) : List Int := l.foldl ins F

theorem ins_prefix (F : List Int) (x : V) : F <+: ins F x := by
  unfold ins; split
  · split
    · exact List.prefix_refl _
    · exact List.prefix_append _ _
  · exact List.prefix_refl _

theorem insA_prefix : ∀ (l : List V) (F : List Int), F <+: insA F l
  | [], F => List.prefix_refl _
  | x :: xs, F => (ins_prefix F x).trans (insA_prefix xs (ins F x))

theorem ins_nodup {F : List Int} (h : F.Nodup) (x : V) : (ins F x).Nodup := by
  unfold ins; split
  · split
    · exact h
    · rename_i hx
      rw [List.nodup_append]; exact ⟨h, by simp, by intro a ha b hb; simp at hb; subst hb; exact fun e => hx (e ▸ ha)⟩
  · exact h

theorem ins_mem {F : List Int} {x : V} (h : x.1 = true) : x.2 ∈ ins F x := by
  unfold ins; rw [if_pos h]; split
  · assumption
  · simp

theorem idxOf_append_left {F G : List Int} {x : Int} (h : x ∈ F) : (F ++ G).idxOf x = F.idxOf x := by
  have h1 := List.idxOf_lt_length_iff.2 h
  refine idxOf_first (by simp; omega) ?_ ?_
  · rw [List.getElem_append_left h1]; exact List.getElem_idxOf h1
  · rw [List.take_append_of_le_length (by omega)]
    intro hm
    rw [List.mem_take_iff_getElem] at hm
    obtain ⟨j, hj, hj2⟩ := hm
    have h4 := List.not_of_lt_findIdx (p := (· == x)) (xs := F) (i := j) (show j < F.idxOf x by omega)
    simp [hj2] at h4

theorem placeOf_prefix {F G : List Int} (h : F <+: G) {x : Int} (hx : x ∈ F) : placeOf G x = placeOf F x := by
  obtain ⟨H, rfl⟩ := h
  unfold placeOf
  rw [if_pos hx, if_pos (by simp [hx]), idxOf_append_left hx]

theorem renV_prefix {F G : List Int} (h : F <+: G) {x : V} (hx : x.1 = true → x.2 ∈ F) : renV G x = renV F x := by
  unfold renV
  split
  · rename_i h1; rw [placeOf_prefix h (hx h1)]
  · rfl

theorem idxOf_ge {l : List Int} {x : Int} (h : x ∉ l) : (l ++ [x]).idxOf x = l.length :=
  idxOf_first (by simp) (by simp) (by rw [List.take_left' rfl]; exact h)

theorem pstep_iff {F T F' T' : List Int} {x y : V} (hl : F.length = T.length) (hT : T.Nodup) :
    pstep F T x y = some (F', T') ↔ F' = ins F x ∧ T' = ins T y ∧ renV F' x = renV T' y := by
  obtain ⟨rx, nx⟩ := x
  obtain ⟨ry, ny⟩ := y
  cases rx
  · cases ry
    · simp only [pstep, ins, renV, Bool.false_eq_true, false_and, if_false]
      by_cases e : nx = ny
      · subst e; simp [eq_comm]
      · simp [e]
    · simp [pstep, ins, renV]
  · cases ry
    · simp [pstep, ins, renV]
    · simp only [pstep, ins, renV, and_self, if_true]
      by_cases hx : nx ∈ F
      · by_cases hy : ny ∈ T
        · simp only [hx, hy, if_true]
          have hix := List.idxOf_lt_length_iff.2 hx
          have hiy := List.idxOf_lt_length_iff.2 hy
          have key : T[F.idxOf nx]? = some ny ↔ placeOf F nx = placeOf T ny := by
            unfold placeOf
            rw [if_pos hx, if_pos hy, List.getElem?_eq_getElem (by omega)]
            constructor
            · intro h
              injection h with h
              congr 1
              have h2 := List.getElem_idxOf hiy
              exact (List.getElem?_inj (show F.idxOf nx < T.length by omega) hT).1 (by rw [List.getElem?_eq_getElem (show F.idxOf nx < T.length by omega), List.getElem?_eq_getElem hiy, h, h2])
            · intro h
              have h : F.idxOf nx = T.idxOf ny := by omega
              simp only [h]
              rw [List.getElem_idxOf hiy]
          by_cases hk : T[F.idxOf nx]? = some ny
          · simp only [hk, if_true]
            constructor
            · intro h; injection h with h; injection h with h1 h2; subst h1 h2; exact ⟨rfl, rfl, by rw [key.1 hk]⟩
            · rintro ⟨rfl, rfl, _⟩; rfl
          · rw [if_neg hk]
            constructor
            · intro h; cases h
            · rintro ⟨rfl, rfl, h⟩; injection h with _ h; exact absurd (key.2 h) hk
        · simp only [hx, hy, if_true, if_false]
          constructor
          · intro h; cases h
          · rintro ⟨rfl, rfl, h⟩
            injection h with _ h
            unfold placeOf at h
            have hix := List.idxOf_lt_length_iff.2 hx
            rw [if_pos hx, if_pos (by simp), idxOf_ge hy] at h
            omega
      · by_cases hy : ny ∈ T
        · simp only [hx, hy, if_true, if_false]
          constructor
          · intro h; cases h
          · rintro ⟨rfl, rfl, h⟩
            injection h with _ h
            unfold placeOf at h
            have hiy := List.idxOf_lt_length_iff.2 hy
            rw [if_pos hy, if_pos (by simp), idxOf_ge hx] at h
            omega
        · simp only [hx, hy, if_false]
          constructor
          · intro h; injection h with h; injection h with h1 h2; subst h1 h2
            refine ⟨rfl, rfl, ?_⟩
            unfold placeOf
            rw [if_pos (by simp), if_pos (by simp), idxOf_ge hx, idxOf_ge hy, hl]
          · rintro ⟨rfl, rfl, _⟩; rfl

theorem pstep_len {F T F' T' : List Int} {x y : V} (hl : F.length = T.length) (h : pstep F T x y = some (F', T')) : F'.length = T'.length := by
  unfold pstep at h
  split at h
  · split at h
    · split at h
      · split at h
        · injection h with h; injection h with h1 h2; subst h1 h2; exact hl
        · cases h
      · cases h
    · split at h
      · cases h
      · injection h with h; injection h with h1 h2; subst h1 h2; simp [hl]
  · split at h
    · injection h with h; injection h with h1 h2; subst h1 h2; exact hl
    · cases h

theorem prun_iff : ∀ (la lb : List V) (F T F' T' : List Int), F.length = T.length → T.Nodup →
    (prun F T la lb = some (F', T') ↔ F' = insA F la ∧ T' = insA T lb ∧ la.map (renV F') = lb.map (renV T'))
  | [], [], F, T, F', T', hl, hT => by simp [prun, insA, eq_comm]
  | [], y :: ys, F, T, F', T', hl, hT => by simp [prun]
  | x :: xs, [], F, T, F', T', hl, hT => by simp [prun]
  | x :: xs, y :: ys, F, T, F', T', hl, hT => by
    simp only [prun, List.map_cons]
    constructor
    · intro h
      cases hs : pstep F T x y with
      | none => rw [hs] at h; cases h
      | some s =>
        obtain ⟨F1, T1⟩ := s
        rw [hs] at h
        have h1 := (pstep_iff hl hT).1 hs
        have h2 := pstep_len hl hs
        obtain ⟨rfl, rfl, h3⟩ := h1
        have h4 := (prun_iff xs ys _ _ F' T' h2 (ins_nodup hT y)).1 h
        obtain ⟨rfl, rfl, h5⟩ := h4
        refine ⟨rfl, rfl, ?_⟩
        rw [h5, renV_prefix (insA_prefix xs (ins F x)) (fun h => ins_mem h), renV_prefix (insA_prefix ys (ins T y)) (fun h => ins_mem h), h3]
    · rintro ⟨rfl, rfl, h⟩
      injection h with h1 h2
      change renV (insA (ins F x) xs) x = renV (insA (ins T y) ys) y at h1
      rw [renV_prefix (insA_prefix xs (ins F x)) (fun h => ins_mem h), renV_prefix (insA_prefix ys (ins T y)) (fun h => ins_mem h)] at h1
      have hs := (pstep_iff (F' := ins F x) (T' := ins T y) (x := x) (y := y) hl hT).2 ⟨rfl, rfl, h1⟩
      rw [hs]
      exact (prun_iff xs ys _ _ _ _ (pstep_len hl hs) (ins_nodup hT y)).2 ⟨rfl, rfl, h2⟩

theorem prun_len' : ∀ (la lb : List V) (F T F' T' : List Int), F.length = T.length → prun F T la lb = some (F', T') → F'.length = T'.length
  | [], [], F, T, F', T', hl, h => by simp only [prun] at h; injection h with h; injection h with h1 h2; subst h1 h2; exact hl
  | [], y :: ys, F, T, F', T', hl, h => by simp [prun] at h
  | x :: xs, [], F, T, F', T', hl, h => by simp [prun] at h
  | x :: xs, y :: ys, F, T, F', T', hl, h => by
    simp only [prun] at h
    cases hs : pstep F T x y with
    | none => rw [hs] at h; cases h
    | some s =>
      rw [hs] at h
      exact prun_len' xs ys _ _ _ _ (pstep_len hl hs) h

theorem insA_findA (d : Int) : ∀ (l : List V), RefsOk l → ∀ (st : List Int × List Int), (findA d st (refsL l)).1 = insA st.1 l
  | [], _, st => rfl
  | (false, n) :: xs, h, st => by
    have ih := insA_findA d xs (fun v hv => h v (List.mem_cons_of_mem _ hv)) st
    have e : refsL ((false, n) :: xs) = refsL xs := by simp [refsL, valsOf, obsOf, obOf]
    rw [e, ih]; simp [insA, ins]
  | (true, n) :: xs, h, st => by
    have hn := h (true, n) (by simp) rfl
    have ih := insA_findA d xs (fun v hv => h v (List.mem_cons_of_mem _ hv)) (findS d st n)
    have e : refsL ((true, n) :: xs) = n :: refsL xs := by simp [refsL, valsOf, obsOf, obOf, hn]
    rw [e]
    show (findA d (findS d st n) (refsL xs)).1 = _
    rw [ih]
    simp only [insA, List.foldl_cons]
    congr 1
    simp only [findS, ins, if_true]
    split <;> rfl

/-- Two graphs, side by side: k objects' fields are paired. -/
def sameN (a b : Gr) : Nat → Option (List Int × List Int)
  | 0 => prun [] [] a.roots b.roots
  | k + 1 => (sameN a b k).bind fun s => match s.1[k]?, s.2[k]? with
    | some x, some y => prun s.1 s.2 (fieldsOf a x) (fieldsOf b y)
    | _, _ => some s

theorem map_renV {F G : List Int} (h : F <+: G) {l : List V} (hl : RefsOk l) (hm : ∀ x ∈ refsL l, x ∈ F) : l.map (renV G) = l.map (renV F) := by
  refine List.map_congr_left fun v hv => renV_prefix h fun h1 => hm _ ((mem_refsL hl _).2 ?_)
  obtain ⟨r, n⟩ := v
  simp only at h1
  subst h1
  exact hv

theorem search_prefix (g : Gr) (k : Nat) : (searchN g k).1 <+: (searchN g (k + 1)).1 := by
  rw [searchN_succ]
  cases (searchN g k).1[k]? with
  | none => exact List.prefix_refl _
  | some o => exact (findA_prefix _ _ _).1

theorem search_prefix_le (g : Gr) {k m : Nat} (h : k ≤ m) : (searchN g k).1 <+: (searchN g m).1 := by
  induction m with
  | zero => obtain rfl : k = 0 := by omega
            exact List.prefix_refl _
  | succ m ih =>
    rcases Nat.lt_or_ge m k with h1 | h1
    · obtain rfl : k = m + 1 := by omega
      exact List.prefix_refl _
    · exact (ih h1).trans (search_prefix g m)

theorem search_stable {g : Gr} (h : Good g) {m : Nat} (hm : g.objs.length ≤ m) : searchN g m = searchN g g.objs.length := by
  induction m with
  | zero => rw [show g.objs.length = 0 by omega]
  | succ m ih =>
    rcases Nat.lt_or_ge m g.objs.length with h1 | h1
    · rw [show g.objs.length = m + 1 by omega]
    · rw [searchN_succ, ih h1, List.getElem?_eq_none (by have := (searchN_ok h g.objs.length).le; omega)]

theorem order_prefix {g : Gr} (h : Good g) (k : Nat) : (searchN g k).1 <+: orderOf g := by
  rcases Nat.le_total k g.objs.length with h1 | h1
  · exact search_prefix_le g h1
  · rw [search_stable h h1]; exact List.prefix_refl _

theorem fields_ok {g : Gr} (h : Good g) {o : Int} {k : Nat} (ho : o ∈ (searchN g k).1) : RefsOk (fieldsOf g o) := by
  have h1 := (searchN_ok h k).rng o ho
  exact h.refsObjs (fieldsOf_mem h1.1 h1.2)

theorem same_fwd {a b : Gr} (ha : Good a) (hb : Good b) : ∀ (k : Nat) (F T : List Int), sameN a b k = some (F, T) →
    F = (searchN a k).1 ∧ T = (searchN b k).1 ∧ F.length = T.length ∧ a.roots.map (renV F) = b.roots.map (renV T) ∧
      ∀ (i : Nat) (x y : Int), i < k → F[i]? = some x → T[i]? = some y → (fieldsOf a x).map (renV F) = (fieldsOf b y).map (renV T)
  | 0, F, T, h => by
    have h1 := (prun_iff a.roots b.roots [] [] F T rfl (by simp)).1 h
    have h2 := prun_len' _ _ _ _ _ _ rfl h
    obtain ⟨h3, h4, h5⟩ := h1
    exact ⟨by rw [h3]; exact (insA_findA 0 a.roots ha.refsRoots ([], [])).symm, by rw [h4]; exact (insA_findA 0 b.roots hb.refsRoots ([], [])).symm, h2, h5, fun i x y hi => by omega⟩
  | k + 1, F, T, h => by
    simp only [sameN] at h
    cases hs : sameN a b k with
    | none => rw [hs] at h; cases h
    | some s =>
      obtain ⟨F0, T0⟩ := s
      rw [hs] at h
      obtain ⟨e1, e2, e3, e4, e5⟩ := same_fwd ha hb k F0 T0 hs
      simp only [Option.bind_some] at h
      by_cases hk : k < F0.length
      · have hk2 : k < T0.length := by omega
        have g1 := List.getElem?_eq_getElem hk
        have g2 := List.getElem?_eq_getElem hk2
        rw [g1, g2] at h
        simp only at h
        generalize F0[k] = x at *
        generalize T0[k] = y at *
        have hT0 : T0.Nodup := by rw [e2]; exact (searchN_ok hb k).nd
        have h1 := (prun_iff _ _ F0 T0 F T e3 hT0).1 h
        have h2 := prun_len' _ _ _ _ _ _ e3 h
        obtain ⟨h3, h4, h5⟩ := h1
        have hxF : x ∈ (searchN a k).1 := by rw [← e1]; exact List.mem_of_getElem? g1
        have hyT : y ∈ (searchN b k).1 := by rw [← e2]; exact List.mem_of_getElem? g2
        have q1 : F = (searchN a (k + 1)).1 := by
          rw [searchN_succ, ← e1, g1]
          simp only
          rw [insA_findA _ _ (fields_ok ha hxF), ← e1, h3]
        have q2 : T = (searchN b (k + 1)).1 := by
          rw [searchN_succ, ← e2, g2]
          simp only
          rw [insA_findA _ _ (fields_ok hb hyT), ← e2, h4]
        have p1 : F0 <+: F := by rw [h3]; exact insA_prefix _ _
        have p2 : T0 <+: T := by rw [h4]; exact insA_prefix _ _
        refine ⟨q1, q2, h2, ?_, ?_⟩
        · rw [map_renV p1 ha.refsRoots (by rw [e1]; exact (bfs a k).roots), map_renV p2 hb.refsRoots (by rw [e2]; exact (bfs b k).roots)]; exact e4
        · intro i x' y' hi hx' hy'
          rcases Nat.lt_or_ge i k with hik | hik
          · have i1 : i < F0.length := by omega
            have i2 : i < T0.length := by omega
            have z1 := prefix_get' p1 hx' i1
            have z2 := prefix_get' p2 hy' i2
            have m1 : x' ∈ (searchN a k).1 := by rw [← e1]; exact List.mem_of_getElem? z1
            have m2 : y' ∈ (searchN b k).1 := by rw [← e2]; exact List.mem_of_getElem? z2
            rw [map_renV p1 (fields_ok ha m1) (by rw [e1]; exact (bfs a k).done i x' hik (by rw [← e1]; exact z1)), map_renV p2 (fields_ok hb m2) (by rw [e2]; exact (bfs b k).done i y' hik (by rw [← e2]; exact z2))]
            exact e5 i x' y' hik z1 z2
          · obtain rfl : i = k := by omega
            rw [prefix_get p1 g1] at hx'
            rw [prefix_get p2 g2] at hy'
            injection hx' with hx'
            injection hy' with hy'
            subst hx' hy'
            exact h5
      · have g1 : F0[k]? = none := List.getElem?_eq_none (by omega)
        have g2 : T0[k]? = none := List.getElem?_eq_none (by omega)
        rw [g1, g2] at h
        simp only at h
        injection h with h
        injection h with h1 h2
        subst h1 h2
        refine ⟨?_, ?_, e3, e4, ?_⟩
        · rw [searchN_succ, ← e1, g1]; exact e1
        · rw [searchN_succ, ← e2, g2]; exact e2
        · intro i x y hi hx hy
          have : i < F0.length := (List.getElem?_eq_some_iff.1 hx).1
          exact e5 i x y (by omega) hx hy

theorem same_bwd {a b : Gr} (ha : Good a) (hb : Good b) (hc : canonG a = canonG b) : ∀ (k : Nat), sameN a b k = some ((searchN a k).1, (searchN b k).1) ∧ (searchN a k).1.length = (searchN b k).1.length
  | 0 => by
    have hr : a.roots.map (renV (orderOf a)) = b.roots.map (renV (orderOf b)) := congrArg Gr.roots hc
    rw [map_renV (order_prefix ha 0) ha.refsRoots (bfs a 0).roots, map_renV (order_prefix hb 0) hb.refsRoots (bfs b 0).roots] at hr
    have h1 : sameN a b 0 = some ((searchN a 0).1, (searchN b 0).1) := (prun_iff a.roots b.roots [] [] _ _ rfl (by simp)).2 ⟨insA_findA 0 a.roots ha.refsRoots ([], []), insA_findA 0 b.roots hb.refsRoots ([], []), hr⟩
    exact ⟨h1, prun_len' _ _ _ _ _ _ rfl h1⟩
  | k + 1 => by
    obtain ⟨ih, il⟩ := same_bwd ha hb hc k
    have ho : (orderOf a).map (fun o => (fieldsOf a o).map (renV (orderOf a))) = (orderOf b).map (fun o => (fieldsOf b o).map (renV (orderOf b))) := congrArg Gr.objs hc
    have key : sameN a b (k + 1) = some ((searchN a (k + 1)).1, (searchN b (k + 1)).1) ∧ (searchN a (k + 1)).1.length = (searchN b (k + 1)).1.length := by
      simp only [sameN]
      rw [ih]
      simp only [Option.bind_some]
      by_cases hk : k < (searchN a k).1.length
      · have hk2 : k < (searchN b k).1.length := by omega
        have g1 := List.getElem?_eq_getElem hk
        have g2 := List.getElem?_eq_getElem hk2
        rw [g1, g2]
        generalize (searchN a k).1[k] = x at *
        generalize (searchN b k).1[k] = y at *
        simp only
        have hxF := List.mem_of_getElem? g1
        have hyT := List.mem_of_getElem? g2
        have q1 : (searchN a (k + 1)).1 = insA (searchN a k).1 (fieldsOf a x) := by
          rw [searchN_succ, g1]
          simp only
          rw [insA_findA _ _ (fields_ok ha hxF)]
        have q2 : (searchN b (k + 1)).1 = insA (searchN b k).1 (fieldsOf b y) := by
          rw [searchN_succ, g2]
          simp only
          rw [insA_findA _ _ (fields_ok hb hyT)]
        have s1 := (bfs a (k + 1)).done k x (by omega) (prefix_get (search_prefix a k) g1)
        have s2 := (bfs b (k + 1)).done k y (by omega) (prefix_get (search_prefix b k) g2)
        have o1 := prefix_get (order_prefix ha k) g1
        have o2 := prefix_get (order_prefix hb k) g2
        have hk3 := congrArg (fun l => l[k]?) ho
        simp only [List.getElem?_map, o1, o2, Option.map_some] at hk3
        injection hk3 with hk3
        rw [map_renV (order_prefix ha (k + 1)) (fields_ok ha hxF) s1, map_renV (order_prefix hb (k + 1)) (fields_ok hb hyT) s2] at hk3
        have h1 := (prun_iff (fieldsOf a x) (fieldsOf b y) _ _ _ _ il (searchN_ok hb k).nd).2 ⟨q1, q2, hk3⟩
        exact ⟨h1, prun_len' _ _ _ _ _ _ il h1⟩
      · have g1 : (searchN a k).1[k]? = none := List.getElem?_eq_none (by omega)
        have g2 : (searchN b k).1[k]? = none := List.getElem?_eq_none (by omega)
        rw [searchN_succ, searchN_succ, g1, g2]
        exact ⟨rfl, il⟩
    exact key

theorem same_iff {a b : Gr} (ha : Good a) (hb : Good b) : (sameN a b 24).isSome = true ↔ canonG a = canonG b := by
  constructor
  · intro h
    obtain ⟨⟨F, T⟩, hs⟩ := Option.isSome_iff_exists.1 h
    obtain ⟨e1, e2, e3, e4, e5⟩ := same_fwd ha hb 24 F T hs
    rw [search_stable ha ha.n24] at e1
    rw [search_stable hb hb.n24] at e2
    have e1 : F = orderOf a := e1
    have e2 : T = orderOf b := e2
    subst e1 e2
    have hla := (searchN_ok ha a.objs.length).le
    have hlb := (searchN_ok hb b.objs.length).le
    have na := ha.n24
    simp only [canonG, Gr.mk.injEq]
    refine ⟨?_, e4⟩
    apply List.ext_getElem?
    intro i
    simp only [List.getElem?_map]
    by_cases hi : i < (orderOf a).length
    · have hi2 : i < (orderOf b).length := by omega
      have g1 := List.getElem?_eq_getElem hi
      have g2 := List.getElem?_eq_getElem hi2
      rw [g1, g2, Option.map_some, Option.map_some]
      rw [e5 i _ _ (by unfold orderOf at hi; omega) g1 g2]
    · rw [List.getElem?_eq_none (by omega), List.getElem?_eq_none (by omega)]; rfl
  · intro h
    rw [(same_bwd ha hb h 24).1]; rfl

theorem sameN_none {a b : Gr} {k m : Nat} (h : sameN a b k = none) (hm : k ≤ m) : sameN a b m = none := by
  induction m with
  | zero => obtain rfl : k = 0 := by omega
            exact h
  | succ m ih =>
    rcases Nat.lt_or_ge m k with h1 | h1
    · obtain rfl : k = m + 1 := by omega
      exact h
    · simp only [sameN]; rw [ih h1]; rfl

theorem sameN_stay {a b : Gr} {k m : Nat} {F T : List Int} (h : sameN a b k = some (F, T)) (hl : F.length ≤ k) (hm : k ≤ m) : sameN a b m = some (F, T) := by
  induction m with
  | zero => obtain rfl : k = 0 := by omega
            exact h
  | succ m ih =>
    rcases Nat.lt_or_ge m k with h1 | h1
    · obtain rfl : k = m + 1 := by omega
      exact h
    · simp only [sameN]; rw [ih h1]; simp only [Option.bind_some]
      rw [List.getElem?_eq_none (show F.length ≤ m by omega)]

end Go.Proofs.Ytmelhphhealomaa
