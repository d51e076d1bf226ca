/- What the search finds: plain facts. -/
import Derived.Test.YtmelhphhealomaaWp
namespace Go.Proofs.Ytmelhphhealomaa
set_option linter.unusedSimpArgs false
set_option linter.unusedVariables false

/-- The numbers to which a list of values refers. -/
def refsL (l : List V) : List Int := valsOf (obsOf l)

theorem mem_refsL {l : List V} (h : RefsOk l) (o : Int) : o ∈ refsL l ↔ (true, o) ∈ l := by
  constructor
  · intro ho
    obtain ⟨v, hv, h1, rfl⟩ := obs_mem ho
    cases v; simp at h1; subst h1; exact hv
  · intro ho
    have hr := h _ ho rfl
    simp only [refsL, valsOf, obsOf, List.mem_map, List.mem_filterMap]
    exact ⟨⟨o, hr⟩, ⟨(true, o), ho, by simp [obOf, hr]⟩, rfl⟩

theorem refers_iff {l : List V} (h : RefsOk l) (o : Int) : refers l o = true ↔ o ∈ refsL l := by
  rw [mem_refsL h]
  simp only [refers, List.any_eq_true, Bool.and_eq_true, beq_iff_eq]
  constructor
  · rintro ⟨v, hv, h1, rfl⟩
    cases v; simp at h1; subst h1; exact hv
  · intro hm
    exact ⟨_, hm, rfl, rfl⟩

theorem findS_prefix (d : Int) (st : List Int × List Int) (o : Int) : st.1 <+: (findS d st o).1 ∧ st.2 <+: (findS d st o).2 := by
  unfold findS; split
  · exact ⟨List.prefix_refl _, List.prefix_refl _⟩
  · exact ⟨List.prefix_append _ _, List.prefix_append _ _⟩

theorem findA_prefix (d : Int) : ∀ (xs : List Int) (st : List Int × List Int), st.1 <+: (findA d st xs).1 ∧ st.2 <+: (findA d st xs).2
  | [], st => ⟨List.prefix_refl _, List.prefix_refl _⟩
  | x :: xs, st => by
    have h1 := findS_prefix d st x
    have h2 := findA_prefix d xs (findS d st x)
    exact ⟨h1.1.trans h2.1, h1.2.trans h2.2⟩

theorem findS_mem (d : Int) (st : List Int × List Int) (o : Int) : o ∈ (findS d st o).1 := by
  unfold findS; split
  · assumption
  · simp

theorem findA_mem (d : Int) : ∀ (xs : List Int) (st : List Int × List Int) (o : Int), o ∈ xs → o ∈ (findA d st xs).1
  | x :: xs, st, o, h => by
    rcases List.mem_cons.1 h with rfl | h
    · exact (findA_prefix d xs (findS d st o)).1.mem (findS_mem d st o)
    · exact findA_mem d xs (findS d st x) o h

/-- What stands behind what was there: new, one of xs, at distance d. -/
theorem findA_new (d : Int) : ∀ (xs : List Int) (st : List Int × List Int), st.2.length = st.1.length → ∀ (p : Nat) (o dp : Int), st.1.length ≤ p → (findA d st xs).1[p]? = some o → (findA d st xs).2[p]? = some dp → o ∈ xs ∧ dp = d ∧ o ∉ st.1
  | [], st, hl, p, o, dp, hp, h1, _ => by
    simp only [findA, List.foldl_nil] at h1
    rw [List.getElem?_eq_none (by omega)] at h1; cases h1
  | x :: xs, st, hl, p, o, dp, hp, h1, h2 => by
    have e : findA d st (x :: xs) = findA d (findS d st x) xs := rfl
    rw [e] at h1 h2
    by_cases hm : x ∈ st.1
    · have es : findS d st x = st := by rw [findS, if_pos hm]
      rw [es] at h1 h2
      obtain ⟨a, b, c⟩ := findA_new d xs st hl p o dp hp h1 h2
      exact ⟨by simp [a], b, c⟩
    · have es : findS d st x = (st.1 ++ [x], st.2 ++ [d]) := by rw [findS, if_neg hm]
      by_cases hpp : p = st.1.length
      · have pr := findA_prefix d xs (findS d st x)
        obtain ⟨t1, ht1⟩ := pr.1
        obtain ⟨t2, ht2⟩ := pr.2
        rw [← ht1, es] at h1
        rw [← ht2, es] at h2
        subst hpp
        simp at h1
        have h2' : ((st.2 ++ [d]) ++ t2)[st.2.length]? = some dp := by rw [hl]; exact h2
        simp at h2'
        subst h1 h2'
        exact ⟨by simp, rfl, hm⟩
      · obtain ⟨a, b, c⟩ := findA_new d xs (findS d st x) (by rw [es]; simp [hl]) p o dp (by rw [es]; simp; omega) h1 h2
        refine ⟨by simp [a], b, fun h => c ?_⟩
        rw [es]; simp [h]

theorem prefix_get {α : Type} {l l' : List α} (h : l <+: l') {k : Nat} {x : α} (hk : l[k]? = some x) : l'[k]? = some x := by
  obtain ⟨t, rfl⟩ := h
  rw [List.getElem?_append_left (List.getElem?_eq_some_iff.1 hk).1]; exact hk

theorem prefix_get' {α : Type} {l l' : List α} (h : l <+: l') {k : Nat} {x : α} (hk : l'[k]? = some x) (hlt : k < l.length) : l[k]? = some x := by
  obtain ⟨t, rfl⟩ := h
  rwa [List.getElem?_append_left hlt] at hk

/-- What holds behind k rounds of the search. -/
structure Bfs (g : Gr) (k : Nat) (st : List Int × List Int) : Prop where
  len : st.2.length = st.1.length
  mono : ∀ (i j : Nat) (di dj : Int), i ≤ j → st.2[i]? = some di → st.2[j]? = some dj → di ≤ dj
  front : ∀ (dk : Int), st.2[k]? = some dk → ∀ (j : Nat) (dj : Int), st.2[j]? = some dj → dj ≤ dk + 1
  cause : ∀ (p : Nat) (o dp : Int), st.1[p]? = some o → st.2[p]? = some dp → (o ∈ refsL g.roots ∧ dp = 0) ∨
    (o ∉ refsL g.roots ∧ ∃ (m : Nat) (om dm : Int), m < k ∧ st.1[m]? = some om ∧ st.2[m]? = some dm ∧ o ∈ refsL (fieldsOf g om) ∧ dp = dm + 1 ∧ ∀ (m' : Nat) (om' : Int), m' < m → st.1[m']? = some om' → o ∉ refsL (fieldsOf g om'))
  done : ∀ (m : Nat) (om : Int), m < k → st.1[m]? = some om → ∀ x ∈ refsL (fieldsOf g om), x ∈ st.1
  roots : ∀ x ∈ refsL g.roots, x ∈ st.1

theorem findA_lens (d : Int) : ∀ (xs : List Int) (st : List Int × List Int), st.2.length = st.1.length → (findA d st xs).2.length = (findA d st xs).1.length
  | [], st, h => h
  | x :: xs, st, h => by
    refine findA_lens d xs (findS d st x) ?_
    unfold findS; split
    · exact h
    · simp [h]

theorem bfs_start (g : Gr) : Bfs g 0 (searchN g 0) := by
  have hl : (searchN g 0).2.length = (searchN g 0).1.length := findA_lens 0 _ ([], []) rfl
  have hz : ∀ (p : Nat) (dp : Int), (searchN g 0).2[p]? = some dp → ∃ o, (searchN g 0).1[p]? = some o ∧ o ∈ refsL g.roots ∧ dp = 0 := by
    intro p dp h
    have hlt : p < (searchN g 0).1.length := by rw [← hl]; exact (List.getElem?_eq_some_iff.1 h).1
    obtain ⟨a, b, _⟩ := findA_new 0 (refsL g.roots) ([], []) rfl p (searchN g 0).1[p] dp (by simp) (List.getElem?_eq_getElem hlt) h
    exact ⟨_, List.getElem?_eq_getElem hlt, a, b⟩
  refine ⟨hl, ?_, ?_, ?_, ?_, ?_⟩
  · intro i j di dj _ hi hj
    obtain ⟨_, _, _, rfl⟩ := hz i di hi
    obtain ⟨_, _, _, rfl⟩ := hz j dj hj
    omega
  · intro dk hk j dj hj
    obtain ⟨_, _, _, rfl⟩ := hz 0 dk hk
    obtain ⟨_, _, _, rfl⟩ := hz j dj hj
    omega
  · intro p o dp hp hd
    obtain ⟨o', h1, h2, h3⟩ := hz p dp hd
    rw [hp] at h1
    injection h1 with h1
    subst h1
    exact .inl ⟨h2, h3⟩
  · intro m om hm; omega
  · intro x hx; exact findA_mem 0 _ _ x hx

theorem searchN_succ (g : Gr) (k : Nat) : searchN g (k + 1) = match (searchN g k).1[k]? with
    | none => searchN g k
    | some o => findA (((searchN g k).2[k]?).getD 0 + 1) (searchN g k) (refsL (fieldsOf g o)) := rfl

theorem bfs_step (g : Gr) (k : Nat) (h : Bfs g k (searchN g k)) : Bfs g (k + 1) (searchN g (k + 1)) := by
  rw [searchN_succ]
  generalize searchN g k = st at h
  cases hk : st.1[k]? with
  | none =>
    have hlen : st.1.length ≤ k := by
      rcases Nat.lt_or_ge k st.1.length with h' | h'
      · rw [List.getElem?_eq_getElem h'] at hk; cases hk
      · exact h'
    change Bfs g (k + 1) st
    refine ⟨h.len, h.mono, ?_, ?_, ?_, h.roots⟩
    · intro dk hd
      have := (List.getElem?_eq_some_iff.1 hd).1
      have := h.len
      omega
    · intro p o dp hp hd
      rcases h.cause p o dp hp hd with h' | ⟨h1, m, om, dm, hm, h2⟩
      · exact .inl h'
      · exact .inr ⟨h1, m, om, dm, by omega, h2⟩
    · intro m om hm ho
      have := (List.getElem?_eq_some_iff.1 ho).1
      exact h.done m om (by omega) ho
  | some o =>
    have hlt : k < st.1.length := (List.getElem?_eq_some_iff.1 hk).1
    have hlt2 : k < st.2.length := by rw [h.len]; exact hlt
    obtain ⟨dk, hdk⟩ : ∃ dk, st.2[k]? = some dk := ⟨_, List.getElem?_eq_getElem hlt2⟩
    simp only [hdk, Option.getD_some]
    have hpre := findA_prefix (dk + 1) (refsL (fieldsOf g o)) st
    have hnew := findA_new (dk + 1) (refsL (fieldsOf g o)) st h.len
    have hmem := findA_mem (dk + 1) (refsL (fieldsOf g o)) st
    have hl' := findA_lens (dk + 1) (refsL (fieldsOf g o)) st h.len
    generalize findA (dk + 1) st (refsL (fieldsOf g o)) = st' at hpre hnew hmem hl'
    have hval : ∀ (p : Nat) (dp : Int), st'.2[p]? = some dp → (p < st.1.length ∧ st.2[p]? = some dp) ∨ (st.1.length ≤ p ∧ dp = dk + 1) := by
      intro p dp hp
      by_cases hlt' : p < st.1.length
      · exact .inl ⟨hlt', prefix_get' hpre.2 hp (by rw [h.len]; exact hlt')⟩
      · have hlp : p < st'.1.length := by rw [← hl']; exact (List.getElem?_eq_some_iff.1 hp).1
        obtain ⟨_, b, _⟩ := hnew p st'.1[p] dp (by omega) (List.getElem?_eq_getElem hlp) hp
        exact .inr ⟨by omega, b⟩
    refine ⟨hl', ?_, ?_, ?_, ?_, ?_⟩
    · intro i j di dj hij hi hj
      rcases hval i di hi with ⟨a, b⟩ | ⟨a, rfl⟩
      · rcases hval j dj hj with ⟨c, d⟩ | ⟨c, rfl⟩
        · exact h.mono i j di dj hij b d
        · exact h.front dk hdk i di b
      · rcases hval j dj hj with ⟨c, d⟩ | ⟨c, rfl⟩
        · omega
        · omega
    · intro d1 hd1 j dj hj
      have hk1 : dk ≤ d1 := by
        rcases hval (k + 1) d1 hd1 with ⟨a, b⟩ | ⟨a, rfl⟩
        · exact h.mono k (k + 1) dk d1 (by omega) hdk b
        · omega
      rcases hval j dj hj with ⟨c, d⟩ | ⟨c, rfl⟩
      · have := h.front dk hdk j dj d; omega
      · omega
    · intro p x dp hp hd
      by_cases hlt' : p < st.1.length
      · have h1 := prefix_get' hpre.1 hp hlt'
        have h2 := prefix_get' hpre.2 hd (by rw [h.len]; exact hlt')
        rcases h.cause p x dp h1 h2 with h' | ⟨a, m, om, dm, hm, b, c, e, f, i⟩
        · exact .inl h'
        · refine .inr ⟨a, m, om, dm, by omega, prefix_get hpre.1 b, prefix_get hpre.2 c, e, f, ?_⟩
          intro m' om' hm' ho'
          exact i m' om' hm' (prefix_get' hpre.1 ho' (by omega))
      · obtain ⟨a, b, c⟩ := hnew p x dp (by omega) hp hd
        refine .inr ⟨fun hr => c (h.roots x hr), k, o, dk, by omega, prefix_get hpre.1 hk, prefix_get hpre.2 hdk, a, b, ?_⟩
        intro m' om' hm' ho' hx
        exact c (h.done m' om' hm' (prefix_get' hpre.1 ho' (by omega)) x hx)
    · intro m om hm ho x hx
      by_cases hmk : m = k
      · subst hmk
        have := prefix_get hpre.1 hk
        rw [ho] at this
        injection this with this
        subst this
        exact hmem x hx
      · exact hpre.1.mem (h.done m om (by omega) (prefix_get' hpre.1 ho (by omega)) x hx)
    · intro x hx; exact hpre.1.mem (h.roots x hx)

theorem bfs (g : Gr) : ∀ k, Bfs g k (searchN g k)
  | 0 => bfs_start g
  | k + 1 => bfs_step g k (bfs g k)

/-- What is found is closed. -/
theorem order_roots (g : Gr) : ∀ x ∈ refsL g.roots, x ∈ orderOf g := (bfs g g.objs.length).roots

theorem order_closed {g : Gr} (h : Good g) {o : Int} (ho : o ∈ orderOf g) : ∀ x ∈ refsL (fieldsOf g o), x ∈ orderOf g := by
  obtain ⟨m, hm, rfl⟩ := List.getElem_of_mem ho
  have hle := (searchN_ok h g.objs.length).le
  exact (bfs g g.objs.length).done m _ (by unfold orderOf at hm; omega) (List.getElem?_eq_getElem hm)

theorem order_ok {g : Gr} (h : Good g) {o : Int} (ho : o ∈ orderOf g) : 0 ≤ o ∧ o < g.objs.length := (searchN_ok h g.objs.length).rng o ho

theorem order_nodup {g : Gr} (h : Good g) : (orderOf g).Nodup := (searchN_ok h g.objs.length).nd

theorem fieldsOf_mem {g : Gr} {o : Int} (h0 : 0 ≤ o) (h1 : o < g.objs.length) : fieldsOf g o ∈ g.objs := by
  have hlt : o.toNat < g.objs.length := by omega
  unfold fieldsOf
  rw [List.getElem?_eq_getElem hlt, Option.getD_some]
  exact List.getElem_mem hlt

theorem placeOf_inj {order : List Int} {x y : Int} (hx : x ∈ order) (hy : y ∈ order) (h : placeOf order x = placeOf order y) : x = y := by
  unfold placeOf at h
  rw [if_pos hx, if_pos hy] at h
  have h' : order.idxOf x = order.idxOf y := by omega
  have hx' := List.getElem_idxOf (List.idxOf_lt_length_iff.2 hx)
  have hy' := List.getElem_idxOf (List.idxOf_lt_length_iff.2 hy)
  rw [← hx', ← hy']
  congr 1

theorem placeOf_bounds {order : List Int} {x : Int} (hx : x ∈ order) : 0 ≤ placeOf order x ∧ placeOf order x < order.length := by
  unfold placeOf
  rw [if_pos hx]
  have := List.idxOf_lt_length_iff.2 hx
  omega

theorem placeOf_get {order : List Int} {x : Int} (hx : x ∈ order) : order[(placeOf order x).toNat]? = some x := by
  unfold placeOf
  rw [if_pos hx, Int.toNat_natCast, List.getElem?_eq_getElem (List.idxOf_lt_length_iff.2 hx), List.getElem_idxOf (List.idxOf_lt_length_iff.2 hx)]

end Go.Proofs.Ytmelhphhealomaa
