/- Merged texts: Xa Pa Da Ib Db Ic Ha Ia Hc Wv Wz Kd Dc. -/
import Derived.Test.YthpmckfgngkbhaaProg
import Derived.Test.YthpmckfgngkbhaaDomTellsA
import Derived.OneCell
import Derived.Laws.OwnMore
import Derived.Orders
import Derived.Maps.AppendAt
import Derived.StillTailTactics
import Derived.OrdersIn
import Derived.TacticsIn
import Derived.RangeFuncCalls

/- What the search finds: plain facts. -/
namespace Go.Proofs.Ythpmckfgngkbhaa
set_option linter.unusedSimpArgs false
set_option linter.unusedVariables false

/-- The numbers to which a list of values refers. -/
def refsL (l : List V) : List Int := valsOf (obsOf l)

theorem mem_refsL {l : List V} (h : RefsOk l) (o : Int) : o ∈ refsL l ↔ (true, o) ∈ l := by
  constructor
  · intro ho
    obtain ⟨v, hv, h1, rfl⟩ := obs_mem ho
    cases v; simp at h1; subst h1; exact hv
  · intro ho
    have hr := h _ ho rfl
    simp only [refsL, valsOf, obsOf, List.mem_map, List.mem_filterMap]
    exact ⟨⟨o, hr⟩, ⟨(true, o), ho, by simp [obOf, hr]⟩, rfl⟩

theorem refers_iff {l : List V} (h : RefsOk l) (o : Int) : refers l o = true ↔ o ∈ refsL l := by
  rw [mem_refsL h]
  simp only [refers, List.any_eq_true, Bool.and_eq_true, beq_iff_eq]
  constructor
  · rintro ⟨v, hv, h1, rfl⟩
    cases v; simp at h1; subst h1; exact hv
  · intro hm
    exact ⟨_, hm, rfl, rfl⟩

theorem findS_prefix (d : Int) (st : List Int × List Int) (o : Int) : st.1 <+: (findS d st o).1 ∧ st.2 <+: (findS d st o).2 := by
  unfold findS; split
  · exact ⟨List.prefix_refl _, List.prefix_refl _⟩
  · exact ⟨List.prefix_append _ _, List.prefix_append _ _⟩

theorem findA_prefix (d : Int) : ∀ (xs : List Int) (st : List Int × List Int), st.1 <+: (findA d st xs).1 ∧ st.2 <+: (findA d st xs).2
  | [], st => ⟨List.prefix_refl _, List.prefix_refl _⟩
  | x :: xs, st => by
    have h1 := findS_prefix d st x
    have h2 := findA_prefix d xs (findS d st x)
    exact ⟨h1.1.trans h2.1, h1.2.trans h2.2⟩

theorem findS_mem (d : Int) (st : List Int × List Int) (o : Int) : o ∈ (findS d st o).1 := by
  unfold findS; split
  · assumption
  · simp

theorem findA_mem (d : Int) : ∀ (xs : List Int) (st : List Int × List Int) (o : Int), o ∈ xs → o ∈ (findA d st xs).1
  | x :: xs, st, o, h => by
    rcases List.mem_cons.1 h with rfl | h
    · exact (findA_prefix d xs (findS d st o)).1.mem (findS_mem d st o)
    · exact findA_mem d xs (findS d st x) o h

/-- What stands behind what was there: new, one of xs, at distance d. -/
theorem findA_new (d : Int) : ∀ (xs : List Int) (st : List Int × List Int), st.2.length = st.1.length → ∀ (p : Nat) (o dp : Int), st.1.length ≤ p → (findA d st xs).1[p]? = some o → (findA d st xs).2[p]? = some dp → o ∈ xs ∧ dp = d ∧ o ∉ st.1
  | [], st, hl, p, o, dp, hp, h1, _ => by
    simp only [findA, List.foldl_nil] at h1
    rw [List.getElem?_eq_none (by omega)] at h1; cases h1
  | x :: xs, st, hl, p, o, dp, hp, h1, h2 => by
    have e : findA d st (x :: xs) = findA d (findS d st x) xs := rfl
    rw [e] at h1 h2
    by_cases hm : x ∈ st.1
    · have es : findS d st x = st := by rw [findS, if_pos hm]
      rw [es] at h1 h2
      obtain ⟨a, b, c⟩ := findA_new d xs st hl p o dp hp h1 h2
      exact ⟨by simp [a], b, c⟩
    · have es : findS d st x = (st.1 ++ [x], st.2 ++ [d]) := by rw [findS, if_neg hm]
      by_cases hpp : p = st.1.length
      · have pr := findA_prefix d xs (findS d st x)
        obtain ⟨t1, ht1⟩ := pr.1
        obtain ⟨t2, ht2⟩ := pr.2
        rw [← ht1, es] at h1
        rw [← ht2, es] at h2
        subst hpp
        simp at h1
        have h2' : ((st.2 ++ [d]) ++ t2)[st.2.length]? = some dp := by rw [hl]; exact h2
        simp at h2'
        subst h1 h2'
        exact ⟨by simp, rfl, hm⟩
      · obtain ⟨a, b, c⟩ := findA_new d xs (findS d st x) (by rw [es]; simp [hl]) p o dp (by rw [es]; simp; omega) h1 h2
        refine ⟨by simp [a], b, fun h => c ?_⟩
        rw [es]; simp [h]

theorem prefix_get {α : Type} {l l' : List α} (h : l <+: l') {k : Nat} {x : α} (hk : l[k]? = some x) : l'[k]? = some x := by
  obtain ⟨t, rfl⟩ := h
  rw [List.getElem?_append_left (List.getElem?_eq_some_iff.1 hk).1]; exact hk

theorem prefix_get' {α : Type} {l l' : List α} (h : l <+: l') {k : Nat} {x : α} (hk : l'[k]? = some x) (hlt : k < l.length) : l[k]? = some x := by
  obtain ⟨t, rfl⟩ := h
  rwa [List.getElem?_append_left hlt] at hk

/-- What holds behind k rounds of the search. -/
structure Bfs (g : Gr) (k : Nat) (st : List Int × List Int) : Prop where
  len : st.2.length = st.1.length
  mono : ∀ (i j : Nat) (di dj : Int), i ≤ j → st.2[i]? = some di → st.2[j]? = some dj → di ≤ dj
  front : ∀ (dk : Int), st.2[k]? = some dk → ∀ (j : Nat) (dj : Int), st.2[j]? = some dj → dj ≤ dk + 1
  cause : ∀ (p : Nat) (o dp : Int), st.1[p]? = some o → st.2[p]? = some dp → (o ∈ refsL g.roots ∧ dp = 0) ∨
    (o ∉ refsL g.roots ∧ ∃ (m : Nat) (om dm : Int), m < k ∧ st.1[m]? = some om ∧ st.2[m]? = some dm ∧ o ∈ refsL (fieldsOf g om) ∧ dp = dm + 1 ∧ ∀ (m' : Nat) (om' : Int), m' < m → st.1[m']? = some om' → o ∉ refsL (fieldsOf g om'))
  done : ∀ (m : Nat) (om : Int), m < k → st.1[m]? = some om → ∀ x ∈ refsL (fieldsOf g om), x ∈ st.1
  roots : ∀ x ∈ refsL g.roots, x ∈ st.1

theorem findA_lens (d : Int) : ∀ (xs : List Int) (st : List Int × List Int), st.2.length = st.1.length → (findA d st xs).2.length = (findA d st xs).1.length
  | [], st, h => h
  | x :: xs, st, h => by
    refine findA_lens d xs (findS d st x) ?_
    unfold findS; split
    · exact h
    · simp [h]

theorem bfs_start (g : Gr) : Bfs g 0 (searchN g 0) := by
  have hl : (searchN g 0).2.length = (searchN g 0).1.length := findA_lens 0 _ ([], []) rfl
  have hz : ∀ (p : Nat) (dp : Int), (searchN g 0).2[p]? = some dp → ∃ o, (searchN g 0).1[p]? = some o ∧ o ∈ refsL g.roots ∧ dp = 0 := by
    intro p dp h
    have hlt : p < (searchN g 0).1.length := by rw [← hl]; exact (List.getElem?_eq_some_iff.1 h).1
    obtain ⟨a, b, _⟩ := findA_new 0 (refsL g.roots) ([], []) rfl p (searchN g 0).1[p] dp (by simp) (List.getElem?_eq_getElem hlt) h
    exact ⟨_, List.getElem?_eq_getElem hlt, a, b⟩
  refine ⟨hl, ?_, ?_, ?_, ?_, ?_⟩
  · intro i j di dj _ hi hj
    obtain ⟨_, _, _, rfl⟩ := hz i di hi
    obtain ⟨_, _, _, rfl⟩ := hz j dj hj
    omega
  · intro dk hk j dj hj
    obtain ⟨_, _, _, rfl⟩ := hz 0 dk hk
    obtain ⟨_, _, _, rfl⟩ := hz j dj hj
    omega
  · intro p o dp hp hd
    obtain ⟨o', h1, h2, h3⟩ := hz p dp hd
    rw [hp] at h1
    injection h1 with h1
    subst h1
    exact .inl ⟨h2, h3⟩
  · intro m om hm; omega
  · intro x hx; exact findA_mem 0 _ _ x hx

theorem searchN_succ (g : Gr) (k : Nat) : searchN g (k + 1) = match (searchN g k).1[k]? with
    | none => searchN g k
    | some o => findA (((searchN g k).2[k]?).getD 0 + 1) (searchN g k) (refsL (fieldsOf g o)) := rfl

theorem bfs_step (g : Gr) (k : Nat) (h : Bfs g k (searchN g k)) : Bfs g (k + 1) (searchN g (k + 1)) := by
  rw [searchN_succ]
  generalize searchN g k = st at h
  cases hk : st.1[k]? with
  | none =>
    have hlen : st.1.length ≤ k := by
      rcases Nat.lt_or_ge k st.1.length with h' | h'
      · rw [List.getElem?_eq_getElem h'] at hk; cases hk
      · exact h'
    change Bfs g (k + 1) st
    refine ⟨h.len, h.mono, ?_, ?_, ?_, h.roots⟩
    · intro dk hd
      have := (List.getElem?_eq_some_iff.1 hd).1
      have := h.len
      omega
    · intro p o dp hp hd
      rcases h.cause p o dp hp hd with h' | ⟨h1, m, om, dm, hm, h2⟩
      · exact .inl h'
      · exact .inr ⟨h1, m, om, dm, by omega, h2⟩
    · intro m om hm ho
      have := (List.getElem?_eq_some_iff.1 ho).1
      exact h.done m om (by omega) ho
  | some o =>
    have hlt : k < st.1.length := (List.getElem?_eq_some_iff.1 hk).1
    have hlt2 : k < st.2.length := by rw [h.len]; exact hlt
    obtain ⟨dk, hdk⟩ : ∃ dk, st.2[k]? = some dk := ⟨_, List.getElem?_eq_getElem hlt2⟩
    simp only [hdk, Option.getD_some]
    have hpre := findA_prefix (dk + 1) (refsL (fieldsOf g o)) st
    have hnew := findA_new (dk + 1) (refsL (fieldsOf g o)) st h.len
    have hmem := findA_mem (dk + 1) (refsL (fieldsOf g o)) st
    have hl' := findA_lens (dk + 1) (refsL (fieldsOf g o)) st h.len
    generalize findA (dk + 1) st (refsL (fieldsOf g o)) = st' at hpre hnew hmem hl'
    have hval : ∀ (p : Nat) (dp : Int), st'.2[p]? = some dp → (p < st.1.length ∧ st.2[p]? = some dp) ∨ (st.1.length ≤ p ∧ dp = dk + 1) := by
      intro p dp hp
      by_cases hlt' : p < st.1.length
      · exact .inl ⟨hlt', prefix_get' hpre.2 hp (by rw [h.len]; exact hlt')⟩
      · have hlp : p < st'.1.length := by rw [← hl']; exact (List.getElem?_eq_some_iff.1 hp).1
        obtain ⟨_, b, _⟩ := hnew p st'.1[p] dp (by omega) (List.getElem?_eq_getElem hlp) hp
        exact .inr ⟨by omega, b⟩
    refine ⟨hl', ?_, ?_, ?_, ?_, ?_⟩
    · intro i j di dj hij hi hj
      rcases hval i di hi with ⟨a, b⟩ | ⟨a, rfl⟩
      · rcases hval j dj hj with ⟨c, d⟩ | ⟨c, rfl⟩
        · exact h.mono i j di dj hij b d
        · exact h.front dk hdk i di b
      · rcases hval j dj hj with ⟨c, d⟩ | ⟨c, rfl⟩
        · omega
        · omega
    · intro d1 hd1 j dj hj
      have hk1 : dk ≤ d1 := by
        rcases hval (k + 1) d1 hd1 with ⟨a, b⟩ | ⟨a, rfl⟩
        · exact h.mono k (k + 1) dk d1 (by omega) hdk b
        · omega
      rcases hval j dj hj with ⟨c, d⟩ | ⟨c, rfl⟩
      · have := h.front dk hdk j dj d; omega
      · omega
    · intro p x dp hp hd
      by_cases hlt' : p < st.1.length
      · have h1 := prefix_get' hpre.1 hp hlt'
        have h2 := prefix_get' hpre.2 hd (by rw [h.len]; exact hlt')
        rcases h.cause p x dp h1 h2 with h' | ⟨a, m, om, dm, hm, b, c, e, f, i⟩
        · exact .inl h'
        · refine .inr ⟨a, m, om, dm, by omega, prefix_get hpre.1 b, prefix_get hpre.2 c, e, f, ?_⟩
          intro m' om' hm' ho'
          exact i m' om' hm' (prefix_get' hpre.1 ho' (by omega))
      · obtain ⟨a, b, c⟩ := hnew p x dp (by omega) hp hd
        refine .inr ⟨fun hr => c (h.roots x hr), k, o, dk, by omega, prefix_get hpre.1 hk, prefix_get hpre.2 hdk, a, b, ?_⟩
        intro m' om' hm' ho' hx
        exact c (h.done m' om' hm' (prefix_get' hpre.1 ho' (by omega)) x hx)
    · intro m om hm ho x hx
      by_cases hmk : m = k
      · subst hmk
        have := prefix_get hpre.1 hk
        rw [ho] at this
        injection this with this
        subst this
        exact hmem x hx
      · exact hpre.1.mem (h.done m om (by omega) (prefix_get' hpre.1 ho (by omega)) x hx)
    · intro x hx; exact hpre.1.mem (h.roots x hx)

theorem bfs (g : Gr) : ∀ k, Bfs g k (searchN g k)
  | 0 => bfs_start g
  | k + 1 => bfs_step g k (bfs g k)

/-- What is found is closed. -/
theorem order_roots (g : Gr) : ∀ x ∈ refsL g.roots, x ∈ orderOf g := (bfs g g.objs.length).roots

theorem order_closed {g : Gr} (h : Good g) {o : Int} (ho : o ∈ orderOf g) : ∀ x ∈ refsL (fieldsOf g o), x ∈ orderOf g := by
  obtain ⟨m, hm, rfl⟩ := List.getElem_of_mem ho
  have hle := (searchN_ok h g.objs.length).le
  exact (bfs g g.objs.length).done m _ (by unfold orderOf at hm; omega) (List.getElem?_eq_getElem hm)

theorem order_ok {g : Gr} (h : Good g) {o : Int} (ho : o ∈ orderOf g) : 0 ≤ o ∧ o < g.objs.length := (searchN_ok h g.objs.length).rng o ho

theorem order_nodup {g : Gr} (h : Good g) : (orderOf g).Nodup := (searchN_ok h g.objs.length).nd

theorem fieldsOf_mem {g : Gr} {o : Int} (h0 : 0 ≤ o) (h1 : o < g.objs.length) : fieldsOf g o ∈ g.objs := by
  have hlt : o.toNat < g.objs.length := by omega
  unfold fieldsOf
  rw [List.getElem?_eq_getElem hlt, Option.getD_some]
  exact List.getElem_mem hlt

theorem placeOf_inj {order : List Int} {x y : Int} (hx : x ∈ order) (hy : y ∈ order) (h : placeOf order x = placeOf order y) : x = y := by
  unfold placeOf at h
  rw [if_pos hx, if_pos hy] at h
  have h' : order.idxOf x = order.idxOf y := by omega
  have hx' := List.getElem_idxOf (List.idxOf_lt_length_iff.2 hx)
  have hy' := List.getElem_idxOf (List.idxOf_lt_length_iff.2 hy)
  rw [← hx', ← hy']
  congr 1

theorem placeOf_bounds {order : List Int} {x : Int} (hx : x ∈ order) : 0 ≤ placeOf order x ∧ placeOf order x < order.length := by
  unfold placeOf
  rw [if_pos hx]
  have := List.idxOf_lt_length_iff.2 hx
  omega

theorem placeOf_get {order : List Int} {x : Int} (hx : x ∈ order) : order[(placeOf order x).toNat]? = some x := by
  unfold placeOf
  rw [if_pos hx, Int.toNat_natCast, List.getElem?_eq_getElem (List.idxOf_lt_length_iff.2 hx), List.getElem_idxOf (List.idxOf_lt_length_iff.2 hx)]

end Go.Proofs.Ythpmckfgngkbhaa

/- Plain: sorted lists; what is closed. -/
namespace Go.Proofs.Ythpmckfgngkbhaa
set_option linter.unusedSimpArgs false
set_option linter.unusedVariables false
open Go.RowKit

def sortL (l : List Int) : List Int := l.mergeSort fun x y => decide (x ≤ y)

theorem sortL_len (l : List Int) : (sortL l).length = l.length := List.length_mergeSort l
theorem sortL_mem (l : List Int) (x : Int) : x ∈ sortL l ↔ x ∈ l := List.mem_mergeSort
theorem sortL_perm (l : List Int) : (sortL l).Perm l := List.mergeSort_perm l _
theorem sortL_sorted (l : List Int) : (sortL l).Pairwise (· ≤ ·) := by
  have h := List.pairwise_mergeSort (le := fun x y : Int => decide (x ≤ y)) (by intro a b c; simp; omega) (by intro a b; simp; omega) l
  exact h.imp (by simp)


/-- A value refers to nothing outside of a list. -/
def okV (l : List Int) (v : V) : Bool := !v.1 || decide (v.2 ∈ l)
def closedB (g : Gr) (l : List Int) : Bool := g.roots.all (okV l) && l.all fun o => (fieldsOf g o).all (okV l)

theorem all_take {α : Type} {p : α → Bool} {l : List α} {k : Nat} (hk : k < l.length) (h : (l.take k).all p = true) (hp : p l[k] = true) : (l.take (k + 1)).all p = true := by
  rw [List.take_succ_eq_append_getElem hk, List.all_append, h]; simp [hp]

theorem all_not {α : Type} {p : α → Bool} {l : List α} {k : Nat} (hk : k < l.length) (hp : p l[k] = false) : l.all p = false := by
  rw [List.all_eq_false]; exact ⟨_, List.getElem_mem hk, by simp [hp]⟩


theorem sortL_nodup {l : List Int} (h : l.Nodup) : (sortL l).Nodup := (sortL_perm l).nodup_iff.2 h

theorem sortL_rises {l : List Int} (h : l.Nodup) : ∀ (i j : Nat) (x y : Int), i + 1 = j → (sortL l)[i]? = some x → (sortL l)[j]? = some y → x < y := by
  intro i j x y hij hx hy
  have h1 := sortL_sorted l
  have h2 := sortL_nodup h
  rw [List.nodup_iff_pairwise_ne] at h2
  rw [List.pairwise_iff_getElem] at h1 h2
  obtain ⟨hi, rfl⟩ := List.getElem?_eq_some_iff.1 hx
  obtain ⟨hj, rfl⟩ := List.getElem?_eq_some_iff.1 hy
  have := h1 i j hi hj (by omega)
  have := h2 i j hi hj (by omega)
  omega

theorem okV_all {l : List Int} {fs : List V} (h : RefsOk fs) : fs.all (okV l) = true ↔ ∀ x ∈ refsL fs, x ∈ l := by
  rw [List.all_eq_true]
  constructor
  · intro h1 x hx
    have := h1 _ ((mem_refsL h x).1 hx)
    simpa [okV] using this
  · rintro h1 ⟨r, n⟩ hv
    cases r
    · rfl
    · have := h1 n ((mem_refsL h n).2 hv)
      simp [okV, this]

theorem closed_order {g : Gr} (h : Good g) : closedB g (sortL (orderOf g)) = true := by
  unfold closedB
  rw [Bool.and_eq_true]
  refine ⟨(okV_all h.refsRoots).2 (fun x hx => (sortL_mem _ _).2 (order_roots g x hx)), List.all_eq_true.2 fun o ho => ?_⟩
  have ho := (sortL_mem _ _).1 ho
  have hr := order_ok h ho
  exact (okV_all (h.refsObjs (fieldsOf_mem hr.1 hr.2))).2 (fun x hx => (sortL_mem _ _).2 (order_closed h ho x hx))

theorem findA_sub (d : Int) (l : List Int) : ∀ (xs : List Int) (st : List Int × List Int), (∀ x ∈ st.1, x ∈ l) → (∀ x ∈ xs, x ∈ l) → ∀ x ∈ (findA d st xs).1, x ∈ l
  | [], st, h, _ => h
  | y :: ys, st, h, hy => by
    refine findA_sub d l ys (findS d st y) ?_ (fun x hx => hy x (List.mem_cons_of_mem _ hx))
    unfold findS
    split
    · exact h
    · intro x hx
      rcases List.mem_append.1 hx with hx | hx
      · exact h x hx
      · simp at hx; subst hx; exact hy x (by simp)

theorem closed_least {g : Gr} (h : Good g) {l : List Int} (hc : closedB g l = true) : ∀ x ∈ orderOf g, x ∈ l := by
  unfold closedB at hc
  rw [Bool.and_eq_true] at hc
  have key : ∀ k, ∀ x ∈ (searchN g k).1, x ∈ l := by
    intro k
    induction k with
    | zero => exact findA_sub 0 l _ ([], []) (by simp) ((okV_all h.refsRoots).1 hc.1)
    | succ k ih =>
      rw [searchN_succ]
      cases ho : (searchN g k).1[k]? with
      | none => exact ih
      | some o =>
        have hm := List.mem_of_getElem? ho
        have hr := (searchN_ok h k).rng o hm
        exact findA_sub _ l _ _ ih ((okV_all (h.refsObjs (fieldsOf_mem hr.1 hr.2))).1 (List.all_eq_true.1 hc.2 o (ih o hm)))
  exact key _


end Go.Proofs.Ythpmckfgngkbhaa

/- Plain: a search by depth, and the way back; what is left without one object. -/
namespace Go.Proofs.Ythpmckfgngkbhaa
set_option linter.unusedSimpArgs false
set_option linter.unusedVariables false
open Go.RowKit

/-- What is seen, and what one went back out of, behind the references xs. -/
def visF (g : Gr) (wo : Int) : Nat → List Int → List Int × List Int → List Int × List Int
  | 0, _, st => st
  | n + 1, xs, st => xs.foldl (fun st o => if o = wo ∨ o ∈ st.1 then st else ((visF g wo n (refsL (fieldsOf g o)) (st.1 ++ [o], st.2)).1, (visF g wo n (refsL (fieldsOf g o)) (st.1 ++ [o], st.2)).2 ++ [o])) st

def visS (g : Gr) (wo : Int) (n : Nat) (st : List Int × List Int) (o : Int) : List Int × List Int :=
  if o = wo ∨ o ∈ st.1 then st else ((visF g wo n (refsL (fieldsOf g o)) (st.1 ++ [o], st.2)).1, (visF g wo n (refsL (fieldsOf g o)) (st.1 ++ [o], st.2)).2 ++ [o])

theorem visF_succ (g : Gr) (wo : Int) (n : Nat) (xs : List Int) (st : List Int × List Int) : visF g wo (n + 1) xs st = xs.foldl (visS g wo n) st := rfl

theorem visF_snoc (g : Gr) (wo : Int) (n : Nat) (xs : List Int) (x : Int) (st : List Int × List Int) : visF g wo (n + 1) (xs ++ [x]) st = visS g wo n (visF g wo (n + 1) xs st) x := by
  simp only [visF_succ, List.foldl_append, List.foldl_cons, List.foldl_nil]

/-- The plain facts on what is seen. -/
structure SOk (N : Nat) (st : List Int × List Int) : Prop where
  rng : ∀ o ∈ st.1, 0 ≤ o ∧ o < N
  nd : st.1.Nodup
  nd2 : st.2.Nodup
  sub : ∀ o ∈ st.2, o ∈ st.1

theorem SOk.le {N : Nat} {st : List Int × List Int} (h : SOk N st) : st.1.length ≤ N := nodup_length h.nd h.rng
theorem SOk.le2 {N : Nat} {st : List Int × List Int} (h : SOk N st) : st.2.length ≤ N := nodup_length h.nd2 (fun o ho => h.rng o (h.sub o ho))

/-- What a search behind xs does. -/
structure Vis (g : Gr) (wo : Int) (xs : List Int) (st : List Int × List Int) (t : List Int) (st' : List Int × List Int) : Prop where
  ok : SOk g.objs.length st'
  app : st'.2 = st.2 ++ t
  mem : ∀ o, o ∈ st'.1 ↔ o ∈ st.1 ∨ o ∈ t
  new : ∀ o ∈ t, o ∉ st.1
  nwo : ∀ o ∈ t, o ≠ wo
  clo : ∀ o ∈ t, ∀ y ∈ refsL (fieldsOf g o), y ≠ wo → y ∈ st'.1
  cau : ∀ (i : Nat) (o : Int), t[i]? = some o → o ∈ xs ∨ ∃ (j : Nat) (o' : Int), i < j ∧ t[j]? = some o' ∧ o ∈ refsL (fieldsOf g o')
  lst : ∀ P : Int → Prop, (∀ x ∈ xs, x ≠ wo → P x) → (∀ x y, P x → y ∈ refsL (fieldsOf g x) → y ≠ wo → P y) → ∀ o ∈ t, P o
  got : ∀ x ∈ xs, x = wo ∨ x ∈ st'.1
  len : st.1.length ≤ st'.1.length

theorem Vis.nil {g : Gr} {wo : Int} {st : List Int × List Int} (h : SOk g.objs.length st) : Vis g wo [] st [] st :=
  ⟨h, by simp, by simp, by simp, by simp, by simp, by simp, by simp, by simp, Nat.le_refl _⟩

theorem Vis.trans {g : Gr} {wo : Int} {xs ys : List Int} {st s1 s2 : List Int × List Int} {t1 t2 : List Int} (h1 : Vis g wo xs st t1 s1) (h2 : Vis g wo ys s1 t2 s2) : Vis g wo (xs ++ ys) st (t1 ++ t2) s2 := by
  refine ⟨h2.ok, by rw [h2.app, h1.app, List.append_assoc], ?_, ?_, ?_, ?_, ?_, ?_, ?_, Nat.le_trans h1.len h2.len⟩
  · intro o; rw [h2.mem, h1.mem, List.mem_append, or_assoc]
  · intro o ho
    rcases List.mem_append.1 ho with ho | ho
    · exact h1.new o ho
    · exact fun hs => h2.new o ho ((h1.mem o).2 (.inl hs))
  · intro o ho
    rcases List.mem_append.1 ho with ho | ho
    · exact h1.nwo o ho
    · exact h2.nwo o ho
  · intro o ho y hy hw
    rcases List.mem_append.1 ho with ho | ho
    · exact (h2.mem y).2 (.inl (h1.clo o ho y hy hw))
    · exact h2.clo o ho y hy hw
  · intro i o hi
    by_cases hlt : i < t1.length
    · rw [List.getElem?_append_left hlt] at hi
      rcases h1.cau i o hi with h | ⟨j, o', hj, ho', hm⟩
      · exact .inl (by simp [h])
      · exact .inr ⟨j, o', hj, by rw [List.getElem?_append_left (List.getElem?_eq_some_iff.1 ho').1]; exact ho', hm⟩
    · rw [List.getElem?_append_right (by omega)] at hi
      rcases h2.cau _ o hi with h | ⟨j, o', hj, ho', hm⟩
      · exact .inl (by simp [h])
      · exact .inr ⟨t1.length + j, o', by omega, by rw [List.getElem?_append_right (by omega)]; simpa using ho', hm⟩
  · intro P hx hs o ho
    rcases List.mem_append.1 ho with ho | ho
    · exact h1.lst P (fun x hx' => hx x (by simp [hx'])) hs o ho
    · exact h2.lst P (fun x hx' => hx x (by simp [hx'])) hs o ho
  · intro x hx
    rcases List.mem_append.1 hx with hx | hx
    · rcases h1.got x hx with h | h
      · exact .inl h
      · exact .inr ((h2.mem x).2 (.inl h))
    · exact h2.got x hx

theorem Vis.skip {g : Gr} {wo : Int} {st : List Int × List Int} {x : Int} (h : SOk g.objs.length st) (hx : x = wo ∨ x ∈ st.1) : Vis g wo [x] st [] st := by
  refine ⟨h, by simp, by simp, by simp, by simp, by simp, by simp, by simp, ?_, Nat.le_refl _⟩
  intro y hy
  simp at hy
  subst hy
  exact hx

theorem sok_see {N : Nat} {st : List Int × List Int} (h : SOk N st) {x : Int} (hx : x ∉ st.1) (hr : 0 ≤ x ∧ x < N) : SOk N (st.1 ++ [x], st.2) := by
  refine ⟨?_, ?_, h.nd2, fun o ho => by simp [h.sub o ho]⟩
  · intro o ho
    simp only [List.mem_append, List.mem_singleton] at ho
    rcases ho with ho | rfl
    · exact h.rng o ho
    · exact hr
  · rw [List.nodup_append]
    exact ⟨h.nd, by simp, by intro a ha b hb; simp at hb; subst hb; exact fun e => hx (e ▸ ha)⟩

theorem Vis.step {g : Gr} {wo : Int} {st s : List Int × List Int} {t : List Int} {x : Int} (h0 : SOk g.objs.length st) (hx : x ∉ st.1) (hw : x ≠ wo) (h : Vis g wo (refsL (fieldsOf g x)) (st.1 ++ [x], st.2) t s) :
    Vis g wo [x] st (t ++ [x]) (s.1, s.2 ++ [x]) := by
  have hxt : x ∉ t := fun e => h.new x e (by simp)
  have hx2 : x ∉ s.2 := by
    rw [h.app, List.mem_append]
    rintro (e | e)
    · exact hx (h0.sub x e)
    · exact hxt e
  have hxs : x ∈ s.1 := (h.mem x).2 (.inl (by simp))
  refine ⟨⟨h.ok.rng, h.ok.nd, ?_, ?_⟩, ?_, ?_, ?_, ?_, ?_, ?_, ?_, ?_, ?_⟩
  · rw [List.nodup_append]
    exact ⟨h.ok.nd2, by simp, by intro a ha b hb; simp at hb; subst hb; exact fun e => hx2 (e ▸ ha)⟩
  · intro o ho
    simp only [List.mem_append, List.mem_singleton] at ho
    rcases ho with ho | rfl
    · exact h.ok.sub o ho
    · exact hxs
  · simp [h.app]
  · intro o
    have := h.mem o
    simp only [List.mem_append, List.mem_singleton] at this ⊢
    rw [this, or_assoc, or_comm (a := o = x)]
  · intro o ho
    simp only [List.mem_append, List.mem_singleton] at ho
    rcases ho with ho | rfl
    · exact fun e => h.new o ho (by simp [e])
    · exact hx
  · intro o ho
    simp only [List.mem_append, List.mem_singleton] at ho
    rcases ho with ho | rfl
    · exact h.nwo o ho
    · exact hw
  · intro o ho y hy hyw
    simp only [List.mem_append, List.mem_singleton] at ho
    rcases ho with ho | rfl
    · exact h.clo o ho y hy hyw
    · rcases h.got y hy with e | e
      · exact absurd e hyw
      · exact e
  · intro i o hi
    by_cases hlt : i < t.length
    · rw [List.getElem?_append_left hlt] at hi
      rcases h.cau i o hi with e | ⟨j, o', hj, ho', hm⟩
      · exact .inr ⟨t.length, x, hlt, by simp, e⟩
      · exact .inr ⟨j, o', hj, by rw [List.getElem?_append_left (List.getElem?_eq_some_iff.1 ho').1]; exact ho', hm⟩
    · have := (List.getElem?_eq_some_iff.1 hi).1
      simp at this
      have e : i = t.length := by omega
      subst e
      simp at hi
      exact .inl (by simp [hi])
  · intro P hP hs o ho
    have hPx := hP x (by simp) hw
    simp only [List.mem_append, List.mem_singleton] at ho
    rcases ho with ho | rfl
    · exact h.lst P (fun y hy hyw => hs x y hPx hy hyw) hs o ho
    · exact hPx
  · intro y hy
    simp at hy
    subst hy
    exact .inr hxs
  · have := h.len
    simp at this
    show st.1.length ≤ s.1.length
    omega

theorem refs_rng {g : Gr} (h : Good g) (i : Int) : ∀ x ∈ refsL (fieldsOf g i), 0 ≤ x ∧ x < g.objs.length := by
  intro x hx
  by_cases hi : i.toNat < g.objs.length
  · have e : fieldsOf g i = g.objs[i.toNat] := by unfold fieldsOf; simp [hi]
    rw [e] at hx
    exact h.fields (List.getElem_mem hi) x hx
  · have e : fieldsOf g i = [] := by unfold fieldsOf; simp [hi]
    rw [e] at hx
    simp [refsL, valsOf, obsOf] at hx

theorem vis_vis {g : Gr} (hG : Good g) (wo : Int) : ∀ (n : Nat) (xs : List Int) (st : List Int × List Int), SOk g.objs.length st → (∀ x ∈ xs, 0 ≤ x ∧ x < g.objs.length) → g.objs.length < st.1.length + n →
    ∃ t, Vis g wo xs st t (visF g wo n xs st) := by
  intro n
  induction n with
  | zero => intro xs st h _ hl; have := h.le; omega
  | succ n ih =>
    intro xs
    induction xs with
    | nil => intro st h _ _; exact ⟨[], Vis.nil h⟩
    | cons x xs ihx =>
      intro st h hx hl
      have hstep : ∃ t, Vis g wo [x] st t (visS g wo n st x) := by
        unfold visS
        by_cases hc : x = wo ∨ x ∈ st.1
        · rw [if_pos hc]; exact ⟨[], Vis.skip h hc⟩
        · rw [if_neg hc]
          have hc' := not_or.1 hc
          obtain ⟨t, ht⟩ := ih (refsL (fieldsOf g x)) (st.1 ++ [x], st.2) (sok_see h hc'.2 (hx x (by simp))) (refs_rng hG x) (by simp; omega)
          exact ⟨_, Vis.step h hc'.2 hc'.1 ht⟩
      obtain ⟨t1, h1⟩ := hstep
      obtain ⟨t2, h2⟩ := ihx (visS g wo n st x) h1.ok (fun y hy => hx y (by simp [hy])) (by have := h1.len; omega)
      exact ⟨t1 ++ t2, h1.trans h2⟩

/-- The objects, as one goes back out of them. -/
def wayF (g : Gr) (wo : Int) : List Int × List Int := visF g wo (g.objs.length + 1) (refsL g.roots) ([], [])
def backL (g : Gr) (wo : Int) : List Int := (wayF g wo).2

theorem sok_nil (N : Nat) : SOk N ([], []) := ⟨by simp, by simp, by simp, by simp⟩

theorem way_vis {g : Gr} (hG : Good g) (wo : Int) : Vis g wo (refsL g.roots) ([], []) (backL g wo) (wayF g wo) := by
  obtain ⟨t, ht⟩ := vis_vis hG wo (g.objs.length + 1) (refsL g.roots) ([], []) (sok_nil _) hG.roots (by simp)
  have e : backL g wo = t := by have := ht.app; simp only [List.nil_append] at this; exact this
  rw [e]; exact ht

/-- A list without references to one object. -/
def cutV (wo : Int) (v : V) : V := if v.1 && v.2 == wo then (false, 0) else v
def cutG (g : Gr) (wo : Int) : Gr := { objs := g.objs.map (·.map (cutV wo)), roots := g.roots.map (cutV wo) }

theorem cutV_ref {wo : Int} {v : V} (h : (cutV wo v).1 = true) : cutV wo v = v ∧ v.1 = true ∧ v.2 ≠ wo := by
  unfold cutV at *
  split at h
  · cases h
  · rename_i hn
    rw [if_neg hn]
    refine ⟨rfl, h, fun e => hn ?_⟩
    simp [h, e]

theorem cutV_keep {wo : Int} {v : V} (h : v.1 = false ∨ v.2 ≠ wo) : cutV wo v = v := by
  unfold cutV
  rw [if_neg]
  rcases h with h | h
  · simp [h]
  · simp [h]

theorem refs_cut {l : List V} (hl : RefsOk l) (wo o : Int) : o ∈ refsL (l.map (cutV wo)) ↔ o ∈ refsL l ∧ o ≠ wo := by
  have hl' : RefsOk (l.map (cutV wo)) := by
    intro v hv hr
    obtain ⟨u, hu, rfl⟩ := List.mem_map.1 hv
    obtain ⟨e, h1, _⟩ := cutV_ref hr
    rw [e]; exact hl u hu h1
  rw [mem_refsL hl', mem_refsL hl, List.mem_map]
  constructor
  · rintro ⟨u, hu, e⟩
    obtain ⟨e1, h1, h2⟩ := cutV_ref (wo := wo) (v := u) (by rw [e])
    rw [e1] at e
    subst e
    exact ⟨hu, h2⟩
  · rintro ⟨hm, hn⟩
    exact ⟨_, hm, cutV_keep (.inr hn)⟩

theorem cut_len (g : Gr) (wo : Int) : (cutG g wo).objs.length = g.objs.length := by simp [cutG]

theorem cut_fields (g : Gr) (wo o : Int) : fieldsOf (cutG g wo) o = (fieldsOf g o).map (cutV wo) := by
  unfold fieldsOf cutG
  simp only [List.getElem?_map]
  cases g.objs[o.toNat]? <;> rfl

theorem good_cut {g : Gr} (h : Good g) (wo : Int) : Good (cutG g wo) := by
  refine ⟨by rw [cut_len]; exact h.n24, by simpa [cutG] using h.n8, ?_, ?_, ?_⟩
  · intro l hl
    obtain ⟨l', hl', rfl⟩ := List.mem_map.1 (show l ∈ g.objs.map (·.map (cutV wo)) from hl)
    simpa using h.n4 l' hl'
  · intro v hv hr
    obtain ⟨u, hu, rfl⟩ := List.mem_map.1 (show v ∈ g.roots.map (cutV wo) from hv)
    obtain ⟨e, h1, _⟩ := cutV_ref hr
    rw [e, cut_len]; exact h.rr u hu h1
  · intro l hl v hv hr
    obtain ⟨l', hl', rfl⟩ := List.mem_map.1 (show l ∈ g.objs.map (·.map (cutV wo)) from hl)
    obtain ⟨u, hu, rfl⟩ := List.mem_map.1 hv
    obtain ⟨e, h1, _⟩ := cutV_ref hr
    rw [e, cut_len]; exact h.ro l' hl' u hu h1

theorem refsOk_fieldsOf {g : Gr} (h : Good g) (i : Int) : RefsOk (fieldsOf g i) := by
  by_cases hi : i.toNat < g.objs.length
  · have e : fieldsOf g i = g.objs[i.toNat] := by unfold fieldsOf; simp [hi]
    rw [e]; exact h.refsObjs (List.getElem_mem hi)
  · have e : fieldsOf g i = [] := by unfold fieldsOf; simp [hi]
    rw [e]; intro v hv; simp at hv

/-- What holds of the roots' objects, and goes on, holds of all that can be come to. -/
theorem order_ind {g : Gr} (h : Good g) (P : Int → Prop) (h1 : ∀ x ∈ refsL g.roots, P x) (h2 : ∀ x y, x ∈ orderOf g → P x → y ∈ refsL (fieldsOf g x) → P y) : ∀ x ∈ orderOf g, P x := by
  classical
  intro x hx
  have hc : closedB g ((orderOf g).filter fun x => decide (P x)) = true := by
    unfold closedB
    rw [Bool.and_eq_true]
    refine ⟨(okV_all h.refsRoots).2 (fun x hx => ?_), List.all_eq_true.2 fun o ho => ?_⟩
    · rw [List.mem_filter]; exact ⟨order_roots g x hx, by simpa using h1 x hx⟩
    · rw [List.mem_filter] at ho
      refine (okV_all (refsOk_fieldsOf h o)).2 (fun y hy => ?_)
      rw [List.mem_filter]
      exact ⟨order_closed h ho.1 y hy, by simpa using h2 o y ho.1 (by simpa using ho.2) hy⟩
  have := closed_least h hc x hx
  rw [List.mem_filter] at this
  simpa using this.2

/-- What can be come to without references to wo. -/
def leftL (g : Gr) (wo : Int) : List Int := orderOf (cutG g wo)

theorem left_roots {g : Gr} (h : Good g) {wo x : Int} (hx : x ∈ refsL g.roots) (hn : x ≠ wo) : x ∈ leftL g wo :=
  order_roots (cutG g wo) x ((refs_cut h.refsRoots wo x).2 ⟨hx, hn⟩)

theorem left_next {g : Gr} (h : Good g) {wo x y : Int} (hx : x ∈ leftL g wo) (hy : y ∈ refsL (fieldsOf g x)) (hn : y ≠ wo) : y ∈ leftL g wo := by
  refine order_closed (good_cut h wo) hx y ?_
  rw [cut_fields]
  exact (refs_cut (refsOk_fieldsOf h x) wo y).2 ⟨hy, hn⟩

theorem left_ind {g : Gr} (h : Good g) {wo : Int} (P : Int → Prop) (h1 : ∀ x ∈ refsL g.roots, x ≠ wo → P x) (h2 : ∀ x y, x ∈ leftL g wo → P x → y ∈ refsL (fieldsOf g x) → y ≠ wo → P y) : ∀ x ∈ leftL g wo, P x := by
  refine order_ind (good_cut h wo) P (fun x hx => ?_) (fun x y hx hp hy => ?_)
  · obtain ⟨a, b⟩ := (refs_cut h.refsRoots wo x).1 hx
    exact h1 x a b
  · rw [cut_fields] at hy
    obtain ⟨a, b⟩ := (refs_cut (refsOk_fieldsOf h x) wo y).1 hy
    exact h2 x y hx hp a b

theorem left_ne {g : Gr} (h : Good g) {wo x : Int} (hx : x ∈ leftL g wo) : x ≠ wo :=
  left_ind h (fun x => x ≠ wo) (fun _ _ hn => hn) (fun _ _ _ _ _ hn => hn) x hx

theorem left_sub {g : Gr} (h : Good g) {wo x : Int} (hx : x ∈ leftL g wo) : x ∈ orderOf g :=
  left_ind h (fun x => x ∈ orderOf g) (fun x hx _ => order_roots g x hx) (fun x y _ hp hy _ => order_closed h hp y hy) x hx

theorem left_rng {g : Gr} (h : Good g) {wo x : Int} (hx : x ∈ leftL g wo) : 0 ≤ x ∧ x < g.objs.length := order_ok h (left_sub h hx)

/-- The way back has just what is left. -/
theorem back_mem {g : Gr} (h : Good g) (wo x : Int) : x ∈ backL g wo ↔ x ∈ leftL g wo := by
  have hv := way_vis h wo
  constructor
  · exact fun hx => hv.lst (fun x => x ∈ leftL g wo) (fun x hx hn => left_roots h hx hn) (fun x y hp hy hn => left_next h hp hy hn) x hx
  · refine left_ind h (fun x => x ∈ backL g wo) (fun x hx hn => ?_) (fun x y _ hp hy hn => ?_) x
    · rcases hv.got x hx with e | e
      · exact absurd e hn
      · simpa using (hv.mem x).1 e
    · simpa using (hv.mem y).1 (hv.clo x hp y hy hn)

theorem back_nodup {g : Gr} (h : Good g) (wo : Int) : (backL g wo).Nodup := (way_vis h wo).ok.nd2
theorem back_len {g : Gr} (h : Good g) (wo : Int) : (backL g wo).length ≤ g.objs.length := (way_vis h wo).ok.le2

/-- What an object keeps, by numbers. -/
def retL (g : Gr) (v : Int) : List Int := (sortL (orderOf g)).filter fun o => !decide (o ∈ leftL g v)

theorem mem_ret {g : Gr} {v x : Int} : x ∈ retL g v ↔ x ∈ orderOf g ∧ x ∉ leftL g v := by
  unfold retL; rw [List.mem_filter, sortL_mem]; simp

theorem ret_len {g : Gr} (h : Good g) (v : Int) : (retL g v).length ≤ g.objs.length := by
  have h1 := List.length_filter_le (fun o => !decide (o ∈ leftL g v)) (sortL (orderOf g))
  rw [sortL_len] at h1
  have := (searchN_ok h g.objs.length).le
  unfold retL
  unfold orderOf at h1 ⊢
  omega

end Go.Proofs.Ythpmckfgngkbhaa

/- Walks: the iterator over references, to objects below a number. -/
namespace Go.Proofs.Ythpmckfgngkbhaa
set_option linter.unusedSimpArgs false
set_option linter.unusedVariables false
open Go.RowKit Go.Shelf
attribute [local go_sem] Oper.semAt_some

/-- The number of one of N objects. -/
abbrev ObN (N : Nat) := { x : Int // 0 ≤ x ∧ x < N }

def obOfN (N : Nat) (v : V) : Option (ObN N) := if h : v.1 = true ∧ 0 ≤ v.2 ∧ v.2 < N then some ⟨v.2, h.2⟩ else none

def obsOfN (N : Nat) (l : List V) : List (ObN N) := l.filterMap (obOfN N)

def RefsOkN (N : Nat) (l : List V) : Prop := ∀ v ∈ l, v.1 = true → 0 ≤ v.2 ∧ v.2 < N

theorem obsOfN_no {N : Nat} {l : List V} {k : Nat} (hk : k < l.length) {n : Int} (h : l[k] = (false, n)) : obsOfN N (l.take (k + 1)) = obsOfN N (l.take k) := by
  rw [List.take_succ_eq_append_getElem hk, h]
  simp [obsOfN, obOfN]

theorem obsOfN_yes {N : Nat} {l : List V} {k : Nat} (hk : k < l.length) {n : Int} (h : l[k] = (true, n)) (hn : 0 ≤ n ∧ n < N) : obsOfN N (l.take (k + 1)) = obsOfN N (l.take k) ++ [⟨n, hn⟩] := by
  rw [List.take_succ_eq_append_getElem hk, h]
  simp [obsOfN, obOfN, hn]

theorem obsOfN_len (N : Nat) (l : List V) : (obsOfN N l).length ≤ l.length := List.length_filterMap_le _ _

theorem obsOfN_prefix (N : Nat) (l : List V) (k : Nat) : obsOfN N (l.take k) <+: obsOfN N l := by
  refine ⟨obsOfN N (l.drop k), ?_⟩
  unfold obsOfN
  rw [← List.filterMap_append, List.take_append_drop]

def valsN {N : Nat} (xs : List (ObN N)) : List Int := xs.map (·.1)

theorem vals_obsN {N : Nat} (hN : N ≤ 24) : ∀ (l : List V), RefsOkN N l → valsN (obsOfN N l) = refsL l
  | [], _ => rfl
  | v :: l, h => by
    have ih := vals_obsN hN l (fun u hu => h u (by simp [hu]))
    unfold valsN obsOfN refsL valsOf obsOf at *
    rcases v with ⟨r, n⟩
    cases r
    · simpa [obOfN, obOf] using ih
    · have hn := h (true, n) (by simp) rfl
      have h24 : 0 ≤ n ∧ n < 24 := by simp at hn; omega
      simp at hn
      simp only [List.filterMap_cons]
      have e1 : obOfN N (true, n) = some ⟨n, hn⟩ := by simp [obOfN, hn]
      have e2 : obOf (true, n) = some ⟨n, h24⟩ := by simp [obOf, h24]
      rw [e1, e2]
      simp [ih]

def encN {N : Nat} (x : ObN N) : Array Value := #[.int .i64 x.1]

set_option maxRecDepth 100000 in
set_option maxHeartbeats 2000000 in
theorem refs1N_in {N : Nat} (hN : N ≤ 24) (n : Nat) (hn : 1 ≤ n) (l' Bs n₀ : Nat) (a : Option Addr) (cap : Nat) (l : List V) (hok : RefsOkN N l) (J Jx : List (ObN N) → World → Prop)
    (hY : ∀ pre x W, J pre W → pre.length < l.length → YieldAt Fence.wide (n - 1) Try.prog l' (encN x) W fun e W' =>
      (e = .returned (.bool true) ∧ J (pre ++ [x]) W' ∧ Below n₀ W W') ∨ (e = .returned (.bool false) ∧ Jx (pre ++ [x]) W'))
    (W : World) (hJa : ∀ pre X o, J pre X → J pre (X.alloc o)) (hn0 : n₀ ≤ W.heap.size) (hc0 : W.cell? ⟨Bs, 0, none⟩ = some (.slice a l.length cap))
    (hl : Vals n₀ W a l) (h0 : J [] W) :
    CallsIn Fence.wide n Try.prog 48 #[.func (.yield l') #[] #[], .pointer (some ⟨Bs, 0, none⟩)] W fun e W' => (∃ v, e = .returned v) ∧
      ((∃ ys, ys = obsOfN N l ∧ J ys W') ∨ (∃ pre, pre <+: obsOfN N l ∧ Jx pre W')) := by
  have hl1 := hl.1
  refine callsIn_of_wp Try.func48 rfl trivial ?_ rfl
  simp only [Try.ntmps48, List.size_toArray, List.length_cons, List.length_nil, Nat.reduceAdd, Nat.reduceSub, Array.replicate_succ, Array.replicate_zero, List.push_toArray, List.append_toArray, List.nil_append, List.cons_append]
  gi_wp2
  gi_loopw [7] (fun i wr => ∃ k : Nat, k ≤ l.length ∧ i = .int .i64 k ∧ J (obsOfN N (l.take k)) wr ∧ Below n₀ W wr) (fun i _ => l.length - (intOf i).toNat)
  case atStart => exact ⟨0, Nat.zero_le _, rfl, by simpa [obsOfN] using h0, Below.refl _ _⟩
  case round =>
    obtain ⟨k, hk, rfl, hJ, hb⟩ := hrel
    have hsz := hb.size
    by_cases hlt : k < l.length
    · obtain ⟨b, off, r, m, rfl, hbB, hd1, hd2, Hv⟩ := (hl.below hb).at hlt
      cases r
      · have HT := hide (obsOfN_no (N := N) hlt Hv.out)
        gi_wp2
        refine ⟨fun _ h => (by cases h), ?_⟩
        gi_wp2
        go_roundw
        case rel => exact ⟨k + 1, by omega, by go_num, by rw [unhide HT]; exact hJa _ _ _ hJ, hb.alloc (by omega) _⟩
        case measure => simp [intOf]; omega
      · have hm := hok l[k] (List.getElem_mem hlt)
        rw [Hv.out] at hm
        have hm := hm rfl
        have HT := hide (obsOfN_yes hlt Hv.out hm)
        have HP := hide (obsOfN_prefix N l (k + 1))
        obtain ⟨fn, tmps, assign, body, hy, hR⟩ := hY _ ⟨m, hm⟩ (wr.alloc (.cells #[.bool true, .int .i64 m] 54)) (hJa _ _ _ hJ) (by have := obsOfN_len N (l.take k); simp only [List.length_take] at this; omega)
        dsimp only [encN] at hy
        obtain ⟨hm1, hm2⟩ := hm
        have hm3 : m < 24 := by omega
        gi_wp2
        refine hR.mono ?_
        rintro e W3 (⟨rfl, hJ3, hk3⟩ | ⟨rfl, hJx3⟩)
        · gi_wp2
          go_roundw
          case rel => exact ⟨k + 1, by omega, by go_num, by rw [unhide HT]; exact hJ3, (hb.alloc (by omega) _).trans hk3⟩
          case measure => simp [intOf]; omega
        · gi_wp2
          refine bodyPost_ret (results_none rfl _ _ _) rfl ?_
          exact ⟨⟨_, rfl⟩, .inr ⟨_, by rw [← unhide HT]; exact unhide HP, hJx3⟩⟩
    · obtain rfl : k = l.length := by omega
      rw [List.take_length] at hJ
      gi_wp2
      go_end0
      exact ⟨⟨_, rfl⟩, .inl ⟨_, rfl, hJ⟩⟩

theorem refs1N_stops {N : Nat} (hN : N ≤ 24) (n : Nat) (hn : 1 ≤ n) (Bs n₀ : Nat) (a : Option Addr) (cap : Nat) (l : List V) (hok : RefsOkN N l) (w : World) (hn0 : n₀ ≤ w.heap.size) (hBs : Bs < w.heap.size)
    (hc0 : w.cell? ⟨Bs, 0, none⟩ = some (.slice a l.length cap)) (hl : Vals n₀ w a l) :
    SeqStopsK Fence.wide n Try.prog 48 #[.pointer (some ⟨Bs, 0, none⟩)] encN (Below n₀) (fun ys => ys = obsOfN N l) (fun pre => pre <+: obsOfN N l) l.length w := fun l' J Jx W hW hJ _ hY h0 => by
  have := hW.size
  exact refs1N_in hN n hn l' Bs n₀ a cap l hok J Jx hY W (fun pre X o hj => hJ pre X _ none hj (World.grownBy_alloc X o none) (fun r e => by cases e)) (by omega)
    ((hW.cell (p := ⟨Bs, 0, none⟩) hBs).trans hc0) (hl.below (hW.mono hn0)) h0


end Go.Proofs.Ythpmckfgngkbhaa

/- The way back, in memory. -/
namespace Go.Proofs.Ythpmckfgngkbhaa
set_option linter.unusedSimpArgs false
set_option linter.unusedVariables false
open Go.RowKit Go.Shelf

theorem Try.info4 : (Try.prog.info? 4).map (fun i => (i.zero, i.size, i.bytes)) = some (some (.bool false), 1, 1) := by kernel_rfl

def boolsV (l : List Bool) : List Value := l.map Value.bool

/-- Which objects were seen. -/
def seenL (N : Nat) (s : List Int) : List Bool := (List.range N).map fun (i : Nat) => decide ((i : Int) ∈ s)
/-- The number of each object on the way back. -/
def numAt (order : List Int) (x : Int) : Int := if x ∈ order then (order.idxOf x : Int) else -1
def numL (N : Nat) (order : List Int) : List Int := (List.range N).map fun (i : Nat) => numAt order i

theorem seenL_len (N : Nat) (s : List Int) : (seenL N s).length = N := by simp [seenL]
theorem numL_len (N : Nat) (s : List Int) : (numL N s).length = N := by simp [numL]

theorem seenL_get {N : Nat} (s : List Int) {k : Nat} (hk : k < N) : (seenL N s)[k]? = some (decide ((k : Int) ∈ s)) := by simp [seenL, List.getElem?_map, List.getElem?_range hk]
theorem numL_get {N : Nat} (s : List Int) {k : Nat} (hk : k < N) : (numL N s)[k]? = some (numAt s k) := by simp [numL, List.getElem?_map, List.getElem?_range hk]

theorem seenL_set {N : Nat} (s : List Int) {k : Nat} (hk : k < N) : (seenL N s).set k true = seenL N (s ++ [(k : Int)]) := by
  refine List.ext_getElem? fun i => ?_
  rw [List.getElem?_set, seenL_len]
  by_cases hi : i < N
  · rw [seenL_get s hi, seenL_get _ hi]
    by_cases e : k = i
    · subst e; simp [hk]
    · rw [if_neg e]
      have : ¬ ((i : Int) = (k : Int)) := by omega
      simp [this]
  · rw [List.getElem?_eq_none (by rw [seenL_len]; omega), List.getElem?_eq_none (by rw [seenL_len]; omega)]
    split
    · omega
    · rfl

theorem numAt_new (s : List Int) {x : Int} (hx : x ∉ s) : numAt (s ++ [x]) x = s.length := by
  unfold numAt
  rw [if_pos (by simp), List.idxOf_append, if_neg hx]
  simp
theorem numAt_old (s : List Int) {x y : Int} (hy : y ≠ x) : numAt (s ++ [x]) y = numAt s y := by
  unfold numAt
  by_cases h : y ∈ s
  · rw [if_pos (by simp [h]), if_pos h, List.idxOf_append, if_pos h]
  · rw [if_neg (by simp [h, hy]), if_neg h]

theorem numL_set {N : Nat} (s : List Int) {k : Nat} (hk : k < N) (hn : (k : Int) ∉ s) : (numL N s).set k (s.length : Int) = numL N (s ++ [(k : Int)]) := by
  refine List.ext_getElem? fun i => ?_
  rw [List.getElem?_set, numL_len]
  by_cases hi : i < N
  · rw [numL_get s hi, numL_get _ hi]
    by_cases e : k = i
    · subst e; rw [if_pos rfl, if_pos hk, numAt_new s hn]
    · rw [if_neg e, numAt_old s (by omega)]
  · rw [List.getElem?_eq_none (by rw [numL_len]; omega), List.getElem?_eq_none (by rw [numL_len]; omega)]
    split
    · omega
    · rfl

theorem boolsV_set (l : List Bool) (k : Nat) (u : Bool) : (boolsV l).set k (.bool u) = boolsV (l.set k u) := by simp [boolsV, List.map_set]
theorem intsV_set (l : List Int) (k : Nat) (u : Int) : (intsV l).set k (.int .i64 u) = intsV (l.set k u) := by simp [intsV, List.map_set]

/-- A row is kept where its block is. -/
theorem row_block {W W' : World} {base gb n cap : Nat} {e : TypeId} {xs : List Value} (h : W.ownsRow base e 1 (.slice (some ⟨gb, 0, none⟩) n cap) n xs) (hb : W'.heap[gb]? = W.heap[gb]?) : W'.ownsRow base e 1 (.slice (some ⟨gb, 0, none⟩) n cap) n xs := by
  refine ⟨h.1, ?_⟩
  rcases h.2 with ⟨h0, _⟩ | ⟨g, c, cur, hv, h1, h2, r⟩
  · cases h0
  · injection hv with e1 e2 e3
    injection e1 with e1
    injection e1 with e1
    subst e1 e3
    exact .inr ⟨gb, cap, cur, rfl, h1, hb.trans h2, r⟩

theorem row_at {W : World} {base gb n cap k : Nat} {e : TypeId} {vs : List Value} {u : Value} (h : W.ownsRow base e 1 (.slice (some ⟨gb, 0, none⟩) n cap) n vs) (hk : vs[k]? = some u) : W.cell? ⟨gb, k, none⟩ = some u := by
  have := h.cells (g := gb) rfl k u hk
  have hadd : (⟨gb, 0, none⟩ : Addr).add k = ⟨gb, k, none⟩ := by unfold Addr.add; split <;> simp_all
  rwa [hadd] at this

theorem row_lt {W : World} {base gb n cap : Nat} {e : TypeId} {vs : List Value} (h : W.ownsRow base e 1 (.slice (some ⟨gb, 0, none⟩) n cap) n vs) : gb < W.heap.size := (h.lt gb rfl).2

/-- What the closure goes by: b is the first of its blocks. -/
structure WB (W : World) (b : Nat) (ao : Option Addr) (N co : Nat) (wo : Int) (st : List Int × List Int) (vo : Value) : Prop where
  cg : W.cell? ⟨b, 0, none⟩ = some (.slice ao N co)
  cwo : W.cell? ⟨b + 1, 0, none⟩ = some (.int .i64 wo)
  cv : W.cell? ⟨b + 7, 0, none⟩ = some (.func (.func 35) #[] #[.pointer (some ⟨b + 1, 0, none⟩), .pointer (some ⟨b + 6, 0, none⟩), .pointer (some ⟨b + 7, 0, none⟩), .pointer (some ⟨b, 0, none⟩), .pointer (some ⟨b + 4, 0, none⟩)])
  cs : W.cell? ⟨b + 6, 0, none⟩ = some (.slice (some ⟨b + 5, 0, none⟩) N N)
  c0 : W.cell? ⟨b + 4, 0, none⟩ = some vo
  c1 : W.cell? ⟨b + 4, 1, none⟩ = some (.slice (some ⟨b + 3, 0, none⟩) N N)
  f0 : W.frozen? ⟨b + 4, 0, none⟩ = false
  seen : W.ownsRow (b + 3) 4 1 (.slice (some ⟨b + 5, 0, none⟩) N N) N (boolsV (seenL N st.1))
  num : W.ownsRow (b + 3) 3 1 (.slice (some ⟨b + 3, 0, none⟩) N N) N (intsV (numL N st.2))
  ord : W.ownsRow (b + 8) 3 1 vo st.2.length (intsV st.2)
  res : W.heap[b + 2]? = some (.cells #[.slice none 0 0, .slice none 0 0] 43)

theorem WB.lt {W : World} {b : Nat} {ao : Option Addr} {N co : Nat} {wo : Int} {st : List Int × List Int} {vo : Value} (h : WB W b ao N co wo st vo) : b + 7 < W.heap.size := World.block_lt_of_cell? W _ h.cv

/-- What lies in the first blocks is kept, and so is the row of objects. -/
theorem WB.kept {W W' : World} {b : Nat} {ao : Option Addr} {N co : Nat} {wo : Int} {st : List Int × List Int} {vo : Value} (h : WB W b ao N co wo st vo) (hb : ∀ k, k < b + 8 → W'.heap[k]? = W.heap[k]?) (ho : W'.ownsRow (b + 8) 3 1 vo st.2.length (intsV st.2)) : WB W' b ao N co wo st vo :=
  ⟨(World.cell?_of_block (a := ⟨b, 0, none⟩) (hb b (by omega))).trans h.cg, (World.cell?_of_block (a := ⟨b + 1, 0, none⟩) (hb (b + 1) (by omega))).trans h.cwo, (World.cell?_of_block (a := ⟨b + 7, 0, none⟩) (hb (b + 7) (by omega))).trans h.cv,
    (World.cell?_of_block (a := ⟨b + 6, 0, none⟩) (hb (b + 6) (by omega))).trans h.cs, (World.cell?_of_block (a := ⟨b + 4, 0, none⟩) (hb (b + 4) (by omega))).trans h.c0, (World.cell?_of_block (a := ⟨b + 4, 1, none⟩) (hb (b + 4) (by omega))).trans h.c1,
    (World.frozen?_of_block (a := ⟨b + 4, 0, none⟩) (hb (b + 4) (by omega))).trans h.f0, row_block h.seen (hb (b + 5) (by omega)), row_block h.num (hb (b + 3) (by omega)), ho, (hb (b + 2) (by omega)).trans h.res⟩

theorem WB.own {W W' : World} {row : Option Nat} {b : Nat} {ao : Option Addr} {N co : Nat} {wo : Int} {st : List Int × List Int} {vo : Value} (h : WB W b ao N co wo st vo) (hg : W.grownBy W' row)
    (hr : ∀ r, row = some r → b + 8 ≤ r ∧ ∃ o : Obj, W.heap[r]? = some o ∧ o.isCells = false) : WB W' b ao N co wo st vo := by
  have hlt := h.lt
  exact h.kept (fun k hk => hg.block k (by omega) (fun e => by have := (hr _ e.symm).1; omega)) (ownsRow_keptOf h.ord hg (fun r e => (hr r e).2))

theorem WB.alloc {W : World} {b : Nat} {ao : Option Addr} {N co : Nat} {wo : Int} {st : List Int × List Int} {vo : Value} (h : WB W b ao N co wo st vo) (x : Obj) : WB (W.alloc x) b ao N co wo st vo :=
  h.own (World.grownBy_alloc W x none) (fun r e => by cases e)

theorem WB.below {W W' : World} {b : Nat} {ao : Option Addr} {N co : Nat} {wo : Int} {st : List Int × List Int} {vo : Value} (h : WB W b ao N co wo st vo) (hb : Below W.heap.size W W') : WB W' b ao N co wo st vo :=
  h.own (row := none) ⟨hb.os, hb.tape, hb.output, hb.size, fun k hk _ => hb.block k hk⟩ (fun r e => by cases e)

theorem ord_ne {W : World} {b : Nat} {v : Value} {n : Nat} {xs : List Value} (h : W.ownsRow (b + 8) 3 1 v n xs) {k : Nat} (hk : k < b + 8) : v.ownBlock ≠ some k := fun e => by have := (h.lt k e).1; omega

/-- An object is seen. -/
theorem WB.see {W : World} {b : Nat} {ao : Option Addr} {N co : Nat} {wo : Int} {st : List Int × List Int} {vo : Value} (h : WB W b ao N co wo st vo) {x : Nat} (hx : x < N) :
    WB (W.setCell ⟨b + 5, x, none⟩ (.bool true)) b ao N co wo (st.1 ++ [(x : Int)], st.2) vo := by
  have hk : ∀ k, k ≠ b + 5 → (W.setCell ⟨b + 5, x, none⟩ (.bool true)).heap[k]? = W.heap[k]? := fun k hk => Below.heap_setCell _ _ _ _ (by intro e; exact hk (by simp at e; omega))
  have hs := (h.seen.stored x (.bool true)).1
  rw [boolsV_set, seenL_set _ hx] at hs
  exact ⟨(World.cell?_of_block (a := ⟨b, 0, none⟩) (hk b (by omega))).trans h.cg, (World.cell?_of_block (a := ⟨b + 1, 0, none⟩) (hk (b + 1) (by omega))).trans h.cwo, (World.cell?_of_block (a := ⟨b + 7, 0, none⟩) (hk (b + 7) (by omega))).trans h.cv,
    (World.cell?_of_block (a := ⟨b + 6, 0, none⟩) (hk (b + 6) (by omega))).trans h.cs, (World.cell?_of_block (a := ⟨b + 4, 0, none⟩) (hk (b + 4) (by omega))).trans h.c0, (World.cell?_of_block (a := ⟨b + 4, 1, none⟩) (hk (b + 4) (by omega))).trans h.c1,
    (World.frozen?_of_block (a := ⟨b + 4, 0, none⟩) (hk (b + 4) (by omega))).trans h.f0, hs, row_block h.num (hk (b + 3) (by omega)), ownsRow_setCell_other h.ord (ord_ne h.ord (by simp)) _, (hk (b + 2) (by omega)).trans h.res⟩

/-- One goes back out of an object. -/
theorem WB.back {W w4 : World} {b : Nat} {ao : Option Addr} {N co : Nat} {wo : Int} {st : List Int × List Int} {vo v1 : Value} {o1 : Obj} (h : WB W b ao N co wo st vo) {x : Nat} (hx : x < N) (hn : (x : Int) ∉ st.2)
    (hrow : w4.ownsRow (b + 8) 3 1 v1 (st.2.length + 1) (intsV st.2 ++ [.int .i64 (x : Int)])) (hg : ((W.setCell ⟨b + 3, x, none⟩ (.int .i64 (st.2.length : Int))).alloc o1).grownBy w4 vo.ownBlock) :
    WB (w4.setCell ⟨b + 4, 0, none⟩ v1) b ao N co wo (st.1, st.2 ++ [(x : Int)]) v1 ∧ Below b W (w4.setCell ⟨b + 4, 0, none⟩ v1) ∧ KeepsOthers W (w4.setCell ⟨b + 4, 0, none⟩ v1) := by
  have hlt := h.lt
  have hsz : (W.setCell ⟨b + 3, x, none⟩ (.int .i64 (st.2.length : Int))).heap.size = W.heap.size := by simp [World.setCell]
  have hs := (h.num.stored x (.int .i64 (st.2.length : Int))).1
  rw [intsV_set, numL_set _ hx hn] at hs
  have ho3 := ownsRow_setCell_other h.ord (a := ⟨b + 3, x, none⟩) (ord_ne h.ord (by simp)) (.int .i64 (st.2.length : Int))
  have hk3 : ∀ k, k ≠ b + 3 → (W.setCell ⟨b + 3, x, none⟩ (.int .i64 (st.2.length : Int))).heap[k]? = W.heap[k]? := fun k hk => Below.heap_setCell _ _ _ _ (by intro e; exact hk (by simp at e; omega))
  have hka : ∀ k, k < b + 8 → w4.heap[k]? = (W.setCell ⟨b + 3, x, none⟩ (.int .i64 (st.2.length : Int))).heap[k]? := fun k hk =>
    (hg.block k (by simp [hsz]; omega) (fun e => ord_ne h.ord hk e.symm)).trans (Below.heap_alloc _ o1 k (by rw [hsz]; omega))
  have hk4 : ∀ k, k ≠ b + 4 → (w4.setCell ⟨b + 4, 0, none⟩ v1).heap[k]? = w4.heap[k]? := fun k hk => Below.heap_setCell _ _ _ _ (by intro e; exact hk (by simp at e; omega))
  have hall : ∀ k, k < b + 8 → k ≠ b + 3 → k ≠ b + 4 → (w4.setCell ⟨b + 4, 0, none⟩ v1).heap[k]? = W.heap[k]? := fun k h1 h2 h3 => (hk4 k h3).trans ((hka k h1).trans (hk3 k h2))
  have hb4 : w4.heap[b + 4]? = W.heap[b + 4]? := (hka (b + 4) (by omega)).trans (hk3 (b + 4) (by omega))
  have hc4 : w4.cell? ⟨b + 4, 0, none⟩ = some vo := (World.cell?_of_block (a := ⟨b + 4, 0, none⟩) hb4).trans h.c0
  have hne : v1.ownBlock ≠ some (b + 4) := ord_ne hrow (by omega)
  refine ⟨⟨?_, ?_, ?_, ?_, ?_, ?_, ?_, ?_, ?_, ?_, (hall (b + 2) (by omega) (by omega) (by omega)).trans h.res⟩, ?_, ?_⟩
  · exact (World.cell?_of_block (a := ⟨b, 0, none⟩) (hall b (by omega) (by omega) (by omega))).trans h.cg
  · exact (World.cell?_of_block (a := ⟨b + 1, 0, none⟩) (hall (b + 1) (by omega) (by omega) (by omega))).trans h.cwo
  · exact (World.cell?_of_block (a := ⟨b + 7, 0, none⟩) (hall (b + 7) (by omega) (by omega) (by omega))).trans h.cv
  · exact (World.cell?_of_block (a := ⟨b + 6, 0, none⟩) (hall (b + 6) (by omega) (by omega) (by omega))).trans h.cs
  · exact World.cell?_setCell_same' _ _ _ (by rw [hc4]; rfl)
  · rw [World.cell?_setCell_other _ _ _ _ (by simp)]
    exact (World.cell?_of_block (a := ⟨b + 4, 1, none⟩) hb4).trans h.c1
  · rw [World.frozen?_setCell]
    exact (World.frozen?_of_block (a := ⟨b + 4, 0, none⟩) hb4).trans h.f0
  · exact row_block h.seen (hall (b + 5) (by omega) (by omega) (by omega))
  · exact row_block hs ((hk4 (b + 3) (by omega)).trans (hka (b + 3) (by omega)))
  · have e : (st.1, st.2 ++ [(x : Int)]).2 = st.2 ++ [(x : Int)] := rfl
    rw [e, intsV_snoc, List.length_append]
    exact ownsRow_setCell_other hrow (a := ⟨b + 4, 0, none⟩) hne v1
  · have b1 : Below b W (W.setCell ⟨b + 3, x, none⟩ (.int .i64 (st.2.length : Int))) := (Below.refl b W).setCell (p := ⟨b + 3, x, none⟩) (by simp) _
    exact ((b1.alloc (by rw [hsz]; omega) o1).grown hg (by simp [hsz]; omega) (fun k e => by have := (h.ord.lt _ e).1; omega)).setCell (p := ⟨b + 4, 0, none⟩) (by simp) v1
  · exact (((KeepsOthers.setCell W ⟨b + 3, x, none⟩ _).trans (KeepsOthers.alloc _ o1)).trans (keepsOthers_append (ho3.alloc o1) hg)).trans (KeepsOthers.setCell _ _ _)

end Go.Proofs.Ythpmckfgngkbhaa

/- Walks: the iterator over references, to objects of a list. -/
namespace Go.Proofs.Ythpmckfgngkbhaa
set_option linter.unusedSimpArgs false
set_option linter.unusedVariables false
open Go.RowKit Go.Shelf
attribute [local go_sem] Oper.semAt_some

/-- The number of one of some objects. -/
abbrev ObS (S : List Int) := { x : Int // x ∈ S }

def obOfS (S : List Int) (v : V) : Option (ObS S) := if h : v.1 = true ∧ v.2 ∈ S then some ⟨v.2, h.2⟩ else none

def obsOfS (S : List Int) (l : List V) : List (ObS S) := l.filterMap (obOfS S)

def RefsOkS (S : List Int) (l : List V) : Prop := ∀ v ∈ l, v.1 = true → v.2 ∈ S

theorem obsOfS_no {S : List Int} {l : List V} {k : Nat} (hk : k < l.length) {n : Int} (h : l[k] = (false, n)) : obsOfS S (l.take (k + 1)) = obsOfS S (l.take k) := by
  rw [List.take_succ_eq_append_getElem hk, h]
  simp [obsOfS, obOfS]

theorem obsOfS_yes {S : List Int} {l : List V} {k : Nat} (hk : k < l.length) {n : Int} (h : l[k] = (true, n)) (hn : n ∈ S) : obsOfS S (l.take (k + 1)) = obsOfS S (l.take k) ++ [⟨n, hn⟩] := by
  rw [List.take_succ_eq_append_getElem hk, h]
  simp [obsOfS, obOfS, hn]

theorem obsOfS_len (S : List Int) (l : List V) : (obsOfS S l).length ≤ l.length := List.length_filterMap_le _ _

theorem obsOfS_prefix (S : List Int) (l : List V) (k : Nat) : obsOfS S (l.take k) <+: obsOfS S l := by
  refine ⟨obsOfS S (l.drop k), ?_⟩
  unfold obsOfS
  rw [← List.filterMap_append, List.take_append_drop]

def valsS {S : List Int} (xs : List (ObS S)) : List Int := xs.map (·.1)

theorem vals_obsS {S : List Int} (hN : ∀ x ∈ S, 0 ≤ x ∧ x < 24) : ∀ (l : List V), RefsOkS S l → valsS (obsOfS S l) = refsL l
  | [], _ => rfl
  | v :: l, h => by
    have ih := vals_obsS hN l (fun u hu => h u (by simp [hu]))
    unfold valsS obsOfS refsL valsOf obsOf at *
    rcases v with ⟨r, n⟩
    cases r
    · simpa [obOfS, obOf] using ih
    · have hn := h (true, n) (by simp) rfl
      have h24 : 0 ≤ n ∧ n < 24 := hN n hn
      simp at hn
      simp only [List.filterMap_cons]
      have e1 : obOfS S (true, n) = some ⟨n, hn⟩ := by simp [obOfS, hn]
      have e2 : obOf (true, n) = some ⟨n, h24⟩ := by simp [obOf, h24]
      rw [e1, e2]
      simp [ih]

def encS {S : List Int} (x : ObS S) : Array Value := #[.int .i64 x.1]

set_option maxRecDepth 100000 in
set_option maxHeartbeats 2000000 in
theorem refs1S_in {S : List Int} (hN : ∀ x ∈ S, 0 ≤ x ∧ x < 24) (n : Nat) (hn : 1 ≤ n) (l' Bs n₀ : Nat) (a : Option Addr) (cap : Nat) (l : List V) (hok : RefsOkS S l) (J Jx : List (ObS S) → World → Prop)
    (hY : ∀ pre x W, J pre W → pre.length < l.length → YieldAt Fence.wide (n - 1) Try.prog l' (encS x) W fun e W' =>
      (e = .returned (.bool true) ∧ J (pre ++ [x]) W' ∧ Below n₀ W W') ∨ (e = .returned (.bool false) ∧ Jx (pre ++ [x]) W'))
    (W : World) (hJa : ∀ pre X o, J pre X → J pre (X.alloc o)) (hn0 : n₀ ≤ W.heap.size) (hc0 : W.cell? ⟨Bs, 0, none⟩ = some (.slice a l.length cap))
    (hl : Vals n₀ W a l) (h0 : J [] W) :
    CallsIn Fence.wide n Try.prog 48 #[.func (.yield l') #[] #[], .pointer (some ⟨Bs, 0, none⟩)] W fun e W' => (∃ v, e = .returned v) ∧
      ((∃ ys, ys = obsOfS S l ∧ J ys W') ∨ (∃ pre, pre <+: obsOfS S l ∧ Jx pre W')) := by
  have hl1 := hl.1
  refine callsIn_of_wp Try.func48 rfl trivial ?_ rfl
  simp only [Try.ntmps48, List.size_toArray, List.length_cons, List.length_nil, Nat.reduceAdd, Nat.reduceSub, Array.replicate_succ, Array.replicate_zero, List.push_toArray, List.append_toArray, List.nil_append, List.cons_append]
  gi_wp2
  gi_loopw [7] (fun i wr => ∃ k : Nat, k ≤ l.length ∧ i = .int .i64 k ∧ J (obsOfS S (l.take k)) wr ∧ Below n₀ W wr) (fun i _ => l.length - (intOf i).toNat)
  case atStart => exact ⟨0, Nat.zero_le _, rfl, by simpa [obsOfS] using h0, Below.refl _ _⟩
  case round =>
    obtain ⟨k, hk, rfl, hJ, hb⟩ := hrel
    have hsz := hb.size
    by_cases hlt : k < l.length
    · obtain ⟨b, off, r, m, rfl, hbB, hd1, hd2, Hv⟩ := (hl.below hb).at hlt
      cases r
      · have HT := hide (obsOfS_no (S := S) hlt Hv.out)
        gi_wp2
        refine ⟨fun _ h => (by cases h), ?_⟩
        gi_wp2
        go_roundw
        case rel => exact ⟨k + 1, by omega, by go_num, by rw [unhide HT]; exact hJa _ _ _ hJ, hb.alloc (by omega) _⟩
        case measure => simp [intOf]; omega
      · have hm := hok l[k] (List.getElem_mem hlt)
        rw [Hv.out] at hm
        have hm := hm rfl
        have HT := hide (obsOfS_yes hlt Hv.out hm)
        have HP := hide (obsOfS_prefix S l (k + 1))
        obtain ⟨fn, tmps, assign, body, hy, hR⟩ := hY _ ⟨m, hm⟩ (wr.alloc (.cells #[.bool true, .int .i64 m] 54)) (hJa _ _ _ hJ) (by have := obsOfS_len S (l.take k); simp only [List.length_take] at this; omega)
        dsimp only [encS] at hy
        have hm1 : 0 ≤ m := (hN m hm).1
        have hm3 : m < 24 := (hN m hm).2
        gi_wp2
        refine hR.mono ?_
        rintro e W3 (⟨rfl, hJ3, hk3⟩ | ⟨rfl, hJx3⟩)
        · gi_wp2
          go_roundw
          case rel => exact ⟨k + 1, by omega, by go_num, by rw [unhide HT]; exact hJ3, (hb.alloc (by omega) _).trans hk3⟩
          case measure => simp [intOf]; omega
        · gi_wp2
          refine bodyPost_ret (results_none rfl _ _ _) rfl ?_
          exact ⟨⟨_, rfl⟩, .inr ⟨_, by rw [← unhide HT]; exact unhide HP, hJx3⟩⟩
    · obtain rfl : k = l.length := by omega
      rw [List.take_length] at hJ
      gi_wp2
      go_end0
      exact ⟨⟨_, rfl⟩, .inl ⟨_, rfl, hJ⟩⟩

theorem refs1S_stops {S : List Int} (hN : ∀ x ∈ S, 0 ≤ x ∧ x < 24) (n : Nat) (hn : 1 ≤ n) (Bs n₀ : Nat) (a : Option Addr) (cap : Nat) (l : List V) (hok : RefsOkS S l) (w : World) (hn0 : n₀ ≤ w.heap.size) (hBs : Bs < w.heap.size)
    (hc0 : w.cell? ⟨Bs, 0, none⟩ = some (.slice a l.length cap)) (hl : Vals n₀ w a l) :
    SeqStopsK Fence.wide n Try.prog 48 #[.pointer (some ⟨Bs, 0, none⟩)] encS (Below n₀) (fun ys => ys = obsOfS S l) (fun pre => pre <+: obsOfS S l) l.length w := fun l' J Jx W hW hJ _ hY h0 => by
  have := hW.size
  exact refs1S_in hN n hn l' Bs n₀ a cap l hok J Jx hY W (fun pre X o hj => hJ pre X _ none hj (World.grownBy_alloc X o none) (fun r e => by cases e)) (by omega)
    ((hW.cell (p := ⟨Bs, 0, none⟩) hBs).trans hc0) (hl.below (hW.mono hn0)) h0


end Go.Proofs.Ythpmckfgngkbhaa

/- A rule for a region that draws its order and writes: the operations that only read may come at any time, those that write stand in a chain. -/
namespace Go.Proofs.Ythpmckfgngkbhaa
set_option linter.unusedSimpArgs false
set_option linter.unusedVariables false
open Go.RowKit

section
variable {P : Program} {md : Region.Mode} {ops : Array Oper} {Q : Exit → Act → World → Prop}

theorem getD_both {l : Array Bool} {i : Nat} (hi : i < l.size) (h : l.getD i true = true) : l.getD i false = true := by
  simp [hi] at h ⊢; exact h

/-- Each operation waits for earlier ones alone: then, where none may come up, all are done. -/
theorem ready_none {listed : Array Bool} (hord : ∀ (i : Nat) (o : Oper), ops[i]? = some o → ∀ e ∈ o.after, e.on < i) (hsz : listed.size = ops.size) (h : Region.ready md ops listed = []) : ∀ i, i < ops.size → listed.getD i false = true := by
  intro i
  induction i using Nat.strongRecOn with
  | ind i ih =>
    intro hi
    refine getD_both (by omega) ?_
    cases hl : listed.getD i true with
    | true => rfl
    | false =>
      exfalso
      have hm : i ∈ Region.ready md ops listed := mem_ready.2 ⟨hl, ops[i], Array.getElem?_eq_getElem hi, fun e he _ => by
        have h1 := hord i _ (Array.getElem?_eq_getElem hi) e he
        exact ih e.on h1 (by omega)⟩
      rw [h] at hm
      cases hm

theorem count_less {listed : Array Bool} {i : Nat} (h : listed.getD i true = false) : (listed.setIfInBounds i true).toList.count false + 1 = listed.toList.count false := by
  have hi : i < listed.size := by
    rcases Nat.lt_or_ge i listed.size with h1 | h1
    · exact h1
    · simp [Array.getElem?_eq_none h1] at h
  have hv : listed[i] = false := by simpa [hi] using h
  have hpos : 0 < listed.toList.count false := List.count_pos_iff.2 (by rw [← hv]; simp)
  rw [Array.toList_setIfInBounds, List.count_set (by simpa using hi)]
  rw [if_pos (by simp [hv]), if_neg (by decide)]
  omega

theorem wpAny_inv (I : Array Bool → Act → World → Prop) (hsz : ∀ listed a w, I listed a w → listed.size = ops.size)
    (hstep : ∀ listed a w i, I listed a w → i ∈ Region.ready md ops listed → wpOp P ops Q i (I (listed.setIfInBounds i true)) a w)
    (hdone : ∀ listed a w, I listed a w → Region.ready md ops listed = [] → Q .normal a w) :
    ∀ (fuel : Nat) (listed : Array Bool) (a : Act) (w : World), listed.toList.count false ≤ fuel → I listed a w → wpAny P md ops Q fuel listed a w
  | 0, listed, a, w, hc, hI => by
    have hr : Region.ready md ops listed = [] := by
      cases hr : Region.ready md ops listed with
      | nil => rfl
      | cons x xs =>
        have hm : x ∈ Region.ready md ops listed := by rw [hr]; simp
        have := count_less (mem_ready.1 hm).1
        omega
    exact ⟨hr, hdone _ _ _ hI hr⟩
  | fuel + 1, listed, a, w, hc, hI =>
    ⟨hdone _ _ _ hI, fun i hi => wpOp_mono (fun a' w' h => wpAny_inv I hsz hstep hdone fuel _ a' w' (by have := count_less (mem_ready.1 hi).1; omega) h) (hstep _ _ _ _ hI hi)⟩

theorem wp_region_inv {id : Nat} {a : Act} {w : World} (hm : P.follows .mixedOrders = true) (I : Array Bool → Act → World → Prop) (hsz : ∀ listed a w, I listed a w → listed.size = ops.size)
    (h0 : I (Array.replicate ops.size false) a w.drew)
    (hstep : ∀ listed a w i, I listed a w → i ∈ Region.ready .any ops listed → wpOp P ops Q i (I (listed.setIfInBounds i true)) a w)
    (hdone : ∀ listed a w, I listed a w → Region.ready .any ops listed = [] → Q .normal a w) : (Code.region id ops true).wp P Q a w :=
  wp_region_any hm (wpAny_inv I hsz hstep hdone _ _ _ _ (by simp) h0)

/-- One operation, wanted, by its own step. -/
theorem wpOp_of {i : Nat} {o : Oper} {K : Act → World → Prop} {a : Act} {w : World} (ho : ops[i]? = some o) (hg : o.guard = none) (h : o.wp P a w K Q) : wpOp P ops Q i K a w := by
  unfold wpOp
  simp only [ho]
  rw [if_pos (by simp [Region.wanted, hg])]
  exact .inl h
end

/-- A frame that is another one but for some slots. -/
structure Agr (ds : List Nat) (a0 a : Act) : Prop where
  size : a.tmps.size = a0.tmps.size
  defers : a.defers = a0.defers
  same : ∀ k, k ∉ ds → a.tmps[k]? = a0.tmps[k]?

theorem Agr.refl (ds : List Nat) (a : Act) : Agr ds a a := ⟨rfl, rfl, fun _ _ => rfl⟩

theorem Agr.put {ds : List Nat} {a0 a : Act} (h : Agr ds a0 a) {d : Option Nat} (hd : ∀ x, d = some x → x ∈ ds) (v : Value) : Agr ds a0 (a.put d v) := by
  cases d with
  | none => exact h
  | some d =>
    refine ⟨by simp [Act.put, h.size], h.defers, fun k hk => ?_⟩
    have hne : d ≠ k := fun e => hk (e ▸ hd d rfl)
    simp only [Act.put, Array.getElem?_setIfInBounds_ne hne]
    exact h.same k hk

theorem Agr.tm {ds : List Nat} {a0 a : Act} (h : Agr ds a0 a) {k : Nat} (hk : k ∉ ds) : a.tmps[k]?.getD undef = a0.tmps[k]?.getD undef := by rw [h.same k hk]

theorem agr_ext {ds : List Nat} {a0 a b : Act} (ha : Agr ds a0 a) (hb : Agr ds a0 b) (h : ∀ d ∈ ds, a.tmps[d]?.getD undef = b.tmps[d]?.getD undef) : a = b := by
  obtain ⟨at', ad⟩ := a
  obtain ⟨bt, bd⟩ := b
  have e2 : ad = bd := (ha.defers).trans hb.defers.symm
  have hsz : at'.size = bt.size := (ha.size).trans hb.size.symm
  have e1 : at' = bt := by
    apply Array.ext'
    apply List.ext_getElem?
    intro k
    simp only [Array.getElem?_toList]
    by_cases hk : k ∈ ds
    · have := h k hk
      simp only at this
      by_cases hl : k < at'.size
      · rw [Array.getElem?_eq_getElem hl, Array.getElem?_eq_getElem (by omega)] at this ⊢
        simpa using this
      · rw [Array.getElem?_eq_none (by omega), Array.getElem?_eq_none (by omega)]
    · exact (ha.same k hk).trans (hb.same k hk).symm
  rw [e1, e2]

/-- The slot of an operation. -/
def dstAt (l : List Oper) (k : Nat) : Option Nat := (l[k]?).bind Oper.dst

/-- What an operation hands back: those of the chain what is told, the others what is known. -/
def valAt (T : List Nat) (val : Nat → Value) (vs : List Value) (k : Nat) : Value := match T.idxOf? k with
  | some j => vs.getD j undef
  | none => val k

def SlotOk (l : List Oper) (T : List Nat) (val : Nat → Value) (vs : List Value) (a : Act) (k : Nat) : Prop := ∀ d, dstAt l k = some d → a.tmps[d]?.getD undef = valAt T val vs k

/-- The frame behind them all. -/
def endAct (l : List Oper) (T : List Nat) (val : Nat → Value) (vs : List Value) (a0 : Act) : Nat → Act
  | 0 => a0
  | k + 1 => (endAct l T val vs a0 k).put (dstAt l k) (valAt T val vs k)

structure Laid (l : List Oper) (T : List Nat) (a0 : Act) : Prop where
  nd : ∀ i j d, dstAt l i = some d → dstAt l j = some d → i = j
  lt : ∀ i d, dstAt l i = some d → d < a0.tmps.size
  gd : ∀ o ∈ l, o.guard = none
  ord : ∀ (i : Nat) (o : Oper), l[i]? = some o → ∀ e ∈ o.after, e.on < i
  tnd : T.Nodup
  tlt : ∀ k ∈ T, k < l.length
  chain : ∀ j k k', T[j]? = some k → T[j + 1]? = some k' → ∃ (o : Oper) (e : Edge), l[k']? = some o ∧ e ∈ o.after ∧ Region.binds .any e = true ∧ e.on = k

theorem tm_put_same {a : Act} {d : Nat} (h : d < a.tmps.size) (v : Value) : (a.put (some d) v).tmps[d]?.getD undef = v := by
  simp [Act.put, h]
theorem tm_put_ne {a : Act} {d k : Nat} (h : d ≠ k) (v : Value) : (a.put (some d) v).tmps[k]?.getD undef = a.tmps[k]?.getD undef := by
  simp only [Act.put, Array.getElem?_setIfInBounds_ne h]

theorem size_put' (a : Act) (d : Option Nat) (v : Value) : (a.put d v).tmps.size = a.tmps.size := by cases d <;> simp [Act.put]

def dsOf (l : List Oper) : List Nat := l.filterMap Oper.dst

theorem mem_dsOf {l : List Oper} {d : Nat} : d ∈ dsOf l ↔ ∃ k, dstAt l k = some d := by
  unfold dsOf dstAt
  rw [List.mem_filterMap]
  constructor
  · rintro ⟨o, ho, hd⟩
    obtain ⟨k, hk⟩ := List.getElem?_of_mem ho
    exact ⟨k, by rw [hk]; exact hd⟩
  · rintro ⟨k, hk⟩
    cases ho : l[k]? with
    | none => rw [ho] at hk; cases hk
    | some o => rw [ho] at hk; exact ⟨o, List.mem_of_getElem? ho, hk⟩

theorem endAct_ok {l : List Oper} {T : List Nat} {val : Nat → Value} {vs : List Value} {a0 : Act} (hL : Laid l T a0) : ∀ n, Agr (dsOf l) a0 (endAct l T val vs a0 n) ∧ (endAct l T val vs a0 n).tmps.size = a0.tmps.size ∧ ∀ k, k < n → SlotOk l T val vs (endAct l T val vs a0 n) k
  | 0 => ⟨Agr.refl _ _, rfl, fun k h => by omega⟩
  | n + 1 => by
    obtain ⟨h1, h2, h3⟩ := endAct_ok hL n
    refine ⟨h1.put (fun x hx => mem_dsOf.2 ⟨n, hx⟩) _, by rw [endAct, size_put']; exact h2, fun k hk d hd => ?_⟩
    rw [endAct]
    by_cases e : k = n
    · subst e
      rw [hd]
      exact tm_put_same (by rw [h2]; exact hL.lt k d hd) _
    · cases hn : dstAt l n with
      | none => exact h3 k (by omega) d hd
      | some d' =>
        have hne : d' ≠ d := fun ee => e (hL.nd k n d hd (ee ▸ hn))
        rw [tm_put_ne hne]
        exact h3 k (by omega) d hd

theorem valAt_snoc {T : List Nat} {val : Nat → Value} {vs : List Value} {v : Value} {k : Nat} (h : ∀ j, T.idxOf? k = some j → j < vs.length) : valAt T val (vs ++ [v]) k = valAt T val vs k := by
  unfold valAt
  cases hj : T.idxOf? k with
  | none => rfl
  | some j =>
    have := h j hj
    simp only [List.getD_eq_getElem?_getD, List.getElem?_append_left this]

theorem hidx_get {T : List Nat} {j k : Nat} (h : T.idxOf? k = some j) : T[j]? = some k := by
  rw [List.idxOf?, List.findIdx?_eq_some_iff_getElem] at h
  obtain ⟨hl, he, _⟩ := h
  rw [List.getElem?_eq_getElem hl]
  simpa using he

theorem hidx_of {T : List Nat} (hn : T.Nodup) {j k : Nat} (h : T[j]? = some k) : T.idxOf? k = some j := by
  cases hx : T.idxOf? k with
  | none =>
    rw [List.idxOf?, List.findIdx?_eq_none_iff] at hx
    have := hx k (List.mem_of_getElem? h)
    simp at this
  | some j' =>
    have h' := hidx_get hx
    have hl := (List.getElem?_eq_some_iff.1 h).1
    have hl' := (List.getElem?_eq_some_iff.1 h').1
    have := (List.getElem?_inj hl hn).1 (h.trans h'.symm)
    rw [this]

theorem wp_region_hoist {P : Program} {Q : Exit → Act → World → Prop} {id : Nat} {w : World} {a0 : Act} (l : List Oper) (T : List Nat) (val : Nat → Value) (G : List Value → World → Prop) (hm : P.follows .mixedOrders = true) (hL : Laid l T a0)
    (hG : G [] w.drew)
    (hS : ∀ (i : Nat) (o : Oper), l[i]? = some o → i ∉ T → ∀ (vs : List Value) (a : Act) (w : World) (K : Act → World → Prop), G vs w → (∀ (j k : Nat) (o' : Oper), T[j]? = some k → l[k]? = some o' → (∃ e ∈ o'.after, Region.binds .any e = true ∧ e.on = i) → vs.length ≤ j) → Agr (dsOf l) a0 a → (∀ e ∈ o.after, Region.binds .any e = true → SlotOk l T val vs a e.on) → K (a.put o.dst (val i)) w → o.wp P a w K Q)
    (hT : ∀ (j i : Nat) (o : Oper), T[j]? = some i → l[i]? = some o → ∀ (vs : List Value) (a : Act) (w : World) (K : Act → World → Prop), vs.length = j → G vs w → Agr (dsOf l) a0 a → (∀ e ∈ o.after, Region.binds .any e = true → SlotOk l T val vs a e.on) → (∀ v w', G (vs ++ [v]) w' → K (a.put o.dst v) w') → o.wp P a w K Q)
    (hD : ∀ vs w', vs.length = T.length → G vs w' → Q .normal (endAct l T val vs a0 l.length) w') : (Code.region id l.toArray true).wp P Q a0 w := by
  refine wp_region_inv hm (fun listed a w => listed.size = l.length ∧ ∃ vs : List Value, vs.length ≤ T.length ∧ (∀ j k, T[j]? = some k → (listed.getD k false = true ↔ j < vs.length)) ∧ Agr (dsOf l) a0 a ∧ (∀ k, k < l.length → listed.getD k false = true → SlotOk l T val vs a k) ∧ (∀ (k : Nat) (o : Oper), l[k]? = some o → listed.getD k false = true → ∀ e ∈ o.after, Region.binds .any e = true → listed.getD e.on false = true) ∧ G vs w) (fun _ _ _ h => by simpa using h.1) ?_ ?_ ?_
  · have hrep : ∀ k, (Array.replicate l.toArray.size false).getD k false = false := by intro k; simp only [Array.getD_eq_getD_getElem?, Array.getElem?_replicate]; split <;> rfl
    refine ⟨by simp, [], by simp, fun j k _ => ?_, Agr.refl _ _, fun k _ h => ?_, fun k o _ h => ?_, hG⟩
    · rw [hrep]; simp
    · rw [hrep] at h; cases h
    · rw [hrep] at h; cases h
  · rintro listed a w i ⟨hsz, vs, hvl, hTl, hag, hsl, hcl, hg⟩ hi
    obtain ⟨hnl, o, ho, hdep⟩ := mem_ready.1 hi
    have ho' : l[i]? = some o := by simpa using ho
    have hil : i < l.length := (List.getElem?_eq_some_iff.1 ho').1
    have hgd := hL.gd o (List.mem_of_getElem? ho')
    have hdst : dstAt l i = o.dst := by unfold dstAt; rw [ho']; rfl
    have hdeps : ∀ e ∈ o.after, Region.binds .any e = true → SlotOk l T val vs a e.on := fun e he hb => hsl e.on (by have := hL.ord i o ho' e he; omega) (hdep e he hb)
    have hnf : listed.getD i false = false := by
      cases h : listed.getD i false with
      | false => rfl
      | true =>
        exfalso
        have hlt : i < listed.size := by omega
        simp [hlt] at h hnl
        rw [h] at hnl; cases hnl
    have hset : ∀ k, (listed.setIfInBounds i true).getD k false = if k = i then true else listed.getD k false := by
      intro k
      by_cases e : k = i
      · subst e; have : k < listed.size := by omega
        simp [this]
      · rw [if_neg e]
        simp only [Array.getD_eq_getD_getElem?, Array.getElem?_setIfInBounds_ne (fun h => e h.symm)]
    have hcl' : ∀ (k : Nat) (o : Oper), l[k]? = some o → (listed.setIfInBounds i true).getD k false = true → ∀ e ∈ o.after, Region.binds .any e = true → (listed.setIfInBounds i true).getD e.on false = true := by
      intro k o2 hk hkl e he hb
      rw [hset] at hkl ⊢
      by_cases e2 : e.on = i
      · rw [if_pos e2]
      · rw [if_neg e2]
        by_cases e1 : k = i
        · subst e1
          rw [ho'] at hk; injection hk with hk; subst hk
          exact hdep e he hb
        · rw [if_neg e1] at hkl
          exact hcl k o2 hk hkl e he hb
    have haput : ∀ v, Agr (dsOf l) a0 (a.put o.dst v) := fun v => hag.put (fun x hx => mem_dsOf.2 ⟨i, by rw [hdst]; exact hx⟩) v
    refine wpOp_of ho hgd ?_
    by_cases hiT : i ∈ T
    · obtain ⟨j, hj⟩ := List.getElem?_of_mem hiT
      have hjl : j = vs.length := by
        have h1 : ¬ j < vs.length := fun h => by have := (hTl j i hj).2 h; rw [hnf] at this; cases this
        cases j with
        | zero => omega
        | succ j =>
          have hjl := (List.getElem?_eq_some_iff.1 hj).1
          obtain ⟨k, hk⟩ : ∃ k, T[j]? = some k := ⟨T[j], List.getElem?_eq_getElem (by omega)⟩
          obtain ⟨o2, e, ho2, he, hb, hek⟩ := hL.chain j k i hk hj
          rw [ho'] at ho2; injection ho2 with ho2; subst ho2
          have h2 := (hTl j k hk).1 (by rw [← hek]; exact hdep e he hb)
          omega
      refine hT j i o hj ho' vs a w _ hjl.symm hg hag hdeps fun v w' hg' => ?_
      have hjT := (List.getElem?_eq_some_iff.1 hj).1
      refine ⟨by simp [hsz], vs ++ [v], by simp; omega, fun j' k hk => ?_, haput v, fun k hk hkl d hd => ?_, hcl', hg'⟩
      · rw [hset k]
        by_cases e : k = i
        · subst e
          rw [if_pos rfl]
          have : j' = j := by
            have h1 := hidx_of hL.tnd hk
            have h2 := hidx_of hL.tnd hj
            rw [h1] at h2; injection h2
          simp; omega
        · rw [if_neg e, hTl j' k hk]
          have : j' ≠ j := fun ee => by subst ee; rw [hj] at hk; injection hk with hk; exact e hk.symm
          simp; omega
      · rw [hset k] at hkl
        by_cases e : k = i
        · subst e
          have hdd : o.dst = some d := by rw [← hdst]; exact hd
          rw [hdd, tm_put_same (by rw [hag.size]; exact hL.lt k d hd)]
          unfold valAt
          rw [hidx_of hL.tnd hj]
          simp [hjl]
        · rw [if_neg e] at hkl
          have h1 := hsl k hk hkl d hd
          rw [valAt_snoc (fun j' hj' => (hTl j' k (hidx_get hj')).1 hkl)]
          cases hn : o.dst with
          | none => exact h1
          | some d' =>
            have hne : d' ≠ d := fun ee => e (hL.nd k i d hd (by rw [hdst, hn, ee]))
            rw [tm_put_ne hne]
            exact h1
    · have hlate : ∀ (j k : Nat) (o' : Oper), T[j]? = some k → l[k]? = some o' → (∃ e ∈ o'.after, Region.binds .any e = true ∧ e.on = i) → vs.length ≤ j := by
        rintro j k o2 hj hk ⟨e, he, hb, hei⟩
        refine Classical.byContradiction fun hc => ?_
        have hkl := (hTl j k hj).2 (by omega)
        have := hcl k o2 hk hkl e he hb
        rw [hei, hnf] at this
        cases this
      refine hS i o ho' hiT vs a w _ hg hlate hag hdeps ?_
      refine ⟨by simp [hsz], vs, hvl, fun j' k hk => ?_, haput _, fun k hk hkl d hd => ?_, hcl', hg⟩
      · have hne : ¬ k = i := fun e => hiT (e ▸ List.mem_of_getElem? hk)
        rw [hset k, if_neg hne]
        exact hTl j' k hk
      · rw [hset k] at hkl
        by_cases e : k = i
        · subst e
          have hdd : o.dst = some d := by rw [← hdst]; exact hd
          rw [hdd, tm_put_same (by rw [hag.size]; exact hL.lt k d hd)]
          unfold valAt
          cases hx : T.idxOf? k with
          | none => rfl
          | some j => exact absurd (List.mem_of_getElem? (hidx_get hx)) hiT
        · rw [if_neg e] at hkl
          have h1 := hsl k hk hkl d hd
          cases hn : o.dst with
          | none => exact h1
          | some d' =>
            have hne : d' ≠ d := fun ee => e (hL.nd k i d hd (by rw [hdst, hn, ee]))
            rw [tm_put_ne hne]
            exact h1
  · rintro listed a w ⟨hsz, vs, hvl, hTl, hag, hsl, hcl, hg⟩ hr
    have hall := ready_none (ops := l.toArray) (md := .any) (fun i o ho => hL.ord i o (by simpa using ho)) (by simpa using hsz) hr
    have hvT : vs.length = T.length := by
      refine Nat.le_antisymm hvl ?_
      refine Classical.byContradiction fun hc => ?_
      obtain ⟨k, hk⟩ : ∃ k, T[vs.length]? = some k := ⟨T[vs.length], List.getElem?_eq_getElem (by omega)⟩
      have := (hTl _ k hk).1 (hall k (by have := hL.tlt k (List.mem_of_getElem? hk); simpa using this))
      omega
    obtain ⟨e1, e2, e3⟩ := endAct_ok (val := val) (vs := vs) hL l.length
    have hae : a = endAct l T val vs a0 l.length := by
      refine agr_ext hag e1 fun d hd => ?_
      obtain ⟨k, hk⟩ := mem_dsOf.1 hd
      have hkl : k < l.length := by
        unfold dstAt at hk
        cases ho : l[k]? with
        | none => rw [ho] at hk; cases hk
        | some o => exact (List.getElem?_eq_some_iff.1 ho).1
      rw [hsl k hkl (hall k (by simpa using hkl)) d hk, e3 k hkl d hk]
    rw [hae]
    exact hD vs w hvT hg

/-- All that the rule asks of the operations, by a test. -/
def laidB (l : List Oper) (T : List Nat) (n : Nat) : Bool :=
  ((List.range l.length).all fun i => (List.range l.length).all fun j => i == j || (dstAt l i).isNone || dstAt l i != dstAt l j) &&
  ((List.range l.length).all fun i => match dstAt l i with | none => true | some d => decide (d < n)) &&
  (l.all fun o => o.guard.isNone) &&
  ((List.range l.length).all fun i => match l[i]? with | none => true | some o => o.after.toList.all fun e => decide (e.on < i)) &&
  decide T.Nodup && (T.all fun k => decide (k < l.length)) &&
  ((List.range (T.length - 1)).all fun j => match l[T.getD (j + 1) 0]? with | none => false | some o => o.after.toList.any fun e => Region.binds .any e && e.on == T.getD j 0)

theorem dstAt_lt {l : List Oper} {k d : Nat} (h : dstAt l k = some d) : k < l.length := by
  unfold dstAt at h
  cases ho : l[k]? with
  | none => rw [ho] at h; cases h
  | some o => exact (List.getElem?_eq_some_iff.1 ho).1

theorem laid_of {l : List Oper} {T : List Nat} {a0 : Act} (h : laidB l T a0.tmps.size = true) : Laid l T a0 := by
  unfold laidB at h
  simp only [Bool.and_eq_true] at h
  obtain ⟨⟨⟨⟨⟨⟨h1, h2⟩, h3⟩, h4⟩, h5⟩, h6⟩, h7⟩ := h
  refine ⟨fun i j d hi hj => ?_, fun i d hi => ?_, fun o ho => ?_, fun i o ho e he => ?_, by simpa using h5, fun k hk => ?_, fun j k k' hk hk' => ?_⟩
  · have := List.all_eq_true.1 (List.all_eq_true.1 h1 i (List.mem_range.2 (dstAt_lt hi))) j (List.mem_range.2 (dstAt_lt hj))
    rw [hi, hj] at this
    simpa using this
  · have := List.all_eq_true.1 h2 i (List.mem_range.2 (dstAt_lt hi))
    rw [hi] at this
    simpa using this
  · have := List.all_eq_true.1 h3 o ho
    simpa using this
  · have := List.all_eq_true.1 h4 i (List.mem_range.2 (List.getElem?_eq_some_iff.1 ho).1)
    rw [ho] at this
    have := List.all_eq_true.1 this e (by simpa using he)
    simpa using this
  · have := List.all_eq_true.1 h6 k hk
    simpa using this
  · have hl := (List.getElem?_eq_some_iff.1 hk').1
    have := List.all_eq_true.1 h7 j (List.mem_range.2 (by omega))
    simp only [List.getD_eq_getElem?_getD, hk, hk', Option.getD_some] at this
    cases ho : l[k']? with
    | none => rw [ho] at this; cases this
    | some o =>
      rw [ho] at this
      obtain ⟨e, he, hb⟩ := List.any_eq_true.1 this
      simp only [Bool.and_eq_true, beq_iff_eq] at hb
      exact ⟨o, e, rfl, by simpa using he, hb.1, hb.2⟩

/-- A call. -/
theorem op_call {P : Program} {o : Oper} {a : Act} {w : World} {K : Act → World → Prop} {Q : Exit → Act → World → Prop} (f : FuncId) (args : Array Value)
    (hex : (execOp a.eval o).run P w = .ok (.enter f args) w) (hc : Calls P f args w fun e w' => ∃ v, e = .returned v ∧ K (a.put o.dst v) w') : Oper.wp P o a w K Q := by
  unfold Oper.wp
  rw [hex, Oper.upon_enter]
  refine hc.mono ?_
  rintro e w' ⟨v, rfl, hr⟩
  exact hr

/-- An append to a row of the call's own. -/
theorem op_append {P : Program} {o : Oper} {a : Act} {w : World} {K : Act → World → Prop} {Q : Exit → Act → World → Prop} (s x : Operand) (t : TypeId)
    (ho : o.op = .call { callee := .builtin .append, args := #[s, x], argTypes := #[t, t] })
    (base : Nat) (e : TypeId) (i : TypeInfo) (z : Value) (size bytes : Nat) (ht : P.underlying t = some (.slice e)) (hi : P.info? e = some i) (hz : i.zero = some z)
    (hsize : i.size = size) (hby : i.bytes = bytes) (hzs : z.cells.size = size) (hsz : 0 < size)
    (v : Value) (n : Nat) (xs : List Value) (hs : a.eval s = v) (hown : w.ownsRow base e size v n xs)
    (ad : Addr) (m c : Nat) (news : List Value) (hx : a.eval x = .slice (some ad) m c) (hl : news.length = m * size) (hnews : ∀ j u, news[j]? = some u → w.cell? (ad.add j) = some u) (h1 : ∀ u ∈ news, u.oneCell' = true)
    (h63 : n + m ≤ maxLen) (hbytes : (n + m) * bytes ≤ 140737488355328) (hbase : base ≤ w.heap.size)
    (h : ∀ v' w', w'.ownsRow base e size v' (n + m) (xs ++ news) → w.grownBy w' v.ownBlock → (v'.ownBlock = v.ownBlock ∨ v'.ownBlock = some w.heap.size) → K (a.put o.dst v') w') :
    Oper.wp P o a w K Q := by
  obtain ⟨v', w', hr, h2, h3, _, h5⟩ := run_append_own_at (P := P) w base t o.type e i z size bytes ht hi hz hsize hby hzs hsz v n xs hown ad m c news hl hnews h1 h63 hbytes hbase
  unfold Oper.wp execOp
  simp only [ho, resolve, invoke, builtin, Sem.run_bind, Sem.run_pure, Result.andThen_ok, List.map_toArray, List.map_cons, List.map_nil, hs, hx, hr]
  exact h v' w' h2 h3 h5

end Go.Proofs.Ythpmckfgngkbhaa

/- A rule: a region of a round that draws its order: reads, then a tail in order. -/
namespace Go.Proofs.Ythpmckfgngkbhaa
set_option linter.unusedSimpArgs false
set_option linter.unusedVariables false
open Go

def isDefer : Op → Bool
  | .defer _ => true
  | _ => false

def noDefers (ops : List Oper) : Bool := ops.all fun o => !isDefer o.op

section
variable {l n : Nat} {P : Program} {ops : Array Oper} {md : Region.Mode} {w : World}

theorem opWpIn_of_still {o : Oper} {a : Act} {K : Act → Prop} {K' : Act → World → Prop} {Q' : Exit → Act → World → Prop} (hd : isDefer o.op = false) (h : ∀ a, K a → K' a w) (hh : o.still P a w K) :
    o.wpIn (Fence.wide.inRound l) n P a w K' Q' := by
  refine ⟨fun _ _ => trivial, ?_⟩
  rw [Oper.semAt_eq _ _ _ (fun c hc => by rw [hc] at hd; cases hd)]
  unfold Oper.still at hh
  generalize (execOp a.eval o).run P w = r at *
  cases r with
  | ok x w' =>
    cases x <;> simp only [Oper.stillUpon] at hh <;> simp only [Oper.uponIn]
    case enter f args =>
      obtain ⟨rfl, v, hc, hn⟩ := hh
      refine ⟨fun hs => by simp [Fence.wide] at hs, ?_⟩
      exact CallsIn.inRound l (callsIn_wide.2 (hc.mono fun e w'' ⟨he, hw⟩ => by subst he; subst hw; exact h _ hn))
    all_goals (obtain ⟨rfl, h2⟩ := hh; exact h _ h2)
  | halt x w' => simp only [Oper.stillUpon] at hh

theorem wpOpIn_of_stOp {i : Nat} {a : Act} {K : Act → Prop} {K' : Act → World → Prop} {Q' : Exit → Act → World → Prop} (hd : ∀ o ∈ ops.toList, isDefer o.op = false) (h : ∀ a, K a → K' a w) (hh : stOp P ops w i K a) :
    wpOpIn (Fence.wide.inRound l) n P ops Q' i K' a w := by
  unfold stOp at hh
  unfold wpOpIn
  split
  · rename_i ho; simp only [ho] at hh; exact h _ hh
  · rename_i o ho
    simp only [ho] at hh
    have hm : o ∈ ops.toList := by rw [Array.mem_toList_iff]; exact Array.mem_of_getElem? ho
    split
    · rename_i hw; simp only [hw, if_true] at hh; exact opWpIn_of_still (hd o hm) h hh
    · rename_i hw; simp only [hw] at hh; exact ⟨fun _ _ => trivial, h _ hh⟩

theorem wpAnyIn_of_head {k g : Nat} {L : Array Bool → Act → Prop} {Q' : Exit → Act → World → Prop} (hd : ∀ o ∈ ops.toList, isDefer o.op = false)
    (hL : ∀ listed a, L listed a → wpAnyIn (Fence.wide.inRound l) n P md ops Q' g listed a w) :
    ∀ (f : Nat) (listed : Array Bool) (a : Act), wpAnyL P md ops w k L f listed a → wpAnyIn (Fence.wide.inRound l) n P md ops Q' (f + g) listed a w
  | 0, listed, a, h => by rw [Nat.zero_add]; exact hL _ _ h
  | f + 1, listed, a, h => by
    rw [show f + 1 + g = (f + g) + 1 by omega]
    exact ⟨fun h0 => absurd h0 h.1, fun i hi => wpOpIn_of_stOp hd (fun a' h' => wpAnyIn_of_head hd hL f _ a' h') (h.2 i hi).2⟩

theorem wpAnyIn_of_seq {F : Fence} {Q' : Exit → Act → World → Prop} : ∀ (ls : List Oper) (k : Nat) (listed : Array Bool) (a : Act) (w : World), (∀ j, ls[j]? = ops[k + j]?) →
    Region.seqB md ops ls.length k listed = true → wpListIn F n P ops Q' ls a w → wpAnyIn F n P md ops Q' ls.length listed a w
  | [], _, _, _, _, _, hB, h => ⟨by simpa [Region.seqB] using hB, h⟩
  | o :: ls, k, listed, a, w, hl, hB, h => by
    have h0 : ops[k]? = some o := by simpa using (hl 0).symm
    simp only [List.length_cons, Region.seqB, Bool.and_eq_true, decide_eq_true_eq] at hB
    refine ⟨fun h1 => (by rw [hB.1] at h1; cases h1), fun i hi => ?_⟩
    rw [hB.1] at hi
    have hik : i = k := by simpa using hi
    subst hik
    have hw : wpOpIn F n P ops Q' i (wpListIn F n P ops Q' ls) a w := by unfold wpOpIn; simp only [h0]; exact h
    exact wpOpIn_mono (fun a' w' h' => wpAnyIn_of_seq ls (i + 1) _ a' w' (fun j => by have := hl (j + 1); simpa [Nat.add_assoc, Nat.add_comm 1 j] using this) hB.2 h') hw

theorem wpIn_region_still_tail {id : Nat} {Q : Exit → Act → World → Prop} {a : Act} {ls : List Oper} (k : Nat) (hm : P.follows .mixedOrders = true) (hB : Region.lexTailB .any ls.toArray k = true) (hd : noDefers ls = true)
    (h : wpStill P ls.toArray { w with drawn := w.drawn + 1 } (fun a' => wpListIn (Fence.wide.inRound l) n P ls.toArray Q (ls.drop k) a' { w with drawn := w.drawn + 1 }) (ls.take k) a) :
    (Code.region id ls.toArray true).wpIn (Fence.wide.inRound l) n P Q a w := by
  simp only [Region.lexTailB, Bool.and_eq_true, decide_eq_true_eq] at hB
  obtain ⟨⟨⟨⟨hsel, hn⟩, hs⟩, hc⟩, hlex⟩ := hB
  have hn' : k < ls.length := by simpa using hn
  have htl : (ls.take k).length = k := by simp; omega
  have hdl : (ls.drop k).length = ls.toArray.size - k := by simp
  have hd' : ∀ o ∈ ls.toArray.toList, isDefer o.op = false := by
    intro o ho
    have := List.all_eq_true.1 hd o (by simpa using ho)
    simpa using this
  have inv0 : HeadInv .any ls.toArray k (Array.replicate ls.toArray.size false) :=
    ⟨by simp, fun j oj _ hl => (by rw [getD_replicate_false] at hl; cases hl), fun t _ ht => getD_in (by simpa using ht) (getD_replicate_false _ _)⟩
  have H := wpAnyL_lex (md := .any) (g := ls.toArray.size - k) hsel hs hc hn (ls.take k) 0 _ a (fun j hj => by
    have hj' : j < k := by rw [htl] at hj; exact hj
    simp [hj']) (by simpa using htl) inv0 (by rw [htl]; exact hlex) h
  refine wpIn_region_any hm ?_
  have := wpAnyIn_of_head (l := l) (n := n) (Q' := Q) (g := ls.toArray.size - k) hd' (fun listed a' hL => by
    have := wpAnyIn_of_seq (F := Fence.wide.inRound l) (n := n) (md := .any) (Q' := Q) (ls.drop k) k listed a' { w with drawn := w.drawn + 1 } (fun j => by simp [List.getElem?_drop]) (by rw [hdl]; exact hL.1) hL.2
    rwa [hdl] at this) _ _ _ H
  rw [htl, show k + (ls.toArray.size - k) = ls.toArray.size by omega] at this
  exact this
end

end Go.Proofs.Ythpmckfgngkbhaa

/- The rule for a region of a round that draws its order and writes. -/
namespace Go.Proofs.Ythpmckfgngkbhaa
set_option linter.unusedSimpArgs false
set_option linter.unusedVariables false
open Go Go.RowKit

section
variable {l n : Nat} {P : Program} {ops : Array Oper} {md : Region.Mode} {Q : Exit → Act → World → Prop}

theorem opWpIn_of_wp {o : Oper} {a : Act} {w : World} {K : Act → World → Prop} (hd : isDefer o.op = false) (h : o.wp P a w K Q) : o.wpIn (Fence.wide.inRound l) n P a w K Q := by
  refine ⟨fun _ _ => trivial, ?_⟩
  rw [Oper.semAt_eq _ _ _ (fun c hc => by rw [hc] at hd; cases hd)]
  unfold Oper.wp at h
  generalize (execOp a.eval o).run P w = r at *
  cases r with
  | ok x w' =>
    cases x <;> simp only [Oper.upon] at h <;> simp only [Oper.uponIn]
    case enter f args =>
      refine ⟨fun hs => by simp [Fence.wide] at hs, ?_⟩
      exact CallsIn.inRound l (callsIn_wide.2 h)
    case row row args =>
      refine ⟨fun hs => by simp [Fence.wide] at hs, ?_⟩
      have h2 : RowsIn Fence.wide (n - 1) P row args w' _ := fun c cs _ => by
        obtain ⟨v, w'', r, s⟩ := h c cs
        exact ⟨v, w'', r, stepsIn_wide.2 s⟩
      exact h2
    all_goals exact h
  | halt x w' =>
    cases x <;> simp only [Oper.upon] at h <;> simp only [Oper.uponIn]
    all_goals exact h

theorem wpOpIn_of {i : Nat} {o : Oper} {K : Act → World → Prop} {a : Act} {w : World} (ho : ops[i]? = some o) (hg : o.guard = none) (hd : isDefer o.op = false) (h : o.wp P a w K Q) : wpOpIn (Fence.wide.inRound l) n P ops Q i K a w := by
  unfold wpOpIn
  simp only [ho]
  rw [if_pos (by simp [Region.wanted, hg])]
  exact opWpIn_of_wp hd h

theorem wpAnyIn_inv {F : Fence} (I : Array Bool → Act → World → Prop) (hsz : ∀ listed a w, I listed a w → listed.size = ops.size)
    (hstep : ∀ listed a w i, I listed a w → i ∈ Region.ready md ops listed → wpOpIn F n P ops Q i (I (listed.setIfInBounds i true)) a w)
    (hdone : ∀ listed a w, I listed a w → Region.ready md ops listed = [] → Q .normal a w) :
    ∀ (fuel : Nat) (listed : Array Bool) (a : Act) (w : World), listed.toList.count false ≤ fuel → I listed a w → wpAnyIn F n P md ops Q fuel listed a w
  | 0, listed, a, w, hc, hI => by
    have hr : Region.ready md ops listed = [] := by
      cases hr : Region.ready md ops listed with
      | nil => rfl
      | cons x xs =>
        have hm : x ∈ Region.ready md ops listed := by rw [hr]; simp
        have := count_less (mem_ready.1 hm).1
        omega
    exact ⟨hr, hdone _ _ _ hI hr⟩
  | fuel + 1, listed, a, w, hc, hI =>
    ⟨hdone _ _ _ hI, fun i hi => wpOpIn_mono (fun a' w' h => wpAnyIn_inv I hsz hstep hdone fuel _ a' w' (by have := count_less (mem_ready.1 hi).1; omega) h) (hstep _ _ _ _ hI hi)⟩

theorem wpIn_region_inv {F : Fence} {id : Nat} {a : Act} {w : World} (hm : P.follows .mixedOrders = true) (I : Array Bool → Act → World → Prop) (hsz : ∀ listed a w, I listed a w → listed.size = ops.size)
    (h0 : I (Array.replicate ops.size false) a w.drew)
    (hstep : ∀ listed a w i, I listed a w → i ∈ Region.ready .any ops listed → wpOpIn F n P ops Q i (I (listed.setIfInBounds i true)) a w)
    (hdone : ∀ listed a w, I listed a w → Region.ready .any ops listed = [] → Q .normal a w) : (Code.region id ops true).wpIn F n P Q a w :=
  wpIn_region_any hm (wpAnyIn_inv I hsz hstep hdone _ _ _ _ (by simp) h0)
end

theorem wpIn_region_hoist {lv nv : Nat} {P : Program} {Q : Exit → Act → World → Prop} {id : Nat} {w : World} {a0 : Act} (l : List Oper) (T : List Nat) (val : Nat → Value) (G : List Value → World → Prop) (hm : P.follows .mixedOrders = true) (hdf : noDefers l = true) (hL : Laid l T a0)
    (hG : G [] w.drew)
    (hS : ∀ (i : Nat) (o : Oper), l[i]? = some o → i ∉ T → ∀ (vs : List Value) (a : Act) (w : World) (K : Act → World → Prop), G vs w → (∀ (j k : Nat) (o' : Oper), T[j]? = some k → l[k]? = some o' → (∃ e ∈ o'.after, Region.binds .any e = true ∧ e.on = i) → vs.length ≤ j) → Agr (dsOf l) a0 a → (∀ e ∈ o.after, Region.binds .any e = true → SlotOk l T val vs a e.on) → K (a.put o.dst (val i)) w → o.wp P a w K Q)
    (hT : ∀ (j i : Nat) (o : Oper), T[j]? = some i → l[i]? = some o → ∀ (vs : List Value) (a : Act) (w : World) (K : Act → World → Prop), vs.length = j → G vs w → Agr (dsOf l) a0 a → (∀ e ∈ o.after, Region.binds .any e = true → SlotOk l T val vs a e.on) → (∀ v w', G (vs ++ [v]) w' → K (a.put o.dst v) w') → o.wp P a w K Q)
    (hD : ∀ vs w', vs.length = T.length → G vs w' → Q .normal (endAct l T val vs a0 l.length) w') : (Code.region id l.toArray true).wpIn (Fence.wide.inRound lv) nv P Q a0 w := by
  refine wpIn_region_inv hm (fun listed a w => listed.size = l.length ∧ ∃ vs : List Value, vs.length ≤ T.length ∧ (∀ j k, T[j]? = some k → (listed.getD k false = true ↔ j < vs.length)) ∧ Agr (dsOf l) a0 a ∧ (∀ k, k < l.length → listed.getD k false = true → SlotOk l T val vs a k) ∧ (∀ (k : Nat) (o : Oper), l[k]? = some o → listed.getD k false = true → ∀ e ∈ o.after, Region.binds .any e = true → listed.getD e.on false = true) ∧ G vs w) (fun _ _ _ h => by simpa using h.1) ?_ ?_ ?_
  · have hrep : ∀ k, (Array.replicate l.toArray.size false).getD k false = false := by intro k; simp only [Array.getD_eq_getD_getElem?, Array.getElem?_replicate]; split <;> rfl
    refine ⟨by simp, [], by simp, fun j k _ => ?_, Agr.refl _ _, fun k _ h => ?_, fun k o _ h => ?_, hG⟩
    · rw [hrep]; simp
    · rw [hrep] at h; cases h
    · rw [hrep] at h; cases h
  · rintro listed a w i ⟨hsz, vs, hvl, hTl, hag, hsl, hcl, hg⟩ hi
    obtain ⟨hnl, o, ho, hdep⟩ := mem_ready.1 hi
    have ho' : l[i]? = some o := by simpa using ho
    have hil : i < l.length := (List.getElem?_eq_some_iff.1 ho').1
    have hgd := hL.gd o (List.mem_of_getElem? ho')
    have hdst : dstAt l i = o.dst := by unfold dstAt; rw [ho']; rfl
    have hdeps : ∀ e ∈ o.after, Region.binds .any e = true → SlotOk l T val vs a e.on := fun e he hb => hsl e.on (by have := hL.ord i o ho' e he; omega) (hdep e he hb)
    have hnf : listed.getD i false = false := by
      cases h : listed.getD i false with
      | false => rfl
      | true =>
        exfalso
        have hlt : i < listed.size := by omega
        simp [hlt] at h hnl
        rw [h] at hnl; cases hnl
    have hset : ∀ k, (listed.setIfInBounds i true).getD k false = if k = i then true else listed.getD k false := by
      intro k
      by_cases e : k = i
      · subst e; have : k < listed.size := by omega
        simp [this]
      · rw [if_neg e]
        simp only [Array.getD_eq_getD_getElem?, Array.getElem?_setIfInBounds_ne (fun h => e h.symm)]
    have hcl' : ∀ (k : Nat) (o : Oper), l[k]? = some o → (listed.setIfInBounds i true).getD k false = true → ∀ e ∈ o.after, Region.binds .any e = true → (listed.setIfInBounds i true).getD e.on false = true := by
      intro k o2 hk hkl e he hb
      rw [hset] at hkl ⊢
      by_cases e2 : e.on = i
      · rw [if_pos e2]
      · rw [if_neg e2]
        by_cases e1 : k = i
        · subst e1
          rw [ho'] at hk; injection hk with hk; subst hk
          exact hdep e he hb
        · rw [if_neg e1] at hkl
          exact hcl k o2 hk hkl e he hb
    have haput : ∀ v, Agr (dsOf l) a0 (a.put o.dst v) := fun v => hag.put (fun x hx => mem_dsOf.2 ⟨i, by rw [hdst]; exact hx⟩) v
    refine wpOpIn_of ho hgd (by have := List.all_eq_true.1 hdf o (List.mem_of_getElem? ho'); simpa using this) ?_
    by_cases hiT : i ∈ T
    · obtain ⟨j, hj⟩ := List.getElem?_of_mem hiT
      have hjl : j = vs.length := by
        have h1 : ¬ j < vs.length := fun h => by have := (hTl j i hj).2 h; rw [hnf] at this; cases this
        cases j with
        | zero => omega
        | succ j =>
          have hjl := (List.getElem?_eq_some_iff.1 hj).1
          obtain ⟨k, hk⟩ : ∃ k, T[j]? = some k := ⟨T[j], List.getElem?_eq_getElem (by omega)⟩
          obtain ⟨o2, e, ho2, he, hb, hek⟩ := hL.chain j k i hk hj
          rw [ho'] at ho2; injection ho2 with ho2; subst ho2
          have h2 := (hTl j k hk).1 (by rw [← hek]; exact hdep e he hb)
          omega
      refine hT j i o hj ho' vs a w _ hjl.symm hg hag hdeps fun v w' hg' => ?_
      have hjT := (List.getElem?_eq_some_iff.1 hj).1
      refine ⟨by simp [hsz], vs ++ [v], by simp; omega, fun j' k hk => ?_, haput v, fun k hk hkl d hd => ?_, hcl', hg'⟩
      · rw [hset k]
        by_cases e : k = i
        · subst e
          rw [if_pos rfl]
          have : j' = j := by
            have h1 := hidx_of hL.tnd hk
            have h2 := hidx_of hL.tnd hj
            rw [h1] at h2; injection h2
          simp; omega
        · rw [if_neg e, hTl j' k hk]
          have : j' ≠ j := fun ee => by subst ee; rw [hj] at hk; injection hk with hk; exact e hk.symm
          simp; omega
      · rw [hset k] at hkl
        by_cases e : k = i
        · subst e
          have hdd : o.dst = some d := by rw [← hdst]; exact hd
          rw [hdd, tm_put_same (by rw [hag.size]; exact hL.lt k d hd)]
          unfold valAt
          rw [hidx_of hL.tnd hj]
          simp [hjl]
        · rw [if_neg e] at hkl
          have h1 := hsl k hk hkl d hd
          rw [valAt_snoc (fun j' hj' => (hTl j' k (hidx_get hj')).1 hkl)]
          cases hn : o.dst with
          | none => exact h1
          | some d' =>
            have hne : d' ≠ d := fun ee => e (hL.nd k i d hd (by rw [hdst, hn, ee]))
            rw [tm_put_ne hne]
            exact h1
    · have hlate : ∀ (j k : Nat) (o' : Oper), T[j]? = some k → l[k]? = some o' → (∃ e ∈ o'.after, Region.binds .any e = true ∧ e.on = i) → vs.length ≤ j := by
        rintro j k o2 hj hk ⟨e, he, hb, hei⟩
        refine Classical.byContradiction fun hc => ?_
        have hkl := (hTl j k hj).2 (by omega)
        have := hcl k o2 hk hkl e he hb
        rw [hei, hnf] at this
        cases this
      refine hS i o ho' hiT vs a w _ hg hlate hag hdeps ?_
      refine ⟨by simp [hsz], vs, hvl, fun j' k hk => ?_, haput _, fun k hk hkl d hd => ?_, hcl', hg⟩
      · have hne : ¬ k = i := fun e => hiT (e ▸ List.mem_of_getElem? hk)
        rw [hset k, if_neg hne]
        exact hTl j' k hk
      · rw [hset k] at hkl
        by_cases e : k = i
        · subst e
          have hdd : o.dst = some d := by rw [← hdst]; exact hd
          rw [hdd, tm_put_same (by rw [hag.size]; exact hL.lt k d hd)]
          unfold valAt
          cases hx : T.idxOf? k with
          | none => rfl
          | some j => exact absurd (List.mem_of_getElem? (hidx_get hx)) hiT
        · rw [if_neg e] at hkl
          have h1 := hsl k hk hkl d hd
          cases hn : o.dst with
          | none => exact h1
          | some d' =>
            have hne : d' ≠ d := fun ee => e (hL.nd k i d hd (by rw [hdst, hn, ee]))
            rw [tm_put_ne hne]
            exact h1
  · rintro listed a w ⟨hsz, vs, hvl, hTl, hag, hsl, hcl, hg⟩ hr
    have hall := ready_none (ops := l.toArray) (md := .any) (fun i o ho => hL.ord i o (by simpa using ho)) (by simpa using hsz) hr
    have hvT : vs.length = T.length := by
      refine Nat.le_antisymm hvl ?_
      refine Classical.byContradiction fun hc => ?_
      obtain ⟨k, hk⟩ : ∃ k, T[vs.length]? = some k := ⟨T[vs.length], List.getElem?_eq_getElem (by omega)⟩
      have := (hTl _ k hk).1 (hall k (by have := hL.tlt k (List.mem_of_getElem? hk); simpa using this))
      omega
    obtain ⟨e1, e2, e3⟩ := endAct_ok (val := val) (vs := vs) hL l.length
    have hae : a = endAct l T val vs a0 l.length := by
      refine agr_ext hag e1 fun d hd => ?_
      obtain ⟨k, hk⟩ := mem_dsOf.1 hd
      have hkl : k < l.length := by
        unfold dstAt at hk
        cases ho : l[k]? with
        | none => rw [ho] at hk; cases hk
        | some o => exact (List.getElem?_eq_some_iff.1 ho).1
      rw [hsl k hkl (hall k (by simpa using hkl)) d hk, e3 k hkl d hk]
    rw [hae]
    exact hD vs w hvT hg


end Go.Proofs.Ythpmckfgngkbhaa

/- Walks: at: the value that a way of fields comes to. -/
namespace Go.Proofs.Ythpmckfgngkbhaa
set_option linter.unusedSimpArgs false
set_option linter.unusedVariables false
open Go.RowKit

/-- A slice of numbers, that lies below block B. -/
def Ints (B : Nat) (w : World) (a : Option Addr) (l : List Int) : Prop :=
  l.length ≤ 9223372036854775807 ∧ (l ≠ [] → ∃ b off, a = some ⟨b, off, none⟩ ∧ b < B ∧ ∀ k v, l[k]? = some v → w.cell? ⟨b, off + k, none⟩ = some (.int .i64 v))

theorem Ints.below {B : Nat} {w w' : World} {a : Option Addr} {l : List Int} (h : Ints B w a l) (hb : Below B w w') : Ints B w' a l := by
  refine ⟨h.1, fun hne => ?_⟩
  obtain ⟨b, off, rfl, hB, hc⟩ := h.2 hne
  refine ⟨b, off, rfl, hB, fun k v hk => ?_⟩
  rw [hb.cell (p := ⟨b, off + k, none⟩) hB]
  exact hc k v hk

theorem Ints.mono {B B' : Nat} {w : World} {a : Option Addr} {l : List Int} (h : Ints B w a l) (hb : B ≤ B') : Ints B' w a l := by
  refine ⟨h.1, fun hne => ?_⟩
  obtain ⟨b, off, rfl, hB, hc⟩ := h.2 hne
  exact ⟨b, off, rfl, by omega, hc⟩

theorem Ints.at {B : Nat} {w : World} {a : Option Addr} {l : List Int} (h : Ints B w a l) {k : Nat} (hk : k < l.length) :
    ∃ b off, a = some ⟨b, off, none⟩ ∧ b < B ∧ w.cell? ⟨b, off + k, none⟩ = some (.int .i64 l[k]) := by
  obtain ⟨b, off, rfl, hB, hc⟩ := h.2 (by intro e; subst e; simp at hk)
  exact ⟨b, off, rfl, hB, hc k l[k] (by simp [hk])⟩

def stepG (g : Gr) (v : V) (k : Int) : Option V :=
  if v.1 = true ∧ 0 ≤ v.2 ∧ v.2 < g.objs.length then (if 0 ≤ k ∧ k < (fieldsOf g v.2).length then (fieldsOf g v.2)[k.toNat]? else none) else none
def wayG (g : Gr) : V → List Int → Option V
  | v, [] => some v
  | v, k :: ks => (stepG g v k).bind (fun u => wayG g u ks)
def atG (g : Gr) (root : Int) (way : List Int) : Option V :=
  if 0 ≤ root ∧ root < g.roots.length then (g.roots[root.toNat]?).bind (fun v => wayG g v way) else none

/-- What at tells. -/
def atR (o : Option V) : Value := match o with
  | some v => .tuple #[.agg #[.bool v.1, .int .i64 v.2], .bool true]
  | none => .tuple #[.agg #[.bool false, .int .i64 0], .bool false]

end Go.Proofs.Ythpmckfgngkbhaa

/- Walks: Dist. -/
namespace Go.Proofs.Ythpmckfgngkbhaa
set_option linter.unusedSimpArgs false
set_option linter.unusedVariables false
open Go.RowKit

/-- How far an object is; -1, if it can't be come to. -/
def distAt (g : Gr) (o : Int) : Int := if o ∈ orderOf g then ((distOf g)[(orderOf g).idxOf o]?).getD 0 else -1
def distL (g : Gr) : List Int := (List.range g.objs.length).map (fun (k : Nat) => distAt g (k : Int))

theorem distL_len (g : Gr) : (distL g).length = g.objs.length := by simp [distL]

theorem distL_take (g : Gr) {k : Nat} (hk : k < g.objs.length) : (distL g).take (k + 1) = (distL g).take k ++ [distAt g (k : Int)] := by
  rw [List.take_succ_eq_append_getElem (by rw [distL_len]; exact hk)]
  simp [distL]

theorem take_set1 {cs : List Value} {k : Nat} {pre : List Value} {x : Value} (h : cs.take k = pre) (hl : k < cs.length) : (cs.set k x).take (k + 1) = pre ++ [x] := by
  rw [← h]
  apply List.ext_getElem?
  intro i
  rw [List.getElem?_take]
  by_cases h1 : i < k
  · rw [if_pos (by omega), List.getElem?_append_left (by simp; omega), List.getElem?_set_ne (by omega), List.getElem?_take, if_pos h1]
  · rw [List.getElem?_append_right (by simp; omega)]
    have hmin : (List.take k cs).length = k := by simp; omega
    rw [hmin]
    by_cases h2 : i = k
    · subst h2
      rw [if_pos (by omega), List.getElem?_set_self (by omega)]; simp
    · rw [if_neg (by omega), List.getElem?_eq_none (by simp; omega)]

theorem ints_of_owns {w : World} {base : Nat} {e : TypeId} {v : Value} {n : Nat} {l : List Int} (h : w.ownsRow base e 1 v n (intsV l)) (hn : n = l.length) (hs : n ≤ 9223372036854775807) :
    ∃ a cap, v = .slice a l.length cap ∧ Ints w.heap.size w a l ∧ ∀ b off, a = some ⟨b, off, none⟩ → base ≤ b := by
  obtain ⟨_, h2⟩ := h
  rcases h2 with ⟨rfl, h0⟩ | ⟨g, cap, cur, rfl, hb, hg, hc1, hc2, hc3, htake⟩
  · refine ⟨none, 0, by rw [← hn, h0], ⟨by omega, fun hne => ?_⟩, fun b off e => by cases e⟩
    have : l = [] := List.eq_nil_of_length_eq_zero (by omega)
    exact absurd this hne
  · refine ⟨_, cap, by rw [hn], ⟨by omega, fun _ => ⟨g, 0, rfl, (Array.getElem?_eq_some_iff.1 hg).1, fun k v hk => ?_⟩⟩, fun b off e => by injection e with e; injection e with e1; omega⟩
    have h1 : (intsV l)[k]? = some (.int .i64 v) := by simp [intsV, hk]
    rw [← htake, List.getElem?_take] at h1
    rw [Nat.zero_add, cell_of_row w g k cur e (0, 0) hg]
    split at h1
    · simpa using h1
    · cases h1

end Go.Proofs.Ythpmckfgngkbhaa

/- What the closure of referrers goes by: a row of rows that grow. -/
namespace Go.Proofs.Ythpmckfgngkbhaa
set_option linter.unusedSimpArgs false
set_option linter.unusedVariables false
open Go.RowKit Go.Shelf

/-- The number n is noted with each of some objects. -/
def noteL (ord : List Int) (n : Int) (L : List (List Int)) (xs : List Int) : List (List Int) := xs.foldl (fun L o => L.set (ord.idxOf o) ((L.getD (ord.idxOf o) []) ++ [n])) L

theorem noteL_snoc (ord : List Int) (n : Int) (L : List (List Int)) (xs : List Int) (x : Int) : noteL ord n L (xs ++ [x]) = (noteL ord n L xs).set (ord.idxOf x) (((noteL ord n L xs).getD (ord.idxOf x) []) ++ [n]) := by
  simp only [noteL, List.foldl_append, List.foldl_cons, List.foldl_nil]

theorem noteL_len (ord : List Int) (n : Int) : ∀ (xs : List Int) (L : List (List Int)), (noteL ord n L xs).length = L.length
  | [], _ => rfl
  | x :: xs, L => by
    have := noteL_len ord n xs (L.set (ord.idxOf x) ((L.getD (ord.idxOf x) []) ++ [n]))
    simpa [noteL] using this

theorem noteL_le (ord : List Int) (n : Int) : ∀ (xs : List Int) (L : List (List Int)) (M : Nat), (∀ l ∈ L, l.length ≤ M) → ∀ l ∈ noteL ord n L xs, l.length ≤ M + xs.length
  | [], L, M, h, l, hl => h l hl
  | x :: xs, L, M, h, l, hl => by
    have h2 : ∀ l ∈ L.set (ord.idxOf x) ((L.getD (ord.idxOf x) []) ++ [n]), l.length ≤ M + 1 := by
      intro q hq
      rcases List.mem_or_eq_of_mem_set hq with e | e
      · have := h q e; omega
      · rw [e, List.length_append]
        by_cases hi : ord.idxOf x < L.length
        · have := h _ (List.getElem_mem hi)
          simp [hi]; omega
        · simp [List.getElem?_eq_none (Nat.le_of_not_lt hi)]
    have := noteL_le ord n xs _ (M + 1) h2 l (by simpa [noteL] using hl)
    simp only [List.length_cons]
    omega

/-- What the closure goes by: b is the first of the blocks of referrers. -/
structure RB (W : World) (b N gb : Nat) (o0 o1 : Obj) (ord : List Int) (L : List (List Int)) (es : List Value) : Prop where
  b0 : W.heap[b]? = some o0
  b1 : W.heap[b + 1]? = some o1
  c1 : W.cell? ⟨b, 1, none⟩ = some (.slice (some ⟨gb, 0, none⟩) N N)
  num : Ints b W (some ⟨gb, 0, none⟩) (numL N ord)
  cf : W.cell? ⟨b + 3, 0, none⟩ = some (.slice (some ⟨b + 2, 0, none⟩) ord.length ord.length)
  len : L.length = ord.length
  row : W.ownsRow (b + 2) 26 1 (.slice (some ⟨b + 2, 0, none⟩) ord.length ord.length) ord.length es
  el : ∀ (k : Nat) (l : List Int), L[k]? = some l → ∃ v, es[k]? = some v ∧ W.ownsRow (b + 4) 3 1 v l.length (intsV l)
  sep : ∀ (j k : Nat) (vj vk : Value) (x : Nat), es[j]? = some vj → es[k]? = some vk → vj.ownBlock = some x → vk.ownBlock = some x → j = k

theorem RB.lt {W : World} {b N gb : Nat} {o0 o1 : Obj} {ord : List Int} {L : List (List Int)} {es : List Value} (h : RB W b N gb o0 o1 ord L es) : b + 3 < W.heap.size := World.block_lt_of_cell? W _ h.cf

theorem RB.own {W W' : World} {row : Option Nat} {b N gb : Nat} {o0 o1 : Obj} {ord : List Int} {L : List (List Int)} {es : List Value} (h : RB W b N gb o0 o1 ord L es) (hg : W.grownBy W' row)
    (hr : ∀ r, row = some r → b + 4 ≤ r ∧ ∃ o : Obj, W.heap[r]? = some o ∧ o.isCells = false) : RB W' b N gb o0 o1 ord L es := by
  have hlt := h.lt
  have hb : ∀ k, k < b + 4 → W'.heap[k]? = W.heap[k]? := fun k hk => hg.block k (by omega) (fun e => by have := (hr _ e.symm).1; omega)
  have hB : Below b W W' := (Below.refl b W).grown hg (by omega) (fun k e => by have := (hr k e).1; omega)
  refine ⟨(hb b (by omega)).trans h.b0, (hb (b + 1) (by omega)).trans h.b1, (World.cell?_of_block (a := ⟨b, 1, none⟩) (hb b (by omega))).trans h.c1, h.num.below hB, (World.cell?_of_block (a := ⟨b + 3, 0, none⟩) (hb (b + 3) (by omega))).trans h.cf, h.len, row_block h.row (hb (b + 2) (by omega)), fun k l hk => ?_, h.sep⟩
  obtain ⟨v, h1, h2⟩ := h.el k l hk
  exact ⟨v, h1, ownsRow_keptOf h2 hg (fun r e => (hr r e).2)⟩

theorem RB.below {W W' : World} {b N gb : Nat} {o0 o1 : Obj} {ord : List Int} {L : List (List Int)} {es : List Value} (h : RB W b N gb o0 o1 ord L es) (hb : Below W.heap.size W W') : RB W' b N gb o0 o1 ord L es :=
  h.own (row := none) ⟨hb.os, hb.tape, hb.output, hb.size, fun k hk _ => hb.block k hk⟩ (fun r e => by cases e)

theorem ownsRow_isCells {W : World} {base : Nat} {e : TypeId} {size n : Nat} {v : Value} {xs : List Value} (h : W.ownsRow base e size v n xs) {j : Nat} {o : Obj} (hj : v.ownBlock = some j) (ho : W.heap[j]? = some o) : o.isCells = true := by
  rcases h.2 with ⟨rfl, _⟩ | ⟨g, cap, cur, rfl, _, hgb, _⟩
  · cases hj
  · have e : g = j := by simpa [Value.ownBlock] using hj
    subst e
    rw [hgb] at ho
    injection ho with ho
    subst ho
    rfl

/-- One more is noted. -/
theorem RB.put {W W1 w4 : World} {b N gb : Nat} {o0 o1 : Obj} {ord : List Int} {L : List (List Int)} {es : List Value} (h : RB W b N gb o0 o1 ord L es) {k : Nat} {l : List Int} {v v1 : Value} {n : Int} (hk : L[k]? = some l) (hv : es[k]? = some v)
    (h1 : Below W.heap.size W W1) (hg : W1.grownBy w4 v.ownBlock) (hrow : w4.ownsRow (b + 4) 3 1 v1 (l.length + 1) (intsV l ++ [.int .i64 n])) (hat : v1.ownBlock = v.ownBlock ∨ v1.ownBlock = some W1.heap.size) :
    RB (w4.setCell ⟨b + 2, k, none⟩ v1) b N gb o0 o1 ord (L.set k (l ++ [n])) (es.set k v1) ∧ Below b W (w4.setCell ⟨b + 2, k, none⟩ v1) ∧ KeepsOthers W (w4.setCell ⟨b + 2, k, none⟩ v1) ∧
      ∀ nb, nb < W.heap.size → b + 4 ≤ nb → (∀ (j : Nat) (u : Value), es[j]? = some u → u.ownBlock ≠ some nb) → ((w4.setCell ⟨b + 2, k, none⟩ v1).heap[nb]? = W.heap[nb]?) ∧ ∀ (j : Nat) (u : Value), (es.set k v1)[j]? = some u → u.ownBlock ≠ some nb := by
  have hlt := h.lt
  have hs1 := h1.size
  have hR := h.below h1
  obtain ⟨v', hv', hvr⟩ := hR.el k l hk
  obtain rfl : v = v' := by rw [hv] at hv'; injection hv'
  have hvb : ∀ q, v.ownBlock = some q → b + 4 ≤ q ∧ q < W.heap.size := by
    obtain ⟨v'', hv'', hvr''⟩ := h.el k l hk
    obtain rfl : v = v'' := by rw [hv] at hv''; injection hv''
    exact hvr''.lt
  have hne : ∀ q, q < b + 4 → v.ownBlock ≠ some q := fun q hq e => by have := (hvb q e).1; omega
  have hb4 : ∀ q, q < b + 4 → w4.heap[q]? = W.heap[q]? := fun q hq => (hg.block q (by omega) (fun e => hne q hq e.symm)).trans (h1.block q (by omega))
  have hst : ∀ q, q ≠ b + 2 → (w4.setCell ⟨b + 2, k, none⟩ v1).heap[q]? = w4.heap[q]? := fun q hq => Below.heap_setCell _ _ _ _ (by intro e; exact hq (by simp at e; omega))
  have hB : Below b W (w4.setCell ⟨b + 2, k, none⟩ v1) := ((h1.mono (by omega)).grown hg (by omega) (fun q e => by have := (hvb q e).1; omega)).setCell (p := ⟨b + 2, k, none⟩) (by simp) _
  have hrow4 : w4.ownsRow (b + 2) 26 1 (.slice (some ⟨b + 2, 0, none⟩) ord.length ord.length) ord.length es := row_block h.row (hb4 (b + 2) (by omega))
  have hkl : k < es.length := (List.getElem?_eq_some_iff.1 hv).1
  have hkL : k < L.length := (List.getElem?_eq_some_iff.1 hk).1
  refine ⟨⟨((hst b (by omega)).trans (hb4 b (by omega))).trans h.b0, ((hst (b + 1) (by omega)).trans (hb4 (b + 1) (by omega))).trans h.b1, ?_, h.num.below hB, ?_, by simp [h.len], (hrow4.stored k v1).1, ?_, ?_⟩, hB, ?_, ?_⟩
  · exact (World.cell?_of_block (a := ⟨b, 1, none⟩) ((hst b (by omega)).trans (hb4 b (by omega)))).trans h.c1
  · exact (World.cell?_of_block (a := ⟨b + 3, 0, none⟩) ((hst (b + 3) (by omega)).trans (hb4 (b + 3) (by omega)))).trans h.cf
  · intro q lq hq
    by_cases e : q = k
    · subst e
      rw [List.getElem?_set_self hkL] at hq
      injection hq with hq
      subst hq
      refine ⟨v1, by rw [List.getElem?_set_self hkl], ?_⟩
      rw [intsV_snoc, List.length_append]
      exact ownsRow_setCell_below hrow (by simp) _
    · rw [List.getElem?_set_ne (fun e' => e e'.symm)] at hq
      obtain ⟨u, hu, hur⟩ := hR.el q lq hq
      refine ⟨u, by rw [List.getElem?_set_ne (fun e' => e e'.symm)]; exact hu, ?_⟩
      refine ownsRow_setCell_below (hur.kept hg ?_) (by simp) _
      cases hub : u.ownBlock with
      | none => exact .inl rfl
      | some x => exact .inr (fun e' => e (h.sep q k u v x hu hv hub e'.symm))
  · intro j q vj vq x hj hq hjx hqx
    by_cases ej : j = k
    · by_cases eq : q = k
      · rw [ej, eq]
      · exfalso
        subst ej
        rw [List.getElem?_set_self hkl] at hj
        injection hj with hj
        subst hj
        rw [List.getElem?_set_ne (fun e' => eq e'.symm)] at hq
        rcases hat with e | e
        · exact eq (h.sep j q v vq x hv hq (by rw [← e]; exact hjx) hqx).symm
        · rw [e] at hjx
          have : W1.heap.size = x := by injection hjx
          have hql : q < L.length := by have h9 := (List.getElem?_eq_some_iff.1 hq).1; have h8 := h.row.1; have h7 := h.len; omega
          obtain ⟨u, hu, hur⟩ := hR.el q L[q] (List.getElem?_eq_getElem hql)
          rw [hq] at hu
          injection hu with hu
          subst hu
          have := (hur.lt x hqx).2
          omega
    · rw [List.getElem?_set_ne (fun e' => ej e'.symm)] at hj
      by_cases eq : q = k
      · exfalso
        subst eq
        rw [List.getElem?_set_self hkl] at hq
        injection hq with hq
        subst hq
        rcases hat with e | e
        · exact ej (h.sep j q vj v x hj hv hjx (by rw [← e]; exact hqx))
        · rw [e] at hqx
          have : W1.heap.size = x := by injection hqx
          have hjl : j < L.length := by have h9 := (List.getElem?_eq_some_iff.1 hj).1; have h8 := h.row.1; have h7 := h.len; omega
          obtain ⟨u, hu, hur⟩ := hR.el j L[j] (List.getElem?_eq_getElem hjl)
          rw [hj] at hu
          injection hu with hu
          subst hu
          have := (hur.lt x hjx).2
          omega
      · rw [List.getElem?_set_ne (fun e' => eq e'.symm)] at hq
        exact h.sep j q vj vq x hj hq hjx hqx
  · have k1 : KeepsOthers W W1 := KeepsOthers.of_grownBy (row := none) ⟨h1.os, h1.tape, h1.output, h1.size, fun k hk _ => h1.block k hk⟩ (fun j o e => by cases e)
    have k2 : KeepsOthers W1 w4 := KeepsOthers.of_grownBy hg (fun j o e ho => ownsRow_isCells hvr e ho)
    exact (k1.trans k2).trans (KeepsOthers.setCell _ _ _)
  · intro nb hnb hnb4 hall
    refine ⟨(hst nb (by omega)).trans ((hg.block nb (by omega) (fun e => hall k v hv e.symm)).trans (h1.block nb hnb)), fun j u hu => ?_⟩
    by_cases e : j = k
    · subst e
      rw [List.getElem?_set_self hkl] at hu
      injection hu with hu
      subst hu
      rcases hat with e | e
      · rw [e]; exact hall j v hv
      · rw [e]; intro e'; have : W1.heap.size = nb := by injection e'
        omega
    · rw [List.getElem?_set_ne (fun e' => e e'.symm)] at hu
      exact hall j u hu

end Go.Proofs.Ythpmckfgngkbhaa

/- Walks: the closure that goes there and back. -/
namespace Go.Proofs.Ythpmckfgngkbhaa
set_option linter.unusedSimpArgs false
set_option linter.unusedVariables false
open Go.RowKit Go.Shelf
attribute [local go_sem] Oper.semAt_some

theorem valsN_snoc {N : Nat} (pre : List (ObN N)) (x : ObN N) : valsN (pre ++ [x]) = valsN pre ++ [x.1] := by simp [valsN]
theorem valsN_rng {N : Nat} (pre : List (ObN N)) : ∀ x ∈ valsN pre, 0 ≤ x ∧ x < N := by
  intro x hx
  obtain ⟨y, _, rfl⟩ := List.mem_map.1 hx
  exact y.2

theorem refsOkN_objs {g : Gr} (h : Good g) {l : List V} (hl : l ∈ g.objs) : RefsOkN g.objs.length l := fun v hv hr => h.ro l hl v hv hr

set_option maxRecDepth 100000 in
set_option maxHeartbeats 4000000 in
theorem visit_c (g : Gr) (hG : Good g) (wo : Int) (ao : Option Addr) (co B b : Nat) (hBb : B ≤ b) : ∀ (n : Nat) (a : Option Addr) (cap : Nat) (l : List V) (st : List Int × List Int) (vo : Value) (W : World),
    WB W b ao g.objs.length co wo st vo → Objs B W ao g.objs → Vals B W a l → RefsOkN g.objs.length l → l.length ≤ 1000 → SOk g.objs.length st → g.objs.length < st.1.length + n →
    Calls Try.prog 35 #[.slice a l.length cap, .pointer (some ⟨b + 1, 0, none⟩), .pointer (some ⟨b + 6, 0, none⟩), .pointer (some ⟨b + 7, 0, none⟩), .pointer (some ⟨b, 0, none⟩), .pointer (some ⟨b + 4, 0, none⟩)] W fun e W' => e = .returned (.tuple #[]) ∧
      (∃ vo, WB W' b ao g.objs.length co wo (visF g wo n (refsL l) st) vo) ∧ Below b W W' ∧ KeepsOthers W W' := by
  intro n
  induction n with
  | zero => intro a cap l st vo W _ _ _ _ _ hst hl; have := hst.le; omega
  | succ n ih =>
    intro a cap l st vo W hF ho hV hok hl hst hn
    obtain ⟨i0, hi, hz0, hz1, hz2⟩ := info_parts Try.info3
    have hn24 := hG.n24
    have hlt := hF.lt
    have HR := hide (vals_obsN hn24 l hok)
    have Hih := hide ih
    clear ih
    refine (callsIn_wide (n := 8)).1 ?_
    refine callsIn_of_wp_marks Try.func35 rfl trivial ?_ rfl
    simp only [Try.ntmps35, List.size_toArray, List.length_cons, List.length_nil, Nat.reduceAdd, Nat.reduceSub, Array.replicate_succ, Array.replicate_zero, List.push_toArray, List.append_toArray, List.nil_append, List.cons_append]
    gi_wp2_with (refine ⟨trivial, ?_⟩; gi_at_call 36; go_must (refine (callsIn_wide.2 (refs_c _ _ _ _)).mono ?_); rintro e w3 ⟨rfl, hw3⟩; subst hw3)
    obtain ⟨W1, hW1⟩ : ∃ W1, W.alloc (.cells #[.slice a l.length cap] 23) = W1 := ⟨_, rfl⟩
    rw [hW1]
    have hs1 : W1.heap.size = W.heap.size + 1 := by rw [← hW1]; simp
    have hbl : W1.cell? ⟨W.heap.size, 0, none⟩ = some (.slice a l.length cap) := by rw [← hW1]; simp [go_sem]
    have hB1 : Below b W W1 := by rw [← hW1]; exact (Below.refl _ _).alloc (by omega) _
    have hF1 : WB W1 b ao g.objs.length co wo st vo := by rw [← hW1]; exact hF.alloc _
    have hK1 : KeepsOthers W W1 := by rw [← hW1]; exact KeepsOthers.alloc _ _
    clear hW1
    refine wpIn_rangeFunc_ownG (F := Fence.wide) (n := 8) rfl (by omega) (gf := 48) (lb := #[.pointer (some ⟨W.heap.size, 0, none⟩)]) rfl trivial (enters_of Try.func48 (by kernel_rfl) rfl)
      (refs1N_stops hn24 7 (by omega) W.heap.size b a cap l hok W1 (by omega) (by omega) hbl ((hV.mono hBb).below hB1)) belowK_t (belowK_b (by omega)) (Below.refl _ _) (fun _ => rfl)
      (fun pre X => (∃ vo, WB X b ao g.objs.length co wo (visF g wo (n + 1) (valsN pre) st) vo) ∧ Below b W X ∧ KeepsFrom 0 W1 X)
      (fun _ _ _ => False)
      (by
        rintro pre X Y row ⟨⟨vo, h1⟩, h2, h3⟩ hg hr
        refine ⟨⟨vo, h1.own hg (fun r e => ⟨by have := (hr r e).1; omega, (hr r e).2⟩)⟩, h2.grown hg (by have := h1.lt; omega) (fun k e => by have := (hr k e).1; omega), ?_⟩
        exact ownFrom_keepsFrom (β := Unit) (B := 0) (Nat.le_refl W1.heap.size) () X Y row h3 hg hr)
      (fun _ _ _ _ _ hs _ _ => hs)
      ⟨⟨vo, hF1⟩, hB1, KeepsFrom.refl _ _⟩
      (fun x => { tmps := #[.slice a l.length cap, .pointer (some ⟨b + 1, 0, none⟩), .pointer (some ⟨b + 6, 0, none⟩), .pointer (some ⟨b + 7, 0, none⟩), .pointer (some ⟨b, 0, none⟩), .pointer (some ⟨b + 4, 0, none⟩), undef, .int .i64 x.1, .slice a l.length cap, .func (.func 48) #[] #[.pointer (some ⟨W.heap.size, 0, none⟩)], .int .i64 x.1, undef, undef, undef, undef, undef, undef, undef, undef, undef, undef, undef, undef, undef, undef, undef, undef, undef, undef, undef, undef, undef, undef, undef, undef, undef, undef, undef, undef, undef, undef, undef, undef, undef], defers := [] }) ?assign ?body ?done ?stop
    case assign =>
      intro l x X K hK
      unfold encN
      gi_wp2
      exact hK
    case body =>
      rintro l' pre x X ⟨⟨vo, hF⟩, hB, hK0⟩ hpre
      obtain ⟨x, hx0, hx1⟩ := x
      obtain ⟨x, rfl⟩ := Int.eq_ofNat_of_zero_le hx0
      have hxN : x < g.objs.length := by omega
      obtain ⟨t, hvis⟩ := vis_vis hG wo (n + 1) (valsN pre) st hst (valsN_rng pre) hn
      have Hst := hide (show visF g wo (n + 1) (valsN (pre ++ [⟨(x : Int), hx0, hx1⟩])) st = visS g wo n (visF g wo (n + 1) (valsN pre) st) x from by rw [valsN_snoc, visF_snoc])
      have hok1 := hvis.ok
      have hl1 := hvis.len
      clear hvis
      generalize visF g wo (n + 1) (valsN pre) st = s1 at *
      have hsX := hB.size
      have hltX := hF.lt
      have hcg := hF.cg
      have hcwo := hF.cwo
      have hcs := hF.cs
      have hsn := row_at hF.seen (k := x) (by simp only [boolsV, List.getElem?_map, seenL_get _ hxN]; rfl)
      by_cases hw : (x : Int) = wo
      · have d1 : ((x : Int) == wo) = true := by simpa using hw
        have Hw := hide hw
        clear hw hsn
        gi_wp2
        exact ⟨KeepsFrom.refl _ _, Below.refl _ _, ⟨vo, by rw [unhide Hst, visS, if_pos (.inl (unhide Hw))]; exact hF⟩, hB, hK0⟩
      · have d1 : ((x : Int) == wo) = false := by simpa using hw
        have Hw := hide hw
        clear hw
        by_cases hm : (x : Int) ∈ s1.1
        · rw [decide_eq_true hm] at hsn
          have Hm := hide hm
          clear hm
          gi_wp2
          exact ⟨KeepsFrom.refl _ _, Below.refl _ _, ⟨vo, by rw [unhide Hst, visS, if_pos (.inr (unhide Hm))]; exact hF⟩, hB, hK0⟩
        · rw [decide_eq_false hm] at hsn
          have Hm := hide hm
          clear hm
          have hfs := hF.seen.frozenAt x
          have hF2 := hF.see hxN
          have hB2 : Below b X (X.setCell ⟨b + 5, x, none⟩ (.bool true)) := (Below.refl b X).setCell (p := ⟨b + 5, x, none⟩) (by simp) _
          have hK2 : KeepsOthers X (X.setCell ⟨b + 5, x, none⟩ (.bool true)) := KeepsOthers.setCell _ _ _
          have hst2 := sok_see hok1 (unhide Hm) ⟨hx0, hx1⟩
          have hsz2 : (X.setCell ⟨b + 5, x, none⟩ (.bool true)).heap.size = X.heap.size := by simp [World.setCell]
          gi_wp2
          obtain ⟨X2, hX2⟩ : ∃ X2, X.setCell ⟨b + 5, x, none⟩ (.bool true) = X2 := ⟨_, rfl⟩
          rw [hX2] at hF2 hB2 hK2 hsz2 ⊢
          clear hX2
          obtain ⟨bo, off, ai, ci, hao, hbB, hcb, hva⟩ := (ho.below ((hB.trans hB2).mono hBb)).at hxN
          subst hao
          have hrf := refsOkN_objs hG (List.getElem_mem hxN)
          have hl4 := hG.n4 _ (List.getElem_mem hxN)
          have Hfo := hide (show fieldsOf g (x : Int) = g.objs[x] by simp [fieldsOf, hxN])
          have Hva := hide hva
          have Hrf := hide hrf
          clear hva hrf
          generalize g.objs[x] = fs at *
          have hcall := unhide Hih ai ci fs (s1.1 ++ [(x : Int)], s1.2) vo X2.drew (hF2.below (Below.refl _ _).drew) (ho.below (((hB.trans hB2).mono hBb).trans (Below.refl _ _).drew)) ((unhide Hva).below (Below.refl _ _).drew) (unhide Hrf) (by omega) hst2 (by simp; omega)
          obtain ⟨t2, hvis2⟩ := vis_vis hG wo n (refsL fs) (s1.1 ++ [(x : Int)], s1.2) hst2 (by rw [← unhide Hfo]; exact refs_rng hG x) (by simp; omega)
          have Hst2 : Hid (visS g wo n s1 (x : Int) = ((visF g wo n (refsL fs) (s1.1 ++ [(x : Int)], s1.2)).1, (visF g wo n (refsL fs) (s1.1 ++ [(x : Int)], s1.2)).2 ++ [(x : Int)])) := by
            show visS g wo n s1 (x : Int) = _
            rw [visS, if_neg (by rintro (e | e); exact unhide Hw e; exact unhide Hm e), unhide Hfo]
          have hle2 := hvis2.ok.le2
          have Hxn : Hid ((x : Int) ∉ (visF g wo n (refsL fs) (s1.1 ++ [(x : Int)], s1.2)).2) := by
            show ¬ _
            rw [hvis2.app, List.mem_append]
            rintro (e | e)
            · exact unhide Hm (hok1.sub _ e)
            · exact hvis2.new _ e (by simp)
          clear hvis2
          generalize visF g wo n (refsL fs) (s1.1 ++ [(x : Int)], s1.2) = s2 at *
          have Hcall := hide hcall
          clear hcall
          have hcg := hF2.cg
          have hcv := hF2.cv
          refine wpIn_region_still_tail 7 Try.mixed (by kernel_rfl) (by kernel_rfl) ?_
          simp only [List.take_succ_cons, List.take_zero, List.drop_succ_cons, List.drop_zero]
          repeat still_step
          refine wpStill_nil ?_
          clear hcg hcv hcb
          gi_wp2_with (first
            | (refine ⟨trivial, ?_⟩; gi_at_call 35; go_must (refine (CallsIn.inRound l' (callsIn_wide.2 (unhide Hcall))).mono ?_); go_must (rintro e X3 ⟨rfl, ⟨v3, hF3⟩, hB3, hK3⟩; have hc1 := hF3.c1; have hc0 := hF3.c0; have hf3 := hF3.num.frozenAt x; have hlt3 := hF3.lt; obtain ⟨u3, hu3⟩ : ∃ u, X3.cell? ⟨b + 3, x, none⟩ = some u := ⟨_, row_at hF3.num (by simp only [intsV, List.getElem?_map, numL_get _ hxN]; rfl)⟩; obtain ⟨oa, oc, hv3⟩ := ownsRow_slice hF3.ord; subst hv3; have ho3 := ownsRow_setCell_other hF3.ord (a := ⟨b + 3, x, none⟩) (ord_ne hF3.ord (by simp)) (.int .i64 (s2.2.length : Int)); have hs3 : (X3.setCell ⟨b + 3, x, none⟩ (.int .i64 (s2.2.length : Int))).heap.size = X3.heap.size := (by simp [World.setCell]); have hk3 : (X3.setCell ⟨b + 3, x, none⟩ (.int .i64 (s2.2.length : Int))).heap[b + 4]? = X3.heap[b + 4]? := Below.heap_setCell _ _ _ _ (by simp); have hd0 := (World.cell?_of_block (a := ⟨b + 4, 0, none⟩) hk3).trans hF3.c0))
            | (gi_at_builtin; go_must (refine wpListIn_append_own_at _ rfl _ _ 26 rfl (b + 8) 3 i0 _ 1 8 Try.underlying26 hi hz0 hz1 hz2 rfl (by decide) _ _ _ rfl (ho3.alloc _) ⟨X3.heap.size, 0, none⟩ 1 1 [.int .i64 (x : Int)] rfl rfl (cell_one_at _ _ _ _ (by simp [hs3])) (by simp [Value.oneCell']) (by simp only [maxLen]; omega) (by omega) (by rw [World.size_alloc, hs3]; omega) ?_); go_must (intro v4 w4 hrow4 hg4 _ hat4; obtain ⟨g4, cap4, hv4⟩ := ownsRow_succ hrow4; subst hv4; have hb4 := (hg4.block (b + 4) (by rw [World.size_alloc, hs3]; omega) (fun e => ord_ne hF3.ord (by omega) e.symm)).trans ((Below.heap_alloc _ _ (b + 4) (by rw [hs3]; omega)).trans hk3); have hd4 := (World.cell?_of_block (a := ⟨b + 4, 0, none⟩) hb4).trans hF3.c0; have he4 := (World.frozen?_of_block (a := ⟨b + 4, 0, none⟩) hb4).trans hF3.f0)))
          obtain ⟨r1, r2, r3⟩ := hF3.back hxN (unhide Hxn) hrow4 hg4
          have hKa : KeepsOthers X2 X2.drew := KeepsOthers.drew _
          have hBa : Below b X2 X2.drew := (Below.refl _ _).drew
          have hBf : Below b X _ := hB2.trans (hBa.trans (hB3.trans r2))
          have hKf := hK2.trans (hKa.trans (hK3.trans r3))
          exact ⟨hKf.from _, hBf, ⟨_, by rw [unhide Hst, unhide Hst2]; exact r1⟩, hB.trans hBf, hK0.trans (hKf.from _)⟩
    case done =>
      rintro D' xs X hD rfl ⟨⟨vo, hF⟩, hB, hK0⟩ hK
      gi_wp2
      refine ⟨by simp, .inl ⟨_, _, rfl, run_takeDeferred hK, ?_⟩⟩
      refine ⟨_, results_none rfl _ _ _, rfl, ⟨vo, ?_⟩, hB.trans (belowK_b (w := W1) (by omega) X D' _ _ hD hK rfl rfl), ?_⟩
      · rw [← unhide HR]
        exact hF.own (grownBy_putObj' X D' _) (fun r e => by cases e; exact ⟨by omega, _, hK, rfl⟩)
      · have hg := grownBy_putObj' X D' (.deferred none)
        refine ⟨Nat.le_trans hB.size hg.size, fun k o hk ho => ?_⟩
        have hk1 := hK0.same k o (Nat.zero_le _) (hK1.same k o hk ho) ho
        have hkl := (Array.getElem?_eq_some_iff.1 hk).1
        rw [hg.block k (Array.getElem?_eq_some_iff.1 hk1).1 (fun e => by injection e; omega)]
        exact hk1
    case stop =>
      rintro D' c pre X _ _ h _
      exact h.elim

end Go.Proofs.Ythpmckfgngkbhaa
