/- Plain: a search by depth, and the way back; what is left without one object. -/
import Derived.Test.YthpmckfgngkbhaaMem
import Derived.Test.YthpmckfgngkbhaaPa
namespace Go.Proofs.Ythpmckfgngkbhaa
set_option linter.unusedSimpArgs false
set_option linter.unusedVariables false
open Go.RowKit

/-- What is seen, and what one went back out of, behind the references xs. -/
def visF (g : Gr) (wo : Int) : Nat → List Int → List Int × List Int → List Int × List Int
  | 0, _, st => st
  | n + 1, xs, st => xs.foldl (fun st o => if o = wo ∨ o ∈ st.1 then st else ((visF g wo n (refsL (fieldsOf g o)) (st.1 ++ [o], st.2)).1, (visF g wo n (refsL (fieldsOf g o)) (st.1 ++ [o], st.2)).2 ++ [o])) st

def visS (g : Gr) (wo : Int) (n : Nat) (st : List Int × List Int) (o : Int) : List Int × List Int :=
  if o = wo ∨ o ∈ st.1 then st else ((visF g wo n (refsL (fieldsOf g o)) (st.1 ++ [o], st.2)).1, (visF g wo n (refsL (fieldsOf g o)) (st.1 ++ [o], st.2)).2 ++ [o])

theorem visF_succ (g : Gr) (wo : Int) (n : Nat) (xs : List Int) (st : List Int × List Int) : visF g wo (n + 1) xs st = xs.foldl (visS g wo n) st := rfl

theorem visF_snoc (g : Gr) (wo : Int) (n : Nat) (xs : List Int) (x : Int) (st : List Int × List Int) : visF g wo (n + 1) (xs ++ [x]) st = visS g wo n (visF g wo (n + 1) xs st) x := by
  simp only [visF_succ, List.foldl_append, List.foldl_cons, List.foldl_nil]

/-- The plain facts on what is seen. -/
structure SOk (N : Nat) (st : List Int × List Int) : Prop where
  rng : ∀ o ∈ st.1, 0 ≤ o ∧ o < N
  nd : st.1.Nodup
  nd2 : st.2.Nodup
  sub : ∀ o ∈ st.2, o ∈ st.1

theorem SOk.le {N : Nat} {st : List Int × List Int} (h : SOk N st) : st.1.length ≤ N := nodup_length h.nd h.rng
theorem SOk.le2 {N : Nat} {st : List Int × List Int} (h : SOk N st) : st.2.length ≤ N := nodup_length h.nd2 (fun o ho => h.rng o (h.sub o ho))

/-- What a search behind xs does. -/
structure Vis (g : Gr) (wo : Int) (xs : List Int) (st : List Int × List Int) (t : List Int) (st' : List Int × List Int) : Prop where
  ok : SOk g.objs.length st'
  app : st'.2 = st.2 ++ t
  mem : ∀ o, o ∈ st'.1 ↔ o ∈ st.1 ∨ o ∈ t
  new : ∀ o ∈ t, o ∉ st.1
  nwo : ∀ o ∈ t, o ≠ wo
  clo : ∀ o ∈ t, ∀ y ∈ refsL (fieldsOf g o), y ≠ wo → y ∈ st'.1
  cau : ∀ (i : Nat) (o : Int), t[i]? = some o → o ∈ xs ∨ ∃ (j : Nat) (o' : Int), i < j ∧ t[j]? = some o' ∧ o ∈ refsL (fieldsOf g o')
  lst : ∀ P : Int → Prop, (∀ x ∈ xs, x ≠ wo → P x) → (∀ x y, P x → y ∈ refsL (fieldsOf g x) → y ≠ wo → P y) → ∀ o ∈ t, P o
  got : ∀ x ∈ xs, x = wo ∨ x ∈ st'.1
  len : st.1.length ≤ st'.1.length

theorem Vis.nil {g : Gr} {wo : Int} {st : List Int × List Int} (h : SOk g.objs.length st) : Vis g wo [] st [] st :=
  ⟨h, by simp, by simp, by simp, by simp, by simp, by simp, by simp, by simp, Nat.le_refl _⟩

theorem Vis.trans {g : Gr} {wo : Int} {xs ys : List Int} {st s1 s2 : List Int × List Int} {t1 t2 : List Int} (h1 : Vis g wo xs st t1 s1) (h2 : Vis g wo ys s1 t2 s2) : Vis g wo (xs ++ ys) st (t1 ++ t2) s2 := by
  refine ⟨h2.ok, by rw [h2.app, h1.app, List.append_assoc], ?_, ?_, ?_, ?_, ?_, ?_, ?_, Nat.le_trans h1.len h2.len⟩
  · intro o; rw [h2.mem, h1.mem, List.mem_append, or_assoc]
  · intro o ho
    rcases List.mem_append.1 ho with ho | ho
    · exact h1.new o ho
    · exact fun hs => h2.new o ho ((h1.mem o).2 (.inl hs))
  · intro o ho
    rcases List.mem_append.1 ho with ho | ho
    · exact h1.nwo o ho
    · exact h2.nwo o ho
  · intro o ho y hy hw
    rcases List.mem_append.1 ho with ho | ho
    · exact (h2.mem y).2 (.inl (h1.clo o ho y hy hw))
    · exact h2.clo o ho y hy hw
  · intro i o hi
    by_cases hlt : i < t1.length
    · rw [List.getElem?_append_left hlt] at hi
      rcases h1.cau i o hi with h | ⟨j, o', hj, ho', hm⟩
      · exact .inl (by simp [h])
      · exact .inr ⟨j, o', hj, by rw [List.getElem?_append_left (List.getElem?_eq_some_iff.1 ho').1]; exact ho', hm⟩
    · rw [List.getElem?_append_right (by omega)] at hi
      rcases h2.cau _ o hi with h | ⟨j, o', hj, ho', hm⟩
      · exact .inl (by simp [h])
      · exact .inr ⟨t1.length + j, o', by omega, by rw [List.getElem?_append_right (by omega)]; simpa using ho', hm⟩
  · intro P hx hs o ho
    rcases List.mem_append.1 ho with ho | ho
    · exact h1.lst P (fun x hx' => hx x (by simp [hx'])) hs o ho
    · exact h2.lst P (fun x hx' => hx x (by simp [hx'])) hs o ho
  · intro x hx
    rcases List.mem_append.1 hx with hx | hx
    · rcases h1.got x hx with h | h
      · exact .inl h
      · exact .inr ((h2.mem x).2 (.inl h))
    · exact h2.got x hx

theorem Vis.skip {g : Gr} {wo : Int} {st : List Int × List Int} {x : Int} (h : SOk g.objs.length st) (hx : x = wo ∨ x ∈ st.1) : Vis g wo [x] st [] st := by
  refine ⟨h, by simp, by simp, by simp, by simp, by simp, by simp, by simp, ?_, Nat.le_refl _⟩
  intro y hy
  simp at hy
  subst hy
  exact hx

theorem sok_see {N : Nat} {st : List Int × List Int} (h : SOk N st) {x : Int} (hx : x ∉ st.1) (hr : 0 ≤ x ∧ x < N) : SOk N (st.1 ++ [x], st.2) := by
  refine ⟨?_, ?_, h.nd2, fun o ho => by simp [h.sub o ho]⟩
  · intro o ho
    simp only [List.mem_append, List.mem_singleton] at ho
    rcases ho with ho | rfl
    · exact h.rng o ho
    · exact hr
  · rw [List.nodup_append]
    exact ⟨h.nd, by simp, by intro a ha b hb; simp at hb; subst hb; exact fun e => hx (e ▸ ha)⟩

theorem Vis.step {g : Gr} {wo : Int} {st s : List Int × List Int} {t : List Int} {x : Int} (h0 : SOk g.objs.length st) (hx : x ∉ st.1) (hw : x ≠ wo) (h : Vis g wo (refsL (fieldsOf g x)) (st.1 ++ [x], st.2) t s) :
    Vis g wo [x] st (t ++ [x]) (s.1, s.2 ++ [x]) := by
  have hxt : x ∉ t := fun e => h.new x e (by simp)
  have hx2 : x ∉ s.2 := by
    rw [h.app, List.mem_append]
    rintro (e | e)
    · exact hx (h0.sub x e)
    · exact hxt e
  have hxs : x ∈ s.1 := (h.mem x).2 (.inl (by simp))
  refine ⟨⟨h.ok.rng, h.ok.nd, ?_, ?_⟩, ?_, ?_, ?_, ?_, ?_, ?_, ?_, ?_, ?_⟩
  · rw [List.nodup_append]
    exact ⟨h.ok.nd2, by simp, by intro a ha b hb; simp at hb; subst hb; exact fun e => hx2 (e ▸ ha)⟩
  · intro o ho
    simp only [List.mem_append, List.mem_singleton] at ho
    rcases ho with ho | rfl
    · exact h.ok.sub o ho
    · exact hxs
  · simp [h.app]
  · intro o
    have := h.mem o
    simp only [List.mem_append, List.mem_singleton] at this ⊢
    rw [this, or_assoc, or_comm (a := o = x)]
  · intro o ho
    simp only [List.mem_append, List.mem_singleton] at ho
    rcases ho with ho | rfl
    · exact fun e => h.new o ho (by simp [e])
    · exact hx
  · intro o ho
    simp only [List.mem_append, List.mem_singleton] at ho
    rcases ho with ho | rfl
    · exact h.nwo o ho
    · exact hw
  · intro o ho y hy hyw
    simp only [List.mem_append, List.mem_singleton] at ho
    rcases ho with ho | rfl
    · exact h.clo o ho y hy hyw
    · rcases h.got y hy with e | e
      · exact absurd e hyw
      · exact e
  · intro i o hi
    by_cases hlt : i < t.length
    · rw [List.getElem?_append_left hlt] at hi
      rcases h.cau i o hi with e | ⟨j, o', hj, ho', hm⟩
      · exact .inr ⟨t.length, x, hlt, by simp, e⟩
      · exact .inr ⟨j, o', hj, by rw [List.getElem?_append_left (List.getElem?_eq_some_iff.1 ho').1]; exact ho', hm⟩
    · have := (List.getElem?_eq_some_iff.1 hi).1
      simp at this
      have e : i = t.length := by omega
      subst e
      simp at hi
      exact .inl (by simp [hi])
  · intro P hP hs o ho
    have hPx := hP x (by simp) hw
    simp only [List.mem_append, List.mem_singleton] at ho
    rcases ho with ho | rfl
    · exact h.lst P (fun y hy hyw => hs x y hPx hy hyw) hs o ho
    · exact hPx
  · intro y hy
    simp at hy
    subst hy
    exact .inr hxs
  · have := h.len
    simp at this
    show st.1.length ≤ s.1.length
    omega

theorem refs_rng {g : Gr} (h : Good g) (i : Int) : ∀ x ∈ refsL (fieldsOf g i), 0 ≤ x ∧ x < g.objs.length := by
  intro x hx
  by_cases hi : i.toNat < g.objs.length
  · have e : fieldsOf g i = g.objs[i.toNat] := by unfold fieldsOf; simp [hi]
    rw [e] at hx
    exact h.fields (List.getElem_mem hi) x hx
  · have e : fieldsOf g i = [] := by unfold fieldsOf; simp [hi]
    rw [e] at hx
    simp [refsL, valsOf, obsOf] at hx

theorem vis_vis {g : Gr} (hG : Good g) (wo : Int) : ∀ (n : Nat) (xs : List Int) (st : List Int × List Int), SOk g.objs.length st → (∀ x ∈ xs, 0 ≤ x ∧ x < g.objs.length) → g.objs.length < st.1.length + n →
    ∃ t, Vis g wo xs st t (visF g wo n xs st) := by
  intro n
  induction n with
  | zero => intro xs st h _ hl; have := h.le; omega
  | succ n ih =>
    intro xs
    induction xs with
    | nil => intro st h _ _; exact ⟨[], Vis.nil h⟩
    | cons x xs ihx =>
      intro st h hx hl
      have hstep : ∃ t, Vis g wo [x] st t (visS g wo n st x) := by
        unfold visS
        by_cases hc : x = wo ∨ x ∈ st.1
        · rw [if_pos hc]; exact ⟨[], Vis.skip h hc⟩
        · rw [if_neg hc]
          have hc' := not_or.1 hc
          obtain ⟨t, ht⟩ := ih (refsL (fieldsOf g x)) (st.1 ++ [x], st.2) (sok_see h hc'.2 (hx x (by simp))) (refs_rng hG x) (by simp; omega)
          exact ⟨_, Vis.step h hc'.2 hc'.1 ht⟩
      obtain ⟨t1, h1⟩ := hstep
      obtain ⟨t2, h2⟩ := ihx (visS g wo n st x) h1.ok (fun y hy => hx y (by simp [hy])) (by have := h1.len; omega)
      exact ⟨t1 ++ t2, h1.trans h2⟩

/-- The objects, as one goes back out of them. -/
def wayF (g : Gr) (wo : Int) : List Int × List Int := visF g wo (g.objs.length + 1) (refsL g.roots) ([], [])
def backL (g : Gr) (wo : Int) : List Int := (wayF g wo).2

theorem sok_nil (N : Nat) : SOk N ([], []) := ⟨by simp, by simp, by simp, by simp⟩

theorem way_vis {g : Gr} (hG : Good g) (wo : Int) : Vis g wo (refsL g.roots) ([], []) (backL g wo) (wayF g wo) := by
  obtain ⟨t, ht⟩ := vis_vis hG wo (g.objs.length + 1) (refsL g.roots) ([], []) (sok_nil _) hG.roots (by simp)
  have e : backL g wo = t := by have := ht.app; simp only [List.nil_append] at this; exact this
  rw [e]; exact ht

/-- A list without references to one object. -/
def cutV (wo : Int) (v : V) : V := if v.1 && v.2 == wo then (false, 0) else v
def cutG (g : Gr) (wo : Int) : Gr := { objs := g.objs.map (·.map (cutV wo)), roots := g.roots.map (cutV wo) }

theorem cutV_ref {wo : Int} {v : V} (h : (cutV wo v).1 = true) : cutV wo v = v ∧ v.1 = true ∧ v.2 ≠ wo := by
  unfold cutV at *
  split at h
  · cases h
  · rename_i hn
    rw [if_neg hn]
    refine ⟨rfl, h, fun e => hn ?_⟩
    simp [h, e]

theorem cutV_keep {wo : Int} {v : V} (h : v.1 = false ∨ v.2 ≠ wo) : cutV wo v = v := by
  unfold cutV
  rw [if_neg]
  rcases h with h | h
  · simp [h]
  · simp [h]

theorem refs_cut {l : List V} (hl : RefsOk l) (wo o : Int) : o ∈ refsL (l.map (cutV wo)) ↔ o ∈ refsL l ∧ o ≠ wo := by
  have hl' : RefsOk (l.map (cutV wo)) := by
    intro v hv hr
    obtain ⟨u, hu, rfl⟩ := List.mem_map.1 hv
    obtain ⟨e, h1, _⟩ := cutV_ref hr
    rw [e]; exact hl u hu h1
  rw [mem_refsL hl', mem_refsL hl, List.mem_map]
  constructor
  · rintro ⟨u, hu, e⟩
    obtain ⟨e1, h1, h2⟩ := cutV_ref (wo := wo) (v := u) (by rw [e])
    rw [e1] at e
    subst e
    exact ⟨hu, h2⟩
  · rintro ⟨hm, hn⟩
    exact ⟨_, hm, cutV_keep (.inr hn)⟩

theorem cut_len (g : Gr) (wo : Int) : (cutG g wo).objs.length = g.objs.length := by simp [cutG]

theorem cut_fields (g : Gr) (wo o : Int) : fieldsOf (cutG g wo) o = (fieldsOf g o).map (cutV wo) := by
  unfold fieldsOf cutG
  simp only [List.getElem?_map]
  cases g.objs[o.toNat]? <;> rfl

theorem good_cut {g : Gr} (h : Good g) (wo : Int) : Good (cutG g wo) := by
  refine ⟨by rw [cut_len]; exact h.n24, by simpa [cutG] using h.n8, ?_, ?_, ?_⟩
  · intro l hl
    obtain ⟨l', hl', rfl⟩ := List.mem_map.1 (show l ∈ g.objs.map (·.map (cutV wo)) from hl)
    simpa using h.n4 l' hl'
  · intro v hv hr
    obtain ⟨u, hu, rfl⟩ := List.mem_map.1 (show v ∈ g.roots.map (cutV wo) from hv)
    obtain ⟨e, h1, _⟩ := cutV_ref hr
    rw [e, cut_len]; exact h.rr u hu h1
  · intro l hl v hv hr
    obtain ⟨l', hl', rfl⟩ := List.mem_map.1 (show l ∈ g.objs.map (·.map (cutV wo)) from hl)
    obtain ⟨u, hu, rfl⟩ := List.mem_map.1 hv
    obtain ⟨e, h1, _⟩ := cutV_ref hr
    rw [e, cut_len]; exact h.ro l' hl' u hu h1

theorem refsOk_fieldsOf {g : Gr} (h : Good g) (i : Int) : RefsOk (fieldsOf g i) := by
  by_cases hi : i.toNat < g.objs.length
  · have e : fieldsOf g i = g.objs[i.toNat] := by unfold fieldsOf; simp [hi]
    rw [e]; exact h.refsObjs (List.getElem_mem hi)
  · have e : fieldsOf g i = [] := by unfold fieldsOf; simp [hi]
    rw [e]; intro v hv; simp at hv

/-- What holds of the roots' objects, and goes on, holds of all that can be come to. -/
theorem order_ind {g : Gr} (h : Good g) (P : Int → Prop) (h1 : ∀ x ∈ refsL g.roots, P x) (h2 : ∀ x y, x ∈ orderOf g → P x → y ∈ refsL (fieldsOf g x) → P y) : ∀ x ∈ orderOf g, P x := by
  classical
  intro x hx
  have hc : closedB g ((orderOf g).filter fun x => decide (P x)) = true := by
    unfold closedB
    rw [Bool.and_eq_true]
    refine ⟨(okV_all h.refsRoots).2 (fun x hx => ?_), List.all_eq_true.2 fun o ho => ?_⟩
    · rw [List.mem_filter]; exact ⟨order_roots g x hx, by simpa using h1 x hx⟩
    · rw [List.mem_filter] at ho
      refine (okV_all (refsOk_fieldsOf h o)).2 (fun y hy => ?_)
      rw [List.mem_filter]
      exact ⟨order_closed h ho.1 y hy, by simpa using h2 o y ho.1 (by simpa using ho.2) hy⟩
  have := closed_least h hc x hx
  rw [List.mem_filter] at this
  simpa using this.2

/-- What can be come to without references to wo. -/
def leftL (g : Gr) (wo : Int) : List Int := orderOf (cutG g wo)

theorem left_roots {g : Gr} (h : Good g) {wo x : Int} (hx : x ∈ refsL g.roots) (hn : x ≠ wo) : x ∈ leftL g wo :=
  order_roots (cutG g wo) x ((refs_cut h.refsRoots wo x).2 ⟨hx, hn⟩)

theorem left_next {g : Gr} (h : Good g) {wo x y : Int} (hx : x ∈ leftL g wo) (hy : y ∈ refsL (fieldsOf g x)) (hn : y ≠ wo) : y ∈ leftL g wo := by
  refine order_closed (good_cut h wo) hx y ?_
  rw [cut_fields]
  exact (refs_cut (refsOk_fieldsOf h x) wo y).2 ⟨hy, hn⟩

theorem left_ind {g : Gr} (h : Good g) {wo : Int} (P : Int → Prop) (h1 : ∀ x ∈ refsL g.roots, x ≠ wo → P x) (h2 : ∀ x y, x ∈ leftL g wo → P x → y ∈ refsL (fieldsOf g x) → y ≠ wo → P y) : ∀ x ∈ leftL g wo, P x := by
  refine order_ind (good_cut h wo) P (fun x hx => ?_) (fun x y hx hp hy => ?_)
  · obtain ⟨a, b⟩ := (refs_cut h.refsRoots wo x).1 hx
    exact h1 x a b
  · rw [cut_fields] at hy
    obtain ⟨a, b⟩ := (refs_cut (refsOk_fieldsOf h x) wo y).1 hy
    exact h2 x y hx hp a b

theorem left_ne {g : Gr} (h : Good g) {wo x : Int} (hx : x ∈ leftL g wo) : x ≠ wo :=
  left_ind h (fun x => x ≠ wo) (fun _ _ hn => hn) (fun _ _ _ _ _ hn => hn) x hx

theorem left_sub {g : Gr} (h : Good g) {wo x : Int} (hx : x ∈ leftL g wo) : x ∈ orderOf g :=
  left_ind h (fun x => x ∈ orderOf g) (fun x hx _ => order_roots g x hx) (fun x y _ hp hy _ => order_closed h hp y hy) x hx

theorem left_rng {g : Gr} (h : Good g) {wo x : Int} (hx : x ∈ leftL g wo) : 0 ≤ x ∧ x < g.objs.length := order_ok h (left_sub h hx)

/-- The way back has just what is left. -/
theorem back_mem {g : Gr} (h : Good g) (wo x : Int) : x ∈ backL g wo ↔ x ∈ leftL g wo := by
  have hv := way_vis h wo
  constructor
  · exact fun hx => hv.lst (fun x => x ∈ leftL g wo) (fun x hx hn => left_roots h hx hn) (fun x y hp hy hn => left_next h hp hy hn) x hx
  · refine left_ind h (fun x => x ∈ backL g wo) (fun x hx hn => ?_) (fun x y _ hp hy hn => ?_) x
    · rcases hv.got x hx with e | e
      · exact absurd e hn
      · simpa using (hv.mem x).1 e
    · simpa using (hv.mem y).1 (hv.clo x hp y hy hn)

theorem back_nodup {g : Gr} (h : Good g) (wo : Int) : (backL g wo).Nodup := (way_vis h wo).ok.nd2
theorem back_len {g : Gr} (h : Good g) (wo : Int) : (backL g wo).length ≤ g.objs.length := (way_vis h wo).ok.le2

/-- What an object keeps, by numbers. -/
def retL (g : Gr) (v : Int) : List Int := (sortL (orderOf g)).filter fun o => !decide (o ∈ leftL g v)

theorem mem_ret {g : Gr} {v x : Int} : x ∈ retL g v ↔ x ∈ orderOf g ∧ x ∉ leftL g v := by
  unfold retL; rw [List.mem_filter, sortL_mem]; simp

theorem ret_len {g : Gr} (h : Good g) (v : Int) : (retL g v).length ≤ g.objs.length := by
  have h1 := List.length_filter_le (fun o => !decide (o ∈ leftL g v)) (sortL (orderOf g))
  rw [sortL_len] at h1
  have := (searchN_ok h g.objs.length).le
  unfold retL
  unfold orderOf at h1 ⊢
  omega

end Go.Proofs.Ythpmckfgngkbhaa
