/- What the closure of referrers goes by: a row of rows that grow. -/
import Derived.Test.YtkoidbekfjlfjaaProg
import Derived.Test.YtkoidbekfjlfjaaMem
import Derived.Test.YtkoidbekfjlfjaaDb
import Derived.Test.YtkoidbekfjlfjaaIc
import Derived.Test.YtkoidbekfjlfjaaHc
import Derived.Test.YtkoidbekfjlfjaaWz
import Derived.Test.YtkoidbekfjlfjaaWv
namespace Go.Proofs.Ytkoidbekfjlfjaa
set_option linter.unusedSimpArgs false
set_option linter.unusedVariables false
open Go.RowKit Go.Shelf

/-- The number n is noted with each of some objects. -/
def noteL (ord : List Int) (n : Int) (L : List (List Int)) (xs : List Int) : List (List Int) := xs.foldl (fun L o => L.set (ord.idxOf o) ((L.getD (ord.idxOf o) []) ++ [n])) L

theorem noteL_snoc (ord : List Int) (n : Int) (L : List (List Int)) (xs : List Int) (x : Int) : noteL ord n L (xs ++ [x]) = (noteL ord n L xs).set (ord.idxOf x) (((noteL ord n L xs).getD (ord.idxOf x) []) ++ [n]) := by
  simp only [noteL, List.foldl_append, List.foldl_cons, List.foldl_nil]

theorem noteL_len (ord : List Int) (n : Int) : ∀ (xs : List Int) (L : List (List Int)), (noteL ord n L xs).length = L.length
  | [], _ => rfl
  | x :: xs, L => by
    have := noteL_len ord n xs (L.set (ord.idxOf x) ((L.getD (ord.idxOf x) []) ++ [n]))
    simpa [noteL] using this

theorem noteL_le (ord : List Int) (n : Int) : ∀ (xs : List Int) (L : List (List Int)) (M : Nat), (∀ l ∈ L, l.length ≤ M) → ∀ l ∈ noteL ord n L xs, l.length ≤ M + xs.length
  | [], L, M, h, l, hl => h l hl
  | x :: xs, L, M, h, l, hl => by
    have h2 : ∀ l ∈ L.set (ord.idxOf x) ((L.getD (ord.idxOf x) []) ++ [n]), l.length ≤ M + 1 := by
      intro q hq
      rcases List.mem_or_eq_of_mem_set hq with e | e
      · have := h q e; omega
      · rw [e, List.length_append]
        by_cases hi : ord.idxOf x < L.length
        · have := h _ (List.getElem_mem hi)
          simp [hi]; omega
        · simp [List.getElem?_eq_none (Nat.le_of_not_lt hi)]
    have := noteL_le ord n xs _ (M + 1) h2 l (by simpa [noteL] using hl)
    simp only [List.length_cons]
    omega

/-- What the closure goes by: b is the first of the blocks of referrers. -/
structure RB (W : World) (b N gb : Nat) (o0 o1 : Obj) (ord : List Int) (L : List (List Int)) (es : List Value) : Prop where
  b0 : W.heap[b]? = some o0
  b1 : W.heap[b + 1]? = some o1
  c1 : W.cell? ⟨b, 1, none⟩ = some (.slice (some ⟨gb, 0, none⟩) N N)
  num : Ints b W (some ⟨gb, 0, none⟩) (numL N ord)
  cf : W.cell? ⟨b + 3, 0, none⟩ = some (.slice (some ⟨b + 2, 0, none⟩) ord.length ord.length)
  len : L.length = ord.length
  row : W.ownsRow (b + 2) 26 1 (.slice (some ⟨b + 2, 0, none⟩) ord.length ord.length) ord.length es
  el : ∀ (k : Nat) (l : List Int), L[k]? = some l → ∃ v, es[k]? = some v ∧ W.ownsRow (b + 4) 3 1 v l.length (intsV l)
  sep : ∀ (j k : Nat) (vj vk : Value) (x : Nat), es[j]? = some vj → es[k]? = some vk → vj.ownBlock = some x → vk.ownBlock = some x → j = k

theorem RB.lt {W : World} {b N gb : Nat} {o0 o1 : Obj} {ord : List Int} {L : List (List Int)} {es : List Value} (h : RB W b N gb o0 o1 ord L es) : b + 3 < W.heap.size := World.block_lt_of_cell? W _ h.cf

theorem RB.own {W W' : World} {row : Option Nat} {b N gb : Nat} {o0 o1 : Obj} {ord : List Int} {L : List (List Int)} {es : List Value} (h : RB W b N gb o0 o1 ord L es) (hg : W.grownBy W' row)
    (hr : ∀ r, row = some r → b + 4 ≤ r ∧ ∃ o : Obj, W.heap[r]? = some o ∧ o.isCells = false) : RB W' b N gb o0 o1 ord L es := by
  have hlt := h.lt
  have hb : ∀ k, k < b + 4 → W'.heap[k]? = W.heap[k]? := fun k hk => hg.block k (by omega) (fun e => by have := (hr _ e.symm).1; omega)
  have hB : Below b W W' := (Below.refl b W).grown hg (by omega) (fun k e => by have := (hr k e).1; omega)
  refine ⟨(hb b (by omega)).trans h.b0, (hb (b + 1) (by omega)).trans h.b1, (World.cell?_of_block (a := ⟨b, 1, none⟩) (hb b (by omega))).trans h.c1, h.num.below hB, (World.cell?_of_block (a := ⟨b + 3, 0, none⟩) (hb (b + 3) (by omega))).trans h.cf, h.len, row_block h.row (hb (b + 2) (by omega)), fun k l hk => ?_, h.sep⟩
  obtain ⟨v, h1, h2⟩ := h.el k l hk
  exact ⟨v, h1, ownsRow_keptOf h2 hg (fun r e => (hr r e).2)⟩

theorem RB.below {W W' : World} {b N gb : Nat} {o0 o1 : Obj} {ord : List Int} {L : List (List Int)} {es : List Value} (h : RB W b N gb o0 o1 ord L es) (hb : Below W.heap.size W W') : RB W' b N gb o0 o1 ord L es :=
  h.own (row := none) ⟨hb.os, hb.tape, hb.output, hb.size, fun k hk _ => hb.block k hk⟩ (fun r e => by cases e)

theorem ownsRow_isCells {W : World} {base : Nat} {e : TypeId} {size n : Nat} {v : Value} {xs : List Value} (h : W.ownsRow base e size v n xs) {j : Nat} {o : Obj} (hj : v.ownBlock = some j) (ho : W.heap[j]? = some o) : o.isCells = true := by
  rcases h.2 with ⟨rfl, _⟩ | ⟨g, cap, cur, rfl, _, hgb, _⟩
  · cases hj
  · have e : g = j := by simpa [Value.ownBlock] using hj
    subst e
    rw [hgb] at ho
    injection ho with ho
    subst ho
    rfl

/-- One more is noted. -/
theorem RB.put {W W1 w4 : World} {b N gb : Nat} {o0 o1 : Obj} {ord : List Int} {L : List (List Int)} {es : List Value} (h : RB W b N gb o0 o1 ord L es) {k : Nat} {l : List Int} {v v1 : Value} {n : Int} (hk : L[k]? = some l) (hv : es[k]? = some v)
    (h1 : Below W.heap.size W W1) (hg : W1.grownBy w4 v.ownBlock) (hrow : w4.ownsRow (b + 4) 3 1 v1 (l.length + 1) (intsV l ++ [.int .i64 n])) (hat : v1.ownBlock = v.ownBlock ∨ v1.ownBlock = some W1.heap.size) :
    RB (w4.setCell ⟨b + 2, k, none⟩ v1) b N gb o0 o1 ord (L.set k (l ++ [n])) (es.set k v1) ∧ Below b W (w4.setCell ⟨b + 2, k, none⟩ v1) ∧ KeepsOthers W (w4.setCell ⟨b + 2, k, none⟩ v1) ∧
      ∀ nb, nb < W.heap.size → b + 4 ≤ nb → (∀ (j : Nat) (u : Value), es[j]? = some u → u.ownBlock ≠ some nb) → ((w4.setCell ⟨b + 2, k, none⟩ v1).heap[nb]? = W.heap[nb]?) ∧ ∀ (j : Nat) (u : Value), (es.set k v1)[j]? = some u → u.ownBlock ≠ some nb := by
  have hlt := h.lt
  have hs1 := h1.size
  have hR := h.below h1
  obtain ⟨v', hv', hvr⟩ := hR.el k l hk
  obtain rfl : v = v' := by rw [hv] at hv'; injection hv'
  have hvb : ∀ q, v.ownBlock = some q → b + 4 ≤ q ∧ q < W.heap.size := by
    obtain ⟨v'', hv'', hvr''⟩ := h.el k l hk
    obtain rfl : v = v'' := by rw [hv] at hv''; injection hv''
    exact hvr''.lt
  have hne : ∀ q, q < b + 4 → v.ownBlock ≠ some q := fun q hq e => by have := (hvb q e).1; omega
  have hb4 : ∀ q, q < b + 4 → w4.heap[q]? = W.heap[q]? := fun q hq => (hg.block q (by omega) (fun e => hne q hq e.symm)).trans (h1.block q (by omega))
  have hst : ∀ q, q ≠ b + 2 → (w4.setCell ⟨b + 2, k, none⟩ v1).heap[q]? = w4.heap[q]? := fun q hq => Below.heap_setCell _ _ _ _ (by intro e; exact hq (by simp at e; omega))
  have hB : Below b W (w4.setCell ⟨b + 2, k, none⟩ v1) := ((h1.mono (by omega)).grown hg (by omega) (fun q e => by have := (hvb q e).1; omega)).setCell (p := ⟨b + 2, k, none⟩) (by simp) _
  have hrow4 : w4.ownsRow (b + 2) 26 1 (.slice (some ⟨b + 2, 0, none⟩) ord.length ord.length) ord.length es := row_block h.row (hb4 (b + 2) (by omega))
  have hkl : k < es.length := (List.getElem?_eq_some_iff.1 hv).1
  have hkL : k < L.length := (List.getElem?_eq_some_iff.1 hk).1
  refine ⟨⟨((hst b (by omega)).trans (hb4 b (by omega))).trans h.b0, ((hst (b + 1) (by omega)).trans (hb4 (b + 1) (by omega))).trans h.b1, ?_, h.num.below hB, ?_, by simp [h.len], (hrow4.stored k v1).1, ?_, ?_⟩, hB, ?_, ?_⟩
  · exact (World.cell?_of_block (a := ⟨b, 1, none⟩) ((hst b (by omega)).trans (hb4 b (by omega)))).trans h.c1
  · exact (World.cell?_of_block (a := ⟨b + 3, 0, none⟩) ((hst (b + 3) (by omega)).trans (hb4 (b + 3) (by omega)))).trans h.cf
  · intro q lq hq
    by_cases e : q = k
    · subst e
      rw [List.getElem?_set_self hkL] at hq
      injection hq with hq
      subst hq
      refine ⟨v1, by rw [List.getElem?_set_self hkl], ?_⟩
      rw [intsV_snoc, List.length_append]
      exact ownsRow_setCell_below hrow (by simp) _
    · rw [List.getElem?_set_ne (fun e' => e e'.symm)] at hq
      obtain ⟨u, hu, hur⟩ := hR.el q lq hq
      refine ⟨u, by rw [List.getElem?_set_ne (fun e' => e e'.symm)]; exact hu, ?_⟩
      refine ownsRow_setCell_below (hur.kept hg ?_) (by simp) _
      cases hub : u.ownBlock with
      | none => exact .inl rfl
      | some x => exact .inr (fun e' => e (h.sep q k u v x hu hv hub e'.symm))
  · intro j q vj vq x hj hq hjx hqx
    by_cases ej : j = k
    · by_cases eq : q = k
      · rw [ej, eq]
      · exfalso
        subst ej
        rw [List.getElem?_set_self hkl] at hj
        injection hj with hj
        subst hj
        rw [List.getElem?_set_ne (fun e' => eq e'.symm)] at hq
        rcases hat with e | e
        · exact eq (h.sep j q v vq x hv hq (by rw [← e]; exact hjx) hqx).symm
        · rw [e] at hjx
          have : W1.heap.size = x := by injection hjx
          have hql : q < L.length := by have h9 := (List.getElem?_eq_some_iff.1 hq).1; have h8 := h.row.1; have h7 := h.len; omega
          obtain ⟨u, hu, hur⟩ := hR.el q L[q] (List.getElem?_eq_getElem hql)
          rw [hq] at hu
          injection hu with hu
          subst hu
          have := (hur.lt x hqx).2
          omega
    · rw [List.getElem?_set_ne (fun e' => ej e'.symm)] at hj
      by_cases eq : q = k
      · exfalso
        subst eq
        rw [List.getElem?_set_self hkl] at hq
        injection hq with hq
        subst hq
        rcases hat with e | e
        · exact ej (h.sep j q vj v x hj hv hjx (by rw [← e]; exact hqx))
        · rw [e] at hqx
          have : W1.heap.size = x := by injection hqx
          have hjl : j < L.length := by have h9 := (List.getElem?_eq_some_iff.1 hj).1; have h8 := h.row.1; have h7 := h.len; omega
          obtain ⟨u, hu, hur⟩ := hR.el j L[j] (List.getElem?_eq_getElem hjl)
          rw [hj] at hu
          injection hu with hu
          subst hu
          have := (hur.lt x hjx).2
          omega
      · rw [List.getElem?_set_ne (fun e' => eq e'.symm)] at hq
        exact h.sep j q vj vq x hj hq hjx hqx
  · have k1 : KeepsOthers W W1 := KeepsOthers.of_grownBy (row := none) ⟨h1.os, h1.tape, h1.output, h1.size, fun k hk _ => h1.block k hk⟩ (fun j o e => by cases e)
    have k2 : KeepsOthers W1 w4 := KeepsOthers.of_grownBy hg (fun j o e ho => ownsRow_isCells hvr e ho)
    exact (k1.trans k2).trans (KeepsOthers.setCell _ _ _)
  · intro nb hnb hnb4 hall
    refine ⟨(hst nb (by omega)).trans ((hg.block nb (by omega) (fun e => hall k v hv e.symm)).trans (h1.block nb hnb)), fun j u hu => ?_⟩
    by_cases e : j = k
    · subst e
      rw [List.getElem?_set_self hkl] at hu
      injection hu with hu
      subst hu
      rcases hat with e | e
      · rw [e]; exact hall j v hv
      · rw [e]; intro e'; have : W1.heap.size = nb := by injection e'
        omega
    · rw [List.getElem?_set_ne (fun e' => e e'.symm)] at hu
      exact hall j u hu

end Go.Proofs.Ytkoidbekfjlfjaa
