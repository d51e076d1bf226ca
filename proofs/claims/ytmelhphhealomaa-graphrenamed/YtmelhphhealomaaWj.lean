/- What a search has found, in memory. -/
import Derived.Test.YtmelhphhealomaaProg
import Derived.Test.YtmelhphhealomaaMem
import Derived.Test.YtmelhphhealomaaWi
import Derived.Maps.OwnIn
import Derived.Maps.AppendAt
namespace Go.Proofs.Ytmelhphhealomaa
set_option linter.unusedSimpArgs false
set_option linter.unusedVariables false
open Go.RowKit Go.Shelf

theorem Try.info3 : (Try.prog.info? 3).map (fun i => (i.zero, i.size, i.bytes)) = some (some (.int .i64 0), 1, 8) := by kernel_rfl

def intsV (l : List Int) : List Value := l.map (Value.int .i64)

theorem intsV_snoc (l : List Int) (x : Int) : intsV (l ++ [x]) = intsV l ++ [.int .i64 x] := by simp [intsV]

/-- One object more, found at distance d. -/
def findS (d : Int) (st : List Int × List Int) (o : Int) : List Int × List Int := if o ∈ st.1 then st else (st.1 ++ [o], st.2 ++ [d])

def findA (d : Int) (st : List Int × List Int) (xs : List Int) : List Int × List Int := xs.foldl (findS d) st

theorem findA_snoc (d : Int) (st : List Int × List Int) (xs : List Int) (o : Int) : findA d st (xs ++ [o]) = findS d (findA d st xs) o := by simp [findA]

theorem findS_len (d : Int) (st : List Int × List Int) (o : Int) : (findS d st o).1.length ≤ st.1.length + 1 ∧ (findS d st o).2.length ≤ st.2.length + 1 := by
  unfold findS; split <;> simp

theorem findA_len (d : Int) : ∀ (xs : List Int) (st : List Int × List Int), (findA d st xs).1.length ≤ st.1.length + xs.length ∧ (findA d st xs).2.length ≤ st.2.length + xs.length
  | [], st => by simp [findA]
  | x :: xs, st => by
    have h1 := findS_len d st x
    have h2 := findA_len d xs (findS d st x)
    simp only [findA, List.foldl_cons, List.length_cons] at *
    omega

/-- The map tells where each object stands. -/
def PlaceD (D : DataW Unit) (order : List Int) : Prop :=
  (∀ j, Maps.has D (.int .i64 j) = decide (j ∈ order)) ∧ order.Nodup ∧ ∀ (i : Nat) (j : Int), order[i]? = some j → D.atKey (.int .i64 j) (.lit (.int .i64 0)) = .lit (.int .i64 i)

theorem placeD_nil : PlaceD (.map []) [] := ⟨fun j => by simp [Maps.has_eq], by simp, fun i j h => by simp at h⟩

theorem placeD_put {D : DataW Unit} {order : List Int} (h : PlaceD D order) (hD : Maps.IsMap D) {x : Int} (hx : x ∉ order) :
    PlaceD (D.put (.int .i64 x) (.lit (.int .i64 order.length))) (order ++ [x]) := by
  have hk : WideAt.IsKeyLit (.int .i64 x) := trivial
  refine ⟨fun j => ?_, ?_, fun i j hi => ?_⟩
  · by_cases e : j = x
    · subst e; rw [Maps.has_put_same hD hk]; simp
    · rw [Maps.has_put_other (by simpa using e), h.1 j]; simp [e]
  · rw [List.nodup_append]; exact ⟨h.2.1, by simp, by intro a ha b hb; simp at hb; subst hb; exact fun e => hx (e ▸ ha)⟩
  · by_cases hlt : i < order.length
    · rw [List.getElem?_append_left hlt] at hi
      have hne : j ≠ x := fun e => hx (e ▸ List.mem_of_getElem? hi)
      rw [Maps.atKey_put_other (by simpa using hne)]
      exact h.2.2 i j hi
    · rw [List.getElem?_append_right (by omega)] at hi
      have hi0 : i - order.length = 0 := by
        rcases Nat.eq_zero_or_pos (i - order.length) with h0 | h0
        · exact h0
        · rw [List.getElem?_eq_none (by simp; omega)] at hi; cases hi
      rw [hi0] at hi
      simp at hi
      subst hi
      rw [Maps.atKey_put_same hD hk]
      congr 3; omega

/-- The box of what was found: two slices, and a map. -/
structure FBox (W : World) (mb : Nat) (vo vd : Value) : Prop where
  c0 : W.cell? ⟨mb + 1, 0, none⟩ = some vo
  c1 : W.cell? ⟨mb + 1, 1, none⟩ = some vd
  c2 : W.cell? ⟨mb + 1, 2, none⟩ = some (.map (some mb))
  f0 : W.frozen? ⟨mb + 1, 0, none⟩ = false
  f1 : W.frozen? ⟨mb + 1, 1, none⟩ = false

theorem FBox.kept {W W' : World} {mb : Nat} {vo vd : Value} (h : FBox W mb vo vd) (hb : W'.heap[mb + 1]? = W.heap[mb + 1]?) : FBox W' mb vo vd :=
  ⟨(World.cell?_of_block (a := ⟨mb + 1, 0, none⟩) hb).trans h.c0, (World.cell?_of_block (a := ⟨mb + 1, 1, none⟩) hb).trans h.c1, (World.cell?_of_block (a := ⟨mb + 1, 2, none⟩) hb).trans h.c2,
    (World.frozen?_of_block (a := ⟨mb + 1, 0, none⟩) hb).trans h.f0, (World.frozen?_of_block (a := ⟨mb + 1, 1, none⟩) hb).trans h.f1⟩

theorem FBox.lt {W : World} {mb : Nat} {vo vd : Value} (h : FBox W mb vo vd) : mb + 1 < W.heap.size := World.block_lt_of_cell? W _ h.c0

theorem FBox.set0 {W : World} {mb : Nat} {vo vd : Value} (h : FBox W mb vo vd) (v : Value) : FBox (W.setCell ⟨mb + 1, 0, none⟩ v) mb v vd := by
  refine ⟨World.cell?_setCell_same' _ _ _ (by rw [h.c0]; rfl), ?_, ?_, by rw [World.frozen?_setCell]; exact h.f0, by rw [World.frozen?_setCell]; exact h.f1⟩
  · rw [World.cell?_setCell_other _ _ _ _ (by simp)]; exact h.c1
  · rw [World.cell?_setCell_other _ _ _ _ (by simp)]; exact h.c2

theorem FBox.set1 {W : World} {mb : Nat} {vo vd : Value} (h : FBox W mb vo vd) (v : Value) : FBox (W.setCell ⟨mb + 1, 1, none⟩ v) mb vo v := by
  refine ⟨?_, World.cell?_setCell_same' _ _ _ (by rw [h.c1]; rfl), ?_, by rw [World.frozen?_setCell]; exact h.f0, by rw [World.frozen?_setCell]; exact h.f1⟩
  · rw [World.cell?_setCell_other _ _ _ _ (by simp)]; exact h.c0
  · rw [World.cell?_setCell_other _ _ _ _ (by simp)]; exact h.c2

/-- What was found so far. -/
structure Found (W : World) (mb : Nat) (st : List Int × List Int) (vo vd : Value) (D : DataW Unit) : Prop where
  box : FBox W mb vo vd
  ord : W.ownsRow (mb + 2) 3 1 vo st.1.length (intsV st.1)
  dis : W.ownsRow (mb + 2) 3 1 vd st.2.length (intsV st.2)
  map : W.ownsMap Try.prog 3 (plainElem Try.prog 3) mb st.1.length D
  plc : PlaceD D st.1
  apart : ∀ k, vo.ownBlock = some k → vd.ownBlock ≠ some k

/-- A row is kept where what is turned is no row. -/
theorem ownsRow_keptOf {W W' : World} {row : Option Nat} {base : Nat} {e : TypeId} {size : Nat} {v : Value} {n : Nat} {xs : List Value} (h : W.ownsRow base e size v n xs) (hg : W.grownBy W' row)
    (hr : ∀ r, row = some r → ∃ o : Obj, W.heap[r]? = some o ∧ o.isCells = false) : W'.ownsRow base e size v n xs := by
  refine h.kept hg ?_
  rcases h.2 with ⟨rfl, _⟩ | ⟨g, cap, cur, rfl, _, hgb, _⟩
  · exact .inl rfl
  · refine .inr fun e' => ?_
    obtain ⟨o, ho, hc⟩ := hr g (by simpa [Value.ownBlock] using e'.symm)
    rw [hgb] at ho; cases ho; cases hc

/-- An append turns nothing that is no row. -/
theorem keepsOthers_append {W W' : World} {base : Nat} {e : TypeId} {size : Nat} {v : Value} {n : Nat} {xs : List Value} (h : W.ownsRow base e size v n xs) (hg : W.grownBy W' v.ownBlock) : KeepsOthers W W' := by
  refine ⟨hg.size, fun k o hk ho => ?_⟩
  rw [hg.block k (Array.getElem?_eq_some_iff.1 hk).1 ?_]; exact hk
  intro e'
  rcases h.2 with ⟨rfl, _⟩ | ⟨g, cap, cur, rfl, _, hgb, _⟩
  · simp [Value.ownBlock] at e'
  · obtain rfl : k = g := by simpa [Value.ownBlock] using e'
    rw [hgb] at hk; cases hk; cases ho

theorem Found.alloc {W : World} {mb : Nat} {st : List Int × List Int} {vo vd : Value} {D : DataW Unit} (h : Found W mb st vo vd D) (o : Obj) : Found (W.alloc o) mb st vo vd D :=
  ⟨h.box.kept (Below.heap_alloc _ _ _ h.box.lt), h.ord.alloc o, h.dis.alloc o, h.map.alloc o, h.plc, h.apart⟩

theorem Found.own {W W' : World} {row : Option Nat} {mb : Nat} {st : List Int × List Int} {vo vd : Value} {D : DataW Unit} (h : Found W mb st vo vd D) (hg : W.grownBy W' row)
    (hr : ∀ r, row = some r → mb + 2 ≤ r ∧ ∃ o : Obj, W.heap[r]? = some o ∧ o.isCells = false) : Found W' mb st vo vd D :=
  ⟨h.box.kept (hg.block _ h.box.lt (fun e => by have := (hr _ e.symm).1; omega)), ownsRow_keptOf h.ord hg (fun r e => (hr r e).2), ownsRow_keptOf h.dis hg (fun r e => (hr r e).2),
    h.map.kept hg (fun e => by have := (hr _ e.symm).1; omega), h.plc, h.apart⟩

theorem ownsRow_slice {W : World} {base : Nat} {e : TypeId} {size : Nat} {v : Value} {n : Nat} {xs : List Value} (h : W.ownsRow base e size v n xs) : ∃ a cap, v = .slice a n cap := by
  rcases h.2 with ⟨rfl, rfl⟩ | ⟨g, cap, cur, rfl, _⟩
  · exact ⟨none, 0, rfl⟩
  · exact ⟨_, cap, rfl⟩

/-- Behind a store of the map. -/
theorem Found.put {W W' : World} {mb : Nat} {st : List Int × List Int} {vo vd : Value} {D D' : DataW Unit} (h : Found W mb st vo vd D) (hg : W.grownBy W' (some mb)) (hm : W'.ownsMap Try.prog 3 (plainElem Try.prog 3) mb (st.1.length + 1) D') :
    FBox W' mb vo vd ∧ W'.ownsRow (mb + 2) 3 1 vo st.1.length (intsV st.1) ∧ W'.ownsRow (mb + 2) 3 1 vd st.2.length (intsV st.2) ∧ W'.ownsMap Try.prog 3 (plainElem Try.prog 3) mb (st.1.length + 1) D' :=
  ⟨h.box.kept (hg.block _ h.box.lt (by simp)), h.ord.kept hg (.inr fun e => by have := (h.ord.lt _ e).1; omega), h.dis.kept hg (.inr fun e => by have := (h.dis.lt _ e).1; omega), hm⟩

end Go.Proofs.Ytmelhphhealomaa
