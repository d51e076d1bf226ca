/- The way back, in memory. -/
import Derived.Test.YthpmckfgngkbhaaProg
import Derived.Test.YthpmckfgngkbhaaMem
import Derived.Test.YthpmckfgngkbhaaDa
import Derived.Test.YthpmckfgngkbhaaIb
import Derived.Test.YthpmckfgngkbhaaWm
import Derived.OneCell
import Derived.Laws.OwnMore
namespace Go.Proofs.Ythpmckfgngkbhaa
set_option linter.unusedSimpArgs false
set_option linter.unusedVariables false
open Go.RowKit Go.Shelf

theorem Try.info4 : (Try.prog.info? 4).map (fun i => (i.zero, i.size, i.bytes)) = some (some (.bool false), 1, 1) := by kernel_rfl

def boolsV (l : List Bool) : List Value := l.map Value.bool

/-- Which objects were seen. -/
def seenL (N : Nat) (s : List Int) : List Bool := (List.range N).map fun (i : Nat) => decide ((i : Int) ∈ s)
/-- The number of each object on the way back. -/
def numAt (order : List Int) (x : Int) : Int := if x ∈ order then (order.idxOf x : Int) else -1
def numL (N : Nat) (order : List Int) : List Int := (List.range N).map fun (i : Nat) => numAt order i

theorem seenL_len (N : Nat) (s : List Int) : (seenL N s).length = N := by simp [seenL]
theorem numL_len (N : Nat) (s : List Int) : (numL N s).length = N := by simp [numL]

theorem seenL_get {N : Nat} (s : List Int) {k : Nat} (hk : k < N) : (seenL N s)[k]? = some (decide ((k : Int) ∈ s)) := by simp [seenL, List.getElem?_map, List.getElem?_range hk]
theorem numL_get {N : Nat} (s : List Int) {k : Nat} (hk : k < N) : (numL N s)[k]? = some (numAt s k) := by simp [numL, List.getElem?_map, List.getElem?_range hk]

theorem seenL_set {N : Nat} (s : List Int) {k : Nat} (hk : k < N) : (seenL N s).set k true = seenL N (s ++ [(k : Int)]) := by
  refine List.ext_getElem? fun i => ?_
  rw [List.getElem?_set, seenL_len]
  by_cases hi : i < N
  · rw [seenL_get s hi, seenL_get _ hi]
    by_cases e : k = i
    · subst e; simp [hk]
    · rw [if_neg e]
      have : ¬ ((i : Int) = (k : Int)) := by omega
      simp [this]
  · rw [List.getElem?_eq_none (by rw [seenL_len]; omega), List.getElem?_eq_none (by rw [seenL_len]; omega)]
    split
    · omega
    · rfl

theorem numAt_new (s : List Int) {x : Int} (hx : x ∉ s) : numAt (s ++ [x]) x = s.length := by
  unfold numAt
  rw [if_pos (by simp), List.idxOf_append, if_neg hx]
  simp
theorem numAt_old (s : List Int) {x y : Int} (hy : y ≠ x) : numAt (s ++ [x]) y = numAt s y := by
  unfold numAt
  by_cases h : y ∈ s
  · rw [if_pos (by simp [h]), if_pos h, List.idxOf_append, if_pos h]
  · rw [if_neg (by simp [h, hy]), if_neg h]

theorem numL_set {N : Nat} (s : List Int) {k : Nat} (hk : k < N) (hn : (k : Int) ∉ s) : (numL N s).set k (s.length : Int) = numL N (s ++ [(k : Int)]) := by
  refine List.ext_getElem? fun i => ?_
  rw [List.getElem?_set, numL_len]
  by_cases hi : i < N
  · rw [numL_get s hi, numL_get _ hi]
    by_cases e : k = i
    · subst e; rw [if_pos rfl, if_pos hk, numAt_new s hn]
    · rw [if_neg e, numAt_old s (by omega)]
  · rw [List.getElem?_eq_none (by rw [numL_len]; omega), List.getElem?_eq_none (by rw [numL_len]; omega)]
    split
    · omega
    · rfl

theorem boolsV_set (l : List Bool) (k : Nat) (u : Bool) : (boolsV l).set k (.bool u) = boolsV (l.set k u) := by simp [boolsV, List.map_set]
theorem intsV_set (l : List Int) (k : Nat) (u : Int) : (intsV l).set k (.int .i64 u) = intsV (l.set k u) := by simp [intsV, List.map_set]

/-- A row is kept where its block is. -/
theorem row_block {W W' : World} {base gb n cap : Nat} {e : TypeId} {xs : List Value} (h : W.ownsRow base e 1 (.slice (some ⟨gb, 0, none⟩) n cap) n xs) (hb : W'.heap[gb]? = W.heap[gb]?) : W'.ownsRow base e 1 (.slice (some ⟨gb, 0, none⟩) n cap) n xs := by
  refine ⟨h.1, ?_⟩
  rcases h.2 with ⟨h0, _⟩ | ⟨g, c, cur, hv, h1, h2, r⟩
  · cases h0
  · injection hv with e1 e2 e3
    injection e1 with e1
    injection e1 with e1
    subst e1 e3
    exact .inr ⟨gb, cap, cur, rfl, h1, hb.trans h2, r⟩

theorem row_at {W : World} {base gb n cap k : Nat} {e : TypeId} {vs : List Value} {u : Value} (h : W.ownsRow base e 1 (.slice (some ⟨gb, 0, none⟩) n cap) n vs) (hk : vs[k]? = some u) : W.cell? ⟨gb, k, none⟩ = some u := by
  have := h.cells (g := gb) rfl k u hk
  have hadd : (⟨gb, 0, none⟩ : Addr).add k = ⟨gb, k, none⟩ := by unfold Addr.add; split <;> simp_all
  rwa [hadd] at this

theorem row_lt {W : World} {base gb n cap : Nat} {e : TypeId} {vs : List Value} (h : W.ownsRow base e 1 (.slice (some ⟨gb, 0, none⟩) n cap) n vs) : gb < W.heap.size := (h.lt gb rfl).2

/-- What the closure goes by: b is the first of its blocks. -/
structure WB (W : World) (b : Nat) (ao : Option Addr) (N co : Nat) (wo : Int) (st : List Int × List Int) (vo : Value) : Prop where
  cg : W.cell? ⟨b, 0, none⟩ = some (.slice ao N co)
  cwo : W.cell? ⟨b + 1, 0, none⟩ = some (.int .i64 wo)
  cv : W.cell? ⟨b + 7, 0, none⟩ = some (.func (.func 35) #[] #[.pointer (some ⟨b + 1, 0, none⟩), .pointer (some ⟨b + 6, 0, none⟩), .pointer (some ⟨b + 7, 0, none⟩), .pointer (some ⟨b, 0, none⟩), .pointer (some ⟨b + 4, 0, none⟩)])
  cs : W.cell? ⟨b + 6, 0, none⟩ = some (.slice (some ⟨b + 5, 0, none⟩) N N)
  c0 : W.cell? ⟨b + 4, 0, none⟩ = some vo
  c1 : W.cell? ⟨b + 4, 1, none⟩ = some (.slice (some ⟨b + 3, 0, none⟩) N N)
  f0 : W.frozen? ⟨b + 4, 0, none⟩ = false
  seen : W.ownsRow (b + 3) 4 1 (.slice (some ⟨b + 5, 0, none⟩) N N) N (boolsV (seenL N st.1))
  num : W.ownsRow (b + 3) 3 1 (.slice (some ⟨b + 3, 0, none⟩) N N) N (intsV (numL N st.2))
  ord : W.ownsRow (b + 8) 3 1 vo st.2.length (intsV st.2)
  res : W.heap[b + 2]? = some (.cells #[.slice none 0 0, .slice none 0 0] 43)

theorem WB.lt {W : World} {b : Nat} {ao : Option Addr} {N co : Nat} {wo : Int} {st : List Int × List Int} {vo : Value} (h : WB W b ao N co wo st vo) : b + 7 < W.heap.size := World.block_lt_of_cell? W _ h.cv

/-- What lies in the first blocks is kept, and so is the row of objects. -/
theorem WB.kept {W W' : World} {b : Nat} {ao : Option Addr} {N co : Nat} {wo : Int} {st : List Int × List Int} {vo : Value} (h : WB W b ao N co wo st vo) (hb : ∀ k, k < b + 8 → W'.heap[k]? = W.heap[k]?) (ho : W'.ownsRow (b + 8) 3 1 vo st.2.length (intsV st.2)) : WB W' b ao N co wo st vo :=
  ⟨(World.cell?_of_block (a := ⟨b, 0, none⟩) (hb b (by omega))).trans h.cg, (World.cell?_of_block (a := ⟨b + 1, 0, none⟩) (hb (b + 1) (by omega))).trans h.cwo, (World.cell?_of_block (a := ⟨b + 7, 0, none⟩) (hb (b + 7) (by omega))).trans h.cv,
    (World.cell?_of_block (a := ⟨b + 6, 0, none⟩) (hb (b + 6) (by omega))).trans h.cs, (World.cell?_of_block (a := ⟨b + 4, 0, none⟩) (hb (b + 4) (by omega))).trans h.c0, (World.cell?_of_block (a := ⟨b + 4, 1, none⟩) (hb (b + 4) (by omega))).trans h.c1,
    (World.frozen?_of_block (a := ⟨b + 4, 0, none⟩) (hb (b + 4) (by omega))).trans h.f0, row_block h.seen (hb (b + 5) (by omega)), row_block h.num (hb (b + 3) (by omega)), ho, (hb (b + 2) (by omega)).trans h.res⟩

theorem WB.own {W W' : World} {row : Option Nat} {b : Nat} {ao : Option Addr} {N co : Nat} {wo : Int} {st : List Int × List Int} {vo : Value} (h : WB W b ao N co wo st vo) (hg : W.grownBy W' row)
    (hr : ∀ r, row = some r → b + 8 ≤ r ∧ ∃ o : Obj, W.heap[r]? = some o ∧ o.isCells = false) : WB W' b ao N co wo st vo := by
  have hlt := h.lt
  exact h.kept (fun k hk => hg.block k (by omega) (fun e => by have := (hr _ e.symm).1; omega)) (ownsRow_keptOf h.ord hg (fun r e => (hr r e).2))

theorem WB.alloc {W : World} {b : Nat} {ao : Option Addr} {N co : Nat} {wo : Int} {st : List Int × List Int} {vo : Value} (h : WB W b ao N co wo st vo) (x : Obj) : WB (W.alloc x) b ao N co wo st vo :=
  h.own (World.grownBy_alloc W x none) (fun r e => by cases e)

theorem WB.below {W W' : World} {b : Nat} {ao : Option Addr} {N co : Nat} {wo : Int} {st : List Int × List Int} {vo : Value} (h : WB W b ao N co wo st vo) (hb : Below W.heap.size W W') : WB W' b ao N co wo st vo :=
  h.own (row := none) ⟨hb.os, hb.tape, hb.output, hb.size, fun k hk _ => hb.block k hk⟩ (fun r e => by cases e)

theorem ord_ne {W : World} {b : Nat} {v : Value} {n : Nat} {xs : List Value} (h : W.ownsRow (b + 8) 3 1 v n xs) {k : Nat} (hk : k < b + 8) : v.ownBlock ≠ some k := fun e => by have := (h.lt k e).1; omega

/-- An object is seen. -/
theorem WB.see {W : World} {b : Nat} {ao : Option Addr} {N co : Nat} {wo : Int} {st : List Int × List Int} {vo : Value} (h : WB W b ao N co wo st vo) {x : Nat} (hx : x < N) :
    WB (W.setCell ⟨b + 5, x, none⟩ (.bool true)) b ao N co wo (st.1 ++ [(x : Int)], st.2) vo := by
  have hk : ∀ k, k ≠ b + 5 → (W.setCell ⟨b + 5, x, none⟩ (.bool true)).heap[k]? = W.heap[k]? := fun k hk => Below.heap_setCell _ _ _ _ (by intro e; exact hk (by simp at e; omega))
  have hs := (h.seen.stored x (.bool true)).1
  rw [boolsV_set, seenL_set _ hx] at hs
  exact ⟨(World.cell?_of_block (a := ⟨b, 0, none⟩) (hk b (by omega))).trans h.cg, (World.cell?_of_block (a := ⟨b + 1, 0, none⟩) (hk (b + 1) (by omega))).trans h.cwo, (World.cell?_of_block (a := ⟨b + 7, 0, none⟩) (hk (b + 7) (by omega))).trans h.cv,
    (World.cell?_of_block (a := ⟨b + 6, 0, none⟩) (hk (b + 6) (by omega))).trans h.cs, (World.cell?_of_block (a := ⟨b + 4, 0, none⟩) (hk (b + 4) (by omega))).trans h.c0, (World.cell?_of_block (a := ⟨b + 4, 1, none⟩) (hk (b + 4) (by omega))).trans h.c1,
    (World.frozen?_of_block (a := ⟨b + 4, 0, none⟩) (hk (b + 4) (by omega))).trans h.f0, hs, row_block h.num (hk (b + 3) (by omega)), ownsRow_setCell_other h.ord (ord_ne h.ord (by simp)) _, (hk (b + 2) (by omega)).trans h.res⟩

/-- One goes back out of an object. -/
theorem WB.back {W w4 : World} {b : Nat} {ao : Option Addr} {N co : Nat} {wo : Int} {st : List Int × List Int} {vo v1 : Value} {o1 : Obj} (h : WB W b ao N co wo st vo) {x : Nat} (hx : x < N) (hn : (x : Int) ∉ st.2)
    (hrow : w4.ownsRow (b + 8) 3 1 v1 (st.2.length + 1) (intsV st.2 ++ [.int .i64 (x : Int)])) (hg : ((W.setCell ⟨b + 3, x, none⟩ (.int .i64 (st.2.length : Int))).alloc o1).grownBy w4 vo.ownBlock) :
    WB (w4.setCell ⟨b + 4, 0, none⟩ v1) b ao N co wo (st.1, st.2 ++ [(x : Int)]) v1 ∧ Below b W (w4.setCell ⟨b + 4, 0, none⟩ v1) ∧ KeepsOthers W (w4.setCell ⟨b + 4, 0, none⟩ v1) := by
  have hlt := h.lt
  have hsz : (W.setCell ⟨b + 3, x, none⟩ (.int .i64 (st.2.length : Int))).heap.size = W.heap.size := by simp [World.setCell]
  have hs := (h.num.stored x (.int .i64 (st.2.length : Int))).1
  rw [intsV_set, numL_set _ hx hn] at hs
  have ho3 := ownsRow_setCell_other h.ord (a := ⟨b + 3, x, none⟩) (ord_ne h.ord (by simp)) (.int .i64 (st.2.length : Int))
  have hk3 : ∀ k, k ≠ b + 3 → (W.setCell ⟨b + 3, x, none⟩ (.int .i64 (st.2.length : Int))).heap[k]? = W.heap[k]? := fun k hk => Below.heap_setCell _ _ _ _ (by intro e; exact hk (by simp at e; omega))
  have hka : ∀ k, k < b + 8 → w4.heap[k]? = (W.setCell ⟨b + 3, x, none⟩ (.int .i64 (st.2.length : Int))).heap[k]? := fun k hk =>
    (hg.block k (by simp [hsz]; omega) (fun e => ord_ne h.ord hk e.symm)).trans (Below.heap_alloc _ o1 k (by rw [hsz]; omega))
  have hk4 : ∀ k, k ≠ b + 4 → (w4.setCell ⟨b + 4, 0, none⟩ v1).heap[k]? = w4.heap[k]? := fun k hk => Below.heap_setCell _ _ _ _ (by intro e; exact hk (by simp at e; omega))
  have hall : ∀ k, k < b + 8 → k ≠ b + 3 → k ≠ b + 4 → (w4.setCell ⟨b + 4, 0, none⟩ v1).heap[k]? = W.heap[k]? := fun k h1 h2 h3 => (hk4 k h3).trans ((hka k h1).trans (hk3 k h2))
  have hb4 : w4.heap[b + 4]? = W.heap[b + 4]? := (hka (b + 4) (by omega)).trans (hk3 (b + 4) (by omega))
  have hc4 : w4.cell? ⟨b + 4, 0, none⟩ = some vo := (World.cell?_of_block (a := ⟨b + 4, 0, none⟩) hb4).trans h.c0
  have hne : v1.ownBlock ≠ some (b + 4) := ord_ne hrow (by omega)
  refine ⟨⟨?_, ?_, ?_, ?_, ?_, ?_, ?_, ?_, ?_, ?_, (hall (b + 2) (by omega) (by omega) (by omega)).trans h.res⟩, ?_, ?_⟩
  · exact (World.cell?_of_block (a := ⟨b, 0, none⟩) (hall b (by omega) (by omega) (by omega))).trans h.cg
  · exact (World.cell?_of_block (a := ⟨b + 1, 0, none⟩) (hall (b + 1) (by omega) (by omega) (by omega))).trans h.cwo
  · exact (World.cell?_of_block (a := ⟨b + 7, 0, none⟩) (hall (b + 7) (by omega) (by omega) (by omega))).trans h.cv
  · exact (World.cell?_of_block (a := ⟨b + 6, 0, none⟩) (hall (b + 6) (by omega) (by omega) (by omega))).trans h.cs
  · exact World.cell?_setCell_same' _ _ _ (by rw [hc4]; rfl)
  · rw [World.cell?_setCell_other _ _ _ _ (by simp)]
    exact (World.cell?_of_block (a := ⟨b + 4, 1, none⟩) hb4).trans h.c1
  · rw [World.frozen?_setCell]
    exact (World.frozen?_of_block (a := ⟨b + 4, 0, none⟩) hb4).trans h.f0
  · exact row_block h.seen (hall (b + 5) (by omega) (by omega) (by omega))
  · exact row_block hs ((hk4 (b + 3) (by omega)).trans (hka (b + 3) (by omega)))
  · have e : (st.1, st.2 ++ [(x : Int)]).2 = st.2 ++ [(x : Int)] := rfl
    rw [e, intsV_snoc, List.length_append]
    exact ownsRow_setCell_other hrow (a := ⟨b + 4, 0, none⟩) hne v1
  · have b1 : Below b W (W.setCell ⟨b + 3, x, none⟩ (.int .i64 (st.2.length : Int))) := (Below.refl b W).setCell (p := ⟨b + 3, x, none⟩) (by simp) _
    exact ((b1.alloc (by rw [hsz]; omega) o1).grown hg (by simp [hsz]; omega) (fun k e => by have := (h.ord.lt _ e).1; omega)).setCell (p := ⟨b + 4, 0, none⟩) (by simp) v1
  · exact (((KeepsOthers.setCell W ⟨b + 3, x, none⟩ _).trans (KeepsOthers.alloc _ o1)).trans (keepsOthers_append (ho3.alloc o1) hg)).trans (KeepsOthers.setCell _ _ _)

end Go.Proofs.Ythpmckfgngkbhaa
