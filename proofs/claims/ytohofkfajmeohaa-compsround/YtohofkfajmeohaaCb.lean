/- What 'follow' has found, in memory. -/
import Derived.Test.YtohofkfajmeohaaProg
import Derived.Test.YtohofkfajmeohaaMem
import Derived.Test.YtohofkfajmeohaaWm
import Derived.Test.YtohofkfajmeohaaCa
import Derived.Maps.OwnSet
import Derived.Maps.OwnIn
import Derived.Maps.AppendAt
import Derived.RangeFuncLeaves
namespace Go.Proofs.Ytohofkfajmeohaa
set_option linter.unusedSimpArgs false
set_option linter.unusedVariables false
open Go.RowKit Go.Shelf

/-- One more, if it is new. -/
def addS (K : List Int) (x : Int) : List Int := if x ∈ K then K else K ++ [x]
def addL (K : List Int) (xs : List Int) : List Int := xs.foldl addS K

theorem addL_snoc (K xs : List Int) (x : Int) : addL K (xs ++ [x]) = addS (addL K xs) x := by simp [addL]

theorem addS_len (K : List Int) (x : Int) : K.length ≤ (addS K x).length ∧ (addS K x).length ≤ K.length + 1 := by
  unfold addS; split <;> simp

theorem addL_len : ∀ (xs K : List Int), K.length ≤ (addL K xs).length ∧ (addL K xs).length ≤ K.length + xs.length
  | [], K => by simp [addL]
  | x :: xs, K => by
    have h1 := addS_len K x
    have h2 := addL_len xs (addS K x)
    simp only [addL, List.foldl_cons, List.length_cons] at *
    omega

theorem findS_fst (d : Int) (st : List Int × List Int) (x : Int) : (findS d st x).1 = addS st.1 x := by
  unfold findS addS; split <;> rfl

theorem findA_fst (d : Int) : ∀ (xs : List Int) (st : List Int × List Int), (findA d st xs).1 = addL st.1 xs
  | [], st => rfl
  | x :: xs, st => by
    have h := findA_fst d xs (findS d st x)
    rw [findS_fst] at h
    exact h

/-- What is found behind k rounds. -/
def folN (g : Gr) (o : Int) : Nat → List Int
  | 0 => []
  | k + 1 => match (o :: folN g o k)[k]? with
    | none => folN g o k
    | some p => addL (folN g o k) (refsL (fieldsOf g p))

theorem folN_succ (g : Gr) (o : Int) (k : Nat) : folN g o (k + 1) = match (o :: folN g o k)[k]? with
    | none => folN g o k
    | some p => addL (folN g o k) (refsL (fieldsOf g p)) := rfl

theorem folN_search (g : Gr) (o : Int) : ∀ k, folN g o (k + 1) = (searchN (fromG g o) k).1
  | 0 => by
    show addL [] (refsL (fieldsOf g o)) = (findA 0 ([], []) (valsOf (obsOf (fieldsOf g o)))).1
    rw [findA_fst]; rfl
  | k + 1 => by
    rw [folN_succ, folN_search g o k, searchN_succ, List.getElem?_cons_succ]
    cases (searchN (fromG g o) k).1[k]? with
    | none => rfl
    | some p => exact (findA_fst _ _ _).symm

theorem folN_ok {g : Gr} (h : Good g) (o : Int) : ∀ k, (folN g o k).Nodup ∧ (∀ x ∈ folN g o k, 0 ≤ x ∧ x < g.objs.length) ∧ (folN g o k).length ≤ g.objs.length
  | 0 => by simp [folN]
  | k + 1 => by
    rw [folN_search]
    have := searchN_ok (good_from h o) k
    exact ⟨this.nd, this.rng, this.le⟩

/-- The search's end. -/
theorem folN_end {g : Gr} (h : Good g) (o : Int) {k : Nat} (hk : k = (folN g o k).length + 1) : folN g o k = ledL g o := by
  cases k with
  | zero => omega
  | succ k =>
    rw [folN_search] at hk ⊢
    have hle := (searchN_ok (good_from h o) k).le
    have hst := searchN_stable (fromG g o) (k := k) (by omega) (g.objs.length - k)
    have hn : (fromG g o).objs.length = g.objs.length := rfl
    rw [show k + (g.objs.length - k) = g.objs.length by omega] at hst
    unfold ledL orderOf
    rw [hn, hst]

/-- Marks of loops that are over. -/
def markOf (D : Nat) : Deferred := { target := .collected D, args := #[] }

def Marks (n0 : Nat) (W : World) (Ds : List Nat) : Prop := Ds.Nodup ∧ ∀ D ∈ Ds, n0 ≤ D ∧ W.heap[D]? = some (.deferred (some []))

theorem Marks.nil (n0 : Nat) (W : World) : Marks n0 W [] := ⟨by simp, by simp⟩

theorem Marks.keeps {n0 : Nat} {W W' : World} {Ds : List Nat} (h : Marks n0 W Ds) (hk : KeepsFrom n0 W W') : Marks n0 W' Ds :=
  ⟨h.1, fun D hD => ⟨(h.2 D hD).1, hk.same D _ (h.2 D hD).1 (h.2 D hD).2 rfl⟩⟩

theorem Marks.lt {n0 : Nat} {W : World} {Ds : List Nat} (h : Marks n0 W Ds) : ∀ D ∈ Ds, D < W.heap.size := fun D hD => (Array.getElem?_eq_some_iff.1 (h.2 D hD).2).1

theorem Marks.own {n0 : Nat} {W W' : World} {row : Option Nat} {Ds : List Nat} (h : Marks n0 W Ds) (hg : W.grownBy W' row) (hr : ∀ r, row = some r → r ∉ Ds) : Marks n0 W' Ds :=
  ⟨h.1, fun D hD => ⟨(h.2 D hD).1, by rw [hg.block D (h.lt D hD) (fun e => hr D e.symm hD)]; exact (h.2 D hD).2⟩⟩

theorem leaves_marks {F : Fence} {n : Nat} {P : Program} {fn : Func} {tmps : Array Value} {R : Ending → World → Prop} (n0 : Nat) (J : World → Prop)
    (hJ : ∀ W D, n0 ≤ D → W.heap[D]? = some (.deferred (some [])) → J W → J (W.putObj D (.deferred none))) (hend : ∀ W, J W → LeavesInM F n P fn tmps R [] .returning W) :
    ∀ (Ds : List Nat) (W : World), Marks n0 W Ds → J W → LeavesInM F n P fn tmps R (Ds.map markOf) .returning W
  | [], W, _, h => hend W h
  | D :: Ds, W, hm, h => by
    have hD := hm.2 D (by simp)
    have hnd := List.nodup_cons.1 hm.1
    refine ⟨by simp, .inl ⟨D, _, rfl, run_takeDeferred hD.2, ?_⟩⟩
    refine leaves_marks n0 J hJ hend Ds _ ?_ (hJ W D hD.1 hD.2 h)
    have hm' : Marks n0 W Ds := ⟨hnd.2, fun x hx => hm.2 x (by simp [hx])⟩
    exact hm'.own (grownBy_putObj' W D _) (fun r e => by cases e; exact hnd.1)

/-- A set of numbers in memory. -/
structure SetAt (W : World) (mb n : Nat) (D : DataW Unit) (K : List Int) : Prop where
  map : W.ownsMap Try.prog 3 unitElem mb n D
  has : ∀ x, Maps.has D (.int .i64 x) = decide (x ∈ K)
  siz : Maps.size D = K.length

theorem SetAt.kept {W W' : World} {row : Option Nat} {mb n : Nat} {D : DataW Unit} {K : List Int} (h : SetAt W mb n D K) (hg : W.grownBy W' row) (hr : row ≠ some mb) : SetAt W' mb n D K := ⟨h.map.kept hg (fun e => hr e.symm), h.has, h.siz⟩
theorem SetAt.alloc {W : World} {mb n : Nat} {D : DataW Unit} {K : List Int} (h : SetAt W mb n D K) (o : Obj) : SetAt (W.alloc o) mb n D K := ⟨h.map.alloc o, h.has, h.siz⟩

theorem setAt_put {W W' : World} {mb n : Nat} {D : DataW Unit} {K : List Int} (h : SetAt W mb n D K) {x : Int} (hx : x ∉ K) (hm : W'.ownsMap Try.prog 3 unitElem mb (n + 1) (D.put (.int .i64 x) (.agg []))) :
    SetAt W' mb (n + 1) (D.put (.int .i64 x) (.agg [])) (K ++ [x]) := by
  have ht := h.map.tidy (Maps.int_keyed Try.underlying3)
  have hk : WideAt.IsKeyLit (.int .i64 x) := trivial
  refine ⟨hm, fun j => ?_, ?_⟩
  · by_cases e : j = x
    · subst e; rw [Maps.has_put_same ht.isMap hk]; simp
    · rw [Maps.has_put_other (by simpa using e), h.has j]; simp [e]
  · rw [Maps.size_put ht, h.has x, h.siz]; simp [hx]

theorem setAt_del {W W' : World} {mb n : Nat} {D : DataW Unit} {K : List Int} (h : SetAt W mb n D K) (hK : K.Nodup) {x : Int} (hm : W'.ownsMap Try.prog 3 unitElem mb n (D.del (.int .i64 x))) :
    SetAt W' mb n (D.del (.int .i64 x)) (K.erase x) := by
  have ht := h.map.tidy (Maps.int_keyed Try.underlying3)
  refine ⟨hm, fun j => ?_, ?_⟩
  · by_cases e : j = x
    · subst e; rw [Maps.has_del_same]; simp [hK.mem_erase_iff]
    · rw [Maps.has_del_other (by simpa using e), h.has j]; simp [hK.mem_erase_iff, e]
  · have := Maps.size_del ht (k := .int .i64 x)
    rw [h.has x, h.siz] at this
    rw [List.length_erase]
    by_cases hx : x ∈ K
    · simp [hx] at this ⊢; omega
    · simp [hx] at this ⊢; omega

/-- What 'follow' holds. -/
structure Fol (W : World) (mb : Nat) (o : Int) (K : List Int) (vw : Value) (D : DataW Unit) : Prop where
  cm : W.cell? ⟨mb + 1, 0, none⟩ = some (.map (some mb))
  cw : W.cell? ⟨mb + 3, 0, none⟩ = some vw
  fw : W.frozen? ⟨mb + 3, 0, none⟩ = false
  row : W.ownsRow (mb + 2) 3 1 vw (K.length + 1) (intsV (o :: K))
  set : SetAt W mb K.length D K
  ne : vw.ownBlock ≠ some (mb + 3)

theorem Fol.lt {W : World} {mb : Nat} {o : Int} {K : List Int} {vw : Value} {D : DataW Unit} (h : Fol W mb o K vw D) : mb + 3 < W.heap.size := World.block_lt_of_cell? W _ h.cw

theorem Fol.own {W W' : World} {row : Option Nat} {mb : Nat} {o : Int} {K : List Int} {vw : Value} {D : DataW Unit} (h : Fol W mb o K vw D) (hg : W.grownBy W' row)
    (hr : ∀ r, row = some r → mb + 4 ≤ r ∧ ∃ o : Obj, W.heap[r]? = some o ∧ o.isCells = false) : Fol W' mb o K vw D := by
  have hlt := h.lt
  have b1 := hg.block (mb + 1) (by omega) (fun e => by have := (hr _ e.symm).1; omega)
  have b3 := hg.block (mb + 3) (by omega) (fun e => by have := (hr _ e.symm).1; omega)
  exact ⟨(World.cell?_of_block (a := ⟨mb + 1, 0, none⟩) b1).trans h.cm, (World.cell?_of_block (a := ⟨mb + 3, 0, none⟩) b3).trans h.cw, (World.frozen?_of_block (a := ⟨mb + 3, 0, none⟩) b3).trans h.fw,
    ownsRow_keptOf h.row hg (fun r e => (hr r e).2), h.set.kept hg (fun e => by have := (hr _ e).1; omega), h.ne⟩

theorem Fol.alloc {W : World} {mb : Nat} {o : Int} {K : List Int} {vw : Value} {D : DataW Unit} (h : Fol W mb o K vw D) (x : Obj) : Fol (W.alloc x) mb o K vw D :=
  h.own (World.grownBy_alloc W x none) (fun r e => by cases e)

theorem Fol.below {W W' : World} {mb : Nat} {o : Int} {K : List Int} {vw : Value} {D : DataW Unit} (h : Fol W mb o K vw D) (hb : Below W.heap.size W W') : Fol W' mb o K vw D :=
  h.own (row := none) ⟨hb.os, hb.tape, hb.output, hb.size, fun k hk _ => hb.block k hk⟩ (fun r e => by cases e)

/-- What one object more turns in memory. -/
theorem fol_step {X X1 w1 w2 : World} {mb : Nat} {o x : Int} {K : List Int} {vw v1 : Value} {D : DataW Unit} {o1 o2 : Obj}
    (hF : Fol X mb o K vw D) (hx : x ∉ K) (hX1 : X1 = X.alloc o1) (hg1 : X1.grownBy w1 (some mb)) (hm1 : w1.ownsMap Try.prog 3 unitElem mb (K.length + 1) (D.put (.int .i64 x) (.agg [])))
    (hrow2 : w2.ownsRow (mb + 2) 3 1 v1 (K.length + 1 + 1) (intsV (o :: K) ++ [.int .i64 x])) (hg2 : (w1.alloc o2).grownBy w2 vw.ownBlock) (hat2 : v1.ownBlock = vw.ownBlock ∨ v1.ownBlock = some (w1.alloc o2).heap.size) :
    Fol (w2.setCell ⟨mb + 3, 0, none⟩ v1) mb o (addS K x) v1 (D.put (.int .i64 x) (.agg [])) ∧ (∀ B, mb < B → KeepsFrom B X (w2.setCell ⟨mb + 3, 0, none⟩ v1)) ∧ Below mb X (w2.setCell ⟨mb + 3, 0, none⟩ v1) := by
  subst hX1
  have hF1 := hF.alloc o1
  have hlt := hF1.lt
  have hs1 := hg1.size
  have hs2 := hg2.size
  simp only [World.size_alloc] at hs2 hat2
  have lo := fun k e => hF1.row.lt k e
  have hrow1 : w1.ownsRow (mb + 2) 3 1 vw (K.length + 1) (intsV (o :: K)) := hF1.row.kept hg1 (.inr fun e => by have := (lo _ e).1; omega)
  have b1 := (hg2.block (mb + 1) (by simp; omega) (fun e => by have := (lo _ e.symm).1; omega)).trans ((Below.heap_alloc w1 o2 (mb + 1) (by omega)).trans (hg1.block (mb + 1) (by omega) (by simp)))
  have b3 := (hg2.block (mb + 3) (by simp; omega) (fun e => hF.ne e.symm)).trans ((Below.heap_alloc w1 o2 (mb + 3) (by omega)).trans (hg1.block (mb + 3) (by omega) (by simp)))
  have hset2 : SetAt w2 mb (K.length + 1) (D.put (.int .i64 x) (.agg [])) (K ++ [x]) :=
    ((setAt_put hF1.set hx hm1).alloc o2).kept hg2 (fun e => by have := (lo _ e).1; omega)
  have hv1ne : v1.ownBlock ≠ some (mb + 3) := by
    rcases hat2 with h | h
    · rw [h]; exact hF.ne
    · rw [h]; intro e; injection e; omega
  have ead : addS K x = K ++ [x] := by rw [addS, if_neg hx]
  have hcw2 : w2.cell? ⟨mb + 3, 0, none⟩ = some vw := (World.cell?_of_block (a := ⟨mb + 3, 0, none⟩) b3).trans hF1.cw
  refine ⟨⟨?_, World.cell?_setCell_same' _ _ _ (by rw [hcw2]; rfl), ?_, ?_, ?_, hv1ne⟩, ?_, ?_⟩
  · rw [World.cell?_setCell_other _ _ _ _ (by simp)]
    exact (World.cell?_of_block (a := ⟨mb + 1, 0, none⟩) b1).trans hF1.cm
  · rw [World.frozen?_setCell]
    exact (World.frozen?_of_block (a := ⟨mb + 3, 0, none⟩) b3).trans hF1.fw
  · rw [ead]
    have e : intsV (o :: (K ++ [x])) = intsV (o :: K) ++ [.int .i64 x] := by simp [intsV]
    rw [e, List.length_append]
    rcases hrow2.2 with ⟨_, h0⟩ | ⟨gg, cap, cur, rfl, hb, hgb, h3, h4, h5, h6⟩
    · omega
    · refine ⟨hrow2.1, .inr ⟨gg, cap, cur, rfl, hb, ?_, h3, h4, h5, h6⟩⟩
      have hne : gg ≠ mb + 3 := fun e => hv1ne (by simp [Value.ownBlock, e])
      rw [Below.heap_setCell _ _ _ _ (by simpa using hne)]
      exact hgb
  · rw [ead]
    have hl : (K ++ [x]).length = K.length + 1 := by simp
    rw [hl]
    obtain ⟨es, clock, hb, r⟩ := hset2.map
    refine ⟨⟨es, clock, ?_, r⟩, hset2.has, hset2.siz⟩
    rw [Below.heap_setCell _ _ _ _ (by simp)]
    exact hb
  · intro B hB
    refine ((KeepsOthers.alloc X o1).from B).trans ((KeepsFrom.of_grownBy hg1 (fun j e => by injection e; omega)).trans ?_)
    exact (((KeepsOthers.alloc _ o2).trans (keepsOthers_append (hrow1.alloc o2) hg2)).trans (KeepsOthers.setCell _ _ _)).from B
  · have hX : X.heap.size = (X.alloc o1).heap.size - 1 := by simp
    have b1' : Below mb X w1 := ((Below.refl mb X).alloc (by omega) o1).grown hg1 (by omega) (fun k e => by injection e; omega)
    exact ((b1'.alloc (by omega) o2).grown hg2 (by simp; omega) (fun k e => by have := (lo _ e).1; omega)).setCell (p := ⟨mb + 3, 0, none⟩) (by simp) v1

end Go.Proofs.Ytohofkfajmeohaa
