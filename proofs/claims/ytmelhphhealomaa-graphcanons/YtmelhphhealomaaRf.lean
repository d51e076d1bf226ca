/- Walks: the document's answer: pair. -/
import Derived.Test.YtmelhphhealomaaProg
import Derived.Test.YtmelhphhealomaaMem
import Derived.Test.YtmelhphhealomaaRa
import Derived.Test.YtmelhphhealomaaWz
import Derived.BigQuiet
import Derived.Deep.QuietTactic
import Derived.Maps.AppendAt
namespace Go.Proofs.Ytmelhphhealomaa
set_option linter.unusedSimpArgs false
set_option linter.unusedVariables false
open Go.RowKit

/-- Two values stand for each other; what is new is noted. -/
def pstep (F T : List Int) (x y : V) : Option (List Int × List Int) :=
  if x.1 = true ∧ y.1 = true then
    (if x.2 ∈ F then (if y.2 ∈ T then (if T[F.idxOf x.2]? = some y.2 then some (F, T) else none) else none) else (if y.2 ∈ T then none else some (F ++ [x.2], T ++ [y.2])))
  else (if x = y then some (F, T) else none)

def prun (F T : List Int) : List V → List V → Option (List Int × List Int)
  | [], [] => some (F, T)
  | x :: xs, y :: ys => (pstep F T x y).bind (fun s => prun s.1 s.2 xs ys)
  | _, _ => none

theorem prun_len {F T : List Int} : ∀ {la lb : List V}, la.length ≠ lb.length → prun F T la lb = none := by
  intro la
  induction la generalizing F T with
  | nil => intro lb h; cases lb with
    | nil => simp at h
    | cons y ys => rfl
  | cons x xs ih => intro lb h; cases lb with
    | nil => rfl
    | cons y ys =>
      simp only [prun]
      cases pstep F T x y with
      | none => rfl
      | some s => exact ih (by simpa using h)

/-- The two lists of numbers that pair keeps, behind pointers. -/
structure PS (W : World) (pf pt : Nat) (F T : List Int) (vf vt : Value) : Prop where
  cf : W.cell? ⟨pf, 0, none⟩ = some vf
  ct : W.cell? ⟨pt, 0, none⟩ = some vt
  ff : W.frozen? ⟨pf, 0, none⟩ = false
  ft : W.frozen? ⟨pt, 0, none⟩ = false
  rf : W.ownsRow (pt + 1) 3 1 vf F.length (intsV F)
  rt : W.ownsRow (pt + 1) 3 1 vt T.length (intsV T)
  ap : ∀ k, vf.ownBlock = some k → vt.ownBlock ≠ some k
  lt : pf < pt

theorem PS.drew {W : World} {pf pt : Nat} {F T : List Int} {vf vt : Value} (h : PS W pf pt F T vf vt) : PS W.drew pf pt F T vf vt :=
  ⟨h.cf, h.ct, h.ff, h.ft, h.rf, h.rt, h.ap, h.lt⟩

theorem PS.sz {W : World} {pf pt : Nat} {F T : List Int} {vf vt : Value} (h : PS W pf pt F T vf vt) : pt < W.heap.size := World.block_lt_of_cell? W _ h.ct

theorem PS.below {W W' : World} {pf pt : Nat} {F T : List Int} {vf vt : Value} (h : PS W pf pt F T vf vt) (hb : Below W.heap.size W W') : PS W' pf pt F T vf vt := by
  have hs := h.sz
  have hl := h.lt
  have hg : W.grownBy W' none := ⟨hb.os, hb.tape, hb.output, hb.size, fun k hk _ => hb.block k hk⟩
  exact ⟨(hb.cell (p := ⟨pf, 0, none⟩) (by simp; omega)).trans h.cf, (hb.cell (p := ⟨pt, 0, none⟩) hs).trans h.ct, (hb.frozen (p := ⟨pf, 0, none⟩) (by simp; omega)).trans h.ff, (hb.frozen (p := ⟨pt, 0, none⟩) hs).trans h.ft,
    h.rf.kept hg (by cases hv : vf.ownBlock <;> simp), h.rt.kept hg (by cases hv : vt.ownBlock <;> simp), h.ap, h.lt⟩

theorem below_drewN {B : Nat} {a w : World} (h : Below B a w) (n : Nat) : Below B a (w.drewN n) := ⟨h.os, h.tape, h.output, h.size, h.block⟩

theorem PS.drewN {W : World} {pf pt : Nat} {F T : List Int} {vf vt : Value} (h : PS W pf pt F T vf vt) (n : Nat) : PS (W.drewN n) pf pt F T vf vt :=
  h.below (below_drewN (Below.refl _ _) n)

/-- What two numbers more turn in memory. -/
theorem pair_step {X w2 w3 : World} {pf pt : Nat} {F T : List Int} {vf vt v1 v2 : Value} {x y : Int} {o1 o2 : Obj}
    (hP : PS X pf pt F T vf vt)
    (hf2 : w2.ownsRow (pt + 1) 3 1 v1 (F.length + 1) (intsV F ++ [.int .i64 x])) (hg2 : (X.alloc o1).grownBy w2 vf.ownBlock) (hat2 : v1.ownBlock = vf.ownBlock ∨ v1.ownBlock = some (X.alloc o1).heap.size)
    (ht4 : w3.ownsRow (pt + 1) 3 1 v2 (T.length + 1) (intsV T ++ [.int .i64 y])) (hg3 : ((w2.setCell ⟨pf, 0, none⟩ v1).alloc o2).grownBy w3 vt.ownBlock)
    (hat3 : v2.ownBlock = vt.ownBlock ∨ v2.ownBlock = some ((w2.setCell ⟨pf, 0, none⟩ v1).alloc o2).heap.size) :
    PS (w3.setCell ⟨pt, 0, none⟩ v2) pf pt (F ++ [x]) (T ++ [y]) v1 v2 ∧ Below pf X (w3.setCell ⟨pt, 0, none⟩ v2) := by
  have hlX := hP.sz
  have hlt := hP.lt
  have hs2 := hg2.size
  have hs3 := hg3.size
  simp only [World.size_alloc] at hs2 hat2
  have hsz : ((w2.setCell ⟨pf, 0, none⟩ v1).alloc o2).heap.size = w2.heap.size + 1 := by simp [World.setCell]
  rw [hsz] at hs3 hat3
  have lf := fun k e => (hP.rf.lt k e)
  have lt := fun k e => (hP.rt.lt k e)
  have b1 : Below (pt + 1) X (X.alloc o1) := (Below.refl _ _).alloc (by omega) o1
  have b2 : Below (pt + 1) X w2 := b1.grown hg2 (by simp; omega) (fun k e => (lf k e).1)
  have b3 : Below (pt + 1) (w2.setCell ⟨pf, 0, none⟩ v1) w3 := ((Below.refl _ _).alloc (by simp [World.setCell]; omega) o2).grown hg3 (by rw [hsz]; omega) (fun k e => (lt k e).1)
  have cf2 : w2.cell? ⟨pf, 0, none⟩ = some vf := (b2.cell (p := ⟨pf, 0, none⟩) (by simp; omega)).trans hP.cf
  have ct2 : w2.cell? ⟨pt, 0, none⟩ = some vt := (b2.cell (p := ⟨pt, 0, none⟩) (by simp)).trans hP.ct
  have ff2 : w2.frozen? ⟨pf, 0, none⟩ = false := (b2.frozen (p := ⟨pf, 0, none⟩) (by simp; omega)).trans hP.ff
  have ft2 : w2.frozen? ⟨pt, 0, none⟩ = false := (b2.frozen (p := ⟨pt, 0, none⟩) (by simp)).trans hP.ft
  have hne : (⟨pf, 0, none⟩ : Addr) ≠ ⟨pt, 0, none⟩ := fun e => by injection e; omega
  have hne' : (⟨pt, 0, none⟩ : Addr) ≠ ⟨pf, 0, none⟩ := fun e => by injection e; omega
  have cf3 := World.cell?_setCell_same' w2 ⟨pf, 0, none⟩ v1 (by rw [cf2]; rfl)
  have ct3 := (World.cell?_setCell_other w2 ⟨pf, 0, none⟩ ⟨pt, 0, none⟩ v1 hne).trans ct2
  have ff3 : (w2.setCell ⟨pf, 0, none⟩ v1).frozen? ⟨pf, 0, none⟩ = false := by rw [World.frozen?_setCell]; exact ff2
  have ft3 : (w2.setCell ⟨pf, 0, none⟩ v1).frozen? ⟨pt, 0, none⟩ = false := by rw [World.frozen?_setCell]; exact ft2
  have cf4 := (b3.cell (p := ⟨pf, 0, none⟩) (by simp; omega)).trans cf3
  have ct4 := (b3.cell (p := ⟨pt, 0, none⟩) (by simp)).trans ct3
  have ff4 := (b3.frozen (p := ⟨pf, 0, none⟩) (by simp; omega)).trans ff3
  have ft4 := (b3.frozen (p := ⟨pt, 0, none⟩) (by simp)).trans ft3
  have hap2 : ∀ k, v1.ownBlock = some k → vt.ownBlock ≠ some k := by
    intro k hk hd
    rcases hat2 with h | h
    · exact hP.ap k (h ▸ hk) hd
    · have := (lt k hd).2; rw [h] at hk; injection hk; omega
  have hf3 := ownsRow_setCell_below hf2 (a := ⟨pf, 0, none⟩) (by simp; omega) v1
  have hf4 := (hf3.alloc o2).kept hg3 (by cases hv : v1.ownBlock with | none => exact .inl rfl | some k => exact .inr fun e => hap2 k hv e.symm)
  refine ⟨⟨?_, ?_, ?_, ?_, ?_, ?_, ?_, hlt⟩, ?_⟩
  · exact (World.cell?_setCell_other w3 ⟨pt, 0, none⟩ ⟨pf, 0, none⟩ v2 hne').trans cf4
  · exact World.cell?_setCell_same' w3 ⟨pt, 0, none⟩ v2 (by rw [ct4]; rfl)
  · rw [World.frozen?_setCell]; exact ff4
  · rw [World.frozen?_setCell]; exact ft4
  · rw [intsV_snoc, List.length_append]; exact ownsRow_setCell_below hf4 (a := ⟨pt, 0, none⟩) (by simp) v2
  · rw [intsV_snoc, List.length_append]; exact ownsRow_setCell_below ht4 (a := ⟨pt, 0, none⟩) (by simp) v2
  · intro k hk hd
    rcases hat3 with h | h
    · exact hap2 k hk (h ▸ hd)
    · have := (hf2.lt k hk).2; rw [h] at hd; injection hd; omega
  · exact (((b2.mono (by omega)).setCell (p := ⟨pf, 0, none⟩) (by simp) v1).trans (b3.mono (by omega))).setCell (p := ⟨pt, 0, none⟩) (by simp; omega) v2


end Go.Proofs.Ytmelhphhealomaa
