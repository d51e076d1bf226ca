/- Walks: the closure that finds. -/
import Derived.Test.YtahdalejmfbkeaaProg
import Derived.Test.YtahdalejmfbkeaaMem
import Derived.Test.YtahdalejmfbkeaaWj
namespace Go.Proofs.Ytahdalejmfbkeaa
set_option linter.unusedSimpArgs false
set_option linter.unusedVariables false
open Go.RowKit Go.Shelf
attribute [local go_sem] Oper.semAt_some

def valsOf (xs : List Ob) : List Int := xs.map (·.1)

theorem apart_inr {vo vd : Value} (h : ∀ k, vo.ownBlock = some k → vd.ownBlock ≠ some k) : vd.ownBlock = none ∨ vd.ownBlock ≠ vo.ownBlock := by
  cases hd : vd.ownBlock with
  | none => exact .inl rfl
  | some k => exact .inr fun e => h k e.symm hd

theorem wf_i64 {x : Int} (h0 : 0 ≤ x) (h1 : x < 4611686018427387904) : (Lit.int .i64 x).wf = true := by
  simp [Lit.wf, IntKind.min, IntKind.max, IntKind.signed, IntKind.bits]; omega

/-- What one object more turns in memory. -/
theorem find_step {X w1 w2 w3 : World} {mb bd : Nat} {s1 : List Int × List Int} {vo vd v1 v2 : Value} {D : DataW Unit} {x d : Int} {o1 o2 : Obj}
    (hF : Found X mb s1 vo vd D) (hx : x ∉ s1.1) (hg1 : X.grownBy w1 (some mb)) (hm1 : w1.ownsMap Try.prog 3 (plainElem Try.prog 3) mb (s1.1.length + 1) (D.put (.int .i64 x) (.lit (.int .i64 s1.1.length))))
    (hord2 : w2.ownsRow (mb + 2) 3 1 v1 (s1.1.length + 1) (intsV s1.1 ++ [.int .i64 x])) (hg2 : (w1.alloc o1).grownBy w2 vo.ownBlock) (hat2 : v1.ownBlock = vo.ownBlock ∨ v1.ownBlock = some (w1.alloc o1).heap.size)
    (hdis4 : w3.ownsRow (mb + 2) 3 1 v2 (s1.2.length + 1) (intsV s1.2 ++ [.int .i64 d])) (hg3 : ((w2.setCell ⟨mb + 1, 0, none⟩ v1).alloc o2).grownBy w3 vd.ownBlock)
    (hat3 : v2.ownBlock = vd.ownBlock ∨ v2.ownBlock = some ((w2.setCell ⟨mb + 1, 0, none⟩ v1).alloc o2).heap.size)
    (hbd : X.cell? ⟨bd, 0, none⟩ = some (.int .i64 d)) (hbm : mb + 1 < bd) (hno1 : vo.ownBlock ≠ some bd) (hno2 : vd.ownBlock ≠ some bd) :
    Found (w3.setCell ⟨mb + 1, 1, none⟩ v2) mb (findS d s1 x) v1 v2 (D.put (.int .i64 x) (.lit (.int .i64 s1.1.length))) ∧ (∀ B, mb < B → KeepsFrom B X (w3.setCell ⟨mb + 1, 1, none⟩ v2)) ∧ Below mb X (w3.setCell ⟨mb + 1, 1, none⟩ v2) ∧
      (w3.setCell ⟨mb + 1, 1, none⟩ v2).cell? ⟨bd, 0, none⟩ = some (.int .i64 d) ∧ v1.ownBlock ≠ some bd ∧ v2.ownBlock ≠ some bd := by
  obtain ⟨hbox1, hord1, hdis1, hmp1⟩ := hF.put hg1 hm1
  have hlX := hF.box.lt
  have hl1 := hbox1.lt
  have hlbd : bd < X.heap.size := World.block_lt_of_cell? X _ hbd
  have hs1 := hg1.size
  have hs2 := hg2.size
  have hs3 := hg3.size
  simp only [World.size_alloc] at hs2 hat2
  have hsz : ((w2.setCell ⟨mb + 1, 0, none⟩ v1).alloc o2).heap.size = w2.heap.size + 1 := by simp [World.setCell]
  rw [hsz] at hs3 hat3
  have lo := fun k e => (hord1.lt k e)
  have ld := fun k e => (hdis1.lt k e)
  have hbox2 := (hbox1.kept (Below.heap_alloc _ o1 _ hl1)).kept (hg2.block _ (by simp; omega) (fun e => by have := (lo _ e.symm).1; omega))
  have hdis2 := (hdis1.alloc o1).kept hg2 (apart_inr hF.apart)
  have hmp2 := (hmp1.alloc o1).kept hg2 (fun e => by have := (lo _ e.symm).1; omega)
  have hbd1 := hg1.cell hbd (by simp; omega)
  have hbd2 := hg2.cell ((World.grownBy_alloc w1 o1 none).cell hbd1 (by simp)) (fun e => hno1 e.symm)
  have hbox3 := hbox2.set0 v1
  have hbd3 := (World.cell?_setCell_other w2 ⟨mb + 1, 0, none⟩ ⟨bd, 0, none⟩ v1 (fun e => by injection e; omega)).trans hbd2
  have hord3 := ownsRow_setCell_below hord2 (a := ⟨mb + 1, 0, none⟩) (by simp) v1
  have hmp3 := hmp2.setCell (a := ⟨mb + 1, 0, none⟩) (by simp) v1
  have hbox4 := (hbox3.kept (Below.heap_alloc _ o2 _ hbox3.lt)).kept (hg3.block _ (by rw [hsz]; omega) (fun e => by have := (ld _ e.symm).1; omega))
  have hv1d : ∀ k, v1.ownBlock = some k → vd.ownBlock ≠ some k := by
    intro k hk hd
    rcases hat2 with h | h
    · exact hF.apart k (h ▸ hk) hd
    · have := (ld k hd).2; rw [h] at hk; injection hk; omega
  have hord4 := (hord3.alloc o2).kept hg3 (by cases hv : v1.ownBlock with | none => exact .inl rfl | some k => exact .inr fun e => hv1d k hv e.symm)
  have hmp4 := (hmp3.alloc o2).kept hg3 (fun e => by have := (ld _ e.symm).1; omega)
  have hbd4 := hg3.cell ((World.grownBy_alloc _ o2 none).cell hbd3 (by simp)) (fun e => hno2 e.symm)
  have hbox5 := hbox4.set1 v2
  have hplc := placeD_put hF.plc (hF.map.isMap) hx
  have efs : findS d s1 x = (s1.1 ++ [x], s1.2 ++ [d]) := by rw [findS, if_neg hx]
  refine ⟨⟨hbox5, ?_, ?_, ?_, ?_, ?_⟩, ?_, ?_, ?_, ?_, ?_⟩
  · rw [efs]; simp only [List.length_append, List.length_cons, List.length_nil, Nat.zero_add, intsV_snoc]
    exact ownsRow_setCell_below hord4 (a := ⟨mb + 1, 1, none⟩) (by simp) v2
  · rw [efs]; simp only [List.length_append, List.length_cons, List.length_nil, Nat.zero_add, intsV_snoc]
    exact ownsRow_setCell_below hdis4 (a := ⟨mb + 1, 1, none⟩) (by simp) v2
  · rw [efs]; simp only [List.length_append, List.length_cons, List.length_nil, Nat.zero_add]
    exact hmp4.setCell (a := ⟨mb + 1, 1, none⟩) (by simp) v2
  · rw [efs]; exact hplc
  · intro k hk hd
    rcases hat3 with h | h
    · exact hv1d k hk (h ▸ hd)
    · have := (hord2.lt k hk).2; rw [h] at hd; injection hd; omega
  · intro B hB
    refine (KeepsFrom.of_grownBy hg1 (fun j e => by injection e; omega)).trans ?_
    exact ((((KeepsOthers.alloc _ o1).trans (keepsOthers_append (hord1.alloc o1) hg2)).trans (KeepsOthers.setCell _ _ _)).trans (((KeepsOthers.alloc _ o2).trans (keepsOthers_append ((ownsRow_setCell_below hdis2 (a := ⟨mb + 1, 0, none⟩) (by simp) v1).alloc o2) hg3)).trans (KeepsOthers.setCell _ _ _))).from B
  · have b1 : Below mb X w1 := (Below.refl mb X).grown hg1 (by omega) (fun k e => by injection e; omega)
    have b2 : Below mb X w2 := (b1.alloc (by omega) o1).grown hg2 (by simp; omega) (fun k e => by have := (lo _ e).1; omega)
    have b3 := (b2.setCell (p := ⟨mb + 1, 0, none⟩) (by simp) v1).alloc (by simp [World.setCell]; omega) o2
    exact (b3.grown hg3 (by rw [hsz]; omega) (fun k e => by have := (ld _ e).1; omega)).setCell (p := ⟨mb + 1, 1, none⟩) (by simp) v2
  · exact (World.cell?_setCell_other w3 ⟨mb + 1, 1, none⟩ ⟨bd, 0, none⟩ v2 (fun e => by injection e; omega)).trans hbd4
  · intro e
    rcases hat2 with h | h
    · exact hno1 (h ▸ e)
    · rw [h] at e; injection e; omega
  · intro e
    rcases hat3 with h | h
    · exact hno2 (h ▸ e)
    · rw [h] at e; injection e; omega

end Go.Proofs.Ytahdalejmfbkeaa
