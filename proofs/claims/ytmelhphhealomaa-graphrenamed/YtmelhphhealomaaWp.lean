/- Canon: the rows of objects that it makes. -/
import Derived.Test.YtmelhphhealomaaProg
import Derived.Test.YtmelhphhealomaaMem
import Derived.Test.YtmelhphhealomaaWh
import Derived.Test.YtmelhphhealomaaWo
import Derived.Deep.RegionLaw
import Derived.BigRegion
namespace Go.Proofs.Ytmelhphhealomaa
set_option linter.unusedSimpArgs false
set_option linter.unusedVariables false
open Go.RowKit

theorem good_of_check {g : Gr} (h : checkG g = 0) : Good g := by
  unfold checkG at h
  cases hL : isLargeG g with
  | true => rw [hL] at h; simp at h
  | false =>
    rw [hL] at h
    simp only [Bool.false_eq_true, if_false] at h
    have hr : (allV g).any (fun v => badV v g.objs.length == 2) = false := by
      cases hx : (allV g).any (fun v => badV v g.objs.length == 2) with
      | false => rfl
      | true => rw [hx] at h; simp at h
    simp only [isLargeG, Bool.or_eq_false_iff, decide_eq_false_iff_not, List.any_eq_false] at hL
    rw [List.any_eq_false] at hr
    have hv : ∀ v ∈ allV g, v.1 = true → 0 ≤ v.2 ∧ v.2 < g.objs.length := by
      intro v hm h1
      have := hr v hm
      unfold badV at this
      rw [if_pos h1] at this
      by_cases hc : v.2 < 0 ∨ (g.objs.length : Int) ≤ v.2
      · rw [if_pos hc] at this; simp at this
      · omega
    refine ⟨by omega, by omega, fun l hl => by have := hL.2 l hl; simpa using this, fun v hm => hv v (by simp [allV, hm]), fun l hl v hm => hv v ?_⟩
    simp only [allV, List.mem_append, List.mem_flatten]
    exact .inr ⟨l, hl, hm⟩

/-- Values that do not lie in block x. -/
def ValsN (x : Option Nat) (W : World) (a : Option Addr) (l : List V) : Prop :=
  Vals W.heap.size W a l ∧ (l ≠ [] → ∀ b off, a = some ⟨b, off, none⟩ → x ≠ some b)

theorem ValsN.grown {x : Option Nat} {W W' : World} {a : Option Addr} {l : List V} (h : ValsN x W a l) (hg : W.grownBy W' x) : ValsN x W' a l := by
  refine ⟨⟨h.1.1, fun hne => ?_⟩, h.2⟩
  obtain ⟨b, off, rfl, hB, hc⟩ := h.1.2 hne
  have hne' := h.2 hne b off rfl
  have hblk := hg.block b hB (fun e => hne' e.symm)
  refine ⟨b, off, rfl, by have := hg.size; omega, fun k v hk => ?_⟩
  rw [World.cell?_of_block (a := ⟨b, off + k * 2, none⟩) hblk, World.cell?_of_block (a := ⟨b, off + k * 2 + 1, none⟩) hblk]
  exact hc k v hk

theorem ValsN.below {x : Option Nat} {W W' : World} {a : Option Addr} {l : List V} (h : ValsN x W a l) (hb : Below W.heap.size W W') : ValsN x W' a l :=
  ⟨(h.1.below hb).mono hb.size, h.2⟩

theorem ValsN.fresh {x : Option Nat} {W : World} {a : Option Addr} {l : List V} (h : ValsN x W a l) {y : Option Nat} (hy : y = x ∨ ∃ m, y = some m ∧ W.heap.size ≤ m) : ValsN y W a l := by
  refine ⟨h.1, fun hne b off ha => ?_⟩
  rcases hy with rfl | ⟨m, rfl, hm⟩
  · exact h.2 hne b off ha
  · obtain ⟨b', off', ha', hB, _⟩ := h.1.2 hne
    rw [ha] at ha'
    injection ha' with ha'
    injection ha' with h1
    subst h1
    intro e
    injection e
    omega

/-- A row of objects that the call owns. -/
structure ObjRow (W : World) (base : Nat) (v : Value) (L : List (List V)) (es : List Value) : Prop where
  row : W.ownsRow base 43 1 v L.length es
  el : ∀ (k : Nat) (l : List V), L[k]? = some l → ∃ ai ci, es[k]? = some (.slice ai l.length ci) ∧ ValsN v.ownBlock W ai l ∧ ∀ b off, ai = some ⟨b, off, none⟩ → base ≤ b

theorem objRow_nil (W : World) (base : Nat) : ObjRow W base (.slice none 0 0) [] [] := ⟨World.ownsRow_nil _ _ _ _, fun k l h => by simp at h⟩

theorem ObjRow.below {W W' : World} {base : Nat} {v : Value} {L : List (List V)} {es : List Value} (h : ObjRow W base v L es) (hb : Below W.heap.size W W') : ObjRow W' base v L es :=
  ⟨h.row.kept ⟨hb.os, hb.tape, hb.output, hb.size, fun k hk _ => hb.block k hk⟩ (row := none) (by cases hv : v.ownBlock <;> simp), fun k l hk => by
    obtain ⟨ai, ci, h1, h2, h3⟩ := h.el k l hk
    exact ⟨ai, ci, h1, h2.below hb, h3⟩⟩

theorem ObjRow.snoc {W W' : World} {base : Nat} {v v' : Value} {L : List (List V)} {es : List Value} (h : ObjRow W base v L es) {ai : Option Addr} {ci : Nat} {l : List V}
    (hl : Vals W.heap.size W ai l) (hno : ∀ b off, ai = some ⟨b, off, none⟩ → v.ownBlock ≠ some b) (hbs : ∀ b off, ai = some ⟨b, off, none⟩ → base ≤ b)
    (hrow : W'.ownsRow base 43 1 v' (L.length + 1) (es ++ [.slice ai l.length ci])) (hg : W.grownBy W' v.ownBlock) (hat : v'.ownBlock = v.ownBlock ∨ v'.ownBlock = some W.heap.size) :
    ObjRow W' base v' (L ++ [l]) (es ++ [.slice ai l.length ci]) := by
  have hlen : es.length = L.length := by have := h.row.1; omega
  have hy : ∀ {a : Option Addr} {l : List V}, ValsN v.ownBlock W a l → ValsN v'.ownBlock W' a l := by
    intro a l hv
    have h1 : ValsN v'.ownBlock W a l := hv.fresh (by rcases hat with h | h; · exact .inl h
                                                      · exact .inr ⟨_, h, Nat.le_refl _⟩)
    exact ⟨(hv.grown hg).1, h1.2⟩
  refine ⟨by simpa using hrow, fun k l' hk => ?_⟩
  by_cases hlt : k < L.length
  · rw [List.getElem?_append_left hlt] at hk
    obtain ⟨ai', ci', h1, h2, h3⟩ := h.el k l' hk
    exact ⟨ai', ci', by rw [List.getElem?_append_left (by omega)]; exact h1, hy h2, h3⟩
  · rw [List.getElem?_append_right (by omega)] at hk
    rcases Nat.eq_zero_or_pos (k - L.length) with h0 | h0
    · rw [h0] at hk
      simp at hk
      subst hk
      refine ⟨ai, ci, ?_, hy ⟨hl, fun _ => hno⟩, hbs⟩
      rw [List.getElem?_append_right (by omega), show k - es.length = 0 from by omega]; rfl
    · rw [List.getElem?_eq_none (by simp; omega)] at hk; cases hk

theorem ObjRow.setCell {W : World} {base : Nat} {v : Value} {L : List (List V)} {es : List Value} (h : ObjRow W base v L es) {p : Addr} (hp : p.block < base) (u : Value) : ObjRow (W.setCell p u) base v L es := by
  refine ⟨ownsRow_setCell_below h.row hp u, fun k l hk => ?_⟩
  obtain ⟨ai, ci, h1, h2, h3⟩ := h.el k l hk
  refine ⟨ai, ci, h1, ⟨⟨h2.1.1, fun hne => ?_⟩, h2.2⟩, h3⟩
  obtain ⟨b, off, rfl, hB, hc⟩ := h2.1.2 hne
  have hbp := h3 b off rfl
  have hblk := Below.heap_setCell W p u b (by omega)
  refine ⟨b, off, rfl, by simp [World.setCell]; omega, fun j v hj => ?_⟩
  rw [World.cell?_of_block (a := ⟨b, off + j * 2, none⟩) hblk, World.cell?_of_block (a := ⟨b, off + j * 2 + 1, none⟩) hblk]
  exact hc j v hj

/-- What the call owns is a slice of objects. -/
theorem ObjRow.objs {W : World} {base : Nat} {v : Value} {L : List (List V)} {es : List Value} (h : ObjRow W base v L es) (hs : L.length ≤ 9223372036854775807) : ∃ a cap, v = .slice a L.length cap ∧ Objs W.heap.size W a L := by
  rcases h.row.2 with ⟨rfl, h0⟩ | ⟨g, cap, cur, rfl, hb, hg, hc1, hc2, hc3, htake⟩
  · refine ⟨none, 0, by rw [h0], hs, fun hne => ?_⟩
    exact absurd (List.eq_nil_of_length_eq_zero h0) hne
  · refine ⟨_, cap, rfl, hs, fun _ => ⟨g, 0, rfl, (Array.getElem?_eq_some_iff.1 hg).1, fun k l hk => ?_⟩⟩
    obtain ⟨ai, ci, h1, h2, _⟩ := h.el k l hk
    refine ⟨ai, ci, ?_, h2.1⟩
    rw [← htake, List.getElem?_take] at h1
    rw [Nat.zero_add, cell_of_row W g k cur 43 (0, 0) hg]
    split at h1
    · simpa using h1
    · cases h1

/-- One object more: a row made from old memory, appended, the slice stored back into a box below the rows. -/
theorem obj_step {W W1 W2 : World} {base cb : Nat} {v v' : Value} {L : List (List V)} {es : List Value} {ai : Option Addr} {ci : Nat} {l : List V} {o : Obj}
    (h : ObjRow W base v L es) (hW : base ≤ W.heap.size) (hl : Vals W1.heap.size W1 ai l) (hb : Below W.heap.size W W1) (hf : ∀ b off, ai = some ⟨b, off, none⟩ → W.heap.size ≤ b)
    (hrow : W2.ownsRow base 43 1 v' (L.length + 1) (es ++ [.slice ai l.length ci])) (hg : (W1.alloc o).grownBy W2 v.ownBlock) (hat : v'.ownBlock = v.ownBlock ∨ v'.ownBlock = some (W1.alloc o).heap.size)
    (hcb : cb + 1 = base) :
    ObjRow (W2.setCell ⟨cb, 0, none⟩ v') base v' (L ++ [l]) (es ++ [.slice ai l.length ci]) ∧ Below cb W (W2.setCell ⟨cb, 0, none⟩ v') := by
  have hs := hb.size
  have hs2 := hg.size
  have hb1 : Below W1.heap.size W1 (W1.alloc o) := (Below.refl _ _).alloc (Nat.le_refl _) o
  have h1 := (h.below hb).below hb1
  have hno : ∀ b off, ai = some ⟨b, off, none⟩ → v.ownBlock ≠ some b := fun b off e hv => by
    have := (h.row.lt b hv).2
    have := hf b off e
    omega
  have h2 := h1.snoc (ci := ci) ((hl.below hb1).mono hb1.size) hno (fun b off e => by have := hf b off e; omega) hrow hg hat
  refine ⟨h2.setCell (p := ⟨cb, 0, none⟩) (by simp; omega) v', ?_⟩
  exact (((hb.mono (B' := cb) (by omega)).trans (hb1.mono (B' := cb) (by omega))).grown hg (by simp; omega) (fun k e => by have := (h.row.lt k e).1; omega)).setCell (p := ⟨cb, 0, none⟩) (Nat.le_refl _) v'

/-- An append to a row that the call owns, as one step of a region that draws. -/
theorem step_append_at {P : Program} {ops : Array Oper} {o : Oper} {a : Act} {w : World} {K : Act → World → Prop} {Q : Exit → Act → World → Prop} {E : Prop} (hgd : o.guard = none) (s x : Operand) (t : TypeId)
    (ho : o.op = .call { callee := .builtin .append, args := #[s, x], argTypes := #[t, t] })
    (base : Nat) (e : TypeId) (i : TypeInfo) (z : Value) (size bytes : Nat) (ht : P.underlying t = some (.slice e)) (hi : P.info? e = some i) (hz : i.zero = some z)
    (hsize : i.size = size) (hby : i.bytes = bytes) (hzs : z.cells.size = size) (hsz : 0 < size)
    (v : Value) (n : Nat) (xs : List Value) (hs : a.eval s = v) (hown : w.ownsRow base e size v n xs)
    (ad : Addr) (m c : Nat) (news : List Value) (hx : a.eval x = .slice (some ad) m c) (hl : news.length = m * size) (hnews : ∀ j u, news[j]? = some u → w.cell? (ad.add j) = some u) (h1 : ∀ u ∈ news, u.oneCell' = true)
    (h63 : n + m ≤ maxLen) (hbytes : (n + m) * bytes ≤ 140737488355328) (hbase : base ≤ w.heap.size)
    (h : ∀ v' w', w'.ownsRow base e size v' (n + m) (xs ++ news) → w.grownBy w' v.ownBlock → (v'.ownBlock = v.ownBlock ∨ v'.ownBlock = some w.heap.size) → K (a.put o.dst v') w') :
    if Region.wanted o (yielded ops a.tmps) = true then Oper.wp P o a w K Q else E := by
  have hw : Region.wanted o (yielded ops a.tmps) = true := by simp [Region.wanted, hgd]
  rw [if_pos hw]
  obtain ⟨v', w', hr, h2, h3, _, h5⟩ := run_append_own_at (P := P) w base t o.type e i z size bytes ht hi hz hsize hby hzs hsz v n xs hown ad m c news hl hnews h1 h63 hbytes hbase
  unfold Oper.wp execOp
  simp only [ho, resolve, invoke, builtin, Sem.run_bind, Sem.run_pure, Result.andThen_ok, List.map_toArray, List.map_cons, List.map_nil, hs, hx, hr]
  exact h v' w' h2 h3 h5

/-- A call, as one step of a region that draws. -/
theorem step_call {P : Program} {ops : Array Oper} {o : Oper} {a : Act} {w : World} {K : Act → World → Prop} {Q : Exit → Act → World → Prop} {E : Prop} (hgd : o.guard = none) (f : FuncId) (args : Array Value)
    (hex : (execOp a.eval o).run P w = .ok (.enter f args) w) (R : Value → World → Prop) (hc : Calls P f args w fun e w' => ∃ v, e = .returned v ∧ R v w') (hK : ∀ v w', R v w' → K (a.put o.dst v) w') :
    if Region.wanted o (yielded ops a.tmps) = true then Oper.wp P o a w K Q else E := by
  have hw : Region.wanted o (yielded ops a.tmps) = true := by simp [Region.wanted, hgd]
  rw [if_pos hw]
  unfold Oper.wp
  rw [hex, Oper.upon_enter]
  refine hc.mono ?_
  rintro e w' ⟨v, rfl, hr⟩
  exact hK v w' hr

def orderOf (g : Gr) : List Int := (searchN g g.objs.length).1
def distOf (g : Gr) : List Int := (searchN g g.objs.length).2
def fieldsOf (g : Gr) (o : Int) : List V := (g.objs[o.toNat]?).getD []
/-- What is left of a graph, numbered as found. -/
def canonG (g : Gr) : Gr := { objs := (orderOf g).map (fun o => (fieldsOf g o).map (renV (orderOf g))), roots := g.roots.map (renV (orderOf g)) }

theorem Try.info43 : (Try.prog.info? 43).map (fun i => (i.zero, i.size, i.bytes)) = some (some (.agg #[.slice none 0 0]), 1, 24) := by kernel_rfl

end Go.Proofs.Ytmelhphhealomaa
