/- Merged texts: Md Mf Gc Gd Ge Gg Gf Mh Mi Mn Gh Gi Gj Gl Gp. -/
import Derived.Test.YtngjakeofhmohaaProg
import Derived.Test.YtngjakeofhmohaaVisitTellsC
import Derived.Deep.LoopGhost
import Derived.Deep.CutRange
import Derived.Deep.RegionWith
import Derived.Deep.RegionLaw
import Derived.OwnWalk
import Derived.StillTailTactics

/- Walks: fields. -/
namespace Go.Proofs.Ytngjakeofhmohaa
set_option linter.unusedSimpArgs false
set_option linter.unusedVariables false
open Go.RowKit Go.Shelf
attribute [local go_sem] field51_0 field51_1

def FldRes (wb p l : Nat) (e : Ending) : Prop := ∃ a c, e = .returned (.slice a l c) ∧ (0 < l → a = some ⟨wb, p + 1, none⟩)

set_option maxRecDepth 100000 in
set_option maxHeartbeats 2000000 in
theorem fields_c (mb wb n cap p : Nat) (x : Int) (w : World) (h0 : w.cell? ⟨mb, 0, none⟩ = some (.slice (some ⟨wb, 0, none⟩) n cap)) (hx : w.cell? ⟨wb, p, none⟩ = some (.int .u64 x)) (hn : n ≤ 256) (hcap : n ≤ cap) (h1 : 0 ≤ x) (h2 : x < 18446744073709551616)
    (hk : unheadOk x = true) (hend : p + 1 + wlen x ≤ n) :
    Calls Try.prog 62 #[.pointer (some ⟨mb, 0, none⟩), .int .i64 (p : Nat)] w fun e w' => FldRes wb p (wlen x) e ∧ Below w.heap.size w w' := by
  have hlm : mb < w.heap.size := World.block_lt_of_cell? w _ h0
  have hlw : wb < w.heap.size := World.block_lt_of_cell? w _ hx
  have HL := hide (uhL_wlen hk)
  have hp : p < n := by omega
  have h4 := wlen_le hk
  have Hh := hide (header_c mb wb n cap p x w.drew h0 hx hp hn h1 h2)
  have w1 : IntKind.i64.wrap ((p : Int) + 1) = (p : Int) + 1 := by rw [IntKind.wrap_i64]; omega
  clear hk
  generalize wlen x = l at *
  by_cases hcp : cap = p + 1
  · subst hcp
    obtain rfl : l = 0 := by omega
    go_enter Try.func62, Try.ntmps62
    go_wp2
    go_region_with (go_at_call 61; go_must (refine (unhide Hh).mono ?_); go_must (rintro e w2 ⟨he, hb2⟩; rw [unhide HL] at he; subst he; have k0 := (hb2.cell (p := ⟨mb, 0, none⟩) hlm).trans h0))
    all_goals
      go_wp2
      go_ret
      exact ⟨⟨_, _, rfl, fun h => absurd h (by omega)⟩, (Below.refl _ w).drew.trans hb2⟩
  · have hcp1 : p + 1 < cap := by omega
    go_enter Try.func62, Try.ntmps62
    go_wp2
    go_region_with (go_at_call 61; go_must (refine (unhide Hh).mono ?_); go_must (rintro e w2 ⟨he, hb2⟩; rw [unhide HL] at he; subst he; have k0 := (hb2.cell (p := ⟨mb, 0, none⟩) hlm).trans h0))
    all_goals
      go_wp2
      go_ret
      exact ⟨⟨_, _, rfl, fun _ => by simp⟩, (Below.refl _ w).drew.trans hb2⟩

end Go.Proofs.Ytngjakeofhmohaa

/- Walks: take, climb. -/
namespace Go.Proofs.Ytngjakeofhmohaa
set_option linter.unusedSimpArgs false
set_option linter.unusedVariables false
open Go.RowKit Go.Shelf
attribute [local go_sem] field51_0 field51_1

theorem below_drewN {B : Nat} {a w : World} (h : Below B a w) (n : Nat) : Below B a (w.drewN n) := ⟨h.os, h.tape, h.output, h.size, h.block⟩

/-- The places of objects. -/
def plc (fs : List (List Int)) (K : List Nat) : List Int := K.map fun i => ((tot (fs.take i) : Nat) : Int)
theorem plc_snoc (fs : List (List Int)) (K : List Nat) (i : Nat) : plc fs (K ++ [i]) = plc fs K ++ [((tot (fs.take i) : Nat) : Int)] := by simp [plc]
theorem plc_len (fs : List (List Int)) (K : List Nat) : (plc fs K).length = K.length := by simp [plc]

/-- A marker of an arena: which objects are marked, which are kept. -/
def MkA (W : World) (N mb : Nat) (vw vr : Value) (hs : List Int) (fs : List (List Int)) (rs : List Int) (room : Nat) (p : Nat → Bool) (K : List Nat) (lost : Bool) : Prop := ∃ vk, Mk W N mb vw vr vk (mW hs fs p) rs (plc fs K) room lost

theorem MkA.below {W W' : World} {N mb : Nat} {vw vr : Value} {hs : List Int} {fs : List (List Int)} {rs : List Int} {room : Nat} {p : Nat → Bool} {K : List Nat} {lost : Bool} (h : MkA W N mb vw vr hs fs rs room p K lost) (hb : Below W.heap.size W W') : MkA W' N mb vw vr hs fs rs room p K lost := by
  obtain ⟨vk, h⟩ := h
  exact ⟨vk, h.below hb⟩

/-- What take leaves. -/
def TkRes (N mb : Nat) (vw vr : Value) (hs : List Int) (fs : List (List Int)) (rs : List Int) (room : Nat) (p : Nat → Bool) (K : List Nat) (lost : Bool) (i : Nat) (W : World) : Prop :=
  (K.length = room ∧ MkA W N mb vw vr hs fs rs room (upd p i) K true) ∨ (K.length ≠ room ∧ MkA W N mb vw vr hs fs rs room (upd p i) (K ++ [i]) lost)

set_option maxRecDepth 100000 in
set_option maxHeartbeats 2000000 in
theorem take_c (hs : List Int) (fs : List (List Int)) (rs : List Int) (p : Nat → Bool) (K : List Nat) (N mb : Nat) (vw vr : Value) (room i : Nat) (lost : Bool) (w : World)
    (hM : MkA w N mb vw vr hs fs rs room p K lost) (hF : Fit hs fs) (h256 : tot fs ≤ 256) (hroom : room ≤ 64) (hK : K.length ≤ room) (hi : i < fs.length) :
    Calls Try.prog 51 #[.pointer (some ⟨mb, 0, none⟩), .int .i64 (tot (fs.take i) : Nat)] w fun e w' => (e = .returned (.tuple #[]) ∧ TkRes N mb vw vr hs fs rs room p K lost i w') ∧ Below N w w' ∧ KeepT w w' := by
  obtain ⟨i0, hi0, hz0, hz1, hz2⟩ := info_parts Try.info3
  obtain ⟨vk, hM⟩ := hM
  have hpl := place_lt hi
  have hml := mW_len hF p
  obtain ⟨wb, cap, hvw, hwN, hwb, hcap⟩ := hM.words (by rw [hml]; omega)
  rw [hml] at hvw hcap
  subst hvw
  obtain ⟨x, hx, hx1, hx2, hx3, hx4⟩ := fit_at hF hi
  have hr2 := reh_ok (p i) x
  have hmg := mW_get hF p hx
  have hNw : N ≤ w.heap.size := by omega
  have Hh := hide (header_c mb wb (tot fs) cap _ _ w hM.box.c0 (hM.wcell hml.symm hmg).1 hpl h256 hr2.2.2.2.2.1 hr2.2.2.2.2.2)
  have Hset : Hid (∀ W, Below w.heap.size w W → Calls Try.prog 49 #[.pointer (some ⟨mb, 0, none⟩), .int .i64 (tot (fs.take i) : Nat), .agg #[.int .i64 (uhL (reh (p i) x)), .bool (uhM (reh (p i) x)), .int .i64 (uhA (reh (p i) x))], .bool true] W fun e w' => e = .returned (.tuple #[]) ∧ Mk w' N mb (.slice (some ⟨wb, 0, none⟩) (tot fs) cap) vr vk (mW hs fs (upd p i)) rs (plc fs K) room lost ∧ Below N W w' ∧ KeepT W w') := fun W hbW => by
    have hMW := hM.below hbW
    refine (set_w mb wb (tot fs) cap _ _ _ _ _ true W hMW.box.c0 (hMW.wcell hml.symm hmg).1 (hMW.wcell hml.symm hmg).2 hpl h256).mono ?_
    rintro e w' ⟨rfl, w1, hb1, rfl⟩
    refine ⟨rfl, ?_, ?_, (KeepT.below hb1).setCell (ty_row (by have := (hMW.below hb1).wo; rw [hml] at this; exact this)) (.inl rfl) _⟩
    · have := (hMW.below hb1).setW hml.symm (tot (fs.take i)) (headW (uhL (reh (p i) x)) true (uhA (reh (p i) x)))
      rw [show headW (uhL (reh (p i) x)) true (uhA (reh (p i) x)) = reh true x from by rw [hr2.2.1, hr2.2.2.2.1]; rfl, mW_set hF p hx] at this
      rw [hr2.2.1, hr2.2.2.2.1]
      exact this
    · exact (hb1.mono (by have := hbW.size; omega)).setCell (p := ⟨wb, tot (fs.take i), none⟩) hwN _
  have Hpl : Hid (plc fs (K ++ [i]) = plc fs K ++ [((tot (fs.take i) : Nat) : Int)]) := plc_snoc fs K i
  have Hkl : Hid ((plc fs K).length = K.length) := plc_len fs K
  clear hM hmg hml hr2 hx hx1 hx2 hx3 hx4
  generalize uhL (reh (p i) x) = L at *
  generalize uhM (reh (p i) x) = M at *
  generalize uhA (reh (p i) x) = A at *
  generalize hpp : tot (fs.take i) = pl at *
  clear hpp
  generalize hkk : plc fs K = PK at *
  have Hkk := hide hkk
  clear hkk
  go_enter Try.func51, Try.ntmps51
  go_wp2_with fail
  refine (unhide Hh).mono ?_
  rintro e w2 ⟨rfl, hb2⟩
  go_wp2_with fail
  refine (unhide Hset w2 hb2).mono ?_
  rintro e w3 ⟨rfl, hM3, hb3, hk3⟩
  have hs2 := hb2.size
  have hs3 := hb3.size
  have hbN : Below N w w3 := (hb2.mono hNw).trans hb3
  have HkN := hide ((KeepT.below hb2).trans hk3)
  clear hk3
  have q2 := hM3.box.c2
  have q3 := hM3.box.c3
  have q4 := hM3.box.c4
  have z3 := hM3.box.fr 3
  have z4 := hM3.box.fr 4
  have hko := hM3.ko
  have hlm := hM3.box.lt
  obtain ⟨ka, kc, rfl⟩ := ownsRow_slice hko
  rw [unhide Hkl] at q3 hko
  have HM3 := hide hM3
  clear hM3 Hh Hset hb2 hb3
  by_cases hfull : K.length = room
  · have d0 : ((K.length : Int) == (room : Int)) = true := by simp; omega
    have Hfull := hide hfull
    clear hfull
    go_wp2
    go_quiet (fail)
    have hM4 := (unhide HM3).below (below_drewN (Below.refl _ _) nq)
    have hb4 := below_drewN hbN nq
    have Hk4 := hide ((unhide HkN).trans (KeepT.below (below_drewN (Below.refl _ w3) nq)))
    clear q2 q3 q4 z3 z4 hko hlm HM3 hbN hs3 d0 HkN
    generalize w3.drewN nq = w4 at *
    have q4 := hM4.box.c4
    have z4 := hM4.box.fr 4
    have hlm := hM4.box.lt
    have hmN := hM4.lo
    have HM4 := hide hM4
    clear hM4
    go_wp2
    refine bodyPost_ret (v := .tuple #[]) (results_none rfl _ _ _) rfl ⟨⟨rfl, .inl ⟨unhide Hfull, .slice ka PK.length kc, ?_⟩⟩, hb4.setCell (p := ⟨mb, 4, none⟩) hmN _, (unhide Hk4).setCell (unhide HM4).box.ty (.inr (.inr rfl)) _⟩
    rw [unhide Hkk]
    exact (unhide HM4).setL true
  · have d0 : ((K.length : Int) == (room : Int)) = false := by simp; omega
    have Hfull := hide hfull
    have hKr : K.length < room := by omega
    clear hfull
    go_wp2
    go_quiet (fail)
    have hM4 := (unhide HM3).below (below_drewN (Below.refl _ _) nq)
    have hb4 := below_drewN hbN nq
    have Hk4 := hide ((unhide HkN).trans (KeepT.below (below_drewN (Below.refl _ w3) nq)))
    clear q2 q3 q4 z3 z4 hko hlm HM3 hbN hs3 d0 HkN
    generalize w3.drewN nq = w4 at *
    have q3 := hM4.box.c3
    have z3 := hM4.box.fr 3
    have hlm := hM4.box.lt
    have hmN := hM4.lo
    have hko := hM4.ko
    rw [unhide Hkl] at q3 hko
    have HM4 := hide hM4
    clear hM4
    go_wp2_with (at_builtin; go_must (refine wpList_append_own_at _ rfl _ _ 25 rfl N 3 i0 _ 1 8 Try.underlying25 hi0 hz0 hz1 hz2 rfl (by decide) _ _ _ rfl (hko.alloc _) ⟨w4.heap.size, 0, none⟩ 1 1 [.int .i64 (pl : Int)] rfl rfl (cell_one_at _ _ _ _ (by simp)) (by simp [Value.oneCell']) (by simp only [maxLen]; omega) (by omega) (by simp; omega) ?_); go_must (intro v' w5 hrow hg5 _ hat; obtain ⟨g5, c5, hv5⟩ := ownsRow_succ hrow; subst hv5; have hpush := ((unhide HM4).alloc (.cells #[.int .i64 (pl : Int)] 3)).push (x := (pl : Int)) (by rw [unhide Hkl]; exact hrow) (by rw [unhide Hkl]; exact hg5) (by rw [unhide Hkl]; exact hat); have r3 := hpush.1.c3; have t3 := hpush.1.fr 3; have Hpush := hide hpush.2; have Hk5 := hide (((unhide Hk4).alloc (.cells #[.int .i64 (pl : Int)] 3)).grown (hko.alloc _) hg5 (.inr (.inl rfl))); have Hty := hide hpush.1.ty; clear hpush))
    refine bodyPost_end (v := .tuple #[]) (results_none rfl _ _ _) rfl ⟨⟨rfl, .inr ⟨unhide Hfull, .slice (some ⟨g5, 0, none⟩) (K.length + 1) c5, ?_⟩⟩, ?_, (unhide Hk5).setCell (unhide Hty) (.inr (.inr rfl)) _⟩
    · rw [unhide Hpl]
      exact unhide Hpush
    · exact ((hb4.alloc (by omega) _).grown hg5 (by simp; omega) (fun q e => (hko.lt q e).1)).setCell (p := ⟨mb, 3, none⟩) hmN _

end Go.Proofs.Ytngjakeofhmohaa

/- What a visitor holds, in memory. -/
namespace Go.Proofs.Ytngjakeofhmohaa
set_option linter.unusedSimpArgs false
set_option linter.unusedVariables false
open Go.RowKit Go.Shelf

/-- The four cells of a visitor. -/
structure VBox (W : World) (vb : Nat) (vw vr : Value) (mb : Nat) (vo : Value) : Prop where
  c0 : W.cell? ⟨vb, 0, none⟩ = some vw
  c1 : W.cell? ⟨vb, 1, none⟩ = some vr
  c2 : W.cell? ⟨vb, 2, none⟩ = some (.map (some mb))
  c3 : W.cell? ⟨vb, 3, none⟩ = some vo
  fr : ∀ j, W.frozen? ⟨vb, j, none⟩ = false

theorem VBox.kept {W W' : World} {vb mb : Nat} {vw vr vo : Value} (h : VBox W vb vw vr mb vo) (hb : W'.heap[vb]? = W.heap[vb]?) : VBox W' vb vw vr mb vo :=
  ⟨(World.cell?_of_block (a := ⟨vb, 0, none⟩) hb).trans h.c0, (World.cell?_of_block (a := ⟨vb, 1, none⟩) hb).trans h.c1, (World.cell?_of_block (a := ⟨vb, 2, none⟩) hb).trans h.c2, (World.cell?_of_block (a := ⟨vb, 3, none⟩) hb).trans h.c3,
    fun j => (World.frozen?_of_block (a := ⟨vb, j, none⟩) hb).trans (h.fr j)⟩

theorem VBox.lt {W : World} {vb mb : Nat} {vw vr vo : Value} (h : VBox W vb vw vr mb vo) : vb < W.heap.size := World.block_lt_of_cell? W _ h.c0

theorem VBox.set0 {W : World} {vb mb : Nat} {vw vr vo : Value} (h : VBox W vb vw vr mb vo) (v : Value) : VBox (W.setCell ⟨vb, 0, none⟩ v) vb v vr mb vo := by
  refine ⟨World.cell?_setCell_same' _ _ _ (by rw [h.c0]; rfl), ?_, ?_, ?_, fun j => by rw [World.frozen?_setCell]; exact h.fr j⟩
  · rw [World.cell?_setCell_other _ _ _ _ (by simp)]; exact h.c1
  · rw [World.cell?_setCell_other _ _ _ _ (by simp)]; exact h.c2
  · rw [World.cell?_setCell_other _ _ _ _ (by simp)]; exact h.c3

theorem VBox.set1 {W : World} {vb mb : Nat} {vw vr vo : Value} (h : VBox W vb vw vr mb vo) (v : Value) : VBox (W.setCell ⟨vb, 1, none⟩ v) vb vw v mb vo := by
  refine ⟨?_, World.cell?_setCell_same' _ _ _ (by rw [h.c1]; rfl), ?_, ?_, fun j => by rw [World.frozen?_setCell]; exact h.fr j⟩
  · rw [World.cell?_setCell_other _ _ _ _ (by simp)]; exact h.c0
  · rw [World.cell?_setCell_other _ _ _ _ (by simp)]; exact h.c2
  · rw [World.cell?_setCell_other _ _ _ _ (by simp)]; exact h.c3

theorem VBox.set3 {W : World} {vb mb : Nat} {vw vr vo : Value} (h : VBox W vb vw vr mb vo) (v : Value) : VBox (W.setCell ⟨vb, 3, none⟩ v) vb vw vr mb v := by
  refine ⟨?_, ?_, ?_, World.cell?_setCell_same' _ _ _ (by rw [h.c3]; rfl), fun j => by rw [World.frozen?_setCell]; exact h.fr j⟩
  · rw [World.cell?_setCell_other _ _ _ _ (by simp)]; exact h.c0
  · rw [World.cell?_setCell_other _ _ _ _ (by simp)]; exact h.c1
  · rw [World.cell?_setCell_other _ _ _ _ (by simp)]; exact h.c2

/-- A visitor: its words, its roots, how far it is, the places that it came to. -/
structure Vt (W : World) (N vb mb : Nat) (vw vr vo : Value) (ws rs O : List Int) (n : Nat) (M : DataW Unit) : Prop where
  box : VBox W vb vw vr mb vo
  lo : N ≤ vb
  lm : N ≤ mb
  wo : W.ownsRow N 52 1 vw ws.length (wordsV ws)
  ro : W.ownsRow N 52 1 vr rs.length (wordsV rs)
  oo : W.ownsRow N 3 1 vo O.length (intsV O)
  map : W.ownsMap Try.prog 3 (plainElem Try.prog 3) mb n M
  bm : vb ≠ mb
  aw : vw.ownBlock ≠ some vb
  ar : vr.ownBlock ≠ some vb
  ao : vo.ownBlock ≠ some vb
  mw : vw.ownBlock ≠ some mb
  mr : vr.ownBlock ≠ some mb
  mo : vo.ownBlock ≠ some mb
  wr : ∀ k, vw.ownBlock = some k → vr.ownBlock ≠ some k
  wv : ∀ k, vw.ownBlock = some k → vo.ownBlock ≠ some k
  rv : ∀ k, vr.ownBlock = some k → vo.ownBlock ≠ some k

theorem Vt.below {W W' : World} {N vb mb : Nat} {vw vr vo : Value} {ws rs O : List Int} {n : Nat} {M : DataW Unit} (h : Vt W N vb mb vw vr vo ws rs O n M) (hb : Below W.heap.size W W') : Vt W' N vb mb vw vr vo ws rs O n M :=
  ⟨h.box.kept (hb.block _ h.box.lt), h.lo, h.lm, ownsRow_below h.wo hb, ownsRow_below h.ro hb, ownsRow_below h.oo hb, h.map.kept (grown_none hb) (by simp), h.bm, h.aw, h.ar, h.ao, h.mw, h.mr, h.mo, h.wr, h.wv, h.rv⟩

theorem Vt.alloc {W : World} {N vb mb : Nat} {vw vr vo : Value} {ws rs O : List Int} {n : Nat} {M : DataW Unit} (h : Vt W N vb mb vw vr vo ws rs O n M) (o : Obj) : Vt (W.alloc o) N vb mb vw vr vo ws rs O n M :=
  h.below ((Below.refl _ _).alloc (Nat.le_refl _) _)

theorem or_ne' {v : Value} {k : Nat} (h : v.ownBlock ≠ some k) : v.ownBlock = none ∨ v.ownBlock ≠ some k := .inr h

/-- Behind a store of a word. -/
theorem Vt.setW {W : World} {N vb mb wb cap m : Nat} {vr vo : Value} {ws rs O : List Int} {n : Nat} {M : DataW Unit} (h : Vt W N vb mb (.slice (some ⟨wb, 0, none⟩) m cap) vr vo ws rs O n M) (hm : m = ws.length) (j : Nat) (y : Int) :
    Vt (W.setCell ⟨wb, j, none⟩ (.int .u64 y)) N vb mb (.slice (some ⟨wb, 0, none⟩) m cap) vr vo (ws.set j y) rs O n M := by
  subst hm
  have hg := grown_set W wb j (.int .u64 y)
  have e : wordsV (ws.set j y) = (wordsV ws).set j (.int .u64 y) := by simp [wordsV, List.map_set]
  refine ⟨h.box.kept (hg.block _ h.box.lt (fun e => h.aw e.symm)), h.lo, h.lm, ?_, h.ro.kept hg (or_ne' (h.wr wb rfl)), h.oo.kept hg (or_ne' (h.wv wb rfl)), h.map.kept hg (fun e => h.mw e.symm), h.bm, h.aw, h.ar, h.ao, h.mw, h.mr, h.mo, h.wr, h.wv, h.rv⟩
  rw [e, List.length_set]
  exact (h.wo.stored j (.int .u64 y)).1

/-- Behind a store of how far one is. -/
theorem Vt.setM {W W' : World} {N vb mb : Nat} {vw vr vo : Value} {ws rs O : List Int} {n n' : Nat} {M M' : DataW Unit} (h : Vt W N vb mb vw vr vo ws rs O n M) (hg : W.grownBy W' (some mb)) (hm : W'.ownsMap Try.prog 3 (plainElem Try.prog 3) mb n' M') : Vt W' N vb mb vw vr vo ws rs O n' M' :=
  ⟨h.box.kept (hg.block _ h.box.lt (fun e => h.bm (by injection e))), h.lo, h.lm, h.wo.kept hg (or_ne' h.mw), h.ro.kept hg (or_ne' h.mr), h.oo.kept hg (or_ne' h.mo), hm, h.bm, h.aw, h.ar, h.ao, h.mw, h.mr, h.mo, h.wr, h.wv, h.rv⟩

/-- One place more: behind the append and the store. -/
theorem Vt.push {W w1 : World} {N vb mb : Nat} {vw vr vo v' : Value} {ws rs O : List Int} {x : Int} {n : Nat} {M : DataW Unit} (h : Vt W N vb mb vw vr vo ws rs O n M) (hrow : w1.ownsRow N 3 1 v' (O.length + 1) (intsV O ++ [.int .i64 x])) (hg : W.grownBy w1 vo.ownBlock)
    (hat : v'.ownBlock = vo.ownBlock ∨ v'.ownBlock = some W.heap.size) : VBox w1 vb vw vr mb vo ∧ Vt (w1.setCell ⟨vb, 3, none⟩ v') N vb mb vw vr v' ws rs (O ++ [x]) n M := by
  have hbox : VBox w1 vb vw vr mb vo := h.box.kept (hg.block _ h.box.lt (fun e => h.ao e.symm))
  have hg2 := grown_set w1 vb 3 v'
  have apart : ∀ {u : Value}, (∀ k, u.ownBlock = some k → k < W.heap.size) → (∀ k, u.ownBlock = some k → vo.ownBlock ≠ some k) → ∀ k, u.ownBlock = some k → v'.ownBlock ≠ some k := by
    intro u h1 h2 k hk e
    rcases hat with h | h
    · exact h2 k hk (h ▸ e)
    · rw [h] at e; injection e with e; have := h1 k hk; omega
  have kp : ∀ {u : Value}, (∀ k, u.ownBlock = some k → vo.ownBlock ≠ some k) → u.ownBlock = none ∨ u.ownBlock ≠ vo.ownBlock := by
    intro u h2
    cases hv : u.ownBlock with
    | none => exact .inl rfl
    | some k => exact .inr fun e => h2 k hv e.symm
  have ne : ∀ {k : Nat}, k < W.heap.size → vo.ownBlock ≠ some k → v'.ownBlock ≠ some k := by
    intro k hk h2 e
    rcases hat with h | h
    · exact h2 (h ▸ e)
    · rw [h] at e; injection e with e; omega
  have hml := h.map.lt
  refine ⟨hbox, hbox.set3 v', h.lo, h.lm, (h.wo.kept hg (kp h.wv)).kept hg2 (or_ne' h.aw), (h.ro.kept hg (kp h.rv)).kept hg2 (or_ne' h.ar), ?_, (h.map.kept hg (fun e => h.mo e.symm)).setCell (fun e => h.bm e.symm) _, h.bm, h.aw, h.ar, ne h.box.lt h.ao, h.mw, h.mr, ne hml h.mo, h.wr, apart (fun k hk => (h.wo.lt k hk).2) h.wv, apart (fun k hk => (h.ro.lt k hk).2) h.rv⟩
  rw [intsV_snoc, List.length_append]
  exact hrow.kept hg2 (or_ne' (ne h.box.lt h.ao))

/-- The words, where there are some. -/
theorem Vt.words {W : World} {N vb mb : Nat} {vw vr vo : Value} {ws rs O : List Int} {n : Nat} {M : DataW Unit} (h : Vt W N vb mb vw vr vo ws rs O n M) (hne : 0 < ws.length) : ∃ wb cap, vw = .slice (some ⟨wb, 0, none⟩) ws.length cap ∧ N ≤ wb ∧ wb < W.heap.size ∧ ws.length ≤ cap := by
  rcases h.wo.2 with ⟨_, h0⟩ | ⟨g, cap, cur, hv, h1, h2, h3, h4, h5, h6⟩
  · omega
  · exact ⟨g, cap, hv, h1, (Array.getElem?_eq_some_iff.1 h2).1, h3⟩

theorem Vt.wcell {W : World} {N vb mb wb cap m : Nat} {vr vo : Value} {ws rs O : List Int} {n : Nat} {M : DataW Unit} (h : Vt W N vb mb (.slice (some ⟨wb, 0, none⟩) m cap) vr vo ws rs O n M) (hm : m = ws.length) {j : Nat} {x : Int} (hx : ws[j]? = some x) :
    W.cell? ⟨wb, j, none⟩ = some (.int .u64 x) ∧ W.frozen? ⟨wb, j, none⟩ = false := by
  subst hm
  have hlt := (List.getElem?_eq_some_iff.1 hx).1
  refine ⟨?_, h.wo.frozenAt j⟩
  rw [h.wo.cellAt j (by omega)]
  simp [wordsV, hx]

/-- The map tells how far one is in each object that was come to. -/
def FarD (fs : List (List Int)) (M : DataW Unit) (F : Nat → Option Nat) : Prop :=
  ∀ i, i < fs.length → Maps.has M (.int .i64 (tot (fs.take i) : Nat)) = (F i).isSome ∧ ∀ c, F i = some c → M.atKey (.int .i64 (tot (fs.take i) : Nat)) (.lit (.int .i64 0)) = .lit (.int .i64 (c : Nat))

theorem pl_inj {fs : List (List Int)} {i k : Nat} (hi : i < fs.length) (hk : k < fs.length) (h : tot (fs.take i) = tot (fs.take k)) : i = k := by
  have h1 := stF_get fs 0 i hi
  have h2 := stF_get fs 0 k hk
  rw [Nat.zero_add] at h1 h2
  rw [h] at h1
  exact st_inj h1 h2

theorem farD_nil (fs : List (List Int)) : FarD fs (.map []) (fun _ => none) := fun i _ => ⟨by simp [Maps.has_eq], fun c h => by cases h⟩

theorem FarD.put {fs : List (List Int)} {M : DataW Unit} {F : Nat → Option Nat} (h : FarD fs M F) (hM : Maps.IsMap M) {i : Nat} (hi : i < fs.length) (c : Nat) : FarD fs (M.put (.int .i64 (tot (fs.take i) : Nat)) (.lit (.int .i64 (c : Nat)))) (updF F i c) := by
  have hk : WideAt.IsKeyLit (.int .i64 (tot (fs.take i) : Nat)) := trivial
  intro k hkl
  by_cases e : k = i
  · subst e
    refine ⟨by rw [Maps.has_put_same hM hk, updF_same]; rfl, fun d hd => ?_⟩
    rw [updF_same] at hd
    injection hd with hd
    subst hd
    rw [Maps.atKey_put_same hM hk]
  · have hne : ((tot (fs.take k) : Nat) : Int) ≠ ((tot (fs.take i) : Nat) : Int) := fun e' => e (pl_inj hkl hi (by omega))
    rw [updF_other e, Maps.has_put_other (by simpa using hne), Maps.atKey_put_other (by simpa using hne)]
    exact h k hkl

/-- A visitor of an arena. -/
def VtA (W : World) (N vb mb : Nat) (vw vr : Value) (hs : List Int) (fs gs : List (List Int)) (rs : List Int) (F : Nat → Option Nat) (O : List Nat) (n : Nat) : Prop := ∃ vo M, Vt W N vb mb vw vr vo (joinW hs gs) rs (plc fs O) n M ∧ FarD fs M F

theorem VtA.below {W W' : World} {N vb mb : Nat} {vw vr : Value} {hs : List Int} {fs gs : List (List Int)} {rs : List Int} {F : Nat → Option Nat} {O : List Nat} {n : Nat} (h : VtA W N vb mb vw vr hs fs gs rs F O n) (hb : Below W.heap.size W W') : VtA W' N vb mb vw vr hs fs gs rs F O n := by
  obtain ⟨vo, M, h1, h2⟩ := h
  exact ⟨vo, M, h1.below hb, h2⟩

end Go.Proofs.Ytngjakeofhmohaa

/- Walks: place, refer, header, field, unseen. -/
namespace Go.Proofs.Ytngjakeofhmohaa
set_option linter.unusedSimpArgs false
set_option linter.unusedVariables false
open Go.RowKit Go.Shelf

/-- How far one is, as the map tells. -/
theorem FarD.look {fs : List (List Int)} {M : DataW Unit} {F : Nat → Option Nat} (h : FarD fs M F) {W : World} {mb n i c : Nat} (hm : W.ownsMap Try.prog 3 (plainElem Try.prog 3) mb n M) (hi : i < fs.length) (h256 : tot fs ≤ 256) (hF : F i = some c) :
    (Instr.lookup 57 (.map (some mb)) (.int .i64 (tot (fs.take i) : Nat)) false).run Try.prog W = .ok (.int .i64 (c : Nat)) W := by
  have hpl := place_lt hi
  obtain ⟨d, h1, h2, _⟩ := hm.lookup_int (Maps.int_keyed Try.underlying3) Try.underlying57 Try.underlying3 (Try.zeroValue3 _) (Maps.keyOf_int_mk Try.underlying3 (wf_i64 (x := ((tot (fs.take i) : Nat) : Int)) (by omega) (by omega)))
  have h3 := ((h i hi).2 c hF).symm.trans h2
  generalize ((c : Nat) : Int) = k at *
  cases h3
  exact h1

theorem FarD.lookOk {fs : List (List Int)} {M : DataW Unit} {F : Nat → Option Nat} (h : FarD fs M F) {W : World} {mb n i : Nat} (hm : W.ownsMap Try.prog 3 (plainElem Try.prog 3) mb n M) (hi : i < fs.length) (h256 : tot fs ≤ 256) :
    ∃ d : Int, (Instr.lookup 57 (.map (some mb)) (.int .i64 (tot (fs.take i) : Nat)) true).run Try.prog W = .ok (.tuple #[.int .i64 d, .bool (F i).isSome]) W := by
  have hpl := place_lt hi
  obtain ⟨v, ps, h1, h2⟩ := hm.look_ok (Maps.int_keyed Try.underlying3) Try.underlying57 (Try.zeroValue3 _) (plainElem_int Try.underlying3 (by decide)) (Maps.keyOf_int_mk Try.underlying3 (wf_i64 (x := ((tot (fs.take i) : Nat) : Int)) (by omega) (by omega)))
  obtain ⟨d, rfl, _, _⟩ := plainElem_int_inv Try.underlying3 h2
  rw [(h i hi).1] at h1
  exact ⟨d, h1⟩

set_option maxRecDepth 100000 in
set_option maxHeartbeats 1000000 in
theorem vplace_c (x : Int) (w : World) (h1 : 0 ≤ x) (h2 : x < 18446744073709551616) :
    Calls Try.prog 38 #[.int .u64 x] w fun e w' => e = .returned (.tuple #[.int .i64 (unNum x), .bool (unRef x)]) ∧ Below w.heap.size w w' := by
  go_enter Try.func38, Try.ntmps38
  go_wp2_with (go_at_call 57; go_must (refine (unpack_c x _ h1 h2).mono ?_); go_must (rintro e w3 ⟨he, hb3⟩; subst he; have hs3 := hb3.size))
  go_quiet (fail)
  go_wp2
  go_ret2
  exact ⟨rfl, below_drewN (hb3.alloc hs3 _) nq⟩

set_option maxRecDepth 100000 in
set_option maxHeartbeats 1000000 in
theorem vrefer_c (n : Nat) (w : World) (hn : n < 256) :
    Calls Try.prog 42 #[.int .i64 (n : Nat)] w fun e w' => e = .returned (.int .u64 (2 * (n : Int))) ∧ Below w.heap.size w w' := by
  have Hp : Hid (packW true (n : Int) = 2 * (n : Int)) := by
    show packW true (n : Int) = _
    simp only [packW, if_true]
    rw [if_neg (by omega)]
  have Hc := hide (pack_c true (n : Int) w (by omega) (by omega))
  go_enter Try.func42, Try.ntmps42
  go_wp2_with (go_at_call 59; go_must (refine (unhide Hc).mono ?_); go_must (rintro e w3 ⟨he, hb3⟩; rw [unhide Hp] at he; subst he))
  go_ret
  exact ⟨rfl, hb3⟩

set_option maxRecDepth 100000 in
set_option maxHeartbeats 1000000 in
theorem vheader_c (mb wb n cap p : Nat) (x : Int) (w : World) (h0 : w.cell? ⟨mb, 0, none⟩ = some (.slice (some ⟨wb, 0, none⟩) n cap)) (hx : w.cell? ⟨wb, p, none⟩ = some (.int .u64 x)) (hp : p < n) (hn : n ≤ 256) (h1 : 0 ≤ x) (h2 : x < 18446744073709551616) :
    Calls Try.prog 40 #[.pointer (some ⟨mb, 0, none⟩), .int .i64 (p : Nat)] w fun e w' => e = .returned (.agg #[.int .i64 (uhL x), .bool (uhM x), .int .i64 (uhA x)]) ∧ Below w.heap.size w w' := by
  have hb0 : Below w.heap.size w (w.alloc (.cells #[.int .i64 0, .bool false, .int .i64 0] 68)) := (Below.refl _ _).alloc (Nat.le_refl _) _
  have hlm : mb < w.heap.size := World.block_lt_of_cell? w _ h0
  have hlw : wb < w.heap.size := World.block_lt_of_cell? w _ hx
  have hpI : (p : Int) < (n : Int) := by omega
  go_enter Try.func40, Try.ntmps40
  go_wp2_with fail
  refine (unhead_c x _ h1 h2).mono ?_
  rintro e w2 ⟨rfl, hb2⟩
  simp only [World.size_alloc] at hb2
  have g0 := hb2.cell (p := ⟨w.heap.size, 0, none⟩) (show w.heap.size < _ by omega)
  have g1 := hb2.cell (p := ⟨w.heap.size, 1, none⟩) (show w.heap.size < _ by omega)
  have g2 := hb2.cell (p := ⟨w.heap.size, 2, none⟩) (show w.heap.size < _ by omega)
  have f0 := hb2.frozen (p := ⟨w.heap.size, 0, none⟩) (show w.heap.size < _ by omega)
  have f1 := hb2.frozen (p := ⟨w.heap.size, 1, none⟩) (show w.heap.size < _ by omega)
  have f2 := hb2.frozen (p := ⟨w.heap.size, 2, none⟩) (show w.heap.size < _ by omega)
  simp [go_sem] at g0 g1 g2 f0 f1 f2
  have hs2 := hb2.size
  simp only [World.size_alloc] at hs2
  have hlt2 : w.heap.size < w2.heap.size := by omega
  have hbw2 := hb0.trans (hb2.mono (by omega))
  clear hb0 hb2
  go_wp2
  obtain ⟨W3, hW3⟩ : ∃ W3, ((w2.setCell ⟨w.heap.size, 0, none⟩ (.int .i64 (uhL x))).setCell ⟨w.heap.size, 1, none⟩ (.bool (uhM x))).setCell ⟨w.heap.size, 2, none⟩ (.int .i64 (uhA x)) = W3 := ⟨_, rfl⟩
  have i0 : W3.cell? ⟨w.heap.size, 0, none⟩ = some (.int .i64 (uhL x)) := by rw [← hW3]; simp [go_sem, g0, g1, g2]
  have i1 : W3.cell? ⟨w.heap.size, 1, none⟩ = some (.bool (uhM x)) := by rw [← hW3]; simp [go_sem, g0, g1, g2]
  have i2 : W3.cell? ⟨w.heap.size, 2, none⟩ = some (.int .i64 (uhA x)) := by rw [← hW3]; simp [go_sem, g0, g1, g2]
  have hlt3 : w.heap.size < W3.heap.size := by rw [← hW3]; simpa [World.setCell] using hlt2
  have hb3 : Below w.heap.size w W3 := by rw [← hW3]; exact ((hbw2.setCell (p := ⟨w.heap.size, 0, none⟩) (Nat.le_refl _) _).setCell (p := ⟨w.heap.size, 1, none⟩) (Nat.le_refl _) _).setCell (p := ⟨w.heap.size, 2, none⟩) (Nat.le_refl _) _
  rw [hW3]
  clear hW3
  obtain ⟨W4, hW4⟩ : ∃ W4, W3.alloc (.cells #[.int .i64 (uhL x), .bool (uhM x), .int .i64 (uhA x)] 68) = W4 := ⟨_, rfl⟩
  rw [hW4]
  have hb4 : Below w.heap.size w W4 := by rw [← hW4]; exact hb3.alloc (by omega) _
  have k0 : W4.cell? ⟨w.heap.size, 0, none⟩ = some (.int .i64 (uhL x)) := by rw [← hW4, World.cell?_alloc_past _ _ _ hlt3]; exact i0
  have k1 : W4.cell? ⟨w.heap.size, 1, none⟩ = some (.bool (uhM x)) := by rw [← hW4, World.cell?_alloc_past _ _ _ hlt3]; exact i1
  have k2 : W4.cell? ⟨w.heap.size, 2, none⟩ = some (.int .i64 (uhA x)) := by rw [← hW4, World.cell?_alloc_past _ _ _ hlt3]; exact i2
  refine bodyPost_ret (v := .agg #[.int .i64 (uhL x), .bool (uhM x), .int .i64 (uhA x)]) (by simp [results, Try.results40, go_sem, k0, k1, k2]) rfl ?_
  exact ⟨rfl, hb4⟩

set_option maxRecDepth 100000 in
set_option maxHeartbeats 1000000 in
theorem vfield_c (vb wb n cap p c mb : Nat) (w : World) (h0 : w.cell? ⟨vb, 0, none⟩ = some (.slice (some ⟨wb, 0, none⟩) n cap)) (h2 : w.cell? ⟨vb, 2, none⟩ = some (.map (some mb)))
    (hlk : ∀ n, (Instr.lookup 57 (.map (some mb)) (.int .i64 (p : Nat)) false).run Try.prog (w.drewN n) = .ok (.int .i64 (c : Nat)) (w.drewN n)) (hp : p + 1 + c < n) (hn : n ≤ 256) :
    Calls Try.prog 41 #[.pointer (some ⟨vb, 0, none⟩), .int .i64 (p : Nat)] w fun e w' => e = .returned (.pointer (some ⟨wb, p + 1 + c, none⟩)) ∧ Below w.heap.size w w' := by
  have hlm : vb < w.heap.size := World.block_lt_of_cell? w _ h0
  have hi1 : (p : Int) + 1 + (c : Int) < (n : Int) := by omega
  have w1 : IntKind.i64.wrap ((p : Int) + 1) = (p : Int) + 1 := by rw [IntKind.wrap_i64]; omega
  have w2 : IntKind.i64.wrap ((p : Int) + 1 + (c : Int)) = (p : Int) + 1 + (c : Int) := by rw [IntKind.wrap_i64]; omega
  go_enter Try.func41, Try.ntmps41
  go_wp2
  go_quiet (fail)
  go_wp2
  go_ret
  exact ⟨by first | rfl | (congr 4; omega), below_drewN (Below.refl _ w) nq⟩

end Go.Proofs.Ytngjakeofhmohaa

/- Walks: unseen, enter. -/
namespace Go.Proofs.Ytngjakeofhmohaa
set_option linter.unusedSimpArgs false
set_option linter.unusedVariables false
open Go.RowKit Go.Shelf

/-- What unseen tells. -/
def UsRes (fs : List (List Int)) (F : Nat → Option Nat) (x : Int) (e : Ending) : Prop :=
  (∃ j, j < fs.length ∧ F j = none ∧ unRef x = true ∧ unNum x = ((tot (fs.take j) : Nat) : Int) ∧ e = .returned (.tuple #[.int .i64 (tot (fs.take j) : Nat), .bool true])) ∨
    ((∀ j, j < fs.length → unRef x = true → unNum x = ((tot (fs.take j) : Nat) : Int) → (F j).isSome = true) ∧ ∃ d : Int, e = .returned (.tuple #[.int .i64 d, .bool false]))

set_option maxRecDepth 100000 in
set_option maxHeartbeats 2000000 in
theorem unseen_c (x : Int) (hs : List Int) (fs gs : List (List Int)) (rs : List Int) (F : Nat → Option Nat) (O : List Nat) (n N vb mb : Nat) (vw vr : Value) (w : World)
    (hM : VtA w N vb mb vw vr hs fs gs rs F O n) (h256 : tot fs ≤ 256) (h1 : 0 ≤ x) (h2 : x < 18446744073709551616) (hok : okW (stF 0 fs) x = true) :
    Calls Try.prog 23 #[.pointer (some ⟨vb, 0, none⟩), .int .u64 x] w fun e w' => UsRes fs F x e ∧ Below w.heap.size w w' := by
  obtain ⟨vo, M, hV, hF⟩ := hM
  have Hc := hide (vplace_c x w h1 h2)
  have Hok := hide (ok_ref hok)
  have HV := hide hV
  have HF := hide hF
  clear hV hF hok
  go_enter Try.func23, Try.ntmps23
  go_wp2_with fail
  refine (unhide Hc).mono ?_
  rintro e w3 ⟨rfl, hb3⟩
  clear Hc
  cases hr : unRef x
  · have Hr := hide hr
    clear hr
    go_wp2
    go_ret2
    exact ⟨.inr ⟨fun j _ h => (by rw [unhide Hr] at h; cases h), 0, rfl⟩, hb3⟩
  · obtain ⟨j, hj⟩ := (unhide Hok).2 hr
    have hjl : j < fs.length := by have := (List.getElem?_eq_some_iff.1 hj).1; rw [stF_len] at this; exact this
    have hj' := stF_get fs 0 j hjl
    rw [Nat.zero_add] at hj'
    have hnum : unNum x = ((tot (fs.take j) : Nat) : Int) := by
      have := hj.symm.trans hj'
      injection this
    have hV3 := (unhide HV).below hb3
    have q2 := hV3.box.c2
    have hlm := hV3.box.lt
    obtain ⟨d, hlk⟩ := (unhide HF).lookOk hV3.map hjl h256
    have Hr := hide hr
    have Hn := hide hnum
    rw [hnum]
    clear hr hnum hj hj' hV3 Hok
    have Hu : Hid (∀ k, k < fs.length → ((tot (fs.take j) : Nat) : Int) = ((tot (fs.take k) : Nat) : Int) → k = j) := fun k hk e => pl_inj hk hjl (by omega)
    generalize hpe : tot (fs.take j) = p at *
    have Hpe := hide hpe
    clear hpe
    cases hFj : F j with
    | none =>
      have HFj := hide hFj
      rw [hFj] at hlk
      simp only [Option.isSome_none] at hlk
      clear hFj
      go_wp2
      go_ret2
      exact ⟨.inl ⟨j, hjl, unhide HFj, unhide Hr, by rw [unhide Hpe]; exact unhide Hn, by rw [unhide Hpe]; rfl⟩, hb3⟩
    | some c =>
      have HFj := hide hFj
      rw [hFj] at hlk
      simp only [Option.isSome_some] at hlk
      clear hFj
      go_wp2
      go_ret2
      refine ⟨.inr ⟨fun k hk _ e => ?_, _, rfl⟩, hb3⟩
      rw [unhide Hu k hk (by rw [← unhide Hn]; exact e), unhide HFj]
      rfl

set_option maxRecDepth 100000 in
set_option maxHeartbeats 2000000 in
theorem enter_c (hs : List Int) (fs gs : List (List Int)) (rs : List Int) (F : Nat → Option Nat) (O : List Nat) (n N vb mb j : Nat) (vw vr : Value) (w : World)
    (hM : VtA w N vb mb vw vr hs fs gs rs F O n) (h256 : tot fs ≤ 256) (hj : j < fs.length) (hn : n ≤ 256) (hO : O.length ≤ 256) :
    Calls Try.prog 39 #[.pointer (some ⟨vb, 0, none⟩), .int .i64 (tot (fs.take j) : Nat)] w fun e w' => (e = .returned (.tuple #[]) ∧ VtA w' N vb mb vw vr hs fs gs rs (updF F j 0) (O ++ [j]) (n + 1)) ∧ Below N w w' := by
  obtain ⟨i0, hi0, hz0, hz1, hz2⟩ := info_parts Try.info3
  obtain ⟨vo, M, hV, hF⟩ := hM
  have hpl := place_lt hj
  have Hkey := hide (Maps.keyOf_int_mk Try.underlying3 (wf_i64 (x := ((tot (fs.take j) : Nat) : Int)) (by omega) (by omega)))
  have Hval := hide (show plainElem (H := Unit) Try.prog 3 (.int .i64 0) = some (.lit (.int .i64 0), []) from plainElem_int Try.underlying3 (by decide))
  have HF2 := hide (hF.put hV.map.isMap hj 0)
  have Hpl : Hid (plc fs (O ++ [j]) = plc fs O ++ [((tot (fs.take j) : Nat) : Int)]) := plc_snoc fs O j
  have Hkl : Hid ((plc fs O).length = O.length) := plc_len fs O
  have hNw : N ≤ w.heap.size := by have := hV.lo; have := hV.box.lt; omega
  obtain ⟨oa, oc, rfl⟩ := ownsRow_slice hV.oo
  have hmp := hV.map
  have q2 := hV.box.c2
  have hlm := hV.box.lt
  have hlo := hV.lo
  have hlmb := hV.lm
  have HV := hide hV
  clear hV hF
  generalize hpp : tot (fs.take j) = p at *
  clear hpp
  generalize hkk : plc fs O = PO at *
  have Hkk := hide hkk
  clear hkk
  go_enter Try.func39, Try.ntmps39
  go_wp2_with (first
    | (at_mapUpdate; go_must (refine wpList_mapUpdate_own _ rfl _ _ _ 57 rfl 3 3 (Maps.int_keyed Try.underlying3) Try.underlying57 _ mb n M rfl hmp (by simp only [maxLen]; omega) _ _ _ rfl rfl (unhide Hkey) _ [] (unhide Hval) ?_); go_must (intro w1 hmap1 hg1; have hV1 := (unhide HV).setM hg1 hmap1; have hs1 := hg1.size; have r3 := hV1.box.c3; have hlm1 := hV1.box.lt; have HV1 := hide hV1; have hko := hV1.oo; rw [unhide Hkl] at r3 hko; have hbN : Below N w w1 := (Below.refl N w).grown hg1 hNw (fun k e => by injection e with e; omega); clear hV1))
    | (at_builtin; go_must (refine wpList_append_own_at _ rfl _ _ 25 rfl N 3 i0 _ 1 8 Try.underlying25 hi0 hz0 hz1 hz2 rfl (by decide) _ _ _ rfl (hko.alloc _) ⟨w1.heap.size, 0, none⟩ 1 1 [.int .i64 (p : Int)] rfl rfl (cell_one_at _ _ _ _ (by simp)) (by simp [Value.oneCell']) (by simp only [maxLen]; omega) (by omega) (by simp; omega) ?_); go_must (intro v' w5 hrow hg5 _ hat; obtain ⟨g5, c5, hv5⟩ := ownsRow_succ hrow; subst hv5; have hpush := ((unhide HV1).alloc (.cells #[.int .i64 (p : Int)] 3)).push (x := (p : Int)) (by rw [unhide Hkl]; exact hrow) (by rw [unhide Hkl]; exact hg5) (by rw [unhide Hkl]; exact hat); have r3' := hpush.1.c3; have t3 := hpush.1.fr 3; have Hpush := hide hpush.2; clear hpush)))
  refine bodyPost_end (v := .tuple #[]) (results_none rfl _ _ _) rfl ⟨⟨rfl, .slice (some ⟨g5, 0, none⟩) (O.length + 1) c5, _, ?_, unhide HF2⟩, ?_⟩
  · rw [unhide Hpl]
    exact unhide Hpush
  · exact ((hbN.alloc (by omega) _).grown hg5 (by simp; omega) (fun q e => (hko.lt q e).1)).setCell (p := ⟨vb, 3, none⟩) hlo _

end Go.Proofs.Ytngjakeofhmohaa

/- What climb relies on, in memory. -/
namespace Go.Proofs.Ytngjakeofhmohaa
set_option linter.unusedSimpArgs false
set_option linter.unusedVariables false
open Go.RowKit Go.Shelf

theorem alt_tot (fs : List (List Int)) (st : List (Nat × Nat)) : tot (alt fs st) = tot fs := by
  have := tot_congr (alt_lens fs st) fs.length
  rw [List.take_of_length_le (by rw [alt_len]; omega), List.take_of_length_le (Nat.le_refl _)] at this
  exact this

theorem alt_join {hs : List Int} {fs : List (List Int)} (hF : Fit hs fs) (st : List (Nat × Nat)) : (joinW hs (alt fs st)).length = tot fs := by
  rw [joinW_len _ _ (by rw [alt_len]; exact hF.len), alt_tot]

theorem alt_head {hs : List Int} {fs : List (List Int)} (hF : Fit hs fs) (st : List (Nat × Nat)) {u : Nat} {x : Int} (hx : hs[u]? = some x) : (joinW hs (alt fs st))[tot (fs.take u)]? = some x := by
  have hu : u < fs.length := by have := (List.getElem?_eq_some_iff.1 hx).1; have := hF.len; omega
  rw [← tot_congr (alt_lens fs st) u, joinW_get _ _ _ (by rw [alt_len]; exact hF.len) (by rw [alt_len]; exact hu), hx]

theorem alt_field {hs : List Int} {fs : List (List Int)} (hF : Fit hs fs) {st : List (Nat × Nat)} {i d : Nat} {g : List Int} {x : Int} (hg : (alt fs st)[i]? = some g) (hx : g[d]? = some x) : (joinW hs (alt fs st))[tot (fs.take i) + 1 + d]? = some x := by
  rw [← tot_congr (alt_lens fs st) i]
  exact joinW_field (by rw [alt_len]; exact hF.len) hg hx

theorem alt_set {hs : List Int} {fs : List (List Int)} (hF : Fit hs fs) {st : List (Nat × Nat)} {i d : Nat} {g : List Int} (hg : (alt fs st)[i]? = some g) (hd : d < g.length) (x : Int) : (joinW hs (alt fs st)).set (tot (fs.take i) + 1 + d) x = joinW hs (setF (alt fs st) i d x) := by
  rw [← tot_congr (alt_lens fs st) i]
  exact (joinW_setF hs (alt fs st) i d x g (by rw [alt_len]; exact hF.len) hg hd).symm

theorem field_lt {fs : List (List Int)} {i d : Nat} {f : List Int} (hf : fs[i]? = some f) (hd : d < f.length) : tot (fs.take i) + 1 + d < tot fs := by
  have hi := (List.getElem?_eq_some_iff.1 hf).1
  have h1 := tot_take_succ hi
  have h2 := tot_take_le fs (i + 1)
  have h3 : fs[i] = f := (List.getElem?_eq_some_iff.1 hf).2
  rw [h3] at h1
  omega

section
variable {W : World} {N vb mb wb cap : Nat} {vr : Value} {hs : List Int} {fs : List (List Int)} {st : List (Nat × Nat)} {rs : List Int} {F : Nat → Option Nat} {O : List Nat} {n : Nat}

theorem VtA.open {vw : Value} (h : VtA W N vb mb vw vr hs fs (alt fs st) rs F O n) (hF : Fit hs fs) (hp : 0 < tot fs) : ∃ wb cap, vw = .slice (some ⟨wb, 0, none⟩) (tot fs) cap ∧ N ≤ wb := by
  obtain ⟨vo, M, h1, h2⟩ := h
  obtain ⟨wb, cap, hv, h3, h4, h5⟩ := h1.words (by rw [alt_join hF]; exact hp)
  rw [alt_join hF] at hv
  exact ⟨wb, cap, hv, h3⟩

theorem vhead_at (h : VtA W N vb mb (.slice (some ⟨wb, 0, none⟩) (tot fs) cap) vr hs fs (alt fs st) rs F O n) (hF : Fit hs fs) (h256 : tot fs ≤ 256) {u : Nat} {f : List Int} (hf : fs[u]? = some f) :
    ∃ (m : Bool) (a : Int), ∀ W', Below W.heap.size W W' → Calls Try.prog 40 #[.pointer (some ⟨vb, 0, none⟩), .int .i64 (tot (fs.take u) : Nat)] W' fun e w' => e = .returned (.agg #[.int .i64 (f.length : Nat), .bool m, .int .i64 a]) ∧ Below W'.heap.size W' w' := by
  have hu := (List.getElem?_eq_some_iff.1 hf).1
  have h3 : fs[u] = f := (List.getElem?_eq_some_iff.1 hf).2
  obtain ⟨x, hx, hx1, hx2, hx3, hx4⟩ := fit_at hF hu
  rw [h3] at hx2
  refine ⟨uhM x, uhA x, fun W' hb => ?_⟩
  obtain ⟨vo, M, h1, h2⟩ := h.below hb
  have hc := vheader_c vb wb (tot fs) cap _ x W' h1.box.c0 (h1.wcell (alt_join hF st).symm (alt_head hF st hx)).1 (place_lt hu) h256 hx3 hx4
  rw [uhL_wlen hx1, hx2] at hc
  exact hc

theorem vfield_at (h : VtA W N vb mb (.slice (some ⟨wb, 0, none⟩) (tot fs) cap) vr hs fs (alt fs st) rs F O n) (h256 : tot fs ≤ 256) {i d : Nat} {f : List Int} (hf : fs[i]? = some f) (hd : d < f.length) (hi : F i = some d) :
    ∀ W', Below W.heap.size W W' → Calls Try.prog 41 #[.pointer (some ⟨vb, 0, none⟩), .int .i64 (tot (fs.take i) : Nat)] W' fun e w' => e = .returned (.pointer (some ⟨wb, tot (fs.take i) + 1 + d, none⟩)) ∧ Below W'.heap.size W' w' := by
  intro W' hb
  obtain ⟨vo, M, h1, h2⟩ := h.below hb
  have hu := (List.getElem?_eq_some_iff.1 hf).1
  exact vfield_c vb wb (tot fs) cap _ d mb W' h1.box.c0 h1.box.c2 (fun k => h2.look (h1.below (below_drewN (Below.refl _ _) k)).map hu h256 hi) (field_lt hf hd) h256

theorem vlook_at (h : VtA W N vb mb (.slice (some ⟨wb, 0, none⟩) (tot fs) cap) vr hs fs (alt fs st) rs F O n) (h256 : tot fs ≤ 256) {i d : Nat} (hu : i < fs.length) (hi : F i = some d) :
    ∀ W', Below W.heap.size W W' → W'.cell? ⟨vb, 2, none⟩ = some (.map (some mb)) ∧ vb < W'.heap.size ∧ (Instr.lookup 57 (.map (some mb)) (.int .i64 (tot (fs.take i) : Nat)) false).run Try.prog W' = .ok (.int .i64 (d : Nat)) W' := by
  intro W' hb
  obtain ⟨vo, M, h1, h2⟩ := h.below hb
  exact ⟨h1.box.c2, h1.box.lt, h2.look h1.map hu h256 hi⟩

theorem vcell_at (h : VtA W N vb mb (.slice (some ⟨wb, 0, none⟩) (tot fs) cap) vr hs fs (alt fs st) rs F O n) (hF : Fit hs fs) {i d : Nat} {g : List Int} {x : Int} (hg : (alt fs st)[i]? = some g) (hx : g[d]? = some x) :
    ∀ W', Below W.heap.size W W' → W'.cell? ⟨wb, tot (fs.take i) + 1 + d, none⟩ = some (.int .u64 x) ∧ W'.frozen? ⟨wb, tot (fs.take i) + 1 + d, none⟩ = false := by
  intro W' hb
  obtain ⟨vo, M, h1, h2⟩ := h.below hb
  exact h1.wcell (alt_join hF st).symm (alt_field hF hg hx)

/-- Behind a store into a field. -/
theorem VtA.setF (h : VtA W N vb mb (.slice (some ⟨wb, 0, none⟩) (tot fs) cap) vr hs fs (alt fs st) rs F O n) (hF : Fit hs fs) {i d : Nat} {g : List Int} (hg : (alt fs st)[i]? = some g) (hd : d < g.length) (x : Int) :
    VtA (W.setCell ⟨wb, tot (fs.take i) + 1 + d, none⟩ (.int .u64 x)) N vb mb (.slice (some ⟨wb, 0, none⟩) (tot fs) cap) vr hs fs (Ytngjakeofhmohaa.setF (alt fs st) i d x) rs F O n := by
  obtain ⟨vo, M, h1, h2⟩ := h
  refine ⟨vo, M, ?_, h2⟩
  have h3 := h1.setW (alt_join hF st).symm (tot (fs.take i) + 1 + d) x
  rw [alt_set hF hg hd] at h3
  exact h3

/-- Behind a step in an object. -/
theorem VtA.step {vw : Value} {gs : List (List Int)} (h : VtA W N vb mb vw vr hs fs gs rs F O n) {i : Nat} (hi : i < fs.length) (c : Nat) : ∃ M : DataW Unit, W.ownsMap Try.prog 3 (plainElem Try.prog 3) mb n M ∧ ∀ W', W'.ownsMap Try.prog 3 (plainElem Try.prog 3) mb (n + 1) (M.put (.int .i64 (tot (fs.take i) : Nat)) (.lit (.int .i64 (c : Nat)))) → W.grownBy W' (some mb) →
    VtA W' N vb mb vw vr hs fs gs rs (updF F i c) O (n + 1) ∧ Below N W W' := by
  obtain ⟨vo, M, h1, h2⟩ := h
  refine ⟨M, h1.map, fun W' hm hg => ⟨⟨vo, _, h1.setM hg hm, h2.put h1.map.isMap hi c⟩, ?_⟩⟩
  have := h1.lo
  have := h1.box.lt
  have := h1.lm
  exact (Below.refl N W).grown hg (by omega) (fun k e => by injection e with e; omega)

end

end Go.Proofs.Ytngjakeofhmohaa

/- Walks: climb. -/
namespace Go.Proofs.Ytngjakeofhmohaa
set_option linter.unusedSimpArgs false
set_option linter.unusedVariables false
open Go.RowKit Go.Shelf

theorem field68_0 (l a : Int) (m : Bool) (w : World) : Sem.run Try.prog (Instr.field 68 (.agg #[.int .i64 l, .bool m, .int .i64 a]) 0) w = Result.ok (.int .i64 l) w := by
  simp [Instr.field, asAgg, go_sem, Try.underlying68]
attribute [local go_sem] field68_0

/-- What holds of a visitor between two climbs. -/
structure VS (fs : List (List Int)) (F : Nat → Option Nat) (O : List Nat) (n : Nat) : Prop where
  mem : ∀ j, j ∈ O ↔ (F j).isSome = true
  ol : ∀ j ∈ O, j < fs.length
  bn : n + mesF fs F ≤ tot fs
  bo : O.length + mesF fs F ≤ tot fs

/-- What climb leaves. -/
def VcRes (N vb mb : Nat) (vw vr : Value) (hs : List Int) (fs : List (List Int)) (rs : List Int) (R0 : List Nat) (W : World) : Prop :=
  ∃ F n, VtA W N vb mb vw vr hs fs fs rs F R0 n ∧ VS fs F R0 n

/-- What holds while one climbs. -/
def ClR (N vb mb : Nat) (vw vr : Value) (hs : List Int) (fs : List (List Int)) (rs : List Int) (R0 : List Nat) (w : World) (g : Nat) (s1 s4 : Value) (wr : World) : Prop :=
  ∃ st u c F O n, s1 = .int .i64 (tot (fs.take u) : Nat) ∧ s4 = .int .u64 (bk fs st) ∧ Hid (CI fs (readG fs rs).objs R0 st u c F O) ∧ Hid (VtA wr N vb mb vw vr hs fs (alt fs st) rs F O n) ∧ Hid (mesF fs F = g) ∧ n + g ≤ tot fs ∧ O.length + g ≤ tot fs ∧ Below N w wr

set_option maxRecDepth 100000 in
set_option maxHeartbeats 4000000 in
theorem vclimb_c (hs : List Int) (fs : List (List Int)) (rs : List Int) (F : Nat → Option Nat) (O : List Nat) (n N vb mb u : Nat) (vw vr : Value) (w : World)
    (hM : VtA w N vb mb vw vr hs fs fs rs F O n) (hA : Arn hs fs rs) (hu : u < fs.length) (hFu : F u = none) (hS : VS fs F O n) :
    Calls Try.prog 24 #[.pointer (some ⟨vb, 0, none⟩), .int .i64 (tot (fs.take u) : Nat)] w fun e w' => (e = .returned (.tuple #[]) ∧ VcRes N vb mb vw vr hs fs rs (dF (readG fs rs).objs ((readG fs rs).objs.getD u []) (O ++ [u])) w') ∧ Below N w w' := by
  have h256 := hA.n256
  have hbn := hS.bn
  have hbo := hS.bo
  have hm1 := mesF_enter hu hFu
  have Hent := hide (enter_c hs fs fs rs F O n N vb mb u vw vr w hM h256 hu (by omega) (by omega))
  have HC0 := hide (CI.start (A := (readG fs rs).objs) hu hFu hS.mem hS.ol)
  have HA := hide hA
  have HF := hide hA.fit
  have hNw : N ≤ w.heap.size := by obtain ⟨vo, M, h1, _⟩ := hM; have := h1.lo; have := h1.box.lt; omega
  obtain ⟨wb, cap, hvw, hwN⟩ := VtA.open (st := []) hM hA.fit (by have := place_lt hu; omega)
  subst hvw
  clear hM hS hA
  generalize hR0 : dF (readG fs rs).objs ((readG fs rs).objs.getD u []) (O ++ [u]) = R0 at *
  clear hR0
  go_enter Try.func24, Try.ntmps24
  go_wp2_with fail
  go_step3
  go_wp2_with fail
  refine (unhide Hent).mono ?_
  rintro e w1 ⟨⟨he, hV1⟩, hb1⟩
  subst he
  have HV1 := hide hV1
  clear hV1 Hent
  go_wp2
  go_step3
  go_wp2
  go_loopg [1, 4] (mesF fs (updF F u 0)) (fun g s1 s4 wr => ClR N vb mb (.slice (some ⟨wb, 0, none⟩) (tot fs) cap) vr hs fs rs R0 w g s1 s4 wr)
  case atStart => exact ⟨[], u, 0, _, _, n + 1, rfl, rfl, HC0, HV1, hide rfl, by omega, by simp; omega, hb1⟩
  case round =>
    clear HV1 HC0 hb1 hm1 hFu hbn hbo hu
    obtain ⟨G, hG⟩ : ∃ G, G = gk := ⟨_, rfl⟩
    subst hG
    have HR := hide hrel
    clear hrel
    go_wp2
    go_loopg [1, 4] G (fun g s1 s4 wr => g ≤ G ∧ ClR N vb mb (.slice (some ⟨wb, 0, none⟩) (tot fs) cap) vr hs fs rs R0 w g s1 s4 wr)
    case atStart => exact ⟨Nat.le_refl _, unhide HR⟩
    case round =>
      clear HR
      obtain ⟨hgG, st, u, c, F, O, n, rfl, rfl, HC, HV, Hm, hbn, hbo, hb⟩ := hrel
      have hul := (unhide HC).lt
      have hle := (unhide HC).le
      have hf : fs[u]? = some fs[u] := List.getElem?_eq_getElem hul
      rw [getD_of hf] at hle
      have HU := hide (List.nodup_cons.1 (unhide HC).nd).1
      have hNr : N ≤ wr.heap.size := by obtain ⟨vo, M, h1, _⟩ := unhide HV; have := h1.lo; have := h1.box.lt; omega
      obtain ⟨hm, ha, hhd⟩ := vhead_at (unhide HV) (unhide HF) h256 hf
      have hlook := vlook_at (unhide HV) h256 hul (unhide HC).cur
      obtain ⟨q2, hlm, hlk⟩ := hlook wr (Below.refl _ _)
      have hlkd := (hlook wr.drew (Below.refl _ _).drew).2.2
      have Hhd := hide hhd
      have Hlook := hide hlook
      have Hf := hide hf
      clear hhd hlook hf
      generalize fs[u] = f at *
      generalize hpe : tot (fs.take u) = p at *
      have Hpe := hide hpe
      clear hpe
      go_upto_region 2 with fail
      go_cut [24] from 14 to 24 (fun s wx => s = .bool (decide (c < f.length)) ∧ Below wr.heap.size wr wx)
      case first =>
        go_region_with (go_at_call 40; go_must (refine (unhide Hhd _ (Below.refl _ _).drew).mono ?_); go_must (rintro e w3 ⟨he, hb3⟩; subst he; have hk3 := unhide Hlook w3 ((Below.refl _ _).drew.trans hb3); have k2 := hk3.1; have k3 := hk3.2.1; have k4 := hk3.2.2; clear hk3))
        all_goals
          go_wp2_with fail
          go_meet
          case rel => exact ⟨rfl, (Below.refl _ _).drew.trans hb3⟩
      case rest =>
        obtain ⟨rfl, hbc⟩ := hcut
        clear q2 hlm hlk hlkd Hhd Hlook
        have hsc := hbc.size
        have HVc := hide ((unhide HV).below hbc)
        have hbwc : Below N w wc := hb.trans (hbc.mono hNr)
        have hNc : N ≤ wc.heap.size := by omega
        clear HV hb hbc
        by_cases hc : c < f.length
        · have hd : decide (c < f.length) = true := by simpa using hc
          rw [hd]
          have Hx := hide (List.getElem?_eq_getElem hc)
          have Hfd := hide (vfield_at (unhide HVc) h256 (unhide Hf) hc (unhide HC).cur wc (Below.refl _ _))
          rw [unhide Hpe] at Hfd
          have Hcell := hide (vcell_at (unhide HVc) (unhide HF) ((alt_get (unhide HU)).trans (unhide Hf)) (unhide Hx))
          rw [unhide Hpe] at Hcell
          have hmem : f ∈ fs := List.mem_of_getElem? (unhide Hf)
          have hux := (unhide HA).uf f hmem _ (List.getElem_mem hc)
          have Hokx := hide ((unhide HA).okf f hmem _ (List.getElem_mem hc))
          have Hvx : Hid (((readG fs rs).objs.getD u [])[c]? = some (valW (stF 0 fs) f[c])) := by
            show _ = _
            rw [objs_getD (unhide Hf), List.getElem?_map, unhide Hx]; rfl
          clear hmem hd
          generalize f[c] = x at *
          go_wp2_with fail
          refine (unhide Hfd).mono ?_
          rintro e w4 ⟨he, hb4⟩
          subst he
          have hs4 := hb4.size
          have hc4 := (unhide Hcell w4 hb4).1
          have hl4 : wb < w4.heap.size := World.block_lt_of_cell? w4 _ hc4
          have HV4 := hide ((unhide HVc).below hb4)
          have Hus := hide (unseen_c x hs fs _ rs F O n N vb mb _ vr w4 (unhide HV4) h256 hux.1 hux.2 (unhide Hokx))
          have hbw4 : Below N w w4 := hbwc.trans (hb4.mono hNc)
          clear Hfd HVc hb4
          go_wp2_with fail
          refine (unhide Hus).mono ?_
          rintro e w5 ⟨hres, hb5⟩
          have hs5 := hb5.size
          have HV5 := hide ((unhide HV4).below hb5)
          have hbw5 : Below N w w5 := hbw4.trans (hb5.mono (by omega))
          clear Hus HV4 hc4
          rcases hres with ⟨j, hjl, hjF, hjr, hjn, he⟩ | ⟨hold, d, he⟩
          · subst he
            have hjp := place_lt hjl
            have hstj := stF_get fs 0 j hjl
            rw [Nat.zero_add, ← hjn] at hstj
            have hx2 : x = 2 * ((tot (fs.take j) : Nat) : Int) := ref_word hux.1 hux.2 (ok_ref (unhide Hokx)).1 hjr hjn
            have hvv : valW (stF 0 fs) x = (true, (j : Int)) := by rw [valW_ref hjr, placeOf_nodup (stF_nodup fs 0) hstj]
            have HC2 := hide ((unhide HC).enter (unhide Hf) (unhide Hvx) (by rw [hvv]) (by rw [hvv]) (by rw [unhide Hx, hx2]) hjl hjF)
            have hme := mesF_enter hjl hjF
            rw [unhide Hm] at hme
            have HV5' := HV5
            have Hcell5 := hide (vcell_at (unhide HV5) (unhide HF) ((alt_get (unhide HU)).trans (unhide Hf)) (unhide Hx))
            rw [unhide Hpe] at Hcell5
            have Hset : Hid (∀ W', Below w5.heap.size w5 W' → VtA (W'.setCell ⟨wb, p + 1 + c, none⟩ (.int .u64 (bk fs st))) N vb mb (.slice (some ⟨wb, 0, none⟩) (tot fs) cap) vr hs fs (alt fs ((u, c) :: st)) rs F O n) := fun W' hb' => by
              have h := ((unhide HV5).below hb').setF (unhide HF) ((alt_get (unhide HU)).trans (unhide Hf)) hc (bk fs st)
              rw [unhide Hpe] at h
              exact h
            have hpl : p < 256 := by have := place_lt hul; rw [unhide Hpe] at this; omega
            have Hrf := hide (vrefer_c p w5 hpl)
            have Hbk : Hid (bk fs ((u, c) :: st) = 2 * (p : Int)) := by show 2 * ((tot (fs.take u) : Nat) : Int) = _; rw [unhide Hpe]
            have Hent : Hid (∀ W', VtA W' N vb mb (.slice (some ⟨wb, 0, none⟩) (tot fs) cap) vr hs fs (alt fs ((u, c) :: st)) rs F O n → Calls Try.prog 39 #[.pointer (some ⟨vb, 0, none⟩), .int .i64 (tot (fs.take j) : Nat)] W' fun e w' => (e = .returned (.tuple #[]) ∧ VtA w' N vb mb (.slice (some ⟨wb, 0, none⟩) (tot fs) cap) vr hs fs (alt fs ((u, c) :: st)) rs (updF F j 0) (O ++ [j]) (n + 1)) ∧ Below N W' w') := fun W' h => enter_c hs fs _ rs F O n N vb mb j _ vr W' h h256 hjl (by omega) (by omega)
            have Hme := hide hme
            clear hme hx2 hvv hstj hjn hjr hjF Hvx Hokx HV5 HV5' Hcell HC Hm
            generalize hpj : tot (fs.take j) = pj at *
            have Hpj := hide hpj
            clear hpj
            go_wp2_with fail
            refine (unhide Hrf).mono ?_
            rintro e w6 ⟨he, hb6⟩
            subst he
            have hs6 := hb6.size
            obtain ⟨hc6, hf6⟩ := unhide Hcell5 w6 hb6
            have hl6 : wb < w6.heap.size := World.block_lt_of_cell? w6 _ hc6
            have HV6 := hide (unhide Hset w6 hb6)
            have hbw6 : Below N w (w6.setCell ⟨wb, p + 1 + c, none⟩ (.int .u64 (bk fs st))) := (hbw5.trans (hb6.mono (by omega))).setCell (p := ⟨wb, p + 1 + c, none⟩) hwN _
            clear Hrf Hset hb6 Hcell5
            go_wp2_with fail
            refine (unhide Hent _ (unhide HV6)).mono ?_
            rintro e w7 ⟨⟨he, hV7⟩, hb7⟩
            subst he
            have HV7 := hide hV7
            clear hV7 Hent HV6
            go_wp2
            go_roundg (mesF fs (updF F j 0))
            case measure => have := unhide Hme; omega
            case rel => exact ⟨(u, c) :: st, j, 0, _, _, n + 1, by rw [unhide Hpj], by rw [unhide Hbk], HC2, HV7, hide rfl, by have := unhide Hme; omega, by have := unhide Hme; simp; omega, hbw6.trans hb7⟩
          · subst he
            have hnw : nw O (valW (stF 0 fs) x) = false := nw_not.2 fun h1 => by
              have hr : unRef x = true := h1
              obtain ⟨j, hj⟩ := (ok_ref (unhide Hokx)).2 hr
              have hjl : j < fs.length := by have := (List.getElem?_eq_some_iff.1 hj).1; rw [stF_len] at this; exact this
              have hj' := stF_get fs 0 j hjl
              rw [Nat.zero_add] at hj'
              have hn : unNum x = ((tot (fs.take j) : Nat) : Int) := by
                have := hj.symm.trans hj'
                injection this
              rw [valW_ref hr, placeOf_nodup (stF_nodup fs 0) hj]
              exact ((unhide HC).mem j).2 (hold j hjl hr hn)
            have hcl : c < (fs.getD u []).length := by rw [getD_of (unhide Hf)]; exact hc
            have HC2 := hide ((unhide HC).skip (unhide Hvx) hnw hcl)
            have hme := mesF_step hul (unhide HC).cur hcl
            rw [unhide Hm] at hme
            obtain ⟨q2, hlm, hlk⟩ := vlook_at (unhide HV5) h256 hul (unhide HC).cur w5 (Below.refl _ _)
            obtain ⟨M, hmp, hstep⟩ := (unhide HV5).step hul (c + 1)
            have ec : (((c + 1 : Nat) : Nat) : Int) = (c : Int) + 1 := by omega
            have hf4 := (unhide HA).f4 f (List.mem_of_getElem? (unhide Hf))
            rw [ec, unhide Hpe] at hstep
            rw [unhide Hpe] at hlk
            have hpl : p < 256 := by have := place_lt hul; rw [unhide Hpe] at this; omega
            have Hkey := hide (Maps.keyOf_int_mk Try.underlying3 (wf_i64 (x := (p : Int)) (by omega) (by omega)))
            have Hval := hide (show plainElem (H := Unit) Try.prog 3 (.int .i64 ((c : Int) + 1)) = some (.lit (.int .i64 ((c : Int) + 1)), []) from plainElem_int Try.underlying3 (wf_i64 (by omega) (by omega)))
            have hw1 : IntKind.i64.wrap ((c : Int) + 1) = (c : Int) + 1 := by rw [IntKind.wrap_i64]; omega
            have Hstep := hide hstep
            have Hme := hide hme
            have hn1 : n < 256 := by omega
            clear hstep ec hnw hold Hvx Hokx Hcell HC Hm hme HV5
            go_wp2_with (at_mapUpdate; go_must (refine wpList_mapUpdate_own _ rfl _ _ _ 57 rfl 3 3 (Maps.int_keyed Try.underlying3) Try.underlying57 _ mb n M rfl hmp (by simp only [maxLen]; omega) _ _ _ rfl rfl (unhide Hkey) _ [] (unhide Hval) ?_); go_must (intro w6 hmap6 hg6; have Hst6 := hide (unhide Hstep w6 hmap6 hg6); clear hmap6 hg6))
            go_roundg (mesF fs (updF F u (c + 1)))
            case measure => have := unhide Hme; omega
            case rel => exact ⟨by have := unhide Hme; omega, st, u, c + 1, _, _, n + 1, by rw [unhide Hpe], rfl, HC2, hide (unhide Hst6).1, hide rfl, by have := unhide Hme; omega, by have := unhide Hme; omega, hbw5.trans (unhide Hst6).2⟩
        · have hd : decide (c < f.length) = false := by simpa using hc
          rw [hd]
          have hAl : ((readG fs rs).objs.getD u []).length ≤ c := by rw [objs_getD (unhide Hf), List.length_map]; omega
          cases st with
          | nil =>
            have hR := (unhide HC).done hAl
            subst hR
            have Hfin : Hid (∀ W', Below wc.heap.size wc W' → VcRes N vb mb (.slice (some ⟨wb, 0, none⟩) (tot fs) cap) vr hs fs rs O W' ∧ Below N w W') := fun W' hb' => ⟨⟨F, n, (unhide HVc).below hb', (unhide HC).mem, (unhide HC).ol, by rw [unhide Hm]; exact hbn, by rw [unhide Hm]; exact hbo⟩, hbwc.trans (hb'.mono hNc)⟩
            have Hpc := hide (vplace_c 1 wc (by omega) (by omega))
            rw [show unNum 1 = 0 from by decide, show unRef 1 = false from by decide] at Hpc
            have hbk1 : bk fs [] = 1 := rfl
            rw [hbk1]
            clear hbk1 hAl HC HVc
            go_wp2_with fail
            refine (unhide Hpc).mono ?_
            rintro e w4 ⟨he, hb4⟩
            subst he
            have HW4 := hide (unhide Hfin w4 hb4)
            clear Hpc Hfin hb4
            go_wp2
            rw [Exit.noGoto_ret]
            exact bodyPost_ret (v := .tuple #[]) (results_none rfl _ _ _) rfl ⟨⟨rfl, (unhide HW4).1⟩, (unhide HW4).2⟩
          | cons id s =>
            obtain ⟨i, d⟩ := id
            obtain ⟨hC2, hFi, hil, hdl, his, f', hf', hx'⟩ := (unhide HC).pop hAl (fun k => by
              by_cases hk : k < fs.length
              · have := List.getElem?_eq_getElem hk
                rw [objs_getD this, getD_of this, List.length_map]
              · rw [getD_out (by rw [readG_len]; exact hk), List.getD_eq_getElem?_getD, List.getElem?_eq_none (by omega)]; rfl)
            have hme := mesF_step hil hFi hdl
            rw [unhide Hm] at hme
            have hdl' : d < f'.length := (List.getElem?_eq_some_iff.1 hx').1
            have htop := alt_top (c := d) his hf'
            have htc : (f'.set d (bk fs s))[d]? = some (bk fs s) := by rw [List.getElem?_set, if_pos rfl, if_pos hdl']
            have Hfd := hide (vfield_at (unhide HVc) h256 hf' hdl' hFi)
            have Hcell := hide (vcell_at (unhide HVc) (unhide HF) htop htc)
            have Hlook := hide (vlook_at (unhide HVc) h256 hil hFi)
            have Hset : Hid (∀ W', Below wc.heap.size wc W' → VtA (W'.setCell ⟨wb, tot (fs.take i) + 1 + d, none⟩ (.int .u64 (2 * (p : Int)))) N vb mb (.slice (some ⟨wb, 0, none⟩) (tot fs) cap) vr hs fs (alt fs s) rs F O n) := fun W' hb' => by
              have h := ((unhide HVc).below hb').setF (unhide HF) htop (by rw [List.length_set]; exact hdl') (2 * (p : Int))
              rw [alt_pop his hf' (by rw [hx', unhide Hpe])] at h
              exact h
            have Hstep : Hid (∀ W', VtA W' N vb mb (.slice (some ⟨wb, 0, none⟩) (tot fs) cap) vr hs fs (alt fs s) rs F O n → ∃ M : DataW Unit, W'.ownsMap Try.prog 3 (plainElem Try.prog 3) mb n M ∧ W'.cell? ⟨vb, 2, none⟩ = some (.map (some mb)) ∧ vb < W'.heap.size ∧ (Instr.lookup 57 (.map (some mb)) (.int .i64 (tot (fs.take i) : Nat)) false).run Try.prog W' = .ok (.int .i64 (d : Nat)) W' ∧
                Hid (∀ W'', W''.ownsMap Try.prog 3 (plainElem Try.prog 3) mb (n + 1) (M.put (.int .i64 (tot (fs.take i) : Nat)) (.lit (.int .i64 ((d : Int) + 1)))) → W'.grownBy W'' (some mb) → VtA W'' N vb mb (.slice (some ⟨wb, 0, none⟩) (tot fs) cap) vr hs fs (alt fs s) rs (updF F i (d + 1)) O (n + 1) ∧ Below N W' W'')) := fun W' h => by
              obtain ⟨M, hm1, hm2⟩ := h.step hil (d + 1)
              obtain ⟨h1, h2, h3⟩ := vlook_at h h256 hil hFi W' (Below.refl _ _)
              exact ⟨M, hm1, h1, h2, h3, hide (fun W'' h4 h5 => hm2 W'' h4 h5)⟩
            have hpl : p < 256 := by have := place_lt hul; rw [unhide Hpe] at this; omega
            have hqi := place_lt hil
            have hd4 : d < 4 := by have := (unhide HA).f4 f' (List.mem_of_getElem? hf'); omega
            have Hpc := hide (vplace_c (2 * ((tot (fs.take i) : Nat) : Int)) wc (by omega) (by omega))
            have hpk := packE_eq true ((tot (fs.take i) : Nat) : Int) (packE_ref (by omega) (by omega))
            have hpw : packW true ((tot (fs.take i) : Nat) : Int) = 2 * ((tot (fs.take i) : Nat) : Int) := by
              simp only [packW, if_true]
              rw [if_neg (by omega)]
            rw [hpw] at hpk
            rw [hpk.2.2.1, hpk.2.2.2.1] at Hpc
            have hbk1 : bk fs ((i, d) :: s) = 2 * ((tot (fs.take i) : Nat) : Int) := rfl
            rw [hbk1]
            have HC2 := hide hC2
            have Hme := hide hme
            clear hbk1 hAl HC HVc hpk hpw hC2 hme Hm hf' hx' htop htc hFi his hdl hdl'
            generalize hqe : tot (fs.take i) = q at *
            have Hqe := hide hqe
            clear hqe
            have hn1 : n < 256 := by have := unhide Hme; omega
            have Hkey := hide (Maps.keyOf_int_mk Try.underlying3 (wf_i64 (x := (q : Int)) (by omega) (by omega)))
            have Hval := hide (show plainElem (H := Unit) Try.prog 3 (.int .i64 ((d : Int) + 1)) = some (.lit (.int .i64 ((d : Int) + 1)), []) from plainElem_int Try.underlying3 (wf_i64 (by omega) (by omega)))
            have hw1 : IntKind.i64.wrap ((d : Int) + 1) = (d : Int) + 1 := by rw [IntKind.wrap_i64]; omega
            go_wp2_with fail
            refine (unhide Hpc).mono ?_
            rintro e w4 ⟨he, hb4⟩
            subst he
            have Hfd4 := hide (unhide Hfd w4 hb4)
            clear Hpc Hfd
            go_wp2_with fail
            refine (unhide Hfd4).mono ?_
            rintro e w5 ⟨he, hb5⟩
            subst he
            have hs4 := hb4.size
            have hs5 := hb5.size
            have hbc5 : Below wc.heap.size wc w5 := hb4.trans (hb5.mono hs4)
            have hc5 := (unhide Hcell w5 hbc5).1
            have hl5 : wb < w5.heap.size := World.block_lt_of_cell? w5 _ hc5
            have Hrf := hide (vrefer_c p w5.drew hpl)
            have Hrf0 := hide (vrefer_c p w5 hpl)
            clear Hfd4 hb4 hb5 Hlook
            generalize hy : bk fs s = y at *
            have Hy := hide hy
            clear hy
            go_upto_region 12 with fail
            go_cut [4] from 63 to 69 (fun s4 wx => s4 = .int .u64 y ∧ Hid (VtA wx N vb mb (.slice (some ⟨wb, 0, none⟩) (tot fs) cap) vr hs fs (alt fs s) rs F O n) ∧ Below N w wx)
            case first =>
              go_region_with (go_at_call 42; go_must (first | refine (unhide Hrf).mono ?_ | refine (unhide Hrf0).mono ?_); go_must (rintro e w6 ⟨he, hb6⟩; subst he; have hbc6 : Below wc.heap.size wc w6 := hbc5.drew.trans (hb6.mono (by show wc.heap.size ≤ w5.heap.size; omega)); have hc6 := unhide Hcell w6 hbc6; have k1 := hc6.1; have k2 := hc6.2; have k3 : wb < w6.heap.size := World.block_lt_of_cell? w6 _ k1; have HV6 := hide (unhide Hset w6 hbc6); clear hc6))
              all_goals
                go_wp2_with fail
                go_meet
                case rel => exact ⟨rfl, HV6, (hbwc.trans (hbc6.mono hNc)).setCell (p := ⟨wb, q + 1 + d, none⟩) hwN _⟩
            case rest =>
              obtain ⟨rfl, HV7, hbw7⟩ := hcut
              obtain ⟨M, hmp, q2, hlm, hlk, Hst⟩ := unhide Hstep wc (unhide HV7)
              clear Hstep Hset Hcell Hrf Hrf0 hc5 hl5 hbc5 HV7
              go_wp2_with (at_mapUpdate; go_must (refine wpList_mapUpdate_own _ rfl _ _ _ 57 rfl 3 3 (Maps.int_keyed Try.underlying3) Try.underlying57 _ mb n M rfl hmp (by simp only [maxLen]; omega) _ _ _ rfl rfl (unhide Hkey) _ [] (unhide Hval) ?_); go_must (intro w8 hmap8 hg8; have Hst8 := hide (unhide Hst w8 hmap8 hg8); clear hmap8 hg8))
              go_roundg (mesF fs (updF F i (d + 1)))
              case measure => have := unhide Hme; omega
              case rel => exact ⟨s, i, d + 1, _, _, n + 1, by rw [unhide Hqe], by rw [unhide Hy], HC2, hide (unhide Hst8).1, hide rfl, by have := unhide Hme; omega, by have := unhide Hme; omega, hbw7.trans (unhide Hst8).2⟩

end Go.Proofs.Ytngjakeofhmohaa

/- Walks: each. -/
namespace Go.Proofs.Ytngjakeofhmohaa
set_option linter.unusedSimpArgs false
set_option linter.unusedVariables false
open Go.RowKit Go.Shelf
attribute [local go_sem] field51_0 field51_1

/-- Headers in boxes are as they were. -/
def Keep51 (W W' : World) : Prop := ∀ (k : Nat) (cs : Array Value), W.heap[k]? = some (.cells cs 68) → W'.heap[k]? = some (.cells cs 68)

theorem KeepT.k51 {W W' : World} (h : KeepT W W') : Keep51 W W' := fun k cs hk => h k cs 68 hk (by decide) (by decide) (by decide)

/-- What each may rely on at an object. -/
def EachAt (fid : Nat) (c0 : Value) (a : Option Addr) (fs : List (List Int)) (I : Nat → World → Prop) (k : Nat) (l : Nat) (W : World) : Prop :=
  ∃ wb off x, a = some ⟨wb, off, none⟩ ∧ W.cell? ⟨wb, off + tot (fs.take k), none⟩ = some (.int .u64 x) ∧ 0 ≤ x ∧ x < 18446744073709551616 ∧ unheadOk x = true ∧ wlen x = l ∧
    ∀ W', Below W.heap.size W W' → Calls Try.prog fid #[.int .i64 (tot (fs.take k) : Nat), .agg #[.int .i64 l, .bool (uhM x), .int .i64 (uhA x)], c0] W' fun e W'' => e = .returned (.tuple #[]) ∧ I (k + 1) W'' ∧ Keep51 W' W'' ∧ W'.heap.size ≤ W''.heap.size

set_option maxRecDepth 100000 in
set_option maxHeartbeats 2000000 in
theorem each39_c (c0 : Value) (a : Option Addr) (cap : Nat) (fs : List (List Int)) (I : Nat → World → Prop) (w : World) (h256 : tot fs ≤ 256) (hI : I 0 w)
    (hat : ∀ (k : Nat) (hk : k < fs.length) W, I k W → EachAt 48 c0 a fs I k fs[k].length W) :
    Calls Try.prog 47 #[.slice a (tot fs : Nat) cap, .func (.func 48) #[] #[c0]] w fun e w' => e = .returned (.tuple #[]) ∧ I fs.length w' := by
  have HI := hide hI
  have Hat := hide hat
  clear hI hat
  go_enter Try.func47, Try.ntmps47
  go_wp2
  go_loopw [4] (fun i wr => ∃ k : Nat, k ≤ fs.length ∧ i = .int .i64 (tot (fs.take k) : Nat) ∧ Hid (I k wr)) (fun i _ => tot fs - (intOf i).toNat)
  case atStart => exact ⟨0, Nat.zero_le _, rfl, HI⟩
  case round =>
    clear HI
    obtain ⟨k, hk, rfl, HI⟩ := hrel
    by_cases hlt : k < fs.length
    · obtain ⟨wb, off, x, rfl, hx, hx1, hx2, hx3, hx4, hcall⟩ := unhide Hat k hlt wr (unhide HI)
      have hpl := place_lt hlt
      have hts := tot_take_succ hlt
      have htl := tot_take_le fs (k + 1)
      have HL := hide (uhL_wlen hx3)
      rw [hx4] at HL
      have HE := hide (uhE_ok hx3)
      have Hcall := hide hcall
      have HN : Hid (tot (fs.take (k + 1)) = tot (fs.take k) + 1 + fs[k].length) := by show _ = _; omega
      have hwl : wb < wr.heap.size := World.block_lt_of_cell? wr _ hx
      have hle : tot (fs.take k) + 1 + fs[k].length ≤ 256 := by omega
      clear hcall hx3 hx4 hts htl HI
      generalize fs[k].length = l at *
      generalize tot (fs.take k) = q at *
      generalize tot fs = n at *
      have hqI : (q : Int) < (n : Int) := by omega
      go_wp2_with fail
      refine (unhead_c x _ hx1 hx2).mono ?_
      rintro e w2 ⟨he, hb2⟩
      rw [unhide HL, unhide HE] at he
      subst he
      have hs2 := hb2.size
      have Hc2 := hide (unhide Hcall (w2.alloc (.cells #[.int .i64 (l : Nat), .bool (uhM x), .int .i64 (uhA x)] 68)) (hb2.alloc hs2 _))
      clear Hcall
      go_wp2_with fail
      refine (unhide Hc2).mono ?_
      rintro e w3 ⟨he, hI3, hk3, hs3⟩
      subst he
      have h51 := hk3 w2.heap.size #[.int .i64 (l : Nat), .bool (uhM x), .int .i64 (uhA x)] (heap_alloc_new _ _)
      have g0 : w3.cell? ⟨w2.heap.size, 0, none⟩ = some (.int .i64 (l : Nat)) := by rw [cell_of_row w3 w2.heap.size 0 _ 68 (0, 0) h51]; rfl
      have hl3 : w2.heap.size < w3.heap.size := by simp only [World.size_alloc] at hs3; omega
      have HI3 := hide hI3
      clear h51 hk3 hI3 Hc2
      go_wp2
      go_roundw
      case rel => exact ⟨k + 1, by omega, by rw [unhide HN]; go_num, HI3⟩
      case measure => simp [intOf]; omega
    · obtain rfl : k = fs.length := by omega
      have e0 : tot (fs.take fs.length) = tot fs := by rw [List.take_length]
      rw [e0]
      generalize tot fs = n at *
      go_wp2
      exact bodyPost_end (v := .tuple #[]) (results_none rfl _ _ _) rfl ⟨rfl, unhide HI⟩

set_option maxRecDepth 100000 in
set_option maxHeartbeats 2000000 in
theorem each56_c (c0 : Value) (a : Option Addr) (cap : Nat) (fs : List (List Int)) (I : Nat → World → Prop) (w : World) (h256 : tot fs ≤ 256) (hI : I 0 w)
    (hat : ∀ (k : Nat) (hk : k < fs.length) W, I k W → EachAt 63 c0 a fs I k fs[k].length W) :
    Calls Try.prog 47 #[.slice a (tot fs : Nat) cap, .func (.func 63) #[] #[c0]] w fun e w' => e = .returned (.tuple #[]) ∧ I fs.length w' := by
  have HI := hide hI
  have Hat := hide hat
  clear hI hat
  go_enter Try.func47, Try.ntmps47
  go_wp2
  go_loopw [4] (fun i wr => ∃ k : Nat, k ≤ fs.length ∧ i = .int .i64 (tot (fs.take k) : Nat) ∧ Hid (I k wr)) (fun i _ => tot fs - (intOf i).toNat)
  case atStart => exact ⟨0, Nat.zero_le _, rfl, HI⟩
  case round =>
    clear HI
    obtain ⟨k, hk, rfl, HI⟩ := hrel
    by_cases hlt : k < fs.length
    · obtain ⟨wb, off, x, rfl, hx, hx1, hx2, hx3, hx4, hcall⟩ := unhide Hat k hlt wr (unhide HI)
      have hpl := place_lt hlt
      have hts := tot_take_succ hlt
      have htl := tot_take_le fs (k + 1)
      have HL := hide (uhL_wlen hx3)
      rw [hx4] at HL
      have HE := hide (uhE_ok hx3)
      have Hcall := hide hcall
      have HN : Hid (tot (fs.take (k + 1)) = tot (fs.take k) + 1 + fs[k].length) := by show _ = _; omega
      have hwl : wb < wr.heap.size := World.block_lt_of_cell? wr _ hx
      have hle : tot (fs.take k) + 1 + fs[k].length ≤ 256 := by omega
      clear hcall hx3 hx4 hts htl HI
      generalize fs[k].length = l at *
      generalize tot (fs.take k) = q at *
      generalize tot fs = n at *
      have hqI : (q : Int) < (n : Int) := by omega
      go_wp2_with fail
      refine (unhead_c x _ hx1 hx2).mono ?_
      rintro e w2 ⟨he, hb2⟩
      rw [unhide HL, unhide HE] at he
      subst he
      have hs2 := hb2.size
      have Hc2 := hide (unhide Hcall (w2.alloc (.cells #[.int .i64 (l : Nat), .bool (uhM x), .int .i64 (uhA x)] 68)) (hb2.alloc hs2 _))
      clear Hcall
      go_wp2_with fail
      refine (unhide Hc2).mono ?_
      rintro e w3 ⟨he, hI3, hk3, hs3⟩
      subst he
      have h51 := hk3 w2.heap.size #[.int .i64 (l : Nat), .bool (uhM x), .int .i64 (uhA x)] (heap_alloc_new _ _)
      have g0 : w3.cell? ⟨w2.heap.size, 0, none⟩ = some (.int .i64 (l : Nat)) := by rw [cell_of_row w3 w2.heap.size 0 _ 68 (0, 0) h51]; rfl
      have hl3 : w2.heap.size < w3.heap.size := by simp only [World.size_alloc] at hs3; omega
      have HI3 := hide hI3
      clear h51 hk3 hI3 Hc2
      go_wp2
      go_roundw
      case rel => exact ⟨k + 1, by omega, by rw [unhide HN]; go_num, HI3⟩
      case measure => simp [intOf]; omega
    · obtain rfl : k = fs.length := by omega
      have e0 : tot (fs.take fs.length) = tot fs := by rw [List.take_length]
      rw [e0]
      generalize tot fs = n at *
      go_wp2
      exact bodyPost_end (v := .tuple #[]) (results_none rfl _ _ _) rfl ⟨rfl, unhide HI⟩

end Go.Proofs.Ytngjakeofhmohaa

/- Walks: newMarker's closure; all marks away. -/
namespace Go.Proofs.Ytngjakeofhmohaa
set_option linter.unusedSimpArgs false
set_option linter.unusedVariables false
open Go.RowKit Go.Shelf
attribute [local go_sem] field51_0 field51_1

/-- The arena of which the first k objects are without marks. -/
def fW (hs : List Int) (fs : List (List Int)) (k : Nat) : List Int := joinW (mkF hs k) fs

theorem fW_len {hs : List Int} {fs : List (List Int)} (h : Fit hs fs) (k : Nat) : (fW hs fs k).length = tot fs := by
  rw [fW, joinW_len _ _ (by rw [mkF_len]; exact h.len)]
theorem fW_get {hs : List Int} {fs : List (List Int)} (h : Fit hs fs) {i : Nat} {x : Int} (hx : hs[i]? = some x) : (fW hs fs i)[tot (fs.take i)]? = some x := by
  have hi : i < fs.length := by have := (List.getElem?_eq_some_iff.1 hx).1; have := h.len; omega
  rw [fW, joinW_get _ _ _ (by rw [mkF_len]; exact h.len) hi, mkF_get, hx]
  simp
theorem fW_set {hs : List Int} {fs : List (List Int)} (h : Fit hs fs) {i : Nat} {x : Int} (hx : hs[i]? = some x) : (fW hs fs i).set (tot (fs.take i)) (reh false x) = fW hs fs (i + 1) := by
  have hi : i < fs.length := by have := (List.getElem?_eq_some_iff.1 hx).1; have := h.len; omega
  rw [fW, joinW_set _ _ _ _ (by rw [mkF_len]; exact h.len) hi, mkF_set hx, fW]

theorem cell_of_box {W : World} {b : Nat} {v : Value} {t : TypeId} (h : W.heap[b]? = some (.cells #[v] t)) : W.cell? ⟨b, 0, none⟩ = some v := by
  rw [cell_of_row W b 0 _ t (0, 0) h]; rfl

set_option maxRecDepth 100000 in
set_option maxHeartbeats 1000000 in
theorem nm1_c (pb mb wb n cap q : Nat) (x L A : Int) (M : Bool) (w : World) (hp : w.heap[pb]? = some (.cells #[.pointer (some ⟨mb, 0, none⟩)] 72)) (h0 : w.cell? ⟨mb, 0, none⟩ = some (.slice (some ⟨wb, 0, none⟩) n cap)) (hx : w.cell? ⟨wb, q, none⟩ = some (.int .u64 x)) (hf : w.frozen? ⟨wb, q, none⟩ = false) (hq : q < n) (hn : n ≤ 256) :
    Calls Try.prog 48 #[.int .i64 (q : Nat), .agg #[.int .i64 L, .bool M, .int .i64 A], .pointer (some ⟨pb, 0, none⟩)] w fun e w' => e = .returned (.tuple #[]) ∧ ∃ w1, Below w.heap.size w w1 ∧ w' = w1.setCell ⟨wb, q, none⟩ (.int .u64 (headW L false A)) := by
  have hlm : mb < w.heap.size := World.block_lt_of_cell? w _ h0
  have hlw : wb < w.heap.size := World.block_lt_of_cell? w _ hx
  have hlp : pb < w.heap.size := (Array.getElem?_eq_some_iff.1 hp).1
  have hcp := cell_of_box hp
  have hb0 : Below w.heap.size w (w.alloc (.cells #[.int .i64 L, .bool M, .int .i64 A] 68)) := (Below.refl _ _).alloc (Nat.le_refl _) _
  have Hc := hide (set_w mb wb n cap q x L A M false _ ((hb0.cell (p := ⟨mb, 0, none⟩) hlm).trans h0) ((hb0.cell (p := ⟨wb, q, none⟩) hlw).trans hx) ((hb0.frozen (p := ⟨wb, q, none⟩) hlw).trans hf) hq hn)
  clear hp
  go_enter Try.func48, Try.ntmps48
  go_wp2_with fail
  refine (unhide Hc).mono ?_
  rintro e w2 ⟨rfl, w1, hb1, rfl⟩
  go_wp2
  exact bodyPost_end (v := .tuple #[]) (results_none rfl _ _ _) rfl ⟨rfl, w1, hb0.trans (hb1.mono (by simp)), rfl⟩

/-- What holds while marks are taken away. -/
def NmI (w0 : World) (N mb pb : Nat) (vw vr vk : Value) (hs : List Int) (fs : List (List Int)) (rs : List Int) (room : Nat) (k : Nat) (W : World) : Prop :=
  Mk W N mb vw vr vk (fW hs fs k) rs [] room false ∧ W.heap[pb]? = some (.cells #[.pointer (some ⟨mb, 0, none⟩)] 72) ∧ Below N w0 W ∧ KeepT w0 W

theorem nmEach (N mb pb cap : Nat) (a : Option Addr) (vr vk : Value) (hs : List Int) (fs : List (List Int)) (rs : List Int) (room : Nat) (w : World) (hF : Fit hs fs) (h256 : tot fs ≤ 256)
    (hM : Mk w N mb (.slice a (tot fs) cap) vr vk (joinW hs fs) rs [] room false) (hp : w.heap[pb]? = some (.cells #[.pointer (some ⟨mb, 0, none⟩)] 72)) :
    Calls Try.prog 47 #[.slice a (tot fs : Nat) cap, .func (.func 48) #[] #[.pointer (some ⟨pb, 0, none⟩)]] w fun e w' => e = .returned (.tuple #[]) ∧ NmI w N mb pb (.slice a (tot fs) cap) vr vk hs fs rs room fs.length w' := by
  refine each39_c _ a cap fs (NmI w N mb pb (.slice a (tot fs) cap) vr vk hs fs rs room) w h256 ⟨?_, hp, Below.refl _ _, KeepT.refl _⟩ ?_
  · rw [fW, mkF_zero]; exact hM
  · intro k hk W hI
    obtain ⟨hMW, hpW, hbW, hkW⟩ := hI
    obtain ⟨x, hx, hx1, hx2, hx3, hx4⟩ := fit_at hF hk
    have hml := fW_len hF k
    have hpl := place_lt hk
    obtain ⟨wb, cap', hvw, hwN, hwb, hcap⟩ := hMW.words (by rw [hml]; omega)
    rw [hml] at hvw
    injection hvw with h1 _ h3
    subst h1 h3
    have hg := fW_get hF hx
    have hc := (hMW.wcell hml.symm hg).1
    refine ⟨wb, 0, x, rfl, by rw [Nat.zero_add]; exact hc, hx3, hx4, hx1, hx2, fun W' hb' => ?_⟩
    have hM' := hMW.below hb'
    have hp' : W'.heap[pb]? = some (.cells #[.pointer (some ⟨mb, 0, none⟩)] 72) := by rw [hb'.block pb (Array.getElem?_eq_some_iff.1 hpW).1]; exact hpW
    refine (nm1_c pb mb wb (tot fs) cap _ x _ (uhA x) (uhM x) W' hp' hM'.box.c0 (hM'.wcell hml.symm hg).1 (hM'.wcell hml.symm hg).2 hpl h256).mono ?_
    rintro e W2 ⟨rfl, w1, hb1, rfl⟩
    have hM1 := hM'.below hb1
    have hty := ty_row (show w1.ownsRow N 52 1 (.slice (some ⟨wb, 0, none⟩) (tot fs) cap) (tot fs) (wordsV (fW hs fs k)) from by have := hM1.wo; rw [hml] at this; exact this)
    have hkt : KeepT W' (w1.setCell ⟨wb, tot (fs.take k), none⟩ (.int .u64 (headW (fs[k].length : Int) false (uhA x)))) := (KeepT.below hb1).setCell hty (.inl rfl) _
    refine ⟨rfl, ⟨?_, ?_, ?_, ?_⟩, hkt.k51, by have := hb1.size; simpa [World.setCell] using this⟩
    · have := hM1.setW hml.symm (tot (fs.take k)) (headW (fs[k].length : Int) false (uhA x))
      have e : headW (fs[k].length : Int) false (uhA x) = reh false x := by
        unfold reh
        rw [uhL_wlen hx1, hx2]
      rw [e, fW_set hF hx] at this
      rw [e]
      exact this
    · exact hkt pb _ 72 hp' (by decide) (by decide) (by decide)
    · exact (hbW.trans ((hb'.trans (hb1.mono hb'.size)).mono (by omega))).setCell (p := ⟨wb, tot (fs.take k), none⟩) hwN _
    · exact (hkW.trans (KeepT.below hb')).trans hkt

end Go.Proofs.Ytngjakeofhmohaa

/- Walks: newMarker. -/
namespace Go.Proofs.Ytngjakeofhmohaa
set_option linter.unusedSimpArgs false
set_option linter.unusedVariables false
open Go.RowKit Go.Shelf
attribute [local go_sem] field51_0 field51_1

theorem Try.info52m : (Try.prog.info? 52).map (fun i => (i.zero, i.size, i.bytes)) = some (some (.int .u64 0), 1, 8) := by kernel_rfl

theorem run_append_words (w : World) (base : Nat) (ty : TypeId) (ar : Option Addr) (l : List Int) (c : Nat) (hW : Wds w.heap.size w ar l) (hl : l.length ≤ 256) (hbase : base ≤ w.heap.size) :
    ∃ v' w', (Builtin.append_ #[22, 22] ty #[.slice none 0 0, .slice ar l.length c]).run Try.prog w = .ok v' w' ∧ w'.ownsRow base 52 1 v' l.length (wordsV l) ∧ w.grownBy w' none ∧ (v'.ownBlock = none ∨ v'.ownBlock = some w.heap.size) := by
  obtain ⟨i0, hi0, hz0, hz1, hz2⟩ := info_parts Try.info52m
  cases ar with
  | none =>
    have h0 : l = [] := by
      cases l with
      | nil => rfl
      | cons x l => obtain ⟨b, off, e, _⟩ := hW.2 (by simp); cases e
    subst h0
    refine ⟨.slice none 0 0, w, ?_, World.ownsRow_nil _ _ _ _, ⟨rfl, rfl, rfl, Nat.le_refl _, fun _ _ _ => rfl⟩, .inl rfl⟩
    simp [Builtin.append_, run_underlying Try.underlying22, sizeOf, typeInfo, hi0, Builtin.lenOf, Builtin.firstCells]
  | some ad =>
    have hn : ∀ j u, (wordsV l)[j]? = some u → w.cell? (ad.add j) = some u := by
      intro j u hj
      obtain ⟨b, off, e, _, hc⟩ := hW.2 (by rintro rfl; simp [wordsV] at hj)
      have e' := Option.some.inj e
      subst e'
      rw [Go.WideShapes.add_plain]
      simp only [wordsV, List.getElem?_map, Option.map_eq_some_iff] at hj
      obtain ⟨x, hx, rfl⟩ := hj
      exact hc j x hx
    obtain ⟨v', w', h1, h2, h3, _, h5⟩ := run_append_own_at (P := Try.prog) w base 22 ty 52 i0 (.int .u64 0) 1 8 Try.underlying22 hi0 hz0 hz1 hz2 rfl (by decide) (.slice none 0 0) 0 [] (World.ownsRow_nil _ _ _ _) ad l.length c (wordsV l) (by simp [wordsV]) hn (by intro u hu; simp only [wordsV, List.mem_map] at hu; obtain ⟨x, _, rfl⟩ := hu; rfl) (by simp only [maxLen]; omega) (by omega) hbase
    rw [Nat.zero_add, List.nil_append] at h2
    exact ⟨v', w', h1, h2, h3, h5⟩

theorem step_append_words {ops : Array Oper} {o : Oper} {a : Act} {w : World} {K : Act → World → Prop} {Q : Exit → Act → World → Prop} {E : Prop} (hgd : o.guard = none) (s x : Operand)
    (ho : o.op = .call { callee := .builtin .append, args := #[s, x], argTypes := #[22, 22] }) (base : Nat) (ar : Option Addr) (l : List Int) (c : Nat) (hs : a.eval s = .slice none 0 0) (hx : a.eval x = .slice ar l.length c) (hW : Wds w.heap.size w ar l) (hl : l.length ≤ 256) (hbase : base ≤ w.heap.size)
    (h : ∀ v' w', w'.ownsRow base 52 1 v' l.length (wordsV l) → w.grownBy w' none → (v'.ownBlock = none ∨ v'.ownBlock = some w.heap.size) → K (a.put o.dst v') w') :
    if Region.wanted o (yielded ops a.tmps) = true then Oper.wp Try.prog o a w K Q else E := by
  have hw : Region.wanted o (yielded ops a.tmps) = true := by simp [Region.wanted, hgd]
  rw [if_pos hw]
  obtain ⟨v', w', hr, h2, h3, h5⟩ := run_append_words w base o.type ar l c hW hl hbase
  unfold Oper.wp execOp
  simp only [ho, resolve, invoke, builtin, Sem.run_bind, Sem.run_pure, Result.andThen_ok, List.map_toArray, List.map_cons, List.map_nil, hs, hx, hr]
  exact h v' w' h2 h3 h5

theorem grown_own {W w1 : World} {base : Nat} {e : TypeId} {size : Nat} {v : Value} {n : Nat} {xs : List Value} (h : W.ownsRow base e size v n xs) (hg : W.grownBy w1 none) : w1.ownsRow base e size v n xs := h.kept hg (by cases hv : v.ownBlock <;> simp)

/-- Behind the first append and its store. -/
theorem Mk.first {W w1 : World} {N mb : Nat} {vr vk v' : Value} {ws rs K : List Int} {room : Nat} {lost : Bool} (h : Mk W N mb (.slice none 0 0) vr vk [] rs K room lost) (hrow : w1.ownsRow N 52 1 v' ws.length (wordsV ws)) (hg : W.grownBy w1 none)
    (hat : v'.ownBlock = none ∨ v'.ownBlock = some W.heap.size) : MBox w1 mb (.slice none 0 0) vr room vk lost ∧ Mk (w1.setCell ⟨mb, 0, none⟩ v') N mb v' vr vk ws rs K room lost := by
  have hbox : MBox w1 mb (.slice none 0 0) vr room vk lost := h.box.kept (hg.block _ h.box.lt (by simp))
  have new : ∀ {u : Value}, (∀ k, u.ownBlock = some k → k < W.heap.size) → ∀ k, v'.ownBlock = some k → u.ownBlock ≠ some k := by
    intro u h1 k hk e
    rcases hat with h | h
    · rw [h] at hk; cases hk
    · rw [h] at hk; injection hk with hk; have := h1 k e; omega
  have hg2 := grown_set w1 mb 0 v'
  have ne : v'.ownBlock ≠ some mb := fun e => by
    rcases hat with h1 | h1
    · rw [h1] at e; cases e
    · rw [h1] at e; injection e with e; have := h.box.lt; omega
  exact ⟨hbox, hbox.set0 v', h.lo, hrow.kept hg2 (or_ne ne), (grown_own h.ro hg).kept hg2 (or_ne h.ar), (grown_own h.ko hg).kept hg2 (or_ne h.ak), ne, h.ar, h.ak, new (fun k hk => (h.ro.lt k hk).2), new (fun k hk => (h.ko.lt k hk).2), h.rk⟩

/-- Behind the second append and its store. -/
theorem Mk.second {W w1 : World} {N mb : Nat} {vw vk v' : Value} {ws rs K : List Int} {room : Nat} {lost : Bool} (h : Mk W N mb vw (.slice none 0 0) vk ws [] K room lost) (hrow : w1.ownsRow N 52 1 v' rs.length (wordsV rs)) (hg : W.grownBy w1 none)
    (hat : v'.ownBlock = none ∨ v'.ownBlock = some W.heap.size) : MBox w1 mb vw (.slice none 0 0) room vk lost ∧ Mk (w1.setCell ⟨mb, 1, none⟩ v') N mb vw v' vk ws rs K room lost := by
  have hbox : MBox w1 mb vw (.slice none 0 0) room vk lost := h.box.kept (hg.block _ h.box.lt (by simp))
  have new : ∀ {u : Value}, (∀ k, u.ownBlock = some k → k < W.heap.size) → ∀ k, v'.ownBlock = some k → u.ownBlock ≠ some k := by
    intro u h1 k hk e
    rcases hat with h | h
    · rw [h] at hk; cases hk
    · rw [h] at hk; injection hk with hk; have := h1 k e; omega
  have hg2 := grown_set w1 mb 1 v'
  have ne : v'.ownBlock ≠ some mb := fun e => by
    rcases hat with h1 | h1
    · rw [h1] at e; cases e
    · rw [h1] at e; injection e with e; have := h.box.lt; omega
  exact ⟨hbox, hbox.set1 v', h.lo, (grown_own h.wo hg).kept hg2 (or_ne h.aw), hrow.kept hg2 (or_ne ne), (grown_own h.ko hg).kept hg2 (or_ne h.ak), h.aw, ne, h.ak, fun k hk e => new (fun k hk => (h.wo.lt k hk).2) k e hk, h.wk, new (fun k hk => (h.ko.lt k hk).2)⟩

theorem keepT_grown {a W W' : World} (h : KeepT a W) (hg : W.grownBy W' none) : KeepT a W' := h.trans fun k cs t hk _ _ _ => by rw [hg.block k (Array.getElem?_eq_some_iff.1 hk).1 (by simp)]; exact hk

/-- A new marker. -/
theorem mk_start {w1 : World} {N kb room : Nat} (h : w1.ownsRow N 3 1 (.slice (some ⟨kb, 0, none⟩) 0 room) 0 []) (hN : N ≤ w1.heap.size) :
    Mk ((w1.alloc (.cells #[.slice none 0 0, .slice none 0 0, .int .i64 (room : Nat), .slice (some ⟨kb, 0, none⟩) 0 room, .bool false] 75)).alloc (.cells #[.pointer (some ⟨w1.heap.size, 0, none⟩)] 72)) N w1.heap.size (.slice none 0 0) (.slice none 0 0) (.slice (some ⟨kb, 0, none⟩) 0 room) [] [] [] room false := by
  have hk := (h.lt kb rfl).2
  refine ⟨⟨by simp [go_sem], by simp [go_sem], by simp [go_sem], by simp [go_sem], by simp [go_sem], fun j => ?_, ?_⟩, hN, World.ownsRow_nil _ _ _ _, World.ownsRow_nil _ _ _ _, (h.alloc _).alloc _, by simp [Value.ownBlock], by simp [Value.ownBlock], by simp [Value.ownBlock]; omega, by simp [Value.ownBlock], by simp [Value.ownBlock], by simp [Value.ownBlock]⟩
  · simp [go_sem]
  · refine ⟨#[.slice none 0 0, .slice none 0 0, .int .i64 (room : Nat), .slice (some ⟨kb, 0, none⟩) 0 room, .bool false], ?_⟩
    rw [Below.heap_alloc _ _ _ (by simp)]
    exact heap_alloc_new _ _

end Go.Proofs.Ytngjakeofhmohaa

/- Walks: newVisitor. -/
namespace Go.Proofs.Ytngjakeofhmohaa
set_option linter.unusedSimpArgs false
set_option linter.unusedVariables false
open Go.RowKit Go.Shelf

theorem new_apart {W : World} {v' : Value} (hat : v'.ownBlock = none ∨ v'.ownBlock = some W.heap.size) {u : Value} (h1 : ∀ k, u.ownBlock = some k → k < W.heap.size) : ∀ k, v'.ownBlock = some k → u.ownBlock ≠ some k := by
  intro k hk e
  rcases hat with h | h
  · rw [h] at hk; cases hk
  · rw [h] at hk; injection hk with hk; have := h1 k e; omega

theorem new_ne {W : World} {v' : Value} (hat : v'.ownBlock = none ∨ v'.ownBlock = some W.heap.size) {k : Nat} (hk : k < W.heap.size) : v'.ownBlock ≠ some k := fun e => by
  rcases hat with h | h
  · rw [h] at e; cases e
  · rw [h] at e; injection e with e; omega

/-- Behind the first append and its store. -/
theorem Vt.first {W w1 : World} {N vb mb : Nat} {vr vo v' : Value} {ws rs O : List Int} {n : Nat} {M : DataW Unit} (h : Vt W N vb mb (.slice none 0 0) vr vo [] rs O n M) (hrow : w1.ownsRow N 52 1 v' ws.length (wordsV ws)) (hg : W.grownBy w1 none)
    (hat : v'.ownBlock = none ∨ v'.ownBlock = some W.heap.size) : VBox w1 vb (.slice none 0 0) vr mb vo ∧ Vt (w1.setCell ⟨vb, 0, none⟩ v') N vb mb v' vr vo ws rs O n M := by
  have hbox : VBox w1 vb (.slice none 0 0) vr mb vo := h.box.kept (hg.block _ h.box.lt (by simp))
  have hg2 := grown_set w1 vb 0 v'
  have ne := new_ne hat h.box.lt
  exact ⟨hbox, hbox.set0 v', h.lo, h.lm, hrow.kept hg2 (or_ne' ne), (grown_own h.ro hg).kept hg2 (or_ne' h.ar), (grown_own h.oo hg).kept hg2 (or_ne' h.ao), (h.map.kept hg (by simp)).setCell (fun e => h.bm e.symm) _, h.bm, ne, h.ar, h.ao, new_ne hat h.map.lt, h.mr, h.mo,
    new_apart hat (fun k hk => (h.ro.lt k hk).2), new_apart hat (fun k hk => (h.oo.lt k hk).2), h.rv⟩

/-- Behind the second append and its store. -/
theorem Vt.second {W w1 : World} {N vb mb : Nat} {vw vo v' : Value} {ws rs O : List Int} {n : Nat} {M : DataW Unit} (h : Vt W N vb mb vw (.slice none 0 0) vo ws [] O n M) (hrow : w1.ownsRow N 52 1 v' rs.length (wordsV rs)) (hg : W.grownBy w1 none)
    (hat : v'.ownBlock = none ∨ v'.ownBlock = some W.heap.size) : VBox w1 vb vw (.slice none 0 0) mb vo ∧ Vt (w1.setCell ⟨vb, 1, none⟩ v') N vb mb vw v' vo ws rs O n M := by
  have hbox : VBox w1 vb vw (.slice none 0 0) mb vo := h.box.kept (hg.block _ h.box.lt (by simp))
  have hg2 := grown_set w1 vb 1 v'
  have ne := new_ne hat h.box.lt
  exact ⟨hbox, hbox.set1 v', h.lo, h.lm, (grown_own h.wo hg).kept hg2 (or_ne' h.aw), hrow.kept hg2 (or_ne' ne), (grown_own h.oo hg).kept hg2 (or_ne' h.ao), (h.map.kept hg (by simp)).setCell (fun e => h.bm e.symm) _, h.bm, h.aw, ne, h.ao, h.mw, new_ne hat h.map.lt, h.mo,
    fun k hk e => new_apart hat (fun k hk => (h.wo.lt k hk).2) k e hk, h.wv, new_apart hat (fun k hk => (h.oo.lt k hk).2)⟩

/-- A new visitor. -/
theorem vt_start (w0 : World) {N : Nat} (hN : N ≤ w0.heap.size) :
    Vt ((w0.alloc (.map #[] 0)).alloc (.cells #[.slice none 0 0, .slice none 0 0, .map (some w0.heap.size), .slice none 0 0] 59)) N (w0.heap.size + 1) w0.heap.size (.slice none 0 0) (.slice none 0 0) (.slice none 0 0) [] [] [] 0 (.map []) := by
  have hmp := World.ownsMap_made (H := Unit) w0 Try.prog 3 (plainElem Try.prog 3)
  exact ⟨⟨by simp [go_sem], by simp [go_sem], by simp [go_sem], by simp [go_sem], fun j => by simp [go_sem]⟩, by omega, hN, World.ownsRow_nil _ _ _ _, World.ownsRow_nil _ _ _ _, World.ownsRow_nil _ _ _ _, hmp.alloc _, by omega, by simp [Value.ownBlock], by simp [Value.ownBlock], by simp [Value.ownBlock], by simp [Value.ownBlock], by simp [Value.ownBlock], by simp [Value.ownBlock], by simp [Value.ownBlock], by simp [Value.ownBlock], by simp [Value.ownBlock]⟩

/-- What newVisitor tells. -/
def NvRes (N : Nat) (hs : List Int) (fs : List (List Int)) (rs : List Int) (e : Ending) (W : World) : Prop :=
  ∃ vb mb vw vr, e = .returned (.pointer (some ⟨vb, 0, none⟩)) ∧ VtA W N vb mb vw vr hs fs fs rs (fun _ => none) [] 0

set_option maxRecDepth 100000 in
set_option maxHeartbeats 2000000 in
theorem newVisitor_c (aw ar : Option Addr) (cw cr : Nat) (hs : List Int) (fs : List (List Int)) (rs : List Int) (w : World) (hA : Arn hs fs rs)
    (hW : Wds w.heap.size w aw (joinW hs fs)) (hR : Wds w.heap.size w ar rs) :
    Calls Try.prog 22 #[.agg #[.slice aw (tot fs : Nat) cw, .slice ar rs.length cr]] w fun e w' => NvRes w.heap.size hs fs rs e w' ∧ Below w.heap.size w w' := by
  have hmm := @run_makeMap Try.prog
  have h256 := hA.n256
  have h8 := hA.n8
  have Hjl := hide (joinW_len hs fs hA.fit.len)
  obtain ⟨W0, hW0⟩ : ∃ W0, w.alloc (.cells #[.slice aw (tot fs : Nat) cw, .slice ar rs.length cr] 24) = W0 := ⟨_, rfl⟩
  have hb0 : Below w.heap.size w W0 := by rw [← hW0]; exact (Below.refl _ _).alloc (Nat.le_refl _) _
  have hs0 : w.heap.size < W0.heap.size := by rw [← hW0]; simp
  have hs0' : W0.heap.size = w.heap.size + 1 := by rw [← hW0]; simp
  have hp0 : W0.heap[w.heap.size]? = some (.cells #[.slice aw (tot fs : Nat) cw, .slice ar rs.length cr] 24) := by rw [← hW0]; exact heap_alloc_new _ _
  have Hp0 := hide hp0
  have HW := hide (hW.below hb0)
  have HR := hide (hR.below hb0)
  have hV2 := vt_start W0 (N := w.heap.size) (by omega)
  obtain ⟨W2, hW2⟩ : ∃ W2, (W0.alloc (.map #[] 0)).alloc (.cells #[.slice none 0 0, .slice none 0 0, .map (some W0.heap.size), .slice none 0 0] 59) = W2 := ⟨_, rfl⟩
  rw [hW2] at hV2
  have hWW : ((w.alloc (.cells #[.slice aw (tot fs : Nat) cw, .slice ar rs.length cr] 24)).alloc (.map #[] 0)).alloc (.cells #[.slice none 0 0, .slice none 0 0, .map (some (w.heap.size + 1)), .slice none 0 0] 59) = W2 := by rw [← hW2, hs0', hW0]
  rw [hs0'] at hV2
  have hb2 : Below W0.heap.size W0 W2 := by rw [← hW2]; exact ((Below.refl _ W0).alloc (Nat.le_refl _) _).alloc (by simp) _
  have hs2 := hb2.size
  have Hs0 := hide hs0'
  have HV2 := hide hV2
  have HWW := hide hWW
  have q0 := hV2.box.c0
  have z0 := hV2.box.fr 0
  have hlm := hV2.box.lt
  have c24 : ∀ (wx : World), Below W0.heap.size W0 wx → wx.cell? ⟨w.heap.size, 0, none⟩ = some (.slice aw (tot fs : Nat) cw) ∧ wx.cell? ⟨w.heap.size, 1, none⟩ = some (.slice ar rs.length cr) := fun wx hb => by
    have h := (hb.block w.heap.size hs0).trans (unhide Hp0)
    exact ⟨by rw [cell_of_row wx w.heap.size 0 _ 24 (0, 0) h]; rfl, by rw [cell_of_row wx w.heap.size 1 _ 24 (0, 0) h]; rfl⟩
  have a0 := (c24 W2 hb2).1
  have hla : w.heap.size < W2.heap.size := by omega
  have HWd : Hid (∀ wx, Below W0.heap.size W0 wx → Wds wx.heap.size wx aw (joinW hs fs) ∧ Wds wx.heap.size wx ar rs) := fun wx hb => ⟨((unhide HW).below (hb.mono (by omega))).mono (by have := hb.size; omega), ((unhide HR).below (hb.mono (by omega))).mono (by have := hb.size; omega)⟩
  have Hc24 := hide c24
  clear hW hR hA hp0 hV2 c24 hs0' hW2 hW0 hWW
  go_enter Try.func22, Try.ntmps22
  go_upto_region 2 with fail
  rw [unhide HWW]
  clear HWW hmm
  have hmW : W0.heap.size ≤ w.heap.size + 1 + 1 := by have := unhide Hs0; omega
  generalize w.heap.size + 1 + 1 = vb at *
  generalize w.heap.size + 1 = mb at *
  go_cut [] from 7 to 18 (fun wx => ∃ vw, Hid (Vt wx w.heap.size vb mb vw (.slice none 0 0) (.slice none 0 0) (joinW hs fs) [] [] 0 (.map [])) ∧ Below W0.heap.size W0 wx)
  case first =>
    go_region_law (refine step_append_words rfl _ _ rfl w.heap.size aw (joinW hs fs) cw rfl (by rw [unhide Hjl]; rfl) (unhide HWd _ hb2.drew).1 (by rw [unhide Hjl]; exact h256) (by show w.heap.size ≤ W2.heap.size; omega) ?_; intro v' w5 hrow hg5 hat; have hfst := ((unhide HV2).below ((Below.refl _ _).drew)).first hrow hg5 hat; have r0 := hfst.1.c0; have t0 := hfst.1.fr 0; have hlm5 := hfst.1.lt; have Hfst := hide hfst.2; have hb5 := hb2.drew.grown hg5 hs2 (fun k e => by cases e); clear hfst; obtain ⟨va, vc, hv5⟩ := ownsRow_slice hrow; subst hv5)
    all_goals
      go_wp2_with fail
      go_meet
      case rel => exact ⟨_, Hfst, hb5.setCell (p := ⟨vb, 0, none⟩) (by show W0.heap.size ≤ vb; omega) _⟩
  case rest =>
  obtain ⟨vw, HV3, hb3⟩ := hcut
  clear q0 z0 hlm hla a0 HV2
  have hs3 := hb3.size
  have q1 := (unhide HV3).box.c1
  have z1 := (unhide HV3).box.fr 1
  have hlm := (unhide HV3).box.lt
  have a1 := (unhide Hc24 wc hb3).2
  have hla : w.heap.size < wc.heap.size := by omega
  clear hb2 hs2
  go_upto_region 3 with fail
  go_cut [] from 19 to 30 (fun wx => ∃ vr, Hid (Vt wx w.heap.size vb mb vw vr (.slice none 0 0) (joinW hs fs) rs [] 0 (.map [])) ∧ Below W0.heap.size W0 wx)
  case first =>
    go_region_law (refine step_append_words rfl _ _ rfl w.heap.size ar rs cr rfl rfl (unhide HWd _ hb3.drew).2 (by omega) (by show w.heap.size ≤ wc.heap.size; omega) ?_; intro v' w5 hrow hg5 hat; have hsnd := ((unhide HV3).below ((Below.refl _ _).drew)).second hrow hg5 hat; have r0 := hsnd.1.c1; have t0 := hsnd.1.fr 1; have hlm5 := hsnd.1.lt; have Hsnd := hide hsnd.2; have hb5 := hb3.drew.grown hg5 hs3 (fun k e => by cases e); clear hsnd; obtain ⟨va, vc, hv5⟩ := ownsRow_slice hrow; subst hv5)
    all_goals
      go_wp2_with fail
      go_meet
      case rel => exact ⟨_, Hsnd, hb5.setCell (p := ⟨vb, 1, none⟩) (by show W0.heap.size ≤ vb; omega) _⟩
  case rest =>
  obtain ⟨vr, HV4, hb4⟩ := hcut
  clear q1 z1 hlm hla a1 HV3 hs3 hb3 Hc24 HWd
  go_wp2
  go_ret
  exact ⟨⟨vb, mb, vw, vr, rfl, _, _, unhide HV4, farD_nil fs⟩, hb0.trans (hb4.mono (by omega))⟩

end Go.Proofs.Ytngjakeofhmohaa

/- Walks: the visitor's mark. -/
namespace Go.Proofs.Ytngjakeofhmohaa
set_option linter.unusedSimpArgs false
set_option linter.unusedVariables false
open Go.RowKit Go.Shelf

/-- The first k headers with these marks. -/
def mkP (hs : List Int) (p : Nat → Bool) (n : Nat) : List Int := hs.mapIdx fun i x => if i < n then reh (p i) x else x

theorem mkP_len (hs : List Int) (p : Nat → Bool) (n : Nat) : (mkP hs p n).length = hs.length := by simp [mkP]
theorem mkP_get (hs : List Int) (p : Nat → Bool) (n k : Nat) : (mkP hs p n)[k]? = (hs[k]?).map (fun x => if k < n then reh (p k) x else x) := by simp [mkP, List.getElem?_mapIdx]
theorem mkP_zero (hs : List Int) (p : Nat → Bool) : mkP hs p 0 = hs := by
  apply List.ext_getElem?
  intro k
  rw [mkP_get]
  cases hs[k]? <;> simp
theorem mkP_all (hs : List Int) (p : Nat → Bool) (n : Nat) (h : hs.length ≤ n) : mkP hs p n = mkH hs p := by
  apply List.ext_getElem?
  intro k
  rw [mkP_get, mkH_get]
  cases e : hs[k]? with
  | none => rfl
  | some x =>
    have := (List.getElem?_eq_some_iff.1 e).1
    simp only [Option.map_some]
    rw [if_pos (by omega)]
theorem mkP_set {hs : List Int} {p : Nat → Bool} {i : Nat} {x : Int} (h : hs[i]? = some x) : (mkP hs p i).set i (reh (p i) x) = mkP hs p (i + 1) := by
  apply List.ext_getElem?
  intro k
  rw [List.getElem?_set, mkP_get, mkP_get, mkP_len]
  have hi : i < hs.length := (List.getElem?_eq_some_iff.1 h).1
  by_cases e : i = k
  · subst e
    rw [if_pos rfl, if_pos hi, h]
    simp
  · rw [if_neg e]
    cases hs[k]? with
    | none => rfl
    | some y =>
      simp only [Option.map_some]
      congr 1
      by_cases hk : k < i
      · rw [if_pos hk, if_pos (by omega)]
      · rw [if_neg hk, if_neg (by omega)]

/-- Behind a store of a header. -/
theorem VtA.setH {W : World} {N vb mb wb cap : Nat} {vr : Value} {hs : List Int} {fs : List (List Int)} {rs : List Int} {F : Nat → Option Nat} {O : List Nat} {n : Nat} (h : VtA W N vb mb (.slice (some ⟨wb, 0, none⟩) (tot fs) cap) vr hs fs fs rs F O n) (hl : hs.length = fs.length) {k : Nat} (hk : k < fs.length) (y : Int) :
    VtA (W.setCell ⟨wb, tot (fs.take k), none⟩ (.int .u64 y)) N vb mb (.slice (some ⟨wb, 0, none⟩) (tot fs) cap) vr (hs.set k y) fs fs rs F O n := by
  obtain ⟨vo, M, h1, h2⟩ := h
  refine ⟨vo, M, ?_, h2⟩
  have h3 := h1.setW (joinW_len _ _ hl).symm (tot (fs.take k)) y
  rw [joinW_set _ _ _ _ hl hk] at h3
  exact h3

set_option maxRecDepth 100000 in
set_option maxHeartbeats 2000000 in
theorem vmark_c (sa : Option Addr) (sc B : Nat) (hs : List Int) (fs : List (List Int)) (rs : List Int) (F : Nat → Option Nat) (O : List Nat) (n N vb mb : Nat) (vw vr : Value) (w : World)
    (hM : VtA w N vb mb vw vr hs fs fs rs F O n) (hA : Arn hs fs rs) (hS : Ints B w sa (stF 0 fs)) (hBN : B ≤ N) :
    Calls Try.prog 25 #[.pointer (some ⟨vb, 0, none⟩), .slice sa (stF 0 fs).length sc] w fun e w' => (e = .returned (.tuple #[]) ∧ VtA w' N vb mb vw vr (mkH hs (fun i => (F i).isSome)) fs fs rs F O n) ∧ Below N w w' := by
  have h256 := hA.n256
  have HF := hide hA.fit
  have HM := hide hM
  have HS := hide hS
  have Hst : Hid (∀ k, k < fs.length → (stF 0 fs)[k]? = some ((tot (fs.take k) : Nat) : Int)) := fun k hk => by have := stF_get fs 0 k hk; rw [Nat.zero_add] at this; exact this
  have hfl : fs.length ≤ 256 := by have := tot_len fs; omega
  have hsl := stF_len fs 0
  rw [hsl]
  have Hsl := hide hsl
  clear hA hM hS hsl
  go_enter Try.func25, Try.ntmps25
  go_wp2
  go_loopw [9] (fun i wr => ∃ k : Nat, k ≤ fs.length ∧ i = .int .i64 k ∧ Hid (VtA wr N vb mb vw vr (mkP hs (fun i => (F i).isSome) k) fs fs rs F O n) ∧ Below N w wr) (fun i _ => fs.length - (intOf i).toNat)
  case atStart => exact ⟨0, Nat.zero_le _, rfl, by rw [mkP_zero]; exact HM, Below.refl _ _⟩
  case round =>
    clear HM
    obtain ⟨k, hk, rfl, HV, hb⟩ := hrel
    have hNr : N ≤ wr.heap.size := by obtain ⟨vo, M, h1, _⟩ := unhide HV; have := h1.lo; have := h1.box.lt; omega
    by_cases hlt : k < fs.length
    · have hlt' : k < (stF 0 fs).length := by rw [unhide Hsl]; exact hlt
      obtain ⟨bs, os, rfl, hbs, hcs⟩ := ((unhide HS).below (hb.mono hBN)).at hlt'
      have hq := unhide Hst k hlt
      rw [List.getElem?_eq_getElem hlt'] at hq
      injection hq with hq
      rw [hq] at hcs
      have hbsr : bs < wr.heap.size := by omega
      have hpl := place_lt hlt
      obtain ⟨x, hx, hx1, hx2, hx3, hx4⟩ := fit_at (unhide HF) hlt
      have hmkl : (mkP hs (fun i => (F i).isSome) k).length = fs.length := by rw [mkP_len]; exact (unhide HF).len
      have hjg : (joinW (mkP hs (fun i => (F i).isSome) k) fs)[tot (fs.take k)]? = some x := by
        rw [joinW_get _ _ _ hmkl hlt, mkP_get, hx]
        simp
      obtain ⟨vo, M, hV, hFD⟩ := unhide HV
      have hjl := joinW_len _ _ hmkl
      obtain ⟨wb, cap, hvw, hwN, hwb, hcap⟩ := hV.words (by rw [hjl]; omega)
      rw [hjl] at hvw hcap
      subst hvw
      have Hhd := hide (vheader_c vb wb (tot fs) cap _ x wr hV.box.c0 (hV.wcell hjl.symm hjg).1 hpl h256 hx3 hx4)
      have Hlook : Hid (∀ W', Below wr.heap.size wr W' → ∃ d : Int, (Instr.lookup 57 (.map (some mb)) (.int .i64 (tot (fs.take k) : Nat)) true).run Try.prog W' = .ok (.tuple #[.int .i64 d, .bool (F k).isSome]) W') := fun W' hb' => hFD.lookOk (hV.below hb').map hlt h256
      have Hbox : Hid (∀ W', Below wr.heap.size wr W' → W'.cell? ⟨vb, 0, none⟩ = some (.slice (some ⟨wb, 0, none⟩) (tot fs) cap) ∧ W'.cell? ⟨vb, 2, none⟩ = some (.map (some mb)) ∧ W'.cell? ⟨wb, tot (fs.take k), none⟩ = some (.int .u64 x) ∧ W'.frozen? ⟨wb, tot (fs.take k), none⟩ = false) := fun W' hb' => by
        have h := hV.below hb'
        have h2 := h.wcell hjl.symm hjg
        exact ⟨h.box.c0, h.box.c2, h2.1, h2.2⟩
      have hvb := hV.box.lt
      have Hfin : Hid (∀ W', Below wr.heap.size wr W' → VtA (W'.setCell ⟨wb, tot (fs.take k), none⟩ (.int .u64 (headW (uhL x) (F k).isSome (uhA x)))) N vb mb (.slice (some ⟨wb, 0, none⟩) (tot fs) cap) vr (mkP hs (fun i => (F i).isSome) (k + 1)) fs fs rs F O n) := fun W' hb' => by
        have h := ((unhide HV).below hb').setH hmkl hlt (headW (uhL x) (F k).isSome (uhA x))
        rw [show headW (uhL x) (F k).isSome (uhA x) = reh (F k).isSome x from rfl, mkP_set (p := fun i => (F i).isSome) hx] at h
        exact h
      have hkI : (k : Int) < (fs.length : Int) := by omega
      clear hV hFD HV hjl hjg hmkl hx hx1 hx2 hq hlt'
      generalize hpe : tot (fs.take k) = p at *
      clear hpe
      generalize (F k).isSome = b at *
      go_wp2_with fail
      refine (unhide Hhd).mono ?_
      rintro e w3 ⟨he, hb3⟩
      subst he
      have hs3 := hb3.size
      have hbA : Below wr.heap.size wr (w3.alloc (.cells #[.int .i64 (uhL x), .bool (uhM x), .int .i64 (uhA x)] 68)) := hb3.alloc hs3 _
      obtain ⟨d, hlk⟩ := unhide Hlook _ hbA
      have hvb2 := (unhide Hbox _ hbA).2.1
      have hvb3 : vb < w3.heap.size := by omega
      clear Hhd Hlook
      generalize uhL x = L at *
      generalize uhM x = Mm at *
      generalize uhA x = A at *
      have hbB : Below wr.heap.size wr (w3.alloc (.cells #[.int .i64 L, .bool b, .int .i64 A] 68)) := hb3.alloc hs3 _
      have e0 := (unhide Hbox _ hbB).1
      go_upto_region 5 with fail
      clear hlk hbA
      go_region_with (go_at_call 43; go_must (refine (head_c L A b _).mono ?_); go_must (rintro e w4 ⟨he, hb4⟩; subst he; have hb5 : Below wr.heap.size wr w4 := hbB.drew.trans (hb4.mono (by show wr.heap.size ≤ (w3.alloc _).heap.size; simp; omega)); obtain ⟨k0, _, k2, k3⟩ := unhide Hbox w4 hb5; have k4 : wb < w4.heap.size := World.block_lt_of_cell? w4 _ k2; have HV4 := hide (unhide Hfin w4 hb5)))
      all_goals
        go_wp2_with fail
        go_roundw
        case rel => exact ⟨k + 1, by omega, by go_num, HV4, (hb.trans (hb5.mono hNr)).setCell (p := ⟨wb, p, none⟩) hwN _⟩
        case measure => simp [intOf]; omega
    · obtain rfl : k = fs.length := by omega
      have HV2 := HV
      rw [mkP_all _ _ _ (by rw [(unhide HF).len]; exact Nat.le_refl _)] at HV2
      go_wp2
      exact bodyPost_end (v := .tuple #[]) (results_none rfl _ _ _) rfl ⟨⟨rfl, unhide HV2⟩, hb⟩

end Go.Proofs.Ytngjakeofhmohaa

/- Walks: Visit. -/
namespace Go.Proofs.Ytngjakeofhmohaa
set_option linter.unusedSimpArgs false
set_option linter.unusedVariables false
open Go.RowKit Go.Shelf

/-- Which objects were come to. -/
def visP (fs : List (List Int)) (rs : List Int) : Nat → Bool := fun i => (visL fs rs).contains i

/-- What Visit tells of an arena that may be. -/
def VisOk (ws rs : List Int) (e : Ending) (W : World) : Prop :=
  ∃ hs fs a c a' c' o oc, Arn hs fs rs ∧ ws = joinW hs fs ∧ e = .returned (.tuple #[.agg #[.slice a (mW hs fs (visP fs rs)).length c, .slice a' rs.length c'], .slice o (plc fs (visL fs rs)).length oc, .int .i64 0]) ∧ Wds W.heap.size W a (mW hs fs (visP fs rs)) ∧ (mW hs fs (visP fs rs)).length ≤ c ∧ Wds W.heap.size W a' rs ∧ Ints W.heap.size W o (plc fs (visL fs rs)) ∧ (plc fs (visL fs rs)).length ≤ oc

/-- What Visit tells. -/
def VisRes (ws rs : List Int) (e : Ending) (W : World) : Prop :=
  (arenaE ws rs ≠ 0 ∧ e = .returned (.tuple #[.agg #[.slice none 0 0, .slice none 0 0], .slice none 0 0, .int .i64 (arenaE ws rs)])) ∨ (arenaE ws rs = 0 ∧ VisOk ws rs e W)

theorem row_words {w : World} {N : Nat} {l : List Int} {v : Value} (h : w.ownsRow N 52 1 v l.length (wordsV l)) (hl : l.length ≤ 256) : ∃ a c, v = .slice a l.length c ∧ Wds w.heap.size w a l ∧ l.length ≤ c ∧ Hid (∀ b o, a = some ⟨b, o, none⟩ → N ≤ b) := by
  obtain ⟨a, c, hv, hW, hn⟩ := words_of_owns h rfl (by omega)
  refine ⟨a, c, hv, hW, ?_, hn⟩
  rcases h.2 with ⟨_, h0⟩ | ⟨g, cap', cur, hv', h1, h2, h3, h4, h5, h6⟩
  · omega
  · rw [hv] at hv'; injection hv' with _ _ e; omega

theorem row_ints {w : World} {N : Nat} {l : List Int} {v : Value} (h : w.ownsRow N 3 1 v l.length (intsV l)) (hl : l.length ≤ 256) : ∃ a c, v = .slice a l.length c ∧ IntsF N w a l ∧ l.length ≤ c := by
  obtain ⟨a, c, hv, hW, hn⟩ := ints_of_owns h rfl (by omega)
  refine ⟨a, c, hv, ⟨hW, hn⟩, ?_⟩
  rcases h.2 with ⟨_, h0⟩ | ⟨g, cap', cur, hv', h1, h2, h3, h4, h5, h6⟩
  · omega
  · rw [hv] at hv'; injection hv' with _ _ e; omega

theorem wds_setN {B N : Nat} {w : World} {a : Option Addr} {l : List Int} (h : Wds B w a l) (hn : Hid (∀ b o, a = some ⟨b, o, none⟩ → N ≤ b)) {p : Addr} (hp : p.block < N) (u : Value) : Wds B (w.setCell p u) a l := by
  refine ⟨h.1, fun hne => ?_⟩
  obtain ⟨b, off, rfl, hB, hc⟩ := h.2 hne
  have := unhide hn b off rfl
  refine ⟨b, off, rfl, hB, fun k v hk => ?_⟩
  rw [World.cell?_of_block (a := ⟨b, off + k, none⟩) (Below.heap_setCell _ _ _ _ (by show b ≠ _; omega))]
  exact hc k v hk

/-- One root more. -/
theorem dF_take {A : List (List V)} {st rs : List Int} {k : Nat} (hk : k < rs.length) : dF A ((rs.take (k + 1)).map (valW st)) [] = dF A [valW st rs[k]] (dF A ((rs.take k).map (valW st)) []) := by
  rw [List.take_succ_eq_append_getElem hk, List.map_append, dF_append]
  rfl

theorem dF_one_new {A : List (List V)} {v : V} {L : List Nat} (h : nw L v = true) : dF A [v] L = dF A (A.getD v.2.toNat []) (L ++ [v.2.toNat]) := by rw [dF_new _ h, dF_nil]
theorem dF_one_old {A : List (List V)} {v : V} {L : List Nat} (h : nw L v = false) : dF A [v] L = L := by rw [dF_old _ h, dF_nil]

/-- What unseen tells, in the graph. -/
theorem nw_of_new {fs : List (List Int)} {F : Nat → Option Nat} {O : List Nat} {x : Int} {j : Nat} (hm : ∀ j, j ∈ O ↔ (F j).isSome = true) (hj : j < fs.length) (hF : F j = none) (hr : unRef x = true) (hn : unNum x = ((tot (fs.take j) : Nat) : Int)) : valW (stF 0 fs) x = (true, (j : Int)) ∧ nw O (true, (j : Int)) = true := by
  have hst := stF_get fs 0 j hj
  rw [Nat.zero_add, ← hn] at hst
  refine ⟨by rw [valW_ref hr, placeOf_nodup (stF_nodup fs 0) hst], nw_iff.2 ⟨rfl, ?_⟩⟩
  simp only [Int.toNat_natCast]
  rw [hm, hF]
  simp

theorem nw_of_old {fs : List (List Int)} {F : Nat → Option Nat} {O : List Nat} {x : Int} (hm : ∀ j, j ∈ O ↔ (F j).isSome = true) (hok : okW (stF 0 fs) x = true) (h : ∀ j, j < fs.length → unRef x = true → unNum x = ((tot (fs.take j) : Nat) : Int) → (F j).isSome = true) : nw O (valW (stF 0 fs) x) = false := nw_not.2 fun h1 => by
  have hr : unRef x = true := h1
  obtain ⟨j, hj⟩ := (ok_ref hok).2 hr
  have hjl : j < fs.length := by have := (List.getElem?_eq_some_iff.1 hj).1; rw [stF_len] at this; exact this
  have hj' := stF_get fs 0 j hjl
  rw [Nat.zero_add] at hj'
  have hn : unNum x = ((tot (fs.take j) : Nat) : Int) := by
    have := hj.symm.trans hj'
    injection this
  rw [valW_ref hr, placeOf_nodup (stF_nodup fs 0) hj]
  exact (hm j).2 (h j hjl hr hn)

set_option maxRecDepth 100000 in
set_option maxHeartbeats 4000000 in
theorem visit_c (aw ar : Option Addr) (cw cr : Nat) (ws rs : List Int) (B : Nat) (w : World) (hW : Wds B w aw ws) (hR : Wds B w ar rs) (hUW : U64 ws) (hUR : U64 rs) (hB : B ≤ w.heap.size) (hcap : ws.length ≤ cw) :
    Calls Try.prog 6 #[.agg #[.slice aw ws.length cw, .slice ar rs.length cr]] w fun e w' => VisRes ws rs e w' ∧ Below w.heap.size w w' := by
  obtain ⟨W1, hW1⟩ : ∃ W1, (w.alloc (.cells #[.slice aw ws.length cw, .slice ar rs.length cr] 24)).alloc (.cells #[.slice none 0 0, .slice none 0 0] 24) = W1 := ⟨_, rfl⟩
  have hb1 : Below w.heap.size w W1 := by rw [← hW1]; exact ((Below.refl w.heap.size w).alloc (Nat.le_refl _) _).alloc (by simp) _
  have hs1 : w.heap.size + 1 < W1.heap.size := by rw [← hW1]; simp
  have g0 : W1.cell? ⟨w.heap.size, 0, none⟩ = some (.slice aw ws.length cw) := by rw [← hW1]; simp [go_sem]
  have g1 : W1.cell? ⟨w.heap.size, 1, none⟩ = some (.slice ar rs.length cr) := by rw [← hW1]; simp [go_sem]
  have r0 : W1.cell? ⟨w.heap.size + 1, 0, none⟩ = some (.slice none 0 0) := by rw [← hW1]; simp [go_sem]
  have r1 : W1.cell? ⟨w.heap.size + 1, 1, none⟩ = some (.slice none 0 0) := by rw [← hW1]; simp [go_sem]
  have z0 : W1.frozen? ⟨w.heap.size + 1, 0, none⟩ = false := by rw [← hW1]; simp [go_sem]
  have z1 : W1.frozen? ⟨w.heap.size + 1, 1, none⟩ = false := by rw [← hW1]; simp [go_sem]
  have Hc1 := hide (astarts_c aw ar cw cr ws rs B W1 (hW.below (hb1.mono hB)) (hR.below (hb1.mono hB)) hUW hUR (by omega) hcap)
  go_enter Try.func6, Try.ntmps6
  go_wp2_with fail
  refine (unhide Hc1).mono ?_
  rintro e w2 ⟨hres, hb2⟩
  clear hW1 Hc1
  have hs2 := hb2.size
  have hbw2 : Below w.heap.size w w2 := hb1.trans (hb2.mono (by omega))
  replace g0 := (hb2.cell (p := ⟨w.heap.size, 0, none⟩) (by simp; omega)).trans g0
  replace g1 := (hb2.cell (p := ⟨w.heap.size, 1, none⟩) (by simp; omega)).trans g1
  replace r0 := (hb2.cell (p := ⟨w.heap.size + 1, 0, none⟩) hs1).trans r0
  replace r1 := (hb2.cell (p := ⟨w.heap.size + 1, 1, none⟩) hs1).trans r1
  replace z0 := (hb2.frozen (p := ⟨w.heap.size + 1, 0, none⟩) hs1).trans z0
  replace z1 := (hb2.frozen (p := ⟨w.heap.size + 1, 1, none⟩) hs1).trans z1
  have hl2 : w.heap.size + 1 < w2.heap.size := by omega
  have hl2' : w.heap.size < w2.heap.size := by omega
  clear hb1 hb2
  rcases hres with ⟨hE, he⟩ | ⟨hE, fs, sa, sc, hsp, he, hSI⟩
  · subst he
    have HE := hide hE
    have hfin : Hid (∀ W, Below w.heap.size w W → VisRes ws rs (.returned (.tuple #[.agg #[.slice none 0 0, .slice none 0 0], .slice none 0 0, .int .i64 (arenaE ws rs)])) W ∧ Below w.heap.size w W) := fun W h => ⟨.inl ⟨unhide HE, rfl⟩, h⟩
    generalize arenaE ws rs = E at *
    have d0 : (E != 0) = true := by simpa using hE
    clear hE
    go_wp2
    refine bodyPost_ret (v := .tuple #[.agg #[.slice none 0 0, .slice none 0 0], .slice none 0 0, .int .i64 E]) (by simp [results, Try.results6, go_sem, r0, r1]) rfl (unhide hfin _ ((hbw2.setCell (p := ⟨w.heap.size + 1, 0, none⟩) (by simp) _).setCell (p := ⟨w.heap.size + 1, 1, none⟩) (by simp) _))
  · subst he
    obtain ⟨hs, fs', hA, hws⟩ := arn_of hUW hUR hE
    have hff : fs' = fs := by
      have h1 := fit_split hA.fit
      rw [← hws, hsp] at h1
      injection h1 with h1
      exact h1.symm
    subst hff
    have hjl : tot fs' = ws.length := by rw [hws, joinW_len _ _ hA.fit.len]
    have HA := hide hA
    have Hws := hide hws
    have HE := hide hE
    have h8 := hA.n8
    have h256 := hA.n256
    have Hc2 : Hid (Calls Try.prog 22 #[.agg #[.slice aw ws.length cw, .slice ar rs.length cr]] w2 fun e w' => NvRes w2.heap.size hs fs' rs e w' ∧ Below w2.heap.size w2 w') := by
      have := newVisitor_c aw ar cw cr hs fs' rs w2 hA (by rw [← hws]; exact (hW.below (hbw2.mono hB)).mono (by omega)) ((hR.below (hbw2.mono hB)).mono (by omega))
      rw [hjl] at this
      exact this
    have HS := hide hSI.1
    have HR2 := hide (((hR.below (hbw2.mono hB)).mono (show B ≤ w2.heap.size by omega)))
    have Hjl := hide hjl
    clear hE hws hA hjl hsp hSI hW hR
    go_wp2_with fail
    refine (unhide Hc2).mono ?_
    rintro e w3 ⟨⟨vb, mb, vw, vr, he, hV3⟩, hb3⟩
    subst he
    have hs3 := hb3.size
    have hl3 : w.heap.size + 1 < w3.heap.size := by omega
    have hl3' : w.heap.size < w3.heap.size := by omega
    have k1 := (hb3.cell (p := ⟨w.heap.size, 1, none⟩) hl2').trans g1
    have HV3 := hide hV3
    clear hV3 Hc2
    go_wp2
    go_loopw [26] (fun i wr => ∃ (k : Nat) (F : Nat → Option Nat) (n : Nat), k ≤ rs.length ∧ i = .int .i64 k ∧ Hid (VtA wr w2.heap.size vb mb vw vr hs fs' fs' rs F (dF (readG fs' rs).objs ((rs.take k).map (valW (stF 0 fs'))) []) n ∧ VS fs' F (dF (readG fs' rs).objs ((rs.take k).map (valW (stF 0 fs'))) []) n) ∧ Below w2.heap.size w2 wr) (fun i _ => rs.length - (intOf i).toNat)
    case atStart => exact ⟨0, fun _ => none, 0, Nat.zero_le _, rfl, hide ⟨by rw [List.take_zero, List.map_nil, dF_nil]; exact unhide HV3, ⟨fun j => by rw [List.take_zero, List.map_nil, dF_nil]; simp, fun j hj => by rw [List.take_zero, List.map_nil, dF_nil] at hj; simp at hj, by rw [mesF_none]; omega, by rw [List.take_zero, List.map_nil, dF_nil, mesF_none]; simp⟩⟩, hb3⟩
    case round =>
      clear HV3 hb3 hs3 hl3 hl3' k1
      obtain ⟨k, F, n, hk, rfl, HV, hb⟩ := hrel
      have hsr := hb.size
      by_cases hlt : k < rs.length
      · obtain ⟨br, or, rfl, hbr, hcr⟩ := ((unhide HR2).below hb).at hlt
        have hbr' : br < wr.heap.size := by omega
        have hkI : (k : Int) < (rs.length : Int) := by omega
        have hux := (unhide HA).ur _ (List.getElem_mem hlt)
        have Hok := hide ((unhide HA).okr _ (List.getElem_mem hlt))
        have Htk := hide (dF_take (A := (readG fs' rs).objs) (st := stF 0 fs') hlt)
        generalize hO : dF (readG fs' rs).objs ((rs.take k).map (valW (stF 0 fs'))) [] = O at *
        generalize hO2 : dF (readG fs' rs).objs ((rs.take (k + 1)).map (valW (stF 0 fs'))) [] = O2 at *
        have HO2 := hide hO2
        clear hO hO2
        generalize rs[k] = x at *
        have Hus := hide (unseen_c x hs fs' _ rs F O n w2.heap.size vb mb vw vr wr (unhide HV).1 h256 hux.1 hux.2 (unhide Hok))
        go_wp2_with fail
        refine (unhide Hus).mono ?_
        rintro e w5 ⟨hres, hb5⟩
        have hs5 := hb5.size
        have HV5 := hide ((unhide HV).1.below hb5)
        have HS5 := hide (unhide HV).2
        have hbw5 : Below w2.heap.size w2 w5 := hb.trans (hb5.mono hsr)
        clear Hus HV hcr
        rcases hres with ⟨j, hjl, hjF, hjr, hjn, he⟩ | ⟨hold, d, he⟩
        · subst he
          obtain ⟨hv1, hv2⟩ := nw_of_new (unhide HS5).mem hjl hjF hjr hjn
          have Hcl := hide (vclimb_c hs fs' rs F O n w2.heap.size vb mb j vw vr w5 (unhide HV5) (unhide HA) hjl hjF (unhide HS5))
          have HR0 : Hid (dF (readG fs' rs).objs ((readG fs' rs).objs.getD j []) (O ++ [j]) = O2) := by
            show _ = _
            rw [unhide Htk, hv1, dF_one_new hv2]
            simp only [Int.toNat_natCast]
          rw [unhide HR0] at Hcl
          clear hv1 hv2 hjn hjr hjF HV5 HS5 Htk HR0 Hok
          generalize tot (fs'.take j) = p at *
          go_wp2_with fail
          refine (unhide Hcl).mono ?_
          rintro e w6 ⟨⟨he, F2, n2, hV6, hS6⟩, hb6⟩
          subst he
          have HV6 := hide (And.intro hV6 hS6)
          clear hV6 hS6 Hcl
          go_wp2
          go_roundw
          case rel => exact ⟨k + 1, F2, n2, by omega, by go_num, by rw [unhide HO2]; exact HV6, hbw5.trans hb6⟩
          case measure => simp [intOf]; omega
        · subst he
          have hn := nw_of_old (unhide HS5).mem (unhide Hok) hold
          have HR0 : Hid (O = O2) := by
            show _ = _
            rw [unhide Htk, dF_one_old hn]
          have HV6 := hide (And.intro (unhide HV5) (unhide HS5))
          clear hn hold HV5 HS5 Htk Hok
          go_wp2
          go_roundw
          case rel => exact ⟨k + 1, F, n, by omega, by go_num, by rw [unhide HO2, ← unhide HR0]; exact HV6, hbw5⟩
          case measure => simp [intOf]; omega
      · obtain rfl : k = rs.length := by omega
        have HVk := HV
        rw [List.take_length, show dF (readG fs' rs).objs (rs.map (valW (stF 0 fs'))) [] = visL fs' rs from rfl] at HVk
        have Hmk := hide (vmark_c sa sc w2.heap.size hs fs' rs F _ n w2.heap.size vb mb vw vr wr (unhide HVk).1 (unhide HA) ((unhide HS).below hb) (Nat.le_refl _))
        have HpF : Hid ((fun i => (F i).isSome) = visP fs' rs) := by
          funext i
          have := (unhide HVk).2.mem i
          unfold visP
          rw [Bool.eq_iff_iff, ← this]
          simp
        rw [unhide HpF] at Hmk
        have Hob : Hid ((visL fs' rs).length ≤ 256) := by have := (unhide HVk).2.bo; show _ ≤ _; omega
        clear HV HVk
        go_wp2_with fail
        refine (unhide Hmk).mono ?_
        rintro e w6 ⟨⟨he, vo, M, hV6, _⟩, hb6⟩
        subst he
        have hbw6 : Below w2.heap.size w2 w6 := hb.trans hb6
        have hs6 := hbw6.size
        have hml := mW_len (unhide HA).fit (visP fs' rs)
        obtain ⟨wa, wc, hvw, hWw, hwc, hwn⟩ := row_words (l := mW hs fs' (visP fs' rs)) hV6.wo (by rw [hml]; exact h256)
        obtain ⟨ra, rc, hvr, hWr, hrc, hrn⟩ := row_words hV6.ro (by omega)
        obtain ⟨oa, oc, hvo, hWo, hoc⟩ := row_ints hV6.oo (by rw [plc_len]; exact unhide Hob)
        subst hvw hvr hvo
        have q0 := hV6.box.c0
        have q1 := hV6.box.c1
        have q3 := hV6.box.c3
        have hlm := hV6.box.lt
        replace r0 := (hbw6.cell (p := ⟨w.heap.size + 1, 0, none⟩) hl2).trans r0
        replace r1 := (hbw6.cell (p := ⟨w.heap.size + 1, 1, none⟩) hl2).trans r1
        replace z0 := (hbw6.frozen (p := ⟨w.heap.size + 1, 0, none⟩) hl2).trans z0
        replace z1 := (hbw6.frozen (p := ⟨w.heap.size + 1, 1, none⟩) hl2).trans z1
        have hl6 : w.heap.size + 1 < w6.heap.size := by omega
        have hvb : w2.heap.size ≤ vb := hV6.lo
        have hbww : Below w.heap.size w w6 := hbw2.trans (hbw6.mono (by omega))
        have Hfin : Hid (∀ W, W = ((w6.setCell ⟨w.heap.size + 1, 0, none⟩ (.slice wa (mW hs fs' (visP fs' rs)).length wc)).setCell ⟨w.heap.size + 1, 1, none⟩ (.slice ra rs.length rc)).drew → VisRes ws rs (.returned (.tuple #[.agg #[.slice wa (mW hs fs' (visP fs' rs)).length wc, .slice ra rs.length rc], .slice oa (plc fs' (visL fs' rs)).length oc, .int .i64 0])) W ∧ Below w.heap.size w W) := fun W h => by
          subst h
          have hsz : ((w6.setCell ⟨w.heap.size + 1, 0, none⟩ (.slice wa (mW hs fs' (visP fs' rs)).length wc)).setCell ⟨w.heap.size + 1, 1, none⟩ (.slice ra rs.length rc)).drew.heap.size = w6.heap.size := by simp [World.setCell, World.drew]
          refine ⟨.inr ⟨unhide HE, hs, fs', wa, wc, ra, rc, oa, oc, unhide HA, unhide Hws, rfl, ?_, hwc, ?_, ?_, hoc⟩, ((hbww.setCell (p := ⟨w.heap.size + 1, 0, none⟩) (by simp) _).setCell (p := ⟨w.heap.size + 1, 1, none⟩) (by simp) _).drew⟩
          · rw [hsz]; exact (wds_setN (wds_setN hWw hwn (by show w.heap.size + 1 < _; omega) _) hwn (by show w.heap.size + 1 < _; omega) _).below (Below.refl _ _).drew
          · rw [hsz]; exact (wds_setN (wds_setN hWr hrn (by show w.heap.size + 1 < _; omega) _) hrn (by show w.heap.size + 1 < _; omega) _).below (Below.refl _ _).drew
          · exact (((hWo.setCell (p := ⟨w.heap.size + 1, 0, none⟩) (by show w.heap.size + 1 < _; omega) _).setCell (p := ⟨w.heap.size + 1, 1, none⟩) (by show w.heap.size + 1 < _; omega) _).below (Below.refl _ _).drew).1
        clear hV6 hml hWw hWr hWo hwn hrn hwc hrc hoc Hmk hb6
        generalize hnn : (mW hs fs' (visP fs' rs)).length = nn at *
        generalize (plc fs' (visL fs' rs)).length = no at *
        clear hnn
        go_wp2
        go_region
        go_wp2
        exact bodyPost_ret (v := .tuple #[.agg #[.slice wa nn wc, .slice ra rs.length rc], .slice oa no oc, .int .i64 0]) (by simp [results, Try.results6, go_sem, r0, r1]) rfl (unhide Hfin _ rfl)

end Go.Proofs.Ytngjakeofhmohaa

/- Plain: what Visit tells. -/
namespace Go.Proofs.Ytngjakeofhmohaa
set_option linter.unusedSimpArgs false
set_option linter.unusedVariables false
open Go.RowKit Go.Shelf

theorem visP_rch {hs : List Int} {fs : List (List Int)} {rs : List Int} (h : Arn hs fs rs) (j : Nat) : visP fs rs j = true ↔ Rch fs rs j := by
  unfold visP
  rw [← (visL_ok h).2.1 j]
  simp

theorem nodup_sub_len {α : Type} [BEq α] [LawfulBEq α] : ∀ (l m : List α), l.Nodup → (∀ x ∈ l, x ∈ m) → l.length ≤ m.length
  | [], m, _, _ => by simp
  | a :: l, m, hn, h => by
    have hn' := List.nodup_cons.1 hn
    have ha := h a (by simp)
    have ih := nodup_sub_len l (m.erase a) hn'.2 (fun x hx => by
      have hne : x ≠ a := fun e => by subst e; exact hn'.1 hx
      exact (List.mem_erase_of_ne hne).2 (h x (by simp [hx])))
    rw [List.length_erase_of_mem ha] at ih
    have := List.length_pos_of_mem ha
    simp only [List.length_cons]
    omega

theorem nodup_le {l : List Nat} {n : Nat} (hn : l.Nodup) (h : ∀ j ∈ l, j < n) : l.length ≤ n := by
  have := nodup_sub_len l (List.range n) hn (fun j hj => List.mem_range.2 (h j hj))
  rw [List.length_range] at this
  exact this

theorem visL_len {hs : List Int} {fs : List (List Int)} {rs : List Int} (h : Arn hs fs rs) : (visL fs rs).length ≤ tot fs :=
  Nat.le_trans (nodup_le (visL_ok h).1 fun j hj => visL_lt h hj) (tot_len fs)

end Go.Proofs.Ytngjakeofhmohaa

/- Walks: the document's walk. -/
namespace Go.Proofs.Ytngjakeofhmohaa
set_option linter.unusedSimpArgs false
set_option linter.unusedVariables false
open Go.RowKit Go.Shelf

/-- Objects as numbers. -/
def natI (L : List Nat) : List Int := L.map fun (i : Nat) => (i : Int)

theorem natI_len (L : List Nat) : (natI L).length = L.length := by simp [natI]
theorem natI_snoc (L : List Nat) (j : Nat) : natI (L ++ [j]) = natI L ++ [(j : Int)] := by simp [natI]
theorem natI_mem {L : List Nat} {j : Nat} : (j : Int) ∈ natI L ↔ j ∈ L := by
  unfold natI
  rw [List.mem_map]
  constructor
  · rintro ⟨i, hi, e⟩
    have : i = j := by omega
    subst this
    exact hi
  · intro h; exact ⟨j, h, rfl⟩

/-- What is come to lies among the objects. -/
theorem dF_lt {A : List (List V)} {N : Nat} (hA : ∀ (j : Nat), ∀ v ∈ A.getD j [], v.1 = true → v.2.toNat < N) (l : List V) (L : List Nat) (hl : ∀ v ∈ l, v.1 = true → v.2.toNat < N) (hL : ∀ x ∈ L, x < N) : ∀ x ∈ dF A l L, x < N := by
  refine dF_ind (M := fun l L R => (∀ v ∈ l, v.1 = true → v.2.toNat < N) → (∀ x ∈ L, x < N) → ∀ x ∈ R, x < N) (fun L _ h => h) ?_ ?_ l L hl hL
  · intro v l L R _ h h1 h2
    exact h (fun u hu => h1 u (by simp [hu])) h2
  · intro v l L K R hv h h' h1 h2
    have hv' := nw_iff.1 hv
    refine h' (fun u hu => h1 u (by simp [hu])) (h (hA _) fun x hx => ?_)
    rcases List.mem_append.1 hx with hx | hx
    · exact h2 x hx
    · simp at hx; subst hx; exact h1 v (by simp) hv'.1

theorem Good.getD {g : Gr} (h : Good g) (j : Nat) : ∀ v ∈ g.objs.getD j [], v.1 = true → v.2.toNat < g.objs.length := by
  intro v hv hr
  by_cases hj : j < g.objs.length
  · rw [List.getD_eq_getElem?_getD, List.getElem?_eq_getElem hj, Option.getD_some] at hv
    have := h.ro _ (List.getElem_mem hj) v hv hr
    omega
  · rw [getD_out hj] at hv
    simp at hv

/-- What may be told so far. -/
structure LOk (N : Nat) (L : List Nat) : Prop where
  nd : L.Nodup
  lt : ∀ x ∈ L, x < N

theorem LOk.len {N : Nat} {L : List Nat} (h : LOk N L) : L.length ≤ N := nodup_le h.nd h.lt

theorem LOk.dF {g : Gr} (hG : Good g) {l : List V} {L : List Nat} (h : LOk g.objs.length L) (hl : ∀ v ∈ l, v.1 = true → 0 ≤ v.2 ∧ v.2 < g.objs.length) : LOk g.objs.length (dF g.objs l L) :=
  ⟨(dF_ok g.objs [] l L).nd h.nd, dF_lt hG.getD l L (fun v hv hr => by have := hl v hv hr; omega) h.lt⟩

/-- A row grows: all other blocks are as they were. -/
def RG (a b : World) (r s : Option Nat) : Prop := a.grownBy b r ∧ (s = r ∨ ∀ k, s = some k → a.heap.size ≤ k)

theorem RG.refl (a : World) (r : Option Nat) : RG a a r r := ⟨⟨rfl, rfl, rfl, Nat.le_refl _, fun _ _ _ => rfl⟩, .inl rfl⟩

theorem RG.grown {a b c : World} {r s s' : Option Nat} (h : RG a b r s) (hg : b.grownBy c s) (hat : s' = s ∨ ∀ k, s' = some k → b.heap.size ≤ k) : RG a c r s' := by
  have h1 := h.1.size
  refine ⟨⟨hg.os.trans h.1.os, hg.tape.trans h.1.tape, hg.output.trans h.1.output, Nat.le_trans h1 hg.size, fun k hk hr => ?_⟩, ?_⟩
  · rw [hg.block k (by omega) (fun e => ?_)]
    · exact h.1.block k hk hr
    · rcases h.2 with h2 | h2
      · exact hr (by rw [e, h2])
      · have := h2 k e.symm; omega
  · rcases hat with e | hn
    · rw [e]; exact h.2
    · exact .inr fun k e => by have := hn k e; omega

theorem RG.below {a b c : World} {r s : Option Nat} (h : RG a b r s) (hb : Below b.heap.size b c) : RG a c r s := by
  have h1 := h.1.size
  exact ⟨⟨hb.os.trans h.1.os, hb.tape.trans h.1.tape, hb.output.trans h.1.output, Nat.le_trans h1 hb.size, fun k hk hr => (hb.block k (by omega)).trans (h.1.block k hk hr)⟩, h.2⟩

/-- What walk tells. -/
def WkRes (base : Nat) (R : List Nat) (r : Option Nat) (w : World) (e : Ending) (W : World) : Prop := ∃ v, e = .returned v ∧ W.ownsRow base 3 1 v R.length (intsV (natI R)) ∧ RG w W r v.ownBlock

theorem dF_step {A : List (List V)} {l : List V} {L : List Nat} {k : Nat} (hk : k < l.length) : dF A (l.take (k + 1)) L = dF A [l[k]] (dF A (l.take k) L) := by
  rw [List.take_succ_eq_append_getElem hk, dF_append]

set_option maxRecDepth 100000 in
set_option maxHeartbeats 4000000 in
theorem rwalk_c (g : Gr) (hG : Good g) (ao ar : Option Addr) (co cr B base : Nat) (hBb : B ≤ base) : ∀ (m : Nat) (l : List V) (L : List Nat) (al : Option Addr) (cl : Nat) (vL : Value) (w : World), uns g.objs.length L < m → Vals B w al l → (∀ v ∈ l, v.1 = true → 0 ≤ v.2 ∧ v.2 < g.objs.length) → l.length ≤ 8 → Objs B w ao g.objs →
    w.ownsRow base 3 1 vL L.length (intsV (natI L)) → LOk g.objs.length L → base ≤ w.heap.size →
    Calls Try.prog 30 #[.agg #[.slice ao g.objs.length co, .slice ar g.roots.length cr], .slice al l.length cl, vL] w fun e w' => WkRes base (dF g.objs l L) vL.ownBlock w e w' := by
  obtain ⟨i0, hi, hz0, hz1, hz2⟩ := info_parts Try.info3
  have hn256 := hG.n24
  have HG := hide hG
  clear hG
  intro m
  induction m with
  | zero => intro l L al cl vL w h; omega
  | succ m ih =>
    intro l L al cl vL w hm hl hlr hl8 ho hown hL hbase
    have Hih := hide ih
    have Hm := hide hm
    have Hlr := hide hlr
    have HL := hide hL
    clear ih hm hlr hL
    obtain ⟨W1, hW1⟩ : ∃ W1, w.alloc (.cells #[.slice ao g.objs.length co, .slice ar g.roots.length cr] 43) = W1 := ⟨_, rfl⟩
    have hb1 : Below w.heap.size w W1 := by rw [← hW1]; exact (Below.refl w.heap.size w).alloc (Nat.le_refl _) _
    have hs1 : w.heap.size < W1.heap.size := by rw [← hW1]; simp
    have hp1 : W1.heap[w.heap.size]? = some (.cells #[.slice ao g.objs.length co, .slice ar g.roots.length cr] 43) := by rw [← hW1]; exact heap_alloc_new _ _
    have hown1 : W1.ownsRow base 3 1 vL L.length (intsV (natI L)) := by rw [← hW1]; exact hown.alloc _
    have Hp1 := hide hp1
    clear hp1
    go_enter Try.func30, Try.ntmps30
    go_wp2
    have HRG1 : Hid (RG w W1 vL.ownBlock vL.ownBlock) := hide ((RG.refl w _).below hb1)
    have Hvlt : Hid (∀ q, vL.ownBlock = some q → q < w.heap.size) := fun q e => (hown.lt q e).2
    have Hvlo : Hid (∀ q, vL.ownBlock = some q → base ≤ q) := fun q e => (hown.lt q e).1
    clear hW1 hb1 hown
    have Hl := hide hl
    have Ho := hide ho
    clear hl ho
    go_loopw [2, 11] (fun s i wr => ∃ k : Nat, k ≤ l.length ∧ i = .int .i64 k ∧ wr.ownsRow base 3 1 s (dF g.objs (l.take k) L).length (intsV (natI (dF g.objs (l.take k) L))) ∧ Hid (RG W1 wr vL.ownBlock s.ownBlock)) (fun _ i _ => l.length - (intOf i).toNat)
    case atStart => exact ⟨0, Nat.zero_le _, rfl, by rw [List.take_zero, dF_nil]; exact hown1, hide (RG.refl _ _)⟩
    case round =>
      clear hown1
      obtain ⟨k, hk, rfl, hrow, HRG⟩ := hrel
      have HLk := hide (LOk.dF (unhide HG) (unhide HL) (fun v hv => unhide Hlr v (List.mem_of_mem_take hv)) : LOk g.objs.length (dF g.objs (l.take k) L))
      have HuL : Hid (uns g.objs.length (dF g.objs (l.take k) L) ≤ uns g.objs.length L) := uns_mono fun x hx => dF_sub _ _ _ x hx
      have HRGw : Hid (∀ W r, RG W1 W vL.ownBlock r → Below base w W ∧ W.heap[w.heap.size]? = some (.cells #[.slice ao g.objs.length co, .slice ar g.roots.length cr] 43) ∧ W1.heap.size ≤ W.heap.size ∧ RG w W vL.ownBlock r) := fun W r h => by
        have h2 : RG w W vL.ownBlock r := by
          have h3 := (unhide HRG1).grown h.1 (s' := r) (by
            rcases h.2 with e | e
            · exact .inl e
            · exact .inr e)
          exact h3
        refine ⟨(Below.refl base w).grown h2.1 hbase (fun q e => unhide Hvlo q e), ?_, h.1.size, h2⟩
        rw [h.1.block w.heap.size hs1 (fun e => by have := unhide Hvlt _ e.symm; omega)]
        exact unhide Hp1
      obtain ⟨hbw, hpr, hsr, _⟩ := unhide HRGw wr _ (unhide HRG)
      have Hpr := hide hpr
      clear hpr
      by_cases hlt : k < l.length
      · obtain ⟨b, off, r, n, rfl, hbB, hc0, hc1, Hv⟩ := ((unhide Hl).below (hbw.mono hBb)).at hlt
        have Hst := hide (dF_step (A := g.objs) (L := L) hlt)
        rw [unhide Hv] at Hst
        have hvr := unhide Hlr _ (List.getElem_mem hlt)
        rw [unhide Hv] at hvr
        have hkI : (k : Int) < (l.length : Int) := by omega
        have hb' : b < wr.heap.size := by omega
        clear hbw
        generalize hLk : dF g.objs (l.take k) L = Lk at *
        clear hLk
        generalize hLn : dF g.objs (l.take (k + 1)) L = Ln at *
        have HLn := hide hLn
        clear hLn
        obtain ⟨sa, sc, rfl⟩ := ownsRow_slice hrow
        cases r
        · have Hno : Hid (Ln = Lk) := by show _ = _; rw [unhide Hst]; exact dF_one_old (nw_not.2 fun h => by cases h)
          go_wp2
          go_roundw
          case rel => exact ⟨k + 1, by omega, by go_num, by rw [unhide HLn, unhide Hno]; exact hrow.alloc _, hide ((unhide HRG).below ((Below.refl _ _).alloc (Nat.le_refl _) _))⟩
          case measure => simp [intOf]; omega
        · have hvr' := hvr rfl
          simp only at hvr'
          obtain ⟨j, rfl⟩ := Int.eq_ofNat_of_zero_le hvr'.1
          have hjl : j < g.objs.length := by have := hvr'.2; omega
          clear hvr hvr'
          have hLkl := (unhide HLk).len
          obtain ⟨sa', sc', hsv, hsI, hsn⟩ := ints_of_owns hrow (natI_len _).symm (by omega)
          injection hsv with e1 e2 e3
          subst e1
          have Hhas : Hid (∀ W, Below wr.heap.size wr W → Calls Try.prog 18 #[.slice sa Lk.length sc, .int .i64 (j : Nat)] W fun e w' => e = .returned (.bool (decide (j ∈ Lk))) ∧ w' = W) := fun W hbW => by
            have h := has_c sa sc (natI Lk) (j : Int) wr.heap.size W (hsI.below hbW)
            rw [natI_len, decide_eq_decide.2 natI_mem] at h
            exact h
          clear hsI hsn e2 e3
          by_cases hin : j ∈ Lk
          · have Hno : Hid (Ln = Lk) := by show _ = _; rw [unhide Hst]; exact dF_one_old (nw_not.2 fun _ => by simpa using hin)
            have d : decide (j ∈ Lk) = true := by simpa using hin
            rw [d] at Hhas
            clear hin d
            go_wp2_with (go_at_call 18; go_must (refine (unhide Hhas _ ((Below.refl _ _).alloc (Nat.le_refl _) _)).mono ?_); go_must (rintro e w3 ⟨he, hw3⟩; subst he hw3))
            go_roundw
            case rel => exact ⟨k + 1, by omega, by go_num, by rw [unhide HLn, unhide Hno]; exact hrow.alloc _, hide ((unhide HRG).below ((Below.refl _ _).alloc (Nat.le_refl _) _))⟩
            case measure => simp [intOf]; omega
          · have hnew : Ln = dF g.objs (g.objs.getD j []) (Lk ++ [j]) := by rw [unhide Hst, dF_one_new (nw_iff.2 ⟨rfl, by simpa using hin⟩)]; simp only [Int.toNat_natCast]
            have d : decide (j ∈ Lk) = false := by simpa using hin
            rw [d] at Hhas
            have hun := uns_snoc hjl hin
            have HLs : Hid (LOk g.objs.length (Lk ++ [j])) := hide ⟨by
                rw [List.nodup_append]
                exact ⟨(unhide HLk).nd, by simp, fun a ha b hb => by simp at hb; subst hb; exact fun e => hin (e ▸ ha)⟩, fun x hx => by
                rcases List.mem_append.1 hx with hx | hx
                · exact (unhide HLk).lt x hx
                · simp at hx; subst hx; exact hjl⟩
            have Hus : Hid (uns g.objs.length (Lk ++ [j]) < m) := by have h1 := unhide HuL; have h2 := unhide Hm; show _ < _; omega
            have Hnew := hide hnew
            clear d hin hun hnew Hst
            have hr4 := (unhide HG).n4 _ (List.getElem_mem hjl)
            have Hgd : Hid (g.objs.getD j [] = g.objs[j]) := by show _ = _; rw [List.getD_eq_getElem?_getD, List.getElem?_eq_getElem hjl]; rfl
            rw [unhide Hgd] at Hnew
            have Hro := hide ((unhide HG).ro _ (List.getElem_mem hjl))
            have HObj : Hid (∀ W, Below B w W → ∃ b off ai ci, ao = some ⟨b, off, none⟩ ∧ b < B ∧ W.cell? ⟨b, off + j, none⟩ = some (.slice ai g.objs[j].length ci) ∧ Vals B W ai g.objs[j]) := fun W h => ((unhide Ho).below h).at hjl
            clear Hgd
            generalize hfd : g.objs[j] = fd at *
            clear hfd
            obtain ⟨W2, hW2⟩ : ∃ W2, wr.alloc (.cells #[.bool true, .int .i64 (j : Nat)] 61) = W2 := ⟨_, rfl⟩
            have hp2 : W2.heap[wr.heap.size]? = some (.cells #[.bool true, .int .i64 (j : Nat)] 61) := by rw [← hW2]; exact heap_alloc_new _ _
            have hs2 : wr.heap.size < W2.heap.size := by rw [← hW2]; simp
            have hb2 : Below wr.heap.size wr W2 := by rw [← hW2]; exact (Below.refl _ _).alloc (Nat.le_refl _) _
            have hrow2 : W2.ownsRow base 3 1 (.slice sa Lk.length sc) Lk.length (intsV (natI Lk)) := by rw [← hW2]; exact hrow.alloc _
            have hq0 := cell_of_row W2 wr.heap.size 0 _ 61 (0, 0) hp2
            have hq1 := cell_of_row W2 wr.heap.size 1 _ 61 (0, 0) hp2
            simp at hq0 hq1
            have HRG2 := hide ((unhide HRG).below hb2)
            have Hp2 := hide hp2
            have HW2 := hide hW2
            have Hrlt : Hid (∀ q, (Value.slice sa Lk.length sc).ownBlock = some q → q < wr.heap.size) := fun q e => (hrow.lt q e).2
            clear hp2 HRG
            go_upto_region 6 with (first
              | (go_at_call 18; go_must (refine (unhide Hhas _ hb2).mono ?_); go_must (rintro e w3 ⟨he, hw3⟩; have hw3 := hw3.symm; subst he hw3))
              | (at_builtin; go_must (refine wpList_append_own_at _ rfl _ _ 25 rfl base 3 i0 _ 1 8 Try.underlying25 hi hz0 hz1 hz2 rfl (by decide) _ _ _ rfl (hrow2.alloc _) ⟨W2.heap.size, 0, none⟩ 1 1 [.int .i64 (j : Int)] rfl rfl (cell_one_at _ _ _ _ (by simp)) (by simp [Value.oneCell']) (by simp only [maxLen]; omega) (by omega) (by simp; omega) ?_); go_must (intro v' w5 hrow5 hg5 _ hat5)))
            obtain ⟨g5, c5, hv5⟩ := ownsRow_succ hrow5
            subst hv5
            have hs5 := hg5.size
            simp only [World.size_alloc] at hs5
            have hRG5 : RG W1 w5 vL.ownBlock (Value.slice (some ⟨g5, 0, none⟩) (Lk.length + 1) c5).ownBlock := ((unhide HRG2).below ((Below.refl _ _).alloc (Nat.le_refl _) (.cells #[.int .i64 (j : Int)] 3))).grown hg5 (by
              rcases hat5 with e | e
              · exact .inl e
              · exact .inr fun q hq => by rw [e] at hq; injection hq with hq; omega)
            obtain ⟨hbw5, hp5, hsz5, _⟩ := unhide HRGw w5 _ hRG5
            have hv2 : w5.heap[wr.heap.size]? = some (.cells #[.bool true, .int .i64 (j : Nat)] 61) := by
              rw [hg5.block wr.heap.size (by simp; omega) (fun e => by have := unhide Hrlt _ e.symm; omega), Below.heap_alloc _ _ _ hs2]
              exact unhide Hp2
            have k0 := cell_of_row w5 w.heap.size 0 _ 43 (0, 0) hp5
            have k1 := cell_of_row w5 w.heap.size 1 _ 43 (0, 0) hp5
            have k2 := cell_of_row w5 wr.heap.size 1 _ 61 (0, 0) hv2
            simp at k0 k1 k2
            obtain ⟨b2, off2, ai, ci, rfl, hb2B, hca, hva⟩ := unhide HObj w5 (hbw5.mono hBb)
            have hjI : (j : Int) < (g.objs.length : Int) := by omega
            have hlw5 : w.heap.size < w5.heap.size := by omega
            have hlr5 : wr.heap.size < w5.heap.size := by omega
            have hbs5 : b2 < w5.heap.size := by omega
            have hrow5' : w5.ownsRow base 3 1 (.slice (some ⟨g5, 0, none⟩) (Lk.length + 1) c5) (Lk ++ [j]).length (intsV (natI (Lk ++ [j]))) := by
              rw [natI_snoc, intsV_snoc, List.length_append]
              exact hrow5
            have Hc := hide (unhide Hih fd (Lk ++ [j]) ai ci (.slice (some ⟨g5, 0, none⟩) (Lk.length + 1) c5) w5.drew (unhide Hus) (hva.below (Below.refl _ _).drew) (unhide Hro) (by omega) (((unhide Ho).below (hbw5.mono hBb)).below (Below.refl _ _).drew) hrow5'.drew (unhide HLs) (by show base ≤ w5.heap.size; omega))
            rw [← unhide Hnew] at Hc
            have HRG5 := hide (hRG5.below (Below.refl _ _).drew)
            clear hRG5 hrow5 hrow5' hg5 hat5 hv2 hp5 hva HObj Hus HLs Hih Hro Hnew hq0 hq1 hrow hrow2 HRG2
            go_still_tail 9, Try.mixed
            go_wp2_with (go_at_call 30; go_must (refine (unhide Hc).mono ?_); go_must (rintro e w6 ⟨v6, he, hrow6, hRG6⟩; subst he; have HRG6 := hide ((unhide HRG5).grown hRG6.1 hRG6.2); clear hRG6))
            go_roundw
            case rel => exact ⟨k + 1, by omega, by go_num, by rw [unhide HLn]; exact hrow6, HRG6⟩
            case measure => simp [intOf]; omega
      · obtain rfl : k = l.length := by omega
        have Hfin : Hid (∀ v, wr.ownsRow base 3 1 v (dF g.objs (l.take l.length) L).length (intsV (natI (dF g.objs (l.take l.length) L))) → RG W1 wr vL.ownBlock v.ownBlock → WkRes base (dF g.objs l L) vL.ownBlock w (.returned v) wr) := fun v h1 h2 => by
          rw [List.take_length] at h1
          exact ⟨v, rfl, h1, (unhide HRGw wr _ h2).2.2.2⟩
        have HF := hide (unhide Hfin _ hrow (unhide HRG))
        clear Hfin hrow HRG
        go_wp2
        go_ret
        exact unhide HF

end Go.Proofs.Ytngjakeofhmohaa
