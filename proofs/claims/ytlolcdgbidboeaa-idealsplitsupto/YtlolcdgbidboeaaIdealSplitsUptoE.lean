/- Merged texts: Kk Kl Km Ko Re Kp Kq Wt Kr Kt Ku Kv Kw Kx. -/
import Derived.Test.YtlolcdgbidboeaaProg
import Derived.Test.YtlolcdgbidboeaaRows
import Derived.Test.YtlolcdgbidboeaaIdealSplitsUptoD
import Derived.Laws.OwnMore
import Derived.ProofKit
import Derived.OpenShut
import Derived.Lib.SmallJoins
import Derived.Deep.Slices
import Derived.Deep.RegionWith
import Derived.Deep.CutRange

/- Walks: the document's Graph. -/
namespace Go.Proofs.Ytlolcdgbidboeaa
set_option linter.unusedSimpArgs false
set_option linter.unusedVariables false
open Go.RowKit Go.Shelf

/-- Objects, read. -/
theorem OwnO.objs {W : World} {N : Nat} {vo : Value} {fb : List Value} {objs : List (List V)} (h : OwnO W N vo fb objs) (hs : objs.length ≤ 9223372036854775807) (h4 : ∀ l ∈ objs, l.length ≤ 4) : ∃ a c, vo = .slice a objs.length c ∧ Objs W.heap.size W a objs := by
  have hr := h.row
  have hl := h.len
  rw [hl] at hr
  obtain ⟨a, c, rfl⟩ := ownsRow_slice hr
  refine ⟨a, c, rfl, hs, fun hne => ?_⟩
  have hpos : 0 < objs.length := List.length_pos_iff.2 hne
  obtain ⟨g, c', u, hv, hg, _⟩ := h.at hpos
  injection hv with e1 _ e2
  subst e1 e2
  refine ⟨g, 0, rfl, hg, fun k l hk => ?_⟩
  have hkl := (List.getElem?_eq_some_iff.1 hk).1
  obtain ⟨g', c', u, hv, hg', hu, hc, hV⟩ := h.at hkl
  injection hv with e1 _ e2
  injection e1 with e1
  injection e1 with e1
  subst e1
  have e : objs[k] = l := by rw [List.getElem?_eq_getElem hkl] at hk; injection hk
  rw [e] at hV
  obtain ⟨a0, cu, rfl⟩ := hV.slice
  refine ⟨a0, cu, by rw [Nat.zero_add]; exact hc, ?_⟩
  refine ⟨by have := h4 l (List.mem_of_getElem? hk); omega, fun hne => ?_⟩
  obtain ⟨b, cb, hv2, hb1, hb2⟩ := hV.form (List.length_pos_iff.2 hne)
  injection hv2 with e1 _ e2
  subst e1 e2
  refine ⟨b, 0, rfl, hb2, fun j x hx => ?_⟩
  obtain ⟨c0, c1, _⟩ := hV.cell hx
  rw [Nat.zero_add]
  exact ⟨c0, c1⟩

theorem OwnV.vals {W : World} {N g c n : Nat} {l : List V} (h : OwnV W N (.slice (some ⟨g, 0, none⟩) n c) l) (hs : l.length ≤ 9223372036854775807) : Vals W.heap.size W (some ⟨g, 0, none⟩) l := by
  refine ⟨hs, fun hne => ⟨g, 0, rfl, (World.ownsRow.lt h g rfl).2, fun k v hk => ?_⟩⟩
  obtain ⟨c0, c1, _⟩ := h.cell hk
  rw [Nat.zero_add]
  exact ⟨c0, c1⟩

set_option maxRecDepth 100000 in
set_option maxHeartbeats 2000000 in
theorem graph_c (N rb : Nat) (vr vo vg : Value) (fb : List Value) (m : Mm) (gs : List Bool) (w : World) (h : RM w N rb vr vo vg fb m gs) (hm : MOk m) (hn : m.objs.length ≤ 256) :
    Calls Try.prog 24 #[.pointer (some ⟨rb, 0, none⟩)] w fun e w' => (∃ ao co ar cr, e = .returned (.agg #[.slice ao (canonG (grM m)).objs.length co, .slice ar (canonG (grM m)).roots.length cr]) ∧ ObjsF w.heap.size w' ao (canonG (grM m)).objs ∧ ValsF w.heap.size w' ar (canonG (grM m)).roots) ∧ Below w.heap.size w w' := by
  have hG := hm.good hn
  obtain ⟨rg, rc, hvr, hNg, hgl0⟩ := h.regs_form
  subst hvr
  obtain ⟨W1, hW1⟩ : ∃ W1, w.alloc (.cells #[.slice none 0 0, .slice none 0 0] 25) = W1 := ⟨_, rfl⟩
  have hb1 : Below w.heap.size w W1 := by rw [← hW1]; exact (Below.refl _ _).alloc (Nat.le_refl _) _
  have hs1 : w.heap.size < W1.heap.size := by rw [← hW1]; simp
  have q0 : W1.cell? ⟨w.heap.size, 0, none⟩ = some (.slice none 0 0) := by rw [← hW1]; simp [go_sem]
  have q1 : W1.cell? ⟨w.heap.size, 1, none⟩ = some (.slice none 0 0) := by rw [← hW1]; simp [go_sem]
  have f0 : W1.frozen? ⟨w.heap.size, 0, none⟩ = false := by rw [← hW1]; simp [go_sem]
  have f1 : W1.frozen? ⟨w.heap.size, 1, none⟩ = false := by rw [← hW1]; simp [go_sem]
  have hx := h.below hb1
  obtain ⟨oa, oc, hvo, hO⟩ := hx.own.objs (by omega) hm.n4
  subst hvo
  have hV := hx.regs.vals (by have := hx.n8; omega)
  have b0 := hx.c0
  have b1 := hx.c1
  have hrb := lt_of_heap hx.box
  have Hc : Hid (Calls Try.prog 38 #[.agg #[.slice oa m.objs.length oc, .slice (some ⟨rg, 0, none⟩) 8 rc]] W1.drew fun e w' => ∃ ao' co' ar' cr', e = .returned (.agg #[.slice ao' (canonG (grM m)).objs.length co', .slice ar' (canonG (grM m)).roots.length cr']) ∧ ObjsF W1.drew.heap.size w' ao' (canonG (grM m)).objs ∧ ValsF W1.drew.heap.size w' ar' (canonG (grM m)).roots ∧ Below W1.drew.heap.size W1.drew w') := by
    have hd : Below W1.heap.size W1 W1.drew := (Below.refl _ _).drew
    have h1 := refCanon_c oa (some ⟨rg, 0, none⟩) oc rc (grM m) W1.heap.size W1.drew (hO.below hd) (hV.below hd) hd.size hG
    rw [show (grM m).roots.length = 8 from h.n8] at h1
    exact h1
  obtain ⟨H, HH⟩ : ∃ H, Hid (canonG (grM m) = H) := ⟨_, rfl⟩
  rw [unhide HH] at Hc ⊢
  clear h hx hO hV hG hm
  go_enter Try.func24, Try.ntmps24
  go_wp2
  clear hW1
  go_still_tail 9, Try.mixed
  change wpList _ _ _ _ _ W1.drew
  go_wp2_with (go_at_call 38; go_must (refine (unhide Hc).mono ?_); go_must (rintro e w6 ⟨ao6, co6, ar6, cr6, rfl, hO6, hV6, hb6⟩; have hb6' : Below W1.heap.size W1 w6 := (Below.refl _ _).drew.trans hb6; have y0 := (hb6'.cell (p := ⟨w.heap.size, 0, none⟩) hs1).trans q0; have y1 := (hb6'.cell (p := ⟨w.heap.size, 1, none⟩) hs1).trans q1; have z0 := (hb6'.frozen (p := ⟨w.heap.size, 0, none⟩) hs1).trans f0; have z1 := (hb6'.frozen (p := ⟨w.heap.size, 1, none⟩) hs1).trans f1; have hl6 : w.heap.size < w6.heap.size := Nat.lt_of_lt_of_le hs1 hb6'.size; have HO6 := hide hO6; have HV6 := hide hV6; clear hO6 hV6 hb6 q0 q1 f0 f1))
  refine bodyPost_ret (v := .agg #[.slice ao6 H.objs.length co6, .slice ar6 H.roots.length cr6]) (by simp [results, Try.results24, go_sem, y0, y1]) rfl ⟨⟨ao6, co6, ar6, cr6, rfl, ?_, ?_⟩, ?_⟩
  · exact (((unhide HO6).setCell (p := ⟨w.heap.size, 0, none⟩) hs1 _).setCell (p := ⟨w.heap.size, 1, none⟩) hs1 _).base (Nat.le_of_lt hs1)
  · exact (((unhide HV6).setCell (p := ⟨w.heap.size, 0, none⟩) hs1 _).setCell (p := ⟨w.heap.size, 1, none⟩) hs1 _).base (Nat.le_of_lt hs1)
  · exact ((hb1.trans (hb6'.mono hb1.size)).setCell (p := ⟨w.heap.size, 0, none⟩) (Nat.le_refl _) _).setCell (p := ⟨w.heap.size, 1, none⟩) (Nat.le_refl _) _

end Go.Proofs.Ytlolcdgbidboeaa

/- Walks: the document's NewMem. -/
namespace Go.Proofs.Ytlolcdgbidboeaa
set_option linter.unusedSimpArgs false
set_option linter.unusedVariables false
open Go.RowKit Go.Shelf

/-- Registers, as they are filled. -/
def regK (l : List V) (k : Nat) : List V := l.take k ++ List.replicate (8 - k) (false, 0)
theorem regK_zero (l : List V) : regK l 0 = List.replicate 8 (false, 0) := by simp [regK]
theorem regK_set (l : List V) (k : Nat) (hk : k < l.length) (h8 : l.length ≤ 8) : (regK l k).set k l[k] = regK l (k + 1) := by
  unfold regK
  have hl : (l.take k).length = k := by rw [List.length_take]; omega
  have h1 : 8 - k = (8 - (k + 1)) + 1 := by omega
  rw [List.take_succ_eq_append_getElem hk, List.set_append, hl, if_neg (by omega), Nat.sub_self, h1, List.replicate_succ, List.set_cons_zero, List.append_assoc]
  rfl
theorem regK_all (g : Gr) : regK g.roots g.roots.length = (newM g).regs := by simp [regK, newM]

/-- A row of 'not gone' is made. -/
theorem run_made_b (n : Nat) (hn : n ≤ 1000) (w : World) : Sem.run Try.prog (Instr.makeSlice 86 (.int .i64 (n : Nat)) (.int .i64 (n : Nat))) w = .ok (.slice (some ⟨w.heap.size, 0, none⟩) n n) (w.alloc (.cells (madeCells #[.bool false] n) 4)) := by
  obtain ⟨i, hi, hz, hs, hb⟩ := info_parts Try.info4'
  have := run_make (P := Try.prog) w 86 4 i _ Try.underlying86 hi hz .i64 .i64 n n (by omega) (Int.le_refl _) (by rw [hb]; omega) (by omega)
  simp only [Int.toNat_natCast, hs, Nat.mul_one] at this
  exact this

theorem made_gone (W : World) (N n : Nat) (hn : n ≤ 1000) (hN : N ≤ W.heap.size) : (W.alloc (.cells (madeCells #[.bool false] n) 4)).ownsRow N 4 1 (.slice (some ⟨W.heap.size, 0, none⟩) n n) (List.replicate n false).length (boolsV (List.replicate n false)) := by
  have := World.ownsRow_lit (base := N) (e := 4) (size := 1) W (madeCells #[.bool false] n) n hN (by simp only [maxLen]; omega) (by rw [size_madeCells]; omega)
  rw [toList_madeCells_one] at this
  have e : boolsV (List.replicate n false) = List.replicate n (.bool false) := by simp [boolsV]
  rw [e, List.length_replicate]
  exact this

/-- The memory as it is laid. -/
theorem rm_start {W : World} {N rb rg gg n : Nat} (hbox : W.heap[rb]? = some (.cells [.slice (some ⟨rg, 0, none⟩) 8 8, .slice none 0 0, .slice (some ⟨gg, 0, none⟩) n n].toArray 88))
    (hr : OwnV W N (.slice (some ⟨rg, 0, none⟩) 8 8) (List.replicate 8 (false, 0))) (hg : W.ownsRow N 4 1 (.slice (some ⟨gg, 0, none⟩) n n) (List.replicate n false).length (boolsV (List.replicate n false))) (hN : N ≤ rb) :
    RM W N rb (.slice (some ⟨rg, 0, none⟩) 8 8) (.slice none 0 0) (.slice (some ⟨gg, 0, none⟩) n n) [] ⟨List.replicate 8 (false, 0), []⟩ (List.replicate n false) :=
  ⟨hbox, hr, ⟨World.ownsRow_nil _ _ _ _, rfl, fun i u l hu _ => by simp at hu, fun i j u u' _ hu _ => by simp at hu, fun i u hu => by simp at hu⟩, hg, rfl, hN, fun k _ hi => by
    rcases hi with hi | ⟨u, hu, _⟩
    · simp [Value.ownBlock] at hi
    · cases hu⟩

/-- A field more, in a box of its own. -/
theorem fld_push {W W1 W2 : World} {B b : Nat} {vp v' : Value} {k : Nat} {cs cs' : List Value} (hbx : W.heap[b]? = some (.cells [vp].toArray 62)) (hrow : W.ownsRow B 47 2 vp k cs) (hb : Below W.heap.size W W1) (hg : W1.grownBy W2 vp.ownBlock) (hr2 : W2.ownsRow B 47 2 v' (k + 1) cs') (hB : B ≤ b) (hBW : B ≤ W.heap.size) :
    W2.heap[b]? = some (.cells [vp].toArray 62) ∧ (W2.setCell ⟨b, 0, none⟩ v').heap[b]? = some (.cells [v'].toArray 62) ∧ (W2.setCell ⟨b, 0, none⟩ v').ownsRow B 47 2 v' (k + 1) cs' ∧ Below B W (W2.setCell ⟨b, 0, none⟩ v') := by
  have hl := lt_of_heap hbx
  have h1 : W1.heap[b]? = some (.cells [vp].toArray 62) := (hb.block b hl).trans hbx
  have h2 : W2.heap[b]? = some (.cells [vp].toArray 62) := (hg.block b (lt_of_heap h1) (fun e => row_ne hrow hbx (by decide) e.symm)).trans h1
  have h3 := box_set h2 0 v'
  refine ⟨h2, by simpa using h3, row_same hr2 (fun j hj => Below.heap_setCell W2 ⟨b, 0, none⟩ v' j (fun e => ?_)), ?_⟩
  · exact row_ne hr2 h2 (by decide) (by rw [hj, e])
  · have hs := hb.size
    refine ((hb.mono hBW).grown hg (by omega) (fun j e => (hrow.lt j e).1)).setCell (p := ⟨b, 0, none⟩) hB v'

end Go.Proofs.Ytlolcdgbidboeaa

/- Walks: the document's NewMem. -/
namespace Go.Proofs.Ytlolcdgbidboeaa
set_option linter.unusedSimpArgs false
set_option linter.unusedVariables false
open Go.RowKit Go.Shelf

section
variable {W : World} {M8 MB : Array Value} {n : Nat}

theorem rm_a (h8 : ∀ W' : World, W.heap.size ≤ W'.heap.size → OwnV (W'.alloc (.cells M8 47)) W.heap.size (.slice (some ⟨W'.heap.size, 0, none⟩) 8 8) (List.replicate 8 (false, 0))) (hb : ∀ W' : World, W.heap.size ≤ W'.heap.size → (W'.alloc (.cells MB 4)).ownsRow W.heap.size 4 1 (.slice (some ⟨W'.heap.size, 0, none⟩) n n) (List.replicate n false).length (boolsV (List.replicate n false))) :
    RM ((((W.alloc (.cells M8 47)).alloc (.cells MB 4)).alloc (.cells #[.slice (some ⟨W.heap.size, 0, none⟩) 8 8, .slice none 0 0, .slice (some ⟨W.heap.size + 1, 0, none⟩) n n] 88)).drew) W.heap.size (W.heap.size + 1 + 1) (.slice (some ⟨W.heap.size, 0, none⟩) 8 8) (.slice none 0 0) (.slice (some ⟨W.heap.size + 1, 0, none⟩) n n) [] ⟨List.replicate 8 (false, 0), []⟩ (List.replicate n false) ∧
    Below W.heap.size W ((((W.alloc (.cells M8 47)).alloc (.cells MB 4)).alloc (.cells #[.slice (some ⟨W.heap.size, 0, none⟩) 8 8, .slice none 0 0, .slice (some ⟨W.heap.size + 1, 0, none⟩) n n] 88)).drew) := by
  have k1 := h8 W (Nat.le_refl _)
  have k2 := hb (W.alloc (.cells M8 47)) (by simp)
  rw [World.size_alloc] at k2
  have ha : Below (W.alloc (.cells M8 47)).heap.size (W.alloc (.cells M8 47)) ((((W.alloc (.cells M8 47)).alloc (.cells MB 4)).alloc (.cells #[.slice (some ⟨W.heap.size, 0, none⟩) 8 8, .slice none 0 0, .slice (some ⟨W.heap.size + 1, 0, none⟩) n n] 88)).drew) := (((Below.refl _ _).alloc (Nat.le_refl _) _).alloc (by simp) _).drew
  have hbb : Below ((W.alloc (.cells M8 47)).alloc (.cells MB 4)).heap.size ((W.alloc (.cells M8 47)).alloc (.cells MB 4)) ((((W.alloc (.cells M8 47)).alloc (.cells MB 4)).alloc (.cells #[.slice (some ⟨W.heap.size, 0, none⟩) 8 8, .slice none 0 0, .slice (some ⟨W.heap.size + 1, 0, none⟩) n n] 88)).drew) := ((Below.refl _ _).alloc (Nat.le_refl _) _).drew
  refine ⟨rm_start ?_ (k1.below ha) (ownsRow_below k2 hbb) (by omega), (((Below.refl _ _).alloc (Nat.le_refl _) _).alloc (by simp) _).alloc (by simp; omega) _ |>.drew⟩
  have := heap_alloc_new ((W.alloc (.cells M8 47)).alloc (.cells MB 4)) (.cells #[.slice (some ⟨W.heap.size, 0, none⟩) 8 8, .slice none 0 0, .slice (some ⟨W.heap.size + 1, 0, none⟩) n n] 88)
  rw [World.size_alloc, World.size_alloc] at this
  exact this

theorem rm_b (h8 : ∀ W' : World, W.heap.size ≤ W'.heap.size → OwnV (W'.alloc (.cells M8 47)) W.heap.size (.slice (some ⟨W'.heap.size, 0, none⟩) 8 8) (List.replicate 8 (false, 0))) (hb : ∀ W' : World, W.heap.size ≤ W'.heap.size → (W'.alloc (.cells MB 4)).ownsRow W.heap.size 4 1 (.slice (some ⟨W'.heap.size, 0, none⟩) n n) (List.replicate n false).length (boolsV (List.replicate n false))) :
    RM ((((W.alloc (.cells MB 4)).alloc (.cells M8 47)).alloc (.cells #[.slice (some ⟨W.heap.size + 1, 0, none⟩) 8 8, .slice none 0 0, .slice (some ⟨W.heap.size, 0, none⟩) n n] 88)).drew) W.heap.size (W.heap.size + 1 + 1) (.slice (some ⟨W.heap.size + 1, 0, none⟩) 8 8) (.slice none 0 0) (.slice (some ⟨W.heap.size, 0, none⟩) n n) [] ⟨List.replicate 8 (false, 0), []⟩ (List.replicate n false) ∧
    Below W.heap.size W ((((W.alloc (.cells MB 4)).alloc (.cells M8 47)).alloc (.cells #[.slice (some ⟨W.heap.size + 1, 0, none⟩) 8 8, .slice none 0 0, .slice (some ⟨W.heap.size, 0, none⟩) n n] 88)).drew) := by
  have k1 := hb W (Nat.le_refl _)
  have k2 := h8 (W.alloc (.cells MB 4)) (by simp)
  rw [World.size_alloc] at k2
  have ha : Below (W.alloc (.cells MB 4)).heap.size (W.alloc (.cells MB 4)) ((((W.alloc (.cells MB 4)).alloc (.cells M8 47)).alloc (.cells #[.slice (some ⟨W.heap.size + 1, 0, none⟩) 8 8, .slice none 0 0, .slice (some ⟨W.heap.size, 0, none⟩) n n] 88)).drew) := (((Below.refl _ _).alloc (Nat.le_refl _) _).alloc (by simp) _).drew
  have hbb : Below ((W.alloc (.cells MB 4)).alloc (.cells M8 47)).heap.size ((W.alloc (.cells MB 4)).alloc (.cells M8 47)) ((((W.alloc (.cells MB 4)).alloc (.cells M8 47)).alloc (.cells #[.slice (some ⟨W.heap.size + 1, 0, none⟩) 8 8, .slice none 0 0, .slice (some ⟨W.heap.size, 0, none⟩) n n] 88)).drew) := ((Below.refl _ _).alloc (Nat.le_refl _) _).drew
  refine ⟨rm_start ?_ (k2.below hbb) (ownsRow_below k1 ha) (by omega), (((Below.refl _ _).alloc (Nat.le_refl _) _).alloc (by simp) _).alloc (by simp; omega) _ |>.drew⟩
  have := heap_alloc_new ((W.alloc (.cells MB 4)).alloc (.cells M8 47)) (.cells #[.slice (some ⟨W.heap.size + 1, 0, none⟩) 8 8, .slice none 0 0, .slice (some ⟨W.heap.size, 0, none⟩) n n] 88)
  rw [World.size_alloc, World.size_alloc] at this
  exact this
end

/-- A register is filled. -/
theorem rm_fill {W : World} {N rb rg c n : Nat} {vo vg : Value} {fb : List Value} {l : List V} {os : List (List V)} {gs : List Bool} {k : Nat} (h : RM W N rb (.slice (some ⟨rg, 0, none⟩) n c) vo vg fb ⟨regK l k, os⟩ gs) (hk : k < l.length) (h8 : l.length ≤ 8) {r : Bool} {v : Int} (hv : l[k] = (r, v)) :
    RM ((W.drew.setCell ⟨rg, k * 2, none⟩ (.bool r)).setCell ⟨rg, k * 2 + 1, none⟩ (.int .i64 v)) N rb (.slice (some ⟨rg, 0, none⟩) n c) vo vg fb ⟨regK l (k + 1), os⟩ gs ∧ Kp (fun j => j = rg) W ((W.drew.setCell ⟨rg, k * 2, none⟩ (.bool r)).setCell ⟨rg, k * 2 + 1, none⟩ (.int .i64 v)) := by
  have hd : Below W.heap.size W W.drew := (Below.refl _ _).drew
  obtain ⟨h1, h2⟩ := (h.below hd).setReg k (r, v)
  refine ⟨?_, (Kp.of_below hd).trans h2 (fun j e => .inl e)⟩
  have e := regK_set l k hk h8
  rw [hv] at e
  rw [← e]
  exact h1

set_option maxRecDepth 100000 in
set_option maxHeartbeats 4000000 in
theorem newmem_c (ao ar : Option Addr) (co cr : Nat) (g : Gr) (B : Nat) (w : World) (ho : Objs B w ao g.objs) (hr : Vals B w ar g.roots) (hB : B ≤ w.heap.size) (hn : g.objs.length ≤ 24) (h8 : g.roots.length ≤ 8) (h4 : ∀ l ∈ g.objs, l.length ≤ 4) :
    Calls Try.prog 21 #[.agg #[.slice ao g.objs.length co, .slice ar g.roots.length cr]] w fun e w' => (∃ rb vr vo vg fb, e = .returned (.pointer (some ⟨rb, 0, none⟩)) ∧ Hid (RM w' (w.heap.size + 1) rb vr vo vg fb (newM g) (List.replicate g.objs.length false))) ∧ Below w.heap.size w w' := by
  obtain ⟨W1, hW1⟩ : ∃ W1, w.alloc (.cells #[.slice ao g.objs.length co, .slice ar g.roots.length cr] 25) = W1 := ⟨_, rfl⟩
  have hb1 : Below w.heap.size w W1 := by rw [← hW1]; exact (Below.refl _ _).alloc (Nat.le_refl _) _
  have hs1 : W1.heap.size = w.heap.size + 1 := by rw [← hW1]; simp
  have d0 : W1.cell? ⟨w.heap.size, 0, none⟩ = some (.slice ao g.objs.length co) := by rw [← hW1]; simp [go_sem]
  have d1 : W1.cell? ⟨w.heap.size, 1, none⟩ = some (.slice ar g.roots.length cr) := by rw [← hW1]; simp [go_sem]
  have Ho := hide (ho.below (hb1.mono hB))
  have Hr := hide (hr.below (hb1.mono hB))
  have H4 := hide h4
  have hm8 := run_made 8 (by omega)
  have hmb := run_made_b g.objs.length (by omega)
  have hq8 : ((8 : Nat) : Int) = 8 := rfl
  rw [hq8] at hm8
  have HM8 := hide (fun (W : World) (hN : W1.heap.size ≤ W.heap.size) => made_own W W1.heap.size 8 (Nat.le_refl _) hN)
  have HMB := hide (fun (W : World) (hN : W1.heap.size ≤ W.heap.size) => made_gone W W1.heap.size g.objs.length (by omega) hN)
  obtain ⟨M8, hM8⟩ : ∃ M, madeCells (Value.agg #[.bool false, .int .i64 0]).cells (8 * 2) = M := ⟨_, rfl⟩
  obtain ⟨MB, hMB⟩ : ∃ M, madeCells #[.bool false] g.objs.length = M := ⟨_, rfl⟩
  rw [hM8] at hm8 HM8
  rw [hMB] at hmb HMB
  have hlw : w.heap.size < W1.heap.size := by omega
  have hBl : B ≤ W1.heap.size := by omega
  have HS1 := hide hs1
  clear ho hr h4 hM8 hMB hq8 hs1
  go_enter Try.func21, Try.ntmps21
  go_upto_region 1 with fail
  clear hW1
  go_cut [3] from 10 to 17 (fun p3 wx => ∃ rb rg gg, p3 = .pointer (some ⟨rb, 0, none⟩) ∧ Hid (RM wx W1.heap.size rb (.slice (some ⟨rg, 0, none⟩) 8 8) (.slice none 0 0) (.slice (some ⟨gg, 0, none⟩) g.objs.length g.objs.length) [] ⟨List.replicate 8 (false, 0), []⟩ (List.replicate g.objs.length false)) ∧ Below W1.heap.size W1 wx)
  case first =>
    go_region
    all_goals
      go_wp2_with fail
      go_meet
    case rel => exact ⟨_, _, _, rfl, hide (rm_a (unhide HM8) (unhide HMB)).1, (rm_a (unhide HM8) (unhide HMB)).2⟩
    case rel => exact ⟨_, _, _, rfl, hide (rm_b (unhide HM8) (unhide HMB)).1, (rm_b (unhide HM8) (unhide HMB)).2⟩
  case rest =>
  obtain ⟨rb, rg, gg, rfl, HR0, hb0⟩ := hcut
  clear hm8 hmb HM8 HMB
  have D0 := hide d0
  have D1 := hide d1
  have d0 := (hb0.cell (p := ⟨w.heap.size, 0, none⟩) hlw).trans (unhide D0)
  have d1 := (hb0.cell (p := ⟨w.heap.size, 1, none⟩) hlw).trans (unhide D1)
  go_wp2
  go_loopw [4] (fun i wr => ∃ k : Nat, k ≤ g.roots.length ∧ i = .int .i64 k ∧ Hid (RM wr W1.heap.size rb (.slice (some ⟨rg, 0, none⟩) 8 8) (.slice none 0 0) (.slice (some ⟨gg, 0, none⟩) g.objs.length g.objs.length) [] ⟨regK g.roots k, []⟩ (List.replicate g.objs.length false)) ∧ Below W1.heap.size W1 wr) (fun i _ => g.roots.length - (intOf i).toNat)
  case atStart => exact ⟨0, Nat.zero_le _, rfl, by rw [regK_zero]; exact HR0, hb0⟩
  case round =>
    clear HR0 hb0 d0 d1
    obtain ⟨k, hk, rfl, HR, hb⟩ := hrel
    have d0 := (hb.cell (p := ⟨w.heap.size, 0, none⟩) hlw).trans (unhide D0)
    have d1 := (hb.cell (p := ⟨w.heap.size, 1, none⟩) hlw).trans (unhide D1)
    have hdl : w.heap.size < wr.heap.size := Nat.lt_of_lt_of_le hlw hb.size
    by_cases hlt : k < g.roots.length
    · obtain ⟨b, off, r, v, rfl, hbB, x0, x1, Hv⟩ := ((unhide Hr).below (hb.mono hBl)).at hlt
      have hkI : (k : Int) < (g.roots.length : Int) := by omega
      have hkI8 : (k : Int) < 8 := by omega
      have hk8 : k < 8 := by omega
      have c0 := (unhide HR).c0
      have hrb := lt_of_heap (unhide HR).box
      have hrl : k < (regK g.roots k).length := by have := (unhide HR).n8; simp only at this; omega
      obtain ⟨y0, y1, xf⟩ := (unhide HR).regs.cell (List.getElem?_eq_getElem hrl)
      have f0 := xf (k * 2)
      have f1 := xf (k * 2 + 1)
      have hrg := (World.ownsRow.lt (unhide HR).regs rg rfl).2
      have hbl : b < wr.heap.size := by have := hb.size; omega
      have HF := hide (rm_fill (unhide HR) hlt h8 (unhide Hv))
      have hlo := (World.ownsRow.lt (unhide HR).regs rg rfl).1
      generalize (regK g.roots k)[k] = y at *
      clear xf Hv HR
      go_wp2
      go_still_tail 11, Try.mixed
      change wpList _ _ _ _ _ wr.drew
      go_wp2
      go_roundw
      case rel => exact ⟨k + 1, by omega, by go_num, hide (unhide HF).1, hb.trans ((unhide HF).2.below hb.size (fun j e => by rw [e]; exact hlo))⟩
      case measure => simp [intOf]; omega
    · obtain rfl : k = g.roots.length := by omega
      obtain ⟨WR, hWR⟩ : ∃ WR, WR = wr := ⟨_, rfl⟩
      subst hWR
      rw [regK_all] at HR
      go_wp2
      go_loopw [38] (fun i wr => ∃ (k : Nat) (vo : Value) (fb : List Value), k ≤ g.objs.length ∧ i = .int .i64 k ∧ Hid (RM wr W1.heap.size rb (.slice (some ⟨rg, 0, none⟩) 8 8) vo (.slice (some ⟨gg, 0, none⟩) g.objs.length g.objs.length) fb ⟨(newM g).regs, g.objs.take k⟩ (List.replicate g.objs.length false)) ∧ Below W1.heap.size W1 wr) (fun i _ => g.objs.length - (intOf i).toNat)
      case atStart => exact ⟨0, _, _, Nat.zero_le _, rfl, HR, hb⟩
      case round =>
        clear HR hb d0 d1 hdl
        obtain ⟨k, vo, fb, hk, rfl, HR, hb⟩ := hrel
        by_cases hlt : k < g.objs.length
        · obtain ⟨WQ, hWQ⟩ : ∃ WQ, WQ = wr := ⟨_, rfl⟩
          subst hWQ
          obtain ⟨b, off, ai, ci, rfl, hbB, hcb, hva⟩ := ((unhide Ho).below (hb.mono hBl)).at hlt
          have hl4 := (unhide H4) _ (List.getElem_mem hlt)
          have HT := hide (List.take_succ_eq_append_getElem hlt)
          generalize g.objs[k] = l at *
          have hkI : (k : Int) < (g.objs.length : Int) := by omega
          have hbl : b < WQ.heap.size := by have := hb.size; omega
          obtain ⟨W3, HW3⟩ : ∃ W3, Hid ((WQ.alloc (.cells #[.slice ai l.length ci] 62)).alloc (.cells #[.slice none 0 0] 62) = W3) := ⟨_, rfl⟩
          have hb3 : Below WQ.heap.size WQ W3 := by rw [← unhide HW3]; exact ((Below.refl _ _).alloc (Nat.le_refl _) _).alloc (by simp) _
          have hs3 : WQ.heap.size + 1 < W3.heap.size := by rw [← unhide HW3]; simp
          have hx7 : W3.heap[WQ.heap.size + 1]? = some (.cells [.slice none 0 0].toArray 62) := by
            rw [← unhide HW3]
            have := heap_alloc_new (WQ.alloc (.cells #[.slice ai l.length ci] 62)) (.cells #[.slice none 0 0] 62)
            rw [World.size_alloc] at this
            exact this
          have HX7 := hide hx7
          have Hva := hide hva
          have hBQ : B ≤ WQ.heap.size := Nat.le_trans hBl hb.size
          clear hx7 hva
          go_wp2
          rw [unhide HW3]
          go_loopw [46] (fun i wr => ∃ (j : Nat) (vp : Value), j ≤ l.length ∧ i = .int .i64 j ∧ Hid (wr.heap[WQ.heap.size + 1]? = some (.cells [vp].toArray 62)) ∧ Hid (wr.ownsRow WQ.heap.size 47 2 vp j (cellsV (l.take j))) ∧ Below WQ.heap.size W3 wr) (fun i _ => l.length - (intOf i).toNat)
          case atStart => exact ⟨0, _, Nat.zero_le _, rfl, HX7, hide (World.ownsRow_nil _ _ _ _), Below.refl _ _⟩
          case round =>
            clear HX7
            obtain ⟨j, vp, hj, rfl, Hbx, Hrow, hbi⟩ := hrel
            have hbq : Below WQ.heap.size WQ wr := hb3.trans hbi
            have hsq := hbi.size
            obtain ⟨pa, pc, rfl⟩ := ownsRow_slice (unhide Hrow)
            have c7 := box_cell (unhide Hbx) 0
            simp only [List.getElem?_cons_zero] at c7
            have f7 := box_fr (unhide Hbx) 0
            have hl7 := lt_of_heap (unhide Hbx)
            by_cases hjl : j < l.length
            · obtain ⟨b2, off2, r, v, rfl, hbB2, x0, x1, Hv⟩ := ((unhide Hva).below (hbq.mono hBQ)).at hjl
              have hjI : (j : Int) < (l.length : Int) := by omega
              have HTj := hide (List.take_succ_eq_append_getElem hjl)
              rw [unhide Hv] at HTj
              have hb2l : b2 < wr.heap.size := by omega
              obtain ⟨i0, hi, hz0, hz1, hz2⟩ := info_parts Try.info47'
              have hmx : j + 1 ≤ maxLen := by simp only [maxLen]; omega
              have hmy : (j + 1) * 16 ≤ 140737488355328 := by omega
              have hone : ∀ u ∈ ([.bool r, .int .i64 v] : List Value), u.oneCell' = true := by simp [Value.oneCell']
              have hrow1 := ((unhide Hrow).alloc (.cells #[.bool r, .int .i64 v] 47)).alloc (.cells #[.bool r, .int .i64 v] 47)
              have hbase : WQ.heap.size ≤ ((wr.alloc (.cells #[.bool r, .int .i64 v] 47)).alloc (.cells #[.bool r, .int .i64 v] 47)).heap.size := by simp; omega
              have Hfin : Hid (∀ (v' : Value) (w9 : World), w9.ownsRow WQ.heap.size 47 2 v' (j + 1) (cellsV (l.take j) ++ [.bool r, .int .i64 v]) → ((wr.alloc (.cells #[.bool r, .int .i64 v] 47)).alloc (.cells #[.bool r, .int .i64 v] 47)).grownBy w9 (Value.ownBlock (.slice pa j pc)) → _) := fun v' w9 hr9 hg9 => fld_push (unhide Hbx) (unhide Hrow) (((Below.refl _ _).alloc (Nat.le_refl _) (.cells #[.bool r, .int .i64 v] 47)).alloc (by simp) (.cells #[.bool r, .int .i64 v] 47)) hg9 hr9 (by omega) hbq.size
              clear Hv
              go_wp2_with (at_builtin; go_must (refine wpList_append_own_at _ rfl _ _ 23 rfl WQ.heap.size 47 i0 _ 2 16 Try.underlying23 hi hz0 hz1 hz2 rfl (by decide) _ j _ rfl hrow1 ⟨wr.heap.size + 1, 0, none⟩ 1 1 [.bool r, .int .i64 v] rfl rfl (cell_two_at _ _ _ _ _ (by simp)) hone hmx hmy hbase ?_); go_must (intro v9 w9 hr9 hg9 _ hat9; obtain ⟨g9, cap9, hv9⟩ := ownsRow_succ hr9; subst hv9; have hF := (unhide Hfin) _ _ hr9 hg9; have e1 := box_cell hF.1 0; simp only [List.getElem?_cons_zero] at e1; have e2 := box_fr hF.1 0; have e3 := lt_of_heap hF.1; have HF := hide hF; clear hr9 hg9 hat9 hF))
              go_roundw
              case rel =>
                obtain ⟨_, p1, p2, p3⟩ := unhide HF
                refine ⟨j + 1, .slice (some ⟨g9, 0, none⟩) (j + 1) cap9, by omega, by go_num, hide p1, hide ?_, hbi.trans p3⟩
                rw [unhide HTj, cellsV_snoc]
                exact p2
              case measure => simp [intOf]; omega
            · obtain rfl : j = l.length := by omega
              rw [List.take_length] at Hrow
              have hxr := (unhide HR).below hbq
              have hfl : fb.length = (g.objs.take k).length := hxr.own.len
              obtain ⟨oa, oc, hvo⟩ := ownsRow_slice hxr.own.row
              subst hvo
              have hkl : (g.objs.take k).length = k := by rw [List.length_take]; omega
              have c1 := hxr.c1
              have hrb := lt_of_heap hxr.box
              obtain ⟨i0, hi, hz0, hz1, hz2⟩ := info_parts Try.info62'
              have hone : ∀ u ∈ ([.slice pa l.length pc] : List Value), u.oneCell' = true := by simp [Value.oneCell']
              have hmx : fb.length + 1 ≤ maxLen := by simp only [maxLen]; omega
              have hmy : (fb.length + 1) * 24 ≤ 140737488355328 := by omega
              have hba : Below wr.heap.size wr ((wr.alloc (.cells #[.slice pa l.length pc] 62)).drew) := ((Below.refl _ _).alloc (Nat.le_refl _) _).drew
              have hrow2 := ownsRow_below hxr.own.row hba
              have hcl : ∀ i u, ([.slice pa l.length pc] : List Value)[i]? = some u → ((wr.alloc (.cells #[.slice pa l.length pc] 62)).drew).cell? ((⟨wr.heap.size, 0, none⟩ : Addr).add i) = some u := fun i u h => cell_one_at wr _ 62 _ rfl i u h
              have hbase : W1.heap.size ≤ ((wr.alloc (.cells #[.slice pa l.length pc] 62)).drew).heap.size := by have := hba.size; have := hbq.size; have := hb.size; omega
              have hu : OwnV wr WQ.heap.size (.slice pa l.length pc) l := unhide Hrow
              have Hq : Hid (∀ (v' : Value) (w7 : World), ((wr.alloc (.cells #[.slice pa l.length pc] 62)).drew).grownBy w7 (Value.ownBlock (.slice oa fb.length oc)) → w7.ownsRow W1.heap.size 62 1 v' (fb.length + 1) (fb ++ [.slice pa l.length pc]) → (v'.ownBlock = Value.ownBlock (.slice oa fb.length oc) ∨ v'.ownBlock = some ((wr.alloc (.cells #[.slice pa l.length pc] 62)).drew).heap.size) → _) := fun v' w7 hg hrow hat => (unhide HR).pushObj (hbq.trans (hba.mono hbq.size)) ((hu.below hba).base hb.size) (fun i hi => (World.ownsRow.lt hu i hi).1) hrow hg hat
              have hrbq := lt_of_heap (unhide HR).box
              have HN := hide (fun i hi => ((unhide HR).lt (k := i) hi).1)
              have Hfl := hide (show fb.length = k by omega)
              clear hxr hfl hkl hu
              go_wp2
              go_region_law (first
                | (refine step_append_at rfl _ _ 22 rfl W1.heap.size 62 i0 _ 1 24 Try.underlying22 hi hz0 hz1 hz2 rfl (Nat.zero_lt_one) (.slice oa fb.length oc) fb.length fb rfl hrow2 ⟨wr.heap.size, 0, none⟩ 1 1 [.slice pa l.length pc] rfl rfl hcl hone hmx hmy hbase ?_; intro v' w7 hrow7 hg7 hat7; obtain ⟨g7, cap7, hv7⟩ := ownsRow_succ hrow7; subst hv7; have hQ := (unhide Hq) _ _ hg7 hrow7 hat7; have e1 := box_cell hQ.1 1; simp only [List.getElem?_cons_succ, List.getElem?_cons_zero] at e1; have e2 := box_fr hQ.1 1; have e3 := lt_of_heap hQ.1; have HQ := hide hQ; clear hg7 hrow7 hat7 hQ))
              all_goals
                go_wp2
                go_roundw
                case rel =>
                  obtain ⟨_, p1, p2, p3⟩ := unhide HQ
                  refine ⟨k + 1, .slice (some ⟨g7, 0, none⟩) (fb.length + 1) cap7, fb ++ [.slice pa l.length pc], by omega, by go_num, ?_, hb.trans (p2.below hb.size (fun i hi => (unhide HN) i hi))⟩
                  rw [unhide HT]
                  exact hide p1
                case measure => simp [intOf]; omega
        · obtain rfl : k = g.objs.length := by omega
          rw [List.take_length] at HR
          go_wp2
          go_ret
          refine ⟨⟨rb, .slice (some ⟨rg, 0, none⟩) 8 8, vo, .slice (some ⟨gg, 0, none⟩) g.objs.length g.objs.length, fb, rfl, ?_⟩, hb1.trans (hb.mono (by omega))⟩
          have e := unhide HS1
          rw [e] at HR
          exact HR

end Go.Proofs.Ytlolcdgbidboeaa

/- Walks: the document's Ideal. -/
namespace Go.Proofs.Ytlolcdgbidboeaa
set_option linter.unusedSimpArgs false
set_option linter.unusedVariables false
open Go.RowKit Go.Shelf

/-- What is told lies in none of the memory's blocks. -/
theorem RM.row_out {W : World} {N N' rb : Nat} {vr vo vg : Value} {fb : List Value} {m : Mm} {gs : List Bool} (h : RM W N rb vr vo vg fb m gs) {v : Value} {n : Nat} {xs : List Value} (hr : W.ownsRow N' 55 3 v n xs) : ∀ k, v.ownBlock = some k → ¬ RS rb vr vo vg fb k := by
  intro k hk hi
  rcases hi with rfl | hi | hi | hi
  · exact row_ne hr h.box (by decide) hk
  · obtain ⟨cs, hc⟩ := ownV_type h.regs hi
    exact row_ne hr hc (by decide) hk
  · rcases h.gone.2 with ⟨rfl, _⟩ | ⟨g, cap, cur, rfl, _, hg, _⟩
    · cases hi
    · have e' : some g = some k := hi
      injection e' with e'
      subst e'
      exact row_ne hr hg (by decide) hk
  · rcases hr.2 with ⟨rfl, _⟩ | ⟨g, cap, cur, rfl, _, hg, _⟩
    · cases hk
    · have e' : some g = some k := hk
      injection e' with e'
      subst e'
      exact h.own.ne hg (by decide) (by decide) hi

/-- What the document's Ideal tells, in memory. -/
def IdRes (g : Gr) (ds : List Dd) (e : Ending) (W : World) : Prop :=
  ∃ (C : List Ou) (H : Gr) (ac : Option Addr) (cc : Nat) (ao : Option Addr) (co : Nat) (ar : Option Addr) (cr : Nat), e = .returned (.tuple #[.slice ac C.length cc, .agg #[.slice ao H.objs.length co, .slice ar H.roots.length cr]]) ∧ Ous W.heap.size W ac C ∧ Objs W.heap.size W ao H.objs ∧ Vals W.heap.size W ar H.roots ∧ Hid (C = (playM (newM g) ds).1 ∧ H = canonG (grM (playM (newM g) ds).2))

theorem wrongM_out (m : Mm) (d : Dd) (h : wrongM m d ≠ 0) : stepM m d = (⟨wrongM m d, false, 0⟩, m) := by unfold stepM; rw [if_neg h]

theorem IdRes.mk0 {g : Gr} {ds : List Dd} {W : World} {C : List Ou} {H : Gr} {ac : Option Addr} {cc : Nat} {ao : Option Addr} {co : Nat} {ar : Option Addr} {cr : Nat} (hl : C.length = ds.length) (hp : Hid (C = (playM (newM g) ds).1 ∧ H = canonG (grM (playM (newM g) ds).2))) (h : Ous W.heap.size W ac C) (h' : Objs W.heap.size W ao H.objs) (h'' : Vals W.heap.size W ar H.roots) :
    IdRes g ds (.returned (.tuple #[.slice ac ds.length cc, .agg #[.slice ao H.objs.length co, .slice ar H.roots.length cr]])) W :=
  ⟨C, H, ac, cc, ao, co, ar, cr, by rw [hl], h, h', h'', hp⟩

set_option maxRecDepth 100000 in
set_option maxHeartbeats 4000000 in
theorem ideal_c (ao ar : Option Addr) (co cr : Nat) (g : Gr) (a : Option Addr) (c : Nat) (ds : List Dd) (B : Nat) (w : World) (ho : Objs B w ao g.objs) (hr : Vals B w ar g.roots) (hB : B ≤ w.heap.size) (hds : Dos B w a ds) (hc : checkG g = 0) (hl : ds.length ≤ 100) :
    Calls Try.prog 9 #[.agg #[.slice ao g.objs.length co, .slice ar g.roots.length cr], .slice a ds.length c] w fun e w' => IdRes g ds e w' ∧ Below w.heap.size w w' := by
  have hG := good_of_check hc
  have hn24 := len_of_check hc
  have h8 := hG.n8
  have hb1 := ((Below.refl w.heap.size w).alloc (Nat.le_refl _) (.cells #[.slice ao g.objs.length co, .slice ar g.roots.length cr] 25)).alloc (by simp) (.cells #[.slice none 0 0, .slice none 0 0] 25)
  obtain ⟨W2, hW2⟩ : ∃ W2, (w.alloc (.cells #[.slice ao g.objs.length co, .slice ar g.roots.length cr] 25)).alloc (.cells #[.slice none 0 0, .slice none 0 0] 25) = W2 := ⟨_, rfl⟩
  have hs2 : W2.heap.size = w.heap.size + 2 := by rw [← hW2]; simp
  have g0 : W2.cell? ⟨w.heap.size, 0, none⟩ = some (.slice ao g.objs.length co) := by rw [← hW2]; simp [go_sem]
  have g1 : W2.cell? ⟨w.heap.size, 1, none⟩ = some (.slice ar g.roots.length cr) := by rw [← hW2]; simp [go_sem]
  have q0 : W2.cell? ⟨w.heap.size + 1, 0, none⟩ = some (.slice none 0 0) := by rw [← hW2]; simp [go_sem]
  have q1 : W2.cell? ⟨w.heap.size + 1, 1, none⟩ = some (.slice none 0 0) := by rw [← hW2]; simp [go_sem]
  have f0 : W2.frozen? ⟨w.heap.size + 1, 0, none⟩ = false := by rw [← hW2]; simp [go_sem]
  have f1 : W2.frozen? ⟨w.heap.size + 1, 1, none⟩ = false := by rw [← hW2]; simp [go_sem]
  rw [hW2] at hb1
  have Hnew := hide (newmem_c ao ar co cr g B W2 (ho.below (hb1.mono hB)) (hr.below (hb1.mono hB)) (by omega) hn24 h8 hG.n4)
  have HG := hide hG
  have Hcc := hide hc
  have hlw : w.heap.size < W2.heap.size := by omega
  have hlw1 : w.heap.size + 1 < W2.heap.size := by omega
  clear hG hc ho hr
  go_enter Try.func9, Try.ntmps9
  go_wp2_with fail
  clear hW2
  refine (unhide Hnew).mono ?_
  rintro e w3 ⟨⟨rb, vr, vo, vg, fb, rfl, HP3⟩, hb3⟩
  have hs3 := hb3.size
  have q0 := (hb3.cell (p := ⟨w.heap.size + 1, 0, none⟩) hlw1).trans q0
  have q1 := (hb3.cell (p := ⟨w.heap.size + 1, 1, none⟩) hlw1).trans q1
  have f0 := (hb3.frozen (p := ⟨w.heap.size + 1, 0, none⟩) hlw1).trans f0
  have f1 := (hb3.frozen (p := ⟨w.heap.size + 1, 1, none⟩) hlw1).trans f1
  clear Hnew g0 g1
  obtain ⟨N, HN⟩ : ∃ N, Hid (W2.heap.size + 1 = N) := ⟨_, rfl⟩
  have hN1 : W2.heap.size + 1 ≤ N := Nat.le_of_eq (unhide HN)
  have hN2 : N ≤ w3.heap.size := by have := lt_of_heap (unhide HP3).box; have := (unhide HP3).lo; have := unhide HN; omega
  rw [unhide HN] at HP3
  have HM := hide (newM_ok (unhide HG))
  have hgl : (List.replicate g.objs.length false).length = g.objs.length := by simp
  generalize List.replicate g.objs.length false = gs at *
  have Hgl := hide (show gs.length ≤ 24 by omega)
  clear hgl HN
  go_wp2
  go_loopw [7, 15] (fun outs i wr => ∃ (k : Nat) (vo vg : Value) (fb : List Value) (gs : List Bool), k ≤ ds.length ∧ i = .int .i64 k ∧ Hid (RM wr N rb vr vo vg fb (playM (newM g) (ds.take k)).2 gs) ∧ Hid (gs.length ≤ 24 + k) ∧ Hid (wr.ownsRow W2.heap.size 55 3 outs k (cellsO (playM (newM g) (ds.take k)).1)) ∧ Below W2.heap.size w3 wr) (fun _ i _ => ds.length - (intOf i).toNat)
  case atStart => exact ⟨0, vo, vg, fb, gs, Nat.zero_le _, rfl, HP3, Hgl, hide (World.ownsRow_nil _ _ _ _), Below.refl _ _⟩
  case round =>
    clear HP3 Hgl gs vo vg fb
    obtain ⟨k, vo, vg, fb, gs, hk, rfl, HP, Hgl, HR, hb⟩ := hrel
    have hsz := hb.size
    have hb23 : Below W2.heap.size W2 wr := hb3.trans hb
    have hbw : Below w.heap.size w wr := hb1.trans (hb23.mono (by omega))
    by_cases hlt : k < ds.length
    · obtain ⟨b, off, rfl, hbB, d0, d1, d2, d3, d4⟩ := ((hds.below (hbw.mono hB))).at (List.getElem?_eq_getElem hlt)
      have hkI : (k : Int) < (ds.length : Int) := by omega
      have HS := hide (playM_snoc (newM g) hlt)
      obtain ⟨hM, hMl⟩ := (unhide HM).play (ds.take k)
      have hol : (playM (newM g) (ds.take k)).2.objs.length ≤ 200 := by
        have h3 : (newM g).objs.length = g.objs.length := rfl
        rw [List.length_take] at hMl
        omega
      have HM1 := hide hM
      have HL1 := hide hol
      have HL2 := hide (show gs.length ≤ 200 by have := unhide Hgl; omega)
      clear hM hMl hol
      generalize playM (newM g) (ds.take k) = st at *
      obtain ⟨Cs, m⟩ := st
      generalize ds[k] = d at *
      obtain ⟨dk, dd, dsr, df, dn⟩ := d
      simp only at d0 d1 d2 d3 d4
      obtain ⟨oa, oc, rfl⟩ := ownsRow_slice (unhide HR)
      have hrb : rb < wr.heap.size := lt_of_heap (unhide HP).box
      obtain ⟨W6, hW6⟩ : ∃ W6, wr.alloc (.cells #[.int .i64 dk, .int .i64 dd, .int .i64 dsr, .int .i64 df, .int .i64 dn] 53) = W6 := ⟨_, rfl⟩
      have hb6 : Below wr.heap.size wr W6 := by rw [← hW6]; exact (Below.refl _ _).alloc (Nat.le_refl _) _
      have hl6 : wr.heap.size < W6.heap.size := by rw [← hW6]; simp
      have e0 : W6.cell? ⟨wr.heap.size, 0, none⟩ = some (.int .i64 dk) := by rw [← hW6]; simp [go_sem]
      have e1 : W6.cell? ⟨wr.heap.size, 1, none⟩ = some (.int .i64 dd) := by rw [← hW6]; simp [go_sem]
      have e2 : W6.cell? ⟨wr.heap.size, 2, none⟩ = some (.int .i64 dsr) := by rw [← hW6]; simp [go_sem]
      have e3 : W6.cell? ⟨wr.heap.size, 3, none⟩ = some (.int .i64 df) := by rw [← hW6]; simp [go_sem]
      have e4 : W6.cell? ⟨wr.heap.size, 4, none⟩ = some (.int .i64 dn) := by rw [← hW6]; simp [go_sem]
      have hP6 := (unhide HP).below hb6
      have hR6 := ownsRow_below (unhide HR) hb6
      have Hwr := hide (rwrong_c N rb vr vo vg fb m gs ⟨dk, dd, dsr, df, dn⟩ W6 hP6 (unhide HM1))
      obtain ⟨i0, hi, hz0, hz1, hz2⟩ := info_parts Try.info55o
      have hmx : k + 1 ≤ maxLen := by simp only [maxLen]; omega
      have hmy : (k + 1) * 24 ≤ 140737488355328 := by omega
      have HP6 := hide hP6
      have HR6 := hide hR6
      clear hP6 hR6
      by_cases hw0 : wrongM m ⟨dk, dd, dsr, df, dn⟩ = 0
      · have Hw0 := hide hw0
        rw [hw0] at Hwr
        clear hw0
        go_wp2_with fail
        clear hW6
        refine (unhide Hwr).mono ?_
        rintro e w7 ⟨rfl, hb7⟩
        have hs7 := hb7.size
        have e0 := (hb7.cell (p := ⟨wr.heap.size, 0, none⟩) hl6).trans e0
        have e1 := (hb7.cell (p := ⟨wr.heap.size, 1, none⟩) hl6).trans e1
        have e2 := (hb7.cell (p := ⟨wr.heap.size, 2, none⟩) hl6).trans e2
        have e3 := (hb7.cell (p := ⟨wr.heap.size, 3, none⟩) hl6).trans e3
        have e4 := (hb7.cell (p := ⟨wr.heap.size, 4, none⟩) hl6).trans e4
        have hl7 : wr.heap.size < w7.heap.size := by omega
        have hP7 := (unhide HP6).below hb7
        have hR7 := ownsRow_below (unhide HR6) hb7
        have hOut := hP7.row_out hR7
        have Hdo := hide (rdo_c N rb vr vo vg fb m gs ⟨dk, dd, dsr, df, dn⟩ w7 hP7 (unhide HM1) (unhide Hw0) (unhide HL2) (unhide HL1) (by omega))
        obtain ⟨R, HRs⟩ : ∃ R, Hid (stepM m ⟨dk, dd, dsr, df, dn⟩ = R) := ⟨_, rfl⟩
        rw [unhide HRs] at Hdo HS
        obtain ⟨⟨xc, xr, xn⟩, m'⟩ := R
        have hone : ∀ u ∈ ([.int .i64 xc, .bool xr, .int .i64 xn] : List Value), u.oneCell' = true := by simp [Value.oneCell']
        have HP7 := hide hP7
        have HR7 := hide hR7
        have HOut := hide hOut
        clear hP7 hR7 hOut Hwr HP6 HR6
        simp only [ddV, ouV] at Hdo
        go_wp2_with fail
        refine (unhide Hdo).mono ?_
        rintro e w8 ⟨rfl, gs', hg8, vo8, vg8, fb8, hP8, hK8, hS8⟩
        have hs8 := hK8.size
        have hR8 := row_same (unhide HR7) (fun j hj => hK8.block j ((unhide HR7).lt j hj).2 ((unhide HOut) j hj))
        have hOut8 := hP8.row_out hR8
        have hrow8 := hR8.alloc (.cells #[.int .i64 xc, .bool xr, .int .i64 xn] 55)
        have hbase : W2.heap.size ≤ (w8.alloc (.cells #[.int .i64 xc, .bool xr, .int .i64 xn] 55)).heap.size := by simp; omega
        have hs6 := hb6.size
        have HP8 := hide hP8
        have HK8 := hide hK8
        have HOut8 := hide hOut8
        have Hg8 := hide hg8
        have Hfin : Hid (∀ (v' : Value) (w9 : World), w9.ownsRow W2.heap.size 55 3 v' (k + 1) (cellsO Cs ++ [.int .i64 xc, .bool xr, .int .i64 xn]) → (w8.alloc (.cells #[.int .i64 xc, .bool xr, .int .i64 xn] 55)).grownBy w9 (Value.ownBlock (.slice oa k oc)) → RM w9 N rb vr vo8 vg8 fb8 m' gs' ∧ Below W2.heap.size w3 w9) := fun v' w9 hr9 hg9 => by
          have ha : Below w8.heap.size w8 (w8.alloc (.cells #[.int .i64 xc, .bool xr, .int .i64 xn] 55)) := (Below.refl _ _).alloc (Nat.le_refl _) _
          refine ⟨((unhide HP8).below ha).same (fun j hj => hg9.block j (((unhide HP8).below ha).lt hj).2 (fun e => (unhide HOut8) j e.symm hj)), ?_⟩
          have h67 : Below W2.heap.size w7 w8 := (unhide HK8).below (by omega) (fun j hj => by have := ((unhide HP7).lt hj).1; omega)
          exact ((((hb.trans (hb6.mono (by omega))).trans (hb7.mono (by omega))).trans h67).trans (ha.mono (by omega))).grown hg9 (by simp; omega) (fun j e => ((unhide HR7).lt j e).1)
        clear hP8 hK8 hR8 hOut8 hS8 hg8 d0 d1 d2 d3 d4 e0 e1 e2 e3 e4 Hdo
        go_wp2_with (at_builtin; go_must (refine wpList_append_own_at _ rfl _ _ 27 rfl W2.heap.size 55 i0 _ 3 24 Try.underlying27 hi hz0 hz1 hz2 rfl (by decide) _ k _ rfl hrow8 ⟨w8.heap.size, 0, none⟩ 1 1 [.int .i64 xc, .bool xr, .int .i64 xn] rfl rfl (cell_three_at _ _ _ _ _ _ rfl) hone hmx hmy hbase ?_); go_must (intro v9 w9 hrow9 hg9 _ hat9; have Hf9 := hide ((unhide Hfin) v9 w9 hrow9 hg9); have Hr9 := hide hrow9; clear hrow9 hg9 hat9))
        go_roundw
        case rel =>
          refine ⟨k + 1, vo8, vg8, fb8, gs', by omega, by go_num, ?_, hide (by have := unhide Hgl; have := unhide Hg8; omega), ?_, (unhide Hf9).2⟩
          · rw [unhide HS]; exact hide (unhide Hf9).1
          · rw [unhide HS]; refine hide ?_
            simp only [cellsO_snoc]
            exact unhide Hr9
        case measure => simp [intOf]; omega
      · have Hst := hide (wrongM_out m ⟨dk, dd, dsr, df, dn⟩ hw0)
        rw [unhide Hst] at HS
        obtain ⟨xc, Hxc⟩ : ∃ xc, Hid (wrongM m ⟨dk, dd, dsr, df, dn⟩ = xc) := ⟨_, rfl⟩
        rw [unhide Hxc] at HS Hwr hw0
        have hnz : (xc != 0) = true := by simpa using hw0
        have hone : ∀ u ∈ ([.int .i64 xc, .bool false, .int .i64 0] : List Value), u.oneCell' = true := by simp [Value.oneCell']
        clear hw0 Hst Hxc
        go_wp2_with fail
        clear hW6
        refine (unhide Hwr).mono ?_
        rintro e w7 ⟨rfl, hb7⟩
        have hs7 := hb7.size
        have hP7 := (unhide HP6).below hb7
        have hR7 := ownsRow_below (unhide HR6) hb7
        have hOut := hP7.row_out hR7
        have hrow8 := hR7.alloc (.cells #[.int .i64 xc, .bool false, .int .i64 0] 55)
        have hbase : W2.heap.size ≤ (w7.alloc (.cells #[.int .i64 xc, .bool false, .int .i64 0] 55)).heap.size := by simp; omega
        have hs6 := hb6.size
        have HP7 := hide hP7
        have HR7 := hide hR7
        have HOut := hide hOut
        have Hfin : Hid (∀ (v' : Value) (w9 : World), w9.ownsRow W2.heap.size 55 3 v' (k + 1) (cellsO Cs ++ [.int .i64 xc, .bool false, .int .i64 0]) → (w7.alloc (.cells #[.int .i64 xc, .bool false, .int .i64 0] 55)).grownBy w9 (Value.ownBlock (.slice oa k oc)) → RM w9 N rb vr vo vg fb m gs ∧ Below W2.heap.size w3 w9) := fun v' w9 hr9 hg9 => by
          have ha : Below w7.heap.size w7 (w7.alloc (.cells #[.int .i64 xc, .bool false, .int .i64 0] 55)) := (Below.refl _ _).alloc (Nat.le_refl _) _
          refine ⟨((unhide HP7).below ha).same (fun j hj => hg9.block j (((unhide HP7).below ha).lt hj).2 (fun e => (unhide HOut) j e.symm hj)), ?_⟩
          exact (((hb.trans (hb6.mono (by omega))).trans (hb7.mono (by omega))).trans (ha.mono (by omega))).grown hg9 (by simp; omega) (fun j e => ((unhide HR7).lt j e).1)
        clear hP7 hR7 hOut d0 d1 d2 d3 d4 e0 e1 e2 e3 e4 Hwr
        go_wp2_with (at_builtin; go_must (refine wpList_append_own_at _ rfl _ _ 27 rfl W2.heap.size 55 i0 _ 3 24 Try.underlying27 hi hz0 hz1 hz2 rfl (by decide) _ k _ rfl hrow8 ⟨w7.heap.size, 0, none⟩ 1 1 [.int .i64 xc, .bool false, .int .i64 0] rfl rfl (cell_three_at _ _ _ _ _ _ rfl) hone hmx hmy hbase ?_); go_must (intro v9 w9 hrow9 hg9 _ hat9; have Hf9 := hide ((unhide Hfin) v9 w9 hrow9 hg9); have Hr9 := hide hrow9; clear hrow9 hg9 hat9))
        go_roundw
        case rel =>
          refine ⟨k + 1, vo, vg, fb, gs, by omega, by go_num, ?_, hide (by have := unhide Hgl; omega), ?_, (unhide Hf9).2⟩
          · rw [unhide HS]; exact hide (unhide Hf9).1
          · rw [unhide HS]; refine hide ?_
            simp only [cellsO_snoc]
            exact unhide Hr9
        case measure => simp [intOf]; omega
    · obtain rfl : k = ds.length := by omega
      rw [List.take_length] at HP HR
      obtain ⟨e1, e2, e3, e4⟩ := play_end (unhide Hcc) ds hl
      have hCl : (playM (newM g) ds).1.length = ds.length := playM_len _ _
      have Hgr := hide (graph_c N rb vr vo vg fb (playM (newM g) ds).2 gs wr (unhide HP) e1 (by omega))
      obtain ⟨C, HC⟩ : ∃ C, Hid ((playM (newM g) ds).1 = C) := ⟨_, rfl⟩
      obtain ⟨H, HH⟩ : ∃ H, Hid (canonG (grM (playM (newM g) ds).2) = H) := ⟨_, rfl⟩
      rw [unhide HC] at HR hCl
      rw [unhide HH] at Hgr
      obtain ⟨ca, cc, hov, hOu, hcc⟩ := ous_of_row (l := C) (by rw [hCl]; exact unhide HR) (by omega)
      have Hcl := hide hCl
      have HOu := hide hOu
      have q0 := (hb.cell (p := ⟨w.heap.size + 1, 0, none⟩) (by omega)).trans q0
      have q1 := (hb.cell (p := ⟨w.heap.size + 1, 1, none⟩) (by omega)).trans q1
      have f0 := (hb.frozen (p := ⟨w.heap.size + 1, 0, none⟩) (by omega)).trans f0
      have f1 := (hb.frozen (p := ⟨w.heap.size + 1, 1, none⟩) (by omega)).trans f1
      rw [hCl] at hov hcc
      subst hov
      have Hpy : Hid (C = (playM (newM g) ds).1 ∧ H = canonG (grM (playM (newM g) ds).2)) := ⟨(unhide HC).symm, (unhide HH).symm⟩
      clear hCl e1 e2 e3 e4 hOu hcc HP HR HC HH
      go_wp2_with fail
      refine (unhide Hgr).mono ?_
      rintro e w6 ⟨⟨ao6, co6, ar6, cr6, rfl, hO6, hV6⟩, hb6⟩
      have hl5 : w.heap.size + 1 < wr.heap.size := by omega
      have hl6 : w.heap.size + 1 < w6.heap.size := Nat.lt_of_lt_of_le hl5 hb6.size
      have y0 := (hb6.cell (p := ⟨w.heap.size + 1, 0, none⟩) hl5).trans q0
      have y1 := (hb6.cell (p := ⟨w.heap.size + 1, 1, none⟩) hl5).trans q1
      have z0 := (hb6.frozen (p := ⟨w.heap.size + 1, 0, none⟩) hl5).trans f0
      have z1 := (hb6.frozen (p := ⟨w.heap.size + 1, 1, none⟩) hl5).trans f1
      have HO6 := hide hO6
      have HV6 := hide hV6
      have HB6 := hide hb6
      clear hO6 hV6 hb6 q0 q1 f0 f1 Hgr
      go_wp2
      refine bodyPost_ret (v := .tuple #[.slice ca ds.length cc, .agg #[.slice ao6 H.objs.length co6, .slice ar6 H.roots.length cr6]]) (by simp [results, Try.results9, go_sem, y0, y1, hl6]) rfl ⟨?_, ?_⟩
      · have hou := ((unhide HOu).below (unhide HB6)).setCell (p := ⟨w.heap.size + 1, 0, none⟩) hlw1 (.slice ao6 H.objs.length co6) |>.setCell (p := ⟨w.heap.size + 1, 1, none⟩) hlw1 (.slice ar6 H.roots.length cr6)
        have hob := ((unhide HO6).setCell (p := ⟨w.heap.size + 1, 0, none⟩) hl5 (.slice ao6 H.objs.length co6)).setCell (p := ⟨w.heap.size + 1, 1, none⟩) hl5 (.slice ar6 H.roots.length cr6)
        have hva := ((unhide HV6).setCell (p := ⟨w.heap.size + 1, 0, none⟩) hl5 (.slice ao6 H.objs.length co6)).setCell (p := ⟨w.heap.size + 1, 1, none⟩) hl5 (.slice ar6 H.roots.length cr6)
        exact IdRes.mk0 (unhide Hcl) Hpy hou.1 hob.objs hva.1
      · exact ((hbw.trans ((unhide HB6).mono hbw.size)).setCell (p := ⟨w.heap.size + 1, 0, none⟩) (by show w.heap.size ≤ w.heap.size + 1; omega) _).setCell (p := ⟨w.heap.size + 1, 1, none⟩) (by show w.heap.size ≤ w.heap.size + 1; omega) _

end Go.Proofs.Ytlolcdgbidboeaa

/- Walks: the document's answer: Values, Graphs. -/
namespace Go.Proofs.Ytlolcdgbidboeaa
set_option linter.unusedSimpArgs false
set_option linter.unusedVariables false
open Go.RowKit

set_option maxRecDepth 100000 in
set_option maxHeartbeats 1000000 in
theorem values_eq_c (a1 a2 : Option Addr) (c1 c2 : Nat) (l1 l2 : List V) (B : Nat) (w : World) (h1 : Vals B w a1 l1) (h2 : Vals B w a2 l2) (hB : B ≤ w.heap.size) :
    Calls Try.prog 20 #[.slice a1 l1.length c1, .slice a2 l2.length c2] w fun e w' => e = .returned (.bool (decide (l1 = l2))) ∧ Below w.heap.size w w' := by
  have hl1 := h1.1
  have hl2 := h2.1
  by_cases hl : l1.length = l2.length
  · have d1 : ((l1.length : Int) != (l2.length : Int)) = false := by simp [hl]
    have d2 : ((l2.length : Int) != (l2.length : Int)) = false := by simp
    rw [hl]
    go_enter Try.func20, Try.ntmps20
    go_wp2
    go_loopw [5] (fun i wr => ∃ k : Nat, k ≤ l2.length ∧ i = .int .i64 k ∧ l1.take k = l2.take k ∧ Below w.heap.size w wr) (fun i _ => l2.length - (intOf i).toNat)
    case atStart => exact ⟨0, Nat.zero_le _, rfl, by simp, Below.refl _ _⟩
    case round =>
      obtain ⟨k, hk, rfl, heq, hb⟩ := hrel
      have Heq := hide heq
      clear heq
      by_cases hlt : k < l2.length
      · have hlt1 : k < l1.length := by omega
        obtain ⟨b1, o1, r1, n1, rfl, hbB1, hx1, hx2, Hv1⟩ := (h1.below (hb.mono hB)).at hlt1
        obtain ⟨b2, o2, r2, n2, rfl, hbB2, hy1, hy2, Hv2⟩ := (h2.below (hb.mono hB)).at hlt
        have hltI : (k : Int) < (l2.length : Int) := by omega
        have hgd := guard35
        have HT1 := hide (List.take_succ_eq_append_getElem hlt1)
        have HT2 := hide (List.take_succ_eq_append_getElem hlt)
        rw [Hv1.out] at HT1
        rw [Hv2.out] at HT2
        cases hE : (r1 == r2 && n1 == n2)
        · have he : ∀ w, (Op.equalIn 10000 47 (.agg #[.bool r1, .int .i64 n1]) (.agg #[.bool r2, .int .i64 n2])).run Try.prog w = .ok false w := fun w => by rw [eql_in, hE]
          have HE := hide hE
          clear hE
          go_wp2
          go_still Try.mixed
          go_wp2
          go_ret
          refine ⟨ret_bool (Eq.symm ?_), hb.trans (Below.refl _ _).drew⟩
          rw [decide_eq_false_iff_not]
          intro e
          subst e
          have := Hv1.out.symm.trans Hv2.out
          simp only [Prod.mk.injEq] at this
          have := unhide HE
          simp_all
        · have he : ∀ w, (Op.equalIn 10000 47 (.agg #[.bool r1, .int .i64 n1]) (.agg #[.bool r2, .int .i64 n2])).run Try.prog w = .ok true w := fun w => by rw [eql_in, hE]
          have HE := hide hE
          clear hE
          go_wp2
          go_still Try.mixed
          go_wp2
          go_roundw
          case rel =>
            refine ⟨k + 1, by omega, by go_num, ?_, hb.trans (Below.refl _ _).drew⟩
            rw [unhide HT1, unhide HT2, unhide Heq]
            have := unhide HE
            simp at this
            rw [this.1, this.2]
          case measure => simp [intOf]; omega
      · obtain rfl : k = l2.length := by omega
        go_wp2
        go_ret
        refine ⟨ret_bool (Eq.symm ?_), hb⟩
        rw [decide_eq_true_iff]
        have := unhide Heq
        rw [List.take_length, ← hl, List.take_length] at this
        exact this
  · have d1 : ((l1.length : Int) != (l2.length : Int)) = true := by simp; omega
    go_enter Try.func20, Try.ntmps20
    go_wp2
    go_ret
    refine ⟨ret_bool (Eq.symm ?_), Below.refl _ _⟩
    rw [decide_eq_false_iff_not]
    intro e
    exact hl (by rw [e])

set_option maxRecDepth 100000 in
set_option maxHeartbeats 1000000 in
theorem graphs_c (ao ar bo br : Option Addr) (co cr do' dr : Nat) (g h : Gr) (B : Nat) (w : World) (ho : Objs B w ao g.objs) (hr : Vals B w ar g.roots) (ko : Objs B w bo h.objs) (kr : Vals B w br h.roots) (hB : B ≤ w.heap.size) :
    Calls Try.prog 8 #[.agg #[.slice ao g.objs.length co, .slice ar g.roots.length cr], .agg #[.slice bo h.objs.length do', .slice br h.roots.length dr]] w fun e w' => e = .returned (.bool (sameG g h)) ∧ Below w.heap.size w w' := by
  have ho1 := ho.1
  have ko1 := ko.1
  obtain ⟨W0, hW0⟩ : ∃ W0, (w.alloc (.cells #[.slice ao g.objs.length co, .slice ar g.roots.length cr] 25)).alloc (.cells #[.slice bo h.objs.length do', .slice br h.roots.length dr] 25) = W0 := ⟨_, rfl⟩
  have hb0 : Below w.heap.size w W0 := by rw [← hW0]; exact ((Below.refl _ _).alloc (Nat.le_refl _) _).alloc (by simp) _
  have hs0 : w.heap.size + 1 < W0.heap.size := by rw [← hW0]; simp
  have g0 : W0.cell? ⟨w.heap.size, 0, none⟩ = some (.slice ao g.objs.length co) := by rw [← hW0]; simp [go_sem]
  have g1 : W0.cell? ⟨w.heap.size, 1, none⟩ = some (.slice ar g.roots.length cr) := by rw [← hW0]; simp [go_sem]
  have k0 : W0.cell? ⟨w.heap.size + 1, 0, none⟩ = some (.slice bo h.objs.length do') := by rw [← hW0]; simp [go_sem]
  have k1 : W0.cell? ⟨w.heap.size + 1, 1, none⟩ = some (.slice br h.roots.length dr) := by rw [← hW0]; simp [go_sem]
  by_cases hl : g.objs.length = h.objs.length
  · have d1 : ((g.objs.length : Int) != (h.objs.length : Int)) = false := by simp [hl]
    have d2 : ((h.objs.length : Int) != (h.objs.length : Int)) = false := by simp
    have hla : g.objs.length ≤ h.objs.length := by omega
    have hlb : h.objs.length ≤ g.objs.length := by omega
    have Hl := hide hl
    clear hl
    cases hE : decide (g.roots = h.roots)
    · have HE := hide hE
      have Hs := hide (show sameG g h = false from by unfold sameG; rw [hE]; rfl)
      clear hE
      go_enter Try.func8, Try.ntmps8
      go_wp2_with (go_at_call 20; go_must (refine (values_eq_c _ _ _ _ g.roots h.roots B _ (hr.below (hb0.mono hB)) (kr.below (hb0.mono hB)) (by omega)).mono ?_); go_must (rintro e w3 ⟨he, hb3⟩; rw [unhide HE] at he; subst he))
      go_ret
      exact ⟨ret_bool (unhide Hs).symm, hb0.trans (hb3.mono (by omega))⟩
    · have HE := hide hE
      have Hs := hide (show sameG g h = decide (g.objs = h.objs) from by unfold sameG; rw [hE]; simp)
      clear hE
      go_enter Try.func8, Try.ntmps8
      go_wp2_with (go_at_call 20; go_must (refine (values_eq_c _ _ _ _ g.roots h.roots B _ (hr.below (hb0.mono hB)) (kr.below (hb0.mono hB)) (by omega)).mono ?_); go_must (rintro e w3 ⟨he, hb3⟩; rw [unhide HE] at he; subst he))
      clear hW0
      go_loopw [5] (fun i wr => ∃ k : Nat, k ≤ h.objs.length ∧ i = .int .i64 k ∧ g.objs.take k = h.objs.take k ∧ Below W0.heap.size W0 wr) (fun i _ => h.objs.length - (intOf i).toNat)
      case atStart => exact ⟨0, Nat.zero_le _, rfl, by simp, hb3⟩
      case round =>
        obtain ⟨k, hk, rfl, heq, hb⟩ := hrel
        have hsz := hb.size
        have Heq := hide heq
        clear heq
        have hbw : Below B w wr := (hb0.mono hB).trans (hb.mono (by omega))
        have g0 := (hb.cell (p := ⟨w.heap.size, 0, none⟩) (by simp; omega)).trans g0
        have k0 := (hb.cell (p := ⟨w.heap.size + 1, 0, none⟩) (by simp; omega)).trans k0
        by_cases hlt : k < h.objs.length
        · have hlt1 : k < g.objs.length := by omega
          obtain ⟨b1, o1, ai1, ci1, rfl, hbB1, hx1, hv1⟩ := (ho.below hbw).at hlt1
          obtain ⟨b2, o2, ai2, ci2, rfl, hbB2, hy1, hv2⟩ := (ko.below hbw).at hlt
          have HT1 := hide (List.take_succ_eq_append_getElem hlt1)
          have HT2 := hide (List.take_succ_eq_append_getElem hlt)
          have HN : Hid (g.objs[k] ≠ h.objs[k] → g.objs ≠ h.objs) := fun hne e => hne (by simp only [e])
          generalize g.objs[k] = f1 at *
          generalize h.objs[k] = f2 at *
          have hkI : (k : Int) < (h.objs.length : Int) := by omega
          have hkI1 : (k : Int) < (g.objs.length : Int) := by omega
          have hv1d := hv1.below (Below.refl B wr).drew
          have hv2d := hv2.below (Below.refl B wr).drew
          have hBd : B ≤ wr.drew.heap.size := by show B ≤ wr.heap.size; omega
          cases hE : decide (f1 = f2)
          · have HE := hide hE
            clear hE
            go_wp2
            go_still_tail 12, Try.mixed
            go_wp2_with (go_at_call 20; go_must (refine (values_eq_c _ _ _ _ f1 f2 B _ hv1d hv2d hBd).mono ?_); go_must (rintro e w4 ⟨he, hb4⟩; rw [unhide HE] at he; subst he))
            go_ret
            refine ⟨ret_bool (Eq.symm ?_), hb0.trans ((hb.mono (by omega)).trans ((Below.refl _ _).drew.trans (hb4.mono (by show w.heap.size ≤ wr.heap.size; omega))))⟩
            rw [unhide Hs, decide_eq_false_iff_not]
            exact unhide HN (by simpa using unhide HE)
          · have HE := hide hE
            clear hE
            go_wp2
            go_still_tail 12, Try.mixed
            go_wp2_with (go_at_call 20; go_must (refine (values_eq_c _ _ _ _ f1 f2 B _ hv1d hv2d hBd).mono ?_); go_must (rintro e w4 ⟨he, hb4⟩; rw [unhide HE] at he; subst he))
            go_roundw
            case rel =>
              refine ⟨k + 1, by omega, by go_num, ?_, hb.trans ((Below.refl _ _).drew.trans (hb4.mono (by show W0.heap.size ≤ wr.heap.size; omega)))⟩
              rw [unhide HT1, unhide HT2, unhide Heq, of_decide_eq_true (unhide HE)]
            case measure => simp [intOf]; omega
        · obtain rfl : k = h.objs.length := by omega
          go_wp2
          go_ret
          refine ⟨ret_bool (Eq.symm ?_), hb0.trans (hb.mono (by omega))⟩
          rw [unhide Hs, decide_eq_true_iff]
          have := unhide Heq
          rw [List.take_length, ← unhide Hl, List.take_length] at this
          exact this
  · have d1 : ((g.objs.length : Int) != (h.objs.length : Int)) = true := by simp; omega
    go_enter Try.func8, Try.ntmps8
    go_wp2
    go_ret
    refine ⟨ret_bool (Eq.symm ?_), hb0⟩
    have : decide (g.objs = h.objs) = false := by rw [decide_eq_false_iff_not]; intro e; exact hl (by rw [e])
    unfold sameG; rw [this]; simp

end Go.Proofs.Ytlolcdgbidboeaa

/- Walks: IdealPlays. -/
namespace Go.Proofs.Ytlolcdgbidboeaa
set_option linter.unusedSimpArgs false
set_option linter.unusedVariables false
open Go.RowKit Go.Shelf

theorem play_c (ao ar : Option Addr) (co cr : Nat) (g : Gr) (a : Option Addr) (c : Nat) (ds : List Dd) (B : Nat) (w : World) (ho : Objs B w ao g.objs) (hr : Vals B w ar g.roots) (hB : B ≤ w.heap.size) (hds : Dos B w a ds) :
    Calls Try.prog 6 #[.agg #[.slice ao g.objs.length co, .slice ar g.roots.length cr], .slice a ds.length c] w fun e w' => PyRes g ds w.heap.size e w' ∧ Below w.heap.size w w' := by
  by_cases hE : playE g ds.length = 0
  · have h1 : checkG g = 0 := by
      unfold playE at hE
      by_cases h : checkG g = 0
      · exact h
      · rw [if_pos h] at hE; exact hE
    have h2 : ds.length ≤ 100 := by
      unfold playE at hE
      rw [if_neg (by simp [h1])] at hE
      split at hE
      · cases hE
      · omega
    exact play_good ao ar co cr g a c ds B w ho hr hB hds h1 h2
  · exact play_bad ao ar co cr g a c ds B w ho hr hB hds.1 hE

theorem sameG_self (g : Gr) : sameG g g = true := by simp [sameG]

theorem gsame_c (ao ar bo br : Option Addr) (co cr do' dr : Nat) (g : Gr) (B : Nat) (w : World) (ho : Objs B w ao g.objs) (hr : Vals B w ar g.roots) (ko : Objs B w bo g.objs) (kr : Vals B w br g.roots) (hB : B ≤ w.heap.size) :
    Calls Try.prog 8 #[.agg #[.slice ao g.objs.length co, .slice ar g.roots.length cr], .agg #[.slice bo g.objs.length do', .slice br g.roots.length dr]] w fun e w' => e = .returned (.bool true) ∧ Below w.heap.size w w' := by
  have := graphs_c ao ar bo br co cr do' dr g g B w ho hr ko kr hB
  rw [sameG_self] at this
  exact this

/-- What Play tells where something is wrong, and where nothing is. -/
theorem PyRes.use {g : Gr} {ds : List Dd} {B0 : Nat} {e : Ending} {W : World} (h : PyRes g ds B0 e W) :
    (∃ (E : Int) (ac : Option Addr) (cc : Nat) (ao : Option Addr) (co : Nat) (ar : Option Addr) (cr : Nat), E ≠ 0 ∧ e = .returned (.tuple #[.slice ac 0 cc, .agg #[.slice ao 0 co, .slice ar 0 cr], .int .i64 E]) ∧ ((checkG g = E) ∨ (checkG g = 0 ∧ 100 < ds.length ∧ E = 1))) ∨
    (checkG g = 0 ∧ ds.length ≤ 100 ∧ ∃ (ac : Option Addr) (cc : Nat) (ao : Option Addr) (co : Nat) (ar : Option Addr) (cr : Nat), e = .returned (.tuple #[.slice ac (playM (newM g) ds).1.length cc, .agg #[.slice ao (canonG (grM (playM (newM g) ds).2)).objs.length co, .slice ar (canonG (grM (playM (newM g) ds).2)).roots.length cr], .int .i64 0]) ∧
      OusF B0 W ac (playM (newM g) ds).1 ∧ ObjsF B0 W ao (canonG (grM (playM (newM g) ds).2)).objs ∧ ValsF B0 W ar (canonG (grM (playM (newM g) ds).2)).roots ∧ (playM (newM g) ds).1.length ≤ cc) := by
  obtain ⟨C, H, ac, cc, ao, co, ar, cr, rfl, h1, h2, h3, h4, h5⟩ := h
  have h4 := unhide h4
  by_cases hc : checkG g = 0
  · by_cases hl : ds.length ≤ 100
    · have hE : playE g ds.length = 0 := by unfold playE; rw [if_neg (by simp [hc]), if_neg (by omega)]
      obtain ⟨rfl, rfl⟩ := h4.2 hE
      rw [hE]
      exact .inr ⟨hc, hl, ac, cc, ao, co, ar, cr, rfl, h1, h2, h3, h5⟩
    · have hE : playE g ds.length = 1 := by unfold playE; rw [if_neg (by simp [hc]), if_pos (by omega)]
      obtain ⟨rfl, rfl⟩ := h4.1 (by rw [hE]; decide)
      rw [hE]
      exact .inl ⟨1, ac, cc, ao, co, ar, cr, by decide, rfl, .inr ⟨hc, by omega, rfl⟩⟩
  · have hE : playE g ds.length = checkG g := by unfold playE; rw [if_pos hc]
    obtain ⟨rfl, rfl⟩ := h4.1 (by rw [hE]; exact hc)
    rw [hE]
    exact .inl ⟨_, ac, cc, ao, co, ar, cr, hc, rfl, .inl rfl⟩

theorem objs_nil (B : Nat) (w : World) (a : Option Addr) : Objs B w a [] := ⟨by simp, fun h => absurd rfl h⟩
theorem vals_nil (B : Nat) (w : World) (a : Option Addr) : Vals B w a [] := ⟨by simp, fun h => absurd rfl h⟩

end Go.Proofs.Ytlolcdgbidboeaa

/- Walks: IdealPlays. -/
namespace Go.Proofs.Ytlolcdgbidboeaa
set_option linter.unusedSimpArgs false
set_option linter.unusedVariables false
open Go.RowKit Go.Shelf

set_option maxRecDepth 100000 in
set_option maxHeartbeats 8000000 in
theorem plays_c (ao ar : Option Addr) (co cr : Nat) (g : Gr) (a : Option Addr) (c : Nat) (ds : List Dd) (w : World) (ho : Objs w.heap.size w ao g.objs) (hr : Vals w.heap.size w ar g.roots) (hds : Dos w.heap.size w a ds) :
    Calls Try.prog 3 #[.agg #[.slice ao g.objs.length co, .slice ar g.roots.length cr], .slice a ds.length c] w fun e w' => e = .returned (.bool true) ∧ Below w.heap.size w w' := by
  obtain ⟨W1, hW1⟩ : ∃ W1, w.alloc (.cells #[.slice ao g.objs.length co, .slice ar g.roots.length cr] 25) = W1 := ⟨_, rfl⟩
  have hb1 : Below w.heap.size w W1 := by rw [← hW1]; exact (Below.refl w.heap.size w).alloc (Nat.le_refl _) _
  have hs1 : w.heap.size < W1.heap.size := by rw [← hW1]; simp
  have g0 : W1.cell? ⟨w.heap.size, 0, none⟩ = some (.slice ao g.objs.length co) := by rw [← hW1]; simp [go_sem]
  have g1 : W1.cell? ⟨w.heap.size, 1, none⟩ = some (.slice ar g.roots.length cr) := by rw [← hW1]; simp [go_sem]
  have Hc1 := hide (play_c ao ar co cr g a c ds w.heap.size W1 (ho.below hb1) (hr.below hb1) (by omega) (hds.below hb1))
  go_enter Try.func3, Try.ntmps3
  go_wp2_with fail
  refine (unhide Hc1).mono ?_
  rintro e w2 ⟨hres, hb2⟩
  have hs2 := hb2.size
  have hbw2 : Below w.heap.size w w2 := hb1.trans (hb2.mono (by omega))
  replace g0 := (hb2.cell (p := ⟨w.heap.size, 0, none⟩) hs1).trans g0
  replace g1 := (hb2.cell (p := ⟨w.heap.size, 1, none⟩) hs1).trans g1
  have hl2 : w.heap.size < w2.heap.size := by omega
  clear hb1 hb2 Hc1 hW1
  rcases hres.use with ⟨E, ac, cc, ao', co', ar', cr', hE0, he, hcase⟩ | ⟨hc0, hl0, ac, cc, ao', co', ar', cr', he, hOu, hOb, hVa, hcc⟩
  · subst he
    clear hres
    obtain ⟨W2, hW2⟩ : ∃ W2, w2.alloc (.cells #[.slice ao' 0 co', .slice ar' 0 cr'] 25) = W2 := ⟨_, rfl⟩
    have hb2' : Below w2.heap.size w2 W2 := by rw [← hW2]; exact (Below.refl _ w2).alloc (Nat.le_refl _) _
    have hs2' : w2.heap.size < W2.heap.size := by rw [← hW2]; simp
    have k0 : W2.cell? ⟨w2.heap.size, 0, none⟩ = some (.slice ao' 0 co') := by rw [← hW2]; simp [go_sem]
    have k1 : W2.cell? ⟨w2.heap.size, 1, none⟩ = some (.slice ar' 0 cr') := by rw [← hW2]; simp [go_sem]
    have hbW2 : Below w.heap.size w W2 := hbw2.trans (hb2'.mono (by omega))
    have hwW2 : w.heap.size < W2.heap.size := by omega
    have Hc3 := hide (graphCheck_c ao ar co cr g w.heap.size W2 (ho.below hbW2) (hr.below hbW2) (by omega))
    have Hc7 : Hid (∀ W : World, Calls Try.prog 8 #[.agg #[.slice ao' 0 co', .slice ar' 0 cr'], .agg #[.slice none 0 0, .slice none 0 0]] W fun e w' => e = .returned (.bool true) ∧ Below W.heap.size W w') := fun W => gsame_c ao' ar' none none co' cr' 0 0 ⟨[], []⟩ W.heap.size W (objs_nil _ _ _) (vals_nil _ _ _) (objs_nil _ _ _) (vals_nil _ _ _) (Nat.le_refl _)
    have HW2 := hide hW2
    clear hW2
    have dE : (E != 0) = true := by simpa using hE0
    have dE' : (E == 0) = false := by simpa using hE0
    have dEE : (E == E) = true := by simp
    have d00 : ((0 : Int) == 0) = true := by simp
    clear hbw2
    rcases hcase with hEq | ⟨hEq, hlen, rfl⟩
    · rw [hEq] at Hc3
      clear hEq
      go_wp2_with fail
      rw [unhide HW2]
      refine (unhide Hc3).mono ?_
      rintro e w4 ⟨he, hb4⟩
      subst he
      have hs4 := hb4.size
      have hbw4 : Below w.heap.size w w4 := hbW2.trans (hb4.mono (by omega))
      replace k0 := (hb4.cell (p := ⟨w2.heap.size, 0, none⟩) hs2').trans k0
      replace k1 := (hb4.cell (p := ⟨w2.heap.size, 1, none⟩) hs2').trans k1
      have hw4' : w2.heap.size < w4.heap.size := by omega
      clear Hc3 hb4 hb2'
      go_wp2_with fail
      refine (unhide Hc7 _).mono ?_
      rintro e w7 ⟨he, hb7⟩
      subst he
      clear Hc7
      go_wp2
      go_ret
      exact ⟨rfl, hbw4.trans (hb7.mono (by have := hbw4.size; omega))⟩
    · rw [hEq] at Hc3
      clear hEq
      have d11 : ((1 : Int) == 1) = true := by simp
      have d10 : ((1 : Int) != 0) = true := by simp
      have dl : decide (100 < (ds.length : Int)) = true := by simp; omega
      go_wp2_with fail
      rw [unhide HW2]
      refine (unhide Hc3).mono ?_
      rintro e w4 ⟨he, hb4⟩
      subst he
      have hs4 := hb4.size
      have hbw4 : Below w.heap.size w w4 := hbW2.trans (hb4.mono (by omega))
      replace k0 := (hb4.cell (p := ⟨w2.heap.size, 0, none⟩) hs2').trans k0
      replace k1 := (hb4.cell (p := ⟨w2.heap.size, 1, none⟩) hs2').trans k1
      have hw4' : w2.heap.size < w4.heap.size := by omega
      clear Hc3 hb4 hb2'
      go_wp2_with fail
      refine (unhide Hc7 _).mono ?_
      rintro e w7 ⟨he, hb7⟩
      subst he
      clear Hc7
      go_wp2
      go_ret
      exact ⟨rfl, hbw4.trans (hb7.mono (by have := hbw4.size; omega))⟩
  · subst he
    clear hres
    have HI := hide (fun (X : World) (hX : Below w.heap.size w X) => ideal_c ao ar co cr g a c ds w.heap.size X (ho.below hX) (hr.below hX) hX.size (hds.below hX) hc0 hl0)
    have Hi2 : Hid (∀ C H, (C = (playM (newM g) ds).1 ∧ H = canonG (grM (playM (newM g) ds).2)) → C = (playM (newM g) ds).1 ∧ H = canonG (grM (playM (newM g) ds).2)) := fun _ _ h => h
    obtain ⟨C, HC⟩ : ∃ C, Hid ((playM (newM g) ds).1 = C) := ⟨_, rfl⟩
    obtain ⟨H, HH⟩ : ∃ H, Hid (canonG (grM (playM (newM g) ds).2) = H) := ⟨_, rfl⟩
    rw [unhide HC] at hOu hcc
    rw [unhide HH] at hOb hVa
    rw [unhide HC, unhide HH]
    obtain ⟨W2, hW2⟩ : ∃ W2, w2.alloc (.cells #[.slice ao' H.objs.length co', .slice ar' H.roots.length cr'] 25) = W2 := ⟨_, rfl⟩
    have hb2' : Below w2.heap.size w2 W2 := by rw [← hW2]; exact (Below.refl _ w2).alloc (Nat.le_refl _) _
    have hs2' : w2.heap.size < W2.heap.size := by rw [← hW2]; simp
    have k0 : W2.cell? ⟨w2.heap.size, 0, none⟩ = some (.slice ao' H.objs.length co') := by rw [← hW2]; simp [go_sem]
    have k1 : W2.cell? ⟨w2.heap.size, 1, none⟩ = some (.slice ar' H.roots.length cr') := by rw [← hW2]; simp [go_sem]
    have hbW2 : Below w.heap.size w W2 := hbw2.trans (hb2'.mono (by omega))
    have hwW2 : w.heap.size < W2.heap.size := by omega
    have Hc3 := hide (graphCheck_c ao ar co cr g w.heap.size W2 (ho.below hbW2) (hr.below hbW2) (by omega))
    rw [hc0] at Hc3
    have HOu := hide (hOu.1.below hb2')
    have HOb := hide (hOb.objs.below hb2')
    have HVa := hide (hVa.1.below hb2')
    have HW2 := hide hW2
    have d00 : ((0 : Int) == 0) = true := by simp
    have dl : decide (100 < (ds.length : Int)) = false := by simp; omega
    clear hW2 hbw2 hOu hOb hVa hcc hc0
    go_wp2_with fail
    rw [unhide HW2]
    refine (unhide Hc3).mono ?_
    rintro e w4 ⟨he, hb4⟩
    subst he
    have hs4 := hb4.size
    have hbw4 : Below w.heap.size w w4 := hbW2.trans (hb4.mono (by omega))
    replace g0 := (hb4.cell (p := ⟨w.heap.size, 0, none⟩) hwW2).trans ((hb2'.cell (p := ⟨w.heap.size, 0, none⟩) hl2).trans g0)
    replace g1 := (hb4.cell (p := ⟨w.heap.size, 1, none⟩) hwW2).trans ((hb2'.cell (p := ⟨w.heap.size, 1, none⟩) hl2).trans g1)
    replace k0 := (hb4.cell (p := ⟨w2.heap.size, 0, none⟩) hs2').trans k0
    replace k1 := (hb4.cell (p := ⟨w2.heap.size, 1, none⟩) hs2').trans k1
    have hw4 : w.heap.size < w4.heap.size := by omega
    have hw4' : w2.heap.size < w4.heap.size := by omega
    have Hb4 := hide (hb4.mono (Nat.le_of_lt hs2'))
    have Hb4' := hide (hb4)
    clear Hc3 hb4 hb2'
    go_wp2_with fail
    refine ((unhide HI) w4 hbw4).mono ?_
    rintro e w5 ⟨hI, hb5⟩
    obtain ⟨C', H', bc, bcc, bo, bco, br, bcr, he, hOu', hOb', hVa', HE⟩ := hI
    have hCC : C' = C := (unhide HE).1.trans (unhide HC)
    have hHH : H' = H := (unhide HE).2.trans (unhide HH)
    subst hCC
    subst hHH
    subst he
    have hs5 := hb5.size
    have hbw5 : Below w.heap.size w w5 := hbw4.trans (hb5.mono (by omega))
    replace k0 := (hb5.cell (p := ⟨w2.heap.size, 0, none⟩) hw4').trans k0
    replace k1 := (hb5.cell (p := ⟨w2.heap.size, 1, none⟩) hw4').trans k1
    have hw5' : w2.heap.size < w5.heap.size := by omega
    obtain ⟨W6, hW6⟩ : ∃ W6, w5.alloc (.cells #[.slice bo H'.objs.length bco, .slice br H'.roots.length bcr] 25) = W6 := ⟨_, rfl⟩
    have hb6 : Below w5.heap.size w5 W6 := by rw [← hW6]; exact (Below.refl _ _).alloc (Nat.le_refl _) _
    have hs6 : w5.heap.size < W6.heap.size := by rw [← hW6]; simp
    have l0 : W6.cell? ⟨w5.heap.size, 0, none⟩ = some (.slice bo H'.objs.length bco) := by rw [← hW6]; simp [go_sem]
    have l1 : W6.cell? ⟨w5.heap.size, 1, none⟩ = some (.slice br H'.roots.length bcr) := by rw [← hW6]; simp [go_sem]
    have hb46 : Below w4.heap.size w4 W6 := hb5.trans (hb6.mono hs5)
    have hb26 : Below W2.heap.size W2 W6 := (unhide Hb4').trans (hb46.mono hs4)
    have HO1 := hide ((unhide HOu).below (hb26.mono (Nat.le_of_lt hs2')))
    have HO2 := hide (hOu'.below hb6)
    have HX := hide (fun (X : World) (hX : Below W6.heap.size W6 X) => gsame_c ao' ar' bo br co' cr' bco bcr H' W6.heap.size X ((((unhide HOb).below (hb26.mono (Nat.le_of_lt hs2'))).mono (by have := hb26.size; omega)).below hX) ((((unhide HVa).below (hb26.mono (Nat.le_of_lt hs2'))).mono (by have := hb26.size; omega)).below hX) (((hOb'.below hb6).mono hb6.size).below hX) (((hVa'.below hb6).mono hb6.size).below hX) hX.size)
    have HU := hide (outs_c ac bc cc bcc C' W6.heap.size W6 ((unhide HO1).mono (by have := hb26.size; omega)) ((unhide HO2).mono hb6.size) (Nat.le_refl _))
    replace k0 := (hb6.cell (p := ⟨w2.heap.size, 0, none⟩) hw5').trans k0
    replace k1 := (hb6.cell (p := ⟨w2.heap.size, 1, none⟩) hw5').trans k1
    have hw6' : w2.heap.size < W6.heap.size := by omega
    have hbw6 : Below w.heap.size w W6 := hbw5.trans (hb6.mono (by omega))
    have HW6 := hide hW6
    clear HE HC HH HI hW6 hOu' hOb' hVa' hb5 hb6 hb46 hb26 HOu HOb HVa g0 g1
    go_wp2_with fail
    rw [unhide HW6]
    refine (unhide HU).mono ?_
    rintro e w7 ⟨he, hb7⟩
    subst he
    have hs7 := hb7.size
    replace k0 := (hb7.cell (p := ⟨w2.heap.size, 0, none⟩) hw6').trans k0
    replace k1 := (hb7.cell (p := ⟨w2.heap.size, 1, none⟩) hw6').trans k1
    replace l0 := (hb7.cell (p := ⟨w5.heap.size, 0, none⟩) hs6).trans l0
    replace l1 := (hb7.cell (p := ⟨w5.heap.size, 1, none⟩) hs6).trans l1
    have hw7 : w2.heap.size < w7.heap.size := by omega
    have hw7' : w5.heap.size < w7.heap.size := by omega
    have hbw7 : Below w.heap.size w w7 := hbw6.trans (hb7.mono (by omega))
    have HX7 := hide ((unhide HX) w7 hb7)
    clear HU HX hb7
    go_wp2_with fail
    refine (unhide HX7).mono ?_
    rintro e w8 ⟨he, hb8⟩
    subst he
    clear HX7
    go_wp2
    go_ret
    exact ⟨rfl, hbw7.trans (hb8.mono (by omega))⟩

end Go.Proofs.Ytlolcdgbidboeaa

/- A graph that came in, opened. -/
namespace Go.Proofs.Ytlolcdgbidboeaa
set_option linter.unusedSimpArgs false
set_option linter.unusedVariables false
open Go.RowKit Go.Joins Go.Deep Go.ChangeShapes Go.WideShapes

section
variable {H : Type} {enc : TypeId × Value → H} {w : World} {base : Nat} {spare : Nat → Bool} {held : Bool}

theorem addr_plain {a : Addr} {i : Nat} {v : Value} (h : w.cell? (a.add i) = some v) (h0 : ∃ u, w.cell? a = some u) : ∃ b off, a = ⟨b, off, none⟩ ∧ w.cell? ⟨b, off + i, none⟩ = some v := by
  obtain ⟨b, off, spot⟩ := a
  obtain ⟨u, hu⟩ := h0
  have hspot : spot = none := by simpa using World.cell?_spot hu
  subst hspot
  exact ⟨b, off, rfl, by rw [← Go.WideShapes.add_plain]; exact h⟩

set_option maxRecDepth 100000 in
/-- One value, out of its two cells. -/
theorem value_of_trod {fuel : Nat} {cs : List Value} {x : DataW H × List MemPlace} (h : DataW.trod enc Try.prog w base spare held fuel 47 cs = some x) (hl : cs.length = 2) : ∃ r n, cs = [.bool r, .int .i64 n] := by
  obtain ⟨y0, y1, n, _, _, h0, h1⟩ := trod_struct2 Try.underlying47 h
  have e4 : Try.prog.cellsOf 4 = 1 := by kernel_rfl
  have e2 : Try.prog.cellsOf 2 = 1 := by kernel_rfl
  match cs, hl with
  | [c0, c1], _ =>
    simp only [e4, e2, List.drop_zero, List.take_succ_cons, List.take_zero, List.drop_succ_cons] at h0 h1
    obtain ⟨r, hr, _⟩ := DataW.trod_bool Try.underlying4 h0
    obtain ⟨m, hm, _⟩ := DataW.trod_int Try.underlying2 h1
    simp at hr hm
    exact ⟨r, m, by rw [hr, hm]⟩

/-- A slice of values that came in. -/
theorem vals_of_trod {fuel : Nat} {cs : List Value} {x : DataW H × List MemPlace} (h : DataW.trod enc Try.prog w base spare held fuel 23 cs = some x) : ∃ a cap l, cs = [.slice a l.length cap] ∧ Vals w.heap.size w a l := by
  rcases open_slice Try.underlying23 h with ⟨rfl, _⟩ | ⟨a, len, cap, m, n, D, Pl, rfl, hb, hl, hm, hmm, _, hx⟩
  · exact ⟨none, 0, [], rfl, by simp, fun h => absurd rfl h⟩
  · have e35 : Try.prog.cellsOf 47 = 2 := by kernel_rfl
    rw [e35] at hx
    have hle : len ≤ m := by rw [hmm]; split <;> omega
    have hex : ∀ i, i < len → ∃ v : V, w.cell? (a.add (i * 2)) = some (.bool v.1) ∧ w.cell? ((a.add (i * 2)).add 1) = some (.int .i64 v.2) := by
      intro i hi
      obtain ⟨cs', h1, h2⟩ := hx i (by omega)
      obtain ⟨_, hlen, hc⟩ := World.cells?_some h1
      obtain ⟨r, n, rfl⟩ := value_of_trod h2 hlen
      exact ⟨(r, n), by simpa [Addr.add] using hc 0 (by omega), by simpa using hc 1 (by omega)⟩
    obtain ⟨f, hf⟩ := choose_lt (α := V) (p := fun i v => w.cell? (a.add (i * 2)) = some (.bool v.1) ∧ w.cell? ((a.add (i * 2)).add 1) = some (.int .i64 v.2)) hex
    refine ⟨some a, cap, (List.range len).map f, by simp, ⟨by simp only [List.length_map, List.length_range]; simp only [maxLen] at hm; omega, fun hne => ?_⟩⟩
    have hpos : 0 < len := by
      rcases Nat.eq_zero_or_pos len with h0 | h0
      · subst h0; simp at hne
      · exact h0
    have h00 := (hf 0 hpos).1
    obtain ⟨b, off, rfl, _⟩ := addr_plain (a := a) (i := 0) (by simpa using h00) ⟨_, by simpa [Addr.add] using h00⟩
    have hplain : ∀ i, (⟨b, off, none⟩ : Addr).add i = ⟨b, off + i, none⟩ := fun i => Go.WideShapes.add_plain _ _ _
    refine ⟨b, off, rfl, World.block_lt_of_cell? w ⟨b, off + 0 * 2, none⟩ (by rw [← hplain]; exact h00), fun k v hk => ?_⟩
    have hkl : k < len := by
      have := (List.getElem?_eq_some_iff.1 hk).1
      simpa using this
    have hv : f k = v := by simpa [hkl] using hk
    have := hf k hkl
    rw [hv, hplain, Go.WideShapes.add_plain] at this
    exact this

set_option maxRecDepth 100000 in
/-- A slice of objects that came in. -/
theorem objs_of_trod {fuel : Nat} {cs : List Value} {x : DataW H × List MemPlace} (h : DataW.trod enc Try.prog w base spare held fuel 22 cs = some x) : ∃ a cap L, cs = [.slice a L.length cap] ∧ Objs w.heap.size w a L := by
  have e43 : Try.prog.cellsOf 62 = 1 := by kernel_rfl
  have e23 : Try.prog.cellsOf 23 = 1 := by kernel_rfl
  rcases open_slice1 Try.underlying22 e43 h with ⟨rfl, _⟩ | ⟨a, len, cap, m, n, V', D, Pl, rfl, hb, hl, hm, hmm, _, hx⟩
  · exact ⟨none, 0, [], rfl, by simp, fun h => absurd rfl h⟩
  · have hle : len ≤ m := by rw [hmm]; split <;> omega
    have hex : ∀ i, i < len → ∃ l : List V, ∃ ai ci, w.cell? (a.add i) = some (.slice ai l.length ci) ∧ Vals w.heap.size w ai l := by
      intro i hi
      obtain ⟨h1, h2⟩ := hx i (by omega)
      obtain ⟨y0, n', _, _, h3⟩ := trod_struct1 Try.underlying62 h2
      simp only [e23, List.drop_zero, List.take_succ_cons, List.take_zero] at h3
      obtain ⟨ai, ci, l, hcs, hv⟩ := vals_of_trod h3
      simp at hcs
      exact ⟨l, ai, ci, by rw [h1, hcs], hv⟩
    obtain ⟨f, hf⟩ := choose_lt (α := List V) (p := fun i l => ∃ ai ci, w.cell? (a.add i) = some (.slice ai l.length ci) ∧ Vals w.heap.size w ai l) hex
    refine ⟨some a, cap, (List.range len).map f, by simp, ⟨by simp only [List.length_map, List.length_range]; simp only [maxLen] at hm; omega, fun hne => ?_⟩⟩
    have hpos : 0 < len := by
      rcases Nat.eq_zero_or_pos len with h0 | h0
      · subst h0; simp at hne
      · exact h0
    obtain ⟨ai0, ci0, h00, _⟩ := hf 0 hpos
    obtain ⟨b, off, rfl, _⟩ := addr_plain (a := a) (i := 0) h00 ⟨_, by simpa [Addr.add] using h00⟩
    have hplain : ∀ i, (⟨b, off, none⟩ : Addr).add i = ⟨b, off + i, none⟩ := fun i => Go.WideShapes.add_plain _ _ _
    refine ⟨b, off, rfl, World.block_lt_of_cell? w ⟨b, off + 0, none⟩ (by rw [← hplain]; exact h00), fun k l hk => ?_⟩
    have hkl : k < len := by
      have := (List.getElem?_eq_some_iff.1 hk).1
      simpa using this
    have hv : f k = l := by simpa [hkl] using hk
    have := hf k hkl
    rw [hv, hplain] at this
    exact this

set_option maxRecDepth 100000 in
/-- A graph that came in. -/
theorem graph_of_trod {r : Reach} {b0 : Nat} {v : Value} {d : DataW H} {p : List MemPlace} (hv : Value.okWide Try.prog w r b0 25 v) (h : DataW.Trod enc Try.prog w base spare held 25 v d p) :
    ∃ ao co ar cr, ∃ g : Gr, v = .agg #[.slice ao g.objs.length co, .slice ar g.roots.length cr] ∧ Objs w.heap.size w ao g.objs ∧ Vals w.heap.size w ar g.roots := by
  obtain ⟨c0, c1, y0, y1, m, rfl, _, _, hy0, hy1⟩ := open_agg2 Try.underlying25 (by kernel_rfl) (by kernel_rfl) hv h
  obtain ⟨ao, co, L, h0, hO⟩ := objs_of_trod hy0
  obtain ⟨ar, cr, l, h1, hV⟩ := vals_of_trod hy1
  simp at h0 h1
  exact ⟨ao, co, ar, cr, ⟨L, l⟩, by rw [h0, h1], hO, hV⟩

end
end Go.Proofs.Ytlolcdgbidboeaa

/- A script that came in, opened. -/
namespace Go.Proofs.Ytlolcdgbidboeaa
set_option linter.unusedSimpArgs false
set_option linter.unusedVariables false
open Go.RowKit Go.Joins Go.Deep Go.ChangeShapes Go.WideShapes

section
variable {H : Type} {enc : TypeId × Value → H} {w : World} {base : Nat} {spare : Nat → Bool} {held : Bool}

theorem trod_struct5 {P : Program} {t : TypeId} {f0 f1 f2 f3 f4 : Field} {fuel : Nat} {cs : List Value} {x : DataW H × List MemPlace} (ht : P.underlying t = some (.struct #[f0, f1, f2, f3, f4])) (h : DataW.trod enc P w base spare held fuel t cs = some x) :
    ∃ y0 y1 y2 y3 y4 n, cs.length = P.cellsOf t ∧ DataW.trod enc P w base spare held n f0.type ((cs.drop f0.offset).take (P.cellsOf f0.type)) = some y0 ∧ DataW.trod enc P w base spare held n f1.type ((cs.drop f1.offset).take (P.cellsOf f1.type)) = some y1 ∧
      DataW.trod enc P w base spare held n f2.type ((cs.drop f2.offset).take (P.cellsOf f2.type)) = some y2 ∧ DataW.trod enc P w base spare held n f3.type ((cs.drop f3.offset).take (P.cellsOf f3.type)) = some y3 ∧ DataW.trod enc P w base spare held n f4.type ((cs.drop f4.offset).take (P.cellsOf f4.type)) = some y4 := by
  obtain ⟨xs, n, _, rfl, hl, hlen, hf⟩ := DataW.trod_struct ht h
  match xs, hlen with
  | [y0, y1, y2, y3, y4], _ => exact ⟨y0, y1, y2, y3, y4, n, hl, by simpa using hf 0 f0 rfl, by simpa using hf 1 f1 rfl, by simpa using hf 2 f2 rfl, by simpa using hf 3 f3 rfl, by simpa using hf 4 f4 rfl⟩

set_option maxRecDepth 100000 in
/-- What is done, out of its five cells. -/
theorem do_of_trod {fuel : Nat} {cs : List Value} {x : DataW H × List MemPlace} (h : DataW.trod enc Try.prog w base spare held fuel 53 cs = some x) (hl : cs.length = 5) : ∃ k d s f n : Int, cs = [.int .i64 k, .int .i64 d, .int .i64 s, .int .i64 f, .int .i64 n] := by
  obtain ⟨y0, y1, y2, y3, y4, n, _, h0, h1, h2, h3, h4⟩ := trod_struct5 Try.underlying53 h
  have e3 : Try.prog.cellsOf 3 = 1 := by kernel_rfl
  have e2 : Try.prog.cellsOf 2 = 1 := by kernel_rfl
  match cs, hl with
  | [c0, c1, c2, c3, c4], _ =>
    simp only [e3, e2, List.drop_zero, List.take_succ_cons, List.take_zero, List.drop_succ_cons] at h0 h1 h2 h3 h4
    obtain ⟨k, hk, _⟩ := DataW.trod_int Try.underlying3 h0
    obtain ⟨d, hd, _⟩ := DataW.trod_int Try.underlying3 h1
    obtain ⟨s, hs, _⟩ := DataW.trod_int Try.underlying3 h2
    obtain ⟨f, hf, _⟩ := DataW.trod_int Try.underlying3 h3
    obtain ⟨m, hm, _⟩ := DataW.trod_int Try.underlying2 h4
    simp at hk hd hs hf hm
    exact ⟨k, d, s, f, m, by rw [hk, hd, hs, hf, hm]⟩

set_option maxRecDepth 100000 in
/-- A script that came in. -/
theorem dos_of_trod {fuel : Nat} {cs : List Value} {x : DataW H × List MemPlace} (h : DataW.trod enc Try.prog w base spare held fuel 26 cs = some x) : ∃ a cap l, cs = [.slice a l.length cap] ∧ Dos w.heap.size w a l ∧ l.length ≤ cap := by
  rcases open_slice Try.underlying26 h with ⟨rfl, _⟩ | ⟨a, len, cap, m, n, D, Pl, rfl, hb, hl, hm, hmm, _, hx⟩
  · exact ⟨none, 0, [], rfl, dos_nil _ _ _, by simp⟩
  · have e53 : Try.prog.cellsOf 53 = 5 := by kernel_rfl
    rw [e53] at hx
    have hle : len ≤ m := by rw [hmm]; split <;> omega
    have hex : ∀ i, i < len → ∃ v : Dd, w.cell? (a.add (i * 5)) = some (.int .i64 v.kind) ∧ w.cell? ((a.add (i * 5)).add 1) = some (.int .i64 v.dst) ∧ w.cell? ((a.add (i * 5)).add 2) = some (.int .i64 v.src) ∧ w.cell? ((a.add (i * 5)).add 3) = some (.int .i64 v.fat) ∧ w.cell? ((a.add (i * 5)).add 4) = some (.int .i64 v.num) := by
      intro i hi
      obtain ⟨cs', h1, h2⟩ := hx i (by omega)
      obtain ⟨_, hlen, hc⟩ := World.cells?_some h1
      obtain ⟨k, d, s, f, n, rfl⟩ := do_of_trod h2 hlen
      exact ⟨⟨k, d, s, f, n⟩, by simpa [Addr.add] using hc 0 (by omega), by simpa using hc 1 (by omega), by simpa using hc 2 (by omega), by simpa using hc 3 (by omega), by simpa using hc 4 (by omega)⟩
    have hinh : Inhabited Dd := ⟨⟨0, 0, 0, 0, 0⟩⟩
    obtain ⟨f, hf⟩ := choose_lt (α := Dd) (p := fun i v => w.cell? (a.add (i * 5)) = some (.int .i64 v.kind) ∧ w.cell? ((a.add (i * 5)).add 1) = some (.int .i64 v.dst) ∧ w.cell? ((a.add (i * 5)).add 2) = some (.int .i64 v.src) ∧ w.cell? ((a.add (i * 5)).add 3) = some (.int .i64 v.fat) ∧ w.cell? ((a.add (i * 5)).add 4) = some (.int .i64 v.num)) hex
    refine ⟨some a, cap, (List.range len).map f, by simp, ⟨by simp only [List.length_map, List.length_range]; simp only [maxLen] at hm; omega, fun hne => ?_⟩, by simpa using hl⟩
    have hpos : 0 < len := by
      rcases Nat.eq_zero_or_pos len with h0 | h0
      · subst h0; simp at hne
      · exact h0
    have h00 := (hf 0 hpos).1
    obtain ⟨b, off, rfl, _⟩ := addr_plain (a := a) (i := 0) (by simpa using h00) ⟨_, by simpa [Addr.add] using h00⟩
    have hplain : ∀ i, (⟨b, off, none⟩ : Addr).add i = ⟨b, off + i, none⟩ := fun i => Go.WideShapes.add_plain _ _ _
    refine ⟨b, off, rfl, World.block_lt_of_cell? w ⟨b, off + 0 * 5, none⟩ (by rw [← hplain]; exact h00), fun k v hk => ?_⟩
    have hkl : k < len := by
      have := (List.getElem?_eq_some_iff.1 hk).1
      simpa using this
    have hv : f k = v := by simpa [hkl] using hk
    have := hf k hkl
    rw [hv, hplain, Go.WideShapes.add_plain, Go.WideShapes.add_plain, Go.WideShapes.add_plain, Go.WideShapes.add_plain] at this
    exact this

set_option maxRecDepth 100000 in
theorem dos_of_Trod {r : Reach} {b0 : Nat} {v : Value} {d : DataW H} {p : List MemPlace} (hv : Value.okWide Try.prog w r b0 26 v) (h : DataW.Trod enc Try.prog w base spare held 26 v d p) :
    ∃ a cap l, v = .slice a l.length cap ∧ Dos w.heap.size w a l ∧ l.length ≤ cap := by
  obtain ⟨a0, len, cap, rfl⟩ := okWide_slice Try.underlying26 hv
  obtain ⟨fuel, hf⟩ := h
  obtain ⟨a, c, l, hcs, hI⟩ := dos_of_trod hf
  simp [Value.cells] at hcs
  obtain ⟨rfl, rfl, rfl⟩ := hcs
  exact ⟨_, _, l, rfl, hI⟩

end
end Go.Proofs.Ytlolcdgbidboeaa

/- Plain: what is left of a memory may be a graph, if it is small; a script in new memory; the law's 'behind'. -/
namespace Go.Proofs.Ytlolcdgbidboeaa
set_option linter.unusedSimpArgs false
set_option linter.unusedVariables false
open Go.RowKit Go.Shelf

theorem kn_ren {L : List Int} {v : V} (hv : KnV L v) : ((renV L v).1 = true → 0 ≤ (renV L v).2 ∧ (renV L v).2 < (L.length : Int)) ∧ (NumV v → NumV (renV L v)) := by
  obtain ⟨b, n⟩ := v
  cases b
  · exact ⟨fun h => by simp [renV] at h, fun h => by simpa [renV] using h⟩
  · have hm : n ∈ L := hv rfl
    have hb := placeOf_bounds hm
    refine ⟨fun _ => by simpa [renV] using hb, fun _ h => by simp [renV] at h⟩

theorem canon_small {m : Mm} (hm : MOk m) (hN : NOk m) (hn : m.objs.length ≤ 256) (h24 : (canonG (grM m)).objs.length ≤ 24) : checkG (canonG (grM m)) = 0 := by
  have hG := hm.good hn
  have hi := iso_of_whole hm hG (whole_order hG)
  have hL : (canonG (grM m)).objs.length = (orderOf (grM m)).length := by rw [canon_renL]; simp [renL]
  have hroots : (canonG (grM m)).roots = m.regs.map (renV (orderOf (grM m))) := rfl
  have hobjs : (canonG (grM m)).objs = (orderOf (grM m)).map fun o => (fldM m o).map (renV (orderOf (grM m))) := hi.e2
  have hmem : ∀ l ∈ (canonG (grM m)).objs, ∃ o ∈ orderOf (grM m), l = (fldM m o).map (renV (orderOf (grM m))) := by
    intro l hl
    rw [hobjs] at hl
    obtain ⟨o, ho, rfl⟩ := List.mem_map.1 hl
    exact ⟨o, ho, rfl⟩
  have hfm : ∀ o ∈ orderOf (grM m), fldM m o ∈ m.objs := fun o ho => fldM_mem (hi.rng o ho).1 (hi.rng o ho).2
  have hv : checkV (canonG (grM m)) = 0 := by
    refine checkV_of ?_ ?_ ?_ ?_
    · intro v hv h1
      rw [hroots] at hv
      obtain ⟨u, hu, rfl⟩ := List.mem_map.1 hv
      rw [hL]
      exact (kn_ren (hi.regs u hu)).1 h1
    · intro l hl v hv h1
      obtain ⟨o, ho, rfl⟩ := hmem l hl
      obtain ⟨u, hu, rfl⟩ := List.mem_map.1 hv
      rw [hL]
      exact (kn_ren (hi.flds o ho u hu)).1 h1
    · intro v hv
      rw [hroots] at hv
      obtain ⟨u, hu, rfl⟩ := List.mem_map.1 hv
      exact (kn_ren (hi.regs u hu)).2 (hN.r u hu)
    · intro l hl v hv
      obtain ⟨o, ho, rfl⟩ := hmem l hl
      obtain ⟨u, hu, rfl⟩ := List.mem_map.1 hv
      exact (kn_ren (hi.flds o ho u hu)).2 (hN.o _ (hfm o ho) u hu)
  have hs : isLargeG (canonG (grM m)) = false := by
    unfold isLargeG
    simp only [Bool.or_eq_false_iff, decide_eq_false_iff_not, List.any_eq_false, decide_eq_true_eq]
    refine ⟨⟨by omega, ?_⟩, fun l hl => ?_⟩
    · rw [hroots, List.length_map]; have := hm.n8; omega
    · obtain ⟨o, ho, rfl⟩ := hmem l hl
      have := hm.n4 _ (hfm o ho)
      rw [List.length_map]
      omega
  rw [checkG_eq _ hs]
  exact hv

theorem canon_large {m : Mm} (h24 : 24 < (canonG (grM m)).objs.length) : checkG (canonG (grM m)) = 1 := by
  refine checkG_large _ ?_
  unfold isLargeG
  simp [h24]

/-- The cells of a script. -/
def cellsD : List Dd → List Value
  | [] => []
  | o :: l => .int .i64 o.kind :: .int .i64 o.dst :: .int .i64 o.src :: .int .i64 o.fat :: .int .i64 o.num :: cellsD l
theorem cellsD_snoc : ∀ (l : List Dd) (o : Dd), cellsD (l ++ [o]) = cellsD l ++ [.int .i64 o.kind, .int .i64 o.dst, .int .i64 o.src, .int .i64 o.fat, .int .i64 o.num]
  | [], o => rfl
  | x :: l, o => by simp [cellsD, cellsD_snoc l o]
theorem cellsD_get : ∀ (l : List Dd) (k : Nat) (v : Dd), l[k]? = some v → (cellsD l)[k * 5]? = some (.int .i64 v.kind) ∧ (cellsD l)[k * 5 + 1]? = some (.int .i64 v.dst) ∧ (cellsD l)[k * 5 + 2]? = some (.int .i64 v.src) ∧ (cellsD l)[k * 5 + 3]? = some (.int .i64 v.fat) ∧ (cellsD l)[k * 5 + 4]? = some (.int .i64 v.num)
  | [], k, v, h => by simp at h
  | x :: l, 0, v, h => by simp at h; subst h; exact ⟨rfl, rfl, rfl, rfl, rfl⟩
  | x :: l, k + 1, v, h => by
    rw [List.getElem?_cons_succ] at h
    have e : (k + 1) * 5 = k * 5 + 1 + 1 + 1 + 1 + 1 := by omega
    rw [e]
    exact cellsD_get l k v h

theorem dos_of_row {w : World} {base : Nat} {v : Value} {l : List Dd} (h : w.ownsRow base 53 5 v l.length (cellsD l)) (hs : l.length ≤ 9223372036854775807) :
    ∃ a cap, v = .slice a l.length cap ∧ Dos w.heap.size w a l := by
  obtain ⟨_, h2⟩ := h
  rcases h2 with ⟨rfl, h0⟩ | ⟨g, cap, cur, rfl, hb, hg, hc1, hc2, hc3, htake⟩
  · have : l = [] := List.eq_nil_of_length_eq_zero h0
    subst this
    exact ⟨none, 0, rfl, dos_nil _ _ _⟩
  · refine ⟨_, cap, rfl, hs, fun _ => ⟨g, 0, rfl, (Array.getElem?_eq_some_iff.1 hg).1, fun k v hk => ?_⟩⟩
    obtain ⟨h1, h2, h3, h4, h5⟩ := cellsD_get l k v hk
    have hkl := (List.getElem?_eq_some_iff.1 hk).1
    rw [← htake, List.getElem?_take, if_pos (by omega)] at h1 h2 h3 h4 h5
    simp only [Nat.zero_add]
    rw [cell_of_row w g _ cur 53 (0, 0) hg, cell_of_row w g _ cur 53 (0, 0) hg, cell_of_row w g _ cur 53 (0, 0) hg, cell_of_row w g _ cur 53 (0, 0) hg, cell_of_row w g _ cur 53 (0, 0) hg]
    exact ⟨by simpa using h1, by simpa using h2, by simpa using h3, by simpa using h4, by simpa using h5⟩

theorem cell_five_at (w : World) (x y z u v : Value) (t : TypeId) (m : Nat) (hm : m = w.heap.size) : ∀ j r, [x, y, z, u, v][j]? = some r → (w.alloc (.cells #[x, y, z, u, v] t)).cell? ((⟨m, 0, none⟩ : Addr).add j) = some r := by
  subst hm
  intro j r hj
  have hadd : (⟨w.heap.size, 0, none⟩ : Addr).add j = ⟨w.heap.size, 0 + j, none⟩ := by unfold Addr.add; split <;> simp_all
  rw [hadd, Nat.zero_add]
  have hg := heap_alloc_new w (.cells #[x, y, z, u, v] t)
  rw [cell_of_row _ _ j _ t (0, 0) hg]
  simpa using hj

theorem Try.info53' : (Try.prog.info? 53).map (fun i => (i.zero, i.size, i.bytes)) = some (some (.agg #[.int .i64 0, .int .i64 0, .int .i64 0, .int .i64 0, .int .i64 0]), 5, 40) := by kernel_rfl

end Go.Proofs.Ytlolcdgbidboeaa

/- Walks: the law's 'behind'. -/
namespace Go.Proofs.Ytlolcdgbidboeaa
set_option linter.unusedSimpArgs false
set_option linter.unusedVariables false
open Go.RowKit Go.Shelf

set_option maxRecDepth 100000 in
set_option maxHeartbeats 4000000 in
theorem behind_c (a1 a2 : Option Addr) (c1 c2 : Nat) (l1 l2 : List Dd) (B : Nat) (w : World) (h1 : Dos B w a1 l1) (h2 : Dos B w a2 l2) (hB : B ≤ w.heap.size) (hl : l1.length + l2.length ≤ 2097152) :
    Calls Try.prog 11 #[.slice a1 l1.length c1, .slice a2 l2.length c2] w fun e w' => (∃ a c, e = .returned (.slice a (l1 ++ l2).length c) ∧ Dos w'.heap.size w' a (l1 ++ l2)) ∧ Below w.heap.size w w' := by
  go_enter Try.func11, Try.ntmps11
  go_wp2
  go_loopw [5, 12] (fun out i wr => ∃ k : Nat, k ≤ l1.length ∧ i = .int .i64 k ∧ Hid (wr.ownsRow w.heap.size 53 5 out k (cellsD (l1.take k))) ∧ Below w.heap.size w wr) (fun _ i _ => l1.length - (intOf i).toNat)
  case atStart => exact ⟨0, Nat.zero_le _, rfl, hide (World.ownsRow_nil _ _ _ _), Below.refl _ _⟩
  case round =>
    obtain ⟨k, hk, rfl, HR, hb⟩ := hrel
    have hsz := hb.size
    by_cases hlt : k < l1.length
    · obtain ⟨b, off, rfl, hbB, d0, d1, d2, d3, d4⟩ := (h1.below (hb.mono hB)).at (List.getElem?_eq_getElem hlt)
      have HS := hide ((show cellsD (l1.take (k + 1)) = cellsD (l1.take k) ++ [.int .i64 l1[k].kind, .int .i64 l1[k].dst, .int .i64 l1[k].src, .int .i64 l1[k].fat, .int .i64 l1[k].num] by rw [List.take_succ_eq_append_getElem hlt, cellsD_snoc]))
      generalize l1[k] = d at *
      obtain ⟨dk, dd, dsr, df, dn⟩ := d
      simp only at d0 d1 d2 d3 d4
      have hkI : (k : Int) < (l1.length : Int) := by omega
      have hbl : b < wr.heap.size := by omega
      obtain ⟨oa, oc, rfl⟩ := ownsRow_slice (unhide HR)
      obtain ⟨i0, hi, hz0, hz1, hz2⟩ := info_parts Try.info53'
      have hmx : k + 1 ≤ maxLen := by simp only [maxLen]; omega
      have hmy : (k + 1) * 40 ≤ 140737488355328 := by omega
      have hone : ∀ u ∈ ([.int .i64 dk, .int .i64 dd, .int .i64 dsr, .int .i64 df, .int .i64 dn] : List Value), u.oneCell' = true := by simp [Value.oneCell']
      have hrow := ((unhide HR).alloc (.cells #[.int .i64 dk, .int .i64 dd, .int .i64 dsr, .int .i64 df, .int .i64 dn] 53)).alloc (.cells #[.int .i64 dk, .int .i64 dd, .int .i64 dsr, .int .i64 df, .int .i64 dn] 53)
      have hbase : w.heap.size ≤ ((wr.alloc (.cells #[.int .i64 dk, .int .i64 dd, .int .i64 dsr, .int .i64 df, .int .i64 dn] 53)).alloc (.cells #[.int .i64 dk, .int .i64 dd, .int .i64 dsr, .int .i64 df, .int .i64 dn] 53)).heap.size := by simp; omega
      have hba := (hb.alloc hsz (.cells #[.int .i64 dk, .int .i64 dd, .int .i64 dsr, .int .i64 df, .int .i64 dn] 53)).alloc (by simp; omega) (.cells #[.int .i64 dk, .int .i64 dd, .int .i64 dsr, .int .i64 df, .int .i64 dn] 53)
      have hlt5 : ∀ j, Value.ownBlock (.slice oa (k) oc) = some j → w.heap.size ≤ j := fun j hj => ((unhide HR).lt j hj).1
      go_wp2_with (at_builtin; go_must (refine wpList_append_own_at _ rfl _ _ 26 rfl w.heap.size 53 i0 _ 5 40 Try.underlying26 hi hz0 hz1 hz2 rfl (by decide) _ (k) _ rfl hrow ⟨wr.heap.size + 1, 0, none⟩ 1 1 [.int .i64 dk, .int .i64 dd, .int .i64 dsr, .int .i64 df, .int .i64 dn] rfl rfl (cell_five_at _ _ _ _ _ _ _ _ (by simp)) hone hmx hmy hbase ?_); go_must (intro v9 w9 hrow9 hg9 _ hat9; have Hr9 := hide hrow9; have hb9 := hba.grown hg9 (by simp; omega) (fun j e => hlt5 j e); clear hrow9 hg9 hat9))
      go_roundw
      case rel =>
        refine ⟨k + 1, by omega, by go_num, ?_, hb9⟩
        rw [unhide HS]
        exact Hr9
      case measure => simp [intOf]; omega
    · obtain rfl : k = l1.length := by omega
      rw [List.take_length] at HR
      obtain ⟨WR, hWR⟩ : ∃ WR, WR = wr := ⟨_, rfl⟩
      subst hWR
      go_wp2
      go_loopw [5, 23] (fun out i wr => ∃ k : Nat, k ≤ l2.length ∧ i = .int .i64 k ∧ Hid (wr.ownsRow w.heap.size 53 5 out (l1.length + k) (cellsD (l1 ++ l2.take k))) ∧ Below w.heap.size w wr) (fun _ i _ => l2.length - (intOf i).toNat)
      case atStart => exact ⟨0, Nat.zero_le _, rfl, by simpa using HR, hb⟩
      case round =>
        clear HR hb hsz
        obtain ⟨k, hk, rfl, HR, hb⟩ := hrel
        have hsz := hb.size
        by_cases hlt : k < l2.length
        · obtain ⟨b, off, rfl, hbB, d0, d1, d2, d3, d4⟩ := (h2.below (hb.mono hB)).at (List.getElem?_eq_getElem hlt)
          have HS := hide ((show cellsD (l1 ++ l2.take (k + 1)) = cellsD (l1 ++ l2.take k) ++ [.int .i64 l2[k].kind, .int .i64 l2[k].dst, .int .i64 l2[k].src, .int .i64 l2[k].fat, .int .i64 l2[k].num] by rw [List.take_succ_eq_append_getElem hlt, ← List.append_assoc, cellsD_snoc]))
          generalize l2[k] = d at *
          obtain ⟨dk, dd, dsr, df, dn⟩ := d
          simp only at d0 d1 d2 d3 d4
          have hkI : (k : Int) < (l2.length : Int) := by omega
          have hbl : b < wr.heap.size := by omega
          obtain ⟨oa, oc, rfl⟩ := ownsRow_slice (unhide HR)
          obtain ⟨i0, hi, hz0, hz1, hz2⟩ := info_parts Try.info53'
          have hmx : l1.length + k + 1 ≤ maxLen := by simp only [maxLen]; omega
          have hmy : (l1.length + k + 1) * 40 ≤ 140737488355328 := by omega
          have hone : ∀ u ∈ ([.int .i64 dk, .int .i64 dd, .int .i64 dsr, .int .i64 df, .int .i64 dn] : List Value), u.oneCell' = true := by simp [Value.oneCell']
          have hrow := ((unhide HR).alloc (.cells #[.int .i64 dk, .int .i64 dd, .int .i64 dsr, .int .i64 df, .int .i64 dn] 53)).alloc (.cells #[.int .i64 dk, .int .i64 dd, .int .i64 dsr, .int .i64 df, .int .i64 dn] 53)
          have hbase : w.heap.size ≤ ((wr.alloc (.cells #[.int .i64 dk, .int .i64 dd, .int .i64 dsr, .int .i64 df, .int .i64 dn] 53)).alloc (.cells #[.int .i64 dk, .int .i64 dd, .int .i64 dsr, .int .i64 df, .int .i64 dn] 53)).heap.size := by simp; omega
          have hba := (hb.alloc hsz (.cells #[.int .i64 dk, .int .i64 dd, .int .i64 dsr, .int .i64 df, .int .i64 dn] 53)).alloc (by simp; omega) (.cells #[.int .i64 dk, .int .i64 dd, .int .i64 dsr, .int .i64 df, .int .i64 dn] 53)
          have hlt5 : ∀ j, Value.ownBlock (.slice oa (l1.length + k) oc) = some j → w.heap.size ≤ j := fun j hj => ((unhide HR).lt j hj).1
          go_wp2_with (at_builtin; go_must (refine wpList_append_own_at _ rfl _ _ 26 rfl w.heap.size 53 i0 _ 5 40 Try.underlying26 hi hz0 hz1 hz2 rfl (by decide) _ (l1.length + k) _ rfl hrow ⟨wr.heap.size + 1, 0, none⟩ 1 1 [.int .i64 dk, .int .i64 dd, .int .i64 dsr, .int .i64 df, .int .i64 dn] rfl rfl (cell_five_at _ _ _ _ _ _ _ _ (by simp)) hone hmx hmy hbase ?_); go_must (intro v9 w9 hrow9 hg9 _ hat9; have Hr9 := hide hrow9; have hb9 := hba.grown hg9 (by simp; omega) (fun j e => hlt5 j e); clear hrow9 hg9 hat9))
          go_roundw
          case rel =>
            refine ⟨k + 1, by omega, by go_num, ?_, hb9⟩
            rw [unhide HS]
            exact Hr9
          case measure => simp [intOf]; omega
        · obtain rfl : k = l2.length := by omega
          rw [List.take_length] at HR
          obtain ⟨a, c, hv, hD⟩ := dos_of_row (l := l1 ++ l2) (by rw [List.length_append]; exact unhide HR) (by rw [List.length_append]; omega)
          subst hv
          have HD := hide hD
          clear hD HR
          go_wp2
          go_ret
          exact ⟨⟨a, c, rfl, unhide HD⟩, hb⟩

end Go.Proofs.Ytlolcdgbidboeaa

/- Plain: what two scripts tell, one behind the other; parts of what is told. -/
namespace Go.Proofs.Ytlolcdgbidboeaa
set_option linter.unusedSimpArgs false
set_option linter.unusedVariables false
open Go.RowKit Go.Shelf

theorem slice_to (a : Option Addr) (len cap n : Nat) (h : n ≤ cap) (W : World) : (Instr.slice 27 (.slice a len cap) none (some (.int .i64 (n : Nat))) none).run Try.prog W = .ok (.slice a n cap) W := by
  have h2 : (0 : Int) ≤ (n : Int) ∧ (n : Int) ≤ (cap : Int) := by omega
  cases a <;> simp [go_sem, Try.underlying27, h, h2]

def aFrom (a : Option Addr) (cap n : Nat) : Option Addr := if cap = n then a else a.map (·.add (n * 3))

theorem slice_from (a : Option Addr) (len cap n : Nat) (h : n ≤ len) (hlc : len ≤ cap) (W : World) : (Instr.slice 27 (.slice a len cap) (some (.int .i64 (n : Nat))) none none).run Try.prog W = .ok (.slice (aFrom a cap n) (len - n) (cap - n)) W := by
  have h2 : (0 : Int) ≤ (n : Int) ∧ (n : Int) ≤ (len : Int) := by omega
  have hs := Try.sizeOf55
  unfold aFrom
  by_cases hn : cap = n
  · cases a <;> simp [go_sem, Try.underlying27, h, h2, hs, hn]
  · cases a <;> simp [go_sem, Try.underlying27, h, h2, hs, hn]

theorem ous_take {B : Nat} {w : World} {a : Option Addr} {l : List Ou} (h : Ous B w a l) (n : Nat) : Ous B w a (l.take n) := by
  refine ⟨by have := h.1; rw [List.length_take]; omega, fun hne => ?_⟩
  obtain ⟨b, off, rfl, hB, hc⟩ := h.2 (by rintro rfl; simp at hne)
  refine ⟨b, off, rfl, hB, fun k v hk => ?_⟩
  rw [List.getElem?_take] at hk
  split at hk
  · exact hc k v hk
  · cases hk

theorem ous_drop {B : Nat} {w : World} {a : Option Addr} {l : List Ou} (h : Ous B w a l) (n cap : Nat) (hlc : l.length ≤ cap) : Ous B w (aFrom a cap n) (l.drop n) := by
  refine ⟨by have := h.1; rw [List.length_drop]; omega, fun hne => ?_⟩
  have hlt : n < l.length := by
    rcases Nat.lt_or_ge n l.length with h | h
    · exact h
    · exact absurd (List.drop_eq_nil_of_le h) hne
  obtain ⟨b, off, rfl, hB, hc⟩ := h.2 (by rintro rfl; simp at hlt)
  refine ⟨b, off + n * 3, ?_, hB, fun k v hk => ?_⟩
  · unfold aFrom
    rw [if_neg (by omega)]
    simp only [Option.map_some]
    unfold Addr.add
    split <;> simp_all
  · rw [List.getElem?_drop] at hk
    have := hc (n + k) v hk
    have e : (n + k) * 3 = n * 3 + k * 3 := by omega
    rw [e] at this
    rw [show off + n * 3 + k * 3 = off + (n * 3 + k * 3) by omega]
    exact this

/-- What two scripts tell. -/
def SpIs (g : Gr) (l1 l2 : List Dd) (C1 C2 : List Ou) (H1 H2 : Gr) (E1 E2 : Int) : Prop :=
  (E1 ≠ 0 ∧ C1 = []) ∨ (E1 = 0 ∧ E2 ≠ 0 ∧ 100 < l1.length + l2.length ∧ C1.length = l1.length) ∨
  (E1 = 0 ∧ E2 = 0 ∧ C1.length = l1.length ∧ C2.length = l1.length + l2.length ∧ C2.take l1.length = C1 ∧ H1.roots.length = 8 ∧
    ∀ C3 H3, PyIs H1 l2 C3 H3 → (playE H1 l2.length ≠ 0 ∧ 24 < H1.objs.length) ∨ (playE H1 l2.length = 0 ∧ C2.drop l1.length = C3 ∧ H3 = H2))

theorem sp_is {g : Gr} {l1 l2 : List Dd} {C1 C2 : List Ou} {H1 H2 : Gr} (h1 : PyIs g l1 C1 H1) (h2 : PyIs g (l1 ++ l2) C2 H2) : SpIs g l1 l2 C1 C2 H1 H2 (playE g l1.length) (playE g (l1 ++ l2).length) := by
  unfold SpIs
  by_cases hE1' : playE g l1.length ≠ 0
  · exact .inl ⟨hE1', (h1.1 hE1').1⟩
  have hE1 : playE g l1.length = 0 := Decidable.not_not.1 hE1'
  right
  obtain ⟨rfl, rfl⟩ := h1.2 hE1
  have hc : checkG g = 0 := by
    unfold playE at hE1
    by_cases h : checkG g = 0
    · exact h
    · rw [if_pos h] at hE1; exact hE1
  by_cases hl : 100 < l1.length + l2.length
  · left
    refine ⟨hE1, ?_, hl, playM_len _ _⟩
    unfold playE
    rw [if_neg (by simp [hc]), if_pos (by rw [List.length_append]; exact hl)]
    decide
  right
  have hE2 : playE g (l1 ++ l2).length = 0 := by
    unfold playE
    rw [if_neg (by simp [hc]), if_neg (by rw [List.length_append]; exact hl)]
  obtain ⟨rfl, rfl⟩ := h2.2 hE2
  obtain ⟨e1, e2, e3, e4⟩ := play_end hc l1 (by omega)
  have hnum := (newM_num hc).play l1
  have hn24 := len_of_check hc
  obtain ⟨_, hol⟩ := (newM_ok (good_of_check hc)).play l1
  have hol' : (playM (newM g) l1).2.objs.length ≤ g.objs.length + l1.length := hol
  have ha := playM_append (newM g) l1 l2
  have hlen1 := playM_len (newM g) l1
  refine ⟨hE1, hE2, hlen1, by rw [playM_len, List.length_append], ?_, ?_, ?_⟩
  · rw [ha]
    simp only
    rw [← hlen1, List.take_left']
    exact hlen1.symm ▸ rfl
  · show ((playM (newM g) l1).2.regs.map _).length = 8
    rw [List.length_map, e1.n8]
  · intro C3 H3 h3
    by_cases h24 : (canonG (grM (playM (newM g) l1).2)).objs.length ≤ 24
    · right
      have hk := canon_small e1 hnum (by omega) h24
      have hE3 : playE (canonG (grM (playM (newM g) l1).2)) l2.length = 0 := by
        unfold playE
        rw [if_neg (by simp [hk]), if_neg (by omega)]
      obtain ⟨rfl, rfl⟩ := h3.2 hE3
      obtain ⟨s1, s2⟩ := splits e1 (by omega) l2 (by omega)
      refine ⟨hE3, ?_, ?_⟩
      · rw [ha, s1]
        simp only
        rw [List.drop_append_of_le_length (by omega), List.drop_eq_nil_of_le (by omega), List.nil_append]
      · rw [s2, ha]
    · left
      have hk := canon_large (m := (playM (newM g) l1).2) (by omega)
      refine ⟨?_, by omega⟩
      unfold playE
      rw [hk, if_pos (by decide)]
      decide

end Go.Proofs.Ytlolcdgbidboeaa

/- Walks: IdealSplits. -/
namespace Go.Proofs.Ytlolcdgbidboeaa
set_option linter.unusedSimpArgs false
set_option linter.unusedVariables false
open Go.RowKit Go.Shelf

theorem fin_box {base b : Nat} {w6 : World} {bc yo yr : Option Addr} {C : List Ou} {H : Gr} (u0 u1 : Value) (hb : b < base) (hOu : OusF base w6 bc C) (hOb : ObjsF base w6 yo H.objs) (hVa : ValsF base w6 yr H.roots) :
    Hid (Ous ((w6.setCell ⟨b, 0, none⟩ u0).setCell ⟨b, 1, none⟩ u1).heap.size ((w6.setCell ⟨b, 0, none⟩ u0).setCell ⟨b, 1, none⟩ u1) bc C) ∧ Hid (Objs ((w6.setCell ⟨b, 0, none⟩ u0).setCell ⟨b, 1, none⟩ u1).heap.size ((w6.setCell ⟨b, 0, none⟩ u0).setCell ⟨b, 1, none⟩ u1) yo H.objs) ∧ Hid (Vals ((w6.setCell ⟨b, 0, none⟩ u0).setCell ⟨b, 1, none⟩ u1).heap.size ((w6.setCell ⟨b, 0, none⟩ u0).setCell ⟨b, 1, none⟩ u1) yr H.roots) :=
  ⟨((hOu.setCell (p := ⟨b, 0, none⟩) hb u0).setCell (p := ⟨b, 1, none⟩) hb u1).1, ((hOb.setCell (p := ⟨b, 0, none⟩) hb u0).setCell (p := ⟨b, 1, none⟩) hb u1).objs, ((hVa.setCell (p := ⟨b, 0, none⟩) hb u0).setCell (p := ⟨b, 1, none⟩) hb u1).1⟩

theorem fin_new {base : Nat} {w6 : World} {bc yo yr : Option Addr} {C : List Ou} {H : Gr} (x : Obj) (hOu : OusF base w6 bc C) (hOb : ObjsF base w6 yo H.objs) (hVa : ValsF base w6 yr H.roots) :
    Hid (Ous (w6.alloc x).heap.size (w6.alloc x) bc C) ∧ Hid (Objs (w6.alloc x).heap.size (w6.alloc x) yo H.objs) ∧ Hid (Vals (w6.alloc x).heap.size (w6.alloc x) yr H.roots) := by
  have ha : Below w6.heap.size w6 (w6.alloc x) := (Below.refl _ _).alloc (Nat.le_refl _) _
  exact ⟨(hOu.below ha).1, (hOb.below ha).objs, (hVa.below ha).1⟩

set_option maxRecDepth 100000 in
set_option maxHeartbeats 16000000 in
theorem splits_c (ao ar : Option Addr) (co cr : Nat) (g : Gr) (a1 : Option Addr) (c1 : Nat) (l1 : List Dd) (a2 : Option Addr) (c2 : Nat) (l2 : List Dd) (w : World) (ho : Objs w.heap.size w ao g.objs) (hr : Vals w.heap.size w ar g.roots) (h1 : Dos w.heap.size w a1 l1) (h2 : Dos w.heap.size w a2 l2) (hl : l1.length + l2.length ≤ 2097152) :
    Calls Try.prog 4 #[.agg #[.slice ao g.objs.length co, .slice ar g.roots.length cr], .slice a1 l1.length c1, .slice a2 l2.length c2] w fun e w' => e = .returned (.bool true) ∧ Below w.heap.size w w' := by
  obtain ⟨W1, hW1⟩ : ∃ W1, w.alloc (.cells #[.slice ao g.objs.length co, .slice ar g.roots.length cr] 25) = W1 := ⟨_, rfl⟩
  have hb1 : Below w.heap.size w W1 := by rw [← hW1]; exact (Below.refl w.heap.size w).alloc (Nat.le_refl _) _
  have hs1 : w.heap.size < W1.heap.size := by rw [← hW1]; simp
  have g0 : W1.cell? ⟨w.heap.size, 0, none⟩ = some (.slice ao g.objs.length co) := by rw [← hW1]; simp [go_sem]
  have g1 : W1.cell? ⟨w.heap.size, 1, none⟩ = some (.slice ar g.roots.length cr) := by rw [← hW1]; simp [go_sem]
  have HP1 := hide (play_c ao ar co cr g a1 c1 l1 w.heap.size W1 (ho.below hb1) (hr.below hb1) (by omega) (h1.below hb1))
  go_enter Try.func4, Try.ntmps4
  go_wp2_with fail
  clear hW1
  refine (unhide HP1).mono ?_
  rintro e w2 ⟨hres, hb2⟩
  obtain ⟨C1, H1, ac, cc, xo, xoc, xr, xrc, he, hOu, hOb, hVa, HI1, hcc⟩ := hres
  subst he
  have hs2 := hb2.size
  have hbw2 : Below w.heap.size w w2 := hb1.trans (hb2.mono (by omega))
  replace g0 := (hb2.cell (p := ⟨w.heap.size, 0, none⟩) hs1).trans g0
  replace g1 := (hb2.cell (p := ⟨w.heap.size, 1, none⟩) hs1).trans g1
  have hl2 : w.heap.size < w2.heap.size := by omega
  obtain ⟨E1, HE1⟩ : ∃ E, Hid (playE g l1.length = E) := ⟨_, rfl⟩
  obtain ⟨E2, HE2⟩ : ∃ E, Hid (playE g (l1 ++ l2).length = E) := ⟨_, rfl⟩
  rw [unhide HE1]
  obtain ⟨W3, hW3⟩ : ∃ W3, w2.alloc (.cells #[.slice xo H1.objs.length xoc, .slice xr H1.roots.length xrc] 25) = W3 := ⟨_, rfl⟩
  have hb3 : Below w2.heap.size w2 W3 := by rw [← hW3]; exact (Below.refl _ _).alloc (Nat.le_refl _) _
  have hs3 : w2.heap.size < W3.heap.size := by rw [← hW3]; simp
  have x0 : W3.cell? ⟨w2.heap.size, 0, none⟩ = some (.slice xo H1.objs.length xoc) := by rw [← hW3]; simp [go_sem]
  have x1 : W3.cell? ⟨w2.heap.size, 1, none⟩ = some (.slice xr H1.roots.length xrc) := by rw [← hW3]; simp [go_sem]
  have hbw3 : Below w.heap.size w W3 := hbw2.trans (hb3.mono hbw2.size)
  have hl3 : w.heap.size < W3.heap.size := by omega
  replace g0 := (hb3.cell (p := ⟨w.heap.size, 0, none⟩) hl2).trans g0
  replace g1 := (hb3.cell (p := ⟨w.heap.size, 1, none⟩) hl2).trans g1
  have HOu := hide ((hOu.1.below hb3).mono (Nat.le_of_lt hs3))
  have HOb := hide ((hOb.objs.below hb3).mono (Nat.le_of_lt hs3))
  have HVa := hide ((hVa.1.below hb3).mono (Nat.le_of_lt hs3))
  have HW3 := hide hW3
  have Hbeh := hide (fun (X : World) (hX : Below W3.heap.size W3 X) => behind_c a1 a2 c1 c2 l1 l2 w.heap.size X (h1.below (hbw3.trans (hX.mono hbw3.size))) (h2.below (hbw3.trans (hX.mono hbw3.size))) (Nat.le_trans hbw3.size hX.size) hl)
  have Hpl2 := hide (fun (X : World) (a' : Option Addr) (c' : Nat) (hX : Below W3.heap.size W3 X) (hD : Dos X.heap.size X a' (l1 ++ l2)) => play_c ao ar co cr g a' c' (l1 ++ l2) X.heap.size X ((ho.below (hbw3.trans (hX.mono hbw3.size))).mono (Nat.le_trans hbw3.size hX.size)) ((hr.below (hbw3.trans (hX.mono hbw3.size))).mono (Nat.le_trans hbw3.size hX.size)) (Nat.le_refl _) hD)
  obtain ⟨L, HL⟩ : ∃ L, Hid (l1 ++ l2 = L) := ⟨_, rfl⟩
  rw [unhide HL] at Hbeh Hpl2 HE2
  have Hcc := hide hcc
  clear hW3 HP1 hOu hOb hVa hb1 hb2 hcc
  go_upto_region 2 with fail
  rw [unhide HW3]
  go_cut [10, 11, 12] from 22 to 31 (fun s10 p11 s12 wx => ∃ C2 H2 bc bcc b11 yo yoc yr yrc, s10 = .slice bc C2.length bcc ∧ p11 = .pointer (some ⟨b11, 0, none⟩) ∧ s12 = .int .i64 E2 ∧ Hid (wx.cell? ⟨b11, 0, none⟩ = some (.slice yo H2.objs.length yoc) ∧ wx.cell? ⟨b11, 1, none⟩ = some (.slice yr H2.roots.length yrc)) ∧ b11 < wx.heap.size ∧ Hid (Ous wx.heap.size wx bc C2) ∧ Hid (Objs wx.heap.size wx yo H2.objs) ∧ Hid (Vals wx.heap.size wx yr H2.roots) ∧ Hid (PyIs g L C2 H2) ∧ Hid (C2.length ≤ bcc) ∧ Below W3.heap.size W3 wx)
  case first =>
    go_region_with (first
      | (go_at_call 11; refine ((unhide Hbeh) _ (Below.refl _ _).drew).mono ?_; rintro e w5 ⟨⟨a5, c5, he, hD5⟩, hb5⟩; subst he; have hb5' : Below W3.heap.size W3 w5 := (Below.refl W3.heap.size W3).drew.trans hb5; have v0 := (hb5'.cell (p := ⟨w.heap.size, 0, none⟩) hl3).trans g0; have v1 := (hb5'.cell (p := ⟨w.heap.size, 1, none⟩) hl3).trans g1; have hl5 : w.heap.size < w5.heap.size := Nat.lt_of_lt_of_le hl3 hb5'.size; have HD5 := hide hD5; clear hD5 hb5)
      | (go_at_call 11; refine ((unhide Hbeh) _ ((Below.refl _ _).alloc (Nat.le_refl _) _).drew).mono ?_; rintro e w5 ⟨⟨a5, c5, he, hD5⟩, hb5⟩; subst he; have hb5' : Below W3.heap.size W3 w5 := ((Below.refl W3.heap.size W3).alloc (Nat.le_refl _) (.cells #[.slice none 0 0, .slice none 0 0] 25)).drew.trans (hb5.mono (by simp [World.drew])); have v0 := (hb5'.cell (p := ⟨w.heap.size, 0, none⟩) hl3).trans g0; have v1 := (hb5'.cell (p := ⟨w.heap.size, 1, none⟩) hl3).trans g1; have hl5 : w.heap.size < w5.heap.size := Nat.lt_of_lt_of_le hl3 hb5'.size; have q0 := hb5.cell (p := ⟨W3.heap.size, 0, none⟩) (by simp [World.drew]); have q1 := hb5.cell (p := ⟨W3.heap.size, 1, none⟩) (by simp [World.drew]); have t0 := hb5.frozen (p := ⟨W3.heap.size, 0, none⟩) (by simp [World.drew]); have t1 := hb5.frozen (p := ⟨W3.heap.size, 1, none⟩) (by simp [World.drew]); simp [go_sem] at q0 q1 t0 t1; have hq5 : W3.heap.size < w5.heap.size := Nat.lt_of_lt_of_le (by simp [World.drew]) hb5.size; have HD5 := hide hD5; clear hD5 hb5)
      | (go_at_call 6; refine ((unhide Hpl2) w5 a5 c5 hb5' (unhide HD5)).mono ?_; rintro e w6 ⟨hres6, hb6⟩; obtain ⟨C2, H2, bc, bcc, yo, yoc, yr, yrc, he6, hOu6, hOb6, hVa6, HI6, hcc6⟩ := hres6; rw [unhide HE2] at he6; subst he6; have HOu6 := hide hOu6; have HOb6 := hide hOb6; have HVa6 := hide hVa6; have Hcc6 := hide hcc6; have hb6' : Below W3.heap.size W3 w6 := hb5'.trans (hb6.mono hb5'.size); try (have y0 := (hb6.cell (p := ⟨W3.heap.size, 0, none⟩) hq5).trans q0; have y1 := (hb6.cell (p := ⟨W3.heap.size, 1, none⟩) hq5).trans q1; have z0 := (hb6.frozen (p := ⟨W3.heap.size, 0, none⟩) hq5).trans t0; have z1 := (hb6.frozen (p := ⟨W3.heap.size, 1, none⟩) hq5).trans t1; have hq6 : W3.heap.size < w6.heap.size := Nat.lt_of_lt_of_le hq5 hb6.size); clear hOu6 hOb6 hVa6 hb6 hcc6)
      | (go_at_call 6; refine ((unhide Hpl2) (w5.alloc (.cells #[.slice none 0 0, .slice none 0 0] 25)) a5 c5 (hb5'.alloc hb5'.size _) (((unhide HD5).below ((Below.refl _ _).alloc (Nat.le_refl _) _)).mono (by simp))).mono ?_; rintro e w6 ⟨hres6, hb6⟩; obtain ⟨C2, H2, bc, bcc, yo, yoc, yr, yrc, he6, hOu6, hOb6, hVa6, HI6, hcc6⟩ := hres6; rw [unhide HE2] at he6; subst he6; have HOu6 := hide hOu6; have HOb6 := hide hOb6; have HVa6 := hide hVa6; have Hcc6 := hide hcc6; have hb6' : Below W3.heap.size W3 w6 := (hb5'.alloc hb5'.size (.cells #[.slice none 0 0, .slice none 0 0] 25)).trans (hb6.mono (by have := hb5'.size; simp; omega)); have y0 := hb6.cell (p := ⟨w5.heap.size, 0, none⟩) (by simp); have y1 := hb6.cell (p := ⟨w5.heap.size, 1, none⟩) (by simp); have z0 := hb6.frozen (p := ⟨w5.heap.size, 0, none⟩) (by simp); have z1 := hb6.frozen (p := ⟨w5.heap.size, 1, none⟩) (by simp); simp [go_sem] at y0 y1 z0 z1; have hq6 : w5.heap.size < w6.heap.size := Nat.lt_of_lt_of_le (by simp) hb6.size; clear hOu6 hOb6 hVa6 hb6 hcc6))
    all_goals
      go_wp2_with fail
      go_meet
      case rel =>
        first
          | exact ⟨C2, H2, bc, bcc, w6.heap.size, yo, yoc, yr, yrc, rfl, rfl, rfl, hide ⟨by simp [go_sem], by simp [go_sem]⟩, by simp, (fin_new _ (unhide HOu6) (unhide HOb6) (unhide HVa6)).1, (fin_new _ (unhide HOu6) (unhide HOb6) (unhide HVa6)).2.1, (fin_new _ (unhide HOu6) (unhide HOb6) (unhide HVa6)).2.2, HI6, Hcc6, hb6'.alloc hb6'.size _⟩
          | exact ⟨C2, H2, bc, bcc, w5.heap.size, yo, yoc, yr, yrc, rfl, rfl, rfl, hide ⟨by simp [go_sem, y0, y1, hq6], by simp [go_sem, y0, y1, hq6]⟩, by simpa [World.setCell] using hq6, (fin_box _ _ (by simp) (unhide HOu6) (unhide HOb6) (unhide HVa6)).1, (fin_box _ _ (by simp) (unhide HOu6) (unhide HOb6) (unhide HVa6)).2.1, (fin_box _ _ (by simp) (unhide HOu6) (unhide HOb6) (unhide HVa6)).2.2, HI6, Hcc6, (hb6'.setCell (p := ⟨w5.heap.size, 0, none⟩) hb5'.size _).setCell (p := ⟨w5.heap.size, 1, none⟩) hb5'.size _⟩
          | exact ⟨C2, H2, bc, bcc, W3.heap.size, yo, yoc, yr, yrc, rfl, rfl, rfl, hide ⟨by simp [go_sem, y0, y1, hq6], by simp [go_sem, y0, y1, hq6]⟩, by simpa [World.setCell] using hq6, (fin_box _ _ hq5 (unhide HOu6) (unhide HOb6) (unhide HVa6)).1, (fin_box _ _ hq5 (unhide HOu6) (unhide HOb6) (unhide HVa6)).2.1, (fin_box _ _ hq5 (unhide HOu6) (unhide HOb6) (unhide HVa6)).2.2, HI6, Hcc6, (hb6'.setCell (p := ⟨W3.heap.size, 0, none⟩) (Nat.le_refl _) _).setCell (p := ⟨W3.heap.size, 1, none⟩) (Nat.le_refl _) _⟩
  case rest =>
  obtain ⟨C2, H2, bc, bcc, b11, yo, yoc, yr, yrc, rfl, rfl, rfl, Hy, hlb, HOu2, HOb2, HVa2, HI2, Hcc2, hbc⟩ := hcut
  obtain ⟨WX, hWX⟩ : ∃ WX, WX = wc := ⟨_, rfl⟩
  subst hWX
  have HSp : Hid (SpIs g l1 l2 C1 C2 H1 H2 E1 E2) := by
    have h2i := unhide HI2
    have e1 := unhide HE1
    have e2 := unhide HE2
    rw [← unhide HL] at h2i e2
    have := sp_is (unhide HI1) h2i
    rw [e1, e2] at this
    exact this
  have hbx : Below w.heap.size w WX := hbw3.trans (hbc.mono hbw3.size)
  have x0 := (hbc.cell (p := ⟨w2.heap.size, 0, none⟩) hs3).trans x0
  have x1 := (hbc.cell (p := ⟨w2.heap.size, 1, none⟩) hs3).trans x1
  have hl8 : w2.heap.size < WX.heap.size := Nat.lt_of_lt_of_le hs3 hbc.size
  have HO1 := hide (((unhide HOu).below hbc).mono hbc.size)
  have HO2 := hide (((unhide HOb).below hbc).mono hbc.size)
  have HO3 := hide (((unhide HVa).below hbc).mono hbc.size)
  clear HI1 HI2 HL HE1 HE2 g0 g1 Hbeh Hpl2 HW3 hbw3 hb3 HOu HOb HVa hs3
  rcases unhide HSp with ⟨hE, rfl⟩ | ⟨hE, hE', hlen, hCl⟩ | ⟨hE, hE', hC1, hC2, htk, h8, hth⟩
  · have dE : (E1 != 0) = true := by simpa using hE
    clear hE
    clear HSp x0 x1 Hy
    go_wp2
    go_ret
    exact ⟨rfl, hbx⟩
  · subst hE
    have dE : (E2 != 0) = true := by simpa using hE'
    clear hE'
    have dl : decide (100 < (l1.length : Int) + (l2.length : Int)) = true := decide_eq_true (by omega)
    have hwr : IntKind.i64.wrap ((l1.length : Int) + (l2.length : Int)) = (l1.length : Int) + (l2.length : Int) := by rw [IntKind.wrap_i64]; omega
    have HCl := hide hCl
    clear HSp x0 x1 Hy hCl
    cases hz : ((C1.length : Int) == 0)
    · go_wp2
      go_ret
      exact ⟨rfl, hbx⟩
    · go_wp2
      go_ret
      exact ⟨rfl, hbx⟩
  · subst hE
    subst hE'
    have hcc2 := unhide Hcc2
    have hsl1 := fun W => slice_to bc C2.length bcc l1.length (by omega) W
    have e23 : C2.length - l1.length = l2.length := by omega
    have hsl2 : ∀ W, (Instr.slice 27 (.slice bc C2.length bcc) (some (.int .i64 (l1.length : Nat))) none none).run Try.prog W = .ok (.slice (aFrom bc bcc l1.length) l2.length (bcc - l1.length)) W := fun W => by
      rw [slice_from bc C2.length bcc l1.length (by omega) hcc2 W, e23]
    have HOd := hide (ous_drop (unhide HOu2) l1.length bcc hcc2)
    have HOt := hide (ous_take (unhide HOu2) l1.length)
    obtain ⟨ad, Had⟩ : ∃ x, Hid (aFrom bc bcc l1.length = x) := ⟨_, rfl⟩
    obtain ⟨cd, Hcd⟩ : ∃ x, Hid (bcc - l1.length = x) := ⟨_, rfl⟩
    rw [unhide Had] at HOd hsl2
    rw [unhide Hcd] at hsl2
    rw [htk] at HOt
    have HU1 := hide (outs_c bc ac bcc cc C1 WX.heap.size WX (unhide HOt) (unhide HO1) (Nat.le_refl _))
    rw [hC1] at HU1 ⊢
    have d1 : ((l1.length : Int) != (l1.length : Int)) = false := by simp
    have hwr : IntKind.i64.wrap ((l1.length : Int) + (l2.length : Int)) = (l1.length : Int) + (l2.length : Int) := by rw [IntKind.wrap_i64]; omega
    have d2 : ((C2.length : Int) != (l1.length : Int) + (l2.length : Int)) = false := by simp [hC2]
    have d3 : ((H1.roots.length : Int) != 8) = false := by simp [h8]
    have Hth := hide hth
    have Hd23 := hide (show C2.length = l1.length + l2.length from hC2)
    clear HSp hth h8 htk hC1 hC2 e23 hcc2
    go_wp2_with fail
    refine (unhide HU1).mono ?_
    rintro e w9 ⟨he, hb9⟩
    subst he
    have hs9 := hb9.size
    have x0 := (hb9.cell (p := ⟨w2.heap.size, 0, none⟩) hl8).trans x0
    have x1 := (hb9.cell (p := ⟨w2.heap.size, 1, none⟩) hl8).trans x1
    have hl9 : w2.heap.size < w9.heap.size := by omega
    have hbw9 : Below w.heap.size w w9 := hbx.trans (hb9.mono hbx.size)
    have HP3 := hide (play_c xo xr xoc xrc H1 a2 c2 l2 w9.heap.size w9 (((unhide HO2).below hb9).mono hs9) (((unhide HO3).below hb9).mono hs9) (Nat.le_refl _) ((h2.below hbw9).mono hbw9.size))
    have Hb9 := hide hb9
    clear HU1 hb9 hsl1 d1 d2
    go_wp2_with fail
    refine (unhide HP3).mono ?_
    rintro e w10 ⟨hres, hb10⟩
    obtain ⟨C3, H3, nc, ncc, zo, zoc, zr, zrc, he, hOu3, hOb3, hVa3, HI3, hcc3⟩ := hres
    subst he
    have hs10 := hb10.size
    have hbw10 : Below w.heap.size w w10 := hbw9.trans (hb10.mono hbw9.size)
    have x0 := (hb10.cell (p := ⟨w2.heap.size, 0, none⟩) hl9).trans x0
    have x1 := (hb10.cell (p := ⟨w2.heap.size, 1, none⟩) hl9).trans x1
    have hl10 : w2.heap.size < w10.heap.size := by omega
    have hbx10 : Below WX.heap.size WX w10 := (unhide Hb9).trans (hb10.mono hs9)
    obtain ⟨W11, hW11⟩ : ∃ W11, w10.alloc (.cells #[.slice zo H3.objs.length zoc, .slice zr H3.roots.length zrc] 25) = W11 := ⟨_, rfl⟩
    have hb11 : Below w10.heap.size w10 W11 := by rw [← hW11]; exact (Below.refl _ _).alloc (Nat.le_refl _) _
    have hs11 : w10.heap.size < W11.heap.size := by rw [← hW11]; simp
    have u0 : W11.cell? ⟨w10.heap.size, 0, none⟩ = some (.slice zo H3.objs.length zoc) := by rw [← hW11]; simp [go_sem]
    have u1 : W11.cell? ⟨w10.heap.size, 1, none⟩ = some (.slice zr H3.roots.length zrc) := by rw [← hW11]; simp [go_sem]
    have hbw11 : Below w.heap.size w W11 := hbw10.trans (hb11.mono hbw10.size)
    have hbx11 : Below WX.heap.size WX W11 := hbx10.trans (hb11.mono hbx10.size)
    have x0 := (hb11.cell (p := ⟨w2.heap.size, 0, none⟩) hl10).trans x0
    have hl11 : w2.heap.size < W11.heap.size := by omega
    have HOu3 := hide ((hOu3.1.below hb11).mono hb11.size)
    have HOb3 := hide ((hOb3.objs.below hb11).mono hb11.size)
    have HVa3 := hide ((hVa3.1.below hb11).mono hb11.size)
    have HW11 := hide hW11
    obtain ⟨E3, HE3⟩ : ∃ E, Hid (playE H1 l2.length = E) := ⟨_, rfl⟩
    have Hth3 := hide ((unhide Hth) C3 H3 (unhide HI3))
    rw [unhide HE3] at Hth3 ⊢
    clear HP3 hW11 hOu3 hOb3 hVa3 hcc3 hb10 hbx10 Hth HI3 HE3
    rcases unhide Hth3 with ⟨hE3, h24⟩ | ⟨hE3, hdr, hHH⟩
    · have dE : (E3 != 0) = true := by simpa using hE3
      have d24 : decide (24 < (H1.objs.length : Int)) = true := decide_eq_true (by omega)
      have d24N : decide (24 < H1.objs.length) = true := decide_eq_true h24
      have H24 := hide h24
      clear hE3 Hth3 h24
      go_wp2_with fail
      rw [unhide HW11]
      go_wp2
      go_ret
      exact ⟨rfl, hbw11⟩
    · subst hE3
      subst hHH
      have hC3 : C3.length = l2.length := by rw [← hdr, List.length_drop, unhide Hd23]; omega
      rw [hdr] at HOd
      have HU2 := hide (outs_c nc ad ncc cd C3 W11.heap.size W11 (unhide HOu3) (((unhide HOd).below hbx11).mono hbx11.size) (Nat.le_refl _))
      rw [hC3] at HU2 ⊢
      have HX := hide (fun (X : World) (hX : Below W11.heap.size W11 X) => gsame_c zo zr yo yr zoc zrc yoc yrc H3 W11.heap.size X ((unhide HOb3).below hX) ((unhide HVa3).below hX) ((((unhide HOb2).below hbx11).mono hbx11.size).below hX) ((((unhide HVa2).below hbx11).mono hbx11.size).below hX) hX.size)
      obtain ⟨y0, y1⟩ := unhide Hy
      have y0 := (hbx11.cell (p := ⟨b11, 0, none⟩) hlb).trans y0
      have y1 := (hbx11.cell (p := ⟨b11, 1, none⟩) hlb).trans y1
      have hlb11 : b11 < W11.heap.size := Nat.lt_of_lt_of_le hlb hbx11.size
      clear hC3 hdr Hth3 x0 x1
      go_wp2_with fail
      rw [unhide HW11]
      refine (unhide HU2).mono ?_
      rintro e w12 ⟨he, hb12⟩
      subst he
      have hs12 := hb12.size
      have y0 := (hb12.cell (p := ⟨b11, 0, none⟩) hlb11).trans y0
      have y1 := (hb12.cell (p := ⟨b11, 1, none⟩) hlb11).trans y1
      have u0 := (hb12.cell (p := ⟨w10.heap.size, 0, none⟩) hs11).trans u0
      have u1 := (hb12.cell (p := ⟨w10.heap.size, 1, none⟩) hs11).trans u1
      have hl12 : b11 < w12.heap.size := by omega
      have hl12' : w10.heap.size < w12.heap.size := by omega
      have hbw12 : Below w.heap.size w w12 := hbw11.trans (hb12.mono hbw11.size)
      have HX12 := hide ((unhide HX) w12 hb12)
      clear HU2 HX hb12
      go_wp2_with fail
      refine (unhide HX12).mono ?_
      rintro e w13 ⟨he, hb13⟩
      subst he
      go_wp2
      go_ret
      exact ⟨rfl, hbw12.trans (hb13.mono hbw12.size)⟩

end Go.Proofs.Ytlolcdgbidboeaa

/- Scripts that came in are no longer than what the bound says of them. -/
namespace Go.Proofs.Ytlolcdgbidboeaa
set_option linter.unusedSimpArgs false
set_option linter.unusedVariables false
open Go.RowKit Go.Joins Go.Deep Go.ChangeShapes Go.WideShapes

theorem bulk_one {H : Type} (d : DataW H) : 1 ≤ Rows.uptoBulk d := by
  cases d with
  | lit l => cases l <;> simp [Rows.uptoBulk]
  | nil => simp [Rows.uptoBulk]
  | ptr d => simp [Rows.uptoBulk]
  | slice elems spare => simp [Rows.uptoBulk]
  | agg parts => simp [Rows.uptoBulk]
  | iface t d => simp [Rows.uptoBulk]
  | map entries => simp [Rows.uptoBulk]
  | held h => simp [Rows.uptoBulk]

theorem bulk_len {H : Type} (l : List (DataW H)) : l.length ≤ Rows.uptoBulkAll l := by
  induction l with
  | nil => simp [Rows.uptoBulkAll]
  | cons x r ih => have := bulk_one x; simp only [Rows.uptoBulkAll, List.length_cons]; omega

theorem bulk_append {H : Type} (l r : List (DataW H)) : Rows.uptoBulkAll (l ++ r) = Rows.uptoBulkAll l + Rows.uptoBulkAll r := by
  induction l with
  | nil => simp [Rows.uptoBulkAll]
  | cons x l ih => simp only [List.cons_append, Rows.uptoBulkAll, ih]; omega

/-- A slice that came in: no longer than its bulk. -/
theorem slice_bulk {H : Type} {enc : TypeId × Value → H} {w : World} {base : Nat} {spare : Nat → Bool} {held : Bool} {t e : TypeId} (ht : Try.prog.underlying t = some (.slice e)) {a : Option Addr} {n cap : Nat} {d : DataW H} {p : List MemPlace} (h : DataW.Trod enc Try.prog w base spare held t (.slice a n cap) d p) : n ≤ Rows.uptoBulk d := by
  obtain ⟨fuel, hf⟩ := h
  rcases open_slice ht hf with ⟨hcs, _⟩ | ⟨a', len, cap', m, n', D, Pl, hcs, _, _, _, _, hx, _⟩
  · simp [Value.cells] at hcs
    rw [hcs.2.1]
    exact Nat.zero_le _
  · simp [Value.cells] at hcs
    injection hx with hx _
    rw [hx, hcs.2.1]
    simp only [Rows.uptoBulk]
    have := bulk_len ((List.range len).map D)
    simp at this
    omega

theorem bulk_two {H : Type} {d1 d2 : DataW H} {r : List (DataW H)} (hk : Rows.uptoSmall H (d1 :: d2 :: r) = true) : Rows.uptoBulk d1 + Rows.uptoBulk d2 ≤ 1048576 := by
  have h := of_decide_eq_true hk
  simp only [Rows.uptoBulkAll] at h
  omega
theorem bulk_rest {H : Type} {d1 d2 d3 : DataW H} {r : List (DataW H)} (hk : Rows.uptoSmall H (d1 :: d2 :: d3 :: r) = true) : Rows.uptoBulk d2 + Rows.uptoBulk d3 ≤ 1048576 := by
  have h := of_decide_eq_true hk
  simp only [Rows.uptoBulkAll] at h
  omega

end Go.Proofs.Ytlolcdgbidboeaa
