/- Merged texts: Mb Mt Me Mh Kc Kd Ke Kf Cb Tc Qm Rg Ri Qn Kg Md Mf. -/
import Derived.Test.YtemjhdbmcdlpeaaProg
import Derived.Test.YtemjhdbmcdlpeaaFingersTellsD
import Derived.WalkSmall
import Derived.Deep.RegionWith
import Derived.RegionTactic
import Derived.BigQuiet
import Derived.StillTailTactics

/- What a marker holds, in memory. -/
namespace Go.Proofs.Ytemjhdbmcdlpeaa
set_option linter.unusedSimpArgs false
set_option linter.unusedVariables false
open Go.RowKit Go.Shelf

theorem ty_set {W : World} {mb : Nat} {t : TypeId} (h : ∃ cs, W.heap[mb]? = some (.cells cs t)) (j : Nat) (u : Value) : ∃ cs, (W.setCell ⟨mb, j, none⟩ u).heap[mb]? = some (.cells cs t) := by
  obtain ⟨cs, h⟩ := h
  exact ⟨_, heap_setCell_same W mb j cs t u h⟩

/-- Blocks of other types than words, numbers and markers are as they were. -/
def KeepT (W W' : World) : Prop := ∀ (k : Nat) (cs : Array Value) (t : TypeId), W.heap[k]? = some (.cells cs t) → t ≠ 56 → t ≠ 3 → t ≠ 80 → W'.heap[k]? = some (.cells cs t)

theorem KeepT.trans {a b c : World} (h : KeepT a b) (h' : KeepT b c) : KeepT a c := fun k cs t hk h1 h2 h3 => h' k cs t (h k cs t hk h1 h2 h3) h1 h2 h3
theorem KeepT.refl (W : World) : KeepT W W := fun k cs t hk _ _ _ => hk
theorem KeepT.below {W W' : World} (h : Below W.heap.size W W') : KeepT W W' := fun k cs t hk _ _ _ => by rw [h.block k (Array.getElem?_eq_some_iff.1 hk).1]; exact hk
theorem KeepT.alloc {a W : World} (h : KeepT a W) (o : Obj) : KeepT a (W.alloc o) := h.trans (KeepT.below ((Below.refl _ _).alloc (Nat.le_refl _) _))
theorem KeepT.setCell {a W : World} (h : KeepT a W) {b j : Nat} {t : TypeId} (hb : ∃ cs, W.heap[b]? = some (.cells cs t)) (ht : t = 56 ∨ t = 3 ∨ t = 80) (u : Value) : KeepT a (W.setCell ⟨b, j, none⟩ u) := by
  refine h.trans fun k cs t' hk h1 h2 h3 => ?_
  obtain ⟨cs', hb⟩ := hb
  rw [Below.heap_setCell _ _ _ _ ?_]
  · exact hk
  · intro e
    subst e
    rw [hk] at hb
    injection hb with hb
    injection hb with _ hb
    subst hb
    rcases ht with ht | ht | ht
    · exact h1 ht
    · exact h2 ht
    · exact h3 ht
theorem KeepT.grown {a W W' : World} (h : KeepT a W) {base n : Nat} {t : TypeId} {size : Nat} {v : Value} {xs : List Value} (hr : W.ownsRow base t size v n xs) (hg : W.grownBy W' v.ownBlock) (ht : t = 56 ∨ t = 3 ∨ t = 80) : KeepT a W' := by
  refine h.trans fun k cs t' hk h1 h2 h3 => ?_
  rw [hg.block k (Array.getElem?_eq_some_iff.1 hk).1 ?_]
  · exact hk
  · intro e
    rcases hr.2 with ⟨rfl, _⟩ | ⟨g, cap, cur, rfl, _, hb, _⟩
    · simp [Value.ownBlock] at e
    · obtain rfl : k = g := by simpa [Value.ownBlock] using e
      rw [hk] at hb
      injection hb with hb
      injection hb with _ hb
      subst hb
      rcases ht with ht | ht | ht
      · exact h1 ht
      · exact h2 ht
      · exact h3 ht
theorem ty_row {W : World} {base n cap g : Nat} {t : TypeId} {size : Nat} {xs : List Value} (hr : W.ownsRow base t size (.slice (some ⟨g, 0, none⟩) n cap) n xs) : ∃ cs, W.heap[g]? = some (.cells cs t) := by
  rcases hr.2 with ⟨h, _⟩ | ⟨g', cap', cur, h, _, hb, _⟩
  · cases h
  · cases h
    exact ⟨cur, hb⟩

/-- The five cells of a marker. -/
structure MBox (W : World) (mb : Nat) (vw vr : Value) (room : Nat) (vk : Value) (lost : Bool) : Prop where
  c0 : W.cell? ⟨mb, 0, none⟩ = some vw
  c1 : W.cell? ⟨mb, 1, none⟩ = some vr
  c2 : W.cell? ⟨mb, 2, none⟩ = some (.int .i64 room)
  c3 : W.cell? ⟨mb, 3, none⟩ = some vk
  c4 : W.cell? ⟨mb, 4, none⟩ = some (.bool lost)
  fr : ∀ j, W.frozen? ⟨mb, j, none⟩ = false
  ty : ∃ cs, W.heap[mb]? = some (.cells cs 80)

theorem MBox.kept {W W' : World} {mb : Nat} {vw vr vk : Value} {room : Nat} {lost : Bool} (h : MBox W mb vw vr room vk lost) (hb : W'.heap[mb]? = W.heap[mb]?) : MBox W' mb vw vr room vk lost :=
  ⟨(World.cell?_of_block (a := ⟨mb, 0, none⟩) hb).trans h.c0, (World.cell?_of_block (a := ⟨mb, 1, none⟩) hb).trans h.c1, (World.cell?_of_block (a := ⟨mb, 2, none⟩) hb).trans h.c2, (World.cell?_of_block (a := ⟨mb, 3, none⟩) hb).trans h.c3, (World.cell?_of_block (a := ⟨mb, 4, none⟩) hb).trans h.c4,
    fun j => (World.frozen?_of_block (a := ⟨mb, j, none⟩) hb).trans (h.fr j), by rw [hb]; exact h.ty⟩

theorem MBox.lt {W : World} {mb : Nat} {vw vr vk : Value} {room : Nat} {lost : Bool} (h : MBox W mb vw vr room vk lost) : mb < W.heap.size := World.block_lt_of_cell? W _ h.c0

theorem MBox.set0 {W : World} {mb : Nat} {vw vr vk : Value} {room : Nat} {lost : Bool} (h : MBox W mb vw vr room vk lost) (v : Value) : MBox (W.setCell ⟨mb, 0, none⟩ v) mb v vr room vk lost := by
  refine ⟨World.cell?_setCell_same' _ _ _ (by rw [h.c0]; rfl), ?_, ?_, ?_, ?_, fun j => by rw [World.frozen?_setCell]; exact h.fr j, ty_set h.ty _ _⟩
  · rw [World.cell?_setCell_other _ _ _ _ (by simp)]; exact h.c1
  · rw [World.cell?_setCell_other _ _ _ _ (by simp)]; exact h.c2
  · rw [World.cell?_setCell_other _ _ _ _ (by simp)]; exact h.c3
  · rw [World.cell?_setCell_other _ _ _ _ (by simp)]; exact h.c4

theorem MBox.set1 {W : World} {mb : Nat} {vw vr vk : Value} {room : Nat} {lost : Bool} (h : MBox W mb vw vr room vk lost) (v : Value) : MBox (W.setCell ⟨mb, 1, none⟩ v) mb vw v room vk lost := by
  refine ⟨?_, World.cell?_setCell_same' _ _ _ (by rw [h.c1]; rfl), ?_, ?_, ?_, fun j => by rw [World.frozen?_setCell]; exact h.fr j, ty_set h.ty _ _⟩
  · rw [World.cell?_setCell_other _ _ _ _ (by simp)]; exact h.c0
  · rw [World.cell?_setCell_other _ _ _ _ (by simp)]; exact h.c2
  · rw [World.cell?_setCell_other _ _ _ _ (by simp)]; exact h.c3
  · rw [World.cell?_setCell_other _ _ _ _ (by simp)]; exact h.c4

theorem MBox.set3 {W : World} {mb : Nat} {vw vr vk : Value} {room : Nat} {lost : Bool} (h : MBox W mb vw vr room vk lost) (v : Value) : MBox (W.setCell ⟨mb, 3, none⟩ v) mb vw vr room v lost := by
  refine ⟨?_, ?_, ?_, World.cell?_setCell_same' _ _ _ (by rw [h.c3]; rfl), ?_, fun j => by rw [World.frozen?_setCell]; exact h.fr j, ty_set h.ty _ _⟩
  · rw [World.cell?_setCell_other _ _ _ _ (by simp)]; exact h.c0
  · rw [World.cell?_setCell_other _ _ _ _ (by simp)]; exact h.c1
  · rw [World.cell?_setCell_other _ _ _ _ (by simp)]; exact h.c2
  · rw [World.cell?_setCell_other _ _ _ _ (by simp)]; exact h.c4

theorem MBox.set4 {W : World} {mb : Nat} {vw vr vk : Value} {room : Nat} {lost : Bool} (h : MBox W mb vw vr room vk lost) (b : Bool) : MBox (W.setCell ⟨mb, 4, none⟩ (.bool b)) mb vw vr room vk b := by
  refine ⟨?_, ?_, ?_, ?_, World.cell?_setCell_same' _ _ _ (by rw [h.c4]; rfl), fun j => by rw [World.frozen?_setCell]; exact h.fr j, ty_set h.ty _ _⟩
  · rw [World.cell?_setCell_other _ _ _ _ (by simp)]; exact h.c0
  · rw [World.cell?_setCell_other _ _ _ _ (by simp)]; exact h.c1
  · rw [World.cell?_setCell_other _ _ _ _ (by simp)]; exact h.c2
  · rw [World.cell?_setCell_other _ _ _ _ (by simp)]; exact h.c3

/-- A marker: its words, its roots, the places that are kept. -/
structure Mk (W : World) (N mb : Nat) (vw vr vk : Value) (ws rs K : List Int) (room : Nat) (lost : Bool) : Prop where
  box : MBox W mb vw vr room vk lost
  lo : N ≤ mb
  wo : W.ownsRow N 56 1 vw ws.length (wordsV ws)
  ro : W.ownsRow N 56 1 vr rs.length (wordsV rs)
  ko : W.ownsRow N 3 1 vk K.length (intsV K)
  aw : vw.ownBlock ≠ some mb
  ar : vr.ownBlock ≠ some mb
  ak : vk.ownBlock ≠ some mb
  wr : ∀ k, vw.ownBlock = some k → vr.ownBlock ≠ some k
  wk : ∀ k, vw.ownBlock = some k → vk.ownBlock ≠ some k
  rk : ∀ k, vr.ownBlock = some k → vk.ownBlock ≠ some k

theorem Mk.below {W W' : World} {N mb : Nat} {vw vr vk : Value} {ws rs K : List Int} {room : Nat} {lost : Bool} (h : Mk W N mb vw vr vk ws rs K room lost) (hb : Below W.heap.size W W') : Mk W' N mb vw vr vk ws rs K room lost :=
  ⟨h.box.kept (hb.block _ h.box.lt), h.lo, ownsRow_below h.wo hb, ownsRow_below h.ro hb, ownsRow_below h.ko hb, h.aw, h.ar, h.ak, h.wr, h.wk, h.rk⟩

theorem Mk.alloc {W : World} {N mb : Nat} {vw vr vk : Value} {ws rs K : List Int} {room : Nat} {lost : Bool} (h : Mk W N mb vw vr vk ws rs K room lost) (o : Obj) : Mk (W.alloc o) N mb vw vr vk ws rs K room lost :=
  h.below ((Below.refl _ _).alloc (Nat.le_refl _) _)

/-- Behind a store of a word. -/
theorem Mk.setW {W : World} {N mb wb cap n : Nat} {vr vk : Value} {ws rs K : List Int} {room : Nat} {lost : Bool} (h : Mk W N mb (.slice (some ⟨wb, 0, none⟩) n cap) vr vk ws rs K room lost) (hn : n = ws.length) (j : Nat) (y : Int) :
    Mk (W.setCell ⟨wb, j, none⟩ (.int .u64 y)) N mb (.slice (some ⟨wb, 0, none⟩) n cap) vr vk (ws.set j y) rs K room lost := by
  subst hn
  have hg := grown_set W wb j (.int .u64 y)
  have e : wordsV (ws.set j y) = (wordsV ws).set j (.int .u64 y) := by simp [wordsV, List.map_set]
  refine ⟨h.box.kept (hg.block _ h.box.lt (fun e => h.aw e.symm)), h.lo, ?_, h.ro.kept hg (or_ne (h.wr wb rfl)), h.ko.kept hg (or_ne (h.wk wb rfl)), h.aw, h.ar, h.ak, h.wr, h.wk, h.rk⟩
  rw [e, List.length_set]
  exact (h.wo.stored j (.int .u64 y)).1

/-- Behind a store of whether something was lost. -/
theorem Mk.setL {W : World} {N mb : Nat} {vw vr vk : Value} {ws rs K : List Int} {room : Nat} {lost : Bool} (h : Mk W N mb vw vr vk ws rs K room lost) (b : Bool) : Mk (W.setCell ⟨mb, 4, none⟩ (.bool b)) N mb vw vr vk ws rs K room b := by
  have hg := grown_set W mb 4 (.bool b)
  exact ⟨h.box.set4 b, h.lo, h.wo.kept hg (or_ne h.aw), h.ro.kept hg (or_ne h.ar), h.ko.kept hg (or_ne h.ak), h.aw, h.ar, h.ak, h.wr, h.wk, h.rk⟩

/-- Behind a store of the kept places. -/
theorem Mk.setK {W : World} {N mb : Nat} {vw vr vk vk' : Value} {ws rs K' : List Int} {room : Nat} {lost : Bool} (h : MBox W mb vw vr room vk lost) (lo : N ≤ mb) (wo : W.ownsRow N 56 1 vw ws.length (wordsV ws)) (ro : W.ownsRow N 56 1 vr rs.length (wordsV rs))
    (ko : W.ownsRow N 3 1 vk' K'.length (intsV K')) (aw : vw.ownBlock ≠ some mb) (ar : vr.ownBlock ≠ some mb) (ak : vk'.ownBlock ≠ some mb) (wr : ∀ k, vw.ownBlock = some k → vr.ownBlock ≠ some k) (wk : ∀ k, vw.ownBlock = some k → vk'.ownBlock ≠ some k) (rk : ∀ k, vr.ownBlock = some k → vk'.ownBlock ≠ some k) :
    Mk (W.setCell ⟨mb, 3, none⟩ vk') N mb vw vr vk' ws rs K' room lost := by
  have hg := grown_set W mb 3 vk'
  exact ⟨h.set3 vk', lo, wo.kept hg (or_ne aw), ro.kept hg (or_ne ar), ko.kept hg (or_ne ak), aw, ar, ak, wr, wk, rk⟩

/-- One place less. -/
theorem Mk.pop {W : World} {N mb g cap n : Nat} {vw vr : Value} {ws rs K : List Int} {x : Int} {room : Nat} {lost : Bool} (h : Mk W N mb vw vr (.slice (some ⟨g, 0, none⟩) (n + 1) cap) ws rs (K ++ [x]) room lost) (hn : K.length = n) :
    Mk (W.setCell ⟨mb, 3, none⟩ (.slice (some ⟨g, 0, none⟩) n cap)) N mb vw vr (.slice (some ⟨g, 0, none⟩) n cap) ws rs K room lost := by
  refine Mk.setK h.box h.lo h.wo h.ro ?_ h.aw h.ar h.ak h.wr h.wk h.rk
  have := h.ko
  rw [intsV_snoc, List.length_append] at this
  subst hn
  exact ownsRow_pop (by simp [intsV]) this

/-- One place more: behind the append and the store. -/
theorem Mk.push {W w1 : World} {N mb : Nat} {vw vr vk v' : Value} {ws rs K : List Int} {x : Int} {room : Nat} {lost : Bool} (h : Mk W N mb vw vr vk ws rs K room lost) (hrow : w1.ownsRow N 3 1 v' (K.length + 1) (intsV K ++ [.int .i64 x])) (hg : W.grownBy w1 vk.ownBlock)
    (hat : v'.ownBlock = vk.ownBlock ∨ v'.ownBlock = some W.heap.size) : MBox w1 mb vw vr room vk lost ∧ Mk (w1.setCell ⟨mb, 3, none⟩ v') N mb vw vr v' ws rs (K ++ [x]) room lost := by
  have hbox : MBox w1 mb vw vr room vk lost := h.box.kept (hg.block _ h.box.lt (fun e => h.ak e.symm))
  have apart : ∀ {u : Value}, (∀ k, u.ownBlock = some k → k < W.heap.size) → (∀ k, u.ownBlock = some k → vk.ownBlock ≠ some k) → ∀ k, u.ownBlock = some k → v'.ownBlock ≠ some k := by
    intro u h1 h2 k hk e
    rcases hat with h | h
    · exact h2 k hk (h ▸ e)
    · rw [h] at e; injection e with e; have := h1 k hk; omega
  refine ⟨hbox, Mk.setK hbox h.lo (h.wo.kept hg ?_) (h.ro.kept hg ?_) ?_ h.aw h.ar ?_ h.wr (apart (fun k hk => (h.wo.lt k hk).2) h.wk) (apart (fun k hk => (h.ro.lt k hk).2) h.rk)⟩
  · cases hv : vw.ownBlock with
    | none => exact .inl rfl
    | some k => exact .inr fun e => h.wk k hv e.symm
  · cases hv : vr.ownBlock with
    | none => exact .inl rfl
    | some k => exact .inr fun e => h.rk k hv e.symm
  · rw [intsV_snoc, List.length_append]; exact hrow
  · rcases hat with h1 | h1
    · rw [h1]; exact h.ak
    · rw [h1]; intro e; injection e with e; have := h.box.lt; omega

/-- The words, where there are some. -/
theorem Mk.words {W : World} {N mb : Nat} {vw vr vk : Value} {ws rs K : List Int} {room : Nat} {lost : Bool} (h : Mk W N mb vw vr vk ws rs K room lost) (hne : 0 < ws.length) : ∃ wb cap, vw = .slice (some ⟨wb, 0, none⟩) ws.length cap ∧ N ≤ wb ∧ wb < W.heap.size ∧ ws.length ≤ cap := by
  rcases h.wo.2 with ⟨_, h0⟩ | ⟨g, cap, cur, hv, h1, h2, h3, h4, h5, h6⟩
  · omega
  · exact ⟨g, cap, hv, h1, (Array.getElem?_eq_some_iff.1 h2).1, h3⟩

theorem Mk.wcell {W : World} {N mb wb cap n : Nat} {vr vk : Value} {ws rs K : List Int} {room : Nat} {lost : Bool} (h : Mk W N mb (.slice (some ⟨wb, 0, none⟩) n cap) vr vk ws rs K room lost) (hn : n = ws.length) {j : Nat} {x : Int} (hx : ws[j]? = some x) :
    W.cell? ⟨wb, j, none⟩ = some (.int .u64 x) ∧ W.frozen? ⟨wb, j, none⟩ = false := by
  subst hn
  have hlt := (List.getElem?_eq_some_iff.1 hx).1
  refine ⟨?_, h.wo.frozenAt j⟩
  rw [h.wo.cellAt j (by omega)]
  simp [wordsV, hx]

theorem Mk.wds {W : World} {N mb : Nat} {vw vr vk : Value} {ws rs K : List Int} {room : Nat} {lost : Bool} (h : Mk W N mb vw vr vk ws rs K room lost) (hs : ws.length ≤ 256) : ∃ a cap, vw = .slice a ws.length cap ∧ Wds W.heap.size W a ws ∧ ws.length ≤ cap := by
  obtain ⟨a, cap, hv, hW, _⟩ := words_of_owns h.wo rfl (by omega)
  refine ⟨a, cap, hv, hW, ?_⟩
  rcases h.wo.2 with ⟨_, h0⟩ | ⟨g, cap', cur, hv', h1, h2, h3, h4, h5, h6⟩
  · omega
  · rw [hv] at hv'; injection hv' with _ _ e; omega

theorem Mk.rds {W : World} {N mb : Nat} {vw vr vk : Value} {ws rs K : List Int} {room : Nat} {lost : Bool} (h : Mk W N mb vw vr vk ws rs K room lost) (hs : rs.length ≤ 8) : ∃ a cap, vr = .slice a rs.length cap ∧ Wds W.heap.size W a rs := by
  obtain ⟨a, cap, hv, hW, _⟩ := words_of_owns h.ro rfl (by omega)
  exact ⟨a, cap, hv, hW⟩

/-- The last place that is kept. -/
theorem Mk.last {W : World} {N mb : Nat} {vw vr vk : Value} {ws rs K : List Int} {x : Int} {room : Nat} {lost : Bool} (h : Mk W N mb vw vr vk ws rs (K ++ [x]) room lost) : ∃ g cap, vk = .slice (some ⟨g, 0, none⟩) (K.length + 1) cap ∧ K.length + 1 ≤ cap ∧ g < W.heap.size ∧ W.cell? ⟨g, K.length, none⟩ = some (.int .i64 x) := by
  have hk := h.ko
  rw [List.length_append, List.length_singleton] at hk
  obtain ⟨g, cap, hv⟩ := ownsRow_succ hk
  subst hv
  have hb := hk.2
  rcases hb with ⟨h0, _⟩ | ⟨g', cap', cur, hv', h1, h2, h3, h4, h5, h6⟩
  · cases h0
  · refine ⟨g, cap, rfl, ?_, (hk.lt g rfl).2, ?_⟩
    · injection hv' with _ _ e; omega
    · rw [hk.cellAt K.length (by omega)]; simp [intsV]

end Go.Proofs.Ytemjhdbmcdlpeaa

/- Walks: header, set, fields. -/
namespace Go.Proofs.Ytemjhdbmcdlpeaa
set_option linter.unusedSimpArgs false
set_option linter.unusedVariables false
open Go.RowKit Go.Shelf

/-- A field of a header that a call told. -/
theorem field51_0 (l a : Int) (m : Bool) (w : World) : Sem.run Try.prog (Instr.field 32 (.agg #[.int .i64 l, .bool m, .int .i64 a]) 0) w = Result.ok (.int .i64 l) w := by
  simp [Instr.field, asAgg, go_sem, Try.underlying32]
theorem field51_1 (l a : Int) (m : Bool) (w : World) : Sem.run Try.prog (Instr.field 32 (.agg #[.int .i64 l, .bool m, .int .i64 a]) 1) w = Result.ok (.bool m) w := by
  simp [Instr.field, asAgg, go_sem, Try.underlying32]

set_option maxRecDepth 100000 in
set_option maxHeartbeats 1000000 in
theorem header_c (mb wb n cap p : Nat) (x : Int) (w : World) (h0 : w.cell? ⟨mb, 0, none⟩ = some (.slice (some ⟨wb, 0, none⟩) n cap)) (hx : w.cell? ⟨wb, p, none⟩ = some (.int .u64 x)) (hp : p < n) (hn : n ≤ 256) (h1 : 0 ≤ x) (h2 : x < 18446744073709551616) :
    Calls Try.prog 63 #[.pointer (some ⟨mb, 0, none⟩), .int .i64 (p : Nat)] w fun e w' => e = .returned (.agg #[.int .i64 (uhL x), .bool (uhM x), .int .i64 (uhA x)]) ∧ Below w.heap.size w w' := by
  have hb0 : Below w.heap.size w (w.alloc (.cells #[.int .i64 0, .bool false, .int .i64 0] 32)) := (Below.refl _ _).alloc (Nat.le_refl _) _
  have hlm : mb < w.heap.size := World.block_lt_of_cell? w _ h0
  have hlw : wb < w.heap.size := World.block_lt_of_cell? w _ hx
  have hpI : (p : Int) < (n : Int) := by omega
  go_enter Try.func63, Try.ntmps63
  go_wp2_with fail
  refine (unhead_c x _ h1 h2).mono ?_
  rintro e w2 ⟨rfl, hb2⟩
  simp only [World.size_alloc] at hb2
  have g0 := hb2.cell (p := ⟨w.heap.size, 0, none⟩) (show w.heap.size < _ by omega)
  have g1 := hb2.cell (p := ⟨w.heap.size, 1, none⟩) (show w.heap.size < _ by omega)
  have g2 := hb2.cell (p := ⟨w.heap.size, 2, none⟩) (show w.heap.size < _ by omega)
  have f0 := hb2.frozen (p := ⟨w.heap.size, 0, none⟩) (show w.heap.size < _ by omega)
  have f1 := hb2.frozen (p := ⟨w.heap.size, 1, none⟩) (show w.heap.size < _ by omega)
  have f2 := hb2.frozen (p := ⟨w.heap.size, 2, none⟩) (show w.heap.size < _ by omega)
  simp [go_sem] at g0 g1 g2 f0 f1 f2
  have hs2 := hb2.size
  simp only [World.size_alloc] at hs2
  have hlt2 : w.heap.size < w2.heap.size := by omega
  have hbw2 := hb0.trans (hb2.mono (by omega))
  clear hb0 hb2
  go_wp2
  obtain ⟨W3, hW3⟩ : ∃ W3, ((w2.setCell ⟨w.heap.size, 0, none⟩ (.int .i64 (uhL x))).setCell ⟨w.heap.size, 1, none⟩ (.bool (uhM x))).setCell ⟨w.heap.size, 2, none⟩ (.int .i64 (uhA x)) = W3 := ⟨_, rfl⟩
  have i0 : W3.cell? ⟨w.heap.size, 0, none⟩ = some (.int .i64 (uhL x)) := by rw [← hW3]; simp [go_sem, g0, g1, g2]
  have i1 : W3.cell? ⟨w.heap.size, 1, none⟩ = some (.bool (uhM x)) := by rw [← hW3]; simp [go_sem, g0, g1, g2]
  have i2 : W3.cell? ⟨w.heap.size, 2, none⟩ = some (.int .i64 (uhA x)) := by rw [← hW3]; simp [go_sem, g0, g1, g2]
  have hlt3 : w.heap.size < W3.heap.size := by rw [← hW3]; simpa [World.setCell] using hlt2
  have hb3 : Below w.heap.size w W3 := by rw [← hW3]; exact ((hbw2.setCell (p := ⟨w.heap.size, 0, none⟩) (Nat.le_refl _) _).setCell (p := ⟨w.heap.size, 1, none⟩) (Nat.le_refl _) _).setCell (p := ⟨w.heap.size, 2, none⟩) (Nat.le_refl _) _
  rw [hW3]
  clear hW3
  obtain ⟨W4, hW4⟩ : ∃ W4, W3.alloc (.cells #[.int .i64 (uhL x), .bool (uhM x), .int .i64 (uhA x)] 32) = W4 := ⟨_, rfl⟩
  rw [hW4]
  have hb4 : Below w.heap.size w W4 := by rw [← hW4]; exact hb3.alloc (by omega) _
  have k0 : W4.cell? ⟨w.heap.size, 0, none⟩ = some (.int .i64 (uhL x)) := by rw [← hW4, World.cell?_alloc_past _ _ _ hlt3]; exact i0
  have k1 : W4.cell? ⟨w.heap.size, 1, none⟩ = some (.bool (uhM x)) := by rw [← hW4, World.cell?_alloc_past _ _ _ hlt3]; exact i1
  have k2 : W4.cell? ⟨w.heap.size, 2, none⟩ = some (.int .i64 (uhA x)) := by rw [← hW4, World.cell?_alloc_past _ _ _ hlt3]; exact i2
  refine bodyPost_ret (v := .agg #[.int .i64 (uhL x), .bool (uhM x), .int .i64 (uhA x)]) (by simp [results, Try.results63, go_sem, k0, k1, k2]) rfl ?_
  exact ⟨rfl, hb4⟩

set_option maxRecDepth 100000 in
set_option maxHeartbeats 2000000 in
theorem set_w (mb wb n cap p : Nat) (x L A : Int) (M b : Bool) (w : World) (h0 : w.cell? ⟨mb, 0, none⟩ = some (.slice (some ⟨wb, 0, none⟩) n cap)) (hx : w.cell? ⟨wb, p, none⟩ = some (.int .u64 x)) (hf : w.frozen? ⟨wb, p, none⟩ = false) (hp : p < n) (hn : n ≤ 256) :
    Calls Try.prog 54 #[.pointer (some ⟨mb, 0, none⟩), .int .i64 (p : Nat), .agg #[.int .i64 L, .bool M, .int .i64 A], .bool b] w fun e w' => e = .returned (.tuple #[]) ∧ ∃ w1, Below w.heap.size w w1 ∧ w' = w1.setCell ⟨wb, p, none⟩ (.int .u64 (headW L b A)) := by
  have hlm : mb < w.heap.size := World.block_lt_of_cell? w _ h0
  have hlw : wb < w.heap.size := World.block_lt_of_cell? w _ hx
  have hpI : (p : Int) < (n : Int) := by omega
  have hb0 : Below w.heap.size w (w.alloc (.cells #[.int .i64 L, .bool b, .int .i64 A] 32)) := (Below.refl _ _).alloc (Nat.le_refl _) _
  go_enter Try.func54, Try.ntmps54
  go_wp2
  go_region_with (go_at_call 41; go_must (refine (head_c L A b _).mono ?_); go_must (rintro e w2 ⟨he, hb2⟩; subst he; have k0 := (hb2.cell (p := ⟨mb, 0, none⟩) (by simp; omega)).trans ((hb0.cell (p := ⟨mb, 0, none⟩) hlm).trans h0); have kx := (hb2.cell (p := ⟨wb, p, none⟩) (by simp; omega)).trans ((hb0.cell (p := ⟨wb, p, none⟩) hlw).trans hx); have kf := (hb2.frozen (p := ⟨wb, p, none⟩) (by simp; omega)).trans ((hb0.frozen (p := ⟨wb, p, none⟩) hlw).trans hf)))
  all_goals
    refine bodyPost_end (v := .tuple #[]) (results_none rfl _ _ _) rfl ⟨rfl, _, ?_, rfl⟩
    exact hb0.drew.trans (hb2.mono (by show w.heap.size ≤ (w.heap.push _).size; simp))

end Go.Proofs.Ytemjhdbmcdlpeaa

/- Walks: unmarked. -/
namespace Go.Proofs.Ytemjhdbmcdlpeaa
set_option linter.unusedSimpArgs false
set_option linter.unusedVariables false
open Go.RowKit Go.Shelf
attribute [local go_sem] field51_0 field51_1

/-- The arena that is being marked: its headers with these marks. -/
def mW (hs : List Int) (fs : List (List Int)) (p : Nat → Bool) : List Int := joinW (mkH hs p) fs

theorem mW_len {hs : List Int} {fs : List (List Int)} (h : Fit hs fs) (p : Nat → Bool) : (mW hs fs p).length = tot fs := by
  rw [mW, joinW_len _ _ (by rw [mkH_len]; exact h.len)]

theorem mW_get {hs : List Int} {fs : List (List Int)} (h : Fit hs fs) (p : Nat → Bool) {i : Nat} {x : Int} (hx : hs[i]? = some x) : (mW hs fs p)[tot (fs.take i)]? = some (reh (p i) x) := by
  have hi : i < fs.length := by have := (List.getElem?_eq_some_iff.1 hx).1; have := h.len; omega
  rw [mW, joinW_get _ _ _ (by rw [mkH_len]; exact h.len) hi, mkH_get, hx]
  rfl

theorem mW_set {hs : List Int} {fs : List (List Int)} (h : Fit hs fs) (p : Nat → Bool) {i : Nat} {x : Int} (hx : hs[i]? = some x) : (mW hs fs p).set (tot (fs.take i)) (reh true x) = mW hs fs (upd p i) := by
  have hi : i < fs.length := by have := (List.getElem?_eq_some_iff.1 hx).1; have := h.len; omega
  rw [mW, joinW_set _ _ _ _ (by rw [mkH_len]; exact h.len) hi, mkH_set hx, mW]

/-- What unmarked tells: the first object that is not marked, to which words refer. -/
def UnRes (fs : List (List Int)) (p : Nat → Bool) (l : List Int) (e : Ending) : Prop :=
  (∃ j, j < fs.length ∧ p j = false ∧ To fs l j ∧ e = .returned (.tuple #[.int .i64 (tot (fs.take j) : Nat), .bool true])) ∨
    ((∀ j, To fs l j → p j = true) ∧ e = .returned (.tuple #[.int .i64 0, .bool false]))

set_option maxRecDepth 100000 in
set_option maxHeartbeats 2000000 in
theorem unmarked_c (a : Option Addr) (c : Nat) (l : List Int) (hs : List Int) (fs : List (List Int)) (p : Nat → Bool) (N mb : Nat) (vw vr vk : Value) (rs K : List Int) (room : Nat) (lost : Bool) (w : World)
    (hM : Mk w N mb vw vr vk (mW hs fs p) rs K room lost) (hF : Fit hs fs) (h256 : tot fs ≤ 256) (hl : Wds w.heap.size w a l) (hU : U64 l) (hlen : l.length ≤ 8) (hok : ∀ x ∈ l, okW (stF 0 fs) x = true) :
    Calls Try.prog 55 #[.pointer (some ⟨mb, 0, none⟩), .slice a l.length c] w fun e w' => UnRes fs p l e ∧ Below w.heap.size w w' := by
  have HM := hide hM
  have hlm := hM.box.lt
  clear hM
  go_enter Try.func55, Try.ntmps55
  go_wp2
  go_loopw [12] (fun i wr => ∃ k : Nat, k ≤ l.length ∧ i = .int .i64 k ∧ Hid (∀ j, To fs (l.take k) j → p j = true) ∧ Below w.heap.size w wr) (fun i _ => l.length - (intOf i).toNat)
  case atStart => exact ⟨0, Nat.zero_le _, rfl, hide (fun j h => by obtain ⟨x, hx, _⟩ := h; simp at hx), Below.refl _ _⟩
  case round =>
    obtain ⟨k, hk, rfl, Hdone, hb⟩ := hrel
    have hsz := hb.size
    by_cases hlt : k < l.length
    · obtain ⟨b, off, rfl, hbB, hc⟩ := (hl.below hb).at hlt
      have hu := hU _ (List.getElem_mem hlt)
      have Hx := hide (List.getElem_mem hlt)
      have Hok := hide (ok_ref (hok _ (List.getElem_mem hlt)))
      have HT := hide (show l.take (k + 1) = l.take k ++ [l[k]] from List.take_succ_eq_append_getElem hlt)
      have hkI : (k : Int) < (l.length : Int) := by omega
      generalize l[k] = x at *
      have hq : b < wr.heap.size := by omega
      cases hr : unRef x
      · have Hr := hide hr
        have HE := hide (unhide Hok).1
        have HN : Hid (∀ j, To fs (l.take (k + 1)) j → p j = true) := hide (fun j h => by
          obtain ⟨y, hy, h1, h2⟩ := h
          rw [unhide HT] at hy
          rcases List.mem_append.1 hy with hy | hy
          · exact unhide Hdone j ⟨y, hy, h1, h2⟩
          · simp at hy; subst hy; rw [unhide Hr] at h1; cases h1)
        clear hr Hok
        go_wp2_with (go_at_call 43; go_must (refine (unpack_c x _ hu.1 hu.2).mono ?_); go_must (rintro e w3 ⟨he, hb3⟩; rw [unhide Hr, unhide HE] at he; subst he; have hs3 := hb3.size))
        go_roundw
        case rel => exact ⟨k + 1, by omega, by go_num, HN, (hb.trans (hb3.mono hsz)).alloc (by omega) _⟩
        case measure => simp [intOf]; omega
      · obtain ⟨j, hj⟩ := (unhide Hok).2 hr
        have hjl : j < fs.length := by have := (List.getElem?_eq_some_iff.1 hj).1; rw [stF_len] at this; exact this
        have hj' := stF_get fs 0 j hjl
        rw [Nat.zero_add] at hj'
        have Hnum : Hid (unNum x = ((tot (fs.take j) : Nat) : Int)) := by
          have := hj.symm.trans hj'
          injection this
        have hpl := place_lt hjl
        obtain ⟨y, hy, hy1, _, hy3, hy4⟩ := fit_at hF hjl
        have Hto : Hid (To fs l j) := hide ⟨x, unhide Hx, hr, hj⟩
        have Huniq : Hid (∀ j', (stF 0 fs)[j']? = some (unNum x) → j' = j) := hide (fun j' h => st_inj h hj)
        have HE := hide (unhide Hok).1
        obtain ⟨wb, cap, hvw, hwN, hwb, hcap⟩ := (unhide HM).words (by rw [mW_len hF]; omega)
        have hml := mW_len hF p
        rw [hml] at hvw hcap
        subst hvw
        have Hh : Hid (∀ W, Below w.heap.size w W → Calls Try.prog 63 #[.pointer (some ⟨mb, 0, none⟩), .int .i64 (tot (fs.take j) : Nat)] W fun e w' => e = .returned (.agg #[.int .i64 (uhL (reh (p j) y)), .bool (uhM (reh (p j) y)), .int .i64 (uhA (reh (p j) y))]) ∧ Below W.heap.size W w') := fun W hbW => by
          have hr2 := reh_ok (p j) y
          have hMW := (unhide HM).below hbW
          exact header_c mb wb (tot fs) cap _ _ W hMW.box.c0 (hMW.wcell hml.symm (mW_get hF p hy)).1 hpl h256 hr2.2.2.2.2.1 hr2.2.2.2.2.2
        have Hm : Hid (uhM (reh (p j) y) = p j) := (reh_ok (p j) y).2.2.1
        rw [unhide Hm] at Hh
        have Hr := hide hr
        clear hr Hok hj hj' hy hml
        generalize hpe : tot (fs.take j) = pl at *
        have Hpe := hide hpe
        clear hpe
        cases hpj : p j
        · rw [hpj] at Hh
          have Hpj := hide hpj
          clear hpj
          go_wp2_with (first
            | (go_at_call 43; go_must (refine (unpack_c x _ hu.1 hu.2).mono ?_); go_must (rintro e w3 ⟨he, hb3⟩; rw [unhide Hr, unhide HE, unhide Hnum] at he; subst he; have hs3 := hb3.size))
            | (go_at_call 63; go_must (refine (unhide Hh _ ((hb.trans (hb3.mono hsz)).alloc (by omega) _)).mono ?_); go_must (rintro e w4 ⟨he, hb4⟩; subst he; have hs4 := hb4.size; simp only [World.size_alloc] at hs4; have g0 := hb4.cell (p := ⟨w3.heap.size, 0, none⟩) (by simp); have g1 := hb4.cell (p := ⟨w3.heap.size, 1, none⟩) (by simp); simp [go_sem] at g0 g1; have hq4 : w3.heap.size < w4.heap.size := by omega)))
          go_ret2
          exact ⟨.inl ⟨j, hjl, unhide Hpj, unhide Hto, by rw [unhide Hpe]; rfl⟩, ((hb.trans (hb3.mono hsz)).alloc (by omega) _).trans (hb4.mono (by simp; omega))⟩
        · rw [hpj] at Hh
          have HN : Hid (∀ j, To fs (l.take (k + 1)) j → p j = true) := hide (fun j' h => by
            obtain ⟨z, hz, h1, h2⟩ := h
            rw [unhide HT] at hz
            rcases List.mem_append.1 hz with hz | hz
            · exact unhide Hdone j' ⟨z, hz, h1, h2⟩
            · simp at hz; subst hz; rw [unhide Huniq j' h2]; exact hpj)
          clear hpj
          go_wp2_with (first
            | (go_at_call 43; go_must (refine (unpack_c x _ hu.1 hu.2).mono ?_); go_must (rintro e w3 ⟨he, hb3⟩; rw [unhide Hr, unhide HE, unhide Hnum] at he; subst he; have hs3 := hb3.size))
            | (go_at_call 63; go_must (refine (unhide Hh _ ((hb.trans (hb3.mono hsz)).alloc (by omega) _)).mono ?_); go_must (rintro e w4 ⟨he, hb4⟩; subst he; have hs4 := hb4.size; simp only [World.size_alloc] at hs4)))
          go_roundw
          case rel => exact ⟨k + 1, by omega, by go_num, HN, ((hb.trans (hb3.mono hsz)).alloc (by omega) _).trans (hb4.mono (by simp; omega))⟩
          case measure => simp [intOf]; omega
    · obtain rfl : k = l.length := by omega
      have HN := Hdone
      rw [List.take_length] at HN
      go_wp2
      go_ret2
      exact ⟨.inr ⟨unhide HN, rfl⟩, hb⟩

end Go.Proofs.Ytemjhdbmcdlpeaa

/- Walks: each. -/
namespace Go.Proofs.Ytemjhdbmcdlpeaa
set_option linter.unusedSimpArgs false
set_option linter.unusedVariables false
open Go.RowKit Go.Shelf
attribute [local go_sem] field51_0 field51_1

/-- Headers in boxes are as they were. -/
def Keep51 (W W' : World) : Prop := ∀ (k : Nat) (cs : Array Value), W.heap[k]? = some (.cells cs 32) → W'.heap[k]? = some (.cells cs 32)

theorem KeepT.k51 {W W' : World} (h : KeepT W W') : Keep51 W W' := fun k cs hk => h k cs 32 hk (by decide) (by decide) (by decide)

/-- What each may rely on at an object. -/
def EachAt (fid : Nat) (c0 : Value) (a : Option Addr) (fs : List (List Int)) (I : Nat → World → Prop) (k : Nat) (l : Nat) (W : World) : Prop :=
  ∃ wb off x, a = some ⟨wb, off, none⟩ ∧ W.cell? ⟨wb, off + tot (fs.take k), none⟩ = some (.int .u64 x) ∧ 0 ≤ x ∧ x < 18446744073709551616 ∧ unheadOk x = true ∧ wlen x = l ∧
    ∀ W', Below W.heap.size W W' → Calls Try.prog fid #[.int .i64 (tot (fs.take k) : Nat), .agg #[.int .i64 l, .bool (uhM x), .int .i64 (uhA x)], c0] W' fun e W'' => e = .returned (.tuple #[]) ∧ I (k + 1) W'' ∧ Keep51 W' W'' ∧ W'.heap.size ≤ W''.heap.size

set_option maxRecDepth 100000 in
set_option maxHeartbeats 2000000 in
theorem each39_c (c0 : Value) (a : Option Addr) (cap : Nat) (fs : List (List Int)) (I : Nat → World → Prop) (w : World) (h256 : tot fs ≤ 256) (hI : I 0 w)
    (hat : ∀ (k : Nat) (hk : k < fs.length) W, I k W → EachAt 53 c0 a fs I k fs[k].length W) :
    Calls Try.prog 52 #[.slice a (tot fs : Nat) cap, .func (.func 53) #[] #[c0]] w fun e w' => e = .returned (.tuple #[]) ∧ I fs.length w' := by
  have HI := hide hI
  have Hat := hide hat
  clear hI hat
  go_enter Try.func52, Try.ntmps52
  go_wp2
  go_loopw [4] (fun i wr => ∃ k : Nat, k ≤ fs.length ∧ i = .int .i64 (tot (fs.take k) : Nat) ∧ Hid (I k wr)) (fun i _ => tot fs - (intOf i).toNat)
  case atStart => exact ⟨0, Nat.zero_le _, rfl, HI⟩
  case round =>
    clear HI
    obtain ⟨k, hk, rfl, HI⟩ := hrel
    by_cases hlt : k < fs.length
    · obtain ⟨wb, off, x, rfl, hx, hx1, hx2, hx3, hx4, hcall⟩ := unhide Hat k hlt wr (unhide HI)
      have hpl := place_lt hlt
      have hts := tot_take_succ hlt
      have htl := tot_take_le fs (k + 1)
      have HL := hide (uhL_wlen hx3)
      rw [hx4] at HL
      have HE := hide (uhE_ok hx3)
      have Hcall := hide hcall
      have HN : Hid (tot (fs.take (k + 1)) = tot (fs.take k) + 1 + fs[k].length) := by show _ = _; omega
      have hwl : wb < wr.heap.size := World.block_lt_of_cell? wr _ hx
      have hle : tot (fs.take k) + 1 + fs[k].length ≤ 256 := by omega
      clear hcall hx3 hx4 hts htl HI
      generalize fs[k].length = l at *
      generalize tot (fs.take k) = q at *
      generalize tot fs = n at *
      have hqI : (q : Int) < (n : Int) := by omega
      go_wp2_with fail
      refine (unhead_c x _ hx1 hx2).mono ?_
      rintro e w2 ⟨he, hb2⟩
      rw [unhide HL, unhide HE] at he
      subst he
      have hs2 := hb2.size
      have Hc2 := hide (unhide Hcall (w2.alloc (.cells #[.int .i64 (l : Nat), .bool (uhM x), .int .i64 (uhA x)] 32)) (hb2.alloc hs2 _))
      clear Hcall
      go_wp2_with fail
      refine (unhide Hc2).mono ?_
      rintro e w3 ⟨he, hI3, hk3, hs3⟩
      subst he
      have h51 := hk3 w2.heap.size #[.int .i64 (l : Nat), .bool (uhM x), .int .i64 (uhA x)] (heap_alloc_new _ _)
      have g0 : w3.cell? ⟨w2.heap.size, 0, none⟩ = some (.int .i64 (l : Nat)) := by rw [cell_of_row w3 w2.heap.size 0 _ 32 (0, 0) h51]; rfl
      have hl3 : w2.heap.size < w3.heap.size := by simp only [World.size_alloc] at hs3; omega
      have HI3 := hide hI3
      clear h51 hk3 hI3 Hc2
      go_wp2
      go_roundw
      case rel => exact ⟨k + 1, by omega, by rw [unhide HN]; go_num, HI3⟩
      case measure => simp [intOf]; omega
    · obtain rfl : k = fs.length := by omega
      have e0 : tot (fs.take fs.length) = tot fs := by rw [List.take_length]
      rw [e0]
      generalize tot fs = n at *
      go_wp2
      exact bodyPost_end (v := .tuple #[]) (results_none rfl _ _ _) rfl ⟨rfl, unhide HI⟩

set_option maxRecDepth 100000 in
set_option maxHeartbeats 2000000 in
theorem each56_c (c0 : Value) (a : Option Addr) (cap : Nat) (fs : List (List Int)) (I : Nat → World → Prop) (w : World) (h256 : tot fs ≤ 256) (hI : I 0 w)
    (hat : ∀ (k : Nat) (hk : k < fs.length) W, I k W → EachAt 65 c0 a fs I k fs[k].length W) :
    Calls Try.prog 52 #[.slice a (tot fs : Nat) cap, .func (.func 65) #[] #[c0]] w fun e w' => e = .returned (.tuple #[]) ∧ I fs.length w' := by
  have HI := hide hI
  have Hat := hide hat
  clear hI hat
  go_enter Try.func52, Try.ntmps52
  go_wp2
  go_loopw [4] (fun i wr => ∃ k : Nat, k ≤ fs.length ∧ i = .int .i64 (tot (fs.take k) : Nat) ∧ Hid (I k wr)) (fun i _ => tot fs - (intOf i).toNat)
  case atStart => exact ⟨0, Nat.zero_le _, rfl, HI⟩
  case round =>
    clear HI
    obtain ⟨k, hk, rfl, HI⟩ := hrel
    by_cases hlt : k < fs.length
    · obtain ⟨wb, off, x, rfl, hx, hx1, hx2, hx3, hx4, hcall⟩ := unhide Hat k hlt wr (unhide HI)
      have hpl := place_lt hlt
      have hts := tot_take_succ hlt
      have htl := tot_take_le fs (k + 1)
      have HL := hide (uhL_wlen hx3)
      rw [hx4] at HL
      have HE := hide (uhE_ok hx3)
      have Hcall := hide hcall
      have HN : Hid (tot (fs.take (k + 1)) = tot (fs.take k) + 1 + fs[k].length) := by show _ = _; omega
      have hwl : wb < wr.heap.size := World.block_lt_of_cell? wr _ hx
      have hle : tot (fs.take k) + 1 + fs[k].length ≤ 256 := by omega
      clear hcall hx3 hx4 hts htl HI
      generalize fs[k].length = l at *
      generalize tot (fs.take k) = q at *
      generalize tot fs = n at *
      have hqI : (q : Int) < (n : Int) := by omega
      go_wp2_with fail
      refine (unhead_c x _ hx1 hx2).mono ?_
      rintro e w2 ⟨he, hb2⟩
      rw [unhide HL, unhide HE] at he
      subst he
      have hs2 := hb2.size
      have Hc2 := hide (unhide Hcall (w2.alloc (.cells #[.int .i64 (l : Nat), .bool (uhM x), .int .i64 (uhA x)] 32)) (hb2.alloc hs2 _))
      clear Hcall
      go_wp2_with fail
      refine (unhide Hc2).mono ?_
      rintro e w3 ⟨he, hI3, hk3, hs3⟩
      subst he
      have h51 := hk3 w2.heap.size #[.int .i64 (l : Nat), .bool (uhM x), .int .i64 (uhA x)] (heap_alloc_new _ _)
      have g0 : w3.cell? ⟨w2.heap.size, 0, none⟩ = some (.int .i64 (l : Nat)) := by rw [cell_of_row w3 w2.heap.size 0 _ 32 (0, 0) h51]; rfl
      have hl3 : w2.heap.size < w3.heap.size := by simp only [World.size_alloc] at hs3; omega
      have HI3 := hide hI3
      clear h51 hk3 hI3 Hc2
      go_wp2
      go_roundw
      case rel => exact ⟨k + 1, by omega, by rw [unhide HN]; go_num, HI3⟩
      case measure => simp [intOf]; omega
    · obtain rfl : k = fs.length := by omega
      have e0 : tot (fs.take fs.length) = tot fs := by rw [List.take_length]
      rw [e0]
      generalize tot fs = n at *
      go_wp2
      exact bodyPost_end (v := .tuple #[]) (results_none rfl _ _ _) rfl ⟨rfl, unhide HI⟩

end Go.Proofs.Ytemjhdbmcdlpeaa

/- Walks: eachMarked. -/
namespace Go.Proofs.Ytemjhdbmcdlpeaa
set_option linter.unusedSimpArgs false
set_option linter.unusedVariables false
open Go.RowKit Go.Shelf
attribute [local go_sem] field51_0 field51_1

/-- What eachMarked may rely on at an object: cs is what the closure holds. -/
def EmAt (fid : Nat) (args : Value → Value → Array Value) (a : Option Addr) (fs : List (List Int)) (I : Nat → World → Prop) (k : Nat) (l : Nat) (W : World) : Prop :=
  ∃ wb off x, a = some ⟨wb, off, none⟩ ∧ W.cell? ⟨wb, off + tot (fs.take k), none⟩ = some (.int .u64 x) ∧ 0 ≤ x ∧ x < 18446744073709551616 ∧ unheadOk x = true ∧ wlen x = l ∧
    (uhM x = false → ∀ W', Below W.heap.size W W' → I (k + 1) W') ∧
    (uhM x = true → ∀ W', Below W.heap.size W W' → Calls Try.prog fid (args (.int .i64 (tot (fs.take k) : Nat)) (.agg #[.int .i64 l, .bool true, .int .i64 (uhA x)])) W' fun e W'' => e = .returned (.tuple #[]) ∧ I (k + 1) W'' ∧ Keep51 W' W'' ∧ W'.heap.size ≤ W''.heap.size)

end Go.Proofs.Ytemjhdbmcdlpeaa

/- Walks: places. -/
namespace Go.Proofs.Ytemjhdbmcdlpeaa
set_option linter.unusedSimpArgs false
set_option linter.unusedVariables false
open Go.RowKit Go.Shelf
attribute [local go_sem] field51_0 field51_1

theorem mL_nodup (p : Nat → Bool) (k : Nat) : (mL p k).Nodup := by
  unfold mL List.Nodup
  rw [List.pairwise_map]
  exact (List.Pairwise.filter _ List.nodup_range).imp (fun h e => h (by omega))

theorem mL_ok (p : Nat → Bool) (fs : List (List Int)) {k : Nat} (hk : k ≤ fs.length) : OOk fs (mL p k) := by
  refine ⟨mL_nodup p k, fun o ho => ?_⟩
  unfold mL at ho
  obtain ⟨j, hj, rfl⟩ := List.mem_map.1 ho
  have := List.mem_range.1 (List.mem_filter.1 hj).1
  omega

theorem tot_snocO (fs : List (List Int)) (O : List Int) {i : Nat} (hi : i < fs.length) : tot ((O ++ [(i : Int)]).map (fO fs)) = tot (O.map (fO fs)) + (1 + fs[i].length) := by
  rw [List.map_append, List.map_cons, List.map_nil, tot_snoc, fO_at hi]
  omega

/-- What places holds while it goes through objects. -/
structure PlI (w0 : World) (N nb pb mb : Nat) (p : Nat → Bool) (fs : List (List Int)) (k : Nat) (W : World) : Prop where
  map : NowM W N mb fs (mL p k)
  nx : W.cell? ⟨nb, 0, none⟩ = some (.int .i64 (tot ((mL p k).map (fO fs)) : Nat))
  fr : W.frozen? ⟨nb, 0, none⟩ = false
  now : W.cell? ⟨pb, 0, none⟩ = some (.map (some mb))
  below : Below N w0 W
  lo : N ≤ nb
  nm : nb ≠ mb
  pm : pb ≠ mb
  np : nb ≠ pb
  ty : ∃ cs, W.heap[nb]? = some (.cells cs 3)

theorem PlI.kept {w0 W W' : World} {N nb pb mb : Nat} {p : Nat → Bool} {fs : List (List Int)} {k : Nat} (h : PlI w0 N nb pb mb p fs k W) (hb : Below W.heap.size W W') (hN : N ≤ W.heap.size) : PlI w0 N nb pb mb p fs k W' :=
  ⟨h.map.below hb, (hb.cell (p := ⟨nb, 0, none⟩) (World.block_lt_of_cell? W _ h.nx)).trans h.nx, (hb.frozen (p := ⟨nb, 0, none⟩) (World.block_lt_of_cell? W _ h.nx)).trans h.fr, (hb.cell (p := ⟨pb, 0, none⟩) (World.block_lt_of_cell? W _ h.now)).trans h.now, h.below.trans (hb.mono hN), h.lo, h.nm, h.pm, h.np, by
    obtain ⟨cs, hc⟩ := h.ty
    exact ⟨cs, (hb.block nb (World.block_lt_of_cell? W _ h.nx)).trans hc⟩⟩

theorem NowM.notCells {W : World} {N mb : Nat} {fs : List (List Int)} {L : List Int} (h : NowM W N mb fs L) (cs : Array Value) (t : TypeId) : W.heap[mb]? ≠ some (.cells cs t) := by
  obtain ⟨M, ⟨es, clock, hb, _⟩, _⟩ := h
  rw [hb]
  intro e
  cases e

end Go.Proofs.Ytemjhdbmcdlpeaa

/- Walks: places. -/
namespace Go.Proofs.Ytemjhdbmcdlpeaa
set_option linter.unusedSimpArgs false
set_option linter.unusedVariables false
open Go.RowKit Go.Shelf
attribute [local go_sem] field51_0 field51_1

/-- A marked arena's header. -/
theorem mW_at {hs : List Int} {fs : List (List Int)} (hF : Fit hs fs) (p : Nat → Bool) {k : Nat} (hk : k < fs.length) {N : Nat} {w : World} {a : Option Addr} (hW : Wds N w a (mW hs fs p)) :
    ∃ wb off x, a = some ⟨wb, off, none⟩ ∧ wb < N ∧ w.cell? ⟨wb, off + tot (fs.take k), none⟩ = some (.int .u64 x) ∧ 0 ≤ x ∧ x < 18446744073709551616 ∧ unheadOk x = true ∧ wlen x = fs[k].length ∧ uhM x = p k ∧ ∃ y, hs[k]? = some y ∧ x = reh (p k) y := by
  obtain ⟨y, hy, h1, h2, h3, h4⟩ := fit_at hF hk
  have hr := reh_ok (p k) y
  have hg := mW_get hF p hy
  have hlt := (List.getElem?_eq_some_iff.1 hg).1
  obtain ⟨b, off, rfl, hb, hc⟩ := hW.2 (by intro e; rw [e] at hlt; simp at hlt)
  exact ⟨b, off, _, rfl, hb, hc _ _ hg, hr.2.2.2.2.1, hr.2.2.2.2.2, hr.1, by rw [reh_wlen h1, h2], hr.2.2.1, y, hy, rfl⟩

end Go.Proofs.Ytemjhdbmcdlpeaa

/- Walks: Slide's closure. -/
namespace Go.Proofs.Ytemjhdbmcdlpeaa
set_option linter.unusedSimpArgs false
set_option linter.unusedVariables false
open Go.RowKit Go.Shelf

/-- The words of some objects, moved to where they come to stand among all of L. -/
def laid (hs : List Int) (fs : List (List Int)) (L O : List Int) : List Int := joinW (O.map (rO hs)) (O.map fun o => (fO fs o).map (twW fs L))

theorem joinW_append : ∀ (a b : List Int) (c d : List (List Int)), a.length = c.length → joinW (a ++ b) (c ++ d) = joinW a c ++ joinW b d
  | [], b, [], d, _ => by simp [joinW]
  | x :: a, b, y :: c, d, h => by
    have ih := joinW_append a b c d (by simpa using h)
    simp only [List.cons_append, joinW, ih, List.append_assoc]
  | [], _, _ :: _, _, h => by simp at h
  | _ :: _, _, [], _, h => by simp at h

theorem laid_snoc (hs : List Int) (fs : List (List Int)) (L O : List Int) (o : Int) : laid hs fs L (O ++ [o]) = laid hs fs L O ++ [rO hs o] ++ (fO fs o).map (twW fs L) := by
  unfold laid
  rw [List.map_append, List.map_append, joinW_append _ _ _ _ (by simp)]
  simp [joinW]

theorem laid_len (hs : List Int) (fs : List (List Int)) (L O : List Int) : (laid hs fs L O).length = tot (O.map (fO fs)) := by
  unfold laid
  rw [joinW_len _ _ (by simp)]
  unfold tot
  rw [List.map_map, List.map_map]
  congr 1
  apply List.map_congr_left
  intro o _
  simp

theorem gb_below {w W W' : World} {db : Nat} (h : w.grownBy W (some db)) (hb : Below W.heap.size W W') : w.grownBy W' (some db) :=
  ⟨hb.os.trans h.os, hb.tape.trans h.tape, hb.output.trans h.output, Nat.le_trans h.size hb.size, fun k hk hne => (hb.block k (Nat.lt_of_lt_of_le hk h.size)).trans (h.block k hk hne)⟩

theorem gb_set {w W : World} {db b : Nat} (h : w.grownBy W (some db)) (hb : b = db ∨ w.heap.size ≤ b) (j : Nat) (u : Value) : w.grownBy (W.setCell ⟨b, j, none⟩ u) (some db) := by
  have hg := grown_set W b j u
  refine ⟨hg.os.trans h.os, hg.tape.trans h.tape, hg.output.trans h.output, Nat.le_trans h.size hg.size, fun k hk hne => (hg.block k (Nat.lt_of_lt_of_le hk h.size) (fun e => ?_)).trans (h.block k hk hne)⟩
  injection e with e
  rcases hb with hb | hb
  · exact hne (by rw [e, hb])
  · omega

theorem gb_grown {w W W' : World} {db : Nat} {o : Option Nat} (h : w.grownBy W (some db)) (hg : W.grownBy W' o) (ho : ∀ k, o = some k → w.heap.size ≤ k) : w.grownBy W' (some db) :=
  ⟨hg.os.trans h.os, hg.tape.trans h.tape, hg.output.trans h.output, Nat.le_trans h.size hg.size, fun k hk hne => (hg.block k (Nat.lt_of_lt_of_le hk h.size) (fun e => by have := ho k e.symm; omega)).trans (h.block k hk hne)⟩

theorem gb_cell {w W : World} {db b : Nat} (h : w.grownBy W (some db)) (hb : b < w.heap.size) (hne : b ≠ db) (j : Nat) {v : Value} (hv : w.cell? ⟨b, j, none⟩ = some v) : W.cell? ⟨b, j, none⟩ = some v :=
  (World.cell?_of_block (a := ⟨b, j, none⟩) (h.block b hb (fun e => hne (by injection e)))).trans hv

/-- What Slide holds while it goes through objects: what was there ahead is as it was, but for the arena that is made. -/
structure SlI (w5 : World) (db : Nat) (vo : Value) (hs : List Int) (fs : List (List Int)) (L O : List Int) (W : World) (vm : Value) : Prop where
  g : w5.grownBy W (some db)
  d0 : W.cell? ⟨db, 0, none⟩ = some vm
  d1 : W.cell? ⟨db, 1, none⟩ = some vo
  df : ∀ j, W.frozen? ⟨db, j, none⟩ = false
  row : W.ownsRow w5.heap.size 56 1 vm (laid hs fs L O).length (wordsV (laid hs fs L O))
  ty : ∃ cs, W.heap[db]? = some (.cells cs 24)
  lt : db < w5.heap.size

theorem SlI.below {w5 W W' : World} {db : Nat} {vo vm : Value} {hs : List Int} {fs : List (List Int)} {L O : List Int} (h : SlI w5 db vo hs fs L O W vm) (hb : Below W.heap.size W W') : SlI w5 db vo hs fs L O W' vm := by
  have hl : db < W.heap.size := World.block_lt_of_cell? W _ h.d0
  refine ⟨gb_below h.g hb, (hb.cell (p := ⟨db, 0, none⟩) hl).trans h.d0, (hb.cell (p := ⟨db, 1, none⟩) hl).trans h.d1, fun j => (hb.frozen (p := ⟨db, j, none⟩) hl).trans (h.df j), ownsRow_below h.row hb, ?_, h.lt⟩
  obtain ⟨cs, hc⟩ := h.ty
  exact ⟨cs, (hb.block db hl).trans hc⟩

theorem SlI.setO {w5 W : World} {db b : Nat} {vo vm : Value} {hs : List Int} {fs : List (List Int)} {L O : List Int} (h : SlI w5 db vo hs fs L O W vm) (hb : w5.heap.size ≤ b) (hv : vm.ownBlock ≠ some b) (j : Nat) (u : Value) : SlI w5 db vo hs fs L O (W.setCell ⟨b, j, none⟩ u) vm := by
  have hlt := h.lt
  have hg := grown_set W b j u
  have hbk : (W.setCell ⟨b, j, none⟩ u).heap[db]? = W.heap[db]? := hg.block db (World.block_lt_of_cell? W _ h.d0) (fun e => by injection e with e; omega)
  refine ⟨gb_set h.g (.inr hb) j u, (World.cell?_of_block (a := ⟨db, 0, none⟩) hbk).trans h.d0, (World.cell?_of_block (a := ⟨db, 1, none⟩) hbk).trans h.d1, fun i => (World.frozen?_of_block (a := ⟨db, i, none⟩) hbk).trans (h.df i), h.row.kept hg (or_ne hv), ?_, h.lt⟩
  obtain ⟨cs, hc⟩ := h.ty
  exact ⟨cs, hbk.trans hc⟩

/-- Some words more. -/
theorem SlI.push {w5 W w1 : World} {db : Nat} {vo vm v' : Value} {hs : List Int} {fs : List (List Int)} {L O : List Int} (h : SlI w5 db vo hs fs L O W vm) (hg : W.grownBy w1 vm.ownBlock) : w1.cell? ⟨db, 0, none⟩ = some vm ∧ (∀ j, w1.frozen? ⟨db, j, none⟩ = false) ∧ db < w1.heap.size ∧
    w5.grownBy (w1.setCell ⟨db, 0, none⟩ v') (some db) ∧ (w1.setCell ⟨db, 0, none⟩ v').cell? ⟨db, 0, none⟩ = some v' ∧ (w1.setCell ⟨db, 0, none⟩ v').cell? ⟨db, 1, none⟩ = some vo ∧ (∀ j, (w1.setCell ⟨db, 0, none⟩ v').frozen? ⟨db, j, none⟩ = false) ∧ (∃ cs, (w1.setCell ⟨db, 0, none⟩ v').heap[db]? = some (.cells cs 24)) := by
  have hl : db < W.heap.size := World.block_lt_of_cell? W _ h.d0
  have hlt := h.lt
  have hne : some db ≠ vm.ownBlock := fun e => by have := (h.row.lt db e.symm).1; omega
  have hbk := hg.block db hl hne
  obtain ⟨cs, hc⟩ := h.ty
  have c0 := (World.cell?_of_block (a := ⟨db, 0, none⟩) hbk).trans h.d0
  refine ⟨c0, fun j => (World.frozen?_of_block (a := ⟨db, j, none⟩) hbk).trans (h.df j), Nat.lt_of_lt_of_le hl hg.size, gb_set (gb_grown h.g hg (fun k e => (h.row.lt k e).1)) (.inl rfl) 0 v', World.cell?_setCell_same' _ _ _ (by rw [c0]; rfl), ?_, fun j => ?_, ⟨_, heap_setCell_same w1 db 0 cs 24 _ (hbk.trans hc)⟩⟩
  · rw [World.cell?_setCell_other _ _ _ _ (by simp)]; exact (World.cell?_of_block (a := ⟨db, 1, none⟩) hbk).trans h.d1
  · rw [World.frozen?_setCell]; exact (World.frozen?_of_block (a := ⟨db, j, none⟩) hbk).trans (h.df j)

/-- All other blocks are as they were. -/
def KpS (W W' : World) (db : Nat) (vm vm' : Value) : Prop :=
  W.heap.size ≤ W'.heap.size ∧ ∀ k, k < W.heap.size → k ≠ db → vm.ownBlock ≠ some k → W'.heap[k]? = W.heap[k]? ∧ vm'.ownBlock ≠ some k

theorem KpS.refl (W : World) (db : Nat) (vm : Value) : KpS W W db vm vm := ⟨Nat.le_refl _, fun k _ _ h => ⟨rfl, h⟩⟩
theorem KpS.below {W W' W'' : World} {db : Nat} {vm vm' : Value} (h : KpS W W' db vm vm') (hb : Below W'.heap.size W' W'') : KpS W W'' db vm vm' :=
  ⟨Nat.le_trans h.1 hb.size, fun k h1 h2 h3 => ⟨(hb.block k (Nat.lt_of_lt_of_le h1 h.1)).trans (h.2 k h1 h2 h3).1, (h.2 k h1 h2 h3).2⟩⟩
theorem KpS.set {W W' : World} {db b : Nat} {vm vm' : Value} (h : KpS W W' db vm vm') (hb : W.heap.size ≤ b) (j : Nat) (u : Value) : KpS W (W'.setCell ⟨b, j, none⟩ u) db vm vm' :=
  ⟨by have := h.1; simp [World.setCell]; omega, fun k h1 h2 h3 => ⟨(Below.heap_setCell W' ⟨b, j, none⟩ u k (by show k ≠ b; omega)).trans (h.2 k h1 h2 h3).1, (h.2 k h1 h2 h3).2⟩⟩
theorem KpS.push {W W' w1 : World} {db : Nat} {vm vm' v' : Value} (h : KpS W W' db vm vm') (hg : W'.grownBy w1 vm'.ownBlock) (hat : v'.ownBlock = vm'.ownBlock ∨ v'.ownBlock = some W'.heap.size) : KpS W (w1.setCell ⟨db, 0, none⟩ v') db vm v' := by
  refine ⟨by have := h.1; have := hg.size; simp [World.setCell]; omega, fun k h1 h2 h3 => ?_⟩
  obtain ⟨h4, h5⟩ := h.2 k h1 h2 h3
  have hk := Nat.lt_of_lt_of_le h1 h.1
  refine ⟨((Below.heap_setCell w1 ⟨db, 0, none⟩ v' k (by show k ≠ db; exact h2)).trans (hg.block k hk (fun e => h5 e.symm))).trans h4, fun e => ?_⟩
  rcases hat with h6 | h6
  · exact h5 (h6 ▸ e)
  · rw [h6] at e; injection e with e; omega

end Go.Proofs.Ytemjhdbmcdlpeaa

/- Walks: the document's Read. -/
namespace Go.Proofs.Ytemjhdbmcdlpeaa
set_option linter.unusedSimpArgs false
set_option linter.unusedVariables false
open Go.RowKit Go.Shelf

set_option maxRecDepth 100000 in
set_option maxHeartbeats 1000000 in
theorem runpacked2_c (a s0 : Option Addr) (cap caps : Nat) (ws st : List Int) (B : Nat) (w : World) (hl : Wds B w a ws) (hU : U64 ws) (hS : Ints B w s0 st) (hB : B ≤ w.heap.size) (hn : ws.length ≤ 256) :
    Calls Try.prog 36 #[.slice a ws.length cap, .slice s0 st.length caps] w fun e w' => ∃ a' cap', e = .returned (.slice a' (ws.map (valW st)).length cap') ∧ ValsF w.heap.size w' a' (ws.map (valW st)) ∧ Below w.heap.size w w' := by
  obtain ⟨i0, hi, hz0, hz1, hz2⟩ := info_parts Try.info64'
  go_enter Try.func36, Try.ntmps36
  go_wp2
  go_loopw [5, 12] (fun s i wr => ∃ k : Nat, k ≤ ws.length ∧ i = .int .i64 k ∧ wr.ownsRow w.heap.size 64 2 s k (cellsV ((ws.map (valW st)).take k)) ∧ Below w.heap.size w wr) (fun _ i _ => ws.length - (intOf i).toNat)
  case atStart => exact ⟨0, Nat.zero_le _, rfl, by simpa [cellsV] using World.ownsRow_nil _ _ _ _, Below.refl _ _⟩
  case round =>
    obtain ⟨k, hk, rfl, hown, hb⟩ := hrel
    have hsz := hb.size
    by_cases hlt : k < ws.length
    · obtain ⟨b, off, rfl, hbB, hc⟩ := (hl.below (hb.mono hB)).at hlt
      have hu := hU _ (List.getElem_mem hlt)
      have HT := hide (fun r n => cells_take_succ (st := st) hlt (r := r) (n := n))
      generalize ws[k] = x at *
      cases hr : unRef x
      · have HT2 := hide (unhide HT _ _ (valW_num hr))
        have Hr := hide hr
        clear hr HT
        go_wp2_with (first
          | (go_at_call 27; go_must (refine (runpack_c x _ hu.1 hu.2).mono ?_); go_must (rintro e w3 ⟨he, hb3⟩; rw [unhide Hr] at he; subst he; have hs3 := hb3.size; have hown3 := ownsRow_below hown hb3))
          | (at_builtin; go_must (refine wpList_append_own _ rfl _ _ 41 rfl w.heap.size 64 i0 _ 2 16 Try.underlying41 hi hz0 hz1 hz2 rfl (by decide) _ _ _ rfl ((hown3.alloc _).alloc _) ⟨w3.heap.size + 1, 0, none⟩ 1 1 [.bool false, .int .i64 (unNum x)] rfl rfl (cell_two_at _ _ _ _ _ (by simp)) (by simp [Value.oneCell']) (by simp only [maxLen]; omega) (by omega) (by simp; omega) ?_); intro v' w1 hown' hgrow _))
        go_roundw
        case rel => exact ⟨k + 1, by omega, by go_num, by rw [unhide HT2]; exact hown', (((hb.trans (hb3.mono hsz)).alloc (by omega) _).alloc (by simp; omega) _).grown hgrow (by simp; omega) (fun q e => (hown3.lt q e).1)⟩
        case measure => simp [intOf]; omega
      · have HT2 := hide (unhide HT _ _ (valW_ref hr))
        have Hr := hide hr
        clear hr HT
        go_wp2_with (first
          | (go_at_call 27; go_must (refine (runpack_c x _ hu.1 hu.2).mono ?_); go_must (rintro e w3 ⟨he, hb3⟩; rw [unhide Hr] at he; subst he; have hs3 := hb3.size; have hown3 := ownsRow_below hown hb3; have hS3 := hS.below ((hb.mono hB).trans (hb3.mono (Nat.le_trans hB hsz)))))
          | (go_at_call 51; go_must (refine (place_c _ _ st (unNum x) B _ (hS3.below ((Below.refl _ _).alloc (by omega) _))).mono ?_); go_must (rintro e w4 ⟨he, hw4⟩; subst he; have hw4 := hw4.symm; subst hw4))
          | (at_builtin; go_must (refine wpList_append_own _ rfl _ _ 41 rfl w.heap.size 64 i0 _ 2 16 Try.underlying41 hi hz0 hz1 hz2 rfl (by decide) _ _ _ rfl ((hown3.alloc _).alloc _) ⟨w3.heap.size + 1, 0, none⟩ 1 1 [.bool true, .int .i64 (placeOf st (unNum x))] rfl rfl (cell_two_at _ _ _ _ _ (by simp)) (by simp [Value.oneCell']) (by simp only [maxLen]; omega) (by omega) (by simp; omega) ?_); intro v' w1 hown' hgrow _))
        go_roundw
        case rel => exact ⟨k + 1, by omega, by go_num, by rw [unhide HT2]; exact hown', (((hb.trans (hb3.mono hsz)).alloc (by omega) _).alloc (by simp; omega) _).grown hgrow (by simp; omega) (fun q e => (hown3.lt q e).1)⟩
        case measure => simp [intOf]; omega
    · obtain rfl : k = ws.length := by omega
      rw [List.take_of_length_le (by simp)] at hown
      obtain ⟨a', cap', hv, hV, hr9⟩ := vals_of_owns hown (by simp) (by omega)
      have HV : Hid (ValsF w.heap.size wr a' (ws.map (valW st))) := ⟨hV, hr9⟩
      clear hr9 hV
      subst hv
      go_wp2
      go_ret
      exact ⟨a', cap', rfl, unhide HV, hb⟩

/-- What an append of one object has made. -/
def Apd (wr : World) (gb k : Nat) (v : Value) (es : List Value) (lv : List V) (v10 : Value) (W : World) : Prop :=
  ∃ a7 c7 W1, ValsF wr.heap.size W1 a7 lv ∧ Below wr.heap.size wr W1 ∧ W.ownsRow (gb + 1) 76 1 v10 (k + 1) (es ++ [.slice a7 lv.length c7]) ∧ (W1.alloc (.cells #[.slice a7 lv.length c7] 76)).grownBy W v.ownBlock ∧ (v10.ownBlock = v.ownBlock ∨ v10.ownBlock = some (W1.alloc (.cells #[.slice a7 lv.length c7] 76)).heap.size)

def RdRes (fs : List (List Int)) (rs : List Int) (e : Ending) (W : World) : Prop :=
  ∃ ao co ar cr, e = .returned (.agg #[.slice ao (readG fs rs).objs.length co, .slice ar (readG fs rs).roots.length cr]) ∧ Objs W.heap.size W ao (readG fs rs).objs ∧ Vals W.heap.size W ar (readG fs rs).roots

set_option maxRecDepth 100000 in
set_option maxHeartbeats 8000000 in
theorem rread_c (aw ar : Option Addr) (cw cr : Nat) (ws rs : List Int) (fs : List (List Int)) (B : Nat) (w : World) (hW : Wds B w aw ws) (hR : Wds B w ar rs) (hUW : U64 ws) (hUR : U64 rs) (hB : B ≤ w.heap.size)
    (h256 : ws.length ≤ 256) (h8 : rs.length ≤ 8) (hs : splitR ws = some fs) :
    Calls Try.prog 15 #[.agg #[.slice aw ws.length cw, .slice ar rs.length cr]] w fun e w' => RdRes fs rs e w' ∧ Below w.heap.size w w' := by
  obtain ⟨i0, hi, hz0, hz1, hz2⟩ := info_parts Try.info76'
  have Hs := hide hs
  have htot := (splitR_st hs).1
  have hfl := tot_len fs
  clear hs
  obtain ⟨W4, hW4⟩ : ∃ W4, (w.alloc (.cells #[.slice aw ws.length cw, .slice ar rs.length cr] 24)).alloc (.cells #[.slice none 0 0, .slice none 0 0] 43) = W4 := ⟨_, rfl⟩
  have hbA : Below w.heap.size w W4 := by rw [← hW4]; exact ((Below.refl w.heap.size w).alloc (Nat.le_refl _) _).alloc (by simp) _
  have hs4 : w.heap.size + 1 < W4.heap.size := by rw [← hW4]; simp
  have q0 : W4.cell? ⟨w.heap.size + 1, 0, none⟩ = some (.slice none 0 0) := by rw [← hW4]; simp [go_sem]
  have q1 : W4.cell? ⟨w.heap.size + 1, 1, none⟩ = some (.slice none 0 0) := by rw [← hW4]; simp [go_sem]
  have f0 : W4.frozen? ⟨w.heap.size + 1, 0, none⟩ = false := by rw [← hW4]; simp [go_sem]
  have f1 : W4.frozen? ⟨w.heap.size + 1, 1, none⟩ = false := by rw [← hW4]; simp [go_sem]
  have g0 : W4.cell? ⟨w.heap.size, 0, none⟩ = some (.slice aw ws.length cw) := by rw [← hW4]; simp [go_sem]
  have g1 : W4.cell? ⟨w.heap.size, 1, none⟩ = some (.slice ar rs.length cr) := by rw [← hW4]; simp [go_sem]
  have Hcall := hide (rstarts_c aw cw ws B W4 (hW.below (hbA.mono hB)) hUW (by omega) h256)
  go_enter Try.func15, Try.ntmps15
  go_wp2_with fail
  refine (unhide Hcall).mono ?_
  rintro e w5 ⟨hres, hb5⟩
  obtain ⟨fs', sa, sc, he', hres⟩ := hres.resolve_left (fun h => by rw [unhide Hs] at h; cases h.1)
  rw [unhide Hs] at he'
  injection he' with he'
  subst he'
  obtain ⟨he, hI⟩ := hres
  subst he
  clear hW4 Hcall
  have hs5 := hb5.size
  replace q0 := (hb5.cell (p := ⟨w.heap.size + 1, 0, none⟩) (by simp; omega)).trans q0
  replace q1 := (hb5.cell (p := ⟨w.heap.size + 1, 1, none⟩) (by simp; omega)).trans q1
  replace f0 := (hb5.frozen (p := ⟨w.heap.size + 1, 0, none⟩) (by simp; omega)).trans f0
  replace f1 := (hb5.frozen (p := ⟨w.heap.size + 1, 1, none⟩) (by simp; omega)).trans f1
  replace g0 := (hb5.cell (p := ⟨w.heap.size, 0, none⟩) (by simp; omega)).trans g0
  replace g1 := (hb5.cell (p := ⟨w.heap.size, 1, none⟩) (by simp; omega)).trans g1
  have hbw5 : Below w.heap.size w w5 := hbA.trans (hb5.mono (by omega))
  have Hc2 := hide (runpacked2_c ar sa cr sc rs (stF 0 fs) w5.heap.size w5 ((hR.below (hbw5.mono hB)).mono (by omega)) hUR hI (Nat.le_refl _) (by omega))
  have HI := hide hI
  clear hbA hb5 hI
  go_wp2_with fail
  refine (unhide Hc2).mono ?_
  rintro e w6 ⟨ar6, cr6, he, hV6, hb6⟩
  subst he
  have hs6 := hb6.size
  replace q0 := (hb6.cell (p := ⟨w.heap.size + 1, 0, none⟩) (by simp; omega)).trans q0
  replace q1 := (hb6.cell (p := ⟨w.heap.size + 1, 1, none⟩) (by simp; omega)).trans q1
  replace f0 := (hb6.frozen (p := ⟨w.heap.size + 1, 0, none⟩) (by simp; omega)).trans f0
  replace f1 := (hb6.frozen (p := ⟨w.heap.size + 1, 1, none⟩) (by simp; omega)).trans f1
  replace g0 := (hb6.cell (p := ⟨w.heap.size, 0, none⟩) (by simp; omega)).trans g0
  have hbw6 : Below w.heap.size w w6 := hbw5.trans (hb6.mono (by omega))
  have HI6 := hide ((unhide HI).below hb6)
  have HV6 := hide hV6
  have Hst := hide (stF_len fs 0)
  have Hsg := hide (fun k hk => stF_get fs 0 k hk)
  clear Hc2 HI hV6 g1 hb6
  generalize hrl : (rs.map (valW (stF 0 fs))).length = rl at *
  have Hrl := hide hrl
  clear hrl
  go_wp2
  go_loopw [21] (fun i wr => ∃ (k : Nat) (x : Value) (es : List Value), k ≤ fs.length ∧ i = .int .i64 k ∧ Below w6.heap.size w6 wr ∧ wr.cell? ⟨w6.heap.size, 0, none⟩ = some x ∧ wr.frozen? ⟨w6.heap.size, 0, none⟩ = false ∧ wr.cell? ⟨w6.heap.size, 1, none⟩ = some (.slice ar6 rl cr6) ∧
        ObjRow wr (w6.heap.size + 1) x (objsOf (stF 0 fs) (fs.take k)) es) (fun i _ => fs.length - (intOf i).toNat)
  case atStart => exact ⟨0, .slice none 0 0, [], Nat.zero_le _, rfl, (Below.refl _ _).alloc (Nat.le_refl _) _, by simp [go_sem], by simp [go_sem], by simp [go_sem], objRow_nil _ _⟩
  case round =>
    obtain ⟨k, x, es, hk, rfl, hb, c0, cf0, c1, hrow⟩ := hrel
    have hsz := hb.size
    have hbwr : Below w.heap.size w wr := hbw6.trans (hb.mono (by have := hbw6.size; omega))
    have g0r := (hb.cell (p := ⟨w.heap.size, 0, none⟩) (by simp; omega)).trans g0
    have hqr : w.heap.size < wr.heap.size := by omega
    by_cases hlt : k < fs.length
    · obtain ⟨hp, hk1, hk2, hf0⟩ := split_obj (unhide Hs) hlt
      have hltS : k < (stF 0 fs).length := by rw [unhide Hst]; exact hlt
      obtain ⟨b, off, rfl, hbB, hc⟩ := ((unhide HI6).below (hb.mono (by omega))).at hltS
      have Hsk := hide (show (stF 0 fs)[k] = ((tot (fs.take k) : Nat) : Int) from by have := unhide Hsg k hlt; rw [List.getElem?_eq_getElem hltS, Option.some.injEq, Nat.zero_add] at this; exact this)
      rw [unhide Hsk] at hc
      have hkI : (k : Int) < ((stF 0 fs).length : Int) := by omega
      have hq : w6.heap.size < wr.heap.size := World.block_lt_of_cell? wr _ c0
      have HO := hide (objsOf_succ (stF 0 fs) hlt)
      have HLk := hide (show (objsOf (stF 0 fs) (fs.take k)).length = k by rw [objsOf_len, List.length_take]; omega)
      have hf4 : fs[k].length ≤ 4 := (splitR_st (unhide Hs)).2 _ (List.getElem_mem hlt)
      have hUf := u64_fields (unhide Hs) hUW _ (List.getElem_mem hlt)
      rw [← hf0] at HO hf4 hUf
      have HcF : Hid (∀ W, Below wr.heap.size wr W → Calls Try.prog 26 #[.slice aw ws.length cw, .int .i64 (tot (fs.take k) : Nat)] W fun e w' => ∃ a' cap', e = .returned (.slice a' (fieldsAt ws (tot (fs.take k))).length cap') ∧ Wds w'.heap.size w' a' (fieldsAt ws (tot (fs.take k))) ∧ Below W.heap.size W w') := fun W hbW => by
        refine (rfields_c aw cw ws B W ((hW.below (hbwr.mono hB)).below (hbW.mono (by omega))) hUW (by have := hbW.size; omega) h256 _ hp hk1 hk2).mono ?_
        rintro e w' ⟨a', c', h1, h2, h3, _⟩
        exact ⟨a', c', h1, h2, h3⟩
      have HIr := hide ((unhide HI6).below (hb.mono (by omega)))
      clear Hsk hk1 hk2 hf0 hp
      generalize fieldsAt ws (tot (fs.take k)) = f at *
      generalize tot (fs.take k) = p at *
      have hrr := hrow.row
      rw [unhide HLk] at hrr
      obtain ⟨ca, cc, rfl⟩ := ownsRow_slice hrr
      have hncb : Value.ownBlock (.slice ca k cc) ≠ some w6.heap.size := fun e => by have := (hrr.lt _ e).1; omega
      have HcU : Hid (∀ W a5 c5, Below wr.heap.size wr W → Wds W.heap.size W a5 f → Calls Try.prog 36 #[.slice a5 f.length c5, .slice (some ⟨b, off, none⟩) (stF 0 fs).length sc] W fun e w' => ∃ a' cap', e = .returned (.slice a' (f.map (valW (stF 0 fs))).length cap') ∧ ValsF W.heap.size w' a' (f.map (valW (stF 0 fs))) ∧ Below W.heap.size W w') := fun W a5 c5 hbW hW5 =>
        runpacked2_c a5 (some ⟨b, off, none⟩) c5 sc f (stF 0 fs) W.heap.size W hW5 hUf (((unhide HIr).below (hbW.mono (by omega))).mono (by have := hbW.size; omega)) (Nat.le_refl _) (by omega)
      have HRow := hide hrow
      clear hrow
      go_wp2
      refine wp_region_hoist _ [5, 7, 8, 9, 10, 12] (fun i => match i with
          | 0 => .pointer (some ⟨w6.heap.size, 0, none⟩)
          | 1 => .slice ca k cc
          | 2 => .pointer (some ⟨w.heap.size, 0, none⟩)
          | 3 => .slice aw ws.length cw
          | 4 => .int .i64 (p : Int)
          | 6 => .slice (some ⟨b, off, none⟩) (stF 0 fs).length sc
          | _ => .pointer (some ⟨w6.heap.size, 0, none⟩))
        (fun vs W => match vs with
          | [] => Below wr.heap.size wr W
          | [v5] => (∃ a5 c5, v5 = .slice a5 f.length c5 ∧ Wds W.heap.size W a5 f) ∧ Below wr.heap.size wr W
          | [v5, v7] => (∃ a7 c7, v7 = .slice a7 (f.map (valW (stF 0 fs))).length c7 ∧ ValsF wr.heap.size W a7 (f.map (valW (stF 0 fs)))) ∧ Below wr.heap.size wr W
          | [v5, v7, v8] => (∃ a7 c7, v8 = .agg #[.slice a7 (f.map (valW (stF 0 fs))).length c7] ∧ ValsF wr.heap.size W a7 (f.map (valW (stF 0 fs)))) ∧ Below wr.heap.size wr W
          | [v5, v7, v8, v9] => (∃ a7 c7 W1, v9 = .slice (some ⟨W1.heap.size, 0, none⟩) 1 1 ∧ W = W1.alloc (.cells #[.slice a7 (f.map (valW (stF 0 fs))).length c7] 76) ∧ ValsF wr.heap.size W1 a7 (f.map (valW (stF 0 fs))) ∧ Below wr.heap.size wr W1) ∧ Below wr.heap.size wr W
          | [v5, v7, v8, v9, v10] => Apd wr w6.heap.size k (.slice ca k cc) es (f.map (valW (stF 0 fs))) v10 W
          | [v5, v7, v8, v9, v10, v12] => Below w6.heap.size w6 W ∧ W.cell? ⟨w6.heap.size, 0, none⟩ = some v10 ∧ W.frozen? ⟨w6.heap.size, 0, none⟩ = false ∧ W.cell? ⟨w6.heap.size, 1, none⟩ = some (.slice ar6 rl cr6) ∧ ∃ es', ObjRow W (w6.heap.size + 1) v10 (objsOf (stF 0 fs) (fs.take (k + 1))) es'
          | _ => False) Try.mixed (laid_of (by kernel_rfl)) (Below.refl _ _).drew ?_ ?_ ?_
      · intro i o hio hiT vs a W K hGv hlate hag hdep hK
        have hBW4 : vs.length ≤ 4 → Below wr.heap.size wr W := by
          intro h4
          match vs, hGv, h4 with
          | [], h, _ => exact h
          | [_], h, _ => exact h.2
          | [_, _], h, _ => exact h.2
          | [_, _, _], h, _ => exact h.2
          | [_, _, _, _], h, _ => exact h.2
        have t1 := hag.tm (k := 1) (by simp [dsOf])
        have t3 := hag.tm (k := 3) (by simp [dsOf])
        have t5 := hag.tm (k := 5) (by simp [dsOf])
        have t7 := hag.tm (k := 7) (by simp [dsOf])
        simp at t1 t3 t5 t7
        rcases i with _ | _ | _ | _ | _ | _ | _ | _ | _ | _ | _ | _ | _ | i
        · cases hio
          clear hGv
          unfold Oper.wp
          go_simp
          exact hK
        · have hl4 : vs.length ≤ 4 := hlate 4 10 _ rfl rfl ⟨⟨1, .data⟩, by simp, rfl, rfl⟩
          have s25 : a.tmps[25]?.getD undef = .pointer (some ⟨w6.heap.size, 0, none⟩) := hdep ⟨0, .data⟩ (by cases hio; simp) rfl 25 rfl
          have hcW := ((hBW4 hl4).cell (p := ⟨w6.heap.size, 0, none⟩) hq).trans c0
          cases hio
          clear hGv
          unfold Oper.wp
          go_simp
          exact hK
        · cases hio
          clear hGv
          unfold Oper.wp
          go_simp
          exact hK
        · have hl0 : vs.length ≤ 0 := hlate 0 5 _ rfl rfl ⟨⟨3, .data⟩, by simp, rfl, rfl⟩
          have s27 : a.tmps[27]?.getD undef = .pointer (some ⟨w.heap.size, 0, none⟩) := hdep ⟨2, .data⟩ (by cases hio; simp) rfl 27 rfl
          have hcW := ((hBW4 (by omega)).cell (p := ⟨w.heap.size, 0, none⟩) hqr).trans g0r
          cases hio
          clear hGv
          unfold Oper.wp
          go_simp
          exact hK
        · cases hio
          clear hGv
          unfold Oper.wp
          go_simp
          exact hK
        · exact absurd (by simp) hiT
        · cases hio
          clear hGv
          unfold Oper.wp
          go_simp
          exact hK
        · exact absurd (by simp) hiT
        · exact absurd (by simp) hiT
        · exact absurd (by simp) hiT
        · exact absurd (by simp) hiT
        · cases hio
          clear hGv
          unfold Oper.wp
          go_simp
          exact hK
        · exact absurd (by simp) hiT
        · simp at hio
      · intro j i o hj hio vs a W K hvl hGv hag hdep hK
        rcases j with _ | _ | _ | _ | _ | _ | j
        · obtain rfl : 5 = i := by simpa using hj
          obtain rfl : vs = [] := List.length_eq_zero_iff.1 hvl
          have s28 : a.tmps[28]?.getD undef = .slice aw ws.length cw := hdep ⟨3, .data⟩ (by cases hio; simp) rfl 28 rfl
          have s29 : a.tmps[29]?.getD undef = .int .i64 (p : Int) := hdep ⟨4, .data⟩ (by cases hio; simp) rfl 29 rfl
          cases hio
          refine op_call 26 #[.slice aw ws.length cw, .int .i64 (p : Int)] (by go_simp) ?_
          have hBW : Below wr.heap.size wr W := hGv
          refine (unhide HcF W hBW).mono ?_
          rintro e w' ⟨a', c', rfl, h2, h3⟩
          exact ⟨_, rfl, hK _ _ ⟨⟨a', c', rfl, h2⟩, hBW.trans (h3.mono hBW.size)⟩⟩
        · obtain rfl : 7 = i := by simpa using hj
          obtain ⟨v5, rfl⟩ : ∃ v5, vs = [v5] := by
            match vs, hvl with
            | [v5], _ => exact ⟨v5, rfl⟩
          obtain ⟨⟨a5, c5, rfl, hW5⟩, hBW⟩ := hGv
          have s30 : a.tmps[30]?.getD undef = .slice a5 f.length c5 := hdep ⟨5, .data⟩ (by cases hio; simp) rfl 30 rfl
          have s31 : a.tmps[31]?.getD undef = .slice (some ⟨b, off, none⟩) (stF 0 fs).length sc := hdep ⟨6, .data⟩ (by cases hio; simp) rfl 31 rfl
          cases hio
          refine op_call 36 #[.slice a5 f.length c5, .slice (some ⟨b, off, none⟩) (stF 0 fs).length sc] (by go_simp) ?_
          refine (unhide HcU W a5 c5 hBW hW5).mono ?_
          rintro e w' ⟨a', c', rfl, h2, h3⟩
          exact ⟨_, rfl, hK _ _ ⟨⟨a', c', rfl, h2.base hBW.size⟩, hBW.trans (h3.mono hBW.size)⟩⟩
        · obtain rfl : 8 = i := by simpa using hj
          obtain ⟨v5, v7, rfl⟩ : ∃ v5 v7, vs = [v5, v7] := by
            match vs, hvl with
            | [v5, v7], _ => exact ⟨v5, v7, rfl⟩
          obtain ⟨⟨a7, c7, rfl, hV7⟩, hBW⟩ := hGv
          have s32 : a.tmps[32]?.getD undef = .slice a7 (f.map (valW (stF 0 fs))).length c7 := hdep ⟨7, .data⟩ (by cases hio; simp) rfl 32 rfl
          generalize (f.map (valW (stF 0 fs))) = lv at *
          cases hio
          unfold Oper.wp
          go_simp
          exact hK _ _ ⟨⟨a7, c7, rfl, hV7⟩, hBW⟩
        · obtain rfl : 9 = i := by simpa using hj
          obtain ⟨v5, v7, v8, rfl⟩ : ∃ v5 v7 v8, vs = [v5, v7, v8] := by
            match vs, hvl with
            | [v5, v7, v8], _ => exact ⟨v5, v7, v8, rfl⟩
          obtain ⟨⟨a7, c7, rfl, hV7⟩, hBW⟩ := hGv
          have s33 : a.tmps[33]?.getD undef = .agg #[.slice a7 (f.map (valW (stF 0 fs))).length c7] := hdep ⟨8, .data⟩ (by cases hio; simp) rfl 33 rfl
          generalize (f.map (valW (stF 0 fs))) = lv at *
          cases hio
          unfold Oper.wp
          go_simp
          exact hK _ _ ⟨⟨a7, c7, W, rfl, rfl, hV7, hBW⟩, hBW.alloc hBW.size _⟩
        · obtain rfl : 10 = i := by simpa using hj
          obtain ⟨v5, v7, v8, v9, rfl⟩ : ∃ v5 v7 v8 v9, vs = [v5, v7, v8, v9] := by
            match vs, hvl with
            | [v5, v7, v8, v9], _ => exact ⟨v5, v7, v8, v9, rfl⟩
          obtain ⟨⟨a7, c7, W1, rfl, rfl, hV7, hBW1⟩, hBW⟩ := hGv
          have s26 : a.tmps[26]?.getD undef = .slice ca k cc := hdep ⟨1, .data⟩ (by cases hio; simp) rfl 26 rfl
          have s34 : a.tmps[34]?.getD undef = .slice (some ⟨W1.heap.size, 0, none⟩) 1 1 := hdep ⟨9, .data⟩ (by cases hio; simp) rfl 34 rfl
          cases hio
          have hs1 := hBW1.size
          refine op_append (.tmp 26) (.tmp 34) 40 rfl (w6.heap.size + 1) 76 i0 _ 1 24 Try.underlying40 hi hz0 hz1 hz2 rfl (by decide) (.slice ca k cc) k es (by simpa [Act.eval] using s26) ((ownsRow_below hrr hBW1).alloc _) ⟨W1.heap.size, 0, none⟩ 1 1 [.slice a7 (f.map (valW (stF 0 fs))).length c7] (by simpa [Act.eval] using s34) rfl (cell_one_at _ _ _ _ rfl) (by simp [Value.oneCell']) (by simp only [maxLen]; omega) (by omega) (by simp; omega) ?_
          intro v10 w10 hrow10 hg10 hat10
          exact hK _ _ ⟨a7, c7, W1, hV7, hBW1, hrow10, hg10, hat10⟩
        · obtain rfl : 12 = i := by simpa using hj
          obtain ⟨v5, v7, v8, v9, v10, rfl⟩ : ∃ v5 v7 v8 v9 v10, vs = [v5, v7, v8, v9, v10] := by
            match vs, hvl with
            | [v5, v7, v8, v9, v10], _ => exact ⟨v5, v7, v8, v9, v10, rfl⟩
          obtain ⟨a7, c7, W1, hV7, hBW1, hrow10, hg10, hat10⟩ := hGv
          have hs1 := hBW1.size
          obtain ⟨g7, cap7, hv7⟩ := ownsRow_succ hrow10
          subst hv7
          have s35 : a.tmps[35]?.getD undef = .slice (some ⟨g7, 0, none⟩) (k + 1) cap7 := hdep ⟨10, .data⟩ (by cases hio; simp) rfl 35 rfl
          have s36 : a.tmps[36]?.getD undef = .pointer (some ⟨w6.heap.size, 0, none⟩) := hdep ⟨11, .data⟩ (by cases hio; simp) rfl 36 rfl
          have hblk : W.heap[w6.heap.size]? = wr.heap[w6.heap.size]? := (hg10.block w6.heap.size (by simp; omega) (fun e => hncb e.symm)).trans ((Below.heap_alloc W1 _ _ (by omega)).trans (hBW1.block _ hq))
          have e0 := (World.cell?_of_block (a := ⟨w6.heap.size, 0, none⟩) hblk).trans c0
          have e1 := (World.cell?_of_block (a := ⟨w6.heap.size, 1, none⟩) hblk).trans c1
          have ef := (World.frozen?_of_block (a := ⟨w6.heap.size, 0, none⟩) hblk).trans cf0
          obtain ⟨r1, r2⟩ := obj_step (l := f.map (valW (stF 0 fs))) (ci := c7) (unhide HRow) (by omega) hV7.1 hBW1 hV7.2 (by rw [unhide HLk]; exact hrow10) hg10 hat10 rfl
          cases hio
          clear hrow10 hg10 hat10 hV7 hblk
          unfold Oper.wp
          go_simp
          refine hK undef _ ⟨hb.trans r2, World.cell?_setCell_same' _ _ _ (by rw [e0]; rfl), by rw [World.frozen?_setCell]; exact ef, ?_, _, by rw [unhide HO]; exact r1⟩
          rw [World.cell?_setCell_other _ _ _ _ (by simp)]
          exact e1
        · simp at hj
      · intro vs W hvl hGv
        obtain ⟨v5, v7, v8, v9, v10, v12, rfl⟩ : ∃ v5 v7 v8 v9 v10 v12, vs = [v5, v7, v8, v9, v10, v12] := by
          match vs, hvl with
          | [v5, v7, v8, v9, v10, v12], _ => exact ⟨v5, v7, v8, v9, v10, v12, rfl⟩
        obtain ⟨h1, h2, h3, h4, es', h5⟩ := hGv
        simp only [List.length_cons, List.length_nil, Nat.reduceAdd]
        simp [endAct, dstAt, valAt, List.idxOf?, List.findIdx?, List.findIdx?.go, Act.put]
        go_wp2
        go_roundw
        case rel => exact ⟨k + 1, v10, es', by omega, by go_num, h1, h2, h3, h4, h5⟩
        case measure => simp [intOf]; omega
    · obtain rfl : k = fs.length := by omega
      rw [List.take_length] at hrow
      have hkI : ¬ ((fs.length : Int) < ((stF 0 fs).length : Int)) := by rw [unhide Hst]; omega
      have hol := objsOf_len (stF 0 fs) fs
      obtain ⟨va', vc', hv, hO⟩ := hrow.objs (by omega)
      subst hv
      have HR := hide hrow
      have Hol := hide hol
      clear hO hrow hol
      replace q0 := (hb.cell (p := ⟨w.heap.size + 1, 0, none⟩) (by simp; omega)).trans q0
      replace q1 := (hb.cell (p := ⟨w.heap.size + 1, 1, none⟩) (by simp; omega)).trans q1
      replace f0 := (hb.frozen (p := ⟨w.heap.size + 1, 0, none⟩) (by simp; omega)).trans f0
      replace f1 := (hb.frozen (p := ⟨w.heap.size + 1, 1, none⟩) (by simp; omega)).trans f1
      generalize hL : objsOf (stF 0 fs) fs = L at *
      have HL := hide hL
      clear hL
      go_wp2
      refine bodyPost_ret (v := .agg #[.slice va' L.length vc', .slice ar6 rl cr6]) (by simp [results, Try.results15, go_sem, q0, q1]) rfl ?_
      have hO := ((unhide HR).setCell (p := ⟨w.heap.size + 1, 0, none⟩) (by simp; omega) (.slice va' L.length vc')).setCell (p := ⟨w.heap.size + 1, 1, none⟩) (by simp; omega) (.slice ar6 rl cr6)
      obtain ⟨va2, vc2, hv2, hO2⟩ := hO.objs (by rw [unhide Hol]; omega)
      injection hv2 with e1 _ e3
      subst e1 e3
      have hVF := ((((unhide HV6).below hb).setCell (p := ⟨w.heap.size + 1, 0, none⟩) (by simp; omega) (.slice va' L.length vc')).setCell (p := ⟨w.heap.size + 1, 1, none⟩) (by simp; omega) (.slice ar6 rl cr6))
      refine ⟨⟨va', vc', ar6, cr6, ?_, ?_, hVF.1⟩, (hbwr.setCell (p := ⟨w.heap.size + 1, 0, none⟩) (by simp) _).setCell (p := ⟨w.heap.size + 1, 1, none⟩) (by simp) _⟩
      · have e1 : (readG fs rs).objs = L := unhide HL
        have e2 : (readG fs rs).roots.length = rl := unhide Hrl
        rw [e1, e2]
      · have e1 : (readG fs rs).objs = L := unhide HL
        rw [e1]; exact hO2

end Go.Proofs.Ytemjhdbmcdlpeaa

/- Walks: the document's Reach, its row new. -/
namespace Go.Proofs.Ytemjhdbmcdlpeaa
set_option linter.unusedSimpArgs false
set_option linter.unusedVariables false
open Go.RowKit

set_option maxRecDepth 100000 in
set_option maxHeartbeats 1000000 in
theorem refReachF_c (ao ar : Option Addr) (co cr : Nat) (g : Gr) (B : Nat) (w : World) (ho : Objs B w ao g.objs) (hr : Vals B w ar g.roots) (hB : B ≤ w.heap.size) (hG : Good g) :
    Calls Try.prog 14 #[.agg #[.slice ao g.objs.length co, .slice ar g.roots.length cr]] w fun e w' => ∃ a cap, e = .returned (.slice a (reachK g g.objs.length).length cap) ∧ Ints w'.heap.size w' a (reachK g g.objs.length) ∧ Below w.heap.size w w' ∧ Hid (∀ b off, a = some ⟨b, off, none⟩ → w.heap.size ≤ b) := by
  obtain ⟨i0, hi, hz0, hz1, hz2⟩ := info_parts Try.info3
  have hn24 := hG.n24
  have hb1 := (Below.refl w.heap.size w).alloc (Nat.le_refl _) (.cells #[.slice ao g.objs.length co, .slice ar g.roots.length cr] 43)
  go_enter Try.func14, Try.ntmps14
  go_wp2_with fail
  refine (refDist_c ao ar co cr g B _ (ho.below (hb1.mono hB)) (hr.below (hb1.mono hB)) (by simp; omega) hG).mono ?_
  rintro e w2 ⟨ad, cd, rfl, hI2, hb2⟩
  have hbw2 : Below w.heap.size w w2 := hb1.trans (hb2.mono (by simp))
  clear hb1 hb2
  have hlD : (distL g).length = g.objs.length := distL_len g
  have HlD := hide hlD
  have hDk : Hid (∀ k, k < g.objs.length → (distL g)[k]? = some (dG g k)) := fun k hk => by simp [distL, List.getElem?_map, List.getElem?_range hk, dG]
  rw [hlD]
  clear hlD
  generalize distL g = D at *
  go_wp2
  go_loopw [3, 9] (fun s i wr => ∃ k : Nat, k ≤ g.objs.length ∧ i = .int .i64 k ∧ wr.ownsRow w2.heap.size 3 1 s (reachK g k).length (intsV (reachK g k)) ∧ Below w2.heap.size w2 wr) (fun _ i _ => g.objs.length - (intOf i).toNat)
  case atStart => exact ⟨0, Nat.zero_le _, rfl, World.ownsRow_nil _ _ _ _, Below.refl _ _⟩
  case round =>
    obtain ⟨k, hk, rfl, hown, hb⟩ := hrel
    have hsz := hb.size
    have hkl := reachK_len g k
    by_cases hlt : k < g.objs.length
    · have hltD : k < D.length := by rw [unhide HlD]; exact hlt
      obtain ⟨bd, od, rfl, hbd, hcd⟩ := (hI2.below hb).at hltD
      have hx := unhide hDk k hlt
      rw [List.getElem?_eq_getElem hltD] at hx
      injection hx with hx
      rw [hx] at hcd
      have Hyes := hide (fun h => reachK_yes (g := g) (k := k) h)
      have Hno := hide (fun h => reachK_no (g := g) (k := k) h)
      clear hx
      generalize dG g k = x at *
      have hmx : (reachK g k).length + 1 ≤ maxLen := by simp only [maxLen]; omega
      have hmy : ((reachK g k).length + 1) * 8 ≤ 140737488355328 := by omega
      by_cases hx0 : 0 ≤ x
      · have d : decide (x ≥ 0) = true := by simpa using hx0
        have d' : decide (0 ≤ x) = true := by simpa using hx0
        have HT := hide (unhide Hyes hx0)
        go_wp2_with (at_builtin; go_must (refine wpList_append_own _ rfl _ _ 38 rfl w2.heap.size 3 i0 _ 1 8 Try.underlying38 hi hz0 hz1 hz2 rfl (by decide) _ _ _ rfl (hown.alloc _) ⟨wr.heap.size, 0, none⟩ 1 1 [.int .i64 k] rfl rfl (cell_one_at _ _ _ _ (by simp)) (by simp [Value.oneCell']) hmx hmy (by simp; omega) ?_); intro v' w1 hown' hgrow _)
        go_roundw
        case rel => exact ⟨k + 1, by omega, by go_num, by rw [unhide HT, intsV_snoc, List.length_append]; exact hown', (hb.alloc hsz _).grown hgrow (by simp; omega) (fun q e => (hown.lt q e).1)⟩
        case measure => simp [intOf]; omega
      · have d : decide (x ≥ 0) = false := by simp; omega
        have d' : decide (0 ≤ x) = false := by simp; omega
        have HT := hide (unhide Hno (by omega))
        go_wp2
        go_roundw
        case rel => exact ⟨k + 1, by omega, by go_num, by rw [unhide HT]; exact hown, hb⟩
        case measure => simp [intOf]; omega
    · obtain rfl : k = g.objs.length := by omega
      obtain ⟨a', cap', hv, hV, hr9⟩ := ints_of_owns hown rfl (by omega)
      have Hv := hide hv
      have H9 : Hid (∀ b off, a' = some ⟨b, off, none⟩ → w.heap.size ≤ b) := fun b off e => by have := hr9 b off e; have := hbw2.size; omega
      clear hv hr9
      go_wp2
      go_ret
      exact ⟨a', cap', congrArg Ending.returned (unhide Hv), hV, hbw2.trans (hb.mono hbw2.size), H9⟩

end Go.Proofs.Ytemjhdbmcdlpeaa

/- Walks: the law's size. -/
namespace Go.Proofs.Ytemjhdbmcdlpeaa
set_option linter.unusedSimpArgs false
set_option linter.unusedVariables false
open Go.RowKit Go.Shelf

theorem fO_len {hs : List Int} {fs : List (List Int)} {rs : List Int} (h : Arn hs fs rs) {o : Nat} (ho : o < (readG fs rs).objs.length) : (readG fs rs).objs[o].length = (fO fs (o : Int)).length := by
  have hl := readG_len fs rs
  have hi : o < fs.length := by omega
  simp [readG, fO, List.getD_eq_getElem?_getD, hi]

theorem reach_rng {g : Gr} {x : Int} (h : x ∈ reachK g g.objs.length) : 0 ≤ x ∧ x < g.objs.length := by
  unfold reachK at h
  obtain ⟨j, hj, rfl⟩ := List.mem_map.1 h
  have := List.mem_range.1 (List.mem_filter.1 hj).1
  omega

set_option maxRecDepth 100000 in
set_option maxHeartbeats 2000000 in
theorem size_c (aw ar : Option Addr) (cw cr : Nat) (ws rs : List Int) (hs : List Int) (fs : List (List Int)) (B : Nat) (w : World) (hW : Wds B w aw ws) (hR : Wds B w ar rs) (hUW : U64 ws) (hUR : U64 rs) (hB : B ≤ w.heap.size) (hA : Arn hs fs rs) (hws : ws = joinW hs fs) :
    Calls Try.prog 18 #[.agg #[.slice aw ws.length cw, .slice ar rs.length cr]] w fun e w' => e = .returned (.int .i64 (tot (mF fs rs) : Nat)) ∧ Below w.heap.size w w' := by
  have hsp : splitR ws = some fs := by rw [hws]; exact fit_split hA.fit
  have h256 : ws.length ≤ 256 := by rw [hws, joinW_len _ _ hA.fit.len]; exact hA.n256
  have hb1 : Below w.heap.size w (w.alloc (.cells #[.slice aw ws.length cw, .slice ar rs.length cr] 24)) := (Below.refl w.heap.size w).alloc (Nat.le_refl _) _
  have Hc1 := hide (rread_c aw ar cw cr ws rs fs B _ (hW.below (hb1.mono hB)) (hR.below (hb1.mono hB)) hUW hUR (by simp; omega) h256 hA.n8 hsp)
  have HA := hide hA
  have hG := good_read hA
  have HG := hide hG
  have Hsz := hide (size_eq hA)
  have Hb1 := hide hb1
  clear hA hws hsp hG hb1
  go_enter Try.func18, Try.ntmps18
  go_wp2_with fail
  refine (unhide Hc1).mono ?_
  rintro e w2 ⟨⟨ao, co, ar2, cr2, he, hO, hV⟩, hb2⟩
  subst he
  have hs2 := hb2.size
  simp only [World.size_alloc] at hs2 hb2
  have hbw2 : Below w.heap.size w w2 := (unhide Hb1).trans (hb2.mono (by omega))
  obtain ⟨W2, hW2⟩ : ∃ W2, w2.alloc (.cells #[.slice ao (readG fs rs).objs.length co, .slice ar2 (readG fs rs).roots.length cr2] 43) = W2 := ⟨_, rfl⟩
  have hb2' : Below w2.heap.size w2 W2 := by rw [← hW2]; exact (Below.refl _ _).alloc (Nat.le_refl _) _
  have hs2' : w2.heap.size < W2.heap.size := by rw [← hW2]; simp
  have k0 : W2.cell? ⟨w2.heap.size, 0, none⟩ = some (.slice ao (readG fs rs).objs.length co) := by rw [← hW2]; simp [go_sem]
  have k1 : W2.cell? ⟨w2.heap.size, 1, none⟩ = some (.slice ar2 (readG fs rs).roots.length cr2) := by rw [← hW2]; simp [go_sem]
  have hbW2 : Below w.heap.size w W2 := hbw2.trans (hb2'.mono (by omega))
  have HO := hide ((hO.below hb2').mono (B' := W2.heap.size) (by omega))
  have HV := hide ((hV.below hb2').mono (B' := W2.heap.size) (by omega))
  have Hc2 := hide (refReach_c ao ar2 co cr2 (readG fs rs) W2.heap.size W2 (unhide HO) (unhide HV) (Nat.le_refl _) (unhide HG))
  clear Hc1 hO hV hb2 hb2' hbw2 Hb1
  go_wp2_with fail
  refine (unhide Hc2).mono ?_
  rintro e w3 ⟨la, lc, he, hI, hb3⟩
  subst he
  have hs3 := hb3.size
  replace k0 := (hb3.cell (p := ⟨w2.heap.size, 0, none⟩) hs2').trans k0
  have hbw3 : Below w.heap.size w w3 := hbW2.trans (hb3.mono (by omega))
  have hl3 : w2.heap.size < w3.heap.size := by omega
  have HO3 := hide ((unhide HO).below hb3)
  have HI3 := hide hI
  have Hrg := hide (fun x h => reach_rng (g := readG fs rs) (x := x) h)
  have Hfl := hide (fun o ho => fO_len (unhide HA) (o := o) ho)
  have h5 : ∀ k, tot (((reachK (readG fs rs) (readG fs rs).objs.length).take k).map (fO fs)) ≤ 256 := fun k => by
    have h1 := tot_take_le ((reachK (readG fs rs) (readG fs rs).objs.length).map (fO fs)) k
    rw [← List.map_take] at h1
    have h2 := unhide Hsz
    unfold sizeR at h2
    have := mF_256 (unhide HA)
    omega
  have H5 := hide h5
  have hrl : (reachK (readG fs rs) (readG fs rs).objs.length).length ≤ 256 := by
    have h1 := tot_len ((reachK (readG fs rs) (readG fs rs).objs.length).map (fO fs))
    have h2 := h5 (reachK (readG fs rs) (readG fs rs).objs.length).length
    rw [List.take_length] at h2
    simp at h1
    omega
  have hn24 := (unhide HG).n24
  have Hn4 := hide (unhide HG).n4
  clear hW2 hb3 hI Hc2 HO HV hW hR hUW hUR k1 h5 HA HG
  generalize reachK (readG fs rs) (readG fs rs).objs.length = R at *
  generalize readG fs rs = g at *
  go_wp2
  go_loopw [3, 12] (fun s i wr => ∃ k : Nat, k ≤ R.length ∧ i = .int .i64 k ∧ s = .int .i64 (tot ((R.take k).map (fO fs)) : Nat) ∧ Below w3.heap.size w3 wr) (fun _ i _ => R.length - (intOf i).toNat)
  case atStart => exact ⟨0, Nat.zero_le _, rfl, by simp [tot], Below.refl _ _⟩
  case round =>
    obtain ⟨k, hk, rfl, rfl, hb⟩ := hrel
    have hsz := hb.size
    have k0r := (hb.cell (p := ⟨w2.heap.size, 0, none⟩) hl3).trans k0
    have hlr : w2.heap.size < wr.heap.size := by omega
    by_cases hlt : k < R.length
    · obtain ⟨b1, o1, rfl, hB1, hc1⟩ := ((unhide HI3).below hb).at hlt
      have hro := unhide Hrg _ (List.getElem_mem hlt)
      have HT : Hid (tot ((R.take (k + 1)).map (fO fs)) = tot ((R.take k).map (fO fs)) + ((fO fs R[k]).length + 1)) := by
        show _ = _
        rw [List.take_succ_eq_append_getElem hlt, List.map_append, List.map_cons, List.map_nil, tot_snoc]
      have h5k := unhide H5 k
      generalize R[k] = o at *
      obtain ⟨o, rfl⟩ := Int.eq_ofNat_of_zero_le hro.1
      have hoN : o < g.objs.length := by omega
      obtain ⟨b, off, ai, ci, rfl, hbB, hcb, hva⟩ := ((unhide HO3).below (hb.mono (by omega))).at hoN
      have hfl := unhide Hfl o hoN
      have h4 : (g.objs[o]).length ≤ 4 := unhide Hn4 _ (List.getElem_mem hoN)
      generalize g.objs[o] = f at *
      have HT2 : Hid (tot ((R.take (k + 1)).map (fO fs)) = tot ((R.take k).map (fO fs)) + 1 + f.length) := by show _ = _; rw [unhide HT, hfl]; omega
      clear HT hfl hva
      have hoI : (o : Int) < (g.objs.length : Int) := by omega
      generalize tot ((R.take k).map (fO fs)) = T at *
      generalize f.length = fl at *
      have hw1 : IntKind.i64.wrap ((T : Int) + 1) = (T : Int) + 1 := by rw [IntKind.wrap_i64]; omega
      have hw2 : IntKind.i64.wrap ((T : Int) + 1 + (fl : Int)) = (T : Int) + 1 + (fl : Int) := by rw [IntKind.wrap_i64]; omega
      have hq1 : b1 < wr.heap.size := by omega
      have hq2 : b < wr.heap.size := by omega
      go_wp2
      go_roundw
      case rel => exact ⟨k + 1, by omega, by go_num, by rw [unhide HT2]; go_num, hb⟩
      case measure => simp [intOf]; omega
    · obtain rfl : k = R.length := by omega
      have Hf : Hid (tot ((R.take R.length).map (fO fs)) = tot (mF fs rs)) := by show _ = _; rw [List.take_length]; exact unhide Hsz
      go_wp2
      go_ret
      rw [unhide Hf]
      exact ⟨rfl, hbw3.trans (hb.mono (by omega))⟩

end Go.Proofs.Ytemjhdbmcdlpeaa

/- Walks: the document's answer: pair. -/
namespace Go.Proofs.Ytemjhdbmcdlpeaa
set_option linter.unusedSimpArgs false
set_option linter.unusedVariables false
open Go.RowKit

set_option maxRecDepth 100000 in
set_option maxHeartbeats 4000000 in
theorem pair_c (a1 a2 : Option Addr) (c1 c2 : Nat) (la lb : List V) (pf pt : Nat) (F T : List Int) (vf vt : Value) (w : World) (h1 : Vals pf w a1 la) (h2 : Vals pf w a2 lb) (hP : PS w pf pt F T vf vt) (hFT : F.length = T.length) (hln : F.length ≤ 1000) (hla : la.length ≤ 1000) :
    Calls Try.prog 49 #[.slice a1 la.length c1, .slice a2 lb.length c2, .pointer (some ⟨pf, 0, none⟩), .pointer (some ⟨pt, 0, none⟩)] w fun e w' => Below pf w w' ∧ ((e = .returned (.bool false) ∧ prun F T la lb = none) ∨
      (e = .returned (.bool true) ∧ ∃ F' T' vf' vt', prun F T la lb = some (F', T') ∧ F'.length = T'.length ∧ F'.length ≤ F.length + la.length ∧ PS w' pf pt F' T' vf' vt')) := by
  obtain ⟨i0, hi, hz0, hz1, hz2⟩ := info_parts Try.info3
  have hlt := hP.lt
  have hl1 := h1.1
  have hl2 := h2.1
  by_cases hl : la.length = lb.length
  · have d1 : ((la.length : Int) != (lb.length : Int)) = false := by simp [hl]
    have d2 : ((lb.length : Int) != (lb.length : Int)) = false := by simp
    rw [hl]
    have Hl := hide hl
    have hlb : lb.length ≤ 1000 := by omega
    have hle : la.length ≤ lb.length := by omega
    have hge : lb.length ≤ la.length := by omega
    clear hl
    have hgd := guard35
    go_enter Try.func49, Try.ntmps49
    go_wp2
    go_loopw [9] (fun i wr => ∃ (k : Nat) (F' T' : List Int) (vf' vt' : Value), k ≤ lb.length ∧ i = .int .i64 k ∧ Hid (prun F T la lb = prun F' T' (la.drop k) (lb.drop k)) ∧ Hid (F'.length = T'.length) ∧ F'.length ≤ F.length + k ∧ PS wr pf pt F' T' vf' vt' ∧ Below pf w wr) (fun i _ => lb.length - (intOf i).toNat)
    case atStart => exact ⟨0, F, T, vf, vt, Nat.zero_le _, rfl, rfl, hFT, by omega, hP, Below.refl _ _⟩
    case round =>
      clear hP
      obtain ⟨k, F', T', vf', vt', hk, rfl, Hrun, HFT, hFl, hP, hb⟩ := hrel
      have hszp := hP.sz
      by_cases hltk : k < lb.length
      · have hlt1 : k < la.length := by omega
        obtain ⟨b1, o1, r1, n1, rfl, hbB1, hx1, hx2, Hv1⟩ := (h1.below hb).at hlt1
        obtain ⟨b2, o2, r2, n2, rfl, hbB2, hy1, hy2, Hv2⟩ := (h2.below hb).at hltk
        have hltI : (k : Int) < (lb.length : Int) := by omega
        have Hst : Hid (prun F T la lb = (pstep F' T' (r1, n1) (r2, n2)).bind (fun s => prun s.1 s.2 (la.drop (k + 1)) (lb.drop (k + 1)))) := by
          show prun F T la lb = _
          rw [unhide Hrun, List.drop_eq_getElem_cons hlt1, List.drop_eq_getElem_cons hltk, Hv1.out, Hv2.out]; rfl
        clear Hrun Hv1 Hv2
        by_cases hrr : r1 = true ∧ r2 = true
        · obtain ⟨rfl, rfl⟩ := hrr
          obtain ⟨fa, fc, rfl, hIf, _⟩ := ints_of_owns hP.rf rfl (by omega)
          obtain ⟨ta, tc, rfl, hIt, _⟩ := ints_of_owns hP.rt rfl (by have := unhide HFT; omega)
          have e1 := hP.cf
          have e2 := hP.ct
          have hF3 : ∀ k, Calls Try.prog 16 #[.slice fa F'.length fc, .int .i64 n1] (wr.drewN k) fun e w' => e = .returned (.bool (decide (n1 ∈ F'))) ∧ w' = wr.drewN k := fun k => has_c fa fc F' n1 _ (wr.drewN k) hIf
          have hT3 : ∀ k, Calls Try.prog 16 #[.slice ta T'.length tc, .int .i64 n2] (wr.drewN k) fun e w' => e = .returned (.bool (decide (n2 ∈ T'))) ∧ w' = wr.drewN k := fun k => has_c ta tc T' n2 _ (wr.drewN k) hIt
          have Hst : Hid (prun F T la lb = ((if n1 ∈ F' then (if n2 ∈ T' then (if T'[F'.idxOf n1]? = some n2 then some (F', T') else none) else none) else (if n2 ∈ T' then none else some (F' ++ [n1], T' ++ [n2])))).bind (fun s => prun s.1 s.2 (la.drop (k + 1)) (lb.drop (k + 1)))) := by
            show prun F T la lb = _
            rw [unhide Hst, pstep, if_pos ⟨rfl, rfl⟩]
          by_cases m1 : n1 ∈ F' <;> by_cases m2 : n2 ∈ T'
          · have hlk : F'.idxOf n1 < T'.length := by have := List.idxOf_lt_length_iff.2 m1; have := unhide HFT; omega
            have HG := hide (List.getElem?_eq_getElem hlk)
            obtain ⟨bt, ot, rfl, hbt, hct⟩ := hIt.at hlk
            have hP3 : ∀ j k, Calls Try.prog 51 #[.slice fa F'.length fc, .int .i64 n1] ((wr.drewN j).drewN k) fun e w' => e = .returned (.int .i64 (F'.idxOf n1 : Int)) ∧ w' = (wr.drewN j).drewN k := fun j k => (place_c fa fc F' n1 _ ((wr.drewN j).drewN k) hIf).mono (by rintro e w' ⟨rfl, rfl⟩; rw [placeOf, if_pos m1]; exact ⟨rfl, rfl⟩)
            have hlkI : ((F'.idxOf n1 : Nat) : Int) < (T'.length : Int) := by omega
            simp only [m1, m2, decide_true] at hF3 hT3
            have Hst : Hid (prun F T la lb = (if T'[F'.idxOf n1]? = some n2 then some (F', T') else none).bind (fun s => prun s.1 s.2 (la.drop (k + 1)) (lb.drop (k + 1)))) := by
              show prun F T la lb = _
              rw [unhide Hst, if_pos m1, if_pos m2]
            clear m1 m2
            generalize F'.idxOf n1 = q at *
            generalize T'[q] = y at *
            by_cases hy : y = n2
            · have dy : (y != n2) = false := by simp [hy]
              have Hst : Hid (prun F T la lb = prun F' T' (la.drop (k + 1)) (lb.drop (k + 1))) := by
                show prun F T la lb = _
                rw [unhide Hst, unhide HG, hy, if_pos rfl]; rfl
              clear hy
              go_wp2
              go_quiet ((first | (go_at_call_of 16 fc; exact Calls.quiet_of_same (hF3 _)) | (go_at_call_of 16 tc; exact Calls.quiet_of_same (hT3 _))))
              have hP := hP.drewN nq
              have hb := below_drewN hb nq
              have hF4 := hF3 nq
              have hP4 := hP3 nq
              have hct4 : (wr.drewN nq).cell? _ = _ := hct
              clear hF3 hT3 hP3 hIf hIt hct e1 e2
              generalize wr.drewN nq = wq at *
              have e3 := hP.cf
              have e4 := hP.ct
              go_wp2_with (go_at_call 16; go_must (refine hF4.mono ?_); rintro e w3 ⟨rfl, hw3⟩; have hw3 := hw3.symm; subst hw3)
              go_quiet ((go_at_call 51; exact Calls.quiet_of_same (hP4 _)))
              go_wp2
              go_roundw
              case rel => exact ⟨k + 1, F', T', _, _, by omega, by go_num, Hst, HFT, by omega, hP.drewN _, below_drewN hb _⟩
              case measure => simp [intOf]; omega
            · have dy : (y != n2) = true := by simpa using hy
              have Hst : Hid (prun F T la lb = none) := by
                show prun F T la lb = _
                rw [unhide Hst, unhide HG, if_neg (by simpa using hy)]; rfl
              clear hy
              go_wp2
              go_quiet ((first | (go_at_call_of 16 fc; exact Calls.quiet_of_same (hF3 _)) | (go_at_call_of 16 tc; exact Calls.quiet_of_same (hT3 _))))
              have hP := hP.drewN nq
              have hb := below_drewN hb nq
              have hF4 := hF3 nq
              have hP4 := hP3 nq
              have hct4 : (wr.drewN nq).cell? _ = _ := hct
              clear hF3 hT3 hP3 hIf hIt hct e1 e2
              generalize wr.drewN nq = wq at *
              have e3 := hP.cf
              have e4 := hP.ct
              go_wp2_with (go_at_call 16; go_must (refine hF4.mono ?_); rintro e w3 ⟨rfl, hw3⟩; have hw3 := hw3.symm; subst hw3)
              go_quiet ((go_at_call 51; exact Calls.quiet_of_same (hP4 _)))
              go_wp2
              go_ret
              exact ⟨below_drewN hb _, .inl ⟨rfl, unhide Hst⟩⟩
          · simp only [m1, m2, decide_true, decide_false] at hF3 hT3
            have Hst : Hid (prun F T la lb = none) := by
              show prun F T la lb = _
              rw [unhide Hst, if_pos m1, if_neg m2]; rfl
            clear m1 m2
            go_wp2
            go_quiet ((first | (go_at_call_of 16 fc; exact Calls.quiet_of_same (hF3 _)) | (go_at_call_of 16 tc; exact Calls.quiet_of_same (hT3 _))))
            go_wp2
            go_ret
            exact ⟨below_drewN hb _, .inl ⟨rfl, unhide Hst⟩⟩
          · simp only [m1, m2, decide_true, decide_false] at hF3 hT3
            have Hst : Hid (prun F T la lb = none) := by
              show prun F T la lb = _
              rw [unhide Hst, if_neg m1, if_pos m2]; rfl
            clear m1 m2
            go_wp2
            go_quiet ((first | (go_at_call_of 16 fc; exact Calls.quiet_of_same (hF3 _)) | (go_at_call_of 16 tc; exact Calls.quiet_of_same (hT3 _))))
            go_wp2
            go_ret
            exact ⟨below_drewN hb _, .inl ⟨rfl, unhide Hst⟩⟩
          · simp only [m1, m2, decide_false] at hF3 hT3
            have Hst : Hid (prun F T la lb = prun (F' ++ [n1]) (T' ++ [n2]) (la.drop (k + 1)) (lb.drop (k + 1))) := by
              show prun F T la lb = _
              rw [unhide Hst, if_neg m1, if_neg m2]; rfl
            have Hm1 := hide m1
            clear m1 m2
            have hfl : T'.length ≤ F'.length := by have := unhide HFT; omega
            go_wp2
            go_quiet ((first | (go_at_call_of 16 fc; exact Calls.quiet_of_same (hF3 _)) | (go_at_call_of 16 tc; exact Calls.quiet_of_same (hT3 _))))
            have hP := hP.drewN nq
            have hb := below_drewN hb nq
            have hF4 := hF3 nq
            clear hF3 hT3
            generalize wr.drewN nq = wq at *
            have hqq := hP.sz
            have hqq' := hP.lt
            have e3 := hP.cf
            have e4 := hP.ct
            have e5 := hP.ff
            have e6 := hP.ft
            go_wp2_with (first
              | (go_at_call 16; go_must (refine hF4.mono ?_); rintro e w3 ⟨rfl, hw3⟩; have hw3 := hw3.symm; subst hw3)
              | (at_builtin; refine wpList_append_own_at _ rfl _ _ 38 rfl (pt + 1) 3 i0 _ 1 8 Try.underlying38 hi hz0 hz1 hz2 rfl (by decide) _ _ _ rfl ht3 _ 1 1 [.int .i64 n2] rfl rfl (cell_one_at _ _ _ _ (by simp)) (by simp [Value.oneCell']) (by simp only [maxLen]; omega) (by omega) (by simp; omega) ?_; go_must (intro v2 w3 ht4 hg3 _ hat3; obtain ⟨g2, cap2, hv2⟩ := ownsRow_succ ht4; subst hv2; have hb3 : Below (pt + 1) (w2.setCell ⟨pf, 0, none⟩ (.slice (some ⟨g1, 0, none⟩) (F'.length + 1) cap1)) w3 := ((Below.refl (pt + 1) _).alloc (by simp [World.setCell]; omega) (.cells #[.int .i64 n2] 3)).grown hg3 (by simp [World.setCell]; omega) (fun k e => (hP.rt.lt k e).1); have d3 := (hb3.cell (p := ⟨pt, 0, none⟩) (by simp)).trans d2; have d4 := (hb3.frozen (p := ⟨pt, 0, none⟩) (by simp)).trans ((World.frozen?_setCell _ _ _ _).trans c4)))
              | (at_builtin; go_must (refine wpList_append_own_at _ rfl _ _ 38 rfl (pt + 1) 3 i0 _ 1 8 Try.underlying38 hi hz0 hz1 hz2 rfl (by decide) _ _ _ rfl (hP.rf.alloc _) ⟨wq.heap.size, 0, none⟩ 1 1 [.int .i64 n1] rfl rfl (cell_one_at _ _ _ _ (by simp)) (by simp [Value.oneCell']) (by simp only [maxLen]; omega) (by omega) (by simp; omega) ?_); go_must (intro v1 w2 hf2 hg2 _ hat2; obtain ⟨g1, cap1, hv1⟩ := ownsRow_succ hf2; subst hv1; have hb2 : Below (pt + 1) wq w2 := ((Below.refl (pt + 1) wq).alloc (by omega) (.cells #[.int .i64 n1] 3)).grown hg2 (by simp; omega) (fun k e => (hP.rf.lt k e).1); have c1 := (hb2.cell (p := ⟨pf, 0, none⟩) (by simp; omega)).trans e3; have c2 := (hb2.cell (p := ⟨pt, 0, none⟩) (by simp)).trans e4; have c3 := (hb2.frozen (p := ⟨pf, 0, none⟩) (by simp; omega)).trans e5; have c4 := (hb2.frozen (p := ⟨pt, 0, none⟩) (by simp)).trans e6; have ht3 := (ownsRow_setCell_below ((hP.rt.alloc (.cells #[.int .i64 n1] 3)).kept hg2 (apart_inr hP.ap)) (a := ⟨pf, 0, none⟩) (by simp; omega) (.slice (some ⟨g1, 0, none⟩) (F'.length + 1) cap1)).alloc (.cells #[.int .i64 n2] 3); have hsw2 := hb2.size; have d2 : (w2.setCell ⟨pf, 0, none⟩ (.slice (some ⟨g1, 0, none⟩) (F'.length + 1) cap1)).cell? ⟨pt, 0, none⟩ = some (.slice ta T'.length tc) := (World.cell?_setCell_other _ _ _ _ (fun e => by injection e; omega)).trans c2)))
            obtain ⟨r1, r2⟩ := pair_step hP hf2 hg2 hat2 ht4 hg3 hat3
            have hlF : (F' ++ [n1]).length = F'.length + 1 := by simp
            have hlT : (T' ++ [n2]).length = T'.length + 1 := by simp
            obtain ⟨fa5, fc5, hv5, hIf5, _⟩ := ints_of_owns r1.rf rfl (by omega)
            obtain ⟨ta5, tc5, hv6, hIt5, _⟩ := ints_of_owns r1.rt rfl (by omega)
            have hlk : F'.length < (T' ++ [n2]).length := by have := unhide HFT; simp; omega
            have hget : (T' ++ [n2])[F'.length] = n2 := by have := unhide HFT; simp [this]
            have hgl : (F' ++ [n1]).idxOf n1 = F'.length := idxOf_first (k := F'.length) (by simp) (by simp) (by rw [List.take_left' rfl]; exact unhide Hm1)
            have hpl : placeOf (F' ++ [n1]) n1 = F'.length := by rw [placeOf, if_pos (by simp), hgl]
            obtain ⟨bt5, ot5, hta5, hbt5, hct5⟩ := hIt5.at hlk
            rw [hget] at hct5
            subst hta5
            injection hv5 with hv7 hv8 hv9
            injection hv6 with hv10 hv11 hv12
            injection hv10 with hv10
            injection hv10 with hv13 hv14
            subst hv7 hv9 hv12 hv13 hv14
            simp only [Nat.zero_add] at hct5
            have Hst := hide Hst
            have hlkI : (F'.length : Int) < ((T'.length + 1 : Nat) : Int) := by have := unhide HFT; omega
            have Hend : Hid (F'.length + 1 ≤ F.length + (k + 1)) := by show _ ≤ _; omega
            have HF5 : Hid ((F' ++ [n1]).length = (T' ++ [n2]).length) := by have := unhide HFT; show (F' ++ [n1]).length = _; simp; omega
            have hbX := hb.trans r2
            have hP5 : ∀ k, Calls Try.prog 51 #[.slice (some ⟨g1, 0, none⟩) (F'.length + 1) cap1, .int .i64 n1] (World.drewN (w3.setCell ⟨pt, 0, none⟩ (.slice (some ⟨g2, 0, none⟩) (T'.length + 1) cap2)) k) fun e w' => e = .returned (.int .i64 (F'.length : Int)) ∧ w' = World.drewN (w3.setCell ⟨pt, 0, none⟩ (.slice (some ⟨g2, 0, none⟩) (T'.length + 1) cap2)) k := fun k => by
              have := place_c (some ⟨g1, 0, none⟩) cap1 (F' ++ [n1]) n1 _ (World.drewN (w3.setCell ⟨pt, 0, none⟩ (.slice (some ⟨g2, 0, none⟩) (T'.length + 1) cap2)) k) hIf5
              rw [hpl, hlF] at this
              exact this
            have e7 := r1.cf
            have e8 := r1.ct
            clear hv8 hv11 hlk hIf5 hIt5 hget hgl hpl hlF hlT hf2 hg2 hat2 ht4 hg3 hat3 hb2 hb3 c1 c2 c3 c4 d2 d3 d4 ht3 e3 e4 e5 e6 hF4 hP r2 hb
            generalize w3.setCell ⟨pt, 0, none⟩ (.slice (some ⟨g2, 0, none⟩) (T'.length + 1) cap2) = wX at *
            go_quiet ((go_at_call 51; exact Calls.quiet_of_same (hP5 _)))
            go_wp2
            go_roundw
            case rel => exact ⟨k + 1, F' ++ [n1], T' ++ [n2], _, _, by omega, by go_num, unhide Hst, HF5, by have := unhide Hend; simp; omega, r1.drewN _, below_drewN hbX _⟩
            case measure => simp [intOf]; omega
        · have hE' : ∀ b, (r1 == r2 && n1 == n2) = b → ∀ w, (Op.equalIn 10000 64 (.agg #[.bool r1, .int .i64 n1]) (.agg #[.bool r2, .int .i64 n2])).run Try.prog w = .ok b w := fun b hb w => by rw [eql_in, hb]
          cases hE : (r1 == r2 && n1 == n2)
          · have he := hE' _ hE
            have Hno : Hid (prun F T la lb = none) := by
              show prun F T la lb = none
              rw [unhide Hst, pstep, if_neg hrr, if_neg (by intro e; injection e with e3 e4; subst e3 e4; simp at hE)]; rfl
            clear hE' hE
            cases r1
            · go_wp2
              go_still Try.mixed
              go_wp2
              go_ret
              exact ⟨hb.trans (Below.refl _ _).drew, .inl ⟨rfl, unhide Hno⟩⟩
            · cases r2
              · go_wp2
                go_still Try.mixed
                go_wp2
                go_ret
                exact ⟨hb.trans (Below.refl _ _).drew, .inl ⟨rfl, unhide Hno⟩⟩
              · exact absurd ⟨rfl, rfl⟩ hrr
          · have he := hE' _ hE
            have Hyes : Hid (prun F T la lb = prun F' T' (la.drop (k + 1)) (lb.drop (k + 1))) := by
              show prun F T la lb = _
              simp at hE
              obtain ⟨e3, e4⟩ := hE
              subst e3 e4
              rw [unhide Hst, pstep, if_neg hrr, if_pos rfl]; rfl
            have HEq : Hid (r1 = r2) := by simp at hE; exact hE.1
            clear hE' hE
            cases r1
            · cases r2
              · go_wp2
                go_still Try.mixed
                go_wp2
                go_roundw
                case rel => exact ⟨k + 1, F', T', vf', vt', by omega, by go_num, Hyes, HFT, by omega, hP.drew, hb.trans (Below.refl _ _).drew⟩
                case measure => simp [intOf]; omega
              · exact absurd (unhide HEq) (by simp)
            · cases r2
              · exact absurd (unhide HEq) (by simp)
              · exact absurd ⟨rfl, rfl⟩ hrr
      · obtain rfl : k = lb.length := by omega
        have Hfin : Hid (prun F T la lb = some (F', T')) := by
          show prun F T la lb = _
          rw [unhide Hrun, List.drop_length, List.drop_of_length_le hle]; rfl
        go_wp2
        go_ret
        exact ⟨hb, .inr ⟨rfl, F', T', vf', vt', unhide Hfin, unhide HFT, by omega, hP⟩⟩
  · have d1 : ((la.length : Int) != (lb.length : Int)) = true := by simp; omega
    go_enter Try.func49, Try.ntmps49
    go_wp2
    go_ret
    exact ⟨Below.refl _ _, .inl ⟨rfl, prun_len hl⟩⟩

end Go.Proofs.Ytemjhdbmcdlpeaa

/- Walks: the document's answer: Same. -/
namespace Go.Proofs.Ytemjhdbmcdlpeaa
set_option linter.unusedSimpArgs false
set_option linter.unusedVariables false
open Go.RowKit

theorem ps_start (w : World) (o1 o2 : Obj) : PS ((((w.alloc o1).alloc o2).alloc (.cells #[.slice none 0 0] 38)).alloc (.cells #[.slice none 0 0] 38)) (w.heap.size + 2) (w.heap.size + 3) [] [] (.slice none 0 0) (.slice none 0 0) := by
  refine ⟨by simp [go_sem], by simp [go_sem], by simp [go_sem], by simp [go_sem], World.ownsRow_nil _ _ _ _, World.ownsRow_nil _ _ _ _, fun k h => by simp [Value.ownBlock] at h, by omega⟩

theorem start_res {a b : Gr} {e : Ending} {w' : World} {pf pt : Nat} (h : (e = .returned (.bool false) ∧ prun [] [] a.roots b.roots = none) ∨
      (e = .returned (.bool true) ∧ ∃ F' T' vf' vt', prun [] [] a.roots b.roots = some (F', T') ∧ F'.length = T'.length ∧ F'.length ≤ ([] : List Int).length + a.roots.length ∧ PS w' pf pt F' T' vf' vt')) :
    ∃ r, e = .returned (.bool r) ∧ ((r = false ∧ Hid (sameN a b 256 = none)) ∨ (r = true ∧ ∃ F T vf vt, Hid (sameN a b 0 = some (F, T)) ∧ 0 ≤ F.length ∧ PS w' pf pt F T vf vt)) := by
  rcases h with ⟨rfl, hno⟩ | ⟨rfl, F, T, vf, vt, hsm, _, _, hP⟩
  · exact ⟨false, rfl, .inl ⟨rfl, sameN_none (k := 0) hno (by omega)⟩⟩
  · exact ⟨true, rfl, .inr ⟨rfl, F, T, vf, vt, hsm, Nat.zero_le _, hP⟩⟩

theorem prun_grows : ∀ {la lb : List V} {F T F' T' : List Int}, F.length = T.length → T.Nodup → prun F T la lb = some (F', T') → F.length ≤ F'.length := by
  intro la lb F T F' T' hl hT h
  rw [((prun_iff la lb F T F' T' hl hT).1 h).1]
  exact (insA_prefix la F).length_le

theorem round_res {a b : Gr} {e : Ending} {w' : World} {pf pt k : Nat} {F T : List Int} {la lb : List V} (hk : k < F.length) (hF : F.length ≤ 256) (hl : F.length = T.length) (hT : T.Nodup) (hst : sameN a b (k + 1) = prun F T la lb)
    (h : (e = .returned (.bool false) ∧ prun F T la lb = none) ∨
      (e = .returned (.bool true) ∧ ∃ F' T' vf' vt', prun F T la lb = some (F', T') ∧ F'.length = T'.length ∧ F'.length ≤ F.length + la.length ∧ PS w' pf pt F' T' vf' vt')) :
    ∃ r, e = .returned (.bool r) ∧ ((r = false ∧ Hid (sameN a b 256 = none)) ∨ (r = true ∧ ∃ F T vf vt, Hid (sameN a b (k + 1) = some (F, T)) ∧ k + 1 ≤ F.length ∧ PS w' pf pt F T vf vt)) := by
  rcases h with ⟨rfl, hno⟩ | ⟨rfl, F', T', vf, vt, hsm, _, _, hP⟩
  · exact ⟨false, rfl, .inl ⟨rfl, sameN_none (k := k + 1) (hst.trans hno) (by omega)⟩⟩
  · exact ⟨true, rfl, .inr ⟨rfl, F', T', vf, vt, hst.trans hsm, by have := prun_grows hl hT hsm; omega, hP⟩⟩

set_option maxRecDepth 100000 in
set_option maxHeartbeats 2000000 in
theorem refSame_c (ao ar bo br : Option Addr) (co cr do' dr : Nat) (a b : Gr) (B : Nat) (w : World) (ho : Objs B w ao a.objs) (hr : Vals B w ar a.roots) (ko : Objs B w bo b.objs) (kr : Vals B w br b.roots) (hB : B ≤ w.heap.size) (hA : Good a) (hG : Good b) :
    Calls Try.prog 34 #[.agg #[.slice ao a.objs.length co, .slice ar a.roots.length cr], .agg #[.slice bo b.objs.length do', .slice br b.roots.length dr]] w fun e w' => e = .returned (.bool (sameN a b 256).isSome) ∧ Below w.heap.size w w' := by
  have hn8 := hA.n8
  have hn24 := hA.n24
  obtain ⟨W0, hW0⟩ : ∃ W0, (((w.alloc (.cells #[.slice ao a.objs.length co, .slice ar a.roots.length cr] 43)).alloc (.cells #[.slice bo b.objs.length do', .slice br b.roots.length dr] 43)).alloc (.cells #[.slice none 0 0] 38)).alloc (.cells #[.slice none 0 0] 38) = W0 := ⟨_, rfl⟩
  have hb0 : Below w.heap.size w W0 := by rw [← hW0]; exact ((((Below.refl _ _).alloc (Nat.le_refl _) _).alloc (by simp) _).alloc (by simp; omega) _).alloc (by simp; omega) _
  have hs0 : w.heap.size + 3 < W0.heap.size := by rw [← hW0]; simp
  have g0 : W0.cell? ⟨w.heap.size, 0, none⟩ = some (.slice ao a.objs.length co) := by rw [← hW0]; simp [go_sem]
  have g1 : W0.cell? ⟨w.heap.size, 1, none⟩ = some (.slice ar a.roots.length cr) := by rw [← hW0]; simp [go_sem]
  have g2 : W0.cell? ⟨w.heap.size + 1, 0, none⟩ = some (.slice bo b.objs.length do') := by rw [← hW0]; simp [go_sem]
  have g3 : W0.cell? ⟨w.heap.size + 1, 1, none⟩ = some (.slice br b.roots.length dr) := by rw [← hW0]; simp [go_sem]
  have hP0 : PS W0 (w.heap.size + 2) (w.heap.size + 3) [] [] (.slice none 0 0) (.slice none 0 0) := by rw [← hW0]; exact ps_start _ _ _
  have hr0 : Vals (w.heap.size + 2) W0 ar a.roots := (hr.below (hb0.mono hB)).mono (by omega)
  have kr0 : Vals (w.heap.size + 2) W0 br b.roots := (kr.below (hb0.mono hB)).mono (by omega)
  go_enter Try.func34, Try.ntmps34
  go_wp2_with (go_at_call 49; clear hW0; go_must (refine (pair_c ar br cr dr a.roots b.roots (w.heap.size + 2) (w.heap.size + 3) [] [] _ _ W0 hr0 kr0 hP0 rfl (by simp) (by omega)).mono ?_); rintro e w1 ⟨hb1, hres⟩; obtain ⟨r, rfl, hq⟩ := start_res hres)
  have hlA : ∀ k, (searchN a k).1.length ≤ 256 := fun k => by have := (searchN_ok hA k).le; omega
  go_loopw [7, 8] (fun okv i wr => ∃ (k : Nat) (r : Bool), i = .int .i64 k ∧ okv = .bool r ∧ ((r = false ∧ Hid (sameN a b 256 = none)) ∨ (r = true ∧ ∃ F T vf vt, Hid (sameN a b k = some (F, T)) ∧ k ≤ F.length ∧ PS wr (w.heap.size + 2) (w.heap.size + 3) F T vf vt)) ∧ Below (w.heap.size + 2) W0 wr) (fun _ i _ => 256 - (intOf i).toNat)
  case atStart =>
    exact ⟨0, r, rfl, rfl, hq, hb1⟩
  case round =>
    clear hq hres hP0 hb1
    obtain ⟨k, r, rfl, rfl, hres, hb⟩ := hrel
    have hsz := hb.size
    have hbw : Below B w wr := (hb0.mono hB).trans (hb.mono (by omega))
    rcases hres with ⟨rfl, Hno⟩ | ⟨rfl, F, T, vf, vt, Hs, hk, hP⟩
    · go_wp2
      go_ret
      refine ⟨ret_bool (by rw [unhide Hno]; rfl), hb0.trans (hb.mono (by omega))⟩
    · have hfw := same_fwd hA hG k F T (unhide Hs)
      have hF24 : F.length ≤ 256 := by rw [hfw.1]; exact hlA k
      have hT24 : T.length ≤ 256 := by rw [← hfw.2.2.1]; exact hF24
      have q0 := (hb.cell (p := ⟨w.heap.size, 0, none⟩) (by simp)).trans g0
      have q2 := (hb.cell (p := ⟨w.heap.size + 1, 0, none⟩) (by simp)).trans g2
      have e1 := hP.cf
      have e2 := hP.ct
      by_cases hlt : k < F.length
      · have hlt2 : k < T.length := by rw [← hfw.2.2.1]; exact hlt
        obtain ⟨ga, ca, rfl, hx1, hgl1⟩ := ints_at hP.rf hlt
        obtain ⟨gb, cb, rfl, hx2, hgl2⟩ := ints_at hP.rt hlt2
        have hxr : 0 ≤ F[k] ∧ F[k] < a.objs.length := (searchN_ok hA k).rng _ (by rw [← hfw.1]; exact List.getElem_mem hlt)
        have hyr : 0 ≤ T[k] ∧ T[k] < b.objs.length := (searchN_ok hG k).rng _ (by rw [← hfw.2.1]; exact List.getElem_mem hlt2)
        have HFT := hide hfw.2.2.1
        have HTn : Hid T.Nodup := by show T.Nodup; rw [hfw.2.1]; exact (searchN_ok hG k).nd
        have Hst : Hid (sameN a b (k + 1) = prun F T (fieldsOf a F[k]) (fieldsOf b T[k])) := by
          show sameN a b (k + 1) = _
          simp only [sameN]; rw [unhide Hs]; simp only [Option.bind_some]; rw [List.getElem?_eq_getElem hlt, List.getElem?_eq_getElem hlt2]
        clear hfw Hs
        generalize F[k] = x at *
        generalize T[k] = y at *
        obtain ⟨x, rfl⟩ := Int.eq_ofNat_of_zero_le hxr.1
        obtain ⟨y, rfl⟩ := Int.eq_ofNat_of_zero_le hyr.1
        have hxN : x < a.objs.length := by omega
        have hyN : y < b.objs.length := by omega
        obtain ⟨b1, o1, a1, c1, rfl, hbB1, hcb1, hva1⟩ := (ho.below hbw).at hxN
        obtain ⟨b2, o2, a2, c2, rfl, hbB2, hcb2, hva2⟩ := (ko.below hbw).at hyN
        have hl4 := hA.n4 _ (List.getElem_mem hxN)
        have Hst : Hid (sameN a b (k + 1) = prun F T a.objs[x] b.objs[y]) := by
          show sameN a b (k + 1) = _
          rw [unhide Hst]; simp [fieldsOf, hxN, hyN]
        generalize a.objs[x] = la at *
        generalize b.objs[y] = lb at *
        have i1 : (k : Int) < (F.length : Int) := by omega
        have i2 : (k : Int) < (T.length : Int) := by omega
        have i3 : (x : Int) < (a.objs.length : Int) := by omega
        have i4 : (y : Int) < (b.objs.length : Int) := by omega
        go_wp2
        go_still_tail 18, Try.mixed
        go_wp2_with (go_at_call 49; go_must (refine (pair_c a1 a2 c1 c2 la lb (w.heap.size + 2) (w.heap.size + 3) F T _ _ _ ((hva1.mono (by omega)).below (Below.refl _ _).drew) ((hva2.mono (by omega)).below (Below.refl _ _).drew) hP.drew (unhide HFT) (by omega) (by omega)).mono ?_); rintro e w3 ⟨hb3, hres⟩; obtain ⟨r, rfl, hq⟩ := round_res hlt hF24 (unhide HFT) (unhide HTn) (unhide Hst) hres)
        go_roundw
        case rel => exact ⟨k + 1, r, by go_num, rfl, hq, hb.trans ((Below.refl _ _).drew.trans hb3)⟩
        case measure => simp [intOf]; omega
      · have Hfin := hide (sameN_stay (m := 256) (unhide Hs) (by omega) (by omega))
        obtain ⟨fa, fc, rfl⟩ := ownsRow_slice hP.rf
        obtain rfl : k = F.length := by omega
        clear hfw
        go_wp2
        go_ret
        refine ⟨ret_bool (by rw [unhide Hfin]; rfl), hb0.trans (hb.mono (by omega))⟩

end Go.Proofs.Ytemjhdbmcdlpeaa

/- Walks: the law's left. -/
namespace Go.Proofs.Ytemjhdbmcdlpeaa
set_option linter.unusedSimpArgs false
set_option linter.unusedVariables false
open Go.RowKit Go.Shelf

theorem step_call_w {P : Program} {ops : Array Oper} {o : Oper} {a : Act} {w : World} {K : Act → World → Prop} {Q : Exit → Act → World → Prop} {E : Prop} (hw : Region.wanted o (yielded ops a.tmps) = true) (f : FuncId) (args : Array Value)
    (hex : (execOp a.eval o).run P w = .ok (.enter f args) w) (R : Value → World → Prop) (hc : Calls P f args w fun e w' => ∃ v, e = .returned v ∧ R v w') (hK : ∀ v w', R v w' → K (a.put o.dst v) w') :
    if Region.wanted o (yielded ops a.tmps) = true then Oper.wp P o a w K Q else E := by
  rw [if_pos hw]
  unfold Oper.wp
  rw [hex, Oper.upon_enter]
  refine hc.mono ?_
  rintro e w' ⟨v, rfl, hr⟩
  exact hK v w' hr

/-- What Read hands back. -/
def RdP (X : World) (fs : List (List Int)) (rs : List Int) (v : Value) (W : World) : Prop :=
  ∃ ao co ar cr, v = .agg #[.slice ao (readG fs rs).objs.length co, .slice ar (readG fs rs).roots.length cr] ∧ Objs W.heap.size W ao (readG fs rs).objs ∧ Vals W.heap.size W ar (readG fs rs).roots ∧ Below X.heap.size X W

theorem read_p (aw ar : Option Addr) (cw cr : Nat) (ws rs : List Int) (hs : List Int) (fs : List (List Int)) (B : Nat) (X : World) (hW : Wds B X aw ws) (hR : Wds B X ar rs) (hUW : U64 ws) (hUR : U64 rs) (hB : B ≤ X.heap.size) (hA : Arn hs fs rs) (hws : ws = joinW hs fs) :
    Calls Try.prog 15 #[.agg #[.slice aw ws.length cw, .slice ar rs.length cr]] X fun e w' => ∃ v, e = .returned v ∧ RdP X fs rs v w' := by
  have hsp : splitR ws = some fs := by rw [hws]; exact fit_split hA.fit
  have h256 : ws.length ≤ 256 := by rw [hws, joinW_len _ _ hA.fit.len]; exact hA.n256
  refine (rread_c aw ar cw cr ws rs fs B X hW hR hUW hUR hB h256 hA.n8 hsp).mono ?_
  rintro e w' ⟨⟨ao, co, ar', cr', he, hO, hV⟩, hb⟩
  exact ⟨_, he, ao, co, ar', cr', rfl, hO, hV, hb⟩

set_option maxRecDepth 100000 in
set_option maxHeartbeats 8000000 in
theorem left_c (bw br aw ar : Option Addr) (dw dr cw cr : Nat) (vs us ws rs : List Int) (hs' : List Int) (fs' : List (List Int)) (hs : List Int) (fs : List (List Int)) (B : Nat) (w : World) (hV : Wds B w bw vs) (hU : Wds B w br us) (hW : Wds B w aw ws) (hR : Wds B w ar rs) (hB : B ≤ w.heap.size)
    (hA' : Arn hs' fs' us) (hvs : vs = joinW hs' fs') (hA : Arn hs fs rs) (hws : ws = joinW hs fs) (hlen : vs.length = tot (mF fs rs)) (hsame : canonG (readG fs' us) = canonG (readG fs rs)) :
    Calls Try.prog 13 #[.agg #[.slice bw vs.length dw, .slice br us.length dr], .agg #[.slice aw ws.length cw, .slice ar rs.length cr]] w fun e w' => e = .returned (.bool true) ∧ Below w.heap.size w w' := by
  have hUV : U64 vs := by rw [hvs]; exact joinW_u64 hA' hA'.fit
  have hUW : U64 ws := by rw [hws]; exact joinW_u64 hA hA.fit
  obtain ⟨W0, hW0⟩ : ∃ W0, (w.alloc (.cells #[.slice bw vs.length dw, .slice br us.length dr] 24)).alloc (.cells #[.slice aw ws.length cw, .slice ar rs.length cr] 24) = W0 := ⟨_, rfl⟩
  have hb0 : Below w.heap.size w W0 := by rw [← hW0]; exact ((Below.refl w.heap.size w).alloc (Nat.le_refl _) _).alloc (by simp) _
  have hs0 : w.heap.size + 1 < W0.heap.size := by rw [← hW0]; simp
  have hs0' : w.heap.size < W0.heap.size := by omega
  have k0 : W0.cell? ⟨w.heap.size, 0, none⟩ = some (.slice bw vs.length dw) := by rw [← hW0]; simp [go_sem]
  have k1 : W0.cell? ⟨w.heap.size, 1, none⟩ = some (.slice br us.length dr) := by rw [← hW0]; simp [go_sem]
  have g0 : W0.cell? ⟨w.heap.size + 1, 0, none⟩ = some (.slice aw ws.length cw) := by rw [← hW0]; simp [go_sem]
  have g1 : W0.cell? ⟨w.heap.size + 1, 1, none⟩ = some (.slice ar rs.length cr) := by rw [← hW0]; simp [go_sem]
  have HcS : Hid (∀ X, Below W0.heap.size W0 X → Calls Try.prog 11 #[.agg #[.slice bw vs.length dw, .slice br us.length dr]] X fun e w' => ∃ v, e = .returned v ∧ v = .bool true ∧ Below X.heap.size X w') := by
    intro X hb
    have hbX : Below w.heap.size w X := hb0.trans (hb.mono (by omega))
    refine (sound_c bw br dw dr vs us B X (hV.below (hbX.mono hB)) (hU.below (hbX.mono hB)) hUV hA'.ur (by have := hbX.size; omega)).mono ?_
    rintro e w' ⟨rfl, h⟩
    have hE := hA'.check
    rw [← hvs] at hE
    exact ⟨_, rfl, by rw [hE]; rfl, h⟩
  have HcZ : Hid (∀ X, Below W0.heap.size W0 X → Calls Try.prog 18 #[.agg #[.slice aw ws.length cw, .slice ar rs.length cr]] X fun e w' => ∃ v, e = .returned v ∧ v = .int .i64 (vs.length : Nat) ∧ Below X.heap.size X w') := by
    intro X hb
    have hbX : Below w.heap.size w X := hb0.trans (hb.mono (by omega))
    refine (size_c aw ar cw cr ws rs hs fs B X (hW.below (hbX.mono hB)) (hR.below (hbX.mono hB)) hUW hA.ur (by have := hbX.size; omega) hA hws).mono ?_
    rintro e w' ⟨rfl, h⟩
    exact ⟨_, rfl, by rw [hlen], h⟩
  have HcB : Hid (∀ X, Below W0.heap.size W0 X → Calls Try.prog 15 #[.agg #[.slice bw vs.length dw, .slice br us.length dr]] X fun e w' => ∃ v, e = .returned v ∧ RdP X fs' us v w') := by
    intro X hb
    have hbX : Below w.heap.size w X := hb0.trans (hb.mono (by omega))
    exact read_p bw br dw dr vs us hs' fs' B X (hV.below (hbX.mono hB)) (hU.below (hbX.mono hB)) hUV hA'.ur (by have := hbX.size; omega) hA' hvs
  have HcA : Hid (∀ X, Below W0.heap.size W0 X → Calls Try.prog 15 #[.agg #[.slice aw ws.length cw, .slice ar rs.length cr]] X fun e w' => ∃ v, e = .returned v ∧ RdP X fs rs v w') := by
    intro X hb
    have hbX : Below w.heap.size w X := hb0.trans (hb.mono (by omega))
    exact read_p aw ar cw cr ws rs hs fs B X (hW.below (hbX.mono hB)) (hR.below (hbX.mono hB)) hUW hA.ur (by have := hbX.size; omega) hA hws
  have hG' := good_read hA'
  have hG := good_read hA
  have hsm : (sameN (readG fs' us) (readG fs rs) 256).isSome = true := (same_iff hG' hG).2 hsame
  have HcM : Hid (∀ (X : World) ao ar co cr bo br do' dr, Objs X.heap.size X ao (readG fs' us).objs → Vals X.heap.size X ar (readG fs' us).roots → Objs X.heap.size X bo (readG fs rs).objs → Vals X.heap.size X br (readG fs rs).roots →
      Calls Try.prog 34 #[.agg #[.slice ao (readG fs' us).objs.length co, .slice ar (readG fs' us).roots.length cr], .agg #[.slice bo (readG fs rs).objs.length do', .slice br (readG fs rs).roots.length dr]] X fun e w' => ∃ v, e = .returned v ∧ v = .bool true ∧ Below X.heap.size X w') := by
    intro X ao ar co cr bo br do' dr h1 h2 h3 h4
    refine (refSame_c ao ar bo br co cr do' dr (readG fs' us) (readG fs rs) X.heap.size X h1 h2 h3 h4 (Nat.le_refl _) hG' hG).mono ?_
    rintro e w' ⟨rfl, h⟩
    exact ⟨_, rfl, by rw [hsm], h⟩
  clear hsm hG hG' hsame hlen hws hA hvs hA' hV hU hW hR hUV hUW
  have hbd : Below W0.heap.size W0 W0.drew := (Below.refl _ _).drew
  go_enter Try.func13, Try.ntmps13
  go_wp2_with fail
  clear hW0
  go_region_law (first
    | (refine step_call rfl 11 #[.agg #[.slice bw vs.length dw, .slice br us.length dr]] (by go_simp) (fun v w' => v = .bool true ∧ Below W0.drew.heap.size W0.drew w') (unhide HcS _ hbd) ?_; rintro vS w1 ⟨rfl, hbS⟩; have hb1 : Below W0.heap.size W0 w1 := hbd.trans hbS; have k0p := (hb1.cell (p := ⟨w.heap.size, 0, none⟩) hs0').trans k0; have k1p := (hb1.cell (p := ⟨w.heap.size, 1, none⟩) hs0').trans k1; have g0p := (hb1.cell (p := ⟨w.heap.size + 1, 0, none⟩) hs0).trans g0; have g1p := (hb1.cell (p := ⟨w.heap.size + 1, 1, none⟩) hs0).trans g1; have lap : w.heap.size < w1.heap.size := Nat.lt_of_lt_of_le hs0' hb1.size; have lbp : w.heap.size + 1 < w1.heap.size := Nat.lt_of_lt_of_le hs0 hb1.size)
    | (refine step_call_w (by rfl) 18 #[.agg #[.slice aw ws.length cw, .slice ar rs.length cr]] (by go_simp) (fun v w' => v = .int .i64 (vs.length : Nat) ∧ Below w1.heap.size w1 w') (unhide HcZ _ hb1) ?_; rintro vZ w2 ⟨rfl, hbZ⟩; have hb2 : Below W0.heap.size W0 w2 := hb1.trans (hbZ.mono hb1.size); have k0q := (hb2.cell (p := ⟨w.heap.size, 0, none⟩) hs0').trans k0; have k1q := (hb2.cell (p := ⟨w.heap.size, 1, none⟩) hs0').trans k1; have g0q := (hb2.cell (p := ⟨w.heap.size + 1, 0, none⟩) hs0).trans g0; have g1q := (hb2.cell (p := ⟨w.heap.size + 1, 1, none⟩) hs0).trans g1; have laq : w.heap.size < w2.heap.size := Nat.lt_of_lt_of_le hs0' hb2.size; have lbq : w.heap.size + 1 < w2.heap.size := Nat.lt_of_lt_of_le hs0 hb2.size)
    | (refine step_call_w (by rfl) 15 #[.agg #[.slice bw vs.length dw, .slice br us.length dr]] (by go_simp) (fun v w' => RdP w2 fs' us v w') (unhide HcB _ hb2) ?_; rintro vB w3 ⟨bo, bc, b2, b3, rfl, hOB, hVB, hbB⟩; have hb3 : Below W0.heap.size W0 w3 := hb2.trans (hbB.mono hb2.size); have g0r := (hb3.cell (p := ⟨w.heap.size + 1, 0, none⟩) hs0).trans g0; have g1r := (hb3.cell (p := ⟨w.heap.size + 1, 1, none⟩) hs0).trans g1; have lar : w.heap.size < w3.heap.size := Nat.lt_of_lt_of_le hs0' hb3.size; have lbr : w.heap.size + 1 < w3.heap.size := Nat.lt_of_lt_of_le hs0 hb3.size)
    | (refine step_call_w (by rfl) 34 #[.agg #[.slice bo (readG fs' us).objs.length bc, .slice b2 (readG fs' us).roots.length b3], .agg #[.slice ao (readG fs rs).objs.length ac, .slice a2 (readG fs rs).roots.length a3]] (by go_simp) (fun v w' => v = .bool true ∧ Below w4.heap.size w4 w') (unhide HM) ?_; rintro vM w5 ⟨rfl, hbM⟩; have hb5 : Below W0.heap.size W0 w5 := hb4.trans (hbM.mono hb4.size))
    | (refine step_call_w (by rfl) 15 #[.agg #[.slice aw ws.length cw, .slice ar rs.length cr]] (by go_simp) (fun v w' => RdP w3 fs rs v w') (unhide HcA _ hb3) ?_; rintro vA w4 ⟨ao, ac, a2, a3, rfl, hOA, hVA, hbA⟩; have hb4 : Below W0.heap.size W0 w4 := hb3.trans (hbA.mono hb3.size); have hOB4 := (hOB.below hbA).mono hbA.size; have hVB4 := (hVB.below hbA).mono hbA.size; have HM := hide (unhide HcM w4 bo b2 bc b3 ao a2 ac a3 hOB4 hVB4 hOA hVA)))
  all_goals
    go_wp2
    go_ret
    exact ⟨rfl, hb0.trans (hb5.mono (by omega))⟩

end Go.Proofs.Ytemjhdbmcdlpeaa

/- Walks: Slide's closure. -/
namespace Go.Proofs.Ytemjhdbmcdlpeaa
set_option linter.unusedSimpArgs false
set_option linter.unusedVariables false
open Go.RowKit Go.Shelf

theorem wordsV_one (l : List Int) : ∀ u ∈ wordsV l, u.oneCell' = true := by
  intro u hu
  simp only [wordsV, List.mem_map] at hu
  obtain ⟨z, _, rfl⟩ := hu
  rfl

theorem wds_at {w : World} {B b : Nat} {l : List Int} (h : Wds B w (some ⟨b, 0, none⟩) l) : ∀ j u, (wordsV l)[j]? = some u → w.cell? ((⟨b, 0, none⟩ : Addr).add j) = some u := by
  intro j u hj
  obtain ⟨b', off, e, _, hc⟩ := h.2 (by rintro rfl; simp [wordsV] at hj)
  have e' := Option.some.inj e
  rw [e', Go.WideShapes.add_plain]
  simp only [wordsV, List.getElem?_map, Option.map_eq_some_iff] at hj
  obtain ⟨x, hx, rfl⟩ := hj
  exact hc j x hx

/-- The arena that is made, behind the first append and its store. -/
def SlP (w5 : World) (db : Nat) (vo : Value) (W : World) (v' : Value) : Prop :=
  w5.grownBy W (some db) ∧ W.cell? ⟨db, 0, none⟩ = some v' ∧ W.cell? ⟨db, 1, none⟩ = some vo ∧ (∀ j, W.frozen? ⟨db, j, none⟩ = false) ∧ (∃ cs, W.heap[db]? = some (.cells cs 24))

theorem sl_below {w5 W W' : World} {db : Nat} {vo v : Value} (h : SlP w5 db vo W v) (hb : Below W.heap.size W W') : SlP w5 db vo W' v := by
  have hl : db < W.heap.size := World.block_lt_of_cell? W _ h.2.1
  refine ⟨gb_below h.1 hb, (hb.cell (p := ⟨db, 0, none⟩) hl).trans h.2.1, (hb.cell (p := ⟨db, 1, none⟩) hl).trans h.2.2.1, fun j => (hb.frozen (p := ⟨db, j, none⟩) hl).trans (h.2.2.2.1 j), ?_⟩
  obtain ⟨cs, hc⟩ := h.2.2.2.2
  exact ⟨cs, (hb.block db hl).trans hc⟩

theorem sl_push {w5 W w1 : World} {db n : Nat} {vo v : Value} {xs : List Value} (h : SlP w5 db vo W v) (hr : W.ownsRow w5.heap.size 56 1 v n xs) (hg : W.grownBy w1 v.ownBlock) (hlt : db < w5.heap.size) : w1.cell? ⟨db, 0, none⟩ = some v ∧ (∀ j, w1.frozen? ⟨db, j, none⟩ = false) ∧ db < w1.heap.size ∧ ∀ v', SlP w5 db vo (w1.setCell ⟨db, 0, none⟩ v') v' := by
  have hl : db < W.heap.size := World.block_lt_of_cell? W _ h.2.1
  have hne : some db ≠ v.ownBlock := fun e => by have := (hr.lt db e.symm).1; omega
  have hbk := hg.block db hl hne
  obtain ⟨cs, hc⟩ := h.2.2.2.2
  have c0 := (World.cell?_of_block (a := ⟨db, 0, none⟩) hbk).trans h.2.1
  refine ⟨c0, fun j => (World.frozen?_of_block (a := ⟨db, j, none⟩) hbk).trans (h.2.2.2.1 j), Nat.lt_of_lt_of_le hl hg.size, fun v' => ⟨gb_set (gb_grown h.1 hg (fun k e => (hr.lt k e).1)) (.inl rfl) 0 v', World.cell?_setCell_same' _ _ _ (by rw [c0]; rfl), ?_, fun j => ?_, ⟨_, heap_setCell_same w1 db 0 cs 24 _ (hbk.trans hc)⟩⟩⟩
  · rw [World.cell?_setCell_other _ _ _ _ (by simp)]; exact (World.cell?_of_block (a := ⟨db, 1, none⟩) hbk).trans h.2.2.1
  · rw [World.frozen?_setCell]; exact (World.frozen?_of_block (a := ⟨db, j, none⟩) hbk).trans (h.2.2.2.1 j)

theorem wds_gb {w5 W : World} {db wb o : Nat} {l : List Int} (h : Wds w5.heap.size w5 (some ⟨wb, o, none⟩) l) (hg : w5.grownBy W (some db)) (hne : wb ≠ db) : Wds W.heap.size W (some ⟨wb, o, none⟩) l := by
  refine ⟨h.1, fun hn => ?_⟩
  obtain ⟨b, off, e, hB, hc⟩ := h.2 hn
  have e' := e
  injection e' with e'
  injection e' with e1 e2
  subst e1 e2
  exact ⟨_, _, rfl, Nat.lt_of_lt_of_le hB hg.size, fun k v hk => gb_cell hg hB hne _ (hc k v hk)⟩

end Go.Proofs.Ytemjhdbmcdlpeaa

/- Walks: fields. -/
namespace Go.Proofs.Ytemjhdbmcdlpeaa
set_option linter.unusedSimpArgs false
set_option linter.unusedVariables false
open Go.RowKit Go.Shelf
attribute [local go_sem] field51_0 field51_1

def FldRes (wb p l : Nat) (e : Ending) : Prop := ∃ a c, e = .returned (.slice a l c) ∧ (0 < l → a = some ⟨wb, p + 1, none⟩)

set_option maxRecDepth 100000 in
set_option maxHeartbeats 2000000 in
theorem fields_c (mb wb n cap p : Nat) (x : Int) (w : World) (h0 : w.cell? ⟨mb, 0, none⟩ = some (.slice (some ⟨wb, 0, none⟩) n cap)) (hx : w.cell? ⟨wb, p, none⟩ = some (.int .u64 x)) (hn : n ≤ 256) (hcap : n ≤ cap) (h1 : 0 ≤ x) (h2 : x < 18446744073709551616)
    (hk : unheadOk x = true) (hend : p + 1 + wlen x ≤ n) :
    Calls Try.prog 64 #[.pointer (some ⟨mb, 0, none⟩), .int .i64 (p : Nat)] w fun e w' => FldRes wb p (wlen x) e ∧ Below w.heap.size w w' := by
  have hlm : mb < w.heap.size := World.block_lt_of_cell? w _ h0
  have hlw : wb < w.heap.size := World.block_lt_of_cell? w _ hx
  have HL := hide (uhL_wlen hk)
  have hp : p < n := by omega
  have h4 := wlen_le hk
  have Hh := hide (header_c mb wb n cap p x w.drew h0 hx hp hn h1 h2)
  have w1 : IntKind.i64.wrap ((p : Int) + 1) = (p : Int) + 1 := by rw [IntKind.wrap_i64]; omega
  clear hk
  generalize wlen x = l at *
  by_cases hcp : cap = p + 1
  · subst hcp
    obtain rfl : l = 0 := by omega
    go_enter Try.func64, Try.ntmps64
    go_wp2
    go_region_with (go_at_call 63; go_must (refine (unhide Hh).mono ?_); go_must (rintro e w2 ⟨he, hb2⟩; rw [unhide HL] at he; subst he; have k0 := (hb2.cell (p := ⟨mb, 0, none⟩) hlm).trans h0))
    all_goals
      go_wp2
      go_ret
      exact ⟨⟨_, _, rfl, fun h => absurd h (by omega)⟩, (Below.refl _ w).drew.trans hb2⟩
  · have hcp1 : p + 1 < cap := by omega
    go_enter Try.func64, Try.ntmps64
    go_wp2
    go_region_with (go_at_call 63; go_must (refine (unhide Hh).mono ?_); go_must (rintro e w2 ⟨he, hb2⟩; rw [unhide HL] at he; subst he; have k0 := (hb2.cell (p := ⟨mb, 0, none⟩) hlm).trans h0))
    all_goals
      go_wp2
      go_ret
      exact ⟨⟨_, _, rfl, fun _ => by simp⟩, (Below.refl _ w).drew.trans hb2⟩

end Go.Proofs.Ytemjhdbmcdlpeaa

/- Walks: take, climb. -/
namespace Go.Proofs.Ytemjhdbmcdlpeaa
set_option linter.unusedSimpArgs false
set_option linter.unusedVariables false
open Go.RowKit Go.Shelf
attribute [local go_sem] field51_0 field51_1

/-- The places of objects. -/
def plc (fs : List (List Int)) (K : List Nat) : List Int := K.map fun i => ((tot (fs.take i) : Nat) : Int)
theorem plc_snoc (fs : List (List Int)) (K : List Nat) (i : Nat) : plc fs (K ++ [i]) = plc fs K ++ [((tot (fs.take i) : Nat) : Int)] := by simp [plc]
theorem plc_len (fs : List (List Int)) (K : List Nat) : (plc fs K).length = K.length := by simp [plc]

/-- A marker of an arena: which objects are marked, which are kept. -/
def MkA (W : World) (N mb : Nat) (vw vr : Value) (hs : List Int) (fs : List (List Int)) (rs : List Int) (room : Nat) (p : Nat → Bool) (K : List Nat) (lost : Bool) : Prop := ∃ vk, Mk W N mb vw vr vk (mW hs fs p) rs (plc fs K) room lost

theorem MkA.below {W W' : World} {N mb : Nat} {vw vr : Value} {hs : List Int} {fs : List (List Int)} {rs : List Int} {room : Nat} {p : Nat → Bool} {K : List Nat} {lost : Bool} (h : MkA W N mb vw vr hs fs rs room p K lost) (hb : Below W.heap.size W W') : MkA W' N mb vw vr hs fs rs room p K lost := by
  obtain ⟨vk, h⟩ := h
  exact ⟨vk, h.below hb⟩

/-- What take leaves. -/
def TkRes (N mb : Nat) (vw vr : Value) (hs : List Int) (fs : List (List Int)) (rs : List Int) (room : Nat) (p : Nat → Bool) (K : List Nat) (lost : Bool) (i : Nat) (W : World) : Prop :=
  (K.length = room ∧ MkA W N mb vw vr hs fs rs room (upd p i) K true) ∨ (K.length ≠ room ∧ MkA W N mb vw vr hs fs rs room (upd p i) (K ++ [i]) lost)

set_option maxRecDepth 100000 in
set_option maxHeartbeats 2000000 in
theorem take_c (hs : List Int) (fs : List (List Int)) (rs : List Int) (p : Nat → Bool) (K : List Nat) (N mb : Nat) (vw vr : Value) (room i : Nat) (lost : Bool) (w : World)
    (hM : MkA w N mb vw vr hs fs rs room p K lost) (hF : Fit hs fs) (h256 : tot fs ≤ 256) (hroom : room ≤ 64) (hK : K.length ≤ room) (hi : i < fs.length) :
    Calls Try.prog 56 #[.pointer (some ⟨mb, 0, none⟩), .int .i64 (tot (fs.take i) : Nat)] w fun e w' => (e = .returned (.tuple #[]) ∧ TkRes N mb vw vr hs fs rs room p K lost i w') ∧ Below N w w' ∧ KeepT w w' := by
  obtain ⟨i0, hi0, hz0, hz1, hz2⟩ := info_parts Try.info3
  obtain ⟨vk, hM⟩ := hM
  have hpl := place_lt hi
  have hml := mW_len hF p
  obtain ⟨wb, cap, hvw, hwN, hwb, hcap⟩ := hM.words (by rw [hml]; omega)
  rw [hml] at hvw hcap
  subst hvw
  obtain ⟨x, hx, hx1, hx2, hx3, hx4⟩ := fit_at hF hi
  have hr2 := reh_ok (p i) x
  have hmg := mW_get hF p hx
  have hNw : N ≤ w.heap.size := by omega
  have Hh := hide (header_c mb wb (tot fs) cap _ _ w hM.box.c0 (hM.wcell hml.symm hmg).1 hpl h256 hr2.2.2.2.2.1 hr2.2.2.2.2.2)
  have Hset : Hid (∀ W, Below w.heap.size w W → Calls Try.prog 54 #[.pointer (some ⟨mb, 0, none⟩), .int .i64 (tot (fs.take i) : Nat), .agg #[.int .i64 (uhL (reh (p i) x)), .bool (uhM (reh (p i) x)), .int .i64 (uhA (reh (p i) x))], .bool true] W fun e w' => e = .returned (.tuple #[]) ∧ Mk w' N mb (.slice (some ⟨wb, 0, none⟩) (tot fs) cap) vr vk (mW hs fs (upd p i)) rs (plc fs K) room lost ∧ Below N W w' ∧ KeepT W w') := fun W hbW => by
    have hMW := hM.below hbW
    refine (set_w mb wb (tot fs) cap _ _ _ _ _ true W hMW.box.c0 (hMW.wcell hml.symm hmg).1 (hMW.wcell hml.symm hmg).2 hpl h256).mono ?_
    rintro e w' ⟨rfl, w1, hb1, rfl⟩
    refine ⟨rfl, ?_, ?_, (KeepT.below hb1).setCell (ty_row (by have := (hMW.below hb1).wo; rw [hml] at this; exact this)) (.inl rfl) _⟩
    · have := (hMW.below hb1).setW hml.symm (tot (fs.take i)) (headW (uhL (reh (p i) x)) true (uhA (reh (p i) x)))
      rw [show headW (uhL (reh (p i) x)) true (uhA (reh (p i) x)) = reh true x from by rw [hr2.2.1, hr2.2.2.2.1]; rfl, mW_set hF p hx] at this
      rw [hr2.2.1, hr2.2.2.2.1]
      exact this
    · exact (hb1.mono (by have := hbW.size; omega)).setCell (p := ⟨wb, tot (fs.take i), none⟩) hwN _
  have Hpl : Hid (plc fs (K ++ [i]) = plc fs K ++ [((tot (fs.take i) : Nat) : Int)]) := plc_snoc fs K i
  have Hkl : Hid ((plc fs K).length = K.length) := plc_len fs K
  clear hM hmg hml hr2 hx hx1 hx2 hx3 hx4
  generalize uhL (reh (p i) x) = L at *
  generalize uhM (reh (p i) x) = M at *
  generalize uhA (reh (p i) x) = A at *
  generalize hpp : tot (fs.take i) = pl at *
  clear hpp
  generalize hkk : plc fs K = PK at *
  have Hkk := hide hkk
  clear hkk
  go_enter Try.func56, Try.ntmps56
  go_wp2_with fail
  refine (unhide Hh).mono ?_
  rintro e w2 ⟨rfl, hb2⟩
  go_wp2_with fail
  refine (unhide Hset w2 hb2).mono ?_
  rintro e w3 ⟨rfl, hM3, hb3, hk3⟩
  have hs2 := hb2.size
  have hs3 := hb3.size
  have hbN : Below N w w3 := (hb2.mono hNw).trans hb3
  have HkN := hide ((KeepT.below hb2).trans hk3)
  clear hk3
  have q2 := hM3.box.c2
  have q3 := hM3.box.c3
  have q4 := hM3.box.c4
  have z3 := hM3.box.fr 3
  have z4 := hM3.box.fr 4
  have hko := hM3.ko
  have hlm := hM3.box.lt
  obtain ⟨ka, kc, rfl⟩ := ownsRow_slice hko
  rw [unhide Hkl] at q3 hko
  have HM3 := hide hM3
  clear hM3 Hh Hset hb2 hb3
  by_cases hfull : K.length = room
  · have d0 : ((K.length : Int) == (room : Int)) = true := by simp; omega
    have Hfull := hide hfull
    clear hfull
    go_wp2
    go_quiet (fail)
    have hM4 := (unhide HM3).below (below_drewN (Below.refl _ _) nq)
    have hb4 := below_drewN hbN nq
    have Hk4 := hide ((unhide HkN).trans (KeepT.below (below_drewN (Below.refl _ w3) nq)))
    clear q2 q3 q4 z3 z4 hko hlm HM3 hbN hs3 d0 HkN
    generalize w3.drewN nq = w4 at *
    have q4 := hM4.box.c4
    have z4 := hM4.box.fr 4
    have hlm := hM4.box.lt
    have hmN := hM4.lo
    have HM4 := hide hM4
    clear hM4
    go_wp2
    refine bodyPost_ret (v := .tuple #[]) (results_none rfl _ _ _) rfl ⟨⟨rfl, .inl ⟨unhide Hfull, .slice ka PK.length kc, ?_⟩⟩, hb4.setCell (p := ⟨mb, 4, none⟩) hmN _, (unhide Hk4).setCell (unhide HM4).box.ty (.inr (.inr rfl)) _⟩
    rw [unhide Hkk]
    exact (unhide HM4).setL true
  · have d0 : ((K.length : Int) == (room : Int)) = false := by simp; omega
    have Hfull := hide hfull
    have hKr : K.length < room := by omega
    clear hfull
    go_wp2
    go_quiet (fail)
    have hM4 := (unhide HM3).below (below_drewN (Below.refl _ _) nq)
    have hb4 := below_drewN hbN nq
    have Hk4 := hide ((unhide HkN).trans (KeepT.below (below_drewN (Below.refl _ w3) nq)))
    clear q2 q3 q4 z3 z4 hko hlm HM3 hbN hs3 d0 HkN
    generalize w3.drewN nq = w4 at *
    have q3 := hM4.box.c3
    have z3 := hM4.box.fr 3
    have hlm := hM4.box.lt
    have hmN := hM4.lo
    have hko := hM4.ko
    rw [unhide Hkl] at q3 hko
    have HM4 := hide hM4
    clear hM4
    go_wp2_with (at_builtin; go_must (refine wpList_append_own_at _ rfl _ _ 38 rfl N 3 i0 _ 1 8 Try.underlying38 hi0 hz0 hz1 hz2 rfl (by decide) _ _ _ rfl (hko.alloc _) ⟨w4.heap.size, 0, none⟩ 1 1 [.int .i64 (pl : Int)] rfl rfl (cell_one_at _ _ _ _ (by simp)) (by simp [Value.oneCell']) (by simp only [maxLen]; omega) (by omega) (by simp; omega) ?_); go_must (intro v' w5 hrow hg5 _ hat; obtain ⟨g5, c5, hv5⟩ := ownsRow_succ hrow; subst hv5; have hpush := ((unhide HM4).alloc (.cells #[.int .i64 (pl : Int)] 3)).push (x := (pl : Int)) (by rw [unhide Hkl]; exact hrow) (by rw [unhide Hkl]; exact hg5) (by rw [unhide Hkl]; exact hat); have r3 := hpush.1.c3; have t3 := hpush.1.fr 3; have Hpush := hide hpush.2; have Hk5 := hide (((unhide Hk4).alloc (.cells #[.int .i64 (pl : Int)] 3)).grown (hko.alloc _) hg5 (.inr (.inl rfl))); have Hty := hide hpush.1.ty; clear hpush))
    refine bodyPost_end (v := .tuple #[]) (results_none rfl _ _ _) rfl ⟨⟨rfl, .inr ⟨unhide Hfull, .slice (some ⟨g5, 0, none⟩) (K.length + 1) c5, ?_⟩⟩, ?_, (unhide Hk5).setCell (unhide Hty) (.inr (.inr rfl)) _⟩
    · rw [unhide Hpl]
      exact unhide Hpush
    · exact ((hb4.alloc (by omega) _).grown hg5 (by simp; omega) (fun q e => (hko.lt q e).1)).setCell (p := ⟨mb, 3, none⟩) hmN _

end Go.Proofs.Ytemjhdbmcdlpeaa
