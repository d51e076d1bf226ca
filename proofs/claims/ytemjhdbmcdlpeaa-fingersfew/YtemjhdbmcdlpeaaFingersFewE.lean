/- Merged texts: Mb Mt Me Mh Kc Kd Ke Kf La Lb Lc Ld Le Cb Tc Qm. -/
import Derived.Test.YtemjhdbmcdlpeaaProg
import Derived.Test.YtemjhdbmcdlpeaaFingersFewD
import Derived.WalkSmall
import Derived.Deep.RegionWith
import Derived.RegionTactic
import Derived.BigQuiet
import Derived.StillTailTactics
import Derived.Laws.CopyOwn

/- What a marker holds, in memory. -/
namespace Go.Proofs.Ytemjhdbmcdlpeaa
set_option linter.unusedSimpArgs false
set_option linter.unusedVariables false
open Go.RowKit Go.Shelf

theorem ty_set {W : World} {mb : Nat} {t : TypeId} (h : ∃ cs, W.heap[mb]? = some (.cells cs t)) (j : Nat) (u : Value) : ∃ cs, (W.setCell ⟨mb, j, none⟩ u).heap[mb]? = some (.cells cs t) := by
  obtain ⟨cs, h⟩ := h
  exact ⟨_, heap_setCell_same W mb j cs t u h⟩

/-- Blocks of other types than words, numbers and markers are as they were. -/
def KeepT (W W' : World) : Prop := ∀ (k : Nat) (cs : Array Value) (t : TypeId), W.heap[k]? = some (.cells cs t) → t ≠ 56 → t ≠ 3 → t ≠ 80 → W'.heap[k]? = some (.cells cs t)

theorem KeepT.trans {a b c : World} (h : KeepT a b) (h' : KeepT b c) : KeepT a c := fun k cs t hk h1 h2 h3 => h' k cs t (h k cs t hk h1 h2 h3) h1 h2 h3
theorem KeepT.refl (W : World) : KeepT W W := fun k cs t hk _ _ _ => hk
theorem KeepT.below {W W' : World} (h : Below W.heap.size W W') : KeepT W W' := fun k cs t hk _ _ _ => by rw [h.block k (Array.getElem?_eq_some_iff.1 hk).1]; exact hk
theorem KeepT.alloc {a W : World} (h : KeepT a W) (o : Obj) : KeepT a (W.alloc o) := h.trans (KeepT.below ((Below.refl _ _).alloc (Nat.le_refl _) _))
theorem KeepT.setCell {a W : World} (h : KeepT a W) {b j : Nat} {t : TypeId} (hb : ∃ cs, W.heap[b]? = some (.cells cs t)) (ht : t = 56 ∨ t = 3 ∨ t = 80) (u : Value) : KeepT a (W.setCell ⟨b, j, none⟩ u) := by
  refine h.trans fun k cs t' hk h1 h2 h3 => ?_
  obtain ⟨cs', hb⟩ := hb
  rw [Below.heap_setCell _ _ _ _ ?_]
  · exact hk
  · intro e
    subst e
    rw [hk] at hb
    injection hb with hb
    injection hb with _ hb
    subst hb
    rcases ht with ht | ht | ht
    · exact h1 ht
    · exact h2 ht
    · exact h3 ht
theorem KeepT.grown {a W W' : World} (h : KeepT a W) {base n : Nat} {t : TypeId} {size : Nat} {v : Value} {xs : List Value} (hr : W.ownsRow base t size v n xs) (hg : W.grownBy W' v.ownBlock) (ht : t = 56 ∨ t = 3 ∨ t = 80) : KeepT a W' := by
  refine h.trans fun k cs t' hk h1 h2 h3 => ?_
  rw [hg.block k (Array.getElem?_eq_some_iff.1 hk).1 ?_]
  · exact hk
  · intro e
    rcases hr.2 with ⟨rfl, _⟩ | ⟨g, cap, cur, rfl, _, hb, _⟩
    · simp [Value.ownBlock] at e
    · obtain rfl : k = g := by simpa [Value.ownBlock] using e
      rw [hk] at hb
      injection hb with hb
      injection hb with _ hb
      subst hb
      rcases ht with ht | ht | ht
      · exact h1 ht
      · exact h2 ht
      · exact h3 ht
theorem ty_row {W : World} {base n cap g : Nat} {t : TypeId} {size : Nat} {xs : List Value} (hr : W.ownsRow base t size (.slice (some ⟨g, 0, none⟩) n cap) n xs) : ∃ cs, W.heap[g]? = some (.cells cs t) := by
  rcases hr.2 with ⟨h, _⟩ | ⟨g', cap', cur, h, _, hb, _⟩
  · cases h
  · cases h
    exact ⟨cur, hb⟩

/-- The five cells of a marker. -/
structure MBox (W : World) (mb : Nat) (vw vr : Value) (room : Nat) (vk : Value) (lost : Bool) : Prop where
  c0 : W.cell? ⟨mb, 0, none⟩ = some vw
  c1 : W.cell? ⟨mb, 1, none⟩ = some vr
  c2 : W.cell? ⟨mb, 2, none⟩ = some (.int .i64 room)
  c3 : W.cell? ⟨mb, 3, none⟩ = some vk
  c4 : W.cell? ⟨mb, 4, none⟩ = some (.bool lost)
  fr : ∀ j, W.frozen? ⟨mb, j, none⟩ = false
  ty : ∃ cs, W.heap[mb]? = some (.cells cs 80)

theorem MBox.kept {W W' : World} {mb : Nat} {vw vr vk : Value} {room : Nat} {lost : Bool} (h : MBox W mb vw vr room vk lost) (hb : W'.heap[mb]? = W.heap[mb]?) : MBox W' mb vw vr room vk lost :=
  ⟨(World.cell?_of_block (a := ⟨mb, 0, none⟩) hb).trans h.c0, (World.cell?_of_block (a := ⟨mb, 1, none⟩) hb).trans h.c1, (World.cell?_of_block (a := ⟨mb, 2, none⟩) hb).trans h.c2, (World.cell?_of_block (a := ⟨mb, 3, none⟩) hb).trans h.c3, (World.cell?_of_block (a := ⟨mb, 4, none⟩) hb).trans h.c4,
    fun j => (World.frozen?_of_block (a := ⟨mb, j, none⟩) hb).trans (h.fr j), by rw [hb]; exact h.ty⟩

theorem MBox.lt {W : World} {mb : Nat} {vw vr vk : Value} {room : Nat} {lost : Bool} (h : MBox W mb vw vr room vk lost) : mb < W.heap.size := World.block_lt_of_cell? W _ h.c0

theorem MBox.set0 {W : World} {mb : Nat} {vw vr vk : Value} {room : Nat} {lost : Bool} (h : MBox W mb vw vr room vk lost) (v : Value) : MBox (W.setCell ⟨mb, 0, none⟩ v) mb v vr room vk lost := by
  refine ⟨World.cell?_setCell_same' _ _ _ (by rw [h.c0]; rfl), ?_, ?_, ?_, ?_, fun j => by rw [World.frozen?_setCell]; exact h.fr j, ty_set h.ty _ _⟩
  · rw [World.cell?_setCell_other _ _ _ _ (by simp)]; exact h.c1
  · rw [World.cell?_setCell_other _ _ _ _ (by simp)]; exact h.c2
  · rw [World.cell?_setCell_other _ _ _ _ (by simp)]; exact h.c3
  · rw [World.cell?_setCell_other _ _ _ _ (by simp)]; exact h.c4

theorem MBox.set1 {W : World} {mb : Nat} {vw vr vk : Value} {room : Nat} {lost : Bool} (h : MBox W mb vw vr room vk lost) (v : Value) : MBox (W.setCell ⟨mb, 1, none⟩ v) mb vw v room vk lost := by
  refine ⟨?_, World.cell?_setCell_same' _ _ _ (by rw [h.c1]; rfl), ?_, ?_, ?_, fun j => by rw [World.frozen?_setCell]; exact h.fr j, ty_set h.ty _ _⟩
  · rw [World.cell?_setCell_other _ _ _ _ (by simp)]; exact h.c0
  · rw [World.cell?_setCell_other _ _ _ _ (by simp)]; exact h.c2
  · rw [World.cell?_setCell_other _ _ _ _ (by simp)]; exact h.c3
  · rw [World.cell?_setCell_other _ _ _ _ (by simp)]; exact h.c4

theorem MBox.set3 {W : World} {mb : Nat} {vw vr vk : Value} {room : Nat} {lost : Bool} (h : MBox W mb vw vr room vk lost) (v : Value) : MBox (W.setCell ⟨mb, 3, none⟩ v) mb vw vr room v lost := by
  refine ⟨?_, ?_, ?_, World.cell?_setCell_same' _ _ _ (by rw [h.c3]; rfl), ?_, fun j => by rw [World.frozen?_setCell]; exact h.fr j, ty_set h.ty _ _⟩
  · rw [World.cell?_setCell_other _ _ _ _ (by simp)]; exact h.c0
  · rw [World.cell?_setCell_other _ _ _ _ (by simp)]; exact h.c1
  · rw [World.cell?_setCell_other _ _ _ _ (by simp)]; exact h.c2
  · rw [World.cell?_setCell_other _ _ _ _ (by simp)]; exact h.c4

theorem MBox.set4 {W : World} {mb : Nat} {vw vr vk : Value} {room : Nat} {lost : Bool} (h : MBox W mb vw vr room vk lost) (b : Bool) : MBox (W.setCell ⟨mb, 4, none⟩ (.bool b)) mb vw vr room vk b := by
  refine ⟨?_, ?_, ?_, ?_, World.cell?_setCell_same' _ _ _ (by rw [h.c4]; rfl), fun j => by rw [World.frozen?_setCell]; exact h.fr j, ty_set h.ty _ _⟩
  · rw [World.cell?_setCell_other _ _ _ _ (by simp)]; exact h.c0
  · rw [World.cell?_setCell_other _ _ _ _ (by simp)]; exact h.c1
  · rw [World.cell?_setCell_other _ _ _ _ (by simp)]; exact h.c2
  · rw [World.cell?_setCell_other _ _ _ _ (by simp)]; exact h.c3

/-- A marker: its words, its roots, the places that are kept. -/
structure Mk (W : World) (N mb : Nat) (vw vr vk : Value) (ws rs K : List Int) (room : Nat) (lost : Bool) : Prop where
  box : MBox W mb vw vr room vk lost
  lo : N ≤ mb
  wo : W.ownsRow N 56 1 vw ws.length (wordsV ws)
  ro : W.ownsRow N 56 1 vr rs.length (wordsV rs)
  ko : W.ownsRow N 3 1 vk K.length (intsV K)
  aw : vw.ownBlock ≠ some mb
  ar : vr.ownBlock ≠ some mb
  ak : vk.ownBlock ≠ some mb
  wr : ∀ k, vw.ownBlock = some k → vr.ownBlock ≠ some k
  wk : ∀ k, vw.ownBlock = some k → vk.ownBlock ≠ some k
  rk : ∀ k, vr.ownBlock = some k → vk.ownBlock ≠ some k

theorem Mk.below {W W' : World} {N mb : Nat} {vw vr vk : Value} {ws rs K : List Int} {room : Nat} {lost : Bool} (h : Mk W N mb vw vr vk ws rs K room lost) (hb : Below W.heap.size W W') : Mk W' N mb vw vr vk ws rs K room lost :=
  ⟨h.box.kept (hb.block _ h.box.lt), h.lo, ownsRow_below h.wo hb, ownsRow_below h.ro hb, ownsRow_below h.ko hb, h.aw, h.ar, h.ak, h.wr, h.wk, h.rk⟩

theorem Mk.alloc {W : World} {N mb : Nat} {vw vr vk : Value} {ws rs K : List Int} {room : Nat} {lost : Bool} (h : Mk W N mb vw vr vk ws rs K room lost) (o : Obj) : Mk (W.alloc o) N mb vw vr vk ws rs K room lost :=
  h.below ((Below.refl _ _).alloc (Nat.le_refl _) _)

/-- Behind a store of a word. -/
theorem Mk.setW {W : World} {N mb wb cap n : Nat} {vr vk : Value} {ws rs K : List Int} {room : Nat} {lost : Bool} (h : Mk W N mb (.slice (some ⟨wb, 0, none⟩) n cap) vr vk ws rs K room lost) (hn : n = ws.length) (j : Nat) (y : Int) :
    Mk (W.setCell ⟨wb, j, none⟩ (.int .u64 y)) N mb (.slice (some ⟨wb, 0, none⟩) n cap) vr vk (ws.set j y) rs K room lost := by
  subst hn
  have hg := grown_set W wb j (.int .u64 y)
  have e : wordsV (ws.set j y) = (wordsV ws).set j (.int .u64 y) := by simp [wordsV, List.map_set]
  refine ⟨h.box.kept (hg.block _ h.box.lt (fun e => h.aw e.symm)), h.lo, ?_, h.ro.kept hg (or_ne (h.wr wb rfl)), h.ko.kept hg (or_ne (h.wk wb rfl)), h.aw, h.ar, h.ak, h.wr, h.wk, h.rk⟩
  rw [e, List.length_set]
  exact (h.wo.stored j (.int .u64 y)).1

/-- Behind a store of whether something was lost. -/
theorem Mk.setL {W : World} {N mb : Nat} {vw vr vk : Value} {ws rs K : List Int} {room : Nat} {lost : Bool} (h : Mk W N mb vw vr vk ws rs K room lost) (b : Bool) : Mk (W.setCell ⟨mb, 4, none⟩ (.bool b)) N mb vw vr vk ws rs K room b := by
  have hg := grown_set W mb 4 (.bool b)
  exact ⟨h.box.set4 b, h.lo, h.wo.kept hg (or_ne h.aw), h.ro.kept hg (or_ne h.ar), h.ko.kept hg (or_ne h.ak), h.aw, h.ar, h.ak, h.wr, h.wk, h.rk⟩

/-- Behind a store of the kept places. -/
theorem Mk.setK {W : World} {N mb : Nat} {vw vr vk vk' : Value} {ws rs K' : List Int} {room : Nat} {lost : Bool} (h : MBox W mb vw vr room vk lost) (lo : N ≤ mb) (wo : W.ownsRow N 56 1 vw ws.length (wordsV ws)) (ro : W.ownsRow N 56 1 vr rs.length (wordsV rs))
    (ko : W.ownsRow N 3 1 vk' K'.length (intsV K')) (aw : vw.ownBlock ≠ some mb) (ar : vr.ownBlock ≠ some mb) (ak : vk'.ownBlock ≠ some mb) (wr : ∀ k, vw.ownBlock = some k → vr.ownBlock ≠ some k) (wk : ∀ k, vw.ownBlock = some k → vk'.ownBlock ≠ some k) (rk : ∀ k, vr.ownBlock = some k → vk'.ownBlock ≠ some k) :
    Mk (W.setCell ⟨mb, 3, none⟩ vk') N mb vw vr vk' ws rs K' room lost := by
  have hg := grown_set W mb 3 vk'
  exact ⟨h.set3 vk', lo, wo.kept hg (or_ne aw), ro.kept hg (or_ne ar), ko.kept hg (or_ne ak), aw, ar, ak, wr, wk, rk⟩

/-- One place less. -/
theorem Mk.pop {W : World} {N mb g cap n : Nat} {vw vr : Value} {ws rs K : List Int} {x : Int} {room : Nat} {lost : Bool} (h : Mk W N mb vw vr (.slice (some ⟨g, 0, none⟩) (n + 1) cap) ws rs (K ++ [x]) room lost) (hn : K.length = n) :
    Mk (W.setCell ⟨mb, 3, none⟩ (.slice (some ⟨g, 0, none⟩) n cap)) N mb vw vr (.slice (some ⟨g, 0, none⟩) n cap) ws rs K room lost := by
  refine Mk.setK h.box h.lo h.wo h.ro ?_ h.aw h.ar h.ak h.wr h.wk h.rk
  have := h.ko
  rw [intsV_snoc, List.length_append] at this
  subst hn
  exact ownsRow_pop (by simp [intsV]) this

/-- One place more: behind the append and the store. -/
theorem Mk.push {W w1 : World} {N mb : Nat} {vw vr vk v' : Value} {ws rs K : List Int} {x : Int} {room : Nat} {lost : Bool} (h : Mk W N mb vw vr vk ws rs K room lost) (hrow : w1.ownsRow N 3 1 v' (K.length + 1) (intsV K ++ [.int .i64 x])) (hg : W.grownBy w1 vk.ownBlock)
    (hat : v'.ownBlock = vk.ownBlock ∨ v'.ownBlock = some W.heap.size) : MBox w1 mb vw vr room vk lost ∧ Mk (w1.setCell ⟨mb, 3, none⟩ v') N mb vw vr v' ws rs (K ++ [x]) room lost := by
  have hbox : MBox w1 mb vw vr room vk lost := h.box.kept (hg.block _ h.box.lt (fun e => h.ak e.symm))
  have apart : ∀ {u : Value}, (∀ k, u.ownBlock = some k → k < W.heap.size) → (∀ k, u.ownBlock = some k → vk.ownBlock ≠ some k) → ∀ k, u.ownBlock = some k → v'.ownBlock ≠ some k := by
    intro u h1 h2 k hk e
    rcases hat with h | h
    · exact h2 k hk (h ▸ e)
    · rw [h] at e; injection e with e; have := h1 k hk; omega
  refine ⟨hbox, Mk.setK hbox h.lo (h.wo.kept hg ?_) (h.ro.kept hg ?_) ?_ h.aw h.ar ?_ h.wr (apart (fun k hk => (h.wo.lt k hk).2) h.wk) (apart (fun k hk => (h.ro.lt k hk).2) h.rk)⟩
  · cases hv : vw.ownBlock with
    | none => exact .inl rfl
    | some k => exact .inr fun e => h.wk k hv e.symm
  · cases hv : vr.ownBlock with
    | none => exact .inl rfl
    | some k => exact .inr fun e => h.rk k hv e.symm
  · rw [intsV_snoc, List.length_append]; exact hrow
  · rcases hat with h1 | h1
    · rw [h1]; exact h.ak
    · rw [h1]; intro e; injection e with e; have := h.box.lt; omega

/-- The words, where there are some. -/
theorem Mk.words {W : World} {N mb : Nat} {vw vr vk : Value} {ws rs K : List Int} {room : Nat} {lost : Bool} (h : Mk W N mb vw vr vk ws rs K room lost) (hne : 0 < ws.length) : ∃ wb cap, vw = .slice (some ⟨wb, 0, none⟩) ws.length cap ∧ N ≤ wb ∧ wb < W.heap.size ∧ ws.length ≤ cap := by
  rcases h.wo.2 with ⟨_, h0⟩ | ⟨g, cap, cur, hv, h1, h2, h3, h4, h5, h6⟩
  · omega
  · exact ⟨g, cap, hv, h1, (Array.getElem?_eq_some_iff.1 h2).1, h3⟩

theorem Mk.wcell {W : World} {N mb wb cap n : Nat} {vr vk : Value} {ws rs K : List Int} {room : Nat} {lost : Bool} (h : Mk W N mb (.slice (some ⟨wb, 0, none⟩) n cap) vr vk ws rs K room lost) (hn : n = ws.length) {j : Nat} {x : Int} (hx : ws[j]? = some x) :
    W.cell? ⟨wb, j, none⟩ = some (.int .u64 x) ∧ W.frozen? ⟨wb, j, none⟩ = false := by
  subst hn
  have hlt := (List.getElem?_eq_some_iff.1 hx).1
  refine ⟨?_, h.wo.frozenAt j⟩
  rw [h.wo.cellAt j (by omega)]
  simp [wordsV, hx]

theorem Mk.wds {W : World} {N mb : Nat} {vw vr vk : Value} {ws rs K : List Int} {room : Nat} {lost : Bool} (h : Mk W N mb vw vr vk ws rs K room lost) (hs : ws.length ≤ 256) : ∃ a cap, vw = .slice a ws.length cap ∧ Wds W.heap.size W a ws ∧ ws.length ≤ cap := by
  obtain ⟨a, cap, hv, hW, _⟩ := words_of_owns h.wo rfl (by omega)
  refine ⟨a, cap, hv, hW, ?_⟩
  rcases h.wo.2 with ⟨_, h0⟩ | ⟨g, cap', cur, hv', h1, h2, h3, h4, h5, h6⟩
  · omega
  · rw [hv] at hv'; injection hv' with _ _ e; omega

theorem Mk.rds {W : World} {N mb : Nat} {vw vr vk : Value} {ws rs K : List Int} {room : Nat} {lost : Bool} (h : Mk W N mb vw vr vk ws rs K room lost) (hs : rs.length ≤ 8) : ∃ a cap, vr = .slice a rs.length cap ∧ Wds W.heap.size W a rs := by
  obtain ⟨a, cap, hv, hW, _⟩ := words_of_owns h.ro rfl (by omega)
  exact ⟨a, cap, hv, hW⟩

/-- The last place that is kept. -/
theorem Mk.last {W : World} {N mb : Nat} {vw vr vk : Value} {ws rs K : List Int} {x : Int} {room : Nat} {lost : Bool} (h : Mk W N mb vw vr vk ws rs (K ++ [x]) room lost) : ∃ g cap, vk = .slice (some ⟨g, 0, none⟩) (K.length + 1) cap ∧ K.length + 1 ≤ cap ∧ g < W.heap.size ∧ W.cell? ⟨g, K.length, none⟩ = some (.int .i64 x) := by
  have hk := h.ko
  rw [List.length_append, List.length_singleton] at hk
  obtain ⟨g, cap, hv⟩ := ownsRow_succ hk
  subst hv
  have hb := hk.2
  rcases hb with ⟨h0, _⟩ | ⟨g', cap', cur, hv', h1, h2, h3, h4, h5, h6⟩
  · cases h0
  · refine ⟨g, cap, rfl, ?_, (hk.lt g rfl).2, ?_⟩
    · injection hv' with _ _ e; omega
    · rw [hk.cellAt K.length (by omega)]; simp [intsV]

end Go.Proofs.Ytemjhdbmcdlpeaa

/- Walks: header, set, fields. -/
namespace Go.Proofs.Ytemjhdbmcdlpeaa
set_option linter.unusedSimpArgs false
set_option linter.unusedVariables false
open Go.RowKit Go.Shelf

/-- A field of a header that a call told. -/
theorem field51_0 (l a : Int) (m : Bool) (w : World) : Sem.run Try.prog (Instr.field 32 (.agg #[.int .i64 l, .bool m, .int .i64 a]) 0) w = Result.ok (.int .i64 l) w := by
  simp [Instr.field, asAgg, go_sem, Try.underlying32]
theorem field51_1 (l a : Int) (m : Bool) (w : World) : Sem.run Try.prog (Instr.field 32 (.agg #[.int .i64 l, .bool m, .int .i64 a]) 1) w = Result.ok (.bool m) w := by
  simp [Instr.field, asAgg, go_sem, Try.underlying32]

set_option maxRecDepth 100000 in
set_option maxHeartbeats 1000000 in
theorem header_c (mb wb n cap p : Nat) (x : Int) (w : World) (h0 : w.cell? ⟨mb, 0, none⟩ = some (.slice (some ⟨wb, 0, none⟩) n cap)) (hx : w.cell? ⟨wb, p, none⟩ = some (.int .u64 x)) (hp : p < n) (hn : n ≤ 256) (h1 : 0 ≤ x) (h2 : x < 18446744073709551616) :
    Calls Try.prog 63 #[.pointer (some ⟨mb, 0, none⟩), .int .i64 (p : Nat)] w fun e w' => e = .returned (.agg #[.int .i64 (uhL x), .bool (uhM x), .int .i64 (uhA x)]) ∧ Below w.heap.size w w' := by
  have hb0 : Below w.heap.size w (w.alloc (.cells #[.int .i64 0, .bool false, .int .i64 0] 32)) := (Below.refl _ _).alloc (Nat.le_refl _) _
  have hlm : mb < w.heap.size := World.block_lt_of_cell? w _ h0
  have hlw : wb < w.heap.size := World.block_lt_of_cell? w _ hx
  have hpI : (p : Int) < (n : Int) := by omega
  go_enter Try.func63, Try.ntmps63
  go_wp2_with fail
  refine (unhead_c x _ h1 h2).mono ?_
  rintro e w2 ⟨rfl, hb2⟩
  simp only [World.size_alloc] at hb2
  have g0 := hb2.cell (p := ⟨w.heap.size, 0, none⟩) (show w.heap.size < _ by omega)
  have g1 := hb2.cell (p := ⟨w.heap.size, 1, none⟩) (show w.heap.size < _ by omega)
  have g2 := hb2.cell (p := ⟨w.heap.size, 2, none⟩) (show w.heap.size < _ by omega)
  have f0 := hb2.frozen (p := ⟨w.heap.size, 0, none⟩) (show w.heap.size < _ by omega)
  have f1 := hb2.frozen (p := ⟨w.heap.size, 1, none⟩) (show w.heap.size < _ by omega)
  have f2 := hb2.frozen (p := ⟨w.heap.size, 2, none⟩) (show w.heap.size < _ by omega)
  simp [go_sem] at g0 g1 g2 f0 f1 f2
  have hs2 := hb2.size
  simp only [World.size_alloc] at hs2
  have hlt2 : w.heap.size < w2.heap.size := by omega
  have hbw2 := hb0.trans (hb2.mono (by omega))
  clear hb0 hb2
  go_wp2
  obtain ⟨W3, hW3⟩ : ∃ W3, ((w2.setCell ⟨w.heap.size, 0, none⟩ (.int .i64 (uhL x))).setCell ⟨w.heap.size, 1, none⟩ (.bool (uhM x))).setCell ⟨w.heap.size, 2, none⟩ (.int .i64 (uhA x)) = W3 := ⟨_, rfl⟩
  have i0 : W3.cell? ⟨w.heap.size, 0, none⟩ = some (.int .i64 (uhL x)) := by rw [← hW3]; simp [go_sem, g0, g1, g2]
  have i1 : W3.cell? ⟨w.heap.size, 1, none⟩ = some (.bool (uhM x)) := by rw [← hW3]; simp [go_sem, g0, g1, g2]
  have i2 : W3.cell? ⟨w.heap.size, 2, none⟩ = some (.int .i64 (uhA x)) := by rw [← hW3]; simp [go_sem, g0, g1, g2]
  have hlt3 : w.heap.size < W3.heap.size := by rw [← hW3]; simpa [World.setCell] using hlt2
  have hb3 : Below w.heap.size w W3 := by rw [← hW3]; exact ((hbw2.setCell (p := ⟨w.heap.size, 0, none⟩) (Nat.le_refl _) _).setCell (p := ⟨w.heap.size, 1, none⟩) (Nat.le_refl _) _).setCell (p := ⟨w.heap.size, 2, none⟩) (Nat.le_refl _) _
  rw [hW3]
  clear hW3
  obtain ⟨W4, hW4⟩ : ∃ W4, W3.alloc (.cells #[.int .i64 (uhL x), .bool (uhM x), .int .i64 (uhA x)] 32) = W4 := ⟨_, rfl⟩
  rw [hW4]
  have hb4 : Below w.heap.size w W4 := by rw [← hW4]; exact hb3.alloc (by omega) _
  have k0 : W4.cell? ⟨w.heap.size, 0, none⟩ = some (.int .i64 (uhL x)) := by rw [← hW4, World.cell?_alloc_past _ _ _ hlt3]; exact i0
  have k1 : W4.cell? ⟨w.heap.size, 1, none⟩ = some (.bool (uhM x)) := by rw [← hW4, World.cell?_alloc_past _ _ _ hlt3]; exact i1
  have k2 : W4.cell? ⟨w.heap.size, 2, none⟩ = some (.int .i64 (uhA x)) := by rw [← hW4, World.cell?_alloc_past _ _ _ hlt3]; exact i2
  refine bodyPost_ret (v := .agg #[.int .i64 (uhL x), .bool (uhM x), .int .i64 (uhA x)]) (by simp [results, Try.results63, go_sem, k0, k1, k2]) rfl ?_
  exact ⟨rfl, hb4⟩

set_option maxRecDepth 100000 in
set_option maxHeartbeats 2000000 in
theorem set_w (mb wb n cap p : Nat) (x L A : Int) (M b : Bool) (w : World) (h0 : w.cell? ⟨mb, 0, none⟩ = some (.slice (some ⟨wb, 0, none⟩) n cap)) (hx : w.cell? ⟨wb, p, none⟩ = some (.int .u64 x)) (hf : w.frozen? ⟨wb, p, none⟩ = false) (hp : p < n) (hn : n ≤ 256) :
    Calls Try.prog 54 #[.pointer (some ⟨mb, 0, none⟩), .int .i64 (p : Nat), .agg #[.int .i64 L, .bool M, .int .i64 A], .bool b] w fun e w' => e = .returned (.tuple #[]) ∧ ∃ w1, Below w.heap.size w w1 ∧ w' = w1.setCell ⟨wb, p, none⟩ (.int .u64 (headW L b A)) := by
  have hlm : mb < w.heap.size := World.block_lt_of_cell? w _ h0
  have hlw : wb < w.heap.size := World.block_lt_of_cell? w _ hx
  have hpI : (p : Int) < (n : Int) := by omega
  have hb0 : Below w.heap.size w (w.alloc (.cells #[.int .i64 L, .bool b, .int .i64 A] 32)) := (Below.refl _ _).alloc (Nat.le_refl _) _
  go_enter Try.func54, Try.ntmps54
  go_wp2
  go_region_with (go_at_call 41; go_must (refine (head_c L A b _).mono ?_); go_must (rintro e w2 ⟨he, hb2⟩; subst he; have k0 := (hb2.cell (p := ⟨mb, 0, none⟩) (by simp; omega)).trans ((hb0.cell (p := ⟨mb, 0, none⟩) hlm).trans h0); have kx := (hb2.cell (p := ⟨wb, p, none⟩) (by simp; omega)).trans ((hb0.cell (p := ⟨wb, p, none⟩) hlw).trans hx); have kf := (hb2.frozen (p := ⟨wb, p, none⟩) (by simp; omega)).trans ((hb0.frozen (p := ⟨wb, p, none⟩) hlw).trans hf)))
  all_goals
    refine bodyPost_end (v := .tuple #[]) (results_none rfl _ _ _) rfl ⟨rfl, _, ?_, rfl⟩
    exact hb0.drew.trans (hb2.mono (by show w.heap.size ≤ (w.heap.push _).size; simp))

end Go.Proofs.Ytemjhdbmcdlpeaa

/- Walks: unmarked. -/
namespace Go.Proofs.Ytemjhdbmcdlpeaa
set_option linter.unusedSimpArgs false
set_option linter.unusedVariables false
open Go.RowKit Go.Shelf
attribute [local go_sem] field51_0 field51_1

/-- The arena that is being marked: its headers with these marks. -/
def mW (hs : List Int) (fs : List (List Int)) (p : Nat → Bool) : List Int := joinW (mkH hs p) fs

theorem mW_len {hs : List Int} {fs : List (List Int)} (h : Fit hs fs) (p : Nat → Bool) : (mW hs fs p).length = tot fs := by
  rw [mW, joinW_len _ _ (by rw [mkH_len]; exact h.len)]

theorem mW_get {hs : List Int} {fs : List (List Int)} (h : Fit hs fs) (p : Nat → Bool) {i : Nat} {x : Int} (hx : hs[i]? = some x) : (mW hs fs p)[tot (fs.take i)]? = some (reh (p i) x) := by
  have hi : i < fs.length := by have := (List.getElem?_eq_some_iff.1 hx).1; have := h.len; omega
  rw [mW, joinW_get _ _ _ (by rw [mkH_len]; exact h.len) hi, mkH_get, hx]
  rfl

theorem mW_set {hs : List Int} {fs : List (List Int)} (h : Fit hs fs) (p : Nat → Bool) {i : Nat} {x : Int} (hx : hs[i]? = some x) : (mW hs fs p).set (tot (fs.take i)) (reh true x) = mW hs fs (upd p i) := by
  have hi : i < fs.length := by have := (List.getElem?_eq_some_iff.1 hx).1; have := h.len; omega
  rw [mW, joinW_set _ _ _ _ (by rw [mkH_len]; exact h.len) hi, mkH_set hx, mW]

/-- What unmarked tells: the first object that is not marked, to which words refer. -/
def UnRes (fs : List (List Int)) (p : Nat → Bool) (l : List Int) (e : Ending) : Prop :=
  (∃ j, j < fs.length ∧ p j = false ∧ To fs l j ∧ e = .returned (.tuple #[.int .i64 (tot (fs.take j) : Nat), .bool true])) ∨
    ((∀ j, To fs l j → p j = true) ∧ e = .returned (.tuple #[.int .i64 0, .bool false]))

set_option maxRecDepth 100000 in
set_option maxHeartbeats 2000000 in
theorem unmarked_c (a : Option Addr) (c : Nat) (l : List Int) (hs : List Int) (fs : List (List Int)) (p : Nat → Bool) (N mb : Nat) (vw vr vk : Value) (rs K : List Int) (room : Nat) (lost : Bool) (w : World)
    (hM : Mk w N mb vw vr vk (mW hs fs p) rs K room lost) (hF : Fit hs fs) (h256 : tot fs ≤ 256) (hl : Wds w.heap.size w a l) (hU : U64 l) (hlen : l.length ≤ 8) (hok : ∀ x ∈ l, okW (stF 0 fs) x = true) :
    Calls Try.prog 55 #[.pointer (some ⟨mb, 0, none⟩), .slice a l.length c] w fun e w' => UnRes fs p l e ∧ Below w.heap.size w w' := by
  have HM := hide hM
  have hlm := hM.box.lt
  clear hM
  go_enter Try.func55, Try.ntmps55
  go_wp2
  go_loopw [12] (fun i wr => ∃ k : Nat, k ≤ l.length ∧ i = .int .i64 k ∧ Hid (∀ j, To fs (l.take k) j → p j = true) ∧ Below w.heap.size w wr) (fun i _ => l.length - (intOf i).toNat)
  case atStart => exact ⟨0, Nat.zero_le _, rfl, hide (fun j h => by obtain ⟨x, hx, _⟩ := h; simp at hx), Below.refl _ _⟩
  case round =>
    obtain ⟨k, hk, rfl, Hdone, hb⟩ := hrel
    have hsz := hb.size
    by_cases hlt : k < l.length
    · obtain ⟨b, off, rfl, hbB, hc⟩ := (hl.below hb).at hlt
      have hu := hU _ (List.getElem_mem hlt)
      have Hx := hide (List.getElem_mem hlt)
      have Hok := hide (ok_ref (hok _ (List.getElem_mem hlt)))
      have HT := hide (show l.take (k + 1) = l.take k ++ [l[k]] from List.take_succ_eq_append_getElem hlt)
      have hkI : (k : Int) < (l.length : Int) := by omega
      generalize l[k] = x at *
      have hq : b < wr.heap.size := by omega
      cases hr : unRef x
      · have Hr := hide hr
        have HE := hide (unhide Hok).1
        have HN : Hid (∀ j, To fs (l.take (k + 1)) j → p j = true) := hide (fun j h => by
          obtain ⟨y, hy, h1, h2⟩ := h
          rw [unhide HT] at hy
          rcases List.mem_append.1 hy with hy | hy
          · exact unhide Hdone j ⟨y, hy, h1, h2⟩
          · simp at hy; subst hy; rw [unhide Hr] at h1; cases h1)
        clear hr Hok
        go_wp2_with (go_at_call 43; go_must (refine (unpack_c x _ hu.1 hu.2).mono ?_); go_must (rintro e w3 ⟨he, hb3⟩; rw [unhide Hr, unhide HE] at he; subst he; have hs3 := hb3.size))
        go_roundw
        case rel => exact ⟨k + 1, by omega, by go_num, HN, (hb.trans (hb3.mono hsz)).alloc (by omega) _⟩
        case measure => simp [intOf]; omega
      · obtain ⟨j, hj⟩ := (unhide Hok).2 hr
        have hjl : j < fs.length := by have := (List.getElem?_eq_some_iff.1 hj).1; rw [stF_len] at this; exact this
        have hj' := stF_get fs 0 j hjl
        rw [Nat.zero_add] at hj'
        have Hnum : Hid (unNum x = ((tot (fs.take j) : Nat) : Int)) := by
          have := hj.symm.trans hj'
          injection this
        have hpl := place_lt hjl
        obtain ⟨y, hy, hy1, _, hy3, hy4⟩ := fit_at hF hjl
        have Hto : Hid (To fs l j) := hide ⟨x, unhide Hx, hr, hj⟩
        have Huniq : Hid (∀ j', (stF 0 fs)[j']? = some (unNum x) → j' = j) := hide (fun j' h => st_inj h hj)
        have HE := hide (unhide Hok).1
        obtain ⟨wb, cap, hvw, hwN, hwb, hcap⟩ := (unhide HM).words (by rw [mW_len hF]; omega)
        have hml := mW_len hF p
        rw [hml] at hvw hcap
        subst hvw
        have Hh : Hid (∀ W, Below w.heap.size w W → Calls Try.prog 63 #[.pointer (some ⟨mb, 0, none⟩), .int .i64 (tot (fs.take j) : Nat)] W fun e w' => e = .returned (.agg #[.int .i64 (uhL (reh (p j) y)), .bool (uhM (reh (p j) y)), .int .i64 (uhA (reh (p j) y))]) ∧ Below W.heap.size W w') := fun W hbW => by
          have hr2 := reh_ok (p j) y
          have hMW := (unhide HM).below hbW
          exact header_c mb wb (tot fs) cap _ _ W hMW.box.c0 (hMW.wcell hml.symm (mW_get hF p hy)).1 hpl h256 hr2.2.2.2.2.1 hr2.2.2.2.2.2
        have Hm : Hid (uhM (reh (p j) y) = p j) := (reh_ok (p j) y).2.2.1
        rw [unhide Hm] at Hh
        have Hr := hide hr
        clear hr Hok hj hj' hy hml
        generalize hpe : tot (fs.take j) = pl at *
        have Hpe := hide hpe
        clear hpe
        cases hpj : p j
        · rw [hpj] at Hh
          have Hpj := hide hpj
          clear hpj
          go_wp2_with (first
            | (go_at_call 43; go_must (refine (unpack_c x _ hu.1 hu.2).mono ?_); go_must (rintro e w3 ⟨he, hb3⟩; rw [unhide Hr, unhide HE, unhide Hnum] at he; subst he; have hs3 := hb3.size))
            | (go_at_call 63; go_must (refine (unhide Hh _ ((hb.trans (hb3.mono hsz)).alloc (by omega) _)).mono ?_); go_must (rintro e w4 ⟨he, hb4⟩; subst he; have hs4 := hb4.size; simp only [World.size_alloc] at hs4; have g0 := hb4.cell (p := ⟨w3.heap.size, 0, none⟩) (by simp); have g1 := hb4.cell (p := ⟨w3.heap.size, 1, none⟩) (by simp); simp [go_sem] at g0 g1; have hq4 : w3.heap.size < w4.heap.size := by omega)))
          go_ret2
          exact ⟨.inl ⟨j, hjl, unhide Hpj, unhide Hto, by rw [unhide Hpe]; rfl⟩, ((hb.trans (hb3.mono hsz)).alloc (by omega) _).trans (hb4.mono (by simp; omega))⟩
        · rw [hpj] at Hh
          have HN : Hid (∀ j, To fs (l.take (k + 1)) j → p j = true) := hide (fun j' h => by
            obtain ⟨z, hz, h1, h2⟩ := h
            rw [unhide HT] at hz
            rcases List.mem_append.1 hz with hz | hz
            · exact unhide Hdone j' ⟨z, hz, h1, h2⟩
            · simp at hz; subst hz; rw [unhide Huniq j' h2]; exact hpj)
          clear hpj
          go_wp2_with (first
            | (go_at_call 43; go_must (refine (unpack_c x _ hu.1 hu.2).mono ?_); go_must (rintro e w3 ⟨he, hb3⟩; rw [unhide Hr, unhide HE, unhide Hnum] at he; subst he; have hs3 := hb3.size))
            | (go_at_call 63; go_must (refine (unhide Hh _ ((hb.trans (hb3.mono hsz)).alloc (by omega) _)).mono ?_); go_must (rintro e w4 ⟨he, hb4⟩; subst he; have hs4 := hb4.size; simp only [World.size_alloc] at hs4)))
          go_roundw
          case rel => exact ⟨k + 1, by omega, by go_num, HN, ((hb.trans (hb3.mono hsz)).alloc (by omega) _).trans (hb4.mono (by simp; omega))⟩
          case measure => simp [intOf]; omega
    · obtain rfl : k = l.length := by omega
      have HN := Hdone
      rw [List.take_length] at HN
      go_wp2
      go_ret2
      exact ⟨.inr ⟨unhide HN, rfl⟩, hb⟩

end Go.Proofs.Ytemjhdbmcdlpeaa

/- Walks: each. -/
namespace Go.Proofs.Ytemjhdbmcdlpeaa
set_option linter.unusedSimpArgs false
set_option linter.unusedVariables false
open Go.RowKit Go.Shelf
attribute [local go_sem] field51_0 field51_1

/-- Headers in boxes are as they were. -/
def Keep51 (W W' : World) : Prop := ∀ (k : Nat) (cs : Array Value), W.heap[k]? = some (.cells cs 32) → W'.heap[k]? = some (.cells cs 32)

theorem KeepT.k51 {W W' : World} (h : KeepT W W') : Keep51 W W' := fun k cs hk => h k cs 32 hk (by decide) (by decide) (by decide)

/-- What each may rely on at an object. -/
def EachAt (fid : Nat) (c0 : Value) (a : Option Addr) (fs : List (List Int)) (I : Nat → World → Prop) (k : Nat) (l : Nat) (W : World) : Prop :=
  ∃ wb off x, a = some ⟨wb, off, none⟩ ∧ W.cell? ⟨wb, off + tot (fs.take k), none⟩ = some (.int .u64 x) ∧ 0 ≤ x ∧ x < 18446744073709551616 ∧ unheadOk x = true ∧ wlen x = l ∧
    ∀ W', Below W.heap.size W W' → Calls Try.prog fid #[.int .i64 (tot (fs.take k) : Nat), .agg #[.int .i64 l, .bool (uhM x), .int .i64 (uhA x)], c0] W' fun e W'' => e = .returned (.tuple #[]) ∧ I (k + 1) W'' ∧ Keep51 W' W'' ∧ W'.heap.size ≤ W''.heap.size

set_option maxRecDepth 100000 in
set_option maxHeartbeats 2000000 in
theorem each39_c (c0 : Value) (a : Option Addr) (cap : Nat) (fs : List (List Int)) (I : Nat → World → Prop) (w : World) (h256 : tot fs ≤ 256) (hI : I 0 w)
    (hat : ∀ (k : Nat) (hk : k < fs.length) W, I k W → EachAt 53 c0 a fs I k fs[k].length W) :
    Calls Try.prog 52 #[.slice a (tot fs : Nat) cap, .func (.func 53) #[] #[c0]] w fun e w' => e = .returned (.tuple #[]) ∧ I fs.length w' := by
  have HI := hide hI
  have Hat := hide hat
  clear hI hat
  go_enter Try.func52, Try.ntmps52
  go_wp2
  go_loopw [4] (fun i wr => ∃ k : Nat, k ≤ fs.length ∧ i = .int .i64 (tot (fs.take k) : Nat) ∧ Hid (I k wr)) (fun i _ => tot fs - (intOf i).toNat)
  case atStart => exact ⟨0, Nat.zero_le _, rfl, HI⟩
  case round =>
    clear HI
    obtain ⟨k, hk, rfl, HI⟩ := hrel
    by_cases hlt : k < fs.length
    · obtain ⟨wb, off, x, rfl, hx, hx1, hx2, hx3, hx4, hcall⟩ := unhide Hat k hlt wr (unhide HI)
      have hpl := place_lt hlt
      have hts := tot_take_succ hlt
      have htl := tot_take_le fs (k + 1)
      have HL := hide (uhL_wlen hx3)
      rw [hx4] at HL
      have HE := hide (uhE_ok hx3)
      have Hcall := hide hcall
      have HN : Hid (tot (fs.take (k + 1)) = tot (fs.take k) + 1 + fs[k].length) := by show _ = _; omega
      have hwl : wb < wr.heap.size := World.block_lt_of_cell? wr _ hx
      have hle : tot (fs.take k) + 1 + fs[k].length ≤ 256 := by omega
      clear hcall hx3 hx4 hts htl HI
      generalize fs[k].length = l at *
      generalize tot (fs.take k) = q at *
      generalize tot fs = n at *
      have hqI : (q : Int) < (n : Int) := by omega
      go_wp2_with fail
      refine (unhead_c x _ hx1 hx2).mono ?_
      rintro e w2 ⟨he, hb2⟩
      rw [unhide HL, unhide HE] at he
      subst he
      have hs2 := hb2.size
      have Hc2 := hide (unhide Hcall (w2.alloc (.cells #[.int .i64 (l : Nat), .bool (uhM x), .int .i64 (uhA x)] 32)) (hb2.alloc hs2 _))
      clear Hcall
      go_wp2_with fail
      refine (unhide Hc2).mono ?_
      rintro e w3 ⟨he, hI3, hk3, hs3⟩
      subst he
      have h51 := hk3 w2.heap.size #[.int .i64 (l : Nat), .bool (uhM x), .int .i64 (uhA x)] (heap_alloc_new _ _)
      have g0 : w3.cell? ⟨w2.heap.size, 0, none⟩ = some (.int .i64 (l : Nat)) := by rw [cell_of_row w3 w2.heap.size 0 _ 32 (0, 0) h51]; rfl
      have hl3 : w2.heap.size < w3.heap.size := by simp only [World.size_alloc] at hs3; omega
      have HI3 := hide hI3
      clear h51 hk3 hI3 Hc2
      go_wp2
      go_roundw
      case rel => exact ⟨k + 1, by omega, by rw [unhide HN]; go_num, HI3⟩
      case measure => simp [intOf]; omega
    · obtain rfl : k = fs.length := by omega
      have e0 : tot (fs.take fs.length) = tot fs := by rw [List.take_length]
      rw [e0]
      generalize tot fs = n at *
      go_wp2
      exact bodyPost_end (v := .tuple #[]) (results_none rfl _ _ _) rfl ⟨rfl, unhide HI⟩

set_option maxRecDepth 100000 in
set_option maxHeartbeats 2000000 in
theorem each56_c (c0 : Value) (a : Option Addr) (cap : Nat) (fs : List (List Int)) (I : Nat → World → Prop) (w : World) (h256 : tot fs ≤ 256) (hI : I 0 w)
    (hat : ∀ (k : Nat) (hk : k < fs.length) W, I k W → EachAt 65 c0 a fs I k fs[k].length W) :
    Calls Try.prog 52 #[.slice a (tot fs : Nat) cap, .func (.func 65) #[] #[c0]] w fun e w' => e = .returned (.tuple #[]) ∧ I fs.length w' := by
  have HI := hide hI
  have Hat := hide hat
  clear hI hat
  go_enter Try.func52, Try.ntmps52
  go_wp2
  go_loopw [4] (fun i wr => ∃ k : Nat, k ≤ fs.length ∧ i = .int .i64 (tot (fs.take k) : Nat) ∧ Hid (I k wr)) (fun i _ => tot fs - (intOf i).toNat)
  case atStart => exact ⟨0, Nat.zero_le _, rfl, HI⟩
  case round =>
    clear HI
    obtain ⟨k, hk, rfl, HI⟩ := hrel
    by_cases hlt : k < fs.length
    · obtain ⟨wb, off, x, rfl, hx, hx1, hx2, hx3, hx4, hcall⟩ := unhide Hat k hlt wr (unhide HI)
      have hpl := place_lt hlt
      have hts := tot_take_succ hlt
      have htl := tot_take_le fs (k + 1)
      have HL := hide (uhL_wlen hx3)
      rw [hx4] at HL
      have HE := hide (uhE_ok hx3)
      have Hcall := hide hcall
      have HN : Hid (tot (fs.take (k + 1)) = tot (fs.take k) + 1 + fs[k].length) := by show _ = _; omega
      have hwl : wb < wr.heap.size := World.block_lt_of_cell? wr _ hx
      have hle : tot (fs.take k) + 1 + fs[k].length ≤ 256 := by omega
      clear hcall hx3 hx4 hts htl HI
      generalize fs[k].length = l at *
      generalize tot (fs.take k) = q at *
      generalize tot fs = n at *
      have hqI : (q : Int) < (n : Int) := by omega
      go_wp2_with fail
      refine (unhead_c x _ hx1 hx2).mono ?_
      rintro e w2 ⟨he, hb2⟩
      rw [unhide HL, unhide HE] at he
      subst he
      have hs2 := hb2.size
      have Hc2 := hide (unhide Hcall (w2.alloc (.cells #[.int .i64 (l : Nat), .bool (uhM x), .int .i64 (uhA x)] 32)) (hb2.alloc hs2 _))
      clear Hcall
      go_wp2_with fail
      refine (unhide Hc2).mono ?_
      rintro e w3 ⟨he, hI3, hk3, hs3⟩
      subst he
      have h51 := hk3 w2.heap.size #[.int .i64 (l : Nat), .bool (uhM x), .int .i64 (uhA x)] (heap_alloc_new _ _)
      have g0 : w3.cell? ⟨w2.heap.size, 0, none⟩ = some (.int .i64 (l : Nat)) := by rw [cell_of_row w3 w2.heap.size 0 _ 32 (0, 0) h51]; rfl
      have hl3 : w2.heap.size < w3.heap.size := by simp only [World.size_alloc] at hs3; omega
      have HI3 := hide hI3
      clear h51 hk3 hI3 Hc2
      go_wp2
      go_roundw
      case rel => exact ⟨k + 1, by omega, by rw [unhide HN]; go_num, HI3⟩
      case measure => simp [intOf]; omega
    · obtain rfl : k = fs.length := by omega
      have e0 : tot (fs.take fs.length) = tot fs := by rw [List.take_length]
      rw [e0]
      generalize tot fs = n at *
      go_wp2
      exact bodyPost_end (v := .tuple #[]) (results_none rfl _ _ _) rfl ⟨rfl, unhide HI⟩

end Go.Proofs.Ytemjhdbmcdlpeaa

/- Walks: eachMarked. -/
namespace Go.Proofs.Ytemjhdbmcdlpeaa
set_option linter.unusedSimpArgs false
set_option linter.unusedVariables false
open Go.RowKit Go.Shelf
attribute [local go_sem] field51_0 field51_1

/-- What eachMarked may rely on at an object: cs is what the closure holds. -/
def EmAt (fid : Nat) (args : Value → Value → Array Value) (a : Option Addr) (fs : List (List Int)) (I : Nat → World → Prop) (k : Nat) (l : Nat) (W : World) : Prop :=
  ∃ wb off x, a = some ⟨wb, off, none⟩ ∧ W.cell? ⟨wb, off + tot (fs.take k), none⟩ = some (.int .u64 x) ∧ 0 ≤ x ∧ x < 18446744073709551616 ∧ unheadOk x = true ∧ wlen x = l ∧
    (uhM x = false → ∀ W', Below W.heap.size W W' → I (k + 1) W') ∧
    (uhM x = true → ∀ W', Below W.heap.size W W' → Calls Try.prog fid (args (.int .i64 (tot (fs.take k) : Nat)) (.agg #[.int .i64 l, .bool true, .int .i64 (uhA x)])) W' fun e W'' => e = .returned (.tuple #[]) ∧ I (k + 1) W'' ∧ Keep51 W' W'' ∧ W'.heap.size ≤ W''.heap.size)

end Go.Proofs.Ytemjhdbmcdlpeaa

/- Walks: places. -/
namespace Go.Proofs.Ytemjhdbmcdlpeaa
set_option linter.unusedSimpArgs false
set_option linter.unusedVariables false
open Go.RowKit Go.Shelf
attribute [local go_sem] field51_0 field51_1

theorem mL_nodup (p : Nat → Bool) (k : Nat) : (mL p k).Nodup := by
  unfold mL List.Nodup
  rw [List.pairwise_map]
  exact (List.Pairwise.filter _ List.nodup_range).imp (fun h e => h (by omega))

theorem mL_ok (p : Nat → Bool) (fs : List (List Int)) {k : Nat} (hk : k ≤ fs.length) : OOk fs (mL p k) := by
  refine ⟨mL_nodup p k, fun o ho => ?_⟩
  unfold mL at ho
  obtain ⟨j, hj, rfl⟩ := List.mem_map.1 ho
  have := List.mem_range.1 (List.mem_filter.1 hj).1
  omega

theorem tot_snocO (fs : List (List Int)) (O : List Int) {i : Nat} (hi : i < fs.length) : tot ((O ++ [(i : Int)]).map (fO fs)) = tot (O.map (fO fs)) + (1 + fs[i].length) := by
  rw [List.map_append, List.map_cons, List.map_nil, tot_snoc, fO_at hi]
  omega

/-- What places holds while it goes through objects. -/
structure PlI (w0 : World) (N nb pb mb : Nat) (p : Nat → Bool) (fs : List (List Int)) (k : Nat) (W : World) : Prop where
  map : NowM W N mb fs (mL p k)
  nx : W.cell? ⟨nb, 0, none⟩ = some (.int .i64 (tot ((mL p k).map (fO fs)) : Nat))
  fr : W.frozen? ⟨nb, 0, none⟩ = false
  now : W.cell? ⟨pb, 0, none⟩ = some (.map (some mb))
  below : Below N w0 W
  lo : N ≤ nb
  nm : nb ≠ mb
  pm : pb ≠ mb
  np : nb ≠ pb
  ty : ∃ cs, W.heap[nb]? = some (.cells cs 3)

theorem PlI.kept {w0 W W' : World} {N nb pb mb : Nat} {p : Nat → Bool} {fs : List (List Int)} {k : Nat} (h : PlI w0 N nb pb mb p fs k W) (hb : Below W.heap.size W W') (hN : N ≤ W.heap.size) : PlI w0 N nb pb mb p fs k W' :=
  ⟨h.map.below hb, (hb.cell (p := ⟨nb, 0, none⟩) (World.block_lt_of_cell? W _ h.nx)).trans h.nx, (hb.frozen (p := ⟨nb, 0, none⟩) (World.block_lt_of_cell? W _ h.nx)).trans h.fr, (hb.cell (p := ⟨pb, 0, none⟩) (World.block_lt_of_cell? W _ h.now)).trans h.now, h.below.trans (hb.mono hN), h.lo, h.nm, h.pm, h.np, by
    obtain ⟨cs, hc⟩ := h.ty
    exact ⟨cs, (hb.block nb (World.block_lt_of_cell? W _ h.nx)).trans hc⟩⟩

theorem NowM.notCells {W : World} {N mb : Nat} {fs : List (List Int)} {L : List Int} (h : NowM W N mb fs L) (cs : Array Value) (t : TypeId) : W.heap[mb]? ≠ some (.cells cs t) := by
  obtain ⟨M, ⟨es, clock, hb, _⟩, _⟩ := h
  rw [hb]
  intro e
  cases e

end Go.Proofs.Ytemjhdbmcdlpeaa

/- Walks: places. -/
namespace Go.Proofs.Ytemjhdbmcdlpeaa
set_option linter.unusedSimpArgs false
set_option linter.unusedVariables false
open Go.RowKit Go.Shelf
attribute [local go_sem] field51_0 field51_1

/-- A marked arena's header. -/
theorem mW_at {hs : List Int} {fs : List (List Int)} (hF : Fit hs fs) (p : Nat → Bool) {k : Nat} (hk : k < fs.length) {N : Nat} {w : World} {a : Option Addr} (hW : Wds N w a (mW hs fs p)) :
    ∃ wb off x, a = some ⟨wb, off, none⟩ ∧ wb < N ∧ w.cell? ⟨wb, off + tot (fs.take k), none⟩ = some (.int .u64 x) ∧ 0 ≤ x ∧ x < 18446744073709551616 ∧ unheadOk x = true ∧ wlen x = fs[k].length ∧ uhM x = p k ∧ ∃ y, hs[k]? = some y ∧ x = reh (p k) y := by
  obtain ⟨y, hy, h1, h2, h3, h4⟩ := fit_at hF hk
  have hr := reh_ok (p k) y
  have hg := mW_get hF p hy
  have hlt := (List.getElem?_eq_some_iff.1 hg).1
  obtain ⟨b, off, rfl, hb, hc⟩ := hW.2 (by intro e; rw [e] at hlt; simp at hlt)
  exact ⟨b, off, _, rfl, hb, hc _ _ hg, hr.2.2.2.2.1, hr.2.2.2.2.2, hr.1, by rw [reh_wlen h1, h2], hr.2.2.1, y, hy, rfl⟩

end Go.Proofs.Ytemjhdbmcdlpeaa

/- Walks: Slide's closure. -/
namespace Go.Proofs.Ytemjhdbmcdlpeaa
set_option linter.unusedSimpArgs false
set_option linter.unusedVariables false
open Go.RowKit Go.Shelf

/-- The words of some objects, moved to where they come to stand among all of L. -/
def laid (hs : List Int) (fs : List (List Int)) (L O : List Int) : List Int := joinW (O.map (rO hs)) (O.map fun o => (fO fs o).map (twW fs L))

theorem joinW_append : ∀ (a b : List Int) (c d : List (List Int)), a.length = c.length → joinW (a ++ b) (c ++ d) = joinW a c ++ joinW b d
  | [], b, [], d, _ => by simp [joinW]
  | x :: a, b, y :: c, d, h => by
    have ih := joinW_append a b c d (by simpa using h)
    simp only [List.cons_append, joinW, ih, List.append_assoc]
  | [], _, _ :: _, _, h => by simp at h
  | _ :: _, _, [], _, h => by simp at h

theorem laid_snoc (hs : List Int) (fs : List (List Int)) (L O : List Int) (o : Int) : laid hs fs L (O ++ [o]) = laid hs fs L O ++ [rO hs o] ++ (fO fs o).map (twW fs L) := by
  unfold laid
  rw [List.map_append, List.map_append, joinW_append _ _ _ _ (by simp)]
  simp [joinW]

theorem laid_len (hs : List Int) (fs : List (List Int)) (L O : List Int) : (laid hs fs L O).length = tot (O.map (fO fs)) := by
  unfold laid
  rw [joinW_len _ _ (by simp)]
  unfold tot
  rw [List.map_map, List.map_map]
  congr 1
  apply List.map_congr_left
  intro o _
  simp

theorem gb_below {w W W' : World} {db : Nat} (h : w.grownBy W (some db)) (hb : Below W.heap.size W W') : w.grownBy W' (some db) :=
  ⟨hb.os.trans h.os, hb.tape.trans h.tape, hb.output.trans h.output, Nat.le_trans h.size hb.size, fun k hk hne => (hb.block k (Nat.lt_of_lt_of_le hk h.size)).trans (h.block k hk hne)⟩

theorem gb_set {w W : World} {db b : Nat} (h : w.grownBy W (some db)) (hb : b = db ∨ w.heap.size ≤ b) (j : Nat) (u : Value) : w.grownBy (W.setCell ⟨b, j, none⟩ u) (some db) := by
  have hg := grown_set W b j u
  refine ⟨hg.os.trans h.os, hg.tape.trans h.tape, hg.output.trans h.output, Nat.le_trans h.size hg.size, fun k hk hne => (hg.block k (Nat.lt_of_lt_of_le hk h.size) (fun e => ?_)).trans (h.block k hk hne)⟩
  injection e with e
  rcases hb with hb | hb
  · exact hne (by rw [e, hb])
  · omega

theorem gb_grown {w W W' : World} {db : Nat} {o : Option Nat} (h : w.grownBy W (some db)) (hg : W.grownBy W' o) (ho : ∀ k, o = some k → w.heap.size ≤ k) : w.grownBy W' (some db) :=
  ⟨hg.os.trans h.os, hg.tape.trans h.tape, hg.output.trans h.output, Nat.le_trans h.size hg.size, fun k hk hne => (hg.block k (Nat.lt_of_lt_of_le hk h.size) (fun e => by have := ho k e.symm; omega)).trans (h.block k hk hne)⟩

theorem gb_cell {w W : World} {db b : Nat} (h : w.grownBy W (some db)) (hb : b < w.heap.size) (hne : b ≠ db) (j : Nat) {v : Value} (hv : w.cell? ⟨b, j, none⟩ = some v) : W.cell? ⟨b, j, none⟩ = some v :=
  (World.cell?_of_block (a := ⟨b, j, none⟩) (h.block b hb (fun e => hne (by injection e)))).trans hv

/-- What Slide holds while it goes through objects: what was there ahead is as it was, but for the arena that is made. -/
structure SlI (w5 : World) (db : Nat) (vo : Value) (hs : List Int) (fs : List (List Int)) (L O : List Int) (W : World) (vm : Value) : Prop where
  g : w5.grownBy W (some db)
  d0 : W.cell? ⟨db, 0, none⟩ = some vm
  d1 : W.cell? ⟨db, 1, none⟩ = some vo
  df : ∀ j, W.frozen? ⟨db, j, none⟩ = false
  row : W.ownsRow w5.heap.size 56 1 vm (laid hs fs L O).length (wordsV (laid hs fs L O))
  ty : ∃ cs, W.heap[db]? = some (.cells cs 24)
  lt : db < w5.heap.size

theorem SlI.below {w5 W W' : World} {db : Nat} {vo vm : Value} {hs : List Int} {fs : List (List Int)} {L O : List Int} (h : SlI w5 db vo hs fs L O W vm) (hb : Below W.heap.size W W') : SlI w5 db vo hs fs L O W' vm := by
  have hl : db < W.heap.size := World.block_lt_of_cell? W _ h.d0
  refine ⟨gb_below h.g hb, (hb.cell (p := ⟨db, 0, none⟩) hl).trans h.d0, (hb.cell (p := ⟨db, 1, none⟩) hl).trans h.d1, fun j => (hb.frozen (p := ⟨db, j, none⟩) hl).trans (h.df j), ownsRow_below h.row hb, ?_, h.lt⟩
  obtain ⟨cs, hc⟩ := h.ty
  exact ⟨cs, (hb.block db hl).trans hc⟩

theorem SlI.setO {w5 W : World} {db b : Nat} {vo vm : Value} {hs : List Int} {fs : List (List Int)} {L O : List Int} (h : SlI w5 db vo hs fs L O W vm) (hb : w5.heap.size ≤ b) (hv : vm.ownBlock ≠ some b) (j : Nat) (u : Value) : SlI w5 db vo hs fs L O (W.setCell ⟨b, j, none⟩ u) vm := by
  have hlt := h.lt
  have hg := grown_set W b j u
  have hbk : (W.setCell ⟨b, j, none⟩ u).heap[db]? = W.heap[db]? := hg.block db (World.block_lt_of_cell? W _ h.d0) (fun e => by injection e with e; omega)
  refine ⟨gb_set h.g (.inr hb) j u, (World.cell?_of_block (a := ⟨db, 0, none⟩) hbk).trans h.d0, (World.cell?_of_block (a := ⟨db, 1, none⟩) hbk).trans h.d1, fun i => (World.frozen?_of_block (a := ⟨db, i, none⟩) hbk).trans (h.df i), h.row.kept hg (or_ne hv), ?_, h.lt⟩
  obtain ⟨cs, hc⟩ := h.ty
  exact ⟨cs, hbk.trans hc⟩

/-- Some words more. -/
theorem SlI.push {w5 W w1 : World} {db : Nat} {vo vm v' : Value} {hs : List Int} {fs : List (List Int)} {L O : List Int} (h : SlI w5 db vo hs fs L O W vm) (hg : W.grownBy w1 vm.ownBlock) : w1.cell? ⟨db, 0, none⟩ = some vm ∧ (∀ j, w1.frozen? ⟨db, j, none⟩ = false) ∧ db < w1.heap.size ∧
    w5.grownBy (w1.setCell ⟨db, 0, none⟩ v') (some db) ∧ (w1.setCell ⟨db, 0, none⟩ v').cell? ⟨db, 0, none⟩ = some v' ∧ (w1.setCell ⟨db, 0, none⟩ v').cell? ⟨db, 1, none⟩ = some vo ∧ (∀ j, (w1.setCell ⟨db, 0, none⟩ v').frozen? ⟨db, j, none⟩ = false) ∧ (∃ cs, (w1.setCell ⟨db, 0, none⟩ v').heap[db]? = some (.cells cs 24)) := by
  have hl : db < W.heap.size := World.block_lt_of_cell? W _ h.d0
  have hlt := h.lt
  have hne : some db ≠ vm.ownBlock := fun e => by have := (h.row.lt db e.symm).1; omega
  have hbk := hg.block db hl hne
  obtain ⟨cs, hc⟩ := h.ty
  have c0 := (World.cell?_of_block (a := ⟨db, 0, none⟩) hbk).trans h.d0
  refine ⟨c0, fun j => (World.frozen?_of_block (a := ⟨db, j, none⟩) hbk).trans (h.df j), Nat.lt_of_lt_of_le hl hg.size, gb_set (gb_grown h.g hg (fun k e => (h.row.lt k e).1)) (.inl rfl) 0 v', World.cell?_setCell_same' _ _ _ (by rw [c0]; rfl), ?_, fun j => ?_, ⟨_, heap_setCell_same w1 db 0 cs 24 _ (hbk.trans hc)⟩⟩
  · rw [World.cell?_setCell_other _ _ _ _ (by simp)]; exact (World.cell?_of_block (a := ⟨db, 1, none⟩) hbk).trans h.d1
  · rw [World.frozen?_setCell]; exact (World.frozen?_of_block (a := ⟨db, j, none⟩) hbk).trans (h.df j)

/-- All other blocks are as they were. -/
def KpS (W W' : World) (db : Nat) (vm vm' : Value) : Prop :=
  W.heap.size ≤ W'.heap.size ∧ ∀ k, k < W.heap.size → k ≠ db → vm.ownBlock ≠ some k → W'.heap[k]? = W.heap[k]? ∧ vm'.ownBlock ≠ some k

theorem KpS.refl (W : World) (db : Nat) (vm : Value) : KpS W W db vm vm := ⟨Nat.le_refl _, fun k _ _ h => ⟨rfl, h⟩⟩
theorem KpS.below {W W' W'' : World} {db : Nat} {vm vm' : Value} (h : KpS W W' db vm vm') (hb : Below W'.heap.size W' W'') : KpS W W'' db vm vm' :=
  ⟨Nat.le_trans h.1 hb.size, fun k h1 h2 h3 => ⟨(hb.block k (Nat.lt_of_lt_of_le h1 h.1)).trans (h.2 k h1 h2 h3).1, (h.2 k h1 h2 h3).2⟩⟩
theorem KpS.set {W W' : World} {db b : Nat} {vm vm' : Value} (h : KpS W W' db vm vm') (hb : W.heap.size ≤ b) (j : Nat) (u : Value) : KpS W (W'.setCell ⟨b, j, none⟩ u) db vm vm' :=
  ⟨by have := h.1; simp [World.setCell]; omega, fun k h1 h2 h3 => ⟨(Below.heap_setCell W' ⟨b, j, none⟩ u k (by show k ≠ b; omega)).trans (h.2 k h1 h2 h3).1, (h.2 k h1 h2 h3).2⟩⟩
theorem KpS.push {W W' w1 : World} {db : Nat} {vm vm' v' : Value} (h : KpS W W' db vm vm') (hg : W'.grownBy w1 vm'.ownBlock) (hat : v'.ownBlock = vm'.ownBlock ∨ v'.ownBlock = some W'.heap.size) : KpS W (w1.setCell ⟨db, 0, none⟩ v') db vm v' := by
  refine ⟨by have := h.1; have := hg.size; simp [World.setCell]; omega, fun k h1 h2 h3 => ?_⟩
  obtain ⟨h4, h5⟩ := h.2 k h1 h2 h3
  have hk := Nat.lt_of_lt_of_le h1 h.1
  refine ⟨((Below.heap_setCell w1 ⟨db, 0, none⟩ v' k (by show k ≠ db; exact h2)).trans (hg.block k hk (fun e => h5 e.symm))).trans h4, fun e => ?_⟩
  rcases hat with h6 | h6
  · exact h5 (h6 ▸ e)
  · rw [h6] at e; injection e with e; omega

end Go.Proofs.Ytemjhdbmcdlpeaa

/- Plain: which object fills which place. -/
namespace Go.Proofs.Ytemjhdbmcdlpeaa
set_option linter.unusedSimpArgs false
set_option linter.unusedVariables false
open Go.RowKit

/-- All objects have so many words. -/
def Unif (s : Nat) (fs : List (List Int)) : Prop := ∀ f ∈ fs, f.length + 1 = s

theorem Unif.all {s : Nat} : ∀ {fs : List (List Int)}, Unif s fs → tot fs = fs.length * s
  | [], _ => by simp [tot]
  | f :: fs, h => by
    have h1 := h f (by simp)
    have h2 := Unif.all (s := s) (fs := fs) (fun x hx => h x (by simp [hx]))
    rw [tot_cons, h1, h2, List.length_cons, Nat.succ_mul, Nat.add_comm]

theorem Unif.at {s : Nat} {fs : List (List Int)} (h : Unif s fs) {k : Nat} (hk : k ≤ fs.length) : tot (fs.take k) = k * s := by
  have h1 : Unif s (fs.take k) := fun x hx => h x (List.mem_of_mem_take hx)
  rw [h1.all, List.length_take, Nat.min_eq_left hk]

theorem Unif.len {s : Nat} {fs : List (List Int)} (h : Unif s fs) {k : Nat} (hk : k < fs.length) : fs[k].length + 1 = s := h _ (List.getElem_mem hk)

theorem Unif.map {s : Nat} {fs : List (List Int)} (h : Unif s fs) {O : List Int} (hO : ∀ o ∈ O, 0 ≤ o ∧ o < fs.length) : Unif s (O.map (fO fs)) := by
  intro f hf
  obtain ⟨o, ho, rfl⟩ := List.mem_map.1 hf
  have := hO o ho
  obtain ⟨j, rfl⟩ := Int.eq_ofNat_of_zero_le this.1
  rw [fO_at (by omega)]
  exact h.len _

theorem Unif.append {s : Nat} {a b : List (List Int)} (ha : Unif s a) (hb : Unif s b) : Unif s (a ++ b) := fun f hf => by
  rcases List.mem_append.1 hf with h | h
  · exact ha f h
  · exact hb f h

theorem mem_mL (p : Nat → Bool) (n j : Nat) : (j : Int) ∈ mL p n ↔ j < n ∧ p j = true := by
  unfold mL
  constructor
  · intro h
    obtain ⟨k, hk, e⟩ := List.mem_map.1 h
    obtain rfl : k = j := by omega
    have := List.mem_filter.1 hk
    exact ⟨List.mem_range.1 this.1, this.2⟩
  · rintro ⟨h1, h2⟩
    exact List.mem_map.2 ⟨j, List.mem_filter.2 ⟨List.mem_range.2 h1, h2⟩, rfl⟩

theorem mL_nat {p : Nat → Bool} {n : Nat} {x : Int} (h : x ∈ mL p n) : ∃ j : Nat, x = (j : Int) ∧ j < n ∧ p j = true := by
  unfold mL at h
  obtain ⟨k, hk, e⟩ := List.mem_map.1 h
  have := List.mem_filter.1 hk
  exact ⟨k, e.symm, List.mem_range.1 this.1, this.2⟩

theorem mL_len_le (p : Nat → Bool) : ∀ n, (mL p n).length ≤ n
  | 0 => by simp [mL]
  | n + 1 => by
    have ih := mL_len_le p n
    cases h : p n
    · rw [mL_no h]; omega
    · rw [mL_yes h]; simp; omega

/-- Which objects stand at the first i places, and how many of them went there from further up, if those of R are kept. -/
def fgP (R : List Int) : Nat → List Int × Nat
  | 0 => ([], 0)
  | i + 1 => if (i : Int) ∈ R then ((fgP R i).1 ++ [(i : Int)], (fgP R i).2) else ((fgP R i).1 ++ [R.getD (R.length - ((fgP R i).2 + 1)) 0], (fgP R i).2 + 1)

theorem fgP_yes {R : List Int} {i : Nat} (h : (i : Int) ∈ R) : fgP R (i + 1) = ((fgP R i).1 ++ [(i : Int)], (fgP R i).2) := by
  show (if (i : Int) ∈ R then _ else _) = _
  rw [if_pos h]
theorem fgP_no {R : List Int} {i : Nat} (h : (i : Int) ∉ R) : fgP R (i + 1) = ((fgP R i).1 ++ [R.getD (R.length - ((fgP R i).2 + 1)) 0], (fgP R i).2 + 1) := by
  show (if (i : Int) ∈ R then _ else _) = _
  rw [if_neg h]
theorem fgP_len (R : List Int) : ∀ i, (fgP R i).1.length = i
  | 0 => rfl
  | i + 1 => by
    have ih := fgP_len R i
    by_cases h : (i : Int) ∈ R
    · rw [fgP_yes h]; simp [ih]
    · rw [fgP_no h]; simp [ih]
theorem fgP_le (R : List Int) : ∀ i, (fgP R i).2 ≤ i
  | 0 => Nat.le_refl _
  | i + 1 => by
    have ih := fgP_le R i
    by_cases h : (i : Int) ∈ R
    · rw [fgP_yes h]; simp only; omega
    · rw [fgP_no h]; simp only; omega

/-- What holds while one finger goes up to i and the other one down to u. -/
structure Fi (p : Nat → Bool) (n i u : Nat) : Prop where
  iu : i ≤ u
  un : u ≤ n
  cnt : (mL p u).length + (fgP (mL p n) i).2 = (mL p n).length
  low : (fgP (mL p n) i).2 + (mL p i).length = i
  nd : (fgP (mL p n) i).1.Nodup
  mem : ∀ x, x ∈ (fgP (mL p n) i).1 ↔ ∃ j : Nat, x = (j : Int) ∧ p j = true ∧ j < n ∧ (j < i ∨ u ≤ j)
  own : ∀ j, j < i → p j = true → (fgP (mL p n) i).1[j]? = some (j : Int)

theorem Fi.start (p : Nat → Bool) (n : Nat) : Fi p n 0 n := by
  refine ⟨Nat.zero_le _, Nat.le_refl _, by simp [fgP], by simp [fgP, mL], by simp [fgP], fun x => ?_, fun j h => by omega⟩
  simp only [fgP, List.not_mem_nil, false_iff]
  rintro ⟨j, _, _, h1, h2⟩
  omega

theorem Fi.keep {p : Nat → Bool} {n i u : Nat} (h : Fi p n i u) (hi : i < u) (hp : p i = true) : fgP (mL p n) (i + 1) = ((fgP (mL p n) i).1 ++ [(i : Int)], (fgP (mL p n) i).2) ∧ Fi p n (i + 1) u := by
  have hun := h.un
  have e := fgP_yes ((mem_mL p n i).2 ⟨by omega, hp⟩)
  have hl := fgP_len (mL p n) i
  refine ⟨e, by omega, hun, by rw [e]; exact h.cnt, ?_, ?_, fun x => ?_, fun j hj hpj => ?_⟩
  · rw [e, mL_yes hp]
    have := h.low
    simp only [List.length_append, List.length_cons, List.length_nil]
    omega
  · rw [e]
    simp only
    rw [List.nodup_append]
    refine ⟨h.nd, by simp, fun a ha b hb => ?_⟩
    simp only [List.mem_singleton] at hb
    subst hb
    rintro rfl
    obtain ⟨j, e2, _, _, h3⟩ := (h.mem _).1 ha
    omega
  · rw [e]
    simp only [List.mem_append, List.mem_singleton]
    rw [h.mem x]
    constructor
    · rintro (⟨j, h1, h2, h3, h4⟩ | rfl)
      · exact ⟨j, h1, h2, h3, by omega⟩
      · exact ⟨i, rfl, hp, by omega, by omega⟩
    · rintro ⟨j, h1, h2, h3, h4⟩
      by_cases hji : j = i
      · subst hji; exact .inr h1
      · exact .inl ⟨j, h1, h2, h3, by omega⟩
  · rw [e]
    simp only
    by_cases hji : j = i
    · subst hji
      rw [List.getElem?_append_right (by omega), hl]
      simp
    · rw [List.getElem?_append_left (by omega)]
      exact h.own j (by omega) hpj

theorem Fi.down {p : Nat → Bool} {n i u : Nat} (h : Fi p n i (u + 1)) (hi : i < u + 1) (hp : p u = false) : Fi p n i u := by
  have hc := h.cnt
  rw [mL_no hp] at hc
  refine ⟨by omega, by have := h.un; omega, hc, h.low, h.nd, fun x => ?_, h.own⟩
  rw [h.mem x]
  constructor
  · rintro ⟨j, h1, h2, h3, h4⟩
    exact ⟨j, h1, h2, h3, by omega⟩
  · rintro ⟨j, h1, h2, h3, h4⟩
    refine ⟨j, h1, h2, h3, ?_⟩
    have : j ≠ u := fun e => by rw [e, hp] at h2; cases h2
    omega

theorem Fi.swap {p : Nat → Bool} {n i u : Nat} (h : Fi p n i (u + 1)) (hi : i < u + 1) (hp : p i = false) (hq : p u = true) : i < u ∧ fgP (mL p n) (i + 1) = ((fgP (mL p n) i).1 ++ [(u : Int)], (fgP (mL p n) i).2 + 1) ∧ Fi p n (i + 1) u := by
  have hun := h.un
  have hiu : i < u := by
    have : i ≠ u := fun e => by rw [e, hq] at hp; cases hp
    omega
  have hl := fgP_len (mL p n) i
  have hc := h.cnt
  have hup := mL_pre p (u + 1) n hun
  have hul : (mL p (u + 1)).length = (mL p u).length + 1 := by rw [mL_yes hq]; simp
  have hg : (mL p n).getD ((mL p n).length - ((fgP (mL p n) i).2 + 1)) 0 = (u : Int) := by
    obtain ⟨t, ht⟩ := hup
    have e1 : (mL p n).length - ((fgP (mL p n) i).2 + 1) = (mL p u).length := by omega
    rw [e1, List.getD_eq_getElem?_getD, ← ht, mL_yes hq, List.append_assoc, List.getElem?_append_right (Nat.le_refl _)]
    simp
  have hni : (i : Int) ∉ mL p n := fun hm => by have := ((mem_mL p n i).1 hm).2; rw [hp] at this; cases this
  have e := fgP_no hni
  rw [hg] at e
  refine ⟨hiu, e, by omega, by omega, ?_, ?_, ?_, fun x => ?_, fun j hj hpj => ?_⟩
  · rw [e]; simp only; omega
  · rw [e, mL_no hp]
    have := h.low
    simp only
    omega
  · rw [e]
    simp only
    rw [List.nodup_append]
    refine ⟨h.nd, by simp, fun a ha b hb => ?_⟩
    simp only [List.mem_singleton] at hb
    subst hb
    rintro rfl
    obtain ⟨j, e2, _, _, h3⟩ := (h.mem _).1 ha
    omega
  · rw [e]
    simp only [List.mem_append, List.mem_singleton]
    rw [h.mem x]
    constructor
    · rintro (⟨j, h1, h2, h3, h4⟩ | rfl)
      · exact ⟨j, h1, h2, h3, by omega⟩
      · exact ⟨u, rfl, hq, by omega, by omega⟩
    · rintro ⟨j, h1, h2, h3, h4⟩
      by_cases hju : j = u
      · subst hju; exact .inr h1
      · have : j ≠ i := fun e => by rw [e, hp] at h2; cases h2
        exact .inl ⟨j, h1, h2, h3, by omega⟩
  · rw [e]
    simp only
    have : j ≠ i := fun e => by rw [e, hp] at hpj; cases hpj
    rw [List.getElem?_append_left (by omega)]
    exact h.own j (by omega) hpj

/-- Where they meet. -/
theorem Fi.meet {p : Nat → Bool} {n i : Nat} (h : Fi p n i i) : i = (mL p n).length := by
  have := h.cnt
  have := h.low
  omega

theorem Fi.end_ {p : Nat → Bool} {n : Nat} : ∀ (d : Nat) {i u : Nat}, u - i ≤ d → Fi p n i u → Fi p n (mL p n).length (mL p n).length
  | 0, i, u, hd, h => by
    have := h.iu
    obtain rfl : i = u := by omega
    have := h.meet
    rw [← this]; exact h
  | d + 1, i, u, hd, h => by
    have := h.iu
    by_cases e : i = u
    · subst e
      have := h.meet
      rw [← this]; exact h
    · obtain ⟨u, rfl⟩ : ∃ k, u = k + 1 := ⟨u - 1, by omega⟩
      cases hp : p i
      · cases hq : p u
        · exact Fi.end_ d (by omega) (h.down (by omega) hq)
        · exact Fi.end_ d (by omega) (h.swap (by omega) hp hq).2.2
      · exact Fi.end_ d (by omega) (h.keep (by omega) hp).2

theorem Fi.fin (p : Nat → Bool) (n : Nat) : Fi p n (mL p n).length (mL p n).length := Fi.end_ n (by omega) (Fi.start p n)

/-- The objects that are kept, as they come to stand; and how many went. -/
def fgL (R : List Int) : List Int := (fgP R R.length).1
def fgT (R : List Int) : Nat := (fgP R R.length).2

theorem fgL_len (R : List Int) : (fgL R).length = R.length := fgP_len R _

theorem mem_fgL (p : Nat → Bool) (n : Nat) (x : Int) : x ∈ fgL (mL p n) ↔ x ∈ mL p n := by
  unfold fgL
  rw [(Fi.fin p n).mem x]
  constructor
  · rintro ⟨j, rfl, h1, h2, _⟩
    exact (mem_mL p n j).2 ⟨h2, h1⟩
  · intro hx
    obtain ⟨j, rfl, h1, h2⟩ := mL_nat hx
    exact ⟨j, rfl, h2, h1, by omega⟩

/-- A kept object that stands where it may stay stays. -/
theorem fgL_own (p : Nat → Bool) (n : Nat) {j : Nat} (hj : j < (mL p n).length) (hp : p j = true) : (fgL (mL p n))[j]? = some (j : Int) := (Fi.fin p n).own j hj hp

theorem fgL_nodup (p : Nat → Bool) (n : Nat) : (fgL (mL p n)).Nodup := (Fi.fin p n).nd

section
variable {hs : List Int} {fs : List (List Int)} {rs : List Int}

theorem exists_mark (h : Arn hs fs rs) : ∃ p : Nat → Bool, ∀ j, p j = true ↔ Rch fs rs j := by
  classical
  exact ⟨fun j => decide (Rch fs rs j), fun j => by simp⟩

theorem whole_fgL (h : Arn hs fs rs) : Whole (readG fs rs) (fgL (rL fs rs)) := by
  obtain ⟨p, hp⟩ := exists_mark h
  have hW := whole_rL h
  rw [← mL_rL h hp] at hW ⊢
  refine ⟨fgL_nodup _ _, fun o ho => hW.rng o ((mem_fgL _ _ _).1 ho), fun x hx => (mem_fgL _ _ _).2 (hW.roots x hx), fun o ho x hx => (mem_fgL _ _ _).2 (hW.fields o ((mem_fgL _ _ _).1 ho) x hx)⟩

theorem mem_fgL_rL (h : Arn hs fs rs) (x : Int) : x ∈ fgL (rL fs rs) ↔ x ∈ rL fs rs := by
  obtain ⟨p, hp⟩ := exists_mark h
  rw [← mL_rL h hp]
  exact mem_fgL _ _ _

end

/-- A map that tells where those that went are now, by where they stood. -/
def WnD (s : Nat) (p : Nat → Bool) (n u : Nat) (O : List Int) (M : DataW Unit) : Prop :=
  ∀ j, j < n → Maps.has M (.int .i64 (j * s : Nat)) = (p j && decide (u ≤ j)) ∧
    (p j = true → u ≤ j → (j : Int) ∈ O ∧ M.atKey (.int .i64 (j * s : Nat)) (.lit (.int .i64 0)) = .lit (.int .i64 ((O.idxOf (j : Int) * s : Nat) : Int)))

theorem wnD_nil (s : Nat) (p : Nat → Bool) (n : Nat) : WnD s p n n [] (.map []) := fun j hj => ⟨by simp [Maps.has_eq]; omega, fun _ h => by omega⟩

theorem idxOf_snoc {O : List Int} {x y : Int} (h : x ∈ O) : (O ++ [y]).idxOf x = O.idxOf x := idxOf_append_left h

theorem WnD.keep {s : Nat} {p : Nat → Bool} {n u : Nat} {O : List Int} {M : DataW Unit} (h : WnD s p n u O M) (y : Int) : WnD s p n u (O ++ [y]) M := fun j hj => by
  obtain ⟨h1, h2⟩ := h j hj
  refine ⟨h1, fun a b => ?_⟩
  obtain ⟨h3, h4⟩ := h2 a b
  exact ⟨by simp [h3], by rw [idxOf_snoc h3]; exact h4⟩

theorem WnD.down {s : Nat} {p : Nat → Bool} {n u : Nat} {O : List Int} {M : DataW Unit} (h : WnD s p n (u + 1) O M) (hp : p u = false) : WnD s p n u O M := fun j hj => by
  obtain ⟨h1, h2⟩ := h j hj
  by_cases e : j = u
  · subst e
    refine ⟨by rw [h1, hp]; simp, fun a => by rw [hp] at a; cases a⟩
  · refine ⟨by rw [h1]; congr 1; apply decide_eq_decide.2; omega, fun a b => h2 a (by omega)⟩

theorem WnD.put {s : Nat} {p : Nat → Bool} {n u : Nat} {O : List Int} {M : DataW Unit} (h : WnD s p n (u + 1) O M) (hs : 0 < s) (hM : Maps.IsMap M) (hu : u < n) (hp : p u = true) (hn : (u : Int) ∉ O) :
    WnD s p n u (O ++ [(u : Int)]) (M.put (.int .i64 (u * s : Nat)) (.lit (.int .i64 ((O.length * s : Nat) : Int)))) := by
  have hk : WideAt.IsKeyLit (.int .i64 (u * s : Nat)) := trivial
  intro j hj
  by_cases e : j = u
  · subst e
    refine ⟨by rw [Maps.has_put_same hM hk, hp]; simp, fun _ _ => ⟨by simp, ?_⟩⟩
    rw [Maps.atKey_put_same hM hk, idxOf_ge hn]
  · have hne : ((j * s : Nat) : Int) ≠ ((u * s : Nat) : Int) := fun e' => e (Nat.eq_of_mul_eq_mul_right hs (by omega))
    rw [Maps.has_put_other (by simpa using hne), Maps.atKey_put_other (by simpa using hne)]
    obtain ⟨h1, h2⟩ := h j hj
    refine ⟨by rw [h1]; congr 1; apply decide_eq_decide.2; omega, fun a b => ?_⟩
    obtain ⟨h3, h4⟩ := h2 a (by omega)
    exact ⟨by simp [h3], by rw [idxOf_snoc h3]; exact h4⟩

end Go.Proofs.Ytemjhdbmcdlpeaa

/- Walks: header, what turns a word. -/
namespace Go.Proofs.Ytemjhdbmcdlpeaa
set_option linter.unusedSimpArgs false
set_option linter.unusedVariables false
open Go.RowKit Go.Shelf

set_option maxRecDepth 100000 in
set_option maxHeartbeats 1000000 in
theorem fheader_c (x : Int) (w : World) (h1 : 0 ≤ x) (h2 : x < 18446744073709551616) :
    Calls Try.prog 39 #[.int .u64 x] w fun e w' => e = .returned (.agg #[.int .i64 (uhL x), .bool (uhM x), .int .i64 (uhA x)]) ∧ Below w.heap.size w w' := by
  have hb0 : Below w.heap.size w (w.alloc (.cells #[.int .i64 0, .bool false, .int .i64 0] 32)) := (Below.refl _ _).alloc (Nat.le_refl _) _
  go_enter Try.func39, Try.ntmps39
  go_wp2_with fail
  refine (unhead_c x _ h1 h2).mono ?_
  rintro e w2 ⟨rfl, hb2⟩
  simp only [World.size_alloc] at hb2
  have g0 := hb2.cell (p := ⟨w.heap.size, 0, none⟩) (show w.heap.size < _ by omega)
  have g1 := hb2.cell (p := ⟨w.heap.size, 1, none⟩) (show w.heap.size < _ by omega)
  have g2 := hb2.cell (p := ⟨w.heap.size, 2, none⟩) (show w.heap.size < _ by omega)
  have f0 := hb2.frozen (p := ⟨w.heap.size, 0, none⟩) (show w.heap.size < _ by omega)
  have f1 := hb2.frozen (p := ⟨w.heap.size, 1, none⟩) (show w.heap.size < _ by omega)
  have f2 := hb2.frozen (p := ⟨w.heap.size, 2, none⟩) (show w.heap.size < _ by omega)
  simp [go_sem] at g0 g1 g2 f0 f1 f2
  have hs2 := hb2.size
  simp only [World.size_alloc] at hs2
  have hlt2 : w.heap.size < w2.heap.size := by omega
  have hbw2 := hb0.trans (hb2.mono (by omega))
  clear hb0 hb2
  go_wp2
  obtain ⟨W3, hW3⟩ : ∃ W3, ((w2.setCell ⟨w.heap.size, 0, none⟩ (.int .i64 (uhL x))).setCell ⟨w.heap.size, 1, none⟩ (.bool (uhM x))).setCell ⟨w.heap.size, 2, none⟩ (.int .i64 (uhA x)) = W3 := ⟨_, rfl⟩
  have i0 : W3.cell? ⟨w.heap.size, 0, none⟩ = some (.int .i64 (uhL x)) := by rw [← hW3]; simp [go_sem, g0, g1, g2]
  have i1 : W3.cell? ⟨w.heap.size, 1, none⟩ = some (.bool (uhM x)) := by rw [← hW3]; simp [go_sem, g0, g1, g2]
  have i2 : W3.cell? ⟨w.heap.size, 2, none⟩ = some (.int .i64 (uhA x)) := by rw [← hW3]; simp [go_sem, g0, g1, g2]
  have hlt3 : w.heap.size < W3.heap.size := by rw [← hW3]; simpa [World.setCell] using hlt2
  have hb3 : Below w.heap.size w W3 := by rw [← hW3]; exact ((hbw2.setCell (p := ⟨w.heap.size, 0, none⟩) (Nat.le_refl _) _).setCell (p := ⟨w.heap.size, 1, none⟩) (Nat.le_refl _) _).setCell (p := ⟨w.heap.size, 2, none⟩) (Nat.le_refl _) _
  rw [hW3]
  clear hW3
  obtain ⟨W4, hW4⟩ : ∃ W4, W3.alloc (.cells #[.int .i64 (uhL x), .bool (uhM x), .int .i64 (uhA x)] 32) = W4 := ⟨_, rfl⟩
  rw [hW4]
  have hb4 : Below w.heap.size w W4 := by rw [← hW4]; exact hb3.alloc (by omega) _
  have k0 : W4.cell? ⟨w.heap.size, 0, none⟩ = some (.int .i64 (uhL x)) := by rw [← hW4, World.cell?_alloc_past _ _ _ hlt3]; exact i0
  have k1 : W4.cell? ⟨w.heap.size, 1, none⟩ = some (.bool (uhM x)) := by rw [← hW4, World.cell?_alloc_past _ _ _ hlt3]; exact i1
  have k2 : W4.cell? ⟨w.heap.size, 2, none⟩ = some (.int .i64 (uhA x)) := by rw [← hW4, World.cell?_alloc_past _ _ _ hlt3]; exact i2
  refine bodyPost_ret (v := .agg #[.int .i64 (uhL x), .bool (uhM x), .int .i64 (uhA x)]) (by simp [results, Try.results39, go_sem, k0, k1, k2]) rfl ?_
  exact ⟨rfl, hb4⟩

theorem wf_i64g {x : Int} (h1 : -9223372036854775808 ≤ x) (h2 : x ≤ 9223372036854775807) : (Lit.int .i64 x).wf = true := by
  simp [Lit.wf, IntKind.min, IntKind.max, IntKind.signed, IntKind.bits]; omega

/-- A map in memory that tells where those that went are now. -/
def WnM (W : World) (N mb s : Nat) (p : Nat → Bool) (n u t : Nat) (O : List Int) : Prop := ∃ M, W.ownsMap Try.prog 3 (plainElem Try.prog 3) mb t M ∧ N ≤ mb ∧ WnD s p n u O M ∧ Maps.size M = t

theorem WnM.lt {W : World} {N mb s : Nat} {p : Nat → Bool} {n u t : Nat} {O : List Int} (h : WnM W N mb s p n u t O) : mb < W.heap.size := by
  obtain ⟨M, h1, _⟩ := h
  exact h1.lt

theorem WnM.kept {W W' : World} {N mb s : Nat} {p : Nat → Bool} {n u t : Nat} {O : List Int} {o : Option Nat} (h : WnM W N mb s p n u t O) (hg : W.grownBy W' o) (ho : some mb ≠ o) : WnM W' N mb s p n u t O := by
  obtain ⟨M, h1, h2, h3⟩ := h
  exact ⟨M, h1.kept hg ho, h2, h3⟩

theorem WnM.below {W W' : World} {N mb s : Nat} {p : Nat → Bool} {n u t : Nat} {O : List Int} (h : WnM W N mb s p n u t O) (hb : Below W.heap.size W W') : WnM W' N mb s p n u t O := h.kept (grown_none hb) (by simp)

set_option maxRecDepth 100000 in
theorem WnM.look {W : World} {N mb s : Nat} {p : Nat → Bool} {n u t : Nat} {O : List Int} (h : WnM W N mb s p n u t O) {x : Int} (h1 : -9223372036854775808 ≤ x) (h2 : x ≤ 9223372036854775807) :
    ∃ (d : Int) (b : Bool), (Instr.lookup 52 (.map (some mb)) (.int .i64 x) true).run Try.prog W = .ok (.tuple #[.int .i64 d, .bool b]) W ∧ ∀ j, j < n → x = ((j * s : Nat) : Int) → b = (p j && decide (u ≤ j)) ∧ (p j = true → u ≤ j → d = ((O.idxOf (j : Int) * s : Nat) : Int)) := by
  obtain ⟨M, hm, _, hd, _⟩ := h
  obtain ⟨v, ps, e1, e2⟩ := hm.look_ok (Maps.int_keyed Try.underlying3) Try.underlying52 (Try.zeroValue3 _) (plainElem_int Try.underlying3 (by decide)) (Maps.keyOf_int_mk Try.underlying3 (wf_i64g h1 h2))
  obtain ⟨d, rfl, e3, _⟩ := plainElem_int_inv Try.underlying3 e2
  refine ⟨d, _, e1, fun j hj e => ?_⟩
  subst e
  obtain ⟨h3, h4⟩ := hd j hj
  refine ⟨h3, fun a b => ?_⟩
  have h5 := (h4 a b).2
  injection e3 with e3 _
  rw [h5] at e3
  injection e3 with e3
  injection e3 with _ e3
  exact e3.symm

theorem unNum_lo (x : Int) (h1 : 0 ≤ x) (h2 : x < 18446744073709551616) : -9223372036854775808 ≤ unNum x ∧ unNum x ≤ 9223372036854775807 := by
  unfold unNum
  split
  · split <;> omega
  · split <;> omega

/-- A word, turned. -/
theorem twW_uni {s : Nat} {fs : List (List Int)} {L : List Int} (hu : Unif s fs) (hO : OOk fs L) {x : Int} {j : Nat} (hr : unRef x = true) (hj : (stF 0 fs)[j]? = some (unNum x)) (hm : (j : Int) ∈ L) :
    unNum x = ((j * s : Nat) : Int) ∧ j < fs.length ∧ twW fs L x = packW true ((L.idxOf (j : Int) * s : Nat) : Int) := by
  have hjl : j < fs.length := by have := (List.getElem?_eq_some_iff.1 hj).1; rw [stF_len] at this; exact this
  have hg := stF_get fs 0 j hjl
  rw [hj, Nat.zero_add, hu.at (by omega)] at hg
  injection hg with hg
  refine ⟨hg, hjl, ?_⟩
  rw [twW_ref (by rw [valW_ref hr, placeOf_nodup (stF_nodup fs 0) hj]) hm, (hu.map hO.rng).at (by have := List.idxOf_lt_length_iff.2 hm; simp; omega)]

set_option maxRecDepth 100000 in
set_option maxHeartbeats 2000000 in
theorem tw1_c (x : Int) (fs : List (List Int)) (L : List Int) (s : Nat) (p : Nat → Bool) (N mb pb t : Nat) (w : World) (hx1 : 0 ≤ x) (hx2 : x < 18446744073709551616) (hok : okW (stF 0 fs) x = true) (hu : Unif s fs) (hO : OOk fs L)
    (hpb : w.cell? ⟨pb, 0, none⟩ = some (.map (some mb))) (hM : WnM w N mb s p fs.length L.length t L) (hin : ∀ j : Nat, unRef x = true → (stF 0 fs)[j]? = some (unNum x) → (j : Int) ∈ L ∧ p j = true)
    (hown : ∀ j : Nat, j < L.length → p j = true → L[j]? = some (j : Int)) (h256 : tot fs ≤ 256) :
    Calls Try.prog 42 #[.int .u64 x, .pointer (some ⟨pb, 0, none⟩)] w fun e w' => e = .returned (.int .u64 (twW fs L x)) ∧ Below w.heap.size w w' := by
  have hl0 : pb < w.heap.size := World.block_lt_of_cell? w _ hpb
  have Hc := hide (unpack_c x w hx1 hx2)
  have HM := hide hM
  have hb := unNum_lo x hx1 hx2
  have Href := hide (fun (j : Nat) (hr : unRef x = true) (hj : (stF 0 fs)[j]? = some (unNum x)) => twW_uni (L := L) hu hO hr hj (hin j hr hj).1)
  have Hin := hide hin
  have Hex := hide (ok_ref hok)
  have Hpk := hide (pack_un x hx1 hx2 (ok_ref hok).1)
  have Hnum : Hid (unRef x = false → twW fs L x = x) := fun h => twW_num h hx1 hx2 (ok_ref hok).1
  have HO := hide hO
  have Hu := hide hu
  have Hown := hide hown
  clear hM hin hok hO hu hown
  go_enter Try.func42, Try.ntmps42
  go_wp2_with fail
  refine (unhide Hc).mono ?_
  rintro e w3 ⟨rfl, hb3⟩
  have hs3 := hb3.size
  have hl3 : pb < w3.heap.size := by omega
  replace hpb := (hb3.cell (p := ⟨pb, 0, none⟩) hl0).trans hpb
  have hbf := hb3.alloc hs3 (.cells #[.bool (unRef x), .int .i64 (unNum x)] 64)
  have HM3 := hide ((unhide HM).below hbf)
  obtain ⟨d, b, hlk, hd⟩ := (unhide HM3).look hb.1 hb.2
  have Hd := hide hd
  clear hd Hc HM
  cases hr : unRef x
  · have hx := unhide Hnum hr
    rw [hr] at hlk hbf
    cases b
    · go_wp2
      go_ret
      exact ⟨by rw [hx]; rfl, hbf⟩
    · go_wp2
      go_ret
      exact ⟨by rw [hx]; rfl, hbf⟩
  · obtain ⟨j, hj⟩ := (unhide Hex).2 hr
    obtain ⟨h1, h2, h3⟩ := unhide Href j hr hj
    obtain ⟨hm, hp⟩ := unhide Hin j hr hj
    obtain ⟨h4, h5⟩ := unhide Hd j h2 h1
    rw [hp, Bool.true_and] at h4
    rw [hr] at hlk hbf
    by_cases hle : L.length ≤ j
    · have hbt : b = true := by rw [h4]; simpa using hle
      have hd := h5 hp hle
      have hq : L.idxOf (j : Int) * s ≤ 256 := by
        have h6 := List.idxOf_lt_length_iff.2 hm
        have h7 := ((unhide Hu).map (unhide HO).rng).all
        have h8 := (unhide HO).tot_le
        rw [h7, List.length_map] at h8
        have := Nat.mul_le_mul_right s (Nat.le_of_lt h6)
        omega
      subst hbt hd
      have Hc2 := hide (fun W => pack_c true ((L.idxOf (j : Int) * s : Nat) : Int) W (by omega) (by omega))
      clear h4 h5 hm h2 Href Hin Hex Hpk Hnum HO Hu Hown Hd hq
      generalize L.idxOf (j : Int) * s = q at *
      clear HM3 h1
      go_wp2_with fail
      refine (unhide Hc2 _).mono ?_
      rintro e w5 ⟨rfl, hb5⟩
      have hb5' := hbf.trans (hb5.mono (by simp; omega))
      go_wp2
      go_ret
      exact ⟨by rw [h3]; rfl, hb5'⟩
    · have hbf' : b = false := by rw [h4]; simp; omega
      have hself : twW fs L x = x := by
        rw [h3]
        have e := unhide Hown j (by omega) hp
        have e2 : L.idxOf (j : Int) = j := by
          have h6 := List.idxOf_lt_length_iff.2 hm
          have h7 := List.getElem?_eq_getElem h6
          rw [List.getElem_idxOf h6] at h7
          exact (List.getElem?_inj h6 (unhide HO).nd).1 (h7.trans e.symm)
        rw [e2, ← h1, ← hr]
        exact (unhide Hpk).2
      subst hbf'
      clear h3 h4 h5 h1 Href Hin Hex Hpk Hnum HO Hu Hown Hd HM3
      go_wp2
      go_ret
      exact ⟨by rw [hself]; rfl, hbf⟩

end Go.Proofs.Ytemjhdbmcdlpeaa

/- Walks: rows of words that are written. -/
namespace Go.Proofs.Ytemjhdbmcdlpeaa
set_option linter.unusedSimpArgs false
set_option linter.unusedVariables false
open Go.RowKit Go.Shelf

/-- An owned row's cells. -/
theorem own_cur {W : World} {N g n c : Nat} {ws : List Int} (h : W.ownsRow N 56 1 (.slice (some ⟨g, 0, none⟩) n c) n (wordsV ws)) :
    ∃ cur, W.heap[g]? = some (.cells cur 56 (0, 0)) ∧ N ≤ g ∧ n ≤ c ∧ c ≤ maxLen ∧ cur.size = c ∧ cur.toList.take n = wordsV ws ∧ ws.length = n := by
  obtain ⟨h0, h2⟩ := h
  rw [wordsV_len] at h0
  rcases h2 with ⟨hv, _⟩ | ⟨g', cap, cur, hv, h3, h4, h5, h6, h7, h8⟩
  · cases hv
  · injection hv with e1 _ e2
    injection e1 with e1
    injection e1 with e1
    subst e1 e2
    exact ⟨cur, h4, h3, h5, h6, by omega, by simpa using h8, by omega⟩

theorem own_of_cur {W : World} {N g n c : Nat} {ws : List Int} {cur : Array Value} (h1 : W.heap[g]? = some (.cells cur 56 (0, 0))) (h2 : N ≤ g) (h3 : n ≤ c) (h4 : c ≤ maxLen) (h5 : cur.size = c) (h6 : cur.toList.take n = wordsV ws) (h7 : ws.length = n) :
    W.ownsRow N 56 1 (.slice (some ⟨g, 0, none⟩) n c) n (wordsV ws) :=
  ⟨by rw [wordsV_len]; omega, .inr ⟨g, c, cur, rfl, h2, h1, h3, h4, by omega, by simpa using h6⟩⟩

theorem own_cell {W : World} {N g n c : Nat} {ws : List Int} (h : W.ownsRow N 56 1 (.slice (some ⟨g, 0, none⟩) n c) n (wordsV ws)) {j : Nat} {x : Int} (hx : ws[j]? = some x) : W.cell? ⟨g, j, none⟩ = some (.int .u64 x) ∧ W.frozen? ⟨g, j, none⟩ = false := by
  obtain ⟨cur, h1, _, h3, _, h5, h6, h7⟩ := own_cur h
  have hl := (List.getElem?_eq_some_iff.1 hx).1
  refine ⟨?_, ?_⟩
  · rw [cell_of_row W g j cur 56 (0, 0) h1]
    have : (wordsV ws)[j]? = some (.int .u64 x) := by simp [wordsV, hx]
    rw [← h6, List.getElem?_take, if_pos (by omega)] at this
    simpa using this
  · exact frozen_of_row W g j cur 56 h1

/-- A word is stored. -/
theorem own_set {W : World} {N g n c : Nat} {ws : List Int} (h : W.ownsRow N 56 1 (.slice (some ⟨g, 0, none⟩) n c) n (wordsV ws)) (j : Nat) (y : Int) :
    (W.setCell ⟨g, j, none⟩ (.int .u64 y)).ownsRow N 56 1 (.slice (some ⟨g, 0, none⟩) n c) n (wordsV (ws.set j y)) := by
  have e : wordsV (ws.set j y) = (wordsV ws).set j (.int .u64 y) := by simp [wordsV, List.map_set]
  rw [e]
  exact (h.stored j (.int .u64 y)).1

/-- Words from a place on are laid over. -/
def splW (ws : List Int) (o : Nat) (cs : List Int) : List Int := ws.take o ++ (cs ++ ws.drop (o + cs.length))

theorem splW_len {ws cs : List Int} {o : Nat} (h : o + cs.length ≤ ws.length) : (splW ws o cs).length = ws.length := by simp [splW]; omega

theorem own_spl {W : World} {N g n c : Nat} {ws cs : List Int} {o : Nat} (h : W.ownsRow N 56 1 (.slice (some ⟨g, 0, none⟩) n c) n (wordsV ws)) (hfit : o + cs.length ≤ n) {cur : Array Value} (hg : W.heap[g]? = some (.cells cur 56 (0, 0))) :
    (W.setRow g (cur.toList.take o ++ wordsV cs ++ cur.toList.drop (o + (wordsV cs).length)).toArray).ownsRow N 56 1 (.slice (some ⟨g, 0, none⟩) n c) n (wordsV (splW ws o cs)) := by
  obtain ⟨cur', h1, h2, h3, h4, h5, h6, h7⟩ := own_cur h
  rw [hg] at h1
  injection h1 with h1
  injection h1 with h1
  subst h1
  refine own_of_cur (setRow_heap W g _ _ _ _ hg) h2 h3 h4 ?_ ?_ ?_
  · simp [wordsV_len]; omega
  · rw [wordsV_len]
    have e : wordsV (splW ws o cs) = (wordsV ws).take o ++ (wordsV cs ++ (wordsV ws).drop (o + cs.length)) := by simp [splW, wordsV]
    rw [e]
    have hr : cur.toList = wordsV ws ++ cur.toList.drop n := by rw [← h6]; exact (List.take_append_drop n _).symm
    have hwl := wordsV_len ws
    generalize cur.toList.drop n = rest at *
    clear h6
    have hcl := wordsV_len cs
    generalize wordsV ws = A at *
    generalize wordsV cs = B at *
    have e1 : (A ++ rest).take o = A.take o := List.take_append_of_le_length (by omega)
    have e2 : (A ++ rest).drop (o + cs.length) = A.drop (o + cs.length) ++ rest := List.drop_append_of_le_length (by omega)
    simp only [hr, e1, hcl, e2]
    have e3 : A.take o ++ B ++ (A.drop (o + cs.length) ++ rest) = (A.take o ++ (B ++ A.drop (o + cs.length))) ++ rest := by simp [List.append_assoc]
    rw [e3, List.take_append_of_le_length (by simp; omega), List.take_of_length_le (by simp; omega)]
  · rw [splW_len (by omega)]; exact h7

theorem grown_row {W : World} {g : Nat} {cs : Array Value} : W.grownBy (W.setRow g cs) (some g) :=
  ⟨rfl, rfl, rfl, by simp [World.setRow], fun k hk hne => setRow_other W g k cs (fun e => hne (by rw [e]))⟩

theorem step_cp {ops : Array Oper} {o : Oper} {a : Act} {w : World} {K : Act → World → Prop} {Q : Exit → Act → World → Prop} {E : Prop}
    (hg : o.guard = none) (d x : Operand) (dT sT : TypeId) (hop : o.op = Op.call { callee := Callee.builtin Builtin.copy, args := #[d, x], argTypes := #[dT, sT] })
    (v u : Value) (hd : a.eval d = v) (hx : a.eval x = u) {v' : Value} {w' : World} (hr : (Builtin.copy_ #[dT, sT] o.type #[v, u]).run Try.prog w = .ok v' w') (hK : K (a.put o.dst v') w') :
    if Region.wanted o (yielded ops a.tmps) = true then Oper.wp Try.prog o a w K Q else E := by
  have hw : Region.wanted o (yielded ops a.tmps) = true := by simp [Region.wanted, hg]
  rw [if_pos hw]
  unfold Oper.wp
  simp [execOp, hop, resolve, invoke, builtin, hd, hx, hr, Result.andThen]
  exact hK

end Go.Proofs.Ytemjhdbmcdlpeaa

/- Plain: the words of objects of one size. -/
namespace Go.Proofs.Ytemjhdbmcdlpeaa
set_option linter.unusedSimpArgs false
set_option linter.unusedVariables false
open Go.RowKit

theorem joinW_parts {A : List Int} {B : List (List Int)} (hl : A.length = B.length) {k : Nat} (hk : k < B.length) {x : Int} {f : List Int} (hx : A[k]? = some x) (hf : B[k]? = some f) :
    joinW A B = joinW (A.take k) (B.take k) ++ ((x :: f) ++ joinW (A.drop (k + 1)) (B.drop (k + 1))) := by
  have e1 : A = A.take k ++ (x :: A.drop (k + 1)) := by
    have hk' : k < A.length := by omega
    rw [List.getElem?_eq_getElem hk'] at hx
    injection hx with hx
    rw [← hx, ← List.drop_eq_getElem_cons hk', List.take_append_drop]
  have e2 : B = B.take k ++ (f :: B.drop (k + 1)) := by
    rw [List.getElem?_eq_getElem hk] at hf
    injection hf with hf
    rw [← hf, ← List.drop_eq_getElem_cons hk, List.take_append_drop]
  have e3 : joinW A B = joinW (A.take k ++ (x :: A.drop (k + 1))) (B.take k ++ (f :: B.drop (k + 1))) := by rw [← e1, ← e2]
  rw [e3, joinW_append _ _ _ _ (by simp; omega)]
  rfl

section
variable {s : Nat} {A : List Int} {B : List (List Int)}

theorem uj_pre (hl : A.length = B.length) (hu : Unif s B) {k : Nat} (hk : k ≤ B.length) : (joinW (A.take k) (B.take k)).length = k * s := by
  rw [joinW_len _ _ (by simp; omega), hu.at hk]

theorem uj_len (hl : A.length = B.length) (hu : Unif s B) : (joinW A B).length = B.length * s := by rw [joinW_len _ _ hl, hu.all]

theorem uj_get (hl : A.length = B.length) (hu : Unif s B) {k : Nat} (hk : k < B.length) : (joinW A B)[k * s]? = A[k]? := by
  rw [← hu.at (by omega)]
  exact joinW_get A B k hl hk

theorem uj_set (hl : A.length = B.length) (hu : Unif s B) {k : Nat} (hk : k < B.length) (y : Int) : (joinW A B).set (k * s) y = joinW (A.set k y) B := by
  rw [← hu.at (by omega)]
  exact joinW_set A B k y hl hk

theorem uj_obj (hl : A.length = B.length) (hu : Unif s B) {k : Nat} (hk : k < B.length) {x : Int} {f : List Int} (hx : A[k]? = some x) (hf : B[k]? = some f) : ((joinW A B).drop (k * s)).take s = x :: f := by
  have hfs : f.length + 1 = s := hu f (List.mem_of_getElem? hf)
  rw [joinW_parts hl hk hx hf]
  have h1 := uj_pre hl hu (show k ≤ B.length by omega)
  rw [List.drop_append_of_le_length (by omega), List.drop_of_length_le (by omega), List.nil_append, List.take_append_of_le_length (by simp; omega), List.take_of_length_le (by simp; omega)]

theorem uj_fields (hl : A.length = B.length) (hu : Unif s B) {k : Nat} (hk : k < B.length) {f : List Int} (hf : B[k]? = some f) : ((joinW A B).drop (k * s + 1)).take f.length = f := by
  rw [← hu.at (by omega)]
  exact joinW_fields A B k f hl hf

theorem uj_spl (hl : A.length = B.length) (hu : Unif s B) {k : Nat} (hk : k < B.length) (y : Int) {g : List Int} (hg : g.length + 1 = s) : splW (joinW A B) (k * s) (y :: g) = joinW (A.set k y) (B.set k g) := by
  have hk' : k < A.length := by omega
  have h1 := uj_pre hl hu (show k ≤ B.length by omega)
  have hx := List.getElem?_eq_getElem hk'
  have hf := List.getElem?_eq_getElem hk
  have hfs := hu.len hk
  rw [joinW_parts hl hk hx hf, joinW_parts (A := A.set k y) (B := B.set k g) (by simpa using hl) (by simpa using hk) (x := y) (f := g) (by simp [hk']) (by simp [hk])]
  unfold splW
  rw [List.take_append_of_le_length (by omega), List.take_of_length_le (by omega)]
  rw [List.take_set_of_le (Nat.le_refl _), List.take_set_of_le (Nat.le_refl _), List.drop_set_of_lt (by omega), List.drop_set_of_lt (by omega)]
  congr 2
  rw [List.drop_append, h1, show k * s + (y :: g).length - k * s = s by simp; omega, List.drop_of_length_le (by simp; omega), List.nil_append, List.drop_append, List.drop_of_length_le (by simp; omega), List.nil_append]
  simp [hfs]

theorem uj_fspl (hl : A.length = B.length) (hu : Unif s B) {k : Nat} (hk : k < B.length) {g : List Int} (hg : g.length + 1 = s) : splW (joinW A B) (k * s + 1) g = joinW A (B.set k g) := by
  have hk' : k < A.length := by omega
  have h1 := uj_pre hl hu (show k ≤ B.length by omega)
  have hx := List.getElem?_eq_getElem hk'
  have hf := List.getElem?_eq_getElem hk
  have hfs := hu.len hk
  have e := uj_spl hl hu hk A[k] hg
  rw [List.set_getElem_self] at e
  rw [← e]
  have hgt : (joinW A B)[k * s]? = some A[k] := by rw [uj_get hl hu hk]; exact hx
  have hlt := (List.getElem?_eq_some_iff.1 hgt)
  unfold splW
  rw [List.take_succ_eq_append_getElem hlt.1, hlt.2]
  simp only [List.append_assoc, List.cons_append, List.nil_append, List.length_cons]
  congr 3
  congr 1
  omega

theorem uj_take (hl : A.length = B.length) (hu : Unif s B) {k : Nat} (hk : k ≤ B.length) : (joinW A B).take (k * s) = joinW (A.take k) (B.take k) := by
  have e3 : joinW A B = joinW (A.take k ++ A.drop k) (B.take k ++ B.drop k) := by rw [List.take_append_drop, List.take_append_drop]
  have h1 := uj_pre hl hu hk
  rw [e3, joinW_append _ _ _ _ (by simp; omega), List.take_append_of_le_length (by omega), List.take_of_length_le (by omega)]

end

/-- A marked header, by the object's number. -/
def rM (hs : List Int) (o : Int) : Int := reh true (hs.getD o.toNat 0)
/-- The headers and fields of what stands at each place, while holes are filled. -/
def fgA (hs : List Int) (p : Nat → Bool) (l : List Int) (i : Nat) : List Int := l.map (rM hs) ++ (mkH hs p).drop i
def fgB (fs : List (List Int)) (l : List Int) (i : Nat) : List (List Int) := l.map (fO fs) ++ fs.drop i

section
variable {hs : List Int} {fs : List (List Int)} {rs : List Int} {p : Nat → Bool}

theorem rM_at {i : Nat} {y : Int} (h : hs[i]? = some y) : rM hs (i : Int) = reh true y := by simp [rM, List.getD_eq_getElem?_getD, h]

theorem fgA_start (hs : List Int) (p : Nat → Bool) : fgA hs p [] 0 = mkH hs p := by simp [fgA]
theorem fgB_start (fs : List (List Int)) : fgB fs [] 0 = fs := by simp [fgB]

theorem fgA_len {l : List Int} {i : Nat} (hl : l.length = i) (hi : i ≤ hs.length) : (fgA hs p l i).length = hs.length := by
  unfold fgA; rw [List.length_append, List.length_map, List.length_drop, mkH_len]; omega
theorem fgB_len {l : List Int} {i : Nat} (hl : l.length = i) (hi : i ≤ fs.length) : (fgB fs l i).length = fs.length := by
  unfold fgB; rw [List.length_append, List.length_map, List.length_drop]; omega

theorem fgB_unif {s : Nat} (hu : Unif s fs) {l : List Int} (hl : ∀ o ∈ l, 0 ≤ o ∧ o < fs.length) (i : Nat) : Unif s (fgB fs l i) :=
  (hu.map hl).append fun f hf => hu f (List.mem_of_mem_drop hf)

theorem fgA_get {l : List Int} {i j : Nat} (hl : l.length = i) (hj : i ≤ j) : (fgA hs p l i)[j]? = (mkH hs p)[j]? := by
  unfold fgA
  rw [List.getElem?_append_right (by simp; omega), List.getElem?_drop]
  congr 1
  simp; omega
theorem fgB_get {l : List Int} {i j : Nat} (hl : l.length = i) (hj : i ≤ j) : (fgB fs l i)[j]? = fs[j]? := by
  unfold fgB
  rw [List.getElem?_append_right (by simp; omega), List.getElem?_drop]
  congr 1
  simp; omega

theorem fgA_keep {l : List Int} {i : Nat} (hi : i < hs.length) (hp : p i = true) : fgA hs p (l ++ [(i : Int)]) (i + 1) = fgA hs p l i := by
  unfold fgA
  have hi' : i < (mkH hs p).length := by rw [mkH_len]; exact hi
  have e : (mkH hs p)[i] = rM hs (i : Int) := by
    have := mkH_get hs p i
    rw [List.getElem?_eq_getElem hi', List.getElem?_eq_getElem hi] at this
    injection this with this
    rw [this, hp, rM_at (List.getElem?_eq_getElem hi)]
  rw [List.drop_eq_getElem_cons hi', e]
  simp
theorem fgB_keep {l : List Int} {i : Nat} (hi : i < fs.length) : fgB fs (l ++ [(i : Int)]) (i + 1) = fgB fs l i := by
  unfold fgB
  rw [List.drop_eq_getElem_cons hi, ← fO_at hi]
  simp

theorem set_mid {α : Type} {a b : List α} {i : Nat} (ha : a.length = i) (x : α) (hb : 0 < b.length) : (a ++ b).set i x = a ++ [x] ++ b.drop 1 := by
  subst ha
  rw [List.set_append_right _ _ (Nat.le_refl _), Nat.sub_self]
  cases b with
  | nil => simp at hb
  | cons y b => simp

theorem fgA_swap {l : List Int} {i : Nat} (hl : l.length = i) (hi : i < hs.length) (o : Int) : (fgA hs p l i).set i (rM hs o) = fgA hs p (l ++ [o]) (i + 1) := by
  unfold fgA
  rw [set_mid (by simpa using hl) _ (by rw [List.length_drop, mkH_len]; omega), List.drop_drop]
  simp
theorem fgB_swap {l : List Int} {i : Nat} (hl : l.length = i) (hi : i < fs.length) (o : Int) : (fgB fs l i).set i (fO fs o) = fgB fs (l ++ [o]) (i + 1) := by
  unfold fgB
  rw [set_mid (by simpa using hl) _ (by rw [List.length_drop]; omega), List.drop_drop]
  simp

theorem fgA_take {l : List Int} {i : Nat} (hl : l.length = i) : (fgA hs p l i).take i = l.map (rM hs) := by
  unfold fgA
  rw [List.take_append_of_le_length (by simp; omega), List.take_of_length_le (by simp; omega)]
theorem fgB_take {l : List Int} {i : Nat} (hl : l.length = i) : (fgB fs l i).take i = l.map (fO fs) := by
  unfold fgB
  rw [List.take_append_of_le_length (by simp; omega), List.take_of_length_le (by simp; omega)]

end

/-- Of two lists the one up to a place, and the other one from there on. -/
def mix {α : Type} (X Y : List α) (k : Nat) : List α := X.take k ++ Y.drop k

section
variable {α : Type} {X Y : List α}
theorem mix_zero (X Y : List α) : mix X Y 0 = Y := by simp [mix]
theorem mix_all (h : X.length = Y.length) : mix X Y X.length = X := by unfold mix; rw [List.take_length, List.drop_of_length_le (by omega), List.append_nil]
theorem mix_len (h : X.length = Y.length) {k : Nat} (hk : k ≤ X.length) : (mix X Y k).length = X.length := by simp [mix]; omega
theorem mix_get (h : X.length = Y.length) {k : Nat} (hk : k ≤ X.length) : (mix X Y k)[k]? = Y[k]? := by
  unfold mix
  rw [List.getElem?_append_right (by simp; omega), List.getElem?_drop]
  congr 1
  simp; omega
theorem mix_set (h : X.length = Y.length) {k : Nat} (hk : k < X.length) {x : α} (hx : X[k]? = some x) : (mix X Y k).set k x = mix X Y (k + 1) := by
  unfold mix
  rw [set_mid (by simp; omega) _ (by simp; omega), List.drop_drop]
  rw [List.getElem?_eq_getElem hk] at hx
  injection hx with hx
  rw [← hx, List.take_succ_eq_append_getElem hk]
end

theorem mix_unif {s : Nat} {X Y : List (List Int)} (hX : Unif s X) (hY : Unif s Y) (k : Nat) : Unif s (mix X Y k) :=
  Unif.append (fun f hf => hX f (List.mem_of_mem_take hf)) (fun f hf => hY f (List.mem_of_mem_drop hf))

end Go.Proofs.Ytemjhdbmcdlpeaa

/- Walks: turnAll. -/
namespace Go.Proofs.Ytemjhdbmcdlpeaa
set_option linter.unusedSimpArgs false
set_option linter.unusedVariables false
open Go.RowKit Go.Shelf

theorem splW_nil (ws : List Int) (o : Nat) : splW ws o [] = ws := by simp [splW]

theorem splW_snoc {ws cs : List Int} {o : Nat} (h : o + cs.length < ws.length) (y : Int) : (splW ws o cs).set (o + cs.length) y = splW ws o (cs ++ [y]) := by
  unfold splW
  rw [← List.append_assoc, set_mid (by simp; omega) _ (by simp; omega), List.drop_drop]
  simp [Nat.add_assoc]

theorem splW_get {ws cs : List Int} {o : Nat} (h : o + cs.length < ws.length) : (splW ws o cs)[o + cs.length]? = ws[o + cs.length]? := by
  unfold splW
  rw [← List.append_assoc, List.getElem?_append_right (by simp; omega), List.getElem?_drop]
  congr 1
  simp; omega

set_option maxRecDepth 100000 in
set_option maxHeartbeats 2000000 in
theorem tall_c (a : Option Addr) (cap : Nat) (l : List Int) (fs : List (List Int)) (L : List Int) (s : Nat) (p : Nat → Bool) (N N2 mb pb t g o n c : Nat) (ws : List Int) (w : World) (hU : U64 l) (hok : ∀ x ∈ l, okW (stF 0 fs) x = true) (hu : Unif s fs) (hO : OOk fs L)
    (hpb : w.cell? ⟨pb, 0, none⟩ = some (.map (some mb))) (hM : WnM w N mb s p fs.length L.length t L) (hin : ∀ j : Nat, To fs l j → (j : Int) ∈ L ∧ p j = true)
    (hown : ∀ j : Nat, j < L.length → p j = true → L[j]? = some (j : Int)) (h256 : tot fs ≤ 256) (hpg : pb ≠ g) (hmg : mb ≠ g) (hll : l.length ≤ 256)
    (hrow : l ≠ [] → a = some ⟨g, o, none⟩ ∧ w.ownsRow N2 56 1 (.slice (some ⟨g, 0, none⟩) n c) n (wordsV ws) ∧ (ws.drop o).take l.length = l) :
    Calls Try.prog 40 #[.slice a l.length cap, .func (.func 42) #[] #[.pointer (some ⟨pb, 0, none⟩)]] w fun e w' => e = .returned (.tuple #[]) ∧ w.grownBy w' (some g) ∧ (l ≠ [] → w'.ownsRow N2 56 1 (.slice (some ⟨g, 0, none⟩) n c) n (wordsV (splW ws o (l.map (twW fs L))))) := by
  have HU := hide hU
  have Hok := hide hok
  have Hin := hide hin
  have HO := hide hO
  have Hu := hide hu
  have Hown := hide hown
  have HM := hide hM
  have Hpb := hide hpb
  have Hrow := hide hrow
  have hml := hM.lt
  have hpl : pb < w.heap.size := World.block_lt_of_cell? w _ hpb
  clear hU hok hin hO hu hown hM hpb hrow
  go_enter Try.func40, Try.ntmps40
  go_wp2
  go_loopw [8] (fun i wr => ∃ k : Nat, k ≤ l.length ∧ i = .int .i64 k ∧ Hid (w.grownBy wr (some g)) ∧ Hid (l ≠ [] → wr.ownsRow N2 56 1 (.slice (some ⟨g, 0, none⟩) n c) n (wordsV (splW ws o ((l.map (twW fs L)).take k))))) (fun i _ => l.length - (intOf i).toNat)
  case atStart => exact ⟨0, Nat.zero_le _, rfl, hide ⟨rfl, rfl, rfl, Nat.le_refl _, fun _ _ _ => rfl⟩, hide (fun h => by rw [List.take_zero, splW_nil]; exact (unhide Hrow h).2.1)⟩
  case round =>
    obtain ⟨k, hk, rfl, Hg, Hr⟩ := hrel
    by_cases hlt : k < l.length
    · have hne : l ≠ [] := by intro e; subst e; simp at hlt
      obtain ⟨rfl, hr0, hsub⟩ := unhide Hrow hne
      have hr := unhide Hr hne
      have hg := unhide Hg
      have hx := unhide HU _ (List.getElem_mem hlt)
      have hokx := unhide Hok _ (List.getElem_mem hlt)
      have hnw : ws.length = n := by obtain ⟨_, _, _, _, _, _, _, h⟩ := own_cur hr0; exact h
      have hcl : ((l.map (twW fs L)).take k).length = k := by simp; omega
      have hle : o + l.length ≤ n := by
        have := congrArg List.length hsub
        simp at this
        omega
      have hgk : ws[o + k]? = some l[k] := by
        have := congrArg (fun z => z[k]?) hsub
        simp only [List.getElem?_take, if_pos hlt, List.getElem?_drop] at this
        rw [this, List.getElem?_eq_getElem hlt]
      have hcell := own_cell hr (j := o + k) (x := l[k]) (by have := splW_get (ws := ws) (cs := (l.map (twW fs L)).take k) (o := o) (by omega); rw [hcl] at this; rw [this, hgk])
      have hc := hcell.1
      have hsz := hg.size
      have hgl : g < wr.heap.size := World.block_lt_of_cell? wr _ hc
      have hkI : (k : Int) < (l.length : Int) := by omega
      have Hc := hide (tw1_c l[k] fs L s p N mb pb t wr hx.1 hx.2 hokx (unhide Hu) (unhide HO) (hg.cell (unhide Hpb) (fun e => hpg (by injection e))) ((unhide HM).kept hg (fun e => hmg (by injection e))) (fun j h1 h2 => unhide Hin j ⟨_, List.getElem_mem hlt, h1, h2⟩) (unhide Hown) h256)
      have Hnew : Hid (∀ W : World, W.ownsRow N2 56 1 (.slice (some ⟨g, 0, none⟩) n c) n (wordsV (splW ws o ((l.map (twW fs L)).take k))) → (W.setCell ⟨g, o + k, none⟩ (.int .u64 (twW fs L l[k]))).ownsRow N2 56 1 (.slice (some ⟨g, 0, none⟩) n c) n (wordsV (splW ws o ((l.map (twW fs L)).take (k + 1))))) := fun W h => by
        have h1 := own_set h (o + k) (twW fs L l[k])
        have h2 := splW_snoc (ws := ws) (cs := (l.map (twW fs L)).take k) (o := o) (by omega) (twW fs L l[k])
        rw [hcl] at h2
        rw [h2] at h1
        rw [List.take_succ_eq_append_getElem (by simpa using hlt), List.getElem_map]
        exact h1
      clear hx hokx hcell hgk hr0 hsub
      generalize l[k] = x at *
      generalize twW fs L x = tw at *
      clear hcl hr hg
      go_wp2_with fail
      refine (unhide Hc).mono ?_
      rintro e w3 ⟨rfl, hb3⟩
      have hs3 := hb3.size
      have hr3 := ownsRow_below (unhide Hr hne) hb3
      have hx3 := (hb3.cell (p := ⟨g, o + k, none⟩) hgl).trans hc
      have hf3 : w3.frozen? ⟨g, o + k, none⟩ = false := by
        obtain ⟨cur, h1, _⟩ := own_cur hr3
        exact frozen_of_row _ _ _ _ _ h1
      have Hr4 := hide (unhide Hnew w3 hr3)
      have Hg4 := hide (gb_set (gb_below (unhide Hg) hb3) (.inl rfl) (o + k) (.int .u64 tw))
      have hgl3 : g < w3.heap.size := by omega
      clear Hnew hr3 Hg Hr hc Hc hb3
      go_wp2
      go_roundw
      case rel => exact ⟨k + 1, by omega, by go_num, Hg4, hide (fun _ => unhide Hr4)⟩
      case measure => simp [intOf]; omega
    · obtain rfl : k = l.length := by omega
      go_wp2
      refine bodyPost_end (v := .tuple #[]) (results_none rfl _ _ _) rfl ⟨rfl, unhide Hg, fun h => ?_⟩
      have := unhide Hr h
      rw [List.take_of_length_le (by simp)] at this
      exact this

end Go.Proofs.Ytemjhdbmcdlpeaa

/- Walks: the document's Read. -/
namespace Go.Proofs.Ytemjhdbmcdlpeaa
set_option linter.unusedSimpArgs false
set_option linter.unusedVariables false
open Go.RowKit Go.Shelf

set_option maxRecDepth 100000 in
set_option maxHeartbeats 1000000 in
theorem runpacked2_c (a s0 : Option Addr) (cap caps : Nat) (ws st : List Int) (B : Nat) (w : World) (hl : Wds B w a ws) (hU : U64 ws) (hS : Ints B w s0 st) (hB : B ≤ w.heap.size) (hn : ws.length ≤ 256) :
    Calls Try.prog 36 #[.slice a ws.length cap, .slice s0 st.length caps] w fun e w' => ∃ a' cap', e = .returned (.slice a' (ws.map (valW st)).length cap') ∧ ValsF w.heap.size w' a' (ws.map (valW st)) ∧ Below w.heap.size w w' := by
  obtain ⟨i0, hi, hz0, hz1, hz2⟩ := info_parts Try.info64'
  go_enter Try.func36, Try.ntmps36
  go_wp2
  go_loopw [5, 12] (fun s i wr => ∃ k : Nat, k ≤ ws.length ∧ i = .int .i64 k ∧ wr.ownsRow w.heap.size 64 2 s k (cellsV ((ws.map (valW st)).take k)) ∧ Below w.heap.size w wr) (fun _ i _ => ws.length - (intOf i).toNat)
  case atStart => exact ⟨0, Nat.zero_le _, rfl, by simpa [cellsV] using World.ownsRow_nil _ _ _ _, Below.refl _ _⟩
  case round =>
    obtain ⟨k, hk, rfl, hown, hb⟩ := hrel
    have hsz := hb.size
    by_cases hlt : k < ws.length
    · obtain ⟨b, off, rfl, hbB, hc⟩ := (hl.below (hb.mono hB)).at hlt
      have hu := hU _ (List.getElem_mem hlt)
      have HT := hide (fun r n => cells_take_succ (st := st) hlt (r := r) (n := n))
      generalize ws[k] = x at *
      cases hr : unRef x
      · have HT2 := hide (unhide HT _ _ (valW_num hr))
        have Hr := hide hr
        clear hr HT
        go_wp2_with (first
          | (go_at_call 27; go_must (refine (runpack_c x _ hu.1 hu.2).mono ?_); go_must (rintro e w3 ⟨he, hb3⟩; rw [unhide Hr] at he; subst he; have hs3 := hb3.size; have hown3 := ownsRow_below hown hb3))
          | (at_builtin; go_must (refine wpList_append_own _ rfl _ _ 41 rfl w.heap.size 64 i0 _ 2 16 Try.underlying41 hi hz0 hz1 hz2 rfl (by decide) _ _ _ rfl ((hown3.alloc _).alloc _) ⟨w3.heap.size + 1, 0, none⟩ 1 1 [.bool false, .int .i64 (unNum x)] rfl rfl (cell_two_at _ _ _ _ _ (by simp)) (by simp [Value.oneCell']) (by simp only [maxLen]; omega) (by omega) (by simp; omega) ?_); intro v' w1 hown' hgrow _))
        go_roundw
        case rel => exact ⟨k + 1, by omega, by go_num, by rw [unhide HT2]; exact hown', (((hb.trans (hb3.mono hsz)).alloc (by omega) _).alloc (by simp; omega) _).grown hgrow (by simp; omega) (fun q e => (hown3.lt q e).1)⟩
        case measure => simp [intOf]; omega
      · have HT2 := hide (unhide HT _ _ (valW_ref hr))
        have Hr := hide hr
        clear hr HT
        go_wp2_with (first
          | (go_at_call 27; go_must (refine (runpack_c x _ hu.1 hu.2).mono ?_); go_must (rintro e w3 ⟨he, hb3⟩; rw [unhide Hr] at he; subst he; have hs3 := hb3.size; have hown3 := ownsRow_below hown hb3; have hS3 := hS.below ((hb.mono hB).trans (hb3.mono (Nat.le_trans hB hsz)))))
          | (go_at_call 51; go_must (refine (place_c _ _ st (unNum x) B _ (hS3.below ((Below.refl _ _).alloc (by omega) _))).mono ?_); go_must (rintro e w4 ⟨he, hw4⟩; subst he; have hw4 := hw4.symm; subst hw4))
          | (at_builtin; go_must (refine wpList_append_own _ rfl _ _ 41 rfl w.heap.size 64 i0 _ 2 16 Try.underlying41 hi hz0 hz1 hz2 rfl (by decide) _ _ _ rfl ((hown3.alloc _).alloc _) ⟨w3.heap.size + 1, 0, none⟩ 1 1 [.bool true, .int .i64 (placeOf st (unNum x))] rfl rfl (cell_two_at _ _ _ _ _ (by simp)) (by simp [Value.oneCell']) (by simp only [maxLen]; omega) (by omega) (by simp; omega) ?_); intro v' w1 hown' hgrow _))
        go_roundw
        case rel => exact ⟨k + 1, by omega, by go_num, by rw [unhide HT2]; exact hown', (((hb.trans (hb3.mono hsz)).alloc (by omega) _).alloc (by simp; omega) _).grown hgrow (by simp; omega) (fun q e => (hown3.lt q e).1)⟩
        case measure => simp [intOf]; omega
    · obtain rfl : k = ws.length := by omega
      rw [List.take_of_length_le (by simp)] at hown
      obtain ⟨a', cap', hv, hV, hr9⟩ := vals_of_owns hown (by simp) (by omega)
      have HV : Hid (ValsF w.heap.size wr a' (ws.map (valW st))) := ⟨hV, hr9⟩
      clear hr9 hV
      subst hv
      go_wp2
      go_ret
      exact ⟨a', cap', rfl, unhide HV, hb⟩

/-- What an append of one object has made. -/
def Apd (wr : World) (gb k : Nat) (v : Value) (es : List Value) (lv : List V) (v10 : Value) (W : World) : Prop :=
  ∃ a7 c7 W1, ValsF wr.heap.size W1 a7 lv ∧ Below wr.heap.size wr W1 ∧ W.ownsRow (gb + 1) 76 1 v10 (k + 1) (es ++ [.slice a7 lv.length c7]) ∧ (W1.alloc (.cells #[.slice a7 lv.length c7] 76)).grownBy W v.ownBlock ∧ (v10.ownBlock = v.ownBlock ∨ v10.ownBlock = some (W1.alloc (.cells #[.slice a7 lv.length c7] 76)).heap.size)

def RdRes (fs : List (List Int)) (rs : List Int) (e : Ending) (W : World) : Prop :=
  ∃ ao co ar cr, e = .returned (.agg #[.slice ao (readG fs rs).objs.length co, .slice ar (readG fs rs).roots.length cr]) ∧ Objs W.heap.size W ao (readG fs rs).objs ∧ Vals W.heap.size W ar (readG fs rs).roots

set_option maxRecDepth 100000 in
set_option maxHeartbeats 8000000 in
theorem rread_c (aw ar : Option Addr) (cw cr : Nat) (ws rs : List Int) (fs : List (List Int)) (B : Nat) (w : World) (hW : Wds B w aw ws) (hR : Wds B w ar rs) (hUW : U64 ws) (hUR : U64 rs) (hB : B ≤ w.heap.size)
    (h256 : ws.length ≤ 256) (h8 : rs.length ≤ 8) (hs : splitR ws = some fs) :
    Calls Try.prog 15 #[.agg #[.slice aw ws.length cw, .slice ar rs.length cr]] w fun e w' => RdRes fs rs e w' ∧ Below w.heap.size w w' := by
  obtain ⟨i0, hi, hz0, hz1, hz2⟩ := info_parts Try.info76'
  have Hs := hide hs
  have htot := (splitR_st hs).1
  have hfl := tot_len fs
  clear hs
  obtain ⟨W4, hW4⟩ : ∃ W4, (w.alloc (.cells #[.slice aw ws.length cw, .slice ar rs.length cr] 24)).alloc (.cells #[.slice none 0 0, .slice none 0 0] 43) = W4 := ⟨_, rfl⟩
  have hbA : Below w.heap.size w W4 := by rw [← hW4]; exact ((Below.refl w.heap.size w).alloc (Nat.le_refl _) _).alloc (by simp) _
  have hs4 : w.heap.size + 1 < W4.heap.size := by rw [← hW4]; simp
  have q0 : W4.cell? ⟨w.heap.size + 1, 0, none⟩ = some (.slice none 0 0) := by rw [← hW4]; simp [go_sem]
  have q1 : W4.cell? ⟨w.heap.size + 1, 1, none⟩ = some (.slice none 0 0) := by rw [← hW4]; simp [go_sem]
  have f0 : W4.frozen? ⟨w.heap.size + 1, 0, none⟩ = false := by rw [← hW4]; simp [go_sem]
  have f1 : W4.frozen? ⟨w.heap.size + 1, 1, none⟩ = false := by rw [← hW4]; simp [go_sem]
  have g0 : W4.cell? ⟨w.heap.size, 0, none⟩ = some (.slice aw ws.length cw) := by rw [← hW4]; simp [go_sem]
  have g1 : W4.cell? ⟨w.heap.size, 1, none⟩ = some (.slice ar rs.length cr) := by rw [← hW4]; simp [go_sem]
  have Hcall := hide (rstarts_c aw cw ws B W4 (hW.below (hbA.mono hB)) hUW (by omega) h256)
  go_enter Try.func15, Try.ntmps15
  go_wp2_with fail
  refine (unhide Hcall).mono ?_
  rintro e w5 ⟨hres, hb5⟩
  obtain ⟨fs', sa, sc, he', hres⟩ := hres.resolve_left (fun h => by rw [unhide Hs] at h; cases h.1)
  rw [unhide Hs] at he'
  injection he' with he'
  subst he'
  obtain ⟨he, hI⟩ := hres
  subst he
  clear hW4 Hcall
  have hs5 := hb5.size
  replace q0 := (hb5.cell (p := ⟨w.heap.size + 1, 0, none⟩) (by simp; omega)).trans q0
  replace q1 := (hb5.cell (p := ⟨w.heap.size + 1, 1, none⟩) (by simp; omega)).trans q1
  replace f0 := (hb5.frozen (p := ⟨w.heap.size + 1, 0, none⟩) (by simp; omega)).trans f0
  replace f1 := (hb5.frozen (p := ⟨w.heap.size + 1, 1, none⟩) (by simp; omega)).trans f1
  replace g0 := (hb5.cell (p := ⟨w.heap.size, 0, none⟩) (by simp; omega)).trans g0
  replace g1 := (hb5.cell (p := ⟨w.heap.size, 1, none⟩) (by simp; omega)).trans g1
  have hbw5 : Below w.heap.size w w5 := hbA.trans (hb5.mono (by omega))
  have Hc2 := hide (runpacked2_c ar sa cr sc rs (stF 0 fs) w5.heap.size w5 ((hR.below (hbw5.mono hB)).mono (by omega)) hUR hI (Nat.le_refl _) (by omega))
  have HI := hide hI
  clear hbA hb5 hI
  go_wp2_with fail
  refine (unhide Hc2).mono ?_
  rintro e w6 ⟨ar6, cr6, he, hV6, hb6⟩
  subst he
  have hs6 := hb6.size
  replace q0 := (hb6.cell (p := ⟨w.heap.size + 1, 0, none⟩) (by simp; omega)).trans q0
  replace q1 := (hb6.cell (p := ⟨w.heap.size + 1, 1, none⟩) (by simp; omega)).trans q1
  replace f0 := (hb6.frozen (p := ⟨w.heap.size + 1, 0, none⟩) (by simp; omega)).trans f0
  replace f1 := (hb6.frozen (p := ⟨w.heap.size + 1, 1, none⟩) (by simp; omega)).trans f1
  replace g0 := (hb6.cell (p := ⟨w.heap.size, 0, none⟩) (by simp; omega)).trans g0
  have hbw6 : Below w.heap.size w w6 := hbw5.trans (hb6.mono (by omega))
  have HI6 := hide ((unhide HI).below hb6)
  have HV6 := hide hV6
  have Hst := hide (stF_len fs 0)
  have Hsg := hide (fun k hk => stF_get fs 0 k hk)
  clear Hc2 HI hV6 g1 hb6
  generalize hrl : (rs.map (valW (stF 0 fs))).length = rl at *
  have Hrl := hide hrl
  clear hrl
  go_wp2
  go_loopw [21] (fun i wr => ∃ (k : Nat) (x : Value) (es : List Value), k ≤ fs.length ∧ i = .int .i64 k ∧ Below w6.heap.size w6 wr ∧ wr.cell? ⟨w6.heap.size, 0, none⟩ = some x ∧ wr.frozen? ⟨w6.heap.size, 0, none⟩ = false ∧ wr.cell? ⟨w6.heap.size, 1, none⟩ = some (.slice ar6 rl cr6) ∧
        ObjRow wr (w6.heap.size + 1) x (objsOf (stF 0 fs) (fs.take k)) es) (fun i _ => fs.length - (intOf i).toNat)
  case atStart => exact ⟨0, .slice none 0 0, [], Nat.zero_le _, rfl, (Below.refl _ _).alloc (Nat.le_refl _) _, by simp [go_sem], by simp [go_sem], by simp [go_sem], objRow_nil _ _⟩
  case round =>
    obtain ⟨k, x, es, hk, rfl, hb, c0, cf0, c1, hrow⟩ := hrel
    have hsz := hb.size
    have hbwr : Below w.heap.size w wr := hbw6.trans (hb.mono (by have := hbw6.size; omega))
    have g0r := (hb.cell (p := ⟨w.heap.size, 0, none⟩) (by simp; omega)).trans g0
    have hqr : w.heap.size < wr.heap.size := by omega
    by_cases hlt : k < fs.length
    · obtain ⟨hp, hk1, hk2, hf0⟩ := split_obj (unhide Hs) hlt
      have hltS : k < (stF 0 fs).length := by rw [unhide Hst]; exact hlt
      obtain ⟨b, off, rfl, hbB, hc⟩ := ((unhide HI6).below (hb.mono (by omega))).at hltS
      have Hsk := hide (show (stF 0 fs)[k] = ((tot (fs.take k) : Nat) : Int) from by have := unhide Hsg k hlt; rw [List.getElem?_eq_getElem hltS, Option.some.injEq, Nat.zero_add] at this; exact this)
      rw [unhide Hsk] at hc
      have hkI : (k : Int) < ((stF 0 fs).length : Int) := by omega
      have hq : w6.heap.size < wr.heap.size := World.block_lt_of_cell? wr _ c0
      have HO := hide (objsOf_succ (stF 0 fs) hlt)
      have HLk := hide (show (objsOf (stF 0 fs) (fs.take k)).length = k by rw [objsOf_len, List.length_take]; omega)
      have hf4 : fs[k].length ≤ 4 := (splitR_st (unhide Hs)).2 _ (List.getElem_mem hlt)
      have hUf := u64_fields (unhide Hs) hUW _ (List.getElem_mem hlt)
      rw [← hf0] at HO hf4 hUf
      have HcF : Hid (∀ W, Below wr.heap.size wr W → Calls Try.prog 26 #[.slice aw ws.length cw, .int .i64 (tot (fs.take k) : Nat)] W fun e w' => ∃ a' cap', e = .returned (.slice a' (fieldsAt ws (tot (fs.take k))).length cap') ∧ Wds w'.heap.size w' a' (fieldsAt ws (tot (fs.take k))) ∧ Below W.heap.size W w') := fun W hbW => by
        refine (rfields_c aw cw ws B W ((hW.below (hbwr.mono hB)).below (hbW.mono (by omega))) hUW (by have := hbW.size; omega) h256 _ hp hk1 hk2).mono ?_
        rintro e w' ⟨a', c', h1, h2, h3, _⟩
        exact ⟨a', c', h1, h2, h3⟩
      have HIr := hide ((unhide HI6).below (hb.mono (by omega)))
      clear Hsk hk1 hk2 hf0 hp
      generalize fieldsAt ws (tot (fs.take k)) = f at *
      generalize tot (fs.take k) = p at *
      have hrr := hrow.row
      rw [unhide HLk] at hrr
      obtain ⟨ca, cc, rfl⟩ := ownsRow_slice hrr
      have hncb : Value.ownBlock (.slice ca k cc) ≠ some w6.heap.size := fun e => by have := (hrr.lt _ e).1; omega
      have HcU : Hid (∀ W a5 c5, Below wr.heap.size wr W → Wds W.heap.size W a5 f → Calls Try.prog 36 #[.slice a5 f.length c5, .slice (some ⟨b, off, none⟩) (stF 0 fs).length sc] W fun e w' => ∃ a' cap', e = .returned (.slice a' (f.map (valW (stF 0 fs))).length cap') ∧ ValsF W.heap.size w' a' (f.map (valW (stF 0 fs))) ∧ Below W.heap.size W w') := fun W a5 c5 hbW hW5 =>
        runpacked2_c a5 (some ⟨b, off, none⟩) c5 sc f (stF 0 fs) W.heap.size W hW5 hUf (((unhide HIr).below (hbW.mono (by omega))).mono (by have := hbW.size; omega)) (Nat.le_refl _) (by omega)
      have HRow := hide hrow
      clear hrow
      go_wp2
      refine wp_region_hoist _ [5, 7, 8, 9, 10, 12] (fun i => match i with
          | 0 => .pointer (some ⟨w6.heap.size, 0, none⟩)
          | 1 => .slice ca k cc
          | 2 => .pointer (some ⟨w.heap.size, 0, none⟩)
          | 3 => .slice aw ws.length cw
          | 4 => .int .i64 (p : Int)
          | 6 => .slice (some ⟨b, off, none⟩) (stF 0 fs).length sc
          | _ => .pointer (some ⟨w6.heap.size, 0, none⟩))
        (fun vs W => match vs with
          | [] => Below wr.heap.size wr W
          | [v5] => (∃ a5 c5, v5 = .slice a5 f.length c5 ∧ Wds W.heap.size W a5 f) ∧ Below wr.heap.size wr W
          | [v5, v7] => (∃ a7 c7, v7 = .slice a7 (f.map (valW (stF 0 fs))).length c7 ∧ ValsF wr.heap.size W a7 (f.map (valW (stF 0 fs)))) ∧ Below wr.heap.size wr W
          | [v5, v7, v8] => (∃ a7 c7, v8 = .agg #[.slice a7 (f.map (valW (stF 0 fs))).length c7] ∧ ValsF wr.heap.size W a7 (f.map (valW (stF 0 fs)))) ∧ Below wr.heap.size wr W
          | [v5, v7, v8, v9] => (∃ a7 c7 W1, v9 = .slice (some ⟨W1.heap.size, 0, none⟩) 1 1 ∧ W = W1.alloc (.cells #[.slice a7 (f.map (valW (stF 0 fs))).length c7] 76) ∧ ValsF wr.heap.size W1 a7 (f.map (valW (stF 0 fs))) ∧ Below wr.heap.size wr W1) ∧ Below wr.heap.size wr W
          | [v5, v7, v8, v9, v10] => Apd wr w6.heap.size k (.slice ca k cc) es (f.map (valW (stF 0 fs))) v10 W
          | [v5, v7, v8, v9, v10, v12] => Below w6.heap.size w6 W ∧ W.cell? ⟨w6.heap.size, 0, none⟩ = some v10 ∧ W.frozen? ⟨w6.heap.size, 0, none⟩ = false ∧ W.cell? ⟨w6.heap.size, 1, none⟩ = some (.slice ar6 rl cr6) ∧ ∃ es', ObjRow W (w6.heap.size + 1) v10 (objsOf (stF 0 fs) (fs.take (k + 1))) es'
          | _ => False) Try.mixed (laid_of (by kernel_rfl)) (Below.refl _ _).drew ?_ ?_ ?_
      · intro i o hio hiT vs a W K hGv hlate hag hdep hK
        have hBW4 : vs.length ≤ 4 → Below wr.heap.size wr W := by
          intro h4
          match vs, hGv, h4 with
          | [], h, _ => exact h
          | [_], h, _ => exact h.2
          | [_, _], h, _ => exact h.2
          | [_, _, _], h, _ => exact h.2
          | [_, _, _, _], h, _ => exact h.2
        have t1 := hag.tm (k := 1) (by simp [dsOf])
        have t3 := hag.tm (k := 3) (by simp [dsOf])
        have t5 := hag.tm (k := 5) (by simp [dsOf])
        have t7 := hag.tm (k := 7) (by simp [dsOf])
        simp at t1 t3 t5 t7
        rcases i with _ | _ | _ | _ | _ | _ | _ | _ | _ | _ | _ | _ | _ | i
        · cases hio
          clear hGv
          unfold Oper.wp
          go_simp
          exact hK
        · have hl4 : vs.length ≤ 4 := hlate 4 10 _ rfl rfl ⟨⟨1, .data⟩, by simp, rfl, rfl⟩
          have s25 : a.tmps[25]?.getD undef = .pointer (some ⟨w6.heap.size, 0, none⟩) := hdep ⟨0, .data⟩ (by cases hio; simp) rfl 25 rfl
          have hcW := ((hBW4 hl4).cell (p := ⟨w6.heap.size, 0, none⟩) hq).trans c0
          cases hio
          clear hGv
          unfold Oper.wp
          go_simp
          exact hK
        · cases hio
          clear hGv
          unfold Oper.wp
          go_simp
          exact hK
        · have hl0 : vs.length ≤ 0 := hlate 0 5 _ rfl rfl ⟨⟨3, .data⟩, by simp, rfl, rfl⟩
          have s27 : a.tmps[27]?.getD undef = .pointer (some ⟨w.heap.size, 0, none⟩) := hdep ⟨2, .data⟩ (by cases hio; simp) rfl 27 rfl
          have hcW := ((hBW4 (by omega)).cell (p := ⟨w.heap.size, 0, none⟩) hqr).trans g0r
          cases hio
          clear hGv
          unfold Oper.wp
          go_simp
          exact hK
        · cases hio
          clear hGv
          unfold Oper.wp
          go_simp
          exact hK
        · exact absurd (by simp) hiT
        · cases hio
          clear hGv
          unfold Oper.wp
          go_simp
          exact hK
        · exact absurd (by simp) hiT
        · exact absurd (by simp) hiT
        · exact absurd (by simp) hiT
        · exact absurd (by simp) hiT
        · cases hio
          clear hGv
          unfold Oper.wp
          go_simp
          exact hK
        · exact absurd (by simp) hiT
        · simp at hio
      · intro j i o hj hio vs a W K hvl hGv hag hdep hK
        rcases j with _ | _ | _ | _ | _ | _ | j
        · obtain rfl : 5 = i := by simpa using hj
          obtain rfl : vs = [] := List.length_eq_zero_iff.1 hvl
          have s28 : a.tmps[28]?.getD undef = .slice aw ws.length cw := hdep ⟨3, .data⟩ (by cases hio; simp) rfl 28 rfl
          have s29 : a.tmps[29]?.getD undef = .int .i64 (p : Int) := hdep ⟨4, .data⟩ (by cases hio; simp) rfl 29 rfl
          cases hio
          refine op_call 26 #[.slice aw ws.length cw, .int .i64 (p : Int)] (by go_simp) ?_
          have hBW : Below wr.heap.size wr W := hGv
          refine (unhide HcF W hBW).mono ?_
          rintro e w' ⟨a', c', rfl, h2, h3⟩
          exact ⟨_, rfl, hK _ _ ⟨⟨a', c', rfl, h2⟩, hBW.trans (h3.mono hBW.size)⟩⟩
        · obtain rfl : 7 = i := by simpa using hj
          obtain ⟨v5, rfl⟩ : ∃ v5, vs = [v5] := by
            match vs, hvl with
            | [v5], _ => exact ⟨v5, rfl⟩
          obtain ⟨⟨a5, c5, rfl, hW5⟩, hBW⟩ := hGv
          have s30 : a.tmps[30]?.getD undef = .slice a5 f.length c5 := hdep ⟨5, .data⟩ (by cases hio; simp) rfl 30 rfl
          have s31 : a.tmps[31]?.getD undef = .slice (some ⟨b, off, none⟩) (stF 0 fs).length sc := hdep ⟨6, .data⟩ (by cases hio; simp) rfl 31 rfl
          cases hio
          refine op_call 36 #[.slice a5 f.length c5, .slice (some ⟨b, off, none⟩) (stF 0 fs).length sc] (by go_simp) ?_
          refine (unhide HcU W a5 c5 hBW hW5).mono ?_
          rintro e w' ⟨a', c', rfl, h2, h3⟩
          exact ⟨_, rfl, hK _ _ ⟨⟨a', c', rfl, h2.base hBW.size⟩, hBW.trans (h3.mono hBW.size)⟩⟩
        · obtain rfl : 8 = i := by simpa using hj
          obtain ⟨v5, v7, rfl⟩ : ∃ v5 v7, vs = [v5, v7] := by
            match vs, hvl with
            | [v5, v7], _ => exact ⟨v5, v7, rfl⟩
          obtain ⟨⟨a7, c7, rfl, hV7⟩, hBW⟩ := hGv
          have s32 : a.tmps[32]?.getD undef = .slice a7 (f.map (valW (stF 0 fs))).length c7 := hdep ⟨7, .data⟩ (by cases hio; simp) rfl 32 rfl
          generalize (f.map (valW (stF 0 fs))) = lv at *
          cases hio
          unfold Oper.wp
          go_simp
          exact hK _ _ ⟨⟨a7, c7, rfl, hV7⟩, hBW⟩
        · obtain rfl : 9 = i := by simpa using hj
          obtain ⟨v5, v7, v8, rfl⟩ : ∃ v5 v7 v8, vs = [v5, v7, v8] := by
            match vs, hvl with
            | [v5, v7, v8], _ => exact ⟨v5, v7, v8, rfl⟩
          obtain ⟨⟨a7, c7, rfl, hV7⟩, hBW⟩ := hGv
          have s33 : a.tmps[33]?.getD undef = .agg #[.slice a7 (f.map (valW (stF 0 fs))).length c7] := hdep ⟨8, .data⟩ (by cases hio; simp) rfl 33 rfl
          generalize (f.map (valW (stF 0 fs))) = lv at *
          cases hio
          unfold Oper.wp
          go_simp
          exact hK _ _ ⟨⟨a7, c7, W, rfl, rfl, hV7, hBW⟩, hBW.alloc hBW.size _⟩
        · obtain rfl : 10 = i := by simpa using hj
          obtain ⟨v5, v7, v8, v9, rfl⟩ : ∃ v5 v7 v8 v9, vs = [v5, v7, v8, v9] := by
            match vs, hvl with
            | [v5, v7, v8, v9], _ => exact ⟨v5, v7, v8, v9, rfl⟩
          obtain ⟨⟨a7, c7, W1, rfl, rfl, hV7, hBW1⟩, hBW⟩ := hGv
          have s26 : a.tmps[26]?.getD undef = .slice ca k cc := hdep ⟨1, .data⟩ (by cases hio; simp) rfl 26 rfl
          have s34 : a.tmps[34]?.getD undef = .slice (some ⟨W1.heap.size, 0, none⟩) 1 1 := hdep ⟨9, .data⟩ (by cases hio; simp) rfl 34 rfl
          cases hio
          have hs1 := hBW1.size
          refine op_append (.tmp 26) (.tmp 34) 40 rfl (w6.heap.size + 1) 76 i0 _ 1 24 Try.underlying40 hi hz0 hz1 hz2 rfl (by decide) (.slice ca k cc) k es (by simpa [Act.eval] using s26) ((ownsRow_below hrr hBW1).alloc _) ⟨W1.heap.size, 0, none⟩ 1 1 [.slice a7 (f.map (valW (stF 0 fs))).length c7] (by simpa [Act.eval] using s34) rfl (cell_one_at _ _ _ _ rfl) (by simp [Value.oneCell']) (by simp only [maxLen]; omega) (by omega) (by simp; omega) ?_
          intro v10 w10 hrow10 hg10 hat10
          exact hK _ _ ⟨a7, c7, W1, hV7, hBW1, hrow10, hg10, hat10⟩
        · obtain rfl : 12 = i := by simpa using hj
          obtain ⟨v5, v7, v8, v9, v10, rfl⟩ : ∃ v5 v7 v8 v9 v10, vs = [v5, v7, v8, v9, v10] := by
            match vs, hvl with
            | [v5, v7, v8, v9, v10], _ => exact ⟨v5, v7, v8, v9, v10, rfl⟩
          obtain ⟨a7, c7, W1, hV7, hBW1, hrow10, hg10, hat10⟩ := hGv
          have hs1 := hBW1.size
          obtain ⟨g7, cap7, hv7⟩ := ownsRow_succ hrow10
          subst hv7
          have s35 : a.tmps[35]?.getD undef = .slice (some ⟨g7, 0, none⟩) (k + 1) cap7 := hdep ⟨10, .data⟩ (by cases hio; simp) rfl 35 rfl
          have s36 : a.tmps[36]?.getD undef = .pointer (some ⟨w6.heap.size, 0, none⟩) := hdep ⟨11, .data⟩ (by cases hio; simp) rfl 36 rfl
          have hblk : W.heap[w6.heap.size]? = wr.heap[w6.heap.size]? := (hg10.block w6.heap.size (by simp; omega) (fun e => hncb e.symm)).trans ((Below.heap_alloc W1 _ _ (by omega)).trans (hBW1.block _ hq))
          have e0 := (World.cell?_of_block (a := ⟨w6.heap.size, 0, none⟩) hblk).trans c0
          have e1 := (World.cell?_of_block (a := ⟨w6.heap.size, 1, none⟩) hblk).trans c1
          have ef := (World.frozen?_of_block (a := ⟨w6.heap.size, 0, none⟩) hblk).trans cf0
          obtain ⟨r1, r2⟩ := obj_step (l := f.map (valW (stF 0 fs))) (ci := c7) (unhide HRow) (by omega) hV7.1 hBW1 hV7.2 (by rw [unhide HLk]; exact hrow10) hg10 hat10 rfl
          cases hio
          clear hrow10 hg10 hat10 hV7 hblk
          unfold Oper.wp
          go_simp
          refine hK undef _ ⟨hb.trans r2, World.cell?_setCell_same' _ _ _ (by rw [e0]; rfl), by rw [World.frozen?_setCell]; exact ef, ?_, _, by rw [unhide HO]; exact r1⟩
          rw [World.cell?_setCell_other _ _ _ _ (by simp)]
          exact e1
        · simp at hj
      · intro vs W hvl hGv
        obtain ⟨v5, v7, v8, v9, v10, v12, rfl⟩ : ∃ v5 v7 v8 v9 v10 v12, vs = [v5, v7, v8, v9, v10, v12] := by
          match vs, hvl with
          | [v5, v7, v8, v9, v10, v12], _ => exact ⟨v5, v7, v8, v9, v10, v12, rfl⟩
        obtain ⟨h1, h2, h3, h4, es', h5⟩ := hGv
        simp only [List.length_cons, List.length_nil, Nat.reduceAdd]
        simp [endAct, dstAt, valAt, List.idxOf?, List.findIdx?, List.findIdx?.go, Act.put]
        go_wp2
        go_roundw
        case rel => exact ⟨k + 1, v10, es', by omega, by go_num, h1, h2, h3, h4, h5⟩
        case measure => simp [intOf]; omega
    · obtain rfl : k = fs.length := by omega
      rw [List.take_length] at hrow
      have hkI : ¬ ((fs.length : Int) < ((stF 0 fs).length : Int)) := by rw [unhide Hst]; omega
      have hol := objsOf_len (stF 0 fs) fs
      obtain ⟨va', vc', hv, hO⟩ := hrow.objs (by omega)
      subst hv
      have HR := hide hrow
      have Hol := hide hol
      clear hO hrow hol
      replace q0 := (hb.cell (p := ⟨w.heap.size + 1, 0, none⟩) (by simp; omega)).trans q0
      replace q1 := (hb.cell (p := ⟨w.heap.size + 1, 1, none⟩) (by simp; omega)).trans q1
      replace f0 := (hb.frozen (p := ⟨w.heap.size + 1, 0, none⟩) (by simp; omega)).trans f0
      replace f1 := (hb.frozen (p := ⟨w.heap.size + 1, 1, none⟩) (by simp; omega)).trans f1
      generalize hL : objsOf (stF 0 fs) fs = L at *
      have HL := hide hL
      clear hL
      go_wp2
      refine bodyPost_ret (v := .agg #[.slice va' L.length vc', .slice ar6 rl cr6]) (by simp [results, Try.results15, go_sem, q0, q1]) rfl ?_
      have hO := ((unhide HR).setCell (p := ⟨w.heap.size + 1, 0, none⟩) (by simp; omega) (.slice va' L.length vc')).setCell (p := ⟨w.heap.size + 1, 1, none⟩) (by simp; omega) (.slice ar6 rl cr6)
      obtain ⟨va2, vc2, hv2, hO2⟩ := hO.objs (by rw [unhide Hol]; omega)
      injection hv2 with e1 _ e3
      subst e1 e3
      have hVF := ((((unhide HV6).below hb).setCell (p := ⟨w.heap.size + 1, 0, none⟩) (by simp; omega) (.slice va' L.length vc')).setCell (p := ⟨w.heap.size + 1, 1, none⟩) (by simp; omega) (.slice ar6 rl cr6))
      refine ⟨⟨va', vc', ar6, cr6, ?_, ?_, hVF.1⟩, (hbwr.setCell (p := ⟨w.heap.size + 1, 0, none⟩) (by simp) _).setCell (p := ⟨w.heap.size + 1, 1, none⟩) (by simp) _⟩
      · have e1 : (readG fs rs).objs = L := unhide HL
        have e2 : (readG fs rs).roots.length = rl := unhide Hrl
        rw [e1, e2]
      · have e1 : (readG fs rs).objs = L := unhide HL
        rw [e1]; exact hO2

end Go.Proofs.Ytemjhdbmcdlpeaa

/- Walks: the document's Reach, its row new. -/
namespace Go.Proofs.Ytemjhdbmcdlpeaa
set_option linter.unusedSimpArgs false
set_option linter.unusedVariables false
open Go.RowKit

set_option maxRecDepth 100000 in
set_option maxHeartbeats 1000000 in
theorem refReachF_c (ao ar : Option Addr) (co cr : Nat) (g : Gr) (B : Nat) (w : World) (ho : Objs B w ao g.objs) (hr : Vals B w ar g.roots) (hB : B ≤ w.heap.size) (hG : Good g) :
    Calls Try.prog 14 #[.agg #[.slice ao g.objs.length co, .slice ar g.roots.length cr]] w fun e w' => ∃ a cap, e = .returned (.slice a (reachK g g.objs.length).length cap) ∧ Ints w'.heap.size w' a (reachK g g.objs.length) ∧ Below w.heap.size w w' ∧ Hid (∀ b off, a = some ⟨b, off, none⟩ → w.heap.size ≤ b) := by
  obtain ⟨i0, hi, hz0, hz1, hz2⟩ := info_parts Try.info3
  have hn24 := hG.n24
  have hb1 := (Below.refl w.heap.size w).alloc (Nat.le_refl _) (.cells #[.slice ao g.objs.length co, .slice ar g.roots.length cr] 43)
  go_enter Try.func14, Try.ntmps14
  go_wp2_with fail
  refine (refDist_c ao ar co cr g B _ (ho.below (hb1.mono hB)) (hr.below (hb1.mono hB)) (by simp; omega) hG).mono ?_
  rintro e w2 ⟨ad, cd, rfl, hI2, hb2⟩
  have hbw2 : Below w.heap.size w w2 := hb1.trans (hb2.mono (by simp))
  clear hb1 hb2
  have hlD : (distL g).length = g.objs.length := distL_len g
  have HlD := hide hlD
  have hDk : Hid (∀ k, k < g.objs.length → (distL g)[k]? = some (dG g k)) := fun k hk => by simp [distL, List.getElem?_map, List.getElem?_range hk, dG]
  rw [hlD]
  clear hlD
  generalize distL g = D at *
  go_wp2
  go_loopw [3, 9] (fun s i wr => ∃ k : Nat, k ≤ g.objs.length ∧ i = .int .i64 k ∧ wr.ownsRow w2.heap.size 3 1 s (reachK g k).length (intsV (reachK g k)) ∧ Below w2.heap.size w2 wr) (fun _ i _ => g.objs.length - (intOf i).toNat)
  case atStart => exact ⟨0, Nat.zero_le _, rfl, World.ownsRow_nil _ _ _ _, Below.refl _ _⟩
  case round =>
    obtain ⟨k, hk, rfl, hown, hb⟩ := hrel
    have hsz := hb.size
    have hkl := reachK_len g k
    by_cases hlt : k < g.objs.length
    · have hltD : k < D.length := by rw [unhide HlD]; exact hlt
      obtain ⟨bd, od, rfl, hbd, hcd⟩ := (hI2.below hb).at hltD
      have hx := unhide hDk k hlt
      rw [List.getElem?_eq_getElem hltD] at hx
      injection hx with hx
      rw [hx] at hcd
      have Hyes := hide (fun h => reachK_yes (g := g) (k := k) h)
      have Hno := hide (fun h => reachK_no (g := g) (k := k) h)
      clear hx
      generalize dG g k = x at *
      have hmx : (reachK g k).length + 1 ≤ maxLen := by simp only [maxLen]; omega
      have hmy : ((reachK g k).length + 1) * 8 ≤ 140737488355328 := by omega
      by_cases hx0 : 0 ≤ x
      · have d : decide (x ≥ 0) = true := by simpa using hx0
        have d' : decide (0 ≤ x) = true := by simpa using hx0
        have HT := hide (unhide Hyes hx0)
        go_wp2_with (at_builtin; go_must (refine wpList_append_own _ rfl _ _ 38 rfl w2.heap.size 3 i0 _ 1 8 Try.underlying38 hi hz0 hz1 hz2 rfl (by decide) _ _ _ rfl (hown.alloc _) ⟨wr.heap.size, 0, none⟩ 1 1 [.int .i64 k] rfl rfl (cell_one_at _ _ _ _ (by simp)) (by simp [Value.oneCell']) hmx hmy (by simp; omega) ?_); intro v' w1 hown' hgrow _)
        go_roundw
        case rel => exact ⟨k + 1, by omega, by go_num, by rw [unhide HT, intsV_snoc, List.length_append]; exact hown', (hb.alloc hsz _).grown hgrow (by simp; omega) (fun q e => (hown.lt q e).1)⟩
        case measure => simp [intOf]; omega
      · have d : decide (x ≥ 0) = false := by simp; omega
        have d' : decide (0 ≤ x) = false := by simp; omega
        have HT := hide (unhide Hno (by omega))
        go_wp2
        go_roundw
        case rel => exact ⟨k + 1, by omega, by go_num, by rw [unhide HT]; exact hown, hb⟩
        case measure => simp [intOf]; omega
    · obtain rfl : k = g.objs.length := by omega
      obtain ⟨a', cap', hv, hV, hr9⟩ := ints_of_owns hown rfl (by omega)
      have Hv := hide hv
      have H9 : Hid (∀ b off, a' = some ⟨b, off, none⟩ → w.heap.size ≤ b) := fun b off e => by have := hr9 b off e; have := hbw2.size; omega
      clear hv hr9
      go_wp2
      go_ret
      exact ⟨a', cap', congrArg Ending.returned (unhide Hv), hV, hbw2.trans (hb.mono hbw2.size), H9⟩

end Go.Proofs.Ytemjhdbmcdlpeaa

/- Walks: the law's size. -/
namespace Go.Proofs.Ytemjhdbmcdlpeaa
set_option linter.unusedSimpArgs false
set_option linter.unusedVariables false
open Go.RowKit Go.Shelf

theorem fO_len {hs : List Int} {fs : List (List Int)} {rs : List Int} (h : Arn hs fs rs) {o : Nat} (ho : o < (readG fs rs).objs.length) : (readG fs rs).objs[o].length = (fO fs (o : Int)).length := by
  have hl := readG_len fs rs
  have hi : o < fs.length := by omega
  simp [readG, fO, List.getD_eq_getElem?_getD, hi]

theorem reach_rng {g : Gr} {x : Int} (h : x ∈ reachK g g.objs.length) : 0 ≤ x ∧ x < g.objs.length := by
  unfold reachK at h
  obtain ⟨j, hj, rfl⟩ := List.mem_map.1 h
  have := List.mem_range.1 (List.mem_filter.1 hj).1
  omega

set_option maxRecDepth 100000 in
set_option maxHeartbeats 2000000 in
theorem size_c (aw ar : Option Addr) (cw cr : Nat) (ws rs : List Int) (hs : List Int) (fs : List (List Int)) (B : Nat) (w : World) (hW : Wds B w aw ws) (hR : Wds B w ar rs) (hUW : U64 ws) (hUR : U64 rs) (hB : B ≤ w.heap.size) (hA : Arn hs fs rs) (hws : ws = joinW hs fs) :
    Calls Try.prog 18 #[.agg #[.slice aw ws.length cw, .slice ar rs.length cr]] w fun e w' => e = .returned (.int .i64 (tot (mF fs rs) : Nat)) ∧ Below w.heap.size w w' := by
  have hsp : splitR ws = some fs := by rw [hws]; exact fit_split hA.fit
  have h256 : ws.length ≤ 256 := by rw [hws, joinW_len _ _ hA.fit.len]; exact hA.n256
  have hb1 : Below w.heap.size w (w.alloc (.cells #[.slice aw ws.length cw, .slice ar rs.length cr] 24)) := (Below.refl w.heap.size w).alloc (Nat.le_refl _) _
  have Hc1 := hide (rread_c aw ar cw cr ws rs fs B _ (hW.below (hb1.mono hB)) (hR.below (hb1.mono hB)) hUW hUR (by simp; omega) h256 hA.n8 hsp)
  have HA := hide hA
  have hG := good_read hA
  have HG := hide hG
  have Hsz := hide (size_eq hA)
  have Hb1 := hide hb1
  clear hA hws hsp hG hb1
  go_enter Try.func18, Try.ntmps18
  go_wp2_with fail
  refine (unhide Hc1).mono ?_
  rintro e w2 ⟨⟨ao, co, ar2, cr2, he, hO, hV⟩, hb2⟩
  subst he
  have hs2 := hb2.size
  simp only [World.size_alloc] at hs2 hb2
  have hbw2 : Below w.heap.size w w2 := (unhide Hb1).trans (hb2.mono (by omega))
  obtain ⟨W2, hW2⟩ : ∃ W2, w2.alloc (.cells #[.slice ao (readG fs rs).objs.length co, .slice ar2 (readG fs rs).roots.length cr2] 43) = W2 := ⟨_, rfl⟩
  have hb2' : Below w2.heap.size w2 W2 := by rw [← hW2]; exact (Below.refl _ _).alloc (Nat.le_refl _) _
  have hs2' : w2.heap.size < W2.heap.size := by rw [← hW2]; simp
  have k0 : W2.cell? ⟨w2.heap.size, 0, none⟩ = some (.slice ao (readG fs rs).objs.length co) := by rw [← hW2]; simp [go_sem]
  have k1 : W2.cell? ⟨w2.heap.size, 1, none⟩ = some (.slice ar2 (readG fs rs).roots.length cr2) := by rw [← hW2]; simp [go_sem]
  have hbW2 : Below w.heap.size w W2 := hbw2.trans (hb2'.mono (by omega))
  have HO := hide ((hO.below hb2').mono (B' := W2.heap.size) (by omega))
  have HV := hide ((hV.below hb2').mono (B' := W2.heap.size) (by omega))
  have Hc2 := hide (refReach_c ao ar2 co cr2 (readG fs rs) W2.heap.size W2 (unhide HO) (unhide HV) (Nat.le_refl _) (unhide HG))
  clear Hc1 hO hV hb2 hb2' hbw2 Hb1
  go_wp2_with fail
  refine (unhide Hc2).mono ?_
  rintro e w3 ⟨la, lc, he, hI, hb3⟩
  subst he
  have hs3 := hb3.size
  replace k0 := (hb3.cell (p := ⟨w2.heap.size, 0, none⟩) hs2').trans k0
  have hbw3 : Below w.heap.size w w3 := hbW2.trans (hb3.mono (by omega))
  have hl3 : w2.heap.size < w3.heap.size := by omega
  have HO3 := hide ((unhide HO).below hb3)
  have HI3 := hide hI
  have Hrg := hide (fun x h => reach_rng (g := readG fs rs) (x := x) h)
  have Hfl := hide (fun o ho => fO_len (unhide HA) (o := o) ho)
  have h5 : ∀ k, tot (((reachK (readG fs rs) (readG fs rs).objs.length).take k).map (fO fs)) ≤ 256 := fun k => by
    have h1 := tot_take_le ((reachK (readG fs rs) (readG fs rs).objs.length).map (fO fs)) k
    rw [← List.map_take] at h1
    have h2 := unhide Hsz
    unfold sizeR at h2
    have := mF_256 (unhide HA)
    omega
  have H5 := hide h5
  have hrl : (reachK (readG fs rs) (readG fs rs).objs.length).length ≤ 256 := by
    have h1 := tot_len ((reachK (readG fs rs) (readG fs rs).objs.length).map (fO fs))
    have h2 := h5 (reachK (readG fs rs) (readG fs rs).objs.length).length
    rw [List.take_length] at h2
    simp at h1
    omega
  have hn24 := (unhide HG).n24
  have Hn4 := hide (unhide HG).n4
  clear hW2 hb3 hI Hc2 HO HV hW hR hUW hUR k1 h5 HA HG
  generalize reachK (readG fs rs) (readG fs rs).objs.length = R at *
  generalize readG fs rs = g at *
  go_wp2
  go_loopw [3, 12] (fun s i wr => ∃ k : Nat, k ≤ R.length ∧ i = .int .i64 k ∧ s = .int .i64 (tot ((R.take k).map (fO fs)) : Nat) ∧ Below w3.heap.size w3 wr) (fun _ i _ => R.length - (intOf i).toNat)
  case atStart => exact ⟨0, Nat.zero_le _, rfl, by simp [tot], Below.refl _ _⟩
  case round =>
    obtain ⟨k, hk, rfl, rfl, hb⟩ := hrel
    have hsz := hb.size
    have k0r := (hb.cell (p := ⟨w2.heap.size, 0, none⟩) hl3).trans k0
    have hlr : w2.heap.size < wr.heap.size := by omega
    by_cases hlt : k < R.length
    · obtain ⟨b1, o1, rfl, hB1, hc1⟩ := ((unhide HI3).below hb).at hlt
      have hro := unhide Hrg _ (List.getElem_mem hlt)
      have HT : Hid (tot ((R.take (k + 1)).map (fO fs)) = tot ((R.take k).map (fO fs)) + ((fO fs R[k]).length + 1)) := by
        show _ = _
        rw [List.take_succ_eq_append_getElem hlt, List.map_append, List.map_cons, List.map_nil, tot_snoc]
      have h5k := unhide H5 k
      generalize R[k] = o at *
      obtain ⟨o, rfl⟩ := Int.eq_ofNat_of_zero_le hro.1
      have hoN : o < g.objs.length := by omega
      obtain ⟨b, off, ai, ci, rfl, hbB, hcb, hva⟩ := ((unhide HO3).below (hb.mono (by omega))).at hoN
      have hfl := unhide Hfl o hoN
      have h4 : (g.objs[o]).length ≤ 4 := unhide Hn4 _ (List.getElem_mem hoN)
      generalize g.objs[o] = f at *
      have HT2 : Hid (tot ((R.take (k + 1)).map (fO fs)) = tot ((R.take k).map (fO fs)) + 1 + f.length) := by show _ = _; rw [unhide HT, hfl]; omega
      clear HT hfl hva
      have hoI : (o : Int) < (g.objs.length : Int) := by omega
      generalize tot ((R.take k).map (fO fs)) = T at *
      generalize f.length = fl at *
      have hw1 : IntKind.i64.wrap ((T : Int) + 1) = (T : Int) + 1 := by rw [IntKind.wrap_i64]; omega
      have hw2 : IntKind.i64.wrap ((T : Int) + 1 + (fl : Int)) = (T : Int) + 1 + (fl : Int) := by rw [IntKind.wrap_i64]; omega
      have hq1 : b1 < wr.heap.size := by omega
      have hq2 : b < wr.heap.size := by omega
      go_wp2
      go_roundw
      case rel => exact ⟨k + 1, by omega, by go_num, by rw [unhide HT2]; go_num, hb⟩
      case measure => simp [intOf]; omega
    · obtain rfl : k = R.length := by omega
      have Hf : Hid (tot ((R.take R.length).map (fO fs)) = tot (mF fs rs)) := by show _ = _; rw [List.take_length]; exact unhide Hsz
      go_wp2
      go_ret
      rw [unhide Hf]
      exact ⟨rfl, hbw3.trans (hb.mono (by omega))⟩

end Go.Proofs.Ytemjhdbmcdlpeaa
