/- Merged texts: Ie If Ig Ih Ij Ik Il In Ip Ja Jb Jc Kn Jd. -/
import Derived.Test.YtlolcdgbidboeaaProg
import Derived.Test.YtlolcdgbidboeaaIdealSplitsUptoB
import Derived.Lib.SliceRun
import Derived.Laws.CopyOwn
import Derived.Laws.StructEq
import Derived.BigQuiet

/- Walks: objects: size, get, put. -/
namespace Go.Proofs.Ytlolcdgbidboeaa
set_option linter.unusedSimpArgs false
set_option linter.unusedVariables false
open Go.RowKit Go.Shelf

theorem OM.objAt {W : World} {N ob : Nat} {vo : Value} {fb : List Value} {objs : List (List V)} (h : OM W N ob vo fb objs) {i : Nat} {l : List V} (hl : objs[i]? = some l) :
    ∃ g c u a cu, vo = .slice (some ⟨g, 0, none⟩) objs.length c ∧ g < W.heap.size ∧ fb[i]? = some u ∧ u = .slice a l.length cu ∧ W.cell? ⟨g, i, none⟩ = some u ∧ OwnV W N u l := by
  have hil := (List.getElem?_eq_some_iff.1 hl).1
  obtain ⟨g, c, u, h1, h2, h3, h4, h5⟩ := h.own.at hil
  have e : objs[i] = l := by rw [List.getElem?_eq_getElem hil] at hl; injection hl
  rw [e] at h5
  obtain ⟨a, cu, hu⟩ := h5.slice
  exact ⟨g, c, u, a, cu, by rw [h1, h.own.len], h2, h3, hu, h4, h5⟩

set_option maxRecDepth 100000 in
set_option maxHeartbeats 2000000 in
theorem size_c (N ob : Nat) (vo : Value) (fb : List Value) (objs : List (List V)) (o : Nat) (l : List V) (w : World) (h : OM w N ob vo fb objs) (hl : objs[o]? = some l) :
    Calls Try.prog 76 #[.pointer (some ⟨ob, 0, none⟩), .int .i64 (o : Nat)] w fun e w' => e = .returned (.int .i64 (l.length : Nat)) ∧ w' = w := by
  obtain ⟨g, c, u, a, cu, rfl, hg, _, rfl, hc, _⟩ := h.objAt hl
  have hob := h.c0
  have hobl := lt_of_heap h.box
  have hol := (List.getElem?_eq_some_iff.1 hl).1
  have hoI : (o : Int) < (objs.length : Int) := by omega
  clear h hl
  go_enter Try.func76, Try.ntmps76
  go_wp2
  go_ret
  exact ⟨rfl, rfl⟩

set_option maxRecDepth 100000 in
set_option maxHeartbeats 2000000 in
theorem get_c (N ob : Nat) (vo : Value) (fb : List Value) (objs : List (List V)) (o j : Nat) (l : List V) (x : V) (w : World) (h : OM w N ob vo fb objs) (hl : objs[o]? = some l) (hx : l[j]? = some x) :
    Calls Try.prog 74 #[.pointer (some ⟨ob, 0, none⟩), .int .i64 (o : Nat), .int .i64 (j : Nat)] w fun e w' => e = .returned (.agg #[.bool x.1, .int .i64 x.2]) ∧ Below w.heap.size w w' := by
  obtain ⟨g, c, u, a, cu, rfl, hg, _, rfl, hc, hV⟩ := h.objAt hl
  have hjl := (List.getElem?_eq_some_iff.1 hx).1
  obtain ⟨b, cb, hv, hb1, hb2⟩ := hV.form (by omega)
  injection hv with e1 _ e2
  subst e1 e2
  obtain ⟨c0, c1, cf⟩ := hV.cell hx
  have hob := h.c0
  have hobl := lt_of_heap h.box
  have hol := (List.getElem?_eq_some_iff.1 hl).1
  have hoI : (o : Int) < (objs.length : Int) := by omega
  have hjI : (j : Int) < (l.length : Int) := by omega
  have hb : Below w.heap.size w (w.alloc (.cells #[.bool x.1, .int .i64 x.2] 47)) := (Below.refl _ _).alloc (Nat.le_refl _) _
  clear h hl hV hx
  go_enter Try.func74, Try.ntmps74
  go_wp2
  exact bodyPost_ret (v := .agg #[.bool x.1, .int .i64 x.2]) (by simp [results, Try.results74, go_sem]) rfl ⟨rfl, hb⟩

set_option maxRecDepth 100000 in
set_option maxHeartbeats 2000000 in
theorem put_c (N ob : Nat) (vo : Value) (fb : List Value) (objs : List (List V)) (o j : Nat) (l : List V) (x : V) (w : World) (h : OM w N ob vo fb objs) (hl : objs[o]? = some l) (hj : j < l.length) :
    Calls Try.prog 75 #[.pointer (some ⟨ob, 0, none⟩), .int .i64 (o : Nat), .int .i64 (j : Nat), .agg #[.bool x.1, .int .i64 x.2]] w fun e w' => e = .returned (.tuple #[]) ∧ OM w' N ob vo fb (objs.set o (l.set j x)) ∧ Kp (OwnO.In vo fb) w w' := by
  obtain ⟨W1, hW1⟩ : ∃ W1, w.alloc (.cells #[.bool x.1, .int .i64 x.2] 47) = W1 := ⟨_, rfl⟩
  have hb : Below w.heap.size w W1.drew := by rw [← hW1]; exact ((Below.refl _ _).alloc (Nat.le_refl _) _).drew
  have hb0 : Below w.heap.size w W1 := by rw [← hW1]; exact ((Below.refl _ _).alloc (Nat.le_refl _) _)
  have k0 : W1.cell? ⟨w.heap.size, 0, none⟩ = some (.bool x.1) := by rw [← hW1]; simp [go_sem]
  have k1 : W1.cell? ⟨w.heap.size, 1, none⟩ = some (.int .i64 x.2) := by rw [← hW1]; simp [go_sem]
  have h0 := h.below hb0
  have hD := h.below hb
  obtain ⟨g, c, u, a, cu, rfl, hg, hu, rfl, hc, hV⟩ := h0.objAt hl
  obtain ⟨b, cb, hv, hb1, hb2⟩ := hV.form (by omega)
  injection hv with e1 _ e2
  subst e1 e2
  obtain ⟨c0, c1, cf⟩ := hV.cell (List.getElem?_eq_getElem hj)
  generalize l[j] = y at *
  have f0 := cf (j * 2)
  have f1 := cf (j * 2 + 1)
  have hob := h0.c0
  have hobl := lt_of_heap h.box
  have hobl0 := lt_of_heap h0.box
  have hol := (List.getElem?_eq_some_iff.1 hl).1
  have hoI : (o : Int) < (objs.length : Int) := by omega
  have hjI : (j : Int) < (l.length : Int) := by omega
  have hS := hD.own.setF hu hl j x
  have hK := grown_set2 W1.drew b (j * 2) (j * 2 + 1) (.bool x.1) (.int .i64 x.2)
  have hIn : OwnO.In (.slice (some ⟨g, 0, none⟩) objs.length c) fb b := .inr ⟨_, List.mem_of_getElem? hu, rfl⟩
  have hbo : ob ≠ b := fun e => h.out (e ▸ hIn)
  have Hfin : Hid (OM ((W1.drew.setCell ⟨b, j * 2, none⟩ (.bool x.1)).setCell ⟨b, j * 2 + 1, none⟩ (.int .i64 x.2)) N ob (.slice (some ⟨g, 0, none⟩) objs.length c) fb (objs.set o (l.set j x)) ∧ Kp (OwnO.In (.slice (some ⟨g, 0, none⟩) objs.length c) fb) w ((W1.drew.setCell ⟨b, j * 2, none⟩ (.bool x.1)).setCell ⟨b, j * 2 + 1, none⟩ (.int .i64 x.2))) := by
    refine ⟨⟨?_, hS, h.lo⟩, (Kp.of_below hb).trans (S' := OwnO.In (.slice (some ⟨g, 0, none⟩) objs.length c) fb) (Kp.of_grown hK (fun k e => by injection e with e; subst e; exact hIn)) (fun k e => .inl e)⟩
    exact (hK.block ob (lt_of_heap hD.box) (fun e => hbo (by injection e))).trans hD.box
  clear h h0 hD hl hV hS hK hb hb0 cf hu hIn
  go_enter Try.func75, Try.ntmps75
  go_wp2
  clear hW1
  go_still_tail 11, Try.mixed
  change wpList _ _ _ _ _ W1.drew
  go_wp2
  refine bodyPost_end (v := .tuple #[]) (results_none rfl _ _ _) rfl ⟨rfl, unhide Hfin⟩

end Go.Proofs.Ytlolcdgbidboeaa

/- Walks: an object more. -/
namespace Go.Proofs.Ytlolcdgbidboeaa
set_option linter.unusedSimpArgs false
set_option linter.unusedVariables false
open Go.RowKit Go.Shelf

theorem cells_zero : (Value.agg #[.bool false, .int .i64 0]).cells = #[.bool false, .int .i64 0] := by simp [Value.cells]

theorem made_cells (n : Nat) (hn : n ≤ 8) : (madeCells (Value.agg #[.bool false, .int .i64 0]).cells (n * 2)).toList = cellsV (List.replicate n (false, 0)) := by
  rw [cells_zero]
  rcases n with _ | _ | _ | _ | _ | _ | _ | _ | _ | n
  all_goals first | omega | simp [madeCells, cellsV, Array.range, List.range, List.range.loop, List.replicate]

/-- A row of zeros is made. -/
theorem run_made (n : Nat) (hn : n ≤ 1000) (w : World) : Sem.run Try.prog (Instr.makeSlice 23 (.int .i64 (n : Nat)) (.int .i64 (n : Nat))) w = .ok (.slice (some ⟨w.heap.size, 0, none⟩) n n) (w.alloc (.cells (madeCells (Value.agg #[.bool false, .int .i64 0]).cells (n * 2)) 47)) := by
  obtain ⟨i, hi, hz, hs, hb⟩ := info_parts Try.info47'
  have := run_make (P := Try.prog) w 23 47 i _ Try.underlying23 hi hz .i64 .i64 n n (by omega) (Int.le_refl _) (by rw [hb]; omega) (by omega)
  simp only [Int.toNat_natCast, hs] at this
  exact this

theorem made_own (W : World) (N n : Nat) (hn : n ≤ 8) (hN : N ≤ W.heap.size) : OwnV (W.alloc (.cells (madeCells (Value.agg #[.bool false, .int .i64 0]).cells (n * 2)) 47)) N (.slice (some ⟨W.heap.size, 0, none⟩) n n) (List.replicate n (false, 0)) := by
  have := World.ownsRow_lit (base := N) (e := 47) (size := 2) W (madeCells (Value.agg #[.bool false, .int .i64 0]).cells (n * 2)) n hN (by simp only [maxLen]; omega) (size_madeCells _ _)
  rw [made_cells n hn] at this
  unfold OwnV
  rw [List.length_replicate]
  exact this

/-- Behind the append, ahead of the store: an object more. -/
theorem OM.pushed {W W1 W2 : World} {N ob : Nat} {vo u : Value} {fb : List Value} {objs : List (List V)} {l : List V} {vo' : Value} (h : OM W N ob vo fb objs) (hb : Below W.heap.size W W1) (hu : OwnV W1 N u l) (hub : ∀ k, u.ownBlock = some k → W.heap.size ≤ k)
    (hrow : W2.ownsRow N 62 1 vo' (fb.length + 1) (fb ++ [u])) (hg : W1.grownBy W2 vo.ownBlock) (hat : vo'.ownBlock = vo.ownBlock ∨ vo'.ownBlock = some W1.heap.size) :
    W2.heap[ob]? = some (.cells [vo].toArray 60) ∧ OM (W2.setCell ⟨ob, 0, none⟩ vo') N ob vo' (fb ++ [u]) (objs ++ [l]) ∧ Kp (OS ob vo fb) W (W2.setCell ⟨ob, 0, none⟩ vo') ∧ ∀ k, OS ob vo' (fb ++ [u]) k → OS ob vo fb k ∨ W.heap.size ≤ k := by
  have hx := h.below hb
  have hap : ∀ k, u.ownBlock = some k → ¬ OwnO.In vo fb k := fun k hk hi => by have := (h.own.lt hi).2; have := hub k hk; omega
  have hP := hx.own.push hg hrow hat hu hap
  have hob : ob ≠ Option.getD vo.ownBlock (ob + 1) := by
    cases hv : vo.ownBlock with
    | none => simp
    | some k => intro e; exact h.out (.inl (by rw [hv]; simp at e; rw [e]))
  have hbox : W2.heap[ob]? = some (.cells [vo].toArray 60) := by
    rw [hg.block ob (lt_of_heap hx.box) (fun e => by rw [← e] at hob; simp at hob)]
    exact hx.box
  have hk1 : Kp (OS ob vo fb) W W2 := (Kp.of_below hb).trans (S' := OS ob vo fb) (Kp.of_grown hg (fun k hk => .inr (.inl hk))) (fun k e => .inl e)
  have hk2 : Kp (fun k => k = ob) W2 (W2.setCell ⟨ob, 0, none⟩ vo') := Kp.set ob 0 vo' W2 rfl
  have hsz := hb.size
  refine ⟨hbox, ⟨?_, hP.keep hk2 (fun k hi e => ?_), h.lo⟩, hk1.trans hk2 (fun k e => .inl (.inl e)), fun k hk => ?_⟩
  · have := box_set hbox 0 vo'
    simpa using this
  · subst e
    exact hP.ne hbox (by decide) (by decide) hi
  · rcases hk with hk | hk | ⟨v, hv, hk⟩
    · exact .inl (.inl hk)
    · rcases hat with h1 | h1
      · rw [h1] at hk; exact .inl (.inr (.inl hk))
      · rw [h1] at hk; injection hk with hk; right; omega
    · rcases List.mem_append.1 hv with hv | hv
      · exact .inl (.inr (.inr ⟨v, hv, hk⟩))
      · simp only [List.mem_singleton] at hv
        subst hv
        exact .inr (hub k hk)

def CrRes (N ob : Nat) (vo : Value) (fb : List Value) (objs : List (List V)) (w w' : World) : Prop :=
  ∃ vo' fb', OM w' N ob vo' fb' objs ∧ Kp (OS ob vo fb) w w' ∧ ∀ k, OS ob vo' fb' k → OS ob vo fb k ∨ w.heap.size ≤ k

set_option maxRecDepth 100000 in
set_option maxHeartbeats 2000000 in
theorem create_c (N ob : Nat) (vo : Value) (fb : List Value) (objs : List (List V)) (n : Nat) (w : World) (h : OM w N ob vo fb objs) (hn : n ≤ 4) (hol : objs.length ≤ 200) (hNw : N ≤ w.heap.size) :
    Calls Try.prog 73 #[.pointer (some ⟨ob, 0, none⟩), .int .i64 (n : Nat)] w fun e w' => e = .returned (.int .i64 (objs.length : Nat)) ∧ CrRes N ob vo fb (objs ++ [List.replicate n (false, 0)]) w w' := by
  have hrow0 := h.own.row
  have hfl := h.own.len
  obtain ⟨oa, oc, rfl⟩ := ownsRow_slice hrow0
  have hob := h.c0
  have hobl := lt_of_heap h.box
  have hbd : Below w.heap.size w w.drew := (Below.refl _ _).drew
  obtain ⟨M, HM⟩ : ∃ M, Hid (madeCells (Value.agg #[.bool false, .int .i64 0]).cells (n * 2) = M) := ⟨_, rfl⟩
  have hmk := run_made n (by omega)
  rw [unhide HM] at hmk
  obtain ⟨i0, hi, hz0, hz1, hz2⟩ := info_parts Try.info62'
  obtain ⟨W1, HW1⟩ : ∃ W1, Hid (((w.alloc (.cells M 47)).alloc (.cells #[.slice (some ⟨w.heap.size, 0, none⟩) n n] 62)).drew = W1) := ⟨_, rfl⟩
  have hb1 : Below w.heap.size w W1 := by rw [← unhide HW1]; exact (((Below.refl _ _).alloc (Nat.le_refl _) _).alloc (by simp) _).drew
  have hu : OwnV W1 N (.slice (some ⟨w.heap.size, 0, none⟩) n n) (List.replicate n (false, 0)) := by
    rw [← unhide HW1, ← unhide HM]
    have h0 := made_own w N n (by omega) hNw
    exact h0.below (((Below.refl _ _).alloc (Nat.le_refl _) _).drew)
  have hs1 : W1.heap.size = w.heap.size + 2 := by rw [← unhide HW1]; simp
  have hcl : ∀ j u, ([.slice (some ⟨w.heap.size, 0, none⟩) n n] : List Value)[j]? = some u → W1.cell? ((⟨w.heap.size + 1, 0, none⟩ : Addr).add j) = some u := fun j u hj => by
    have := cell_one_at (w.alloc (.cells M 47)) (.slice (some ⟨w.heap.size, 0, none⟩) n n) 62 (w.heap.size + 1) (by simp) j u hj
    rw [← unhide HW1]
    exact this
  have hrow2 := ownsRow_below hrow0 hb1
  have hone : ∀ u ∈ ([.slice (some ⟨w.heap.size, 0, none⟩) n n] : List Value), u.oneCell' = true := by simp [Value.oneCell']
  have hmx : fb.length + 1 ≤ maxLen := by simp only [maxLen]; omega
  have hmy : (fb.length + 1) * 24 ≤ 140737488355328 := by omega
  have hbase : N ≤ W1.heap.size := by omega
  rw [← unhide HW1] at hcl hrow2 hbase
  have Hh := hide h
  have Hu := hide hu
  have Hb1 := hide hb1
  have Hfl := hide hfl
  have hq : ∀ (v' : Value) (w7 : World), (((w.alloc (.cells M 47)).alloc (.cells #[.slice (some ⟨w.heap.size, 0, none⟩) n n] 62)).drew).grownBy w7 (Value.ownBlock (.slice oa fb.length oc)) → w7.ownsRow N 62 1 v' (fb.length + 1) (fb ++ [.slice (some ⟨w.heap.size, 0, none⟩) n n]) → (v'.ownBlock = Value.ownBlock (.slice oa fb.length oc) ∨ v'.ownBlock = some (((w.alloc (.cells M 47)).alloc (.cells #[.slice (some ⟨w.heap.size, 0, none⟩) n n] 62)).drew).heap.size) →
      w7.cell? ⟨ob, 0, none⟩ = some (.slice oa fb.length oc) ∧ w7.frozen? ⟨ob, 0, none⟩ = false ∧ ob < w7.heap.size ∧ Hid (CrRes N ob (.slice oa fb.length oc) fb (objs ++ [List.replicate n (false, 0)]) w (w7.setCell ⟨ob, 0, none⟩ v')) := fun v' w7 hg hrow hat => by
    rw [unhide HW1] at hg hat
    obtain ⟨p1, p2, p3, p4⟩ := (unhide Hh).pushed (unhide Hb1) (unhide Hu) (fun k hk => by simp [Value.ownBlock] at hk; omega) hrow hg hat
    exact ⟨by rw [box_cell p1]; rfl, box_fr p1 0, lt_of_heap p1, _, _, p2, p3, p4⟩
  have Hq := hide hq
  clear h hu hrow0 hfl hs1 hq hb1
  go_enter Try.func73, Try.ntmps73
  go_wp2
  go_region_law (first
    | (refine step_append_at rfl _ _ 22 rfl N 62 i0 _ 1 24 Try.underlying22 hi hz0 hz1 hz2 rfl (Nat.zero_lt_one) (.slice oa fb.length oc) fb.length fb rfl hrow2 ⟨w.heap.size + 1, 0, none⟩ 1 1 [.slice (some ⟨w.heap.size, 0, none⟩) n n] rfl rfl hcl hone hmx hmy hbase ?_; intro v' w7 hrow7 hg7 hat7; obtain ⟨g7, cap7, hv7⟩ := ownsRow_succ hrow7; subst hv7; obtain ⟨q1, q2, q3, q4⟩ := (unhide Hq) _ _ hg7 hrow7 hat7; clear hg7 hrow7 hat7))
  all_goals
    clear HW1 hcl hrow2
    have hfl2 : fb.length ≤ 200 := by have := unhide Hfl; omega
    go_wp2
    go_ret
    exact ⟨by rw [← unhide Hfl]; simp, unhide q4⟩

end Go.Proofs.Ytlolcdgbidboeaa

/- Walks: what is wrong with a field; same; tell. -/
namespace Go.Proofs.Ytlolcdgbidboeaa
set_option linter.unusedSimpArgs false
set_option linter.unusedVariables false
open Go.RowKit Go.Shelf

theorem m_size (a : Addr) (w : World) : Sem.run Try.prog (method 230 42 (.pointer (some a)) "ragpicker/ideal.size") w = .ok (76, .pointer (some a)) w := by kernel_rfl
theorem m_get (a : Addr) (w : World) : Sem.run Try.prog (method 230 42 (.pointer (some a)) "ragpicker/ideal.get") w = .ok (74, .pointer (some a)) w := by kernel_rfl
theorem m_put (a : Addr) (w : World) : Sem.run Try.prog (method 230 42 (.pointer (some a)) "ragpicker/ideal.put") w = .ok (75, .pointer (some a)) w := by kernel_rfl
theorem m_create (a : Addr) (w : World) : Sem.run Try.prog (method 230 42 (.pointer (some a)) "ragpicker/ideal.create") w = .ok (73, .pointer (some a)) w := by kernel_rfl

set_option maxRecDepth 100000 in
set_option maxHeartbeats 2000000 in
theorem tell_ref (N mb ob : Nat) (vo : Value) (fb : List Value) (m : Mm) (w : World) (h : PM w N mb ob vo fb m) (o : Nat) (l : List V) (hl : m.objs[o]? = some l) :
    Calls Try.prog 33 #[.pointer (some ⟨mb, 0, none⟩), .agg #[.bool true, .int .i64 (o : Nat)]] w fun e w' => e = .returned (.agg #[.int .i64 0, .bool true, .int .i64 (l.length : Nat)]) ∧ Below w.heap.size w w' := by
  obtain ⟨W1, hW1⟩ : ∃ W1, (w.alloc (.cells #[.bool true, .int .i64 (o : Nat)] 47)).alloc (.cells #[.int .i64 0, .bool false, .int .i64 0] 55) = W1 := ⟨_, rfl⟩
  have hb1 : Below w.heap.size w W1 := by rw [← hW1]; exact ((Below.refl _ _).alloc (Nat.le_refl _) _).alloc (by simp) _
  have k0 : W1.cell? ⟨w.heap.size, 0, none⟩ = some (.bool true) := by rw [← hW1]; simp [go_sem]
  have k1 : W1.cell? ⟨w.heap.size, 1, none⟩ = some (.int .i64 (o : Nat)) := by rw [← hW1]; simp [go_sem]
  have r0 : W1.cell? ⟨w.heap.size + 1, 0, none⟩ = some (.int .i64 0) := by rw [← hW1]; simp [go_sem]
  have r1 : W1.cell? ⟨w.heap.size + 1, 1, none⟩ = some (.bool false) := by rw [← hW1]; simp [go_sem]
  have r2 : W1.cell? ⟨w.heap.size + 1, 2, none⟩ = some (.int .i64 0) := by rw [← hW1]; simp [go_sem]
  have f0 : W1.frozen? ⟨w.heap.size + 1, 0, none⟩ = false := by rw [← hW1]; simp [go_sem]
  have f1 : W1.frozen? ⟨w.heap.size + 1, 1, none⟩ = false := by rw [← hW1]; simp [go_sem]
  have f2 : W1.frozen? ⟨w.heap.size + 1, 2, none⟩ = false := by rw [← hW1]; simp [go_sem]
  have hP := h.below hb1
  have h0 := hP.i0
  have hmb := lt_of_heap hP.box
  have hms := m_size ⟨ob, 0, none⟩
  have Hs := hide (size_c N ob vo fb m.objs o l W1.drew ((h.below hb1.drew).mem) hl)
  have hbf : Below w.heap.size w W1.drew := hb1.drew
  clear h hP hl
  go_enter Try.func33, Try.ntmps33
  go_wp2
  clear hW1
  go_region_with (go_at_call 76; refine (unhide Hs).mono ?_; rintro e w2 ⟨rfl, hw2⟩; subst hw2)
  all_goals
    go_wp2
    refine bodyPost_ret (v := .agg #[.int .i64 0, .bool true, .int .i64 (l.length : Nat)]) (by simp [results, Try.results33, go_sem, r0, r1, r2]) rfl ⟨rfl, ?_⟩
    exact (((hb1.setCell (p := ⟨w.heap.size + 1, 0, none⟩) (by simp) _).setCell (p := ⟨w.heap.size + 1, 1, none⟩) (by simp) _).setCell (p := ⟨w.heap.size + 1, 2, none⟩) (by simp) _).drew

set_option maxRecDepth 100000 in
set_option maxHeartbeats 2000000 in
theorem tell_num (p : Value) (n : Int) (w : World) :
    Calls Try.prog 33 #[p, .agg #[.bool false, .int .i64 n]] w fun e w' => e = .returned (.agg #[.int .i64 0, .bool false, .int .i64 n]) ∧ Below w.heap.size w w' := by
  have hb1 : Below w.heap.size w ((w.alloc (.cells #[.bool false, .int .i64 n] 47)).alloc (.cells #[.int .i64 0, .bool false, .int .i64 n] 55)) := ((Below.refl _ _).alloc (Nat.le_refl _) _).alloc (by simp) _
  go_enter Try.func33, Try.ntmps33
  go_wp2
  exact bodyPost_ret (v := .agg #[.int .i64 0, .bool false, .int .i64 n]) (by simp [results, Try.results33, go_sem]) rfl ⟨rfl, hb1⟩

theorem eqV_iff (x y : V) : (x.1 == y.1 && x.2 == y.2) = true ↔ x = y := by
  obtain ⟨a, b⟩ := x
  obtain ⟨c, d⟩ := y
  simp

/-- What a register has. -/
structure RegAt (m : Mm) (i : Nat) (x : V) : Prop where
  at_ : m.regs[i]? = some x

theorem value_r {N mb ob : Nat} {vo : Value} {fb : List Value} {m : Mm} {w : World} (h : PM w N mb ob vo fb m) : Hid (∀ (i : Nat) (x : V), RegAt m i x → ∀ W, Below w.heap.size w W → Calls Try.prog 31 #[.pointer (some ⟨mb, 1, none⟩), .int .i64 (i : Nat)] W fun e w' => e = .returned (.agg #[.bool x.1, .int .i64 x.2]) ∧ Below W.heap.size W w') :=
  fun i x hx W hW => value_c N mb ob vo fb m i x W (h.below hW) hx.at_

set_option maxRecDepth 100000 in
set_option maxHeartbeats 2000000 in
theorem same_c (N mb ob : Nat) (vo : Value) (fb : List Value) (m : Mm) (i j : Nat) (x y : V) (w : World) (h : PM w N mb ob vo fb m) (hx : m.regs[i]? = some x) (hy : m.regs[j]? = some y) :
    Calls Try.prog 32 #[.pointer (some ⟨mb, 0, none⟩), .int .i64 (i : Nat), .int .i64 (j : Nat)] w fun e w' => e = .returned (.int .i64 (if x = y then 1 else 0)) ∧ Below w.heap.size w w' := by
  have hmb := lt_of_heap h.box
  obtain ⟨bb, Hb⟩ : ∃ bb, Hid ((x.1 == y.1 && x.2 == y.2) = bb) := ⟨_, rfl⟩
  have heq := eql_v x.1 y.1 x.2 y.2
  rw [unhide Hb] at heq
  have Hv := value_r h
  have ri : RegAt m i x := ⟨hx⟩
  have rj : RegAt m j y := ⟨hy⟩
  clear h hx hy
  cases bb
  · have he : ¬ x = y := fun e => by have h1 := unhide Hb; rw [(eqV_iff x y).2 e] at h1; cases h1
    rw [if_neg he]
    clear he Hb
    go_enter Try.func32, Try.ntmps32
    go_wp2
    refine wp_region_quiet_below (by kernel_rfl) (by kernel_rfl) ?_
    repeat (go_big_quiet_step (exact Calls.regrown_of ((unhide Hv) _ _ (by assumption) _ (below_regrown _ _ _))))
    refine wpQuiet_nil ?_
    intro _ hw'
    obtain ⟨⟨dq, osq⟩, hw''⟩ := hw'
    subst hw''
    have hbq := below_regrown w dq osq
    generalize Go.Sort.grow (redrawn w dq) osq = wq at *
    go_wp2
    go_ret
    exact ⟨rfl, hbq⟩
  · have he : x = y := (eqV_iff x y).1 (unhide Hb)
    rw [if_pos he]
    clear he Hb
    go_enter Try.func32, Try.ntmps32
    go_wp2
    refine wp_region_quiet_below (by kernel_rfl) (by kernel_rfl) ?_
    repeat (go_big_quiet_step (exact Calls.regrown_of ((unhide Hv) _ _ (by assumption) _ (below_regrown _ _ _))))
    refine wpQuiet_nil ?_
    intro _ hw'
    obtain ⟨⟨dq, osq⟩, hw''⟩ := hw'
    subst hw''
    have hbq := below_regrown w dq osq
    generalize Go.Sort.grow (redrawn w dq) osq = wq at *
    go_wp2
    go_ret
    exact ⟨rfl, hbq⟩

end Go.Proofs.Ytlolcdgbidboeaa

/- Walks: what is wrong. -/
namespace Go.Proofs.Ytlolcdgbidboeaa
set_option linter.unusedSimpArgs false
set_option linter.unusedVariables false
open Go.RowKit Go.Shelf

def wfE (m : Mm) (x : V) (f : Int) : Int := if x.1 = false then 5 else if f < 0 ∨ ((fldM m x.2).length : Int) ≤ f then 3 else 0

set_option maxRecDepth 100000 in
set_option maxHeartbeats 2000000 in
theorem wrongField_c (N mb ob : Nat) (vo : Value) (fb : List Value) (m : Mm) (x : V) (f : Int) (w : World) (h : PM w N mb ob vo fb m) (hx : x.1 = true → 0 ≤ x.2 ∧ x.2 < m.objs.length) :
    Calls Try.prog 49 #[.pointer (some ⟨mb, 0, none⟩), .agg #[.bool x.1, .int .i64 x.2], .int .i64 f] w fun e w' => e = .returned (.int .i64 (wfE m x f)) ∧ Below w.heap.size w w' := by
  obtain ⟨r, n⟩ := x
  cases r
  · have hE : wfE m (false, n) f = 5 := by simp [wfE]
    rw [hE]
    have hb1 : Below w.heap.size w (w.alloc (.cells #[.bool false, .int .i64 n] 47)) := (Below.refl _ _).alloc (Nat.le_refl _) _
    clear h hx
    go_enter Try.func49, Try.ntmps49
    go_wp2
    go_ret
    exact ⟨rfl, hb1⟩
  · obtain ⟨h0, h1⟩ := hx rfl
    simp only at h0 h1
    obtain ⟨o, rfl⟩ := Int.eq_ofNat_of_zero_le h0
    have hol : o < m.objs.length := by omega
    have hl := List.getElem?_eq_getElem hol
    have hfl : fldM m (o : Int) = m.objs[o] := by unfold fldM; rw [Int.toNat_natCast, List.getD_eq_getElem?_getD, hl]; rfl
    have hE : wfE m (true, (o : Int)) f = if f < 0 ∨ (m.objs[o].length : Int) ≤ f then 3 else 0 := by simp [wfE, hfl]
    rw [hE]
    clear hE hfl
    generalize m.objs[o] = l at *
    obtain ⟨W1, hW1⟩ : ∃ W1, w.alloc (.cells #[.bool true, .int .i64 (o : Nat)] 47) = W1 := ⟨_, rfl⟩
    have hb1 : Below w.heap.size w W1 := by rw [← hW1]; exact (Below.refl _ _).alloc (Nat.le_refl _) _
    have k0 : W1.cell? ⟨w.heap.size, 0, none⟩ = some (.bool true) := by rw [← hW1]; simp [go_sem]
    have k1 : W1.cell? ⟨w.heap.size, 1, none⟩ = some (.int .i64 (o : Nat)) := by rw [← hW1]; simp [go_sem]
    have hP := h.below hb1
    have i0 := hP.i0
    have hmb := lt_of_heap hP.box
    have hms := m_size ⟨ob, 0, none⟩
    have Hs : Hid (∀ W, Below W1.heap.size W1 W → Calls Try.prog 76 #[.pointer (some ⟨ob, 0, none⟩), .int .i64 (o : Nat)] W fun e w' => e = .returned (.int .i64 (l.length : Nat)) ∧ Below W.heap.size W w') := fun W hW => (size_c N ob vo fb m.objs o l W (hP.below hW).mem hl).mono (by rintro e w' ⟨he, rfl⟩; exact ⟨he, Below.refl _ _⟩)
    have G0 := cell_regrown k0
    have G1 := cell_regrown k1
    have G2 := cell_regrown i0
    clear h hP hl hx
    by_cases hf : f < 0
    · have d0 : decide (f < 0) = true := by simpa using hf
      rw [if_pos (.inl hf)]
      clear hf
      go_enter Try.func49, Try.ntmps49
      go_wp2
      clear hW1
      refine wp_region_quiet_below (by kernel_rfl) (by kernel_rfl) ?_
      repeat (go_big_quiet_step (exact Calls.regrown_of ((unhide Hs) _ (below_regrown _ _ _))))
      refine wpQuiet_nil ?_
      intro _ hw'
      obtain ⟨⟨dq, osq⟩, hw''⟩ := hw'
      subst hw''
      have hbq := below_regrown W1 dq osq
      clear G0 G1 G2
      generalize Go.Sort.grow (redrawn W1 dq) osq = wq at *
      go_wp2
      go_ret
      exact ⟨rfl, hb1.trans (hbq.mono hb1.size)⟩
    · have d0 : decide (f < 0) = false := by simpa using hf
      by_cases hg : (l.length : Int) ≤ f
      · have d1 : decide ((l.length : Int) ≤ f) = true := by simpa using hg
        rw [if_pos (.inr hg)]
        clear hf hg
        go_enter Try.func49, Try.ntmps49
        go_wp2
        clear hW1
        refine wp_region_quiet_below (by kernel_rfl) (by kernel_rfl) ?_
        repeat (go_big_quiet_step (exact Calls.regrown_of ((unhide Hs) _ (below_regrown _ _ _))))
        refine wpQuiet_nil ?_
        intro _ hw'
        obtain ⟨⟨dq, osq⟩, hw''⟩ := hw'
        subst hw''
        have hbq := below_regrown W1 dq osq
        clear G0 G1 G2
        generalize Go.Sort.grow (redrawn W1 dq) osq = wq at *
        go_wp2
        go_ret
        exact ⟨rfl, hb1.trans (hbq.mono hb1.size)⟩
      · have d1 : decide ((l.length : Int) ≤ f) = false := by simpa using hg
        rw [if_neg (by omega)]
        clear hf hg
        go_enter Try.func49, Try.ntmps49
        go_wp2
        clear hW1
        refine wp_region_quiet_below (by kernel_rfl) (by kernel_rfl) ?_
        repeat (go_big_quiet_step (exact Calls.regrown_of ((unhide Hs) _ (below_regrown _ _ _))))
        refine wpQuiet_nil ?_
        intro _ hw'
        obtain ⟨⟨dq, osq⟩, hw''⟩ := hw'
        subst hw''
        have hbq := below_regrown W1 dq osq
        clear G0 G1 G2
        generalize Go.Sort.grow (redrawn W1 dq) osq = wq at *
        go_wp2
        go_ret
        exact ⟨rfl, hb1.trans (hbq.mono hb1.size)⟩

end Go.Proofs.Ytlolcdgbidboeaa

/- Walks: what is wrong with a step. -/
namespace Go.Proofs.Ytlolcdgbidboeaa
set_option linter.unusedSimpArgs false
set_option linter.unusedVariables false
open Go.RowKit Go.Shelf

/-- A register's number is one, or isn't. -/
structure InR (r : Int) (b : Bool) : Prop where
  is_ : (decide (0 ≤ r) && decide (r < 8)) = b
structure NdT (k : Int) (b : Bool) : Prop where
  is_ : (k != 7) = b
structure NdF (k : Int) (b : Bool) : Prop where
  is_ : (k != 1 && k != 2) = b
structure Bey (k n : Int) (b : Bool) : Prop where
  is_ : beyB k n = b

theorem has_r : Hid (∀ (r : Int) (b : Bool), InR r b → ∀ (p : Value) (W : World), Calls Try.prog 46 #[p, .int .i64 r] W fun e w' => e = .returned (.bool b) ∧ Below W.heap.size W w') :=
  fun r b h p W => (rhas_c p r W).mono (by rintro e w' ⟨rfl, rfl⟩; exact ⟨by rw [h.is_], Below.refl _ _⟩)
theorem ndT_r : Hid (∀ (k : Int) (b : Bool), NdT k b → ∀ (W : World), Calls Try.prog 45 #[.int .i64 k] W fun e w' => e = .returned (.bool b) ∧ Below W.heap.size W w') :=
  fun r b h W => (needsTo_c r W).mono (by rintro e w' ⟨rfl, rfl⟩; exact ⟨by rw [h.is_], Below.refl _ _⟩)
theorem ndF_r : Hid (∀ (k : Int) (b : Bool), NdF k b → ∀ (W : World), Calls Try.prog 47 #[.int .i64 k] W fun e w' => e = .returned (.bool b) ∧ Below W.heap.size W w') :=
  fun r b h W => (needsFrom_c r W).mono (by rintro e w' ⟨rfl, rfl⟩; exact ⟨by rw [h.is_], Below.refl _ _⟩)
theorem bey_r : Hid (∀ (k d s f n : Int) (b : Bool), Bey k n b → ∀ (W : World), Calls Try.prog 48 #[.agg #[.int .i64 k, .int .i64 d, .int .i64 s, .int .i64 f, .int .i64 n]] W fun e w' => e = .returned (.bool b) ∧ Below W.heap.size W w') :=
  fun k d s f n b h W => (isBeyond_c k d s f n W).mono (by rintro e w' ⟨rfl, rfl⟩; exact ⟨by rw [h.is_], (Below.refl _ _).alloc (Nat.le_refl _) _⟩)

/-- A step in a box. -/
structure DBox (w W : World) (b : Nat) (k d s f n : Int) : Prop where
  c0 : W.cell? ⟨b, 0, none⟩ = some (.int .i64 k)
  c1 : W.cell? ⟨b, 1, none⟩ = some (.int .i64 d)
  c2 : W.cell? ⟨b, 2, none⟩ = some (.int .i64 s)
  c3 : W.cell? ⟨b, 3, none⟩ = some (.int .i64 f)
  c4 : W.cell? ⟨b, 4, none⟩ = some (.int .i64 n)
  lt : b < W.heap.size
  below : Below w.heap.size w W

theorem dbox_new (w : World) (k d s f n : Int) : DBox w (w.alloc (.cells #[.int .i64 k, .int .i64 d, .int .i64 s, .int .i64 f, .int .i64 n] 53)) w.heap.size k d s f n :=
  ⟨by simp [go_sem], by simp [go_sem], by simp [go_sem], by simp [go_sem], by simp [go_sem], by simp, (Below.refl _ _).alloc (Nat.le_refl _) _⟩

section
variable (N mb ob : Nat) (vo : Value) (fb : List Value) (m : Mm) (w : World)

set_option maxRecDepth 100000 in
set_option maxHeartbeats 2000000 in
theorem wrong_kind (k d s f n : Int) (hk : k < 1 ∨ 7 < k) :
    Calls Try.prog 29 #[.pointer (some ⟨mb, 0, none⟩), .agg #[.int .i64 k, .int .i64 d, .int .i64 s, .int .i64 f, .int .i64 n]] w fun e w' => e = .returned (.int .i64 5) ∧ Below w.heap.size w w' := by
  have hb1 := (dbox_new w k d s f n).below
  by_cases h1 : k < 1
  · have d1 : decide (k < 1) = true := by simpa using h1
    clear hk h1
    go_enter Try.func29, Try.ntmps29
    go_wp2
    go_ret
    exact ⟨rfl, hb1⟩
  · have d1 : decide (k < 1) = false := by simpa using h1
    have d2 : decide (7 < k) = true := by simp; omega
    clear hk h1
    go_enter Try.func29, Try.ntmps29
    go_wp2
    go_ret
    exact ⟨rfl, hb1⟩

set_option maxRecDepth 100000 in
set_option maxHeartbeats 2000000 in
theorem wrong_arg (k d s f n : Int) (bT bD bF bS : Bool) (h : PM w N mb ob vo fb m) (d1 : decide (k < 1) = false) (d2 : decide (7 < k) = false) (nT : NdT k bT) (nF : NdF k bF) (iD : InR d bD) (iS : InR s bS)
    (hc : (bT = true ∧ bD = false) ∨ (bT = false ∧ bF = true ∧ bS = false) ∨ (bT = true ∧ bD = true ∧ bF = true ∧ bS = false)) :
    Calls Try.prog 29 #[.pointer (some ⟨mb, 0, none⟩), .agg #[.int .i64 k, .int .i64 d, .int .i64 s, .int .i64 f, .int .i64 n]] w fun e w' => e = .returned (.int .i64 2) ∧ Below w.heap.size w w' := by
  obtain ⟨W1, hW1⟩ : ∃ W1, w.alloc (.cells #[.int .i64 k, .int .i64 d, .int .i64 s, .int .i64 f, .int .i64 n] 53) = W1 := ⟨_, rfl⟩
  have hD := dbox_new w k d s f n
  rw [hW1] at hD
  obtain ⟨c0, c1, c2, c3, c4, hlt, hb1⟩ := hD
  have G0 := cell_regrown c0
  have G1 := cell_regrown c1
  have G2 := cell_regrown c2
  have G3 := cell_regrown c3
  have G4 := cell_regrown c4
  have hmb : mb < W1.heap.size := Nat.lt_of_lt_of_le (lt_of_heap h.box) hb1.size
  clear h
  rcases hc with ⟨rfl, rfl⟩ | ⟨rfl, rfl, rfl⟩ | ⟨rfl, rfl, rfl, rfl⟩
  all_goals
    go_enter Try.func29, Try.ntmps29
    go_wp2
    clear hW1
    refine wp_region_quiet_below (by kernel_rfl) (by kernel_rfl) ?_
    repeat (go_big_quiet_step (first | exact Calls.regrown_of ((unhide ndT_r) _ _ (by assumption) _) | exact Calls.regrown_of ((unhide ndF_r) _ _ (by assumption) _) | exact Calls.regrown_of ((unhide has_r) _ _ (by assumption) _ _)))
    refine wpQuiet_nil ?_
    intro _ hw'
    obtain ⟨⟨dq, osq⟩, hw''⟩ := hw'
    subst hw''
    have hbq := below_regrown W1 dq osq
    have x0 := G0 dq osq
    have x1 := G1 dq osq
    have x2 := G2 dq osq
    have x3 := G3 dq osq
    have x4 := G4 dq osq
    clear G0 G1 G2 G3 G4
    generalize Go.Sort.grow (redrawn W1 dq) osq = wq at *
    have hltq : w.heap.size < wq.heap.size := Nat.lt_of_lt_of_le hlt hbq.size
    have hmbq : mb < wq.heap.size := Nat.lt_of_lt_of_le hmb hbq.size
    have hbw : Below w.heap.size w wq := hb1.trans (hbq.mono hb1.size)
    go_wp2
    go_ret
    exact ⟨rfl, hbw⟩

set_option maxRecDepth 100000 in
set_option maxHeartbeats 2000000 in
theorem wrong_rest (k d s f n : Int) (bT bD bF bS bB : Bool) (h : PM w N mb ob vo fb m) (d1 : decide (k < 1) = false) (d2 : decide (7 < k) = false) (d4 : (k == 4) = false) (d5 : (k == 5) = false) (nT : NdT k bT) (nF : NdF k bF) (iD : InR d bD) (iS : InR s bS) (iB : Bey k n bB)
    (hc : (bT = false ∧ bF = true ∧ bS = true) ∨ (bT = true ∧ bD = true ∧ bF = false) ∨ (bT = true ∧ bD = true ∧ bF = true ∧ bS = true)) :
    Calls Try.prog 29 #[.pointer (some ⟨mb, 0, none⟩), .agg #[.int .i64 k, .int .i64 d, .int .i64 s, .int .i64 f, .int .i64 n]] w fun e w' => e = .returned (.int .i64 (if bB then 3 else 0)) ∧ Below w.heap.size w w' := by
  obtain ⟨W1, hW1⟩ : ∃ W1, w.alloc (.cells #[.int .i64 k, .int .i64 d, .int .i64 s, .int .i64 f, .int .i64 n] 53) = W1 := ⟨_, rfl⟩
  have hD := dbox_new w k d s f n
  rw [hW1] at hD
  obtain ⟨c0, c1, c2, c3, c4, hlt, hb1⟩ := hD
  have G0 := cell_regrown c0
  have G1 := cell_regrown c1
  have G2 := cell_regrown c2
  have G3 := cell_regrown c3
  have G4 := cell_regrown c4
  have hmb : mb < W1.heap.size := Nat.lt_of_lt_of_le (lt_of_heap h.box) hb1.size
  clear h
  cases bB <;> rcases hc with ⟨rfl, rfl, rfl⟩ | ⟨rfl, rfl, rfl⟩ | ⟨rfl, rfl, rfl, rfl⟩
  all_goals
    go_enter Try.func29, Try.ntmps29
    go_wp2
    clear hW1
    refine wp_region_quiet_below (by kernel_rfl) (by kernel_rfl) ?_
    repeat (go_big_quiet_step (first | exact Calls.regrown_of ((unhide ndT_r) _ _ (by assumption) _) | exact Calls.regrown_of ((unhide ndF_r) _ _ (by assumption) _) | exact Calls.regrown_of ((unhide has_r) _ _ (by assumption) _ _)))
    refine wpQuiet_nil ?_
    intro _ hw'
    obtain ⟨⟨dq, osq⟩, hw''⟩ := hw'
    subst hw''
    have hbq := below_regrown W1 dq osq
    have x0 := G0 dq osq
    have x1 := G1 dq osq
    have x2 := G2 dq osq
    have x3 := G3 dq osq
    have x4 := G4 dq osq
    clear G0 G1 G2 G3 G4
    generalize Go.Sort.grow (redrawn W1 dq) osq = wq at *
    have hltq : w.heap.size < wq.heap.size := Nat.lt_of_lt_of_le hlt hbq.size
    have hmbq : mb < wq.heap.size := Nat.lt_of_lt_of_le hmb hbq.size
    have hbw : Below w.heap.size w wq := hb1.trans (hbq.mono hb1.size)
    go_wp2_with (go_at_call 48; go_must (refine ((unhide bey_r) _ _ _ _ _ _ iB _).mono ?_); go_must (rintro e w3 ⟨rfl, hb3⟩); have y0 := (hb3.cell (p := ⟨w.heap.size, 0, none⟩) hltq).trans x0)
    go_ret
    exact ⟨rfl, hbw.trans (hb3.mono (by have := hbw.size; omega))⟩

set_option maxRecDepth 100000 in
set_option maxHeartbeats 2000000 in
theorem wrong_put (d s f n : Int) (r : Nat) (x : V) (h : PM w N mb ob vo fb m) (iD : InR d true) (iS : InR s true) (hr : d = (r : Nat)) (hx : m.regs[r]? = some x) (hxr : x.1 = true → 0 ≤ x.2 ∧ x.2 < m.objs.length) :
    Calls Try.prog 29 #[.pointer (some ⟨mb, 0, none⟩), .agg #[.int .i64 4, .int .i64 d, .int .i64 s, .int .i64 f, .int .i64 n]] w fun e w' => e = .returned (.int .i64 (wfE m x f)) ∧ Below w.heap.size w w' := by
  obtain ⟨W1, hW1⟩ : ∃ W1, w.alloc (.cells #[.int .i64 4, .int .i64 d, .int .i64 s, .int .i64 f, .int .i64 n] 53) = W1 := ⟨_, rfl⟩
  have hD := dbox_new w 4 d s f n
  rw [hW1] at hD
  obtain ⟨c0, c1, c2, c3, c4, hlt, hb1⟩ := hD
  have G0 := cell_regrown c0
  have G1 := cell_regrown c1
  have G2 := cell_regrown c2
  have G3 := cell_regrown c3
  have G4 := cell_regrown c4
  have hmb : mb < W1.heap.size := Nat.lt_of_lt_of_le (lt_of_heap h.box) hb1.size
  have nT : NdT 4 true := ⟨rfl⟩
  have nF : NdF 4 true := ⟨rfl⟩
  have iB : Bey 4 n false := ⟨by simp [beyB]⟩
  have Hh := hide h
  subst hr
  clear h
  have ri : RegAt m r x := ⟨hx⟩
  have Hxr := hide hxr
  clear hx hxr
  obtain ⟨E, HE⟩ : ∃ E, Hid (wfE m x f = E) := ⟨_, rfl⟩
  rw [unhide HE]
  go_enter Try.func29, Try.ntmps29
  go_wp2
  clear hW1
  refine wp_region_quiet_below (by kernel_rfl) (by kernel_rfl) ?_
  repeat (go_big_quiet_step (first | exact Calls.regrown_of ((unhide ndT_r) _ _ (by assumption) _) | exact Calls.regrown_of ((unhide ndF_r) _ _ (by assumption) _) | exact Calls.regrown_of ((unhide has_r) _ _ (by assumption) _ _)))
  refine wpQuiet_nil ?_
  intro _ hw'
  obtain ⟨⟨dq, osq⟩, hw''⟩ := hw'
  subst hw''
  have hbq := below_regrown W1 dq osq
  have x0 := G0 dq osq
  have x1 := G1 dq osq
  have x2 := G2 dq osq
  have x3 := G3 dq osq
  have x4 := G4 dq osq
  clear G0 G1 G2 G3 G4
  generalize Go.Sort.grow (redrawn W1 dq) osq = wq at *
  have hltq : w.heap.size < wq.heap.size := Nat.lt_of_lt_of_le hlt hbq.size
  have hmbq : mb < wq.heap.size := Nat.lt_of_lt_of_le hmb hbq.size
  have hbw : Below w.heap.size w wq := hb1.trans (hbq.mono hb1.size)
  go_wp2_with fail
  refine ((unhide bey_r) _ _ _ _ _ _ iB _).mono ?_
  rintro e w3 ⟨rfl, hb3⟩
  have y0 := (hb3.cell (p := ⟨w.heap.size, 0, none⟩) hltq).trans x0
  have y1 := (hb3.cell (p := ⟨w.heap.size, 1, none⟩) hltq).trans x1
  have y2 := (hb3.cell (p := ⟨w.heap.size, 2, none⟩) hltq).trans x2
  have y3 := (hb3.cell (p := ⟨w.heap.size, 3, none⟩) hltq).trans x3
  have hb3w : Below w.heap.size w w3 := hbw.trans (hb3.mono (by have := hbw.size; omega))
  have hlt3 : w.heap.size < w3.heap.size := Nat.lt_of_lt_of_le hltq hb3.size
  have hmb3 : mb < w3.heap.size := Nat.lt_of_lt_of_le hmbq hb3.size
  have hP3 := (unhide Hh).below hb3w
  have Hv := value_r hP3
  have Hw : Hid (∀ W, Below w3.heap.size w3 W → Calls Try.prog 49 #[.pointer (some ⟨mb, 0, none⟩), .agg #[.bool x.1, .int .i64 x.2], .int .i64 f] W fun e w' => e = .returned (.int .i64 E) ∧ Below W.heap.size W w') := fun W hW => by rw [← unhide HE]; exact wrongField_c N mb ob vo fb m x f W (hP3.below hW) (unhide Hxr)
  have G0 := cell_regrown y0
  have G1 := cell_regrown y1
  have G2 := cell_regrown y2
  have G3 := cell_regrown y3
  clear hP3 x0 x1 x2 x3 x4 hbq hb3 c0 c1 c2 c3 c4 Hh Hxr
  go_wp2
  refine wp_region_quiet_below (by kernel_rfl) (by kernel_rfl) ?_
  repeat (go_big_quiet_step (first | exact Calls.regrown_of ((unhide Hv) _ _ (by assumption) _ (below_regrown _ _ _)) | exact Calls.regrown_of ((unhide Hw) _ (below_regrown _ _ _))))
  refine wpQuiet_nil ?_
  intro _ hw'
  obtain ⟨⟨dq, osq⟩, hw''⟩ := hw'
  subst hw''
  have hbq := below_regrown w3 dq osq
  clear G0 G1 G2 G3
  generalize Go.Sort.grow (redrawn w3 dq) osq = wz at *
  go_wp2
  go_ret
  exact ⟨rfl, hb3w.trans (hbq.mono hb3w.size)⟩

set_option maxRecDepth 100000 in
set_option maxHeartbeats 2000000 in
theorem wrong_get (d s f n : Int) (r : Nat) (x : V) (h : PM w N mb ob vo fb m) (iD : InR d true) (iS : InR s true) (hr : s = (r : Nat)) (hx : m.regs[r]? = some x) (hxr : x.1 = true → 0 ≤ x.2 ∧ x.2 < m.objs.length) :
    Calls Try.prog 29 #[.pointer (some ⟨mb, 0, none⟩), .agg #[.int .i64 5, .int .i64 d, .int .i64 s, .int .i64 f, .int .i64 n]] w fun e w' => e = .returned (.int .i64 (wfE m x f)) ∧ Below w.heap.size w w' := by
  obtain ⟨W1, hW1⟩ : ∃ W1, w.alloc (.cells #[.int .i64 5, .int .i64 d, .int .i64 s, .int .i64 f, .int .i64 n] 53) = W1 := ⟨_, rfl⟩
  have hD := dbox_new w 5 d s f n
  rw [hW1] at hD
  obtain ⟨c0, c1, c2, c3, c4, hlt, hb1⟩ := hD
  have G0 := cell_regrown c0
  have G1 := cell_regrown c1
  have G2 := cell_regrown c2
  have G3 := cell_regrown c3
  have G4 := cell_regrown c4
  have hmb : mb < W1.heap.size := Nat.lt_of_lt_of_le (lt_of_heap h.box) hb1.size
  have nT : NdT 5 true := ⟨rfl⟩
  have nF : NdF 5 true := ⟨rfl⟩
  have iB : Bey 5 n false := ⟨by simp [beyB]⟩
  have Hh := hide h
  subst hr
  clear h
  have ri : RegAt m r x := ⟨hx⟩
  have Hxr := hide hxr
  clear hx hxr
  obtain ⟨E, HE⟩ : ∃ E, Hid (wfE m x f = E) := ⟨_, rfl⟩
  rw [unhide HE]
  go_enter Try.func29, Try.ntmps29
  go_wp2
  clear hW1
  refine wp_region_quiet_below (by kernel_rfl) (by kernel_rfl) ?_
  repeat (go_big_quiet_step (first | exact Calls.regrown_of ((unhide ndT_r) _ _ (by assumption) _) | exact Calls.regrown_of ((unhide ndF_r) _ _ (by assumption) _) | exact Calls.regrown_of ((unhide has_r) _ _ (by assumption) _ _)))
  refine wpQuiet_nil ?_
  intro _ hw'
  obtain ⟨⟨dq, osq⟩, hw''⟩ := hw'
  subst hw''
  have hbq := below_regrown W1 dq osq
  have x0 := G0 dq osq
  have x1 := G1 dq osq
  have x2 := G2 dq osq
  have x3 := G3 dq osq
  have x4 := G4 dq osq
  clear G0 G1 G2 G3 G4
  generalize Go.Sort.grow (redrawn W1 dq) osq = wq at *
  have hltq : w.heap.size < wq.heap.size := Nat.lt_of_lt_of_le hlt hbq.size
  have hmbq : mb < wq.heap.size := Nat.lt_of_lt_of_le hmb hbq.size
  have hbw : Below w.heap.size w wq := hb1.trans (hbq.mono hb1.size)
  go_wp2_with fail
  refine ((unhide bey_r) _ _ _ _ _ _ iB _).mono ?_
  rintro e w3 ⟨rfl, hb3⟩
  have y0 := (hb3.cell (p := ⟨w.heap.size, 0, none⟩) hltq).trans x0
  have y1 := (hb3.cell (p := ⟨w.heap.size, 1, none⟩) hltq).trans x1
  have y2 := (hb3.cell (p := ⟨w.heap.size, 2, none⟩) hltq).trans x2
  have y3 := (hb3.cell (p := ⟨w.heap.size, 3, none⟩) hltq).trans x3
  have hb3w : Below w.heap.size w w3 := hbw.trans (hb3.mono (by have := hbw.size; omega))
  have hlt3 : w.heap.size < w3.heap.size := Nat.lt_of_lt_of_le hltq hb3.size
  have hmb3 : mb < w3.heap.size := Nat.lt_of_lt_of_le hmbq hb3.size
  have hP3 := (unhide Hh).below hb3w
  have Hv := value_r hP3
  have Hw : Hid (∀ W, Below w3.heap.size w3 W → Calls Try.prog 49 #[.pointer (some ⟨mb, 0, none⟩), .agg #[.bool x.1, .int .i64 x.2], .int .i64 f] W fun e w' => e = .returned (.int .i64 E) ∧ Below W.heap.size W w') := fun W hW => by rw [← unhide HE]; exact wrongField_c N mb ob vo fb m x f W (hP3.below hW) (unhide Hxr)
  have G0 := cell_regrown y0
  have G1 := cell_regrown y1
  have G2 := cell_regrown y2
  have G3 := cell_regrown y3
  clear hP3 x0 x1 x2 x3 x4 hbq hb3 c0 c1 c2 c3 c4 Hh Hxr
  go_wp2
  refine wp_region_quiet_below (by kernel_rfl) (by kernel_rfl) ?_
  repeat (go_big_quiet_step (first | exact Calls.regrown_of ((unhide Hv) _ _ (by assumption) _ (below_regrown _ _ _)) | exact Calls.regrown_of ((unhide Hw) _ (below_regrown _ _ _))))
  refine wpQuiet_nil ?_
  intro _ hw'
  obtain ⟨⟨dq, osq⟩, hw''⟩ := hw'
  subst hw''
  have hbq := below_regrown w3 dq osq
  clear G0 G1 G2 G3
  generalize Go.Sort.grow (redrawn w3 dq) osq = wz at *
  go_wp2
  go_ret
  exact ⟨rfl, hb3w.trans (hbq.mono hb3w.size)⟩

end

end Go.Proofs.Ytlolcdgbidboeaa

/- Walks: what is wrong with a step, by its plain words; what a step leaves. -/
namespace Go.Proofs.Ytlolcdgbidboeaa
set_option linter.unusedSimpArgs false
set_option linter.unusedVariables false
open Go.RowKit Go.Shelf

theorem reg_at {m : Mm} (h8 : m.regs.length = 8) {r : Int} (h0 : 0 ≤ r) (h1 : r < 8) : m.regs[r.toNat]? = some (regM m r) := by
  have hlt : r.toNat < m.regs.length := by omega
  unfold regM
  rw [List.getD_eq_getElem?_getD, List.getElem?_eq_getElem hlt]
  rfl

theorem beyB_iff (k n : Int) : beyB k n = true ↔ (k = 1 ∧ (n < 0 ∨ 4 < n)) ∨ (k = 2 ∧ (n < -4611686018427387904 ∨ 4611686018427387903 < n)) := by
  simp [beyB]

theorem inR_iff (r : Int) : (decide (0 ≤ r) && decide (r < 8)) = true ↔ ¬ (r < 0 ∨ 8 ≤ r) := by
  simp

theorem wrong_c (N mb ob : Nat) (vo : Value) (fb : List Value) (m : Mm) (d : Dd) (w : World) (h : PM w N mb ob vo fb m) (hm : MOk m) :
    Calls Try.prog 29 #[.pointer (some ⟨mb, 0, none⟩), .agg #[.int .i64 d.kind, .int .i64 d.dst, .int .i64 d.src, .int .i64 d.fat, .int .i64 d.num]] w fun e w' => e = .returned (.int .i64 (wrongM m d)) ∧ Below w.heap.size w w' := by
  by_cases hk : d.kind < 1 ∨ 7 < d.kind
  · have e : wrongM m d = 5 := by unfold wrongM; rw [if_pos hk]
    rw [e]
    exact wrong_kind mb w _ _ _ _ _ hk
  have d1 : decide (d.kind < 1) = false := by simp; omega
  have d2 : decide (7 < d.kind) = false := by simp; omega
  by_cases ha : (d.kind ≠ 7 ∧ (d.dst < 0 ∨ 8 ≤ d.dst)) ∨ (d.kind ≠ 1 ∧ d.kind ≠ 2 ∧ (d.src < 0 ∨ 8 ≤ d.src))
  · have e : wrongM m d = 2 := by unfold wrongM; rw [if_neg hk, if_pos ha]
    rw [e]
    refine wrong_arg N mb ob vo fb m w _ _ _ _ _ (d.kind != 7) (decide (0 ≤ d.dst) && decide (d.dst < 8)) (d.kind != 1 && d.kind != 2) (decide (0 ≤ d.src) && decide (d.src < 8)) h d1 d2 ⟨rfl⟩ ⟨rfl⟩ ⟨rfl⟩ ⟨rfl⟩ ?_
    by_cases h7 : d.kind = 7
    · right; left
      rcases ha with ha | ha
      · exact absurd h7 ha.1
      · refine ⟨by simp [h7], by simp [ha.1, ha.2.1], ?_⟩
        have := ha.2.2
        simp; omega
    · by_cases hd : d.dst < 0 ∨ 8 ≤ d.dst
      · left; exact ⟨by simpa using h7, by simp; omega⟩
      · right; right
        rcases ha with ha | ha
        · exact absurd ha.2 hd
        · refine ⟨by simpa using h7, by simp; omega, by simp [ha.1, ha.2.1], ?_⟩
          have := ha.2.2
          simp; omega
  have hdst : d.kind ≠ 7 → 0 ≤ d.dst ∧ d.dst < 8 := fun h7 => by omega
  have hsrc : d.kind ≠ 1 → d.kind ≠ 2 → 0 ≤ d.src ∧ d.src < 8 := fun h1 h2 => by omega
  by_cases k4 : d.kind = 4
  · obtain ⟨a1, a2⟩ := hdst (by omega)
    obtain ⟨a3, a4⟩ := hsrc (by omega) (by omega)
    have hwho : whoM d = d.dst := by unfold whoM; rw [if_neg (by omega)]
    have e : wrongM m d = wfE m (regM m d.dst) d.fat := by
      unfold wrongM wfE
      rw [if_neg hk, if_neg ha, if_neg (by omega), if_neg (by omega), hwho]
    rw [e, k4]
    have hr := reg_at h.n8 a1 a2
    exact wrong_put N mb ob vo fb m w _ _ _ _ d.dst.toNat _ h ⟨by simp; omega⟩ ⟨by simp; omega⟩ (by omega) hr (regM_mem hm _)
  by_cases k5 : d.kind = 5
  · obtain ⟨a1, a2⟩ := hdst (by omega)
    obtain ⟨a3, a4⟩ := hsrc (by omega) (by omega)
    have hwho : whoM d = d.src := by unfold whoM; rw [if_pos k5]
    have e : wrongM m d = wfE m (regM m d.src) d.fat := by
      unfold wrongM wfE
      rw [if_neg hk, if_neg ha, if_neg (by omega), if_neg (by omega), hwho]
    rw [e, k5]
    have hr := reg_at h.n8 a3 a4
    exact wrong_get N mb ob vo fb m w _ _ _ _ d.src.toNat _ h ⟨by simp; omega⟩ ⟨by simp; omega⟩ (by omega) hr (regM_mem hm _)
  have e : wrongM m d = if beyB d.kind d.num then 3 else 0 := by
    unfold wrongM
    rw [if_neg hk, if_neg ha, if_pos (show d.kind ≠ 4 ∧ d.kind ≠ 5 from ⟨k4, k5⟩)]
    by_cases hb : beyB d.kind d.num = true
    · rw [if_pos hb, if_pos ((beyB_iff _ _).1 hb)]
    · rw [if_neg hb, if_neg (fun hh => hb ((beyB_iff _ _).2 hh))]
  rw [e]
  refine wrong_rest N mb ob vo fb m w _ _ _ _ _ (d.kind != 7) (decide (0 ≤ d.dst) && decide (d.dst < 8)) (d.kind != 1 && d.kind != 2) (decide (0 ≤ d.src) && decide (d.src < 8)) (beyB d.kind d.num) h d1 d2 (by simpa using k4) (by simpa using k5) ⟨rfl⟩ ⟨rfl⟩ ⟨rfl⟩ ⟨rfl⟩ ⟨rfl⟩ ?_
  by_cases h7 : d.kind = 7
  · left
    have := hsrc (by omega) (by omega)
    exact ⟨by simp [h7], by simp [h7], by simp; omega⟩
  · have hd := hdst h7
    by_cases h12 : d.kind = 1 ∨ d.kind = 2
    · right; left
      exact ⟨by simpa using h7, by simp; omega, by rcases h12 with h12 | h12 <;> simp [h12]⟩
    · right; right
      have := hsrc (by omega) (by omega)
      exact ⟨by simpa using h7, by simp; omega, by simp; omega, by simp; omega⟩

/-- What a step leaves. -/
def DoRes (N mb ob : Nat) (vo : Value) (fb : List Value) (m' : Mm) (w w' : World) : Prop :=
  ∃ vo' fb', PM w' N mb ob vo' fb' m' ∧ Kp (PS mb ob vo fb) w w' ∧ ∀ k, PS mb ob vo' fb' k → PS mb ob vo fb k ∨ w.heap.size ≤ k

theorem DoRes.none {N mb ob : Nat} {vo : Value} {fb : List Value} {m : Mm} {w w' : World} (h : PM w N mb ob vo fb m) (hb : Below w.heap.size w w') : DoRes N mb ob vo fb m w w' := ⟨vo, fb, h.below hb, Kp.of_below hb, fun k hk => .inl hk⟩

end Go.Proofs.Ytlolcdgbidboeaa

/- Walks: a step. -/
namespace Go.Proofs.Ytlolcdgbidboeaa
set_option linter.unusedSimpArgs false
set_option linter.unusedVariables false
open Go.RowKit Go.Shelf

/-- A step in a box, and a box for what is told. -/
structure DTwo (N0 : Nat) (W : World) (b : Nat) (k d s f n : Int) : Prop where
  c0 : W.cell? ⟨b, 0, none⟩ = some (.int .i64 k)
  c1 : W.cell? ⟨b, 1, none⟩ = some (.int .i64 d)
  c2 : W.cell? ⟨b, 2, none⟩ = some (.int .i64 s)
  c3 : W.cell? ⟨b, 3, none⟩ = some (.int .i64 f)
  c4 : W.cell? ⟨b, 4, none⟩ = some (.int .i64 n)
  r0 : W.cell? ⟨b + 1, 0, none⟩ = some (.int .i64 0)
  r1 : W.cell? ⟨b + 1, 1, none⟩ = some (.bool false)
  r2 : W.cell? ⟨b + 1, 2, none⟩ = some (.int .i64 0)
  f0 : W.frozen? ⟨b + 1, 0, none⟩ = false
  f1 : W.frozen? ⟨b + 1, 1, none⟩ = false
  f2 : W.frozen? ⟨b + 1, 2, none⟩ = false
  lt : b + 1 < W.heap.size
  old : N0 ≤ b

theorem dtwo_new (w : World) (k d s f n : Int) : DTwo w.heap.size ((w.alloc (.cells #[.int .i64 k, .int .i64 d, .int .i64 s, .int .i64 f, .int .i64 n] 53)).alloc (.cells #[.int .i64 0, .bool false, .int .i64 0] 55)) w.heap.size k d s f n :=
  ⟨by simp [go_sem], by simp [go_sem], by simp [go_sem], by simp [go_sem], by simp [go_sem], by simp [go_sem], by simp [go_sem], by simp [go_sem], by simp [go_sem], by simp [go_sem], by simp [go_sem], by simp, Nat.le_refl _⟩

theorem dtwo_below (w : World) (o o' : Obj) : Below w.heap.size w ((w.alloc o).alloc o') := ((Below.refl _ _).alloc (Nat.le_refl _) _).alloc (by simp) _

theorem DTwo.kept {N0 : Nat} {W W' : World} {b : Nat} {k d s f n : Int} {S : Nat → Prop} (h : DTwo N0 W b k d s f n) (hk : Kp S W W') (hS : ∀ j, S j → j < N0) : DTwo N0 W' b k d s f n := by
  have n0 : ¬ S b := fun e => by have := hS b e; have := h.old; omega
  have n1 : ¬ S (b + 1) := fun e => by have := hS _ e; have := h.old; omega
  have l0 : b < W.heap.size := by have := h.lt; omega
  exact ⟨(hk.cell (p := ⟨b, 0, none⟩) l0 n0).trans h.c0, (hk.cell (p := ⟨b, 1, none⟩) l0 n0).trans h.c1, (hk.cell (p := ⟨b, 2, none⟩) l0 n0).trans h.c2, (hk.cell (p := ⟨b, 3, none⟩) l0 n0).trans h.c3, (hk.cell (p := ⟨b, 4, none⟩) l0 n0).trans h.c4,
    (hk.cell (p := ⟨b + 1, 0, none⟩) h.lt n1).trans h.r0, (hk.cell (p := ⟨b + 1, 1, none⟩) h.lt n1).trans h.r1, (hk.cell (p := ⟨b + 1, 2, none⟩) h.lt n1).trans h.r2,
    (hk.frozen (p := ⟨b + 1, 0, none⟩) h.lt n1).trans h.f0, (hk.frozen (p := ⟨b + 1, 1, none⟩) h.lt n1).trans h.f1, (hk.frozen (p := ⟨b + 1, 2, none⟩) h.lt n1).trans h.f2, Nat.lt_of_lt_of_le h.lt hk.size, h.old⟩

theorem DTwo.on {N0 : Nat} {W W' : World} {b : Nat} {k d s f n : Int} (h : DTwo N0 W b k d s f n) (hb : Below W.heap.size W W') : DTwo N0 W' b k d s f n :=
  h.kept (Kp.of_below (S := fun _ => False) hb) (fun j e => e.elim)

/-- The stores of what is told. -/
def outW (W : World) (b : Nat) (c : Int) (r : Bool) (n : Int) : World := ((W.setCell ⟨b, 0, none⟩ (.int .i64 c)).setCell ⟨b, 1, none⟩ (.bool r)).setCell ⟨b, 2, none⟩ (.int .i64 n)

theorem out_kp {W : World} {b : Nat} (c : Int) (r : Bool) (n : Int) : Kp (fun k => k = b) W (outW W b c r n) :=
  Kp.trans (S := fun k => k = b) (S' := fun k => k = b) (Kp.trans (S := fun k => k = b) (S' := fun k => k = b) (Kp.set b _ _ W rfl) (Kp.set b _ _ _ rfl) (fun k e => .inl e)) (Kp.set b _ _ _ rfl) (fun k e => .inl e)

theorem DoRes.fin {N mb ob : Nat} {vo : Value} {fb : List Value} {m m0 : Mm} {w wq w' : World} (h : DoRes N mb ob vo fb m wq w') (h0 : PM w N mb ob vo fb m0) (hb : Below w.heap.size w wq) {b : Nat} (hbq : b < wq.heap.size) (hbo : w.heap.size ≤ b) (c : Int) (r : Bool) (n : Int) : DoRes N mb ob vo fb m w (outW w' b c r n) := by
  obtain ⟨vo', fb', h1, h2, h3⟩ := h
  have hk := out_kp (W := w') (b := b) c r n
  have hn : ¬ PS mb ob vo' fb' b := fun e => by
    rcases h3 b e with e | e
    · have := (h0.lt e).2; omega
    · omega
  have hsz := hb.size
  refine ⟨vo', fb', h1.keep hk (fun k hk e => hn (e ▸ hk)), ((Kp.of_below hb).trans (S' := PS mb ob vo fb) h2 (fun k e => .inl e)).trans hk (fun k e => .inr (by omega)), fun k e => ?_⟩
  rcases h3 k e with e | e
  · exact .inl e
  · exact .inr (by omega)

theorem DoRes.set {N mb ob : Nat} {vo : Value} {fb : List Value} {m : Mm} {w w' : World} (h : PM w' N mb ob vo fb m) (hk : Kp (fun k => k = mb) w w') : DoRes N mb ob vo fb m w w' :=
  ⟨vo, fb, h, hk.mono (fun k e => .inl e), fun k hk => .inl hk⟩

theorem DoRes.put {N mb ob : Nat} {vo : Value} {fb : List Value} {m : Mm} {w w' : World} {objs : List (List V)} (h : PM w N mb ob vo fb m) (ho : OM w' N ob vo fb objs) (hk : Kp (OwnO.In vo fb) w w') : DoRes N mb ob vo fb { m with objs := objs } w w' :=
  ⟨vo, fb, ⟨hk.heap h.box (fun e => h.out (.inr e)), ho, h.n8, h.lo⟩, hk.mono (fun k e => .inr (.inr e)), fun k hk => .inl hk⟩

theorem field47_1 (r : Bool) (n : Int) (w : World) : Sem.run Try.prog (Instr.field 47 (.agg #[.bool r, .int .i64 n]) 1) w = Result.ok (.int .i64 n) w := by
  simp [Instr.field, asAgg, go_sem, Try.underlying47]
attribute [local go_sem] field47_1

section
variable (N mb ob : Nat) (vo : Value) (fb : List Value) (m : Mm) (w : World)

set_option maxRecDepth 100000 in
set_option maxHeartbeats 2000000 in
theorem do_wrong (d : Dd) (h : PM w N mb ob vo fb m) (hm : MOk m) (hw : wrongM m d ≠ 0) :
    Calls Try.prog 16 #[.pointer (some ⟨mb, 0, none⟩), .agg #[.int .i64 d.kind, .int .i64 d.dst, .int .i64 d.src, .int .i64 d.fat, .int .i64 d.num]] w fun e w' => e = .returned (.agg #[.int .i64 (wrongM m d), .bool false, .int .i64 0]) ∧ Below w.heap.size w w' := by
  obtain ⟨k, d', s, f, n⟩ := d
  obtain ⟨W1, hW1⟩ : ∃ W1, (w.alloc (.cells #[.int .i64 k, .int .i64 d', .int .i64 s, .int .i64 f, .int .i64 n] 53)).alloc (.cells #[.int .i64 0, .bool false, .int .i64 0] 55) = W1 := ⟨_, rfl⟩
  have hD := dtwo_new w k d' s f n
  have hb1 := dtwo_below w (.cells #[.int .i64 k, .int .i64 d', .int .i64 s, .int .i64 f, .int .i64 n] 53) (.cells #[.int .i64 0, .bool false, .int .i64 0] 55)
  rw [hW1] at hD hb1
  obtain ⟨c0, c1, c2, c3, c4, r0, r1, r2, f0, f1, f2, hlt, _⟩ := id hD
  have HD := hide hD
  have hmb : mb < W1.heap.size := Nat.lt_of_lt_of_le (lt_of_heap h.box) hb1.size
  have Hc := hide (wrong_c N mb ob vo fb m ⟨k, d', s, f, n⟩ W1 (h.below hb1) hm)
  obtain ⟨E, HE⟩ : ∃ E, Hid (wrongM m ⟨k, d', s, f, n⟩ = E) := ⟨_, rfl⟩
  rw [unhide HE] at hw ⊢
  have dE : (E != 0) = true := by simpa using hw
  clear h hD hw
  go_enter Try.func16, Try.ntmps16
  go_wp2_with fail
  refine (unhide Hc).mono ?_
  rintro e w2 ⟨rfl, hb2⟩
  rw [unhide HE]
  clear hW1 c0 c1 c2 c3 c4 r0 r1 r2 f0 f1 f2
  have hbw : Below w.heap.size w w2 := hb1.trans (hb2.mono hb1.size)
  obtain ⟨c0, c1, c2, c3, c4, r0, r1, r2, f0, f1, f2, hlt, _⟩ := (unhide HD).on hb2
  go_wp2
  refine bodyPost_ret (v := .agg #[.int .i64 E, .bool false, .int .i64 0]) (by simp [results, Try.results16, go_sem, r0, r1, r2]) rfl ⟨rfl, ?_⟩
  exact ((hbw.setCell (p := ⟨w.heap.size + 1, 0, none⟩) (by simp) _).setCell (p := ⟨w.heap.size + 1, 1, none⟩) (by simp) _).setCell (p := ⟨w.heap.size + 1, 2, none⟩) (by simp) _

set_option maxRecDepth 100000 in
set_option maxHeartbeats 2000000 in
theorem do_int (r : Nat) (s f : Int) (n : Int) (h : PM w N mb ob vo fb m) (hm : MOk m) (hr : r < 8) (hw : wrongM m ⟨2, (r : Nat), s, f, n⟩ = 0) :
    Calls Try.prog 16 #[.pointer (some ⟨mb, 0, none⟩), .agg #[.int .i64 2, .int .i64 (r : Nat), .int .i64 s, .int .i64 f, .int .i64 n]] w fun e w' => e = .returned (.agg #[.int .i64 0, .bool false, .int .i64 0]) ∧ DoRes N mb ob vo fb { m with regs := m.regs.set r (false, n) } w w' := by
  obtain ⟨W1, hW1⟩ : ∃ W1, (w.alloc (.cells #[.int .i64 2, .int .i64 (r : Nat), .int .i64 s, .int .i64 f, .int .i64 n] 53)).alloc (.cells #[.int .i64 0, .bool false, .int .i64 0] 55) = W1 := ⟨_, rfl⟩
  have hD := dtwo_new w 2 (r : Nat) s f n
  have hb1 := dtwo_below w (.cells #[.int .i64 2, .int .i64 (r : Nat), .int .i64 s, .int .i64 f, .int .i64 n] 53) (.cells #[.int .i64 0, .bool false, .int .i64 0] 55)
  rw [hW1] at hD hb1
  obtain ⟨c0, c1, c2, c3, c4, r0, r1, r2, f0, f1, f2, hlt, _⟩ := id hD
  have HD := hide hD
  have hmb : mb < W1.heap.size := Nat.lt_of_lt_of_le (lt_of_heap h.box) hb1.size
  have Hc := hide (wrong_c N mb ob vo fb m ⟨2, (r : Nat), s, f, n⟩ W1 (h.below hb1) hm)
  have Hw := hide hw
  have Hh := hide h
  clear h hD hw
  go_enter Try.func16, Try.ntmps16
  go_wp2_with fail
  refine (unhide Hc).mono ?_
  rintro e w2 ⟨rfl, hb2⟩
  rw [unhide Hw]
  clear hW1 c0 c1 c2 c3 c4 r0 r1 r2 f0 f1 f2 Hc
  have hbw : Below w.heap.size w w2 := hb1.trans (hb2.mono hb1.size)
  have HD2 := hide ((unhide HD).on hb2)
  obtain ⟨c0, c1, c2, c3, c4, r0, r1, r2, f0, f1, f2, hlt2, _⟩ := unhide HD2
  have hmb2 : mb < w2.heap.size := Nat.lt_of_lt_of_le hmb hb2.size
  have Hh2 := hide ((unhide Hh).below hbw)
  have Hs : Hid (∀ W, Below w2.heap.size w2 W → Calls Try.prog 30 #[.pointer (some ⟨mb, 1, none⟩), .int .i64 (r : Nat), .agg #[.bool false, .int .i64 n]] W fun e w' => e = .returned (.tuple #[]) ∧ PM w' N mb ob vo fb { m with regs := m.regs.set r (false, n) } ∧ Kp (fun k => k = mb) W w') := fun W hW => set_c N mb ob vo fb m r (false, n) W ((unhide Hh2).below hW) hr
  clear hb2 HD
  have G0 := cell_regrown c0
  have G1 := cell_regrown c1
  have G2 := cell_regrown c2
  have G3 := cell_regrown c3
  have G4 := cell_regrown c4
  go_wp2
  refine wp_region_quiet_below_tail 8 (by kernel_rfl) (by kernel_rfl) ?_
  simp only [List.take_succ_cons, List.take_zero, List.drop_succ_cons, List.drop_zero]
  repeat (go_big_quiet_step (fail))
  refine wpQuiet_nil ?_
  intro _ hw'
  obtain ⟨⟨dq, osq⟩, hw''⟩ := hw'
  subst hw''
  have hbq := below_regrown w2 dq osq
  clear G0 G1 G2 G3 G4
  generalize Go.Sort.grow (redrawn w2 dq) osq = wq at *
  have Hbq := hide hbq
  have hmbq : mb < wq.heap.size := Nat.lt_of_lt_of_le hmb2 hbq.size
  have HDq := hide ((unhide HD2).on hbq)
  clear c0 c1 c2 c3 c4 r0 r1 r2 f0 f1 f2 hbq
  go_wp2_with (go_at_call 30; go_must (refine ((unhide Hs) _ (unhide Hbq)).mono ?_); go_must (rintro e w5 ⟨rfl, hP5, hK5⟩; have hlmb := (unhide Hh).lt (k := mb) (.inl rfl); have hD5 := (unhide HDq).kept hK5 (fun j e => by omega); obtain ⟨c0, c1, c2, c3, c4, r0, r1, r2, f0, f1, f2, hlt5, _⟩ := hD5; have HP5 := hide hP5; have HK5 := hide hK5; clear hP5 hK5))
  refine bodyPost_ret (v := .agg #[.int .i64 0, .bool false, .int .i64 0]) (by simp [results, Try.results16, go_sem, r0, r1, r2]) rfl ⟨rfl, ?_⟩
  exact DoRes.fin (b := w.heap.size + 1) (DoRes.set (unhide HP5) (unhide HK5)) (unhide Hh) (hbw.trans ((unhide Hbq).mono hbw.size)) (by have := (unhide HDq).lt; omega) (by omega) 0 false 0

set_option maxRecDepth 100000 in
set_option maxHeartbeats 2000000 in
theorem do_move (r q : Nat) (f : Int) (x : V) (n : Int) (h : PM w N mb ob vo fb m) (hm : MOk m) (hr : r < 8) (hx : m.regs[q]? = some x) (hw : wrongM m ⟨3, (r : Nat), (q : Nat), f, n⟩ = 0) :
    Calls Try.prog 16 #[.pointer (some ⟨mb, 0, none⟩), .agg #[.int .i64 3, .int .i64 (r : Nat), .int .i64 (q : Nat), .int .i64 f, .int .i64 n]] w fun e w' => e = .returned (.agg #[.int .i64 0, .bool false, .int .i64 0]) ∧ DoRes N mb ob vo fb { m with regs := m.regs.set r x } w w' := by
  obtain ⟨W1, hW1⟩ : ∃ W1, (w.alloc (.cells #[.int .i64 3, .int .i64 (r : Nat), .int .i64 (q : Nat), .int .i64 f, .int .i64 n] 53)).alloc (.cells #[.int .i64 0, .bool false, .int .i64 0] 55) = W1 := ⟨_, rfl⟩
  have hD := dtwo_new w 3 (r : Nat) (q : Nat) f n
  have hb1 := dtwo_below w (.cells #[.int .i64 3, .int .i64 (r : Nat), .int .i64 (q : Nat), .int .i64 f, .int .i64 n] 53) (.cells #[.int .i64 0, .bool false, .int .i64 0] 55)
  rw [hW1] at hD hb1
  obtain ⟨c0, c1, c2, c3, c4, r0, r1, r2, f0, f1, f2, hlt, _⟩ := id hD
  have HD := hide hD
  have hmb : mb < W1.heap.size := Nat.lt_of_lt_of_le (lt_of_heap h.box) hb1.size
  have Hc := hide (wrong_c N mb ob vo fb m ⟨3, (r : Nat), (q : Nat), f, n⟩ W1 (h.below hb1) hm)
  have Hw := hide hw
  have Hh := hide h
  have ri : RegAt m q x := ⟨hx⟩
  clear hx
  clear h hD hw
  go_enter Try.func16, Try.ntmps16
  go_wp2_with fail
  refine (unhide Hc).mono ?_
  rintro e w2 ⟨rfl, hb2⟩
  rw [unhide Hw]
  clear hW1 c0 c1 c2 c3 c4 r0 r1 r2 f0 f1 f2 Hc
  have hbw : Below w.heap.size w w2 := hb1.trans (hb2.mono hb1.size)
  have HD2 := hide ((unhide HD).on hb2)
  obtain ⟨c0, c1, c2, c3, c4, r0, r1, r2, f0, f1, f2, hlt2, _⟩ := unhide HD2
  have hmb2 : mb < w2.heap.size := Nat.lt_of_lt_of_le hmb hb2.size
  have Hh2 := hide ((unhide Hh).below hbw)
  have Hs : Hid (∀ W, Below w2.heap.size w2 W → Calls Try.prog 30 #[.pointer (some ⟨mb, 1, none⟩), .int .i64 (r : Nat), .agg #[.bool x.1, .int .i64 x.2]] W fun e w' => e = .returned (.tuple #[]) ∧ PM w' N mb ob vo fb { m with regs := m.regs.set r x } ∧ Kp (fun k => k = mb) W w') := fun W hW => set_c N mb ob vo fb m r x W ((unhide Hh2).below hW) hr
  have Hv := value_r (unhide Hh2)
  clear hb2 HD
  have G0 := cell_regrown c0
  have G1 := cell_regrown c1
  have G2 := cell_regrown c2
  have G3 := cell_regrown c3
  have G4 := cell_regrown c4
  go_wp2
  refine wp_region_quiet_below_tail 11 (by kernel_rfl) (by kernel_rfl) ?_
  simp only [List.take_succ_cons, List.take_zero, List.drop_succ_cons, List.drop_zero]
  repeat (go_big_quiet_step (exact Calls.regrown_of ((unhide Hv) _ _ (by assumption) _ (below_regrown _ _ _))))
  refine wpQuiet_nil ?_
  intro _ hw'
  obtain ⟨⟨dq, osq⟩, hw''⟩ := hw'
  subst hw''
  have hbq := below_regrown w2 dq osq
  clear G0 G1 G2 G3 G4
  generalize Go.Sort.grow (redrawn w2 dq) osq = wq at *
  have Hbq := hide hbq
  have hmbq : mb < wq.heap.size := Nat.lt_of_lt_of_le hmb2 hbq.size
  have HDq := hide ((unhide HD2).on hbq)
  clear c0 c1 c2 c3 c4 r0 r1 r2 f0 f1 f2 hbq
  go_wp2_with (go_at_call 30; go_must (refine ((unhide Hs) _ (unhide Hbq)).mono ?_); go_must (rintro e w5 ⟨rfl, hP5, hK5⟩; have hlmb := (unhide Hh).lt (k := mb) (.inl rfl); have hD5 := (unhide HDq).kept hK5 (fun j e => by omega); obtain ⟨c0, c1, c2, c3, c4, r0, r1, r2, f0, f1, f2, hlt5, _⟩ := hD5; have HP5 := hide hP5; have HK5 := hide hK5; clear hP5 hK5))
  refine bodyPost_ret (v := .agg #[.int .i64 0, .bool false, .int .i64 0]) (by simp [results, Try.results16, go_sem, r0, r1, r2]) rfl ⟨rfl, ?_⟩
  exact DoRes.fin (b := w.heap.size + 1) (DoRes.set (unhide HP5) (unhide HK5)) (unhide Hh) (hbw.trans ((unhide Hbq).mono hbw.size)) (by have := (unhide HDq).lt; omega) (by omega) 0 false 0

set_option maxRecDepth 100000 in
set_option maxHeartbeats 2000000 in
theorem do_put (r q j : Nat) (o : Nat) (x : V) (l : List V) (n : Int) (h : PM w N mb ob vo fb m) (hm : MOk m) (hy : m.regs[r]? = some (true, (o : Int))) (hx : m.regs[q]? = some x) (hl : m.objs[o]? = some l) (hj : j < l.length) (hw : wrongM m ⟨4, (r : Nat), (q : Nat), (j : Nat), n⟩ = 0) :
    Calls Try.prog 16 #[.pointer (some ⟨mb, 0, none⟩), .agg #[.int .i64 4, .int .i64 (r : Nat), .int .i64 (q : Nat), .int .i64 (j : Nat), .int .i64 n]] w fun e w' => e = .returned (.agg #[.int .i64 0, .bool false, .int .i64 0]) ∧ DoRes N mb ob vo fb { m with objs := m.objs.set o (l.set j x) } w w' := by
  obtain ⟨W1, hW1⟩ : ∃ W1, (w.alloc (.cells #[.int .i64 4, .int .i64 (r : Nat), .int .i64 (q : Nat), .int .i64 (j : Nat), .int .i64 n] 53)).alloc (.cells #[.int .i64 0, .bool false, .int .i64 0] 55) = W1 := ⟨_, rfl⟩
  have hD := dtwo_new w 4 (r : Nat) (q : Nat) (j : Nat) n
  have hb1 := dtwo_below w (.cells #[.int .i64 4, .int .i64 (r : Nat), .int .i64 (q : Nat), .int .i64 (j : Nat), .int .i64 n] 53) (.cells #[.int .i64 0, .bool false, .int .i64 0] 55)
  rw [hW1] at hD hb1
  obtain ⟨c0, c1, c2, c3, c4, r0, r1, r2, f0, f1, f2, hlt, _⟩ := id hD
  have HD := hide hD
  have hmb : mb < W1.heap.size := Nat.lt_of_lt_of_le (lt_of_heap h.box) hb1.size
  have Hc := hide (wrong_c N mb ob vo fb m ⟨4, (r : Nat), (q : Nat), (j : Nat), n⟩ W1 (h.below hb1) hm)
  have Hw := hide hw
  have Hh := hide h
  have ri : RegAt m q x := ⟨hx⟩
  have rj : RegAt m r (true, (o : Int)) := ⟨hy⟩
  have Hl := hide hl
  have Hj := hide hj
  clear hx hy hl hj
  clear h hD hw
  go_enter Try.func16, Try.ntmps16
  go_wp2_with fail
  refine (unhide Hc).mono ?_
  rintro e w2 ⟨rfl, hb2⟩
  rw [unhide Hw]
  clear hW1 c0 c1 c2 c3 c4 r0 r1 r2 f0 f1 f2 Hc
  have hbw : Below w.heap.size w w2 := hb1.trans (hb2.mono hb1.size)
  have HD2 := hide ((unhide HD).on hb2)
  obtain ⟨c0, c1, c2, c3, c4, r0, r1, r2, f0, f1, f2, hlt2, _⟩ := unhide HD2
  have hmb2 : mb < w2.heap.size := Nat.lt_of_lt_of_le hmb hb2.size
  have Hh2 := hide ((unhide Hh).below hbw)
  have Hv := value_r (unhide Hh2)
  have Hs : Hid (∀ W, Below w2.heap.size w2 W → Calls Try.prog 75 #[.pointer (some ⟨ob, 0, none⟩), .int .i64 (o : Nat), .int .i64 (j : Nat), .agg #[.bool x.1, .int .i64 x.2]] W fun e w' => e = .returned (.tuple #[]) ∧ OM w' N ob vo fb (m.objs.set o (l.set j x)) ∧ Kp (OwnO.In vo fb) W w') := fun W hW => put_c N ob vo fb m.objs o j l x W ((unhide Hh2).below hW).mem (unhide Hl) (unhide Hj)
  have i0 := (unhide Hh2).i0
  have Gi := cell_regrown i0
  have hmp := m_put ⟨ob, 0, none⟩
  clear hb2 HD
  have G0 := cell_regrown c0
  have G1 := cell_regrown c1
  have G2 := cell_regrown c2
  have G3 := cell_regrown c3
  have G4 := cell_regrown c4
  go_wp2
  refine wp_region_quiet_below_tail 21 (by kernel_rfl) (by kernel_rfl) ?_
  simp only [List.take_succ_cons, List.take_zero, List.drop_succ_cons, List.drop_zero]
  repeat (go_big_quiet_step (exact Calls.regrown_of ((unhide Hv) _ _ (by assumption) _ (below_regrown _ _ _))))
  refine wpQuiet_nil ?_
  intro _ hw'
  obtain ⟨⟨dq, osq⟩, hw''⟩ := hw'
  subst hw''
  have hbq := below_regrown w2 dq osq
  clear G0 G1 G2 G3 G4
  generalize Go.Sort.grow (redrawn w2 dq) osq = wq at *
  have Hbq := hide hbq
  have hmbq : mb < wq.heap.size := Nat.lt_of_lt_of_le hmb2 hbq.size
  have HDq := hide ((unhide HD2).on hbq)
  clear c0 c1 c2 c3 c4 r0 r1 r2 f0 f1 f2 hbq
  clear Gi i0
  go_wp2_with (go_at_call 75; go_must (refine ((unhide Hs) _ (unhide Hbq)).mono ?_); go_must (rintro e w5 ⟨rfl, hP5, hK5⟩; have hlmb := (unhide Hh).lt (k := mb) (.inl rfl); have hD5 := (unhide HDq).kept hK5 (fun j e => ((unhide Hh).lt (.inr (.inr e))).2); obtain ⟨c0, c1, c2, c3, c4, r0, r1, r2, f0, f1, f2, hlt5, _⟩ := hD5; have HP5 := hide hP5; have HK5 := hide hK5; clear hP5 hK5))
  refine bodyPost_ret (v := .agg #[.int .i64 0, .bool false, .int .i64 0]) (by simp [results, Try.results16, go_sem, r0, r1, r2]) rfl ⟨rfl, ?_⟩
  exact DoRes.fin (b := w.heap.size + 1) (DoRes.put ((unhide Hh2).below (unhide Hbq)) (unhide HP5) (unhide HK5)) (unhide Hh) (hbw.trans ((unhide Hbq).mono hbw.size)) (by have := (unhide HDq).lt; omega) (by omega) 0 false 0

set_option maxRecDepth 100000 in
set_option maxHeartbeats 2000000 in
theorem do_get (r q j : Nat) (o : Nat) (x : V) (l : List V) (n : Int) (h : PM w N mb ob vo fb m) (hm : MOk m) (hr : r < 8) (hy : m.regs[q]? = some (true, (o : Int))) (hl : m.objs[o]? = some l) (hx : l[j]? = some x) (hw : wrongM m ⟨5, (r : Nat), (q : Nat), (j : Nat), n⟩ = 0) :
    Calls Try.prog 16 #[.pointer (some ⟨mb, 0, none⟩), .agg #[.int .i64 5, .int .i64 (r : Nat), .int .i64 (q : Nat), .int .i64 (j : Nat), .int .i64 n]] w fun e w' => e = .returned (.agg #[.int .i64 0, .bool false, .int .i64 0]) ∧ DoRes N mb ob vo fb { m with regs := m.regs.set r x } w w' := by
  obtain ⟨W1, hW1⟩ : ∃ W1, (w.alloc (.cells #[.int .i64 5, .int .i64 (r : Nat), .int .i64 (q : Nat), .int .i64 (j : Nat), .int .i64 n] 53)).alloc (.cells #[.int .i64 0, .bool false, .int .i64 0] 55) = W1 := ⟨_, rfl⟩
  have hD := dtwo_new w 5 (r : Nat) (q : Nat) (j : Nat) n
  have hb1 := dtwo_below w (.cells #[.int .i64 5, .int .i64 (r : Nat), .int .i64 (q : Nat), .int .i64 (j : Nat), .int .i64 n] 53) (.cells #[.int .i64 0, .bool false, .int .i64 0] 55)
  rw [hW1] at hD hb1
  obtain ⟨c0, c1, c2, c3, c4, r0, r1, r2, f0, f1, f2, hlt, _⟩ := id hD
  have HD := hide hD
  have hmb : mb < W1.heap.size := Nat.lt_of_lt_of_le (lt_of_heap h.box) hb1.size
  have Hc := hide (wrong_c N mb ob vo fb m ⟨5, (r : Nat), (q : Nat), (j : Nat), n⟩ W1 (h.below hb1) hm)
  have Hw := hide hw
  have Hh := hide h
  have rj : RegAt m q (true, (o : Int)) := ⟨hy⟩
  have Hl := hide hl
  have Hx := hide hx
  clear hx hy hl
  clear h hD hw
  go_enter Try.func16, Try.ntmps16
  go_wp2_with fail
  refine (unhide Hc).mono ?_
  rintro e w2 ⟨rfl, hb2⟩
  rw [unhide Hw]
  clear hW1 c0 c1 c2 c3 c4 r0 r1 r2 f0 f1 f2 Hc
  have hbw : Below w.heap.size w w2 := hb1.trans (hb2.mono hb1.size)
  have HD2 := hide ((unhide HD).on hb2)
  obtain ⟨c0, c1, c2, c3, c4, r0, r1, r2, f0, f1, f2, hlt2, _⟩ := unhide HD2
  have hmb2 : mb < w2.heap.size := Nat.lt_of_lt_of_le hmb hb2.size
  have Hh2 := hide ((unhide Hh).below hbw)
  have Hs : Hid (∀ W, Below w2.heap.size w2 W → Calls Try.prog 30 #[.pointer (some ⟨mb, 1, none⟩), .int .i64 (r : Nat), .agg #[.bool x.1, .int .i64 x.2]] W fun e w' => e = .returned (.tuple #[]) ∧ PM w' N mb ob vo fb { m with regs := m.regs.set r x } ∧ Kp (fun k => k = mb) W w') := fun W hW => set_c N mb ob vo fb m r x W ((unhide Hh2).below hW) hr
  have Hv := value_r (unhide Hh2)
  have Hg : Hid (∀ W, Below w2.heap.size w2 W → Calls Try.prog 74 #[.pointer (some ⟨ob, 0, none⟩), .int .i64 (o : Nat), .int .i64 (j : Nat)] W fun e w' => e = .returned (.agg #[.bool x.1, .int .i64 x.2]) ∧ Below W.heap.size W w') := fun W hW => get_c N ob vo fb m.objs o j l x W ((unhide Hh2).below hW).mem (unhide Hl) (unhide Hx)
  have i0 := (unhide Hh2).i0
  have Gi := cell_regrown i0
  have hmp := m_get ⟨ob, 0, none⟩
  clear hb2 HD
  have G0 := cell_regrown c0
  have G1 := cell_regrown c1
  have G2 := cell_regrown c2
  have G3 := cell_regrown c3
  have G4 := cell_regrown c4
  go_wp2
  refine wp_region_quiet_below_tail 21 (by kernel_rfl) (by kernel_rfl) ?_
  simp only [List.take_succ_cons, List.take_zero, List.drop_succ_cons, List.drop_zero]
  repeat (go_big_quiet_step (first | exact Calls.regrown_of ((unhide Hv) _ _ (by assumption) _ (below_regrown _ _ _)) | exact Calls.regrown_of ((unhide Hg) _ (below_regrown _ _ _))))
  refine wpQuiet_nil ?_
  intro _ hw'
  obtain ⟨⟨dq, osq⟩, hw''⟩ := hw'
  subst hw''
  have hbq := below_regrown w2 dq osq
  clear G0 G1 G2 G3 G4
  generalize Go.Sort.grow (redrawn w2 dq) osq = wq at *
  have Hbq := hide hbq
  have hmbq : mb < wq.heap.size := Nat.lt_of_lt_of_le hmb2 hbq.size
  have HDq := hide ((unhide HD2).on hbq)
  clear c0 c1 c2 c3 c4 r0 r1 r2 f0 f1 f2 hbq
  clear Gi i0
  go_wp2_with (go_at_call 30; go_must (refine ((unhide Hs) _ (unhide Hbq)).mono ?_); go_must (rintro e w5 ⟨rfl, hP5, hK5⟩; have hlmb := (unhide Hh).lt (k := mb) (.inl rfl); have hD5 := (unhide HDq).kept hK5 (fun j e => by omega); obtain ⟨c0, c1, c2, c3, c4, r0, r1, r2, f0, f1, f2, hlt5, _⟩ := hD5; have HP5 := hide hP5; have HK5 := hide hK5; clear hP5 hK5))
  refine bodyPost_ret (v := .agg #[.int .i64 0, .bool false, .int .i64 0]) (by simp [results, Try.results16, go_sem, r0, r1, r2]) rfl ⟨rfl, ?_⟩
  exact DoRes.fin (b := w.heap.size + 1) (DoRes.set (unhide HP5) (unhide HK5)) (unhide Hh) (hbw.trans ((unhide Hbq).mono hbw.size)) (by have := (unhide HDq).lt; omega) (by omega) 0 false 0
end

end Go.Proofs.Ytlolcdgbidboeaa

/- Walks: a step: same, tell, a new one; by its plain words. -/
namespace Go.Proofs.Ytlolcdgbidboeaa
set_option linter.unusedSimpArgs false
set_option linter.unusedVariables false
open Go.RowKit Go.Shelf
attribute [local go_sem] field47_1

section
variable (N mb ob : Nat) (vo : Value) (fb : List Value) (m : Mm) (w : World)

set_option maxRecDepth 100000 in
set_option maxHeartbeats 2000000 in
theorem do_same (r q : Nat) (f : Int) (x y : V) (n : Int) (h : PM w N mb ob vo fb m) (hm : MOk m) (hx : m.regs[r]? = some x) (hy : m.regs[q]? = some y) (hw : wrongM m ⟨6, (r : Nat), (q : Nat), f, n⟩ = 0) :
    Calls Try.prog 16 #[.pointer (some ⟨mb, 0, none⟩), .agg #[.int .i64 6, .int .i64 (r : Nat), .int .i64 (q : Nat), .int .i64 f, .int .i64 n]] w fun e w' => e = .returned (.agg #[.int .i64 0, .bool false, .int .i64 (if x = y then 1 else 0)]) ∧ DoRes N mb ob vo fb m w w' := by
  obtain ⟨W1, hW1⟩ : ∃ W1, (w.alloc (.cells #[.int .i64 6, .int .i64 (r : Nat), .int .i64 (q : Nat), .int .i64 f, .int .i64 n] 53)).alloc (.cells #[.int .i64 0, .bool false, .int .i64 0] 55) = W1 := ⟨_, rfl⟩
  have hD := dtwo_new w 6 (r : Nat) (q : Nat) f n
  have hb1 := dtwo_below w (.cells #[.int .i64 6, .int .i64 (r : Nat), .int .i64 (q : Nat), .int .i64 f, .int .i64 n] 53) (.cells #[.int .i64 0, .bool false, .int .i64 0] 55)
  rw [hW1] at hD hb1
  obtain ⟨c0, c1, c2, c3, c4, r0, r1, r2, f0, f1, f2, hlt, _⟩ := id hD
  have HD := hide hD
  have hmb : mb < W1.heap.size := Nat.lt_of_lt_of_le (lt_of_heap h.box) hb1.size
  have Hc := hide (wrong_c N mb ob vo fb m ⟨6, (r : Nat), (q : Nat), f, n⟩ W1 (h.below hb1) hm)
  have Hw := hide hw
  have Hh := hide h
  obtain ⟨E, HE⟩ : ∃ E : Int, Hid ((if x = y then 1 else 0) = E) := ⟨_, rfl⟩
  rw [unhide HE]
  have Hx := hide hx
  have Hy := hide hy
  clear hx hy
  clear h hD hw
  go_enter Try.func16, Try.ntmps16
  go_wp2_with fail
  refine (unhide Hc).mono ?_
  rintro e w2 ⟨rfl, hb2⟩
  rw [unhide Hw]
  clear hW1 c0 c1 c2 c3 c4 r0 r1 r2 f0 f1 f2 Hc
  have hbw : Below w.heap.size w w2 := hb1.trans (hb2.mono hb1.size)
  have HD2 := hide ((unhide HD).on hb2)
  obtain ⟨c0, c1, c2, c3, c4, r0, r1, r2, f0, f1, f2, hlt2, _⟩ := unhide HD2
  have hmb2 : mb < w2.heap.size := Nat.lt_of_lt_of_le hmb hb2.size
  have Hh2 := hide ((unhide Hh).below hbw)
  have Hs := hide (same_c N mb ob vo fb m r q x y w2 (unhide Hh2) (unhide Hx) (unhide Hy))
  rw [unhide HE] at Hs
  clear hb2 HD
  clear r0 r1 r2 f0 f1 f2
  go_wp2_with (go_at_call 32; go_must (refine (unhide Hs).mono ?_); go_must (rintro e wq ⟨rfl, hbq⟩; have HDq := hide ((unhide HD2).on hbq); obtain ⟨c0, c1, c2, c3, c4, r0, r1, r2, f0, f1, f2, hlt5, _⟩ := unhide HDq; have Hbq := hide hbq; clear hbq))
  refine bodyPost_ret (v := .agg #[.int .i64 0, .bool false, .int .i64 E]) (by simp [results, Try.results16, go_sem, r0, r1, r2]) rfl ⟨rfl, ?_⟩
  exact DoRes.fin (b := w.heap.size + 1) (DoRes.none ((unhide Hh2).below (unhide Hbq)) (Below.refl _ _)) (unhide Hh) (hbw.trans ((unhide Hbq).mono hbw.size)) (by have := (unhide HDq).lt; omega) (by omega) 0 false E

set_option maxRecDepth 100000 in
set_option maxHeartbeats 2000000 in
theorem do_tell (d : Int) (q : Nat) (f : Int) (x : V) (R : Bool) (E : Int) (n : Int) (h : PM w N mb ob vo fb m) (hm : MOk m) (hx : m.regs[q]? = some x) (ht : Hid (∀ W, Below w.heap.size w W → Calls Try.prog 33 #[.pointer (some ⟨mb, 0, none⟩), .agg #[.bool x.1, .int .i64 x.2]] W fun e w' => e = .returned (.agg #[.int .i64 0, .bool R, .int .i64 E]) ∧ Below W.heap.size W w')) (hw : wrongM m ⟨7, d, (q : Nat), f, n⟩ = 0) :
    Calls Try.prog 16 #[.pointer (some ⟨mb, 0, none⟩), .agg #[.int .i64 7, .int .i64 d, .int .i64 (q : Nat), .int .i64 f, .int .i64 n]] w fun e w' => e = .returned (.agg #[.int .i64 0, .bool R, .int .i64 E]) ∧ DoRes N mb ob vo fb m w w' := by
  obtain ⟨W1, hW1⟩ : ∃ W1, (w.alloc (.cells #[.int .i64 7, .int .i64 d, .int .i64 (q : Nat), .int .i64 f, .int .i64 n] 53)).alloc (.cells #[.int .i64 0, .bool false, .int .i64 0] 55) = W1 := ⟨_, rfl⟩
  have hD := dtwo_new w 7 d (q : Nat) f n
  have hb1 := dtwo_below w (.cells #[.int .i64 7, .int .i64 d, .int .i64 (q : Nat), .int .i64 f, .int .i64 n] 53) (.cells #[.int .i64 0, .bool false, .int .i64 0] 55)
  rw [hW1] at hD hb1
  obtain ⟨c0, c1, c2, c3, c4, r0, r1, r2, f0, f1, f2, hlt, _⟩ := id hD
  have HD := hide hD
  have hmb : mb < W1.heap.size := Nat.lt_of_lt_of_le (lt_of_heap h.box) hb1.size
  have Hc := hide (wrong_c N mb ob vo fb m ⟨7, d, (q : Nat), f, n⟩ W1 (h.below hb1) hm)
  have Hw := hide hw
  have Hh := hide h
  have ri : RegAt m q x := ⟨hx⟩
  clear hx
  clear h hD hw
  go_enter Try.func16, Try.ntmps16
  go_wp2_with fail
  refine (unhide Hc).mono ?_
  rintro e w2 ⟨rfl, hb2⟩
  rw [unhide Hw]
  clear hW1 c0 c1 c2 c3 c4 r0 r1 r2 f0 f1 f2 Hc
  have hbw : Below w.heap.size w w2 := hb1.trans (hb2.mono hb1.size)
  have HD2 := hide ((unhide HD).on hb2)
  obtain ⟨c0, c1, c2, c3, c4, r0, r1, r2, f0, f1, f2, hlt2, _⟩ := unhide HD2
  have hmb2 : mb < w2.heap.size := Nat.lt_of_lt_of_le hmb hb2.size
  have Hh2 := hide ((unhide Hh).below hbw)
  have Hv := value_r (unhide Hh2)
  have Ht : Hid (∀ W, Below w2.heap.size w2 W → Calls Try.prog 33 #[.pointer (some ⟨mb, 0, none⟩), .agg #[.bool x.1, .int .i64 x.2]] W fun e w' => e = .returned (.agg #[.int .i64 0, .bool R, .int .i64 E]) ∧ Below W.heap.size W w') := fun W hW => (unhide ht) W (hbw.trans (hW.mono hbw.size))
  clear hb2 HD
  have G0 := cell_regrown c0
  have G1 := cell_regrown c1
  have G2 := cell_regrown c2
  have G3 := cell_regrown c3
  have G4 := cell_regrown c4
  go_wp2
  refine wp_region_quiet_below_tail 8 (by kernel_rfl) (by kernel_rfl) ?_
  simp only [List.take_succ_cons, List.take_zero, List.drop_succ_cons, List.drop_zero]
  repeat (go_big_quiet_step (first | exact Calls.regrown_of ((unhide Hv) _ _ (by assumption) _ (below_regrown _ _ _)) | exact Calls.regrown_of ((unhide Ht) _ (below_regrown _ _ _))))
  refine wpQuiet_nil ?_
  intro _ hw'
  obtain ⟨⟨dq, osq⟩, hw''⟩ := hw'
  subst hw''
  have hbq := below_regrown w2 dq osq
  clear G0 G1 G2 G3 G4
  generalize Go.Sort.grow (redrawn w2 dq) osq = wq at *
  have Hbq := hide hbq
  have hmbq : mb < wq.heap.size := Nat.lt_of_lt_of_le hmb2 hbq.size
  have HDq := hide ((unhide HD2).on hbq)
  clear c0 c1 c2 c3 c4 r0 r1 r2 f0 f1 f2 hbq
  obtain ⟨c0, c1, c2, c3, c4, r0, r1, r2, f0, f1, f2, hlt5, _⟩ := unhide HDq
  go_wp2
  refine bodyPost_ret (v := .agg #[.int .i64 0, .bool R, .int .i64 E]) (by simp [results, Try.results16, go_sem, r0, r1, r2]) rfl ⟨rfl, ?_⟩
  exact DoRes.fin (b := w.heap.size + 1) (DoRes.none ((unhide Hh2).below (unhide Hbq)) (Below.refl _ _)) (unhide Hh) (hbw.trans ((unhide Hbq).mono hbw.size)) (by have := (unhide HDq).lt; omega) (by omega) 0 R E

set_option maxRecDepth 100000 in
set_option maxHeartbeats 2000000 in
theorem do_new (r : Nat) (s f : Int) (n : Int) (h : PM w N mb ob vo fb m) (hm : MOk m) (k : Nat) (hk : n = (k : Nat)) (hk4 : k ≤ 4) (hr : r < 8) (hol : m.objs.length ≤ 200) (hNw : N ≤ w.heap.size) (hw : wrongM m ⟨1, (r : Nat), s, f, n⟩ = 0) :
    Calls Try.prog 16 #[.pointer (some ⟨mb, 0, none⟩), .agg #[.int .i64 1, .int .i64 (r : Nat), .int .i64 s, .int .i64 f, .int .i64 n]] w fun e w' => e = .returned (.agg #[.int .i64 0, .bool false, .int .i64 0]) ∧ DoRes N mb ob vo fb { regs := m.regs.set r (true, (m.objs.length : Int)), objs := m.objs ++ [List.replicate k (false, 0)] } w w' := by
  subst hk
  obtain ⟨W1, hW1⟩ : ∃ W1, (w.alloc (.cells #[.int .i64 1, .int .i64 (r : Nat), .int .i64 s, .int .i64 f, .int .i64 (k : Nat)] 53)).alloc (.cells #[.int .i64 0, .bool false, .int .i64 0] 55) = W1 := ⟨_, rfl⟩
  have hD := dtwo_new w 1 (r : Nat) s f (k : Nat)
  have hb1 := dtwo_below w (.cells #[.int .i64 1, .int .i64 (r : Nat), .int .i64 s, .int .i64 f, .int .i64 (k : Nat)] 53) (.cells #[.int .i64 0, .bool false, .int .i64 0] 55)
  rw [hW1] at hD hb1
  obtain ⟨c0, c1, c2, c3, c4, r0, r1, r2, f0, f1, f2, hlt, _⟩ := id hD
  have HD := hide hD
  have hmb : mb < W1.heap.size := Nat.lt_of_lt_of_le (lt_of_heap h.box) hb1.size
  have Hc := hide (wrong_c N mb ob vo fb m ⟨1, (r : Nat), s, f, (k : Nat)⟩ W1 (h.below hb1) hm)
  have Hw := hide hw
  have Hh := hide h
  clear h hD hw
  go_enter Try.func16, Try.ntmps16
  go_wp2_with fail
  refine (unhide Hc).mono ?_
  rintro e w2 ⟨rfl, hb2⟩
  rw [unhide Hw]
  clear hW1 c0 c1 c2 c3 c4 r0 r1 r2 f0 f1 f2 Hc
  have hbw : Below w.heap.size w w2 := hb1.trans (hb2.mono hb1.size)
  have HD2 := hide ((unhide HD).on hb2)
  obtain ⟨c0, c1, c2, c3, c4, r0, r1, r2, f0, f1, f2, hlt2, _⟩ := unhide HD2
  have hmb2 : mb < w2.heap.size := Nat.lt_of_lt_of_le hmb hb2.size
  have Hh2 := hide ((unhide Hh).below hbw)
  have i0 := (unhide Hh2).i0
  have hmc := m_create ⟨ob, 0, none⟩
  have Hcr : Hid (∀ W, Below w2.heap.size w2 W → Calls Try.prog 73 #[.pointer (some ⟨ob, 0, none⟩), .int .i64 (k : Nat)] W fun e w' => e = .returned (.int .i64 (m.objs.length : Nat)) ∧ CrRes N ob vo fb (m.objs ++ [List.replicate k (false, 0)]) W w') := fun W hW => create_c N ob vo fb m.objs k W ((unhide Hh2).below hW).mem hk4 hol (by have := hbw.size; have := hW.size; omega)
  clear hb2 HD
  clear r0 r1 r2 f0 f1 f2
  go_wp2
  go_region_with (first
    | (go_at_call 73; refine ((unhide Hcr) _ (Below.refl _ _).drew).mono ?_; rintro e w5 ⟨rfl, vo5, fb5, hO5, hK5, hS5⟩; have hD5 := ((unhide HD2).on (Below.refl _ _).drew).kept hK5 (fun j e => ((unhide Hh).lt (.inr e)).2); obtain ⟨z0, z1, z2, z3, z4, y0, y1, y2, g0, g1, g2, hlt5, _⟩ := id hD5; have HD5 := hide hD5; have HP5 : Hid (PM w5 N mb ob vo5 fb5 ⟨m.regs, m.objs ++ [List.replicate k (false, 0)]⟩) := ⟨hK5.heap ((unhide Hh2).below (Below.refl _ _).drew).box (fun e => (unhide Hh2).out e), hO5, (unhide Hh).n8, (unhide Hh).lo⟩; have HK5 := hide hK5; have HS5 := hide hS5; have hmb5 := lt_of_heap (unhide HP5).box; clear hO5 hK5 hS5 hD5 y0 y1 y2 g0 g1 g2)
    | (go_at_call 30; refine (set_c N mb ob vo5 fb5 ⟨m.regs, m.objs ++ [List.replicate k (false, 0)]⟩ r (true, (m.objs.length : Int)) w5 (unhide HP5) hr).mono ?_; rintro e w6 ⟨rfl, hP6, hK6⟩; have HP6 := hide hP6; have HK6 := hide hK6; have hD6 := (unhide HD5).kept hK6 (fun j e => by have := (unhide Hh).lt (k := mb) (.inl rfl); omega); obtain ⟨x0, x1, x2, x3, x4, r0, r1, r2, f0, f1, f2, hlt6, _⟩ := hD6; clear hP6 hK6 x0 x1 x2 x3 x4))
  all_goals
    clear c0 c1 c2 c3 c4
    go_wp2
    refine bodyPost_ret (v := .agg #[.int .i64 0, .bool false, .int .i64 0]) (by simp [results, Try.results16, go_sem, r0, r1, r2]) rfl ⟨rfl, ?_⟩
    refine DoRes.fin (b := w.heap.size + 1) ?_ (unhide Hh) (hbw.trans (((Below.refl w2.heap.size w2).drew).mono hbw.size)) (by show w.heap.size + 1 < w2.drew.heap.size; exact (unhide HD2).lt) (by omega) 0 false 0
    exact ⟨vo5, fb5, unhide HP6, ((unhide HK5).mono (fun k e => .inr e)).trans (S' := fun k => k = mb) (unhide HK6) (fun k e => .inl (.inl e)), fun k hk => by
      rcases hk with hk | hk
      · exact .inl (.inl hk)
      · rcases (unhide HS5) k hk with hk | hk
        · exact .inl (.inr hk)
        · exact .inr hk⟩
end

end Go.Proofs.Ytlolcdgbidboeaa

/- Walks: a step, by its plain words. -/
namespace Go.Proofs.Ytlolcdgbidboeaa
set_option linter.unusedSimpArgs false
set_option linter.unusedVariables false
open Go.RowKit Go.Shelf

def ddV (d : Dd) : Value := .agg #[.int .i64 d.kind, .int .i64 d.dst, .int .i64 d.src, .int .i64 d.fat, .int .i64 d.num]
def ouV (o : Ou) : Value := .agg #[.int .i64 o.code, .bool o.ref, .int .i64 o.num]

theorem fld_at {m : Mm} {o : Int} (h0 : 0 ≤ o) (h1 : o < m.objs.length) : m.objs[o.toNat]? = some (fldM m o) := by
  have hlt : o.toNat < m.objs.length := by omega
  unfold fldM
  rw [List.getD_eq_getElem?_getD, List.getElem?_eq_getElem hlt]
  rfl

theorem do_c (N mb ob : Nat) (vo : Value) (fb : List Value) (m : Mm) (d : Dd) (w : World) (h : PM w N mb ob vo fb m) (hm : MOk m) (hol : m.objs.length ≤ 200) (hNw : N ≤ w.heap.size) :
    Calls Try.prog 16 #[.pointer (some ⟨mb, 0, none⟩), ddV d] w fun e w' => e = .returned (ouV (stepM m d).1) ∧ DoRes N mb ob vo fb (stepM m d).2 w w' := by
  by_cases hw : wrongM m d ≠ 0
  · have e : stepM m d = (⟨wrongM m d, false, 0⟩, m) := by unfold stepM; rw [if_neg hw]
    rw [e]
    exact (do_wrong N mb ob vo fb m w d h hm hw).mono fun _ _ ⟨he, hb⟩ => ⟨he, DoRes.none h hb⟩
  have hw : wrongM m d = 0 := Decidable.not_not.1 hw
  have e : stepM m d = doM m d := by unfold stepM; rw [if_pos hw]
  rw [e]
  clear e
  obtain ⟨a1, a7, hdst, hsrc, hnew, hint⟩ := wrong_num hw
  have hfld := fun hk => wrong_ref (m := m) (d := d) hw hk
  obtain ⟨k, ds, s, f, n⟩ := d
  simp only at a1 a7 hdst hsrc hnew hint hfld
  have c7 : k = 1 ∨ k = 2 ∨ k = 3 ∨ k = 4 ∨ k = 5 ∨ k = 6 ∨ k = 7 := by omega
  rcases c7 with rfl | rfl | rfl | rfl | rfl | rfl | rfl
  · obtain ⟨h1, h2⟩ := hdst (by decide)
    obtain ⟨h3, h4⟩ := hnew rfl
    obtain ⟨r, rfl⟩ := Int.eq_ofNat_of_zero_le h1
    obtain ⟨q, rfl⟩ := Int.eq_ofNat_of_zero_le h3
    exact do_new N mb ob vo fb m w r s f q h hm q rfl (by omega) (by omega) hol hNw hw
  · obtain ⟨h1, h2⟩ := hdst (by decide)
    obtain ⟨r, rfl⟩ := Int.eq_ofNat_of_zero_le h1
    exact do_int N mb ob vo fb m w r s f n h hm (by omega) hw
  · obtain ⟨h1, h2⟩ := hdst (by decide)
    obtain ⟨h3, h4⟩ := hsrc (by decide) (by decide)
    have hx := reg_at h.n8 h3 h4
    obtain ⟨r, rfl⟩ := Int.eq_ofNat_of_zero_le h1
    obtain ⟨q, rfl⟩ := Int.eq_ofNat_of_zero_le h3
    exact do_move N mb ob vo fb m w r q f (regM m (q : Int)) n h hm (by omega) hx hw
  · obtain ⟨h1, h2⟩ := hdst (by decide)
    obtain ⟨h3, h4⟩ := hsrc (by decide) (by decide)
    have hx := reg_at h.n8 h3 h4
    have hy := reg_at h.n8 h1 h2
    obtain ⟨g1, g2, g3⟩ := hfld (.inl rfl)
    have hwho : whoM ⟨4, ds, s, f, n⟩ = ds := by unfold whoM; rw [if_neg (show ¬ (4 : Int) = 5 by decide)]
    rw [hwho] at g1 g3
    have hb := regM_mem hm ds g1
    have hl := fld_at hb.1 hb.2
    obtain ⟨r, rfl⟩ := Int.eq_ofNat_of_zero_le h1
    obtain ⟨q, rfl⟩ := Int.eq_ofNat_of_zero_le h3
    obtain ⟨j, rfl⟩ := Int.eq_ofNat_of_zero_le g2
    have hv : regM m (r : Int) = (true, ((regM m (r : Int)).2.toNat : Int)) := by
      rw [Int.toNat_of_nonneg hb.1, ← g1]
    rw [hv] at hy
    exact do_put N mb ob vo fb m w r q j (regM m (r : Int)).2.toNat (regM m (q : Int)) (fldM m (regM m (r : Int)).2) n h hm hy hx hl (by omega) hw
  · obtain ⟨h1, h2⟩ := hdst (by decide)
    obtain ⟨h3, h4⟩ := hsrc (by decide) (by decide)
    have hy := reg_at h.n8 h3 h4
    obtain ⟨g1, g2, g3⟩ := hfld (.inr rfl)
    have hwho : whoM ⟨5, ds, s, f, n⟩ = s := by unfold whoM; rw [if_pos rfl]
    rw [hwho] at g1 g3
    have hb := regM_mem hm s g1
    have hl := fld_at hb.1 hb.2
    obtain ⟨r, rfl⟩ := Int.eq_ofNat_of_zero_le h1
    obtain ⟨q, rfl⟩ := Int.eq_ofNat_of_zero_le h3
    obtain ⟨j, rfl⟩ := Int.eq_ofNat_of_zero_le g2
    have hv : regM m (q : Int) = (true, ((regM m (q : Int)).2.toNat : Int)) := by
      rw [Int.toNat_of_nonneg hb.1, ← g1]
    rw [hv] at hy
    have hj : j < (fldM m (regM m (q : Int)).2).length := by omega
    have hx : (fldM m (regM m (q : Int)).2)[j]? = some ((fldM m (regM m (q : Int)).2).getD j (false, 0)) := by rw [List.getD_eq_getElem?_getD, List.getElem?_eq_getElem hj]; rfl
    exact do_get N mb ob vo fb m w r q j (regM m (q : Int)).2.toNat _ (fldM m (regM m (q : Int)).2) n h hm (by omega) hy hl hx hw
  · obtain ⟨h1, h2⟩ := hdst (by decide)
    obtain ⟨h3, h4⟩ := hsrc (by decide) (by decide)
    have hx := reg_at h.n8 h1 h2
    have hy := reg_at h.n8 h3 h4
    obtain ⟨r, rfl⟩ := Int.eq_ofNat_of_zero_le h1
    obtain ⟨q, rfl⟩ := Int.eq_ofNat_of_zero_le h3
    exact do_same N mb ob vo fb m w r q f (regM m (r : Int)) (regM m (q : Int)) n h hm hx hy hw
  · obtain ⟨h3, h4⟩ := hsrc (by decide) (by decide)
    have hx := reg_at h.n8 h3 h4
    obtain ⟨q, rfl⟩ := Int.eq_ofNat_of_zero_le h3
    have hreg := regM_mem hm (q : Int)
    have ed : doM m ⟨7, ds, (q : Int), f, n⟩ = (if (regM m (q : Int)).1 then ⟨0, true, ((fldM m (regM m (q : Int)).2).length : Int)⟩ else ⟨0, false, (regM m (q : Int)).2⟩, m) := rfl
    rw [ed]
    generalize regM m (q : Int) = x at *
    obtain ⟨b, v⟩ := x
    cases b
    · exact do_tell N mb ob vo fb m w ds q f (false, v) false v n h hm hx (fun W _ => tell_num _ _ W) hw
    · obtain ⟨h5, h6⟩ := hreg rfl
      simp only at h5 h6
      have hl := fld_at h5 h6
      obtain ⟨o, rfl⟩ := Int.eq_ofNat_of_zero_le h5
      exact do_tell N mb ob vo fb m w ds q f (true, (o : Int)) true ((fldM m (o : Int)).length : Nat) n h hm hx (fun W hW => tell_ref N mb ob vo fb m W (h.below hW) o _ hl) hw

end Go.Proofs.Ytlolcdgbidboeaa

/- Walks: slices.Clone; copied. -/
namespace Go.Proofs.Ytlolcdgbidboeaa
set_option linter.unusedSimpArgs false
set_option linter.unusedVariables false
open Go.RowKit Go.Shelf

theorem cellsV_idx : ∀ (l : List V) (j : Nat) (u : Value), (cellsV l)[j]? = some u → ∃ k x, l[k]? = some x ∧ ((j = k * 2 ∧ u = .bool x.1) ∨ (j = k * 2 + 1 ∧ u = .int .i64 x.2))
  | [], j, u, h => by simp [cellsV] at h
  | x :: l, 0, u, h => by
    have e : cellsV (x :: l) = .bool x.1 :: .int .i64 x.2 :: cellsV l := rfl
    rw [e] at h
    simp at h
    exact ⟨0, x, rfl, .inl ⟨rfl, h.symm⟩⟩
  | x :: l, 1, u, h => by
    have e : cellsV (x :: l) = .bool x.1 :: .int .i64 x.2 :: cellsV l := rfl
    rw [e] at h
    simp at h
    exact ⟨0, x, rfl, .inr ⟨rfl, h.symm⟩⟩
  | x :: l, j + 2, u, h => by
    have e : cellsV (x :: l) = .bool x.1 :: .int .i64 x.2 :: cellsV l := rfl
    rw [e, List.getElem?_cons_succ, List.getElem?_cons_succ] at h
    obtain ⟨k, y, h1, h2⟩ := cellsV_idx l j u h
    refine ⟨k + 1, y, by rw [List.getElem?_cons_succ]; exact h1, ?_⟩
    rcases h2 with ⟨h2, h3⟩ | ⟨h2, h3⟩
    · exact .inl ⟨by omega, h3⟩
    · exact .inr ⟨by omega, h3⟩

theorem cellsV_one (l : List V) : ∀ u ∈ cellsV l, u.oneCell' = true := by
  intro u hu
  obtain ⟨j, hj⟩ := List.getElem?_of_mem hu
  obtain ⟨k, x, _, h | h⟩ := cellsV_idx l j u hj
  · rw [h.2]; rfl
  · rw [h.2]; rfl

theorem Vals.cells {B : Nat} {w : World} {b off : Nat} {l : List V} (h : Vals B w (some ⟨b, off, none⟩) l) (j : Nat) (u : Value) (hj : (cellsV l)[j]? = some u) : w.cell? ((⟨b, off, none⟩ : Addr).add j) = some u := by
  have hadd : (⟨b, off, none⟩ : Addr).add j = ⟨b, off + j, none⟩ := by unfold Addr.add; split <;> simp_all
  rw [hadd]
  obtain ⟨k, x, hx, hh⟩ := cellsV_idx l j u hj
  obtain ⟨b', off', e, _, hc⟩ := h.2 (by rintro rfl; simp at hx)
  injection e with e
  injection e with e1 e2
  subst e1 e2
  obtain ⟨h1, h2⟩ := hc k x hx
  rcases hh with ⟨rfl, rfl⟩ | ⟨rfl, rfl⟩
  · exact h1
  · exact h2

theorem OwnV.base {W : World} {N N' : Nat} {v : Value} {l : List V} (h : OwnV W N v l) (hN : N' ≤ N) : OwnV W N' v l := by
  refine ⟨h.1, ?_⟩
  rcases h.2 with h | ⟨g, cap, cur, hv, hb, h3⟩
  · exact .inl h
  · exact .inr ⟨g, cap, cur, hv, by omega, h3⟩

set_option maxRecDepth 100000 in
set_option maxHeartbeats 2000000 in
theorem clone_c (a : Option Addr) (cap : Nat) (l : List V) (w : World) (hW : Vals w.heap.size w a l) (hl : l.length ≤ 4) :
    Calls Try.prog 28 #[.slice a l.length cap] w fun e w' => (∃ v, e = .returned v ∧ OwnV w' w.heap.size v l) ∧ Below w.heap.size w w' := by
  have q22 : ∀ (w : World) (a : Option Addr) (n c : Nat), (binOp .eql 23 (.slice a n c) (.slice none 0 0)).run Try.prog w = .ok (.bool a.isNone) w := fun w a n c => Lib.run_eql_slice_nil w _ _ a n c 0 0 Try.underlying23
  cases a with
  | none =>
    have hl0 : l = [] := by
      by_cases h : l = []
      · exact h
      · obtain ⟨b, off, e, _⟩ := hW.2 h; cases e
    subst hl0
    go_enter Try.func28, Try.ntmps28
    go_wp2
    go_ret
    exact ⟨⟨_, rfl, World.ownsRow_nil _ _ _ _⟩, Below.refl _ _⟩
  | some ad =>
    obtain ⟨i0, hi0, hz0, hz1, hz2⟩ := info_parts Try.info47'
    have hrow0 : (w.alloc (.cells #[] 47)).ownsRow w.heap.size 47 2 (.slice (some ⟨w.heap.size, 0, none⟩) 0 0) 0 [] := World.ownsRow_made w #[] 0 (Nat.le_refl _) (by simp [maxLen]) rfl
    have hb0 : Below w.heap.size w (w.alloc (.cells #[] 47)) := (Below.refl _ _).alloc (Nat.le_refl _) _
    have hcells : ∀ j u, (cellsV l)[j]? = some u → (w.alloc (.cells #[] 47)).cell? (ad.add j) = some u := fun j u hj => by
      have hne : l ≠ [] := by rintro rfl; simp [cellsV] at hj
      have hv := hW.below hb0
      obtain ⟨b, off, e, hB, hcs⟩ := hv.2 hne
      have e' := Option.some.inj e
      subst e'
      exact hv.cells j u hj
    have hwl := cellsV_len l
    have hone := cellsV_one l
    have Hfin : Hid (∀ v' w', w'.ownsRow w.heap.size 47 2 v' (0 + l.length) ([] ++ cellsV l) → (w.alloc (.cells #[] 47)).grownBy w' (some w.heap.size) → w'.ownsRow w.heap.size 47 2 v' l.length (cellsV l) ∧ Below w.heap.size w w') := fun v' w' h hg => by
      rw [Nat.zero_add, List.nil_append] at h
      exact ⟨h, hb0.grown hg (by simp) (fun k e => by injection e with e; omega)⟩
    clear hW
    go_enter Try.func28, Try.ntmps28
    go_wp2_with (at_builtin; go_must (refine wpList_append_own_at _ rfl _ _ 23 rfl w.heap.size 47 i0 _ 2 16 Try.underlying23 hi0 hz0 hz1 hz2 rfl (by decide) _ _ _ rfl hrow0 ad l.length cap (cellsV l) rfl hwl hcells hone (by simp only [maxLen]; omega) (by omega) (by simp) ?_); go_must (intro v8 w8 hrow8 hg8 _ hat8; have Hr8 := hide hrow8; have Hg8 := hide hg8; clear hrow8 hg8 hat8))
    go_ret
    have hf := unhide Hfin v8 w8 (unhide Hr8) (unhide Hg8)
    exact ⟨⟨_, rfl, hf.1⟩, hf.2⟩

end Go.Proofs.Ytlolcdgbidboeaa

/- Walks: copied. -/
namespace Go.Proofs.Ytlolcdgbidboeaa
set_option linter.unusedSimpArgs false
set_option linter.unusedVariables false
open Go.RowKit Go.Shelf

theorem om_nil {W : World} {N ob : Nat} (h : W.heap[ob]? = some (.cells #[.slice none 0 0] 60)) (hN : N ≤ ob) : OM W N ob (.slice none 0 0) [] [] :=
  ⟨h, ⟨World.ownsRow_nil _ _ _ _, rfl, fun i u l hu _ => by simp at hu, fun i j u u' _ hu _ => by simp at hu, fun i u hu => by simp at hu⟩, hN⟩

set_option maxRecDepth 100000 in
set_option maxHeartbeats 4000000 in
theorem copied_c (ao : Option Addr) (co : Nat) (objs : List (List V)) (w : World) (ho : Objs w.heap.size w ao objs) (hn : objs.length ≤ 24) (h4 : ∀ l ∈ objs, l.length ≤ 4) :
    Calls Try.prog 15 #[.slice ao objs.length co] w fun e w' => (∃ vo fb, e = .returned (.pointer (some ⟨w.heap.size, 0, none⟩)) ∧ OM w' w.heap.size w.heap.size vo fb objs) ∧ Below w.heap.size w w' := by
  obtain ⟨W1, hW1⟩ : ∃ W1, w.alloc (.cells #[.slice none 0 0] 60) = W1 := ⟨_, rfl⟩
  have hb1 : Below w.heap.size w W1 := by rw [← hW1]; exact (Below.refl _ _).alloc (Nat.le_refl _) _
  have hbox : W1.heap[w.heap.size]? = some (.cells #[.slice none 0 0] 60) := by rw [← hW1]; exact heap_alloc_new _ _
  have H0 := hide (om_nil (N := w.heap.size) hbox (Nat.le_refl _))
  have Ho := hide ho
  have H4 := hide h4
  have hs1 : w.heap.size < W1.heap.size := lt_of_heap hbox
  clear ho h4 hbox
  go_enter Try.func15, Try.ntmps15
  go_wp2
  clear hW1
  go_loopw [10] (fun i wr => ∃ (k : Nat) (vo : Value) (fb : List Value), k ≤ objs.length ∧ i = .int .i64 k ∧ Below w.heap.size W1 wr ∧ Hid (OM wr w.heap.size w.heap.size vo fb (objs.take k))) (fun i _ => objs.length - (intOf i).toNat)
  case atStart => exact ⟨0, .slice none 0 0, [], Nat.zero_le _, rfl, Below.refl _ _, H0⟩
  case round =>
    obtain ⟨k, vo, fb, hk, rfl, hb, HO⟩ := hrel
    have hsz := hb.size
    have hbw : Below w.heap.size w wr := hb1.trans hb
    by_cases hlt : k < objs.length
    · obtain ⟨b, off, ai, ci, rfl, hbB, hcb, hva⟩ := ((unhide Ho).below hbw).at hlt
      have hl4 := (unhide H4) _ (List.getElem_mem hlt)
      have HT := hide (List.take_succ_eq_append_getElem hlt)
      generalize objs[k] = l at *
      have hkI : (k : Int) < (objs.length : Int) := by omega
      have hb0 := (unhide HO).c0
      have hfl : fb.length = k := by rw [(unhide HO).own.len, List.length_take]; omega
      have hrow := (unhide HO).own.row
      rw [hfl] at hrow
      obtain ⟨ca, cc, rfl⟩ := ownsRow_slice hrow
      obtain ⟨i0, hi, hz0, hz1, hz2⟩ := info_parts Try.info62'
      have hmx : k + 1 ≤ maxLen := by simp only [maxLen]; omega
      have hmy : (k + 1) * 24 ≤ 140737488355328 := by omega
      have hwl : w.heap.size < wr.heap.size := by omega
      obtain ⟨W2, HW2⟩ : ∃ W2, Hid (wr.alloc (.cells #[.slice ai l.length ci] 62) = W2) := ⟨_, rfl⟩
      have Hcl : Hid (∀ W, Below wr.heap.size wr W → Calls Try.prog 28 #[.slice ai l.length ci] W fun e w' => ∃ v, e = .returned v ∧ ((∃ a6 c6, v = .slice a6 l.length c6 ∧ OwnV w' W.heap.size (.slice a6 l.length c6) l) ∧ Below W.heap.size W w')) := fun W hW => (clone_c ai ci l W ((hva.mono (by omega)).below hW |>.mono hW.size) hl4).mono (by
        rintro e w' ⟨⟨v, rfl, hv⟩, hb⟩
        obtain ⟨a6, c6, rfl⟩ := hv.slice
        exact ⟨_, rfl, ⟨a6, c6, rfl, hv⟩, hb⟩)
      have Hrow := hide hrow
      have Hfl := hide hfl
      clear hva hrow hfl
      go_wp2
      go_region_law (first
        | (refine step_append_at rfl _ _ 22 rfl w.heap.size 62 i0 _ 1 24 Try.underlying22 hi hz0 hz1 hz2 rfl (Nat.zero_lt_one) (.slice ca k cc) k fb rfl hrow6 ⟨w6.heap.size, 0, none⟩ 1 1 [.slice a6 l.length c6] rfl rfl (cell_one_at _ _ _ _ rfl) hone hmx hmy hbase6 ?_; intro v' w7 hrow7 hg7 hat7; obtain ⟨g7, cap7, hv7⟩ := ownsRow_succ hrow7; subst hv7; have Hp := hide ((unhide HO).pushed (l := l) (unhide Hb6a) (unhide Hu6) (unhide Hub6) (by rw [unhide Hfl]; exact hrow7) hg7 hat7); have c07 := (box_cell (unhide Hp).1 0); simp only [List.getElem?_cons_zero] at c07; have f07 := box_fr (unhide Hp).1 0; have hl7 := lt_of_heap (unhide Hp).1; clear hrow7 hg7 hat7)
        | (refine step_call rfl 28 #[.slice ai l.length ci] (by go_simp) (fun v w6 => (∃ a6 c6, v = .slice a6 l.length c6 ∧ OwnV w6 wr.heap.size (.slice a6 l.length c6) l) ∧ Below wr.heap.size wr w6) (((unhide Hcl) _ (((Below.refl wr.heap.size wr).alloc (Nat.le_refl _) _).drew)).mono (by rintro e w6 ⟨v, rfl, ⟨a6, c6, rfl, hv⟩, hb6⟩; have h0 : Below wr.heap.size wr ((wr.alloc (.cells #[.slice ai l.length ci] 62)).drew) := (((Below.refl wr.heap.size wr).alloc (Nat.le_refl _) _).drew); exact ⟨_, rfl, ⟨a6, c6, rfl, hv.base h0.size⟩, h0.trans (hb6.mono h0.size)⟩)) ?_; rintro v6 w6 ⟨⟨a6, c6, rfl, hv6⟩, hb6⟩; have hrow6 := (ownsRow_below (unhide Hrow) hb6).alloc (.cells #[.slice a6 l.length c6] 62); have hs6 := hb6.size; have Hb6a := hide (hb6.trans ((Below.refl w6.heap.size w6).alloc (Nat.le_refl _) (.cells #[.slice a6 l.length c6] 62) |>.mono hs6)); have Hu6 := hide ((OwnV.below hv6 ((Below.refl w6.heap.size w6).alloc (Nat.le_refl _) (.cells #[.slice a6 l.length c6] 62))).base (N' := w.heap.size) (by omega)); have Hub6 : Hid (∀ j, Value.ownBlock (.slice a6 l.length c6) = some j → wr.heap.size ≤ j) := (fun j hj => (World.ownsRow.lt hv6 j hj).1); have hone : ∀ u ∈ ([.slice a6 l.length c6] : List Value), u.oneCell' = true := (by simp [Value.oneCell']); have hbase6 : w.heap.size ≤ (w6.alloc (.cells #[.slice a6 l.length c6] 62)).heap.size := (by simp; omega); have c06 := (hb6.cell (p := ⟨w.heap.size, 0, none⟩) hwl).trans hb0; have hq6 : w.heap.size < w6.heap.size := Nat.lt_of_lt_of_le hwl hs6; clear hv6 hb6))
      all_goals
        go_wp2
        go_roundw
        case rel =>
          obtain ⟨p1, p2, p3, p4⟩ := unhide Hp
          refine ⟨k + 1, .slice (some ⟨g7, 0, none⟩) (k + 1) cap7, fb ++ [.slice a6 l.length c6], by omega, by go_num, hb.trans (p3.below hbw.size (fun j hj => ((unhide HO).lt hj).1)), ?_⟩
          rw [unhide HT]
          exact p2
        case measure => simp [intOf]; omega
    · obtain rfl : k = objs.length := by omega
      rw [List.take_length] at HO
      go_wp2
      go_ret
      exact ⟨⟨vo, fb, rfl, unhide HO⟩, hbw⟩

end Go.Proofs.Ytlolcdgbidboeaa

/- What is done, what is told, in memory; what Play tells. -/
namespace Go.Proofs.Ytlolcdgbidboeaa
set_option linter.unusedSimpArgs false
set_option linter.unusedVariables false
open Go.RowKit Go.Shelf

/-- A script, below block B. -/
def Dos (B : Nat) (w : World) (a : Option Addr) (l : List Dd) : Prop :=
  l.length ≤ 9223372036854775807 ∧ (l ≠ [] → ∃ b off, a = some ⟨b, off, none⟩ ∧ b < B ∧ ∀ k v, l[k]? = some v → w.cell? ⟨b, off + k * 5, none⟩ = some (.int .i64 v.kind) ∧ w.cell? ⟨b, off + k * 5 + 1, none⟩ = some (.int .i64 v.dst) ∧ w.cell? ⟨b, off + k * 5 + 2, none⟩ = some (.int .i64 v.src) ∧ w.cell? ⟨b, off + k * 5 + 3, none⟩ = some (.int .i64 v.fat) ∧ w.cell? ⟨b, off + k * 5 + 4, none⟩ = some (.int .i64 v.num))
theorem Dos.below {B : Nat} {w w' : World} {a : Option Addr} {l : List Dd} (h : Dos B w a l) (hb : Below B w w') : Dos B w' a l := by
  refine ⟨h.1, fun hne => ?_⟩
  obtain ⟨b, off, rfl, hB, hc⟩ := h.2 hne
  refine ⟨b, off, rfl, hB, fun k v hk => ?_⟩
  rw [hb.cell (p := ⟨b, off + k * 5, none⟩) hB, hb.cell (p := ⟨b, off + k * 5 + 1, none⟩) hB, hb.cell (p := ⟨b, off + k * 5 + 2, none⟩) hB, hb.cell (p := ⟨b, off + k * 5 + 3, none⟩) hB, hb.cell (p := ⟨b, off + k * 5 + 4, none⟩) hB]
  exact hc k v hk
theorem Dos.mono {B B' : Nat} {w : World} {a : Option Addr} {l : List Dd} (h : Dos B w a l) (hb : B ≤ B') : Dos B' w a l := by
  refine ⟨h.1, fun hne => ?_⟩
  obtain ⟨b, off, rfl, hB, hc⟩ := h.2 hne
  exact ⟨b, off, rfl, by omega, hc⟩
theorem Dos.at {B : Nat} {w : World} {a : Option Addr} {l : List Dd} (h : Dos B w a l) {k : Nat} {v : Dd} (hk : l[k]? = some v) :
    ∃ b off, a = some ⟨b, off, none⟩ ∧ b < B ∧ w.cell? ⟨b, off + k * 5, none⟩ = some (.int .i64 v.kind) ∧ w.cell? ⟨b, off + k * 5 + 1, none⟩ = some (.int .i64 v.dst) ∧ w.cell? ⟨b, off + k * 5 + 2, none⟩ = some (.int .i64 v.src) ∧ w.cell? ⟨b, off + k * 5 + 3, none⟩ = some (.int .i64 v.fat) ∧ w.cell? ⟨b, off + k * 5 + 4, none⟩ = some (.int .i64 v.num) := by
  obtain ⟨b, off, rfl, hB, hc⟩ := h.2 (by intro e; subst e; simp at hk)
  exact ⟨b, off, rfl, hB, hc k v hk⟩
theorem dos_nil (B : Nat) (w : World) (a : Option Addr) : Dos B w a [] := ⟨by simp, fun h => absurd rfl h⟩

def cellsO : List Ou → List Value
  | [] => []
  | o :: l => .int .i64 o.code :: .bool o.ref :: .int .i64 o.num :: cellsO l
theorem cellsO_snoc : ∀ (l : List Ou) (o : Ou), cellsO (l ++ [o]) = cellsO l ++ [.int .i64 o.code, .bool o.ref, .int .i64 o.num]
  | [], o => rfl
  | x :: l, o => by simp [cellsO, cellsO_snoc l o]
theorem cellsO_len : ∀ (l : List Ou), (cellsO l).length = l.length * 3
  | [] => rfl
  | x :: l => by simp [cellsO, cellsO_len l]; omega
theorem cellsO_get : ∀ (l : List Ou) (k : Nat) (v : Ou), l[k]? = some v → (cellsO l)[k * 3]? = some (.int .i64 v.code) ∧ (cellsO l)[k * 3 + 1]? = some (.bool v.ref) ∧ (cellsO l)[k * 3 + 2]? = some (.int .i64 v.num)
  | [], k, v, h => by simp at h
  | x :: l, 0, v, h => by simp at h; subst h; exact ⟨rfl, rfl, rfl⟩
  | x :: l, k + 1, v, h => by
    rw [List.getElem?_cons_succ] at h
    have e : (k + 1) * 3 = k * 3 + 1 + 1 + 1 := by omega
    rw [e]
    exact cellsO_get l k v h

/-- What is told, below block B. -/
def Ous (B : Nat) (w : World) (a : Option Addr) (l : List Ou) : Prop :=
  l.length ≤ 9223372036854775807 ∧ (l ≠ [] → ∃ b off, a = some ⟨b, off, none⟩ ∧ b < B ∧ ∀ k v, l[k]? = some v → w.cell? ⟨b, off + k * 3, none⟩ = some (.int .i64 v.code) ∧ w.cell? ⟨b, off + k * 3 + 1, none⟩ = some (.bool v.ref) ∧ w.cell? ⟨b, off + k * 3 + 2, none⟩ = some (.int .i64 v.num))
theorem Ous.below {B : Nat} {w w' : World} {a : Option Addr} {l : List Ou} (h : Ous B w a l) (hb : Below B w w') : Ous B w' a l := by
  refine ⟨h.1, fun hne => ?_⟩
  obtain ⟨b, off, rfl, hB, hc⟩ := h.2 hne
  refine ⟨b, off, rfl, hB, fun k v hk => ?_⟩
  rw [hb.cell (p := ⟨b, off + k * 3, none⟩) hB, hb.cell (p := ⟨b, off + k * 3 + 1, none⟩) hB, hb.cell (p := ⟨b, off + k * 3 + 2, none⟩) hB]
  exact hc k v hk
theorem Ous.mono {B B' : Nat} {w : World} {a : Option Addr} {l : List Ou} (h : Ous B w a l) (hb : B ≤ B') : Ous B' w a l := by
  refine ⟨h.1, fun hne => ?_⟩
  obtain ⟨b, off, rfl, hB, hc⟩ := h.2 hne
  exact ⟨b, off, rfl, by omega, hc⟩
theorem Ous.at {B : Nat} {w : World} {a : Option Addr} {l : List Ou} (h : Ous B w a l) {k : Nat} {v : Ou} (hk : l[k]? = some v) :
    ∃ b off, a = some ⟨b, off, none⟩ ∧ b < B ∧ w.cell? ⟨b, off + k * 3, none⟩ = some (.int .i64 v.code) ∧ w.cell? ⟨b, off + k * 3 + 1, none⟩ = some (.bool v.ref) ∧ w.cell? ⟨b, off + k * 3 + 2, none⟩ = some (.int .i64 v.num) := by
  obtain ⟨b, off, rfl, hB, hc⟩ := h.2 (by intro e; subst e; simp at hk)
  exact ⟨b, off, rfl, hB, hc k v hk⟩
theorem ous_nil (B : Nat) (w : World) (a : Option Addr) : Ous B w a [] := ⟨by simp, fun h => absurd rfl h⟩
theorem Ous.setCell {B : Nat} {W : World} {a : Option Addr} {l : List Ou} (h : Ous B W a l) (p : Addr) (u : Value) (hp : ∀ b off, a = some ⟨b, off, none⟩ → b ≠ p.block) : Ous B (W.setCell p u) a l := by
  refine ⟨h.1, fun hne => ?_⟩
  obtain ⟨b, off, rfl, hB, hc⟩ := h.2 hne
  have hblk := Below.heap_setCell W p u b (hp b off rfl)
  refine ⟨b, off, rfl, hB, fun j v hj => ?_⟩
  rw [World.cell?_of_block (a := ⟨b, off + j * 3, none⟩) hblk, World.cell?_of_block (a := ⟨b, off + j * 3 + 1, none⟩) hblk, World.cell?_of_block (a := ⟨b, off + j * 3 + 2, none⟩) hblk]
  exact hc j v hj

/-- What is told, in new memory. -/
def OusF (base : Nat) (W : World) (a : Option Addr) (l : List Ou) : Prop := Ous W.heap.size W a l ∧ ∀ b off, a = some ⟨b, off, none⟩ → base ≤ b
theorem OusF.below {base : Nat} {W W' : World} {a : Option Addr} {l : List Ou} (h : OusF base W a l) (hb : Below W.heap.size W W') : OusF base W' a l := ⟨(h.1.below hb).mono hb.size, h.2⟩
theorem OusF.setCell {base : Nat} {W : World} {a : Option Addr} {l : List Ou} (h : OusF base W a l) {p : Addr} (hp : p.block < base) (u : Value) : OusF base (W.setCell p u) a l := by
  have hs : (W.setCell p u).heap.size = W.heap.size := by simp [World.setCell]
  refine ⟨?_, h.2⟩
  rw [hs]
  exact h.1.setCell p u (fun b' off' e => by have := h.2 b' off' e; omega)
theorem OusF.base {base base' : Nat} {W : World} {a : Option Addr} {l : List Ou} (h : OusF base W a l) (hb : base' ≤ base) : OusF base' W a l := ⟨h.1, fun b off e => by have := h.2 b off e; omega⟩
theorem ValsF.base {base base' : Nat} {W : World} {a : Option Addr} {l : List V} (h : ValsF base W a l) (hb : base' ≤ base) : ValsF base' W a l := ⟨h.1, fun b off e => by have := h.2 b off e; omega⟩

theorem ous_of_row {w : World} {base : Nat} {v : Value} {l : List Ou} (h : w.ownsRow base 55 3 v l.length (cellsO l)) (hs : l.length ≤ 9223372036854775807) :
    ∃ a cap, v = .slice a l.length cap ∧ OusF base w a l ∧ l.length ≤ cap := by
  obtain ⟨_, h2⟩ := h
  rcases h2 with ⟨rfl, h0⟩ | ⟨g, cap, cur, rfl, hb, hg, hc1, hc2, hc3, htake⟩
  · have : l = [] := List.eq_nil_of_length_eq_zero h0
    subst this
    exact ⟨none, 0, rfl, ⟨ous_nil _ _ _, fun b off e => by cases e⟩, Nat.le_refl _⟩
  · refine ⟨_, cap, rfl, ⟨⟨hs, fun _ => ⟨g, 0, rfl, (Array.getElem?_eq_some_iff.1 hg).1, fun k v hk => ?_⟩⟩, fun b off e => by injection e with e; injection e with e; omega⟩, hc1⟩
    obtain ⟨h1, h2, h3⟩ := cellsO_get l k v hk
    have hkl := (List.getElem?_eq_some_iff.1 hk).1
    rw [← htake, List.getElem?_take, if_pos (by omega)] at h1 h2 h3
    simp only [Nat.zero_add]
    rw [cell_of_row w g _ cur 55 (0, 0) hg, cell_of_row w g _ cur 55 (0, 0) hg, cell_of_row w g _ cur 55 (0, 0) hg]
    exact ⟨by simpa using h1, by simpa using h2, by simpa using h3⟩

theorem objsF_nil (B : Nat) (w : World) : ObjsF B w none [] := ⟨by simp, fun h => absurd rfl h⟩
theorem valsF_nil (B : Nat) (w : World) : ValsF B w none [] := ⟨⟨by simp, fun h => absurd rfl h⟩, fun b off e => by cases e⟩

/-- Which error Play tells. -/
def playE (g : Gr) (n : Nat) : Int := if checkG g ≠ 0 then checkG g else if 100 < n then 1 else 0

/-- What Play tells, plainly. -/
def PyIs (g : Gr) (ds : List Dd) (C : List Ou) (H : Gr) : Prop :=
  (playE g ds.length ≠ 0 → C = [] ∧ H = ⟨[], []⟩) ∧ (playE g ds.length = 0 → C = (playM (newM g) ds).1 ∧ H = canonG (grM (playM (newM g) ds).2))

/-- What Play tells, in memory. -/
def PyRes (g : Gr) (ds : List Dd) (B0 : Nat) (e : Ending) (W : World) : Prop :=
  ∃ (C : List Ou) (H : Gr) (ac : Option Addr) (cc : Nat) (ao : Option Addr) (co : Nat) (ar : Option Addr) (cr : Nat), e = .returned (.tuple #[.slice ac C.length cc, .agg #[.slice ao H.objs.length co, .slice ar H.roots.length cr], .int .i64 (playE g ds.length)]) ∧ OusF B0 W ac C ∧ ObjsF B0 W ao H.objs ∧ ValsF B0 W ar H.roots ∧ Hid (PyIs g ds C H) ∧ C.length ≤ cc

theorem pyRes_bad {g : Gr} {ds : List Dd} {B0 : Nat} {W : World} {E : Int} (h : playE g ds.length = E) (hE : E ≠ 0) : PyRes g ds B0 (.returned (.tuple #[.slice none 0 0, .agg #[.slice none 0 0, .slice none 0 0], .int .i64 E])) W :=
  ⟨[], ⟨[], []⟩, none, 0, none, 0, none, 0, by rw [h]; rfl, ⟨ous_nil _ _ _, fun b off e => by cases e⟩, objsF_nil _ _, valsF_nil _ _, ⟨fun _ => ⟨rfl, rfl⟩, fun h0 => absurd (h.symm.trans h0) hE⟩, Nat.le_refl _⟩

/-- The copy of roots into registers. -/
theorem run_copy47 (w : World) (ty : TypeId) (t : TypeId) (sp : Option Addr) (dLen dCap sLen sCap : Nat) (g off : Nat) (cur : List Value) (hg : w.heap[g]? = some (.cells cur.toArray t (0, 0))) (cs : List Value) (hn : cs.length = Nat.min sLen dLen * 2)
    (hpos : 0 < cs.length → ∃ ad, sp = some ad ∧ ∀ j v, cs[j]? = some v → w.cell? (ad.add j) = some v) (hfit : off + cs.length ≤ cur.length) (h1 : ∀ v ∈ cs, v.oneCell' = true) :
    (Builtin.copy_ #[23, 23] ty #[.slice (some ⟨g, off, none⟩) dLen dCap, .slice sp sLen sCap]).run Try.prog w = .ok (goInt (Nat.min sLen dLen)) (w.setRow g (splice cur off cs).toArray) := by
  obtain ⟨i0, hi0, hz0, hz1, hz2⟩ := info_parts Try.info47'
  by_cases h0 : cs.length = 0
  · obtain rfl : cs = [] := List.eq_nil_of_length_eq_zero h0
    have hm : Nat.min sLen dLen = 0 := by simp at hn; omega
    have hl : ∀ (x : Addr), (loadCells x 0).run Try.prog w = .ok #[] w := fun x => by simpa using run_loadCells_list (P := Try.prog) w x [] (by simp)
    have hsp : splice cur off [] = cur := by simp [splice]
    rw [hsp, setRow_self w g _ t (0, 0) hg]
    cases sp <;> simp [Builtin.copy_, run_underlying Try.underlying23, Builtin.lenOf, Builtin.firstCells, sizeOf, typeInfo, hi0, hz1, hm, storeCells, hl]
  · obtain ⟨ad, rfl, hsrc⟩ := hpos (by omega)
    have hl := run_loadCells_list (P := Try.prog) w ad cs hsrc
    have hst := run_storeCells_at Try.prog g off t cs 0 cur.toArray w hg (by simpa using hfit) h1
    simp [Builtin.copy_, run_underlying Try.underlying23, Builtin.lenOf, Builtin.firstCells, sizeOf, typeInfo, hi0, hz1, ← hn, hl, hst, splice]

theorem grown_setRow (w : World) (g : Nat) (X : Array Value) : w.grownBy (w.setRow g X) (some g) :=
  ⟨rfl, rfl, rfl, by simp [World.setRow], fun k _ hne => setRow_other w g k X (fun e => hne (by rw [e]))⟩

theorem splice_regs (x : Value) (l : List V) (hl : l.length ≤ 8) : splice (x :: cellsV (List.replicate 8 (false, 0))) 1 (cellsV l) = x :: cellsV (l ++ List.replicate (8 - l.length) (false, 0)) := by
  have happ : ∀ (a b : List V), cellsV (a ++ b) = cellsV a ++ cellsV b := fun a b => by simp [cellsV]
  have hdrop : ∀ n, n ≤ 8 → (x :: cellsV (List.replicate 8 ((false, 0) : V))).drop (1 + n * 2) = cellsV (List.replicate (8 - n) (false, 0)) := by
    intro n hn
    rcases n with _ | _ | _ | _ | _ | _ | _ | _ | _ | n
    all_goals first | omega | rfl
  unfold splice
  rw [happ, cellsV_len, hdrop l.length hl]
  rfl

/-- A machine, behind the copy. -/
theorem pm_start {W : World} {N mb ob : Nat} {vo : Value} {fb : List Value} {g : Gr} (h : PM W N mb ob vo fb ⟨List.replicate 8 (false, 0), g.objs⟩) (h8 : g.roots.length ≤ 8) :
    PM (W.setRow mb (splice (.iface 42 (.pointer (some ⟨ob, 0, none⟩)) :: cellsV (List.replicate 8 (false, 0))) 1 (cellsV g.roots)).toArray) N mb ob vo fb (newM g) := by
  have hg := grown_setRow W mb (splice (.iface 42 (.pointer (some ⟨ob, 0, none⟩)) :: cellsV (List.replicate 8 (false, 0))) 1 (cellsV g.roots)).toArray
  have hk : Kp (fun k => k = mb) W _ := Kp.of_grown hg (fun k e => by injection e with e; exact e.symm)
  refine ⟨?_, h.mem.keep hk (fun k hk e => h.out (e ▸ hk)), by simp [newM]; omega, h.lo⟩
  rw [setRow_heap W mb _ _ 51 (0, 0) h.box, splice_regs _ _ h8]
  rfl

theorem OM.base {W : World} {N N' ob : Nat} {vo : Value} {fb : List Value} {objs : List (List V)} (h : OM W N ob vo fb objs) (hN : N' ≤ N) : OM W N' ob vo fb objs := by
  refine ⟨h.box, ⟨?_, h.own.len, fun i u l hu hl => (h.own.each i u l hu hl).base hN, h.own.apart, h.own.out⟩, by have := h.lo; omega⟩
  refine ⟨h.own.row.1, ?_⟩
  rcases h.own.row.2 with h | ⟨g, cap, cur, hv, hb, h3⟩
  · exact .inl h
  · exact .inr ⟨g, cap, cur, hv, by omega, h3⟩

/-- Objects, read. -/
theorem OM.objs {W : World} {N ob : Nat} {vo : Value} {fb : List Value} {objs : List (List V)} (h : OM W N ob vo fb objs) (hs : objs.length ≤ 9223372036854775807) (h4 : ∀ l ∈ objs, l.length ≤ 4) : ∃ a c, vo = .slice a objs.length c ∧ Objs W.heap.size W a objs := by
  have hr := h.own.row
  have hl := h.own.len
  rw [hl] at hr
  obtain ⟨a, c, rfl⟩ := ownsRow_slice hr
  refine ⟨a, c, rfl, hs, fun hne => ?_⟩
  have hpos : 0 < objs.length := List.length_pos_iff.2 hne
  obtain ⟨g, c', u, a0, cu, hv, hg, _⟩ := h.objAt (i := 0) (List.getElem?_eq_getElem hpos)
  injection hv with e1 _ e2
  subst e1 e2
  refine ⟨g, 0, rfl, hg, fun k l hk => ?_⟩
  obtain ⟨g', c', u, a0, cu, hv, hg', hu, rfl, hc, hV⟩ := h.objAt hk
  injection hv with e1 _ e2
  injection e1 with e1
  injection e1 with e1
  subst e1
  refine ⟨a0, cu, by rw [Nat.zero_add]; exact hc, ?_⟩
  refine ⟨by have := h4 l (List.mem_of_getElem? hk); omega, fun hne => ?_⟩
  obtain ⟨b, cb, hv2, hb1, hb2⟩ := hV.form (List.length_pos_iff.2 hne)
  injection hv2 with e1 _ e2
  subst e1 e2
  refine ⟨b, 0, rfl, hb2, fun j x hx => ?_⟩
  obtain ⟨c0, c1, _⟩ := hV.cell hx
  rw [Nat.zero_add]
  exact ⟨c0, c1⟩

theorem PM.vals {W : World} {N mb ob : Nat} {vo : Value} {fb : List Value} {m : Mm} (h : PM W N mb ob vo fb m) : Vals W.heap.size W (some ⟨mb, 1, none⟩) m.regs := by
  refine ⟨by have := h.n8; omega, fun _ => ⟨mb, 1, rfl, lt_of_heap h.box, fun k v hk => h.reg hk⟩⟩

end Go.Proofs.Ytlolcdgbidboeaa

/- Walks: the document's Outs: two lists of what was told that are one. -/
namespace Go.Proofs.Ytlolcdgbidboeaa
set_option linter.unusedSimpArgs false
set_option linter.unusedVariables false
open Go.RowKit Go.Shelf

theorem eql_oin (c1 c2 n1 n2 : Int) (r1 r2 : Bool) (w : World) : (Op.equalIn 10000 55 (.agg #[.int .i64 c1, .bool r1, .int .i64 n1]) (.agg #[.int .i64 c2, .bool r2, .int .i64 n2])).run Try.prog w = .ok (c1 == c2 && r1 == r2 && n1 == n2) w := by
  have u28 := Try.underlying28
  have a28 := Try.isAgg28
  have z28 := Try.sizeOf28
  have u2 := Try.underlying2
  have a2 := Try.isAgg2
  have z2 := Try.sizeOf2
  have u4 := Try.underlying4
  have a4 := Try.isAgg4
  have z4 := Try.sizeOf4
  have hS : Try.prog.underlying 55 = some (.struct (Try.prog.fieldsOf 55)) := by kernel_rfl
  have hp : Try.prog.stoodInHeld 55 = false := by kernel_rfl
  rw [show (10000 : Nat) = 9999 + 1 from rfl, run_equalIn_agg w 9999 55 _ _ hS hp]
  simp only [Program.fieldsOf, Try.underlying55]
  go_simp
  cases r1 <;> cases r2 <;> by_cases h1 : c1 = c2 <;> by_cases h2 : n1 = n2 <;> simp [h1, h2]

theorem neq_o (c1 c2 n1 n2 : Int) (r1 r2 : Bool) (w : World) : (binOp .neq 55 (.agg #[.int .i64 c1, .bool r1, .int .i64 n1]) (.agg #[.int .i64 c2, .bool r2, .int .i64 n2])).run Try.prog w = .ok (.bool (!(c1 == c2 && r1 == r2 && n1 == n2))) w := by
  rw [run_neq_struct, eql_oin]; rfl

theorem below_drewN {B : Nat} {w wr : World} (hb : Below B w wr) (n : Nat) : Below B w (wr.drewN n) := by
  induction n with
  | zero => exact hb
  | succ n ih => exact ih.drew

set_option maxRecDepth 100000 in
set_option maxHeartbeats 2000000 in
theorem outs_c (a a' : Option Addr) (c c' : Nat) (l : List Ou) (B : Nat) (w : World) (h : Ous B w a l) (h' : Ous B w a' l) (hB : B ≤ w.heap.size) :
    Calls Try.prog 10 #[.slice a l.length c, .slice a' l.length c'] w fun e w' => e = .returned (.bool true) ∧ Below w.heap.size w w' := by
  have hneq := neq_o
  have hl := h.1
  have d0 : ((l.length : Int) != (l.length : Int)) = false := by simp
  go_enter Try.func10, Try.ntmps10
  go_wp2
  go_loopw [5] (fun i wr => ∃ k : Nat, k ≤ l.length ∧ i = .int .i64 k ∧ Below w.heap.size w wr) (fun i _ => l.length - (intOf i).toNat)
  case atStart => exact ⟨0, Nat.zero_le _, rfl, Below.refl _ _⟩
  case round =>
    obtain ⟨k, hk, rfl, hb⟩ := hrel
    have hsz := hb.size
    by_cases hlt : k < l.length
    · obtain ⟨b, off, rfl, hbB, x0, x1, x2⟩ := (h.below (hb.mono hB)).at (List.getElem?_eq_getElem hlt)
      obtain ⟨b', off', rfl, hbB', y0, y1, y2⟩ := (h'.below (hb.mono hB)).at (List.getElem?_eq_getElem hlt)
      generalize l[k] = o at *
      obtain ⟨oc, orf, on⟩ := o
      simp only at x0 x1 x2 y0 y1 y2
      have hkI : (k : Int) < (l.length : Int) := by omega
      have hq : b < wr.heap.size := by omega
      have hq' : b' < wr.heap.size := by omega
      have d1 : (!((oc : Int) == oc && orf == orf && (on : Int) == on)) = false := by simp
      go_wp2
      go_quiet (fail)
      have hbn := below_drewN hb nq
      clear x0 x1 x2 y0 y1 y2 hq hq'
      generalize wr.drewN nq = wq at *
      go_wp2
      go_roundw
      case rel => exact ⟨k + 1, by omega, by go_num, hbn⟩
      case measure => simp [intOf]; omega
    · obtain rfl : k = l.length := by omega
      go_wp2
      go_ret
      exact ⟨rfl, hb⟩

end Go.Proofs.Ytlolcdgbidboeaa

/- Walks: Play. -/
namespace Go.Proofs.Ytlolcdgbidboeaa
set_option linter.unusedSimpArgs false
set_option linter.unusedVariables false
open Go.RowKit Go.Shelf

set_option maxRecDepth 100000 in
set_option maxHeartbeats 2000000 in
theorem play_bad (ao ar : Option Addr) (co cr : Nat) (g : Gr) (a : Option Addr) (c : Nat) (ds : List Dd) (B : Nat) (w : World) (ho : Objs B w ao g.objs) (hr : Vals B w ar g.roots) (hB : B ≤ w.heap.size) (hl : ds.length ≤ 9223372036854775807) (hE : playE g ds.length ≠ 0) :
    Calls Try.prog 6 #[.agg #[.slice ao g.objs.length co, .slice ar g.roots.length cr], .slice a ds.length c] w fun e w' => PyRes g ds w.heap.size e w' ∧ Below w.heap.size w w' := by
  have hb1 := ((Below.refl w.heap.size w).alloc (Nat.le_refl _) (.cells #[.slice ao g.objs.length co, .slice ar g.roots.length cr] 25)).alloc (by simp) (.cells #[.slice none 0 0, .slice none 0 0] 25)
  have Hbad : Hid (∀ W, PyRes g ds w.heap.size (.returned (.tuple #[.slice none 0 0, .agg #[.slice none 0 0, .slice none 0 0], .int .i64 (playE g ds.length)])) W) := fun W => pyRes_bad rfl hE
  by_cases hc : checkG g = 0
  · have e : playE g ds.length = 1 := by
      unfold playE at hE ⊢
      rw [if_neg (by simp [hc])] at hE ⊢
      split at hE
      · rename_i h; rw [if_pos h]
      · exact absurd rfl hE
    have hlen : 100 < ds.length := by
      unfold playE at e
      rw [if_neg (by simp [hc])] at e
      split at e
      · assumption
      · cases e
    rw [e] at Hbad
    have dl : decide (100 < (ds.length : Int)) = true := by simp; omega
    have Hcc := hide hc
    clear hc hE e
    go_enter Try.func6, Try.ntmps6
    go_wp2_with (go_at_call 14; go_must (refine (check_c _ _ _ _ g B _ (ho.below (hb1.mono hB)) (hr.below (hb1.mono hB)) (by simp; omega)).mono ?_); go_must (rintro e w2 ⟨he, hb2⟩; rw [unhide Hcc] at he; subst he; simp only [World.size_alloc] at hb2; have q0 := hb2.cell (p := ⟨w.heap.size + 1, 0, none⟩) (by simp); have q1 := hb2.cell (p := ⟨w.heap.size + 1, 1, none⟩) (by simp); have f0 := hb2.frozen (p := ⟨w.heap.size + 1, 0, none⟩) (by simp); have f1 := hb2.frozen (p := ⟨w.heap.size + 1, 1, none⟩) (by simp); simp [go_sem] at q0 q1 f0 f1))
    refine bodyPost_ret (v := .tuple #[.slice none 0 0, .agg #[.slice none 0 0, .slice none 0 0], .int .i64 1]) (by simp [results, Try.results6, go_sem, q0, q1]) rfl ⟨(unhide Hbad) _, ?_⟩
    exact ((hb1.trans (hb2.mono (by omega))).setCell (p := ⟨w.heap.size + 1, 0, none⟩) (by simp) _).setCell (p := ⟨w.heap.size + 1, 1, none⟩) (by simp) _
  · have e : playE g ds.length = checkG g := by unfold playE; rw [if_pos hc]
    rw [e] at Hbad
    have hd : (checkG g != 0) = true := by simpa using hc
    obtain ⟨E, HE⟩ : ∃ E, Hid (checkG g = E) := ⟨_, rfl⟩
    rw [unhide HE] at Hbad hd
    clear hc hE e
    go_enter Try.func6, Try.ntmps6
    go_wp2_with (go_at_call 14; go_must (refine (check_c _ _ _ _ g B _ (ho.below (hb1.mono hB)) (hr.below (hb1.mono hB)) (by simp; omega)).mono ?_); go_must (rintro e w2 ⟨he, hb2⟩; rw [unhide HE] at he; subst he; simp only [World.size_alloc] at hb2; have q0 := hb2.cell (p := ⟨w.heap.size + 1, 0, none⟩) (by simp); have q1 := hb2.cell (p := ⟨w.heap.size + 1, 1, none⟩) (by simp); have f0 := hb2.frozen (p := ⟨w.heap.size + 1, 0, none⟩) (by simp); have f1 := hb2.frozen (p := ⟨w.heap.size + 1, 1, none⟩) (by simp); simp [go_sem] at q0 q1 f0 f1))
    refine bodyPost_ret (v := .tuple #[.slice none 0 0, .agg #[.slice none 0 0, .slice none 0 0], .int .i64 E]) (by simp [results, Try.results6, go_sem, q0, q1]) rfl ⟨(unhide Hbad) _, ?_⟩
    exact ((hb1.trans (hb2.mono (by omega))).setCell (p := ⟨w.heap.size + 1, 0, none⟩) (by simp) _).setCell (p := ⟨w.heap.size + 1, 1, none⟩) (by simp) _

end Go.Proofs.Ytlolcdgbidboeaa
