/- Walks: Lay. -/
import Derived.Test.YtahdalejmfbkeaaDa
import Derived.Test.YtahdalejmfbkeaaHa
import Derived.Test.YtahdalejmfbkeaaWh
namespace Go.Proofs.Ytahdalejmfbkeaa
set_option linter.unusedSimpArgs false
set_option linter.unusedVariables false
open Go.RowKit Go.Shelf

theorem joinW_snoc : ∀ (hs : List Int) (fs : List (List Int)) (h : Int) (f : List Int), hs.length = fs.length → joinW (hs ++ [h]) (fs ++ [f]) = joinW hs fs ++ ([h] ++ f)
  | [], [], h, f, _ => by simp [joinW]
  | [], g :: fs, h, f, e => by simp at e
  | x :: hs, [], h, f, e => by simp at e
  | x :: hs, g :: fs, h, f, e => by
    have := joinW_snoc hs fs h f (by simpa using e)
    simp only [List.cons_append, joinW, this, List.append_assoc]

/-- The words of the first k objects. -/
def layK (st : List Int) (L : List (List V)) (k : Nat) : List Int := joinW (layHeads (L.take k)) (layFields st (L.take k))

theorem layK_succ (st : List Int) {L : List (List V)} {k : Nat} (h : k < L.length) : layK st L (k + 1) = layK st L k ++ ([headW (L[k].length : Nat) false 0] ++ L[k].map (packV st)) := by
  unfold layK layHeads layFields
  rw [List.take_succ_eq_append_getElem h, List.map_append, List.map_append]
  exact joinW_snoc _ _ _ _ (by simp)

theorem layK_len (st : List Int) (L : List (List V)) (k : Nat) : (layK st L k).length = tot (L.take k) := by
  unfold layK
  rw [joinW_len _ _ (by simp [layHeads, layFields])]
  unfold tot layFields
  rw [List.map_map]
  congr 1
  apply List.map_congr_left
  intro l _
  simp

theorem layK_all (g : Gr) : layK (stF 0 g.objs) g.objs g.objs.length = layWords g := by unfold layK layWords; rw [List.take_length]

/-- Words in new memory. -/
def WdsF (base : Nat) (W : World) (a : Option Addr) (l : List Int) : Prop := Wds W.heap.size W a l ∧ ∀ b off, a = some ⟨b, off, none⟩ → base ≤ b

theorem WdsF.below {base : Nat} {W W' : World} {a : Option Addr} {l : List Int} (h : WdsF base W a l) (hb : Below W.heap.size W W') : WdsF base W' a l := ⟨(h.1.below hb).mono hb.size, h.2⟩
theorem WdsF.setCell {base : Nat} {W : World} {a : Option Addr} {l : List Int} (h : WdsF base W a l) {p : Addr} (hp : p.block < base) (u : Value) : WdsF base (W.setCell p u) a l := by
  have hs : (W.setCell p u).heap.size = W.heap.size := by simp [World.setCell]
  refine ⟨⟨h.1.1, fun hne => ?_⟩, h.2⟩
  obtain ⟨b, off, rfl, hB, hc⟩ := h.1.2 hne
  have h3 := h.2 b off rfl
  refine ⟨b, off, rfl, by rw [hs]; exact hB, fun k v hk => ?_⟩
  exact (World.cell?_of_block (a := ⟨b, off + k, none⟩) (Below.heap_setCell W p u b (by omega))).trans (hc k v hk)
theorem WdsF.base {base base' : Nat} {W : World} {a : Option Addr} {l : List Int} (h : WdsF base W a l) (hb : base' ≤ base) : WdsF base' W a l := ⟨h.1, fun b off e => by have := h.2 b off e; omega⟩

theorem wordsF_of_owns {w : World} {base : Nat} {e : TypeId} {v : Value} {n : Nat} {l : List Int} (h : w.ownsRow base e 1 v n (wordsV l)) (hn : n = l.length) (hs : n ≤ 9223372036854775807) :
    ∃ a cap, v = .slice a l.length cap ∧ WdsF base w a l ∧ l.length ≤ cap := by
  obtain ⟨a, cap, h1, h2, h3⟩ := words_of_owns h hn hs
  refine ⟨a, cap, h1, ⟨h2, unhide h3⟩, ?_⟩
  rcases h.2 with ⟨rfl, h0⟩ | ⟨g, cap', cur, rfl, hb, hg, hc1, hc2, hc3, htake⟩
  · injection h1 with _ e2 e3; omega
  · injection h1 with _ e2 e3; omega

structure NumOk (l : List V) : Prop where
  num : ∀ v ∈ l, v.1 = false → -4611686018427387904 ≤ v.2 ∧ v.2 ≤ 4611686018427387903

theorem NumOk.wide {l : List V} (h : NumOk l) : ∀ v ∈ l, v.1 = false → -9223372036854775808 ≤ v.2 ∧ v.2 ≤ 9223372036854775807 := fun v hv hr => by have := h.num v hv hr; omega

theorem nums_of_check {g : Gr} (h : checkG g = 0) : NumOk g.roots ∧ ∀ l ∈ g.objs, NumOk l := by
  have h3 : (allV g).any (fun v => badV v g.objs.length == 3) = false := by
    unfold checkG at h
    split at h
    · omega
    · split at h
      · omega
      · split at h
        · omega
        · rename_i h3; simpa using h3
  rw [List.any_eq_false] at h3
  have key : ∀ v ∈ allV g, v.1 = false → -4611686018427387904 ≤ v.2 ∧ v.2 ≤ 4611686018427387903 := by
    intro v hv hr
    have := h3 v hv
    unfold badV at this
    rw [hr] at this
    simp at this
    omega
  refine ⟨⟨fun v hv => key v (by simp [allV, hv])⟩, fun l hl => ⟨fun v hv => key v ?_⟩⟩
  unfold allV
  exact List.mem_append.2 (.inr (List.mem_flatten.2 ⟨l, hl, hv⟩))

def LayRes (base : Nat) (g : Gr) (e : Ending) (W : World) : Prop :=
  (checkG g ≠ 0 ∧ e = .returned (.tuple #[.agg #[.slice none 0 0, .slice none 0 0], .int .i64 (checkG g)])) ∨
  (checkG g = 0 ∧ ∃ aw cw ar cr, e = .returned (.tuple #[.agg #[.slice aw (layWords g).length cw, .slice ar (layRoots g).length cr], .int .i64 0]) ∧ WdsF base W aw (layWords g) ∧ WdsF base W ar (layRoots g) ∧ (layWords g).length ≤ cw)

set_option maxRecDepth 100000 in
set_option maxHeartbeats 8000000 in
theorem alay_c (ao ar : Option Addr) (co cr : Nat) (g : Gr) (B : Nat) (w : World) (ho : Objs B w ao g.objs) (hr : Vals B w ar g.roots) (hB : B ≤ w.heap.size) :
    Calls Try.prog 16 #[.agg #[.slice ao g.objs.length co, .slice ar g.roots.length cr]] w fun e w' => LayRes w.heap.size g e w' ∧ Below w.heap.size w w' := by
  obtain ⟨i0, hi, hz0, hz1, hz2⟩ := info_parts Try.info54
  obtain ⟨W4, hW4⟩ : ∃ W4, (w.alloc (.cells #[.slice ao g.objs.length co, .slice ar g.roots.length cr] 33)).alloc (.cells #[.slice none 0 0, .slice none 0 0] 24) = W4 := ⟨_, rfl⟩
  have hbA : Below w.heap.size w W4 := by rw [← hW4]; exact ((Below.refl w.heap.size w).alloc (Nat.le_refl _) _).alloc (by simp) _
  have hs4 : w.heap.size + 1 < W4.heap.size := by rw [← hW4]; simp
  have q0 : W4.cell? ⟨w.heap.size + 1, 0, none⟩ = some (.slice none 0 0) := by rw [← hW4]; simp [go_sem]
  have q1 : W4.cell? ⟨w.heap.size + 1, 1, none⟩ = some (.slice none 0 0) := by rw [← hW4]; simp [go_sem]
  have f0 : W4.frozen? ⟨w.heap.size + 1, 0, none⟩ = false := by rw [← hW4]; simp [go_sem]
  have f1 : W4.frozen? ⟨w.heap.size + 1, 1, none⟩ = false := by rw [← hW4]; simp [go_sem]
  have g0 : W4.cell? ⟨w.heap.size, 0, none⟩ = some (.slice ao g.objs.length co) := by rw [← hW4]; simp [go_sem]
  have g1 : W4.cell? ⟨w.heap.size, 1, none⟩ = some (.slice ar g.roots.length cr) := by rw [← hW4]; simp [go_sem]
  have Hcall := hide (check_c ao ar co cr g B W4 (ho.below (hbA.mono hB)) (hr.below (hbA.mono hB)) (by omega))
  go_enter Try.func16, Try.ntmps16
  go_wp2_with fail
  refine (unhide Hcall).mono ?_
  rintro e w5 ⟨he, hb5⟩
  subst he
  clear hW4 Hcall
  have hs5 := hb5.size
  replace q0 := (hb5.cell (p := ⟨w.heap.size + 1, 0, none⟩) (by simp; omega)).trans q0
  replace q1 := (hb5.cell (p := ⟨w.heap.size + 1, 1, none⟩) (by simp; omega)).trans q1
  replace f0 := (hb5.frozen (p := ⟨w.heap.size + 1, 0, none⟩) (by simp; omega)).trans f0
  replace f1 := (hb5.frozen (p := ⟨w.heap.size + 1, 1, none⟩) (by simp; omega)).trans f1
  replace g0 := (hb5.cell (p := ⟨w.heap.size, 0, none⟩) (by simp; omega)).trans g0
  replace g1 := (hb5.cell (p := ⟨w.heap.size, 1, none⟩) (by simp; omega)).trans g1
  have hbw5 : Below w.heap.size w w5 := hbA.trans (hb5.mono (by omega))
  clear hbA hb5
  by_cases hE : checkG g = 0
  · have hG := good_of_check hE
    obtain ⟨hnr, hno⟩ := nums_of_check hE
    have HE := hide hE
    rw [hE]
    have h24 := hG.n24
    have h8 := hG.n8
    have htL := tot_le5 _ hG.n4
    have Hc2 := hide (places_c ao ar co g.roots.length cr g.objs B w5 (ho.below (hbw5.mono hB)) (by omega) h24 hG.n4)
    clear hE
    go_wp2_with fail
    refine (unhide Hc2).mono ?_
    rintro e w6 ⟨⟨mb, n, M, he, hmb, hmp, hloc⟩, hb6⟩
    subst he
    clear Hc2
    have hs6 := hb6.size
    have hbw6 : Below w.heap.size w w6 := hbw5.trans (hb6.mono (by omega))
    have hmb6 : mb < w6.heap.size := by obtain ⟨_, _, h, _⟩ := hmp; exact (Array.getElem?_eq_some_iff.1 h).1
    replace q0 := (hb6.cell (p := ⟨w.heap.size + 1, 0, none⟩) (by simp; omega)).trans q0
    replace q1 := (hb6.cell (p := ⟨w.heap.size + 1, 1, none⟩) (by simp; omega)).trans q1
    replace f0 := (hb6.frozen (p := ⟨w.heap.size + 1, 0, none⟩) (by simp; omega)).trans f0
    replace f1 := (hb6.frozen (p := ⟨w.heap.size + 1, 1, none⟩) (by simp; omega)).trans f1
    replace g0 := (hb6.cell (p := ⟨w.heap.size, 0, none⟩) (by simp; omega)).trans g0
    replace g1 := (hb6.cell (p := ⟨w.heap.size, 1, none⟩) (by simp; omega)).trans g1
    have Hc3 := hide (apack_c ar cr g.roots g.objs mb n M B w6 (hr.below (hbw6.mono hB)) (by omega) (by omega) hmp hloc h24 hG.rr hnr.wide (by omega))
    go_wp2_with fail
    refine (unhide Hc3).mono ?_
    rintro e w7 ⟨⟨he, hrt⟩, hb7⟩
    subst he
    clear Hc3 hb6
    have hs7 := hb7.size
    have hbw7 : Below w.heap.size w w7 := hbw6.trans (hb7.mono (by omega))
    replace q0 := (hb7.cell (p := ⟨w.heap.size + 1, 0, none⟩) (by simp; omega)).trans q0
    replace q1 := (hb7.cell (p := ⟨w.heap.size + 1, 1, none⟩) (by simp; omega)).trans q1
    replace f0 := (hb7.frozen (p := ⟨w.heap.size + 1, 0, none⟩) (by simp; omega)).trans f0
    replace f1 := (hb7.frozen (p := ⟨w.heap.size + 1, 1, none⟩) (by simp; omega)).trans f1
    replace g0 := (hb7.cell (p := ⟨w.heap.size, 0, none⟩) (by simp; omega)).trans g0
    have hmp7 := map_below hmp hb7 hmb6
    have hrl : (layRoots g).length = g.roots.length := by simp [layRoots]
    have Hrt : Hid (w7.ownsRow w6.heap.size 54 1 (.slice (some ⟨w6.heap.size, 0, none⟩) (layRoots g).length (layRoots g).length) (layRoots g).length (wordsV (layRoots g))) := hrt
    have Hrl := hide hrl
    have HcP : Hid (∀ W (l : List V) a c, l ∈ g.objs → Below w7.heap.size w7 W → Vals B W a l → Calls Try.prog 34 #[.slice a l.length c, .map (some mb)] W fun e w' => PkRes (l.map (packV (stF 0 g.objs))) W.heap.size e w' ∧ Below W.heap.size W w') := fun W l a c hl hb hv =>
      apack_c a c l g.objs mb n M B W hv (by have := hb.size; omega) (by have := hG.n4 l hl; omega) (map_below hmp7 hb (by omega)) hloc h24 (hG.ro l hl) (hno l hl).wide (by omega)
    rw [List.length_map]
    clear hrt hrl hmp hmp7 g1 hb7
    have hlt7 : w.heap.size < w7.heap.size := by omega
    have hlt7' : w.heap.size + 1 < w7.heap.size := by omega
    go_wp2
    go_loopw [27] (fun i wr => ∃ (k : Nat) (x : Value), k ≤ g.objs.length ∧ i = .int .i64 k ∧ Below w7.heap.size w7 wr ∧ wr.cell? ⟨w7.heap.size, 0, none⟩ = some x ∧ wr.frozen? ⟨w7.heap.size, 0, none⟩ = false ∧ wr.cell? ⟨w7.heap.size, 1, none⟩ = some (.slice (some ⟨w6.heap.size, 0, none⟩) g.roots.length g.roots.length) ∧
        wr.ownsRow (w7.heap.size + 1) 54 1 x (layK (stF 0 g.objs) g.objs k).length (wordsV (layK (stF 0 g.objs) g.objs k))) (fun i _ => g.objs.length - (intOf i).toNat)
    case atStart => exact ⟨0, .slice none 0 0, Nat.zero_le _, rfl, (Below.refl _ _).alloc (Nat.le_refl _) _, by simp [go_sem], by simp [go_sem], by simp [go_sem], by simpa [layK, layHeads, layFields, joinW, wordsV] using World.ownsRow_nil _ _ _ _⟩
    case round =>
      obtain ⟨k, x, hk, rfl, hb, c0, cf0, c1, hrow⟩ := hrel
      have hsz := hb.size
      have hbwr : Below w.heap.size w wr := hbw7.trans (hb.mono (by have := hbw7.size; omega))
      have hq : w7.heap.size < wr.heap.size := World.block_lt_of_cell? wr _ c0
      by_cases hlt : k < g.objs.length
      · obtain ⟨b, off, ai, ci, rfl, hbB, hcb, hva⟩ := (ho.below (hbwr.mono hB)).at hlt
        have hmem := List.getElem_mem hlt
        have hf4 := hG.n4 _ hmem
        have HK := hide (layK_succ (stF 0 g.objs) hlt)
        have hLk := layK_len (stF 0 g.objs) g.objs k
        have hle := tot_take_le g.objs k
        have HcP2 := hide (fun W a c hb hv => unhide HcP W _ a c hmem hb hv)
        generalize g.objs[k] = o at *
        generalize layK (stF 0 g.objs) g.objs k = pre at *
        have hpl : pre.length ≤ 120 := by omega
        clear hLk hle hmem
        obtain ⟨ca, cc, rfl⟩ := ownsRow_slice hrow
        have HcH := hide (head_c (o.length : Int) 0 false (wr.alloc (.cells #[.slice ai o.length ci] 51)))
        have hoI : (k : Int) < (g.objs.length : Int) := by omega
        go_wp2_with fail
        refine (unhide HcH).mono ?_
        rintro e w8 ⟨he, hb8⟩
        subst he
        clear HcH
        simp only [World.size_alloc] at hb8
        have hs8 := hb8.size
        simp only [World.size_alloc] at hs8
        have hb8' : Below wr.heap.size wr w8 := ((Below.refl _ _).alloc (Nat.le_refl _) _).trans (hb8.mono (by omega))
        have bo : w8.cell? ⟨wr.heap.size, 0, none⟩ = some (.slice ai o.length ci) := by rw [hb8.cell (p := ⟨wr.heap.size, 0, none⟩) (by simp)]; simp [go_sem]
        have c08 := (hb8'.cell (p := ⟨w7.heap.size, 0, none⟩) hq).trans c0
        have cf08 := (hb8'.frozen (p := ⟨w7.heap.size, 0, none⟩) hq).trans cf0
        have c18 := (hb8'.cell (p := ⟨w7.heap.size, 1, none⟩) hq).trans c1
        have hrow8 := ownsRow_below hrow hb8'
        have hncb : Value.ownBlock (.slice ca pre.length cc) ≠ some w7.heap.size := fun e => by have := (hrow.lt _ e).1; omega
        have hncw : Value.ownBlock (.slice ca pre.length cc) ≠ some wr.heap.size := fun e => by have := (hrow.lt _ e).2; omega
        generalize headW (o.length : Int) false 0 = hw at *
        generalize headE (o.length : Int) 0 = he at *
        have hq8 : w7.heap.size < w8.heap.size := by omega
        have hqw8 : wr.heap.size < w8.heap.size := by omega
        clear hrow
        go_wp2_with (at_builtin; go_must (refine wpList_append_own_at _ rfl _ _ 22 rfl (w7.heap.size + 1) 54 i0 _ 1 8 Try.underlying22 hi hz0 hz1 hz2 rfl (by decide) _ _ _ rfl (hrow8.alloc _) ⟨w8.heap.size, 0, none⟩ 1 1 [.int .u64 hw] rfl rfl (cell_one_at _ _ _ _ (by simp)) (by simp [Value.oneCell']) (by simp only [maxLen]; omega) (by omega) (by simp; omega) ?_); go_must (intro v1 w9 hrow9 hg9 _ hat9; obtain ⟨g9, cap9, hv9⟩ := ownsRow_succ hrow9; subst hv9; have hs9 := hg9.size; simp only [World.size_alloc] at hs9; have c09 := hg9.cell ((World.grownBy_alloc w8 (.cells #[.int .u64 hw] 54) none).cell c08 (by simp)) (fun e => hncb e.symm); have cf9 := (World.frozen?_of_block (a := ⟨w7.heap.size, 0, none⟩) (hg9.block w7.heap.size (by simp; omega) (fun e => hncb e.symm))).trans ((World.frozen?_of_block (a := ⟨w7.heap.size, 0, none⟩) (Below.heap_alloc w8 _ _ hq8)).trans cf08)))
        have c19 := hg9.cell ((World.grownBy_alloc w8 (.cells #[.int .u64 hw] 54) none).cell c18 (by simp)) (fun e => hncb e.symm)
        have bo9 := hg9.cell ((World.grownBy_alloc w8 (.cells #[.int .u64 hw] 54) none).cell bo (by simp)) (fun e => hncw e.symm)
        have hb9 : Below w7.heap.size w7 w9 := ((hb.trans (hb8'.mono (by omega))).alloc (by omega) _).grown hg9 (by simp; omega) (fun q e => by have := (hrow8.lt q e).1; omega)
        obtain ⟨X, hX⟩ : ∃ X, w9.setCell ⟨w7.heap.size, 0, none⟩ (.slice (some ⟨g9, 0, none⟩) (pre.length + 1) cap9) = X := ⟨_, rfl⟩
        rw [hX]
        have hbX : Below w7.heap.size w7 X := by rw [← hX]; exact hb9.setCell (p := ⟨w7.heap.size, 0, none⟩) (Nat.le_refl _) _
        have x0 : X.cell? ⟨w7.heap.size, 0, none⟩ = some (.slice (some ⟨g9, 0, none⟩) (pre.length + 1) cap9) := by rw [← hX]; exact World.cell?_setCell_same' _ _ _ (by rw [c09]; rfl)
        have xf : X.frozen? ⟨w7.heap.size, 0, none⟩ = false := by rw [← hX, World.frozen?_setCell]; exact cf9
        have x1 : X.cell? ⟨w7.heap.size, 1, none⟩ = some (.slice (some ⟨w6.heap.size, 0, none⟩) g.roots.length g.roots.length) := by rw [← hX, World.cell?_setCell_other _ _ _ _ (by simp)]; exact c19
        have xo : X.cell? ⟨wr.heap.size, 0, none⟩ = some (.slice ai o.length ci) := by rw [← hX, World.cell?_setCell_other _ _ _ _ (fun e => by injection e; omega)]; exact bo9
        have hrX : X.ownsRow (w7.heap.size + 1) 54 1 (.slice (some ⟨g9, 0, none⟩) (pre.length + 1) cap9) (pre.length + 1) (wordsV pre ++ [.int .u64 hw]) := by rw [← hX]; exact ownsRow_setCell_below hrow9 (by simp) _
        have hqX : w7.heap.size < X.heap.size := World.block_lt_of_cell? X _ x0
        have hqo : wr.heap.size < X.heap.size := World.block_lt_of_cell? X _ xo
        have hncX : Value.ownBlock (.slice (some ⟨g9, 0, none⟩) (pre.length + 1) cap9) ≠ some w7.heap.size := fun e => by have := (hrX.lt _ e).1; omega
        have hbwX : Below w.heap.size w X := hbw7.trans (hbX.mono (by omega))
        have HvX := hide (((ho.below (hbwr.mono hB)).1))
        have HvO : Hid (Vals B w ai o) := hide (hva.below' (hbwr.mono hB))
        clear hX bo bo9 c08 cf08 c18 c09 cf9 c19 hrow8 hrow9 hg9 hat9 hb8 hb8' hb9 c0 cf0 c1 hva
        refine wp_region_hoist _ [5, 6, 8] (fun i => match i with
            | 0 => .pointer (some ⟨w7.heap.size, 0, none⟩)
            | 1 => .slice (some ⟨g9, 0, none⟩) (pre.length + 1) cap9
            | 2 => .pointer (some ⟨wr.heap.size, 0, none⟩)
            | 3 => .slice ai o.length ci
            | 4 => .map (some mb)
            | _ => .pointer (some ⟨w7.heap.size, 0, none⟩))
          (fun vs W => match vs with
            | [] => Below X.heap.size X W
            | [v5] => (∃ m5, X.heap.size ≤ m5 ∧ v5 = .slice (some ⟨m5, 0, none⟩) (o.map (packV (stF 0 g.objs))).length (o.map (packV (stF 0 g.objs))).length ∧ W.ownsRow m5 54 1 v5 (o.map (packV (stF 0 g.objs))).length (wordsV (o.map (packV (stF 0 g.objs))))) ∧ Below X.heap.size X W
            | [v5, v6] => W.ownsRow (w7.heap.size + 1) 54 1 v6 (pre.length + 1 + (o.map (packV (stF 0 g.objs))).length) (wordsV pre ++ [.int .u64 hw] ++ wordsV (o.map (packV (stF 0 g.objs)))) ∧ W.heap[w7.heap.size]? = X.heap[w7.heap.size]? ∧ Below w7.heap.size w7 W
            | [v5, v6, v8] => W.ownsRow (w7.heap.size + 1) 54 1 v6 (pre.length + 1 + (o.map (packV (stF 0 g.objs))).length) (wordsV pre ++ [.int .u64 hw] ++ wordsV (o.map (packV (stF 0 g.objs)))) ∧ Below w7.heap.size w7 W ∧ W.cell? ⟨w7.heap.size, 0, none⟩ = some v6 ∧ W.frozen? ⟨w7.heap.size, 0, none⟩ = false ∧ W.cell? ⟨w7.heap.size, 1, none⟩ = some (.slice (some ⟨w6.heap.size, 0, none⟩) g.roots.length g.roots.length)
            | _ => False) Try.mixed (laid_of (by kernel_rfl)) (Below.refl _ _).drew ?_ ?_ ?_
        · intro i oo hio hiT vs a W K hGv hlate hag hdep hK
          have hBW1 : vs.length ≤ 1 → Below X.heap.size X W := by
            intro h4
            match vs, hGv, h4 with
            | [], h, _ => exact h
            | [_], h, _ => exact h.2
          have t5 := hag.tm (k := 5) (by simp [dsOf])
          have t6 := hag.tm (k := 6) (by simp [dsOf])
          have t8 := hag.tm (k := 8) (by simp [dsOf])
          simp at t5 t6 t8
          rcases i with _ | _ | _ | _ | _ | _ | _ | _ | _ | i
          · cases hio
            clear hGv
            unfold Oper.wp
            go_simp
            exact hK
          · have hl1 : vs.length ≤ 1 := hlate 1 6 _ rfl rfl ⟨⟨1, .data⟩, by simp, rfl, rfl⟩
            have s45 : a.tmps[45]?.getD undef = .pointer (some ⟨w7.heap.size, 0, none⟩) := hdep ⟨0, .data⟩ (by cases hio; simp) rfl 45 rfl
            have hcW := ((hBW1 hl1).cell (p := ⟨w7.heap.size, 0, none⟩) hqX).trans x0
            cases hio
            clear hGv
            unfold Oper.wp
            go_simp
            exact hK
          · cases hio
            clear hGv
            unfold Oper.wp
            go_simp
            exact hK
          · have hl0 : vs.length ≤ 0 := hlate 0 5 _ rfl rfl ⟨⟨3, .data⟩, by simp, rfl, rfl⟩
            have s47 : a.tmps[47]?.getD undef = .pointer (some ⟨wr.heap.size, 0, none⟩) := hdep ⟨2, .data⟩ (by cases hio; simp) rfl 47 rfl
            have hcW := ((hBW1 (by omega)).cell (p := ⟨wr.heap.size, 0, none⟩) hqo).trans xo
            cases hio
            clear hGv
            unfold Oper.wp
            go_simp
            exact hK
          · cases hio
            clear hGv
            unfold Oper.wp
            go_simp
            exact hK
          · exact absurd (by simp) hiT
          · exact absurd (by simp) hiT
          · cases hio
            clear hGv
            unfold Oper.wp
            go_simp
            exact hK
          · exact absurd (by simp) hiT
          · simp at hio
        · intro j i oo hj hio vs a W K hvl hGv hag hdep hK
          rcases j with _ | _ | _ | j
          · obtain rfl : 5 = i := by simpa using hj
            obtain rfl : vs = [] := List.length_eq_zero_iff.1 hvl
            have s48 : a.tmps[48]?.getD undef = .slice ai o.length ci := hdep ⟨3, .data⟩ (by cases hio; simp) rfl 48 rfl
            have s49 : a.tmps[49]?.getD undef = .map (some mb) := hdep ⟨4, .data⟩ (by cases hio; simp) rfl 49 rfl
            cases hio
            refine op_call 34 #[.slice ai o.length ci, .map (some mb)] (by go_simp) ?_
            have hBW : Below X.heap.size X W := hGv
            refine (unhide HcP2 W ai ci (hbX.trans (hBW.mono (by omega))) (((unhide HvO).below (hbwX.mono hB)).below (hBW.mono (by have := hbwX.size; omega)))).mono ?_
            rintro e w' ⟨⟨h1, h2⟩, h3⟩
            subst h1
            exact ⟨_, rfl, hK _ _ ⟨⟨W.heap.size, hBW.size, rfl, h2⟩, hBW.trans (h3.mono hBW.size)⟩⟩
          · obtain rfl : 6 = i := by simpa using hj
            obtain ⟨v5, rfl⟩ : ∃ v5, vs = [v5] := by
              match vs, hvl with
              | [v5], _ => exact ⟨v5, rfl⟩
            obtain ⟨⟨m5, hm5, rfl, hr5⟩, hBW⟩ := hGv
            have s46 : a.tmps[46]?.getD undef = .slice (some ⟨g9, 0, none⟩) (pre.length + 1) cap9 := hdep ⟨1, .data⟩ (by cases hio; simp) rfl 46 rfl
            have s50 : a.tmps[50]?.getD undef = .slice (some ⟨m5, 0, none⟩) (o.map (packV (stF 0 g.objs))).length (o.map (packV (stF 0 g.objs))).length := hdep ⟨5, .data⟩ (by cases hio; simp) rfl 50 rfl
            have hol : (o.map (packV (stF 0 g.objs))).length ≤ 4 := by simp; exact hf4
            have hsW := hBW.size
            generalize o.map (packV (stF 0 g.objs)) = pv at *
            cases hio
            refine op_append (.tmp 46) (.tmp 50) 22 rfl (w7.heap.size + 1) 54 i0 _ 1 8 Try.underlying22 hi hz0 hz1 hz2 rfl (by decide) (.slice (some ⟨g9, 0, none⟩) (pre.length + 1) cap9) (pre.length + 1) (wordsV pre ++ [.int .u64 hw]) (by simpa [Act.eval] using s46) (ownsRow_below hrX hBW) ⟨m5, 0, none⟩ pv.length pv.length (wordsV pv) (by simpa [Act.eval] using s50) (by simp [wordsV]) (fun j u hj => hr5.cells (g := m5) rfl j u hj) (by intro u hu; simp [wordsV] at hu; obtain ⟨y, _, rfl⟩ := hu; simp [Value.oneCell']) (by simp only [maxLen]; omega) (by omega) (by omega) ?_
            intro v6 w6' hrow6 hg6 hat6
            refine hK _ _ ⟨hrow6, ?_, ?_⟩
            · exact (hg6.block w7.heap.size (by omega) (fun e => hncX e.symm)).trans (hBW.block _ hqX)
            · exact (hbX.trans (hBW.mono (by omega))).grown hg6 (by omega) (fun q e => by have := (hrX.lt q e).1; omega)
          · obtain rfl : 8 = i := by simpa using hj
            obtain ⟨v5, v6, rfl⟩ : ∃ v5 v6, vs = [v5, v6] := by
              match vs, hvl with
              | [v5, v6], _ => exact ⟨v5, v6, rfl⟩
            obtain ⟨hrow6, hblk, hbW⟩ := hGv
            obtain ⟨ca6, cc6, hv6⟩ := ownsRow_slice hrow6
            subst hv6
            have s51 : a.tmps[51]?.getD undef = .slice ca6 (pre.length + 1 + (o.map (packV (stF 0 g.objs))).length) cc6 := hdep ⟨6, .data⟩ (by cases hio; simp) rfl 51 rfl
            have s52 : a.tmps[52]?.getD undef = .pointer (some ⟨w7.heap.size, 0, none⟩) := hdep ⟨7, .data⟩ (by cases hio; simp) rfl 52 rfl
            generalize o.map (packV (stF 0 g.objs)) = pv at *
            have e0 := (World.cell?_of_block (a := ⟨w7.heap.size, 0, none⟩) hblk).trans x0
            have e1 := (World.cell?_of_block (a := ⟨w7.heap.size, 1, none⟩) hblk).trans x1
            have ef := (World.frozen?_of_block (a := ⟨w7.heap.size, 0, none⟩) hblk).trans xf
            have HR6 := hide hrow6
            cases hio
            clear hrow6 hblk
            unfold Oper.wp
            go_simp
            refine hK undef _ ⟨ownsRow_setCell_below (unhide HR6) (by simp) _, hbW.setCell (p := ⟨w7.heap.size, 0, none⟩) (Nat.le_refl _) _, World.cell?_setCell_same' _ _ _ (by rw [e0]; rfl), by rw [World.frozen?_setCell]; exact ef, ?_⟩
            rw [World.cell?_setCell_other _ _ _ _ (by simp)]
            exact e1
          · simp at hj
        · intro vs W hvl hGv
          obtain ⟨v5, v6, v8, rfl⟩ : ∃ v5 v6 v8, vs = [v5, v6, v8] := by
            match vs, hvl with
            | [v5, v6, v8], _ => exact ⟨v5, v6, v8, rfl⟩
          obtain ⟨h1, h2, h3, h4, h5⟩ := hGv
          simp only [List.length_cons, List.length_nil, Nat.reduceAdd]
          simp [endAct, dstAt, valAt, List.idxOf?, List.findIdx?, List.findIdx?.go, Act.put]
          go_wp2
          go_roundw
          case rel =>
            refine ⟨k + 1, v6, by omega, by go_num, h2, h3, h4, h5, ?_⟩
            rw [unhide HK, wordsV_append, wordsV_append]
            simp only [List.length_append, List.length_cons, List.length_nil] at h1 ⊢
            rw [← List.append_assoc, ← Nat.add_assoc]
            exact h1
          case measure => simp [intOf]; omega
      · obtain rfl : k = g.objs.length := by omega
        rw [layK_all] at hrow
        have hLl : (layWords g).length ≤ 120 := by rw [← layK_all, layK_len]; have := tot_take_le g.objs g.objs.length; omega
        obtain ⟨va', vc', hv, hWF, hcap⟩ := wordsF_of_owns hrow rfl (by omega)
        obtain ⟨vr, vcr, hv2, hRF, _⟩ := wordsF_of_owns (unhide Hrt) rfl (by rw [unhide Hrl]; omega)
        subst hv
        injection hv2 with e1 _ e3
        subst e1
        clear e3
        have HWF := hide hWF
        have HRF := hide (hRF.below hb)
        have Hcap := hide hcap
        clear hWF hRF hcap hrow
        replace q0 := (hb.cell (p := ⟨w.heap.size + 1, 0, none⟩) (by simp; omega)).trans q0
        replace q1 := (hb.cell (p := ⟨w.heap.size + 1, 1, none⟩) (by simp; omega)).trans q1
        replace f0 := (hb.frozen (p := ⟨w.heap.size + 1, 0, none⟩) (by simp; omega)).trans f0
        replace f1 := (hb.frozen (p := ⟨w.heap.size + 1, 1, none⟩) (by simp; omega)).trans f1
        generalize hLW : layWords g = LW at *
        have HLW := hide hLW
        clear hLW
        go_wp2
        refine bodyPost_ret (v := .tuple #[.agg #[.slice va' LW.length vc', .slice (some ⟨w6.heap.size, 0, none⟩) g.roots.length g.roots.length], .int .i64 0]) (by simp [results, Try.results16, go_sem, q0, q1, f0, f1]) rfl ?_
        refine ⟨.inr ⟨unhide HE, va', vc', some ⟨w6.heap.size, 0, none⟩, g.roots.length, by rw [unhide HLW, unhide Hrl], ?_, ?_, by rw [unhide HLW]; exact unhide Hcap⟩, (hbwr.setCell (p := ⟨w.heap.size + 1, 0, none⟩) (by simp) _).setCell (p := ⟨w.heap.size + 1, 1, none⟩) (by simp) _⟩
        · rw [unhide HLW]
          exact (((unhide HWF).setCell (p := ⟨w.heap.size + 1, 0, none⟩) (by simp; omega) _).setCell (p := ⟨w.heap.size + 1, 1, none⟩) (by simp; omega) _).base (by omega)
        · exact (((unhide HRF).setCell (p := ⟨w.heap.size + 1, 0, none⟩) (by simp; omega) _).setCell (p := ⟨w.heap.size + 1, 1, none⟩) (by simp; omega) _).base (by omega)
  · have HE := hide hE
    have d1 : (checkG g != 0) = true := by simpa using hE
    clear hE
    go_wp2
    refine bodyPost_ret (v := .tuple #[.agg #[.slice none 0 0, .slice none 0 0], .int .i64 (checkG g)]) (by simp [results, Try.results16, go_sem, q0, q1, f0, f1]) rfl ⟨.inl ⟨unhide HE, rfl⟩, (hbw5.setCell (p := ⟨w.heap.size + 1, 0, none⟩) (by simp) _).setCell (p := ⟨w.heap.size + 1, 1, none⟩) (by simp) _⟩

end Go.Proofs.Ytahdalejmfbkeaa
