/- Merged texts: Fc Pe Ta Qi Ka Kb Mb Mt Me Mh Kc Kd Ke Kf. -/
import Derived.Test.YtnbhciejlidnlaaProg
import Derived.Test.YtnbhciejlidnlaaSlideOrdersD
import Derived.WalkSmall
import Derived.Deep.RegionWith
import Derived.RegionTactic
import Derived.BigQuiet

/- Walks: the document's Lay. -/
namespace Go.Proofs.Ytnbhciejlidnlaa
set_option linter.unusedSimpArgs false
set_option linter.unusedVariables false
open Go.RowKit Go.Shelf

/-- The words of the first k objects, with headers. -/
def layHK (st : List Int) (H : List Hd) (L : List (List V)) (k : Nat) : List Int := joinW ((H.take k).map hW) (layFields st (L.take k))
def layHW (st : List Int) (H : List Hd) (L : List (List V)) : List Int := joinW (H.map hW) (layFields st L)

theorem layHK_succ (st : List Int) {H : List Hd} {L : List (List V)} {k : Nat} (hH : k < H.length) (h : k < L.length) : layHK st H L (k + 1) = layHK st H L k ++ ([hW H[k]] ++ L[k].map (packV st)) := by
  unfold layHK layFields
  rw [List.take_succ_eq_append_getElem h, List.take_succ_eq_append_getElem hH, List.map_append, List.map_append]
  exact joinW_snoc _ _ _ _ (by simp; omega)

theorem layHK_len (st : List Int) {H : List Hd} {L : List (List V)} (hl : H.length = L.length) (k : Nat) : (layHK st H L k).length = tot (L.take k) := by
  unfold layHK
  rw [joinW_len _ _ (by simp [layFields, hl])]
  unfold tot layFields
  rw [List.map_map]
  congr 1
  apply List.map_congr_left
  intro l _
  simp

/-- A row of words, whose slice lies in a box. -/
structure BoxW (W : World) (cb : Nat) (s : Value) (l : List Int) (r : Value) : Prop where
  c : W.cell? ⟨cb, 0, none⟩ = some s
  fz : W.frozen? ⟨cb, 0, none⟩ = false
  c1 : W.cell? ⟨cb, 1, none⟩ = some r
  row : W.ownsRow (cb + 1) 51 1 s l.length (wordsV l)

theorem BoxW.below {W W' : World} {cb : Nat} {s r : Value} {l : List Int} (h : BoxW W cb s l r) (hb : Below W.heap.size W W') : BoxW W' cb s l r := by
  have hlt := World.block_lt_of_cell? W _ h.c
  exact ⟨(hb.cell (p := ⟨cb, 0, none⟩) hlt).trans h.c, (hb.frozen (p := ⟨cb, 0, none⟩) hlt).trans h.fz, (hb.cell (p := ⟨cb, 1, none⟩) hlt).trans h.c1, ownsRow_below h.row hb⟩

theorem BoxW.put {W W1 w1 : World} {cb : Nat} {s v1 r : Value} {l : List Int} {x : Int} (h : BoxW W cb s l r) (h1 : Below W.heap.size W W1) (hg : W1.grownBy w1 s.ownBlock) (hrow : w1.ownsRow (cb + 1) 51 1 v1 (l.length + 1) (wordsV l ++ [.int .u64 x])) :
    BoxW (w1.setCell ⟨cb, 0, none⟩ v1) cb v1 (l ++ [x]) r ∧ Below cb W (w1.setCell ⟨cb, 0, none⟩ v1) := by
  have hlt : cb < W.heap.size := World.block_lt_of_cell? W _ h.c
  have hs1 := h1.size
  have hcb : w1.heap[cb]? = W.heap[cb]? := (hg.block cb (by omega) (fun e => by have := (h.row.lt _ e.symm).1; omega)).trans (h1.block cb hlt)
  have hc := (World.cell?_of_block (a := ⟨cb, 0, none⟩) hcb).trans h.c
  refine ⟨⟨World.cell?_setCell_same' _ _ _ (by rw [hc]; rfl), ?_, ?_, ?_⟩, ?_⟩
  · rw [World.frozen?_setCell]; exact (World.frozen?_of_block (a := ⟨cb, 0, none⟩) hcb).trans h.fz
  · rw [World.cell?_setCell_other _ _ _ _ (by simp)]
    exact (World.cell?_of_block (a := ⟨cb, 1, none⟩) hcb).trans h.c1
  · rw [wordsV_snoc, List.length_append]; exact ownsRow_setCell_below hrow (by simp) _
  · exact ((h1.mono (B' := cb) (by omega)).grown hg (by omega) (fun q e => by have := (h.row.lt q e).1; omega)).setCell (p := ⟨cb, 0, none⟩) (Nat.le_refl _) _

theorem WdsN.setCell {x : Option Nat} {W : World} {a : Option Addr} {l : List Int} (h : WdsN x W a l) {p : Addr} (hp : ∀ b off, a = some ⟨b, off, none⟩ → p.block < b) (u : Value) : WdsN x (W.setCell p u) a l := by
  have hs : (W.setCell p u).heap.size = W.heap.size := by simp [World.setCell]
  refine ⟨⟨h.1.1, fun hne => ?_⟩, h.2⟩
  obtain ⟨b, off, rfl, hB, hc⟩ := h.1.2 hne
  have h3 := hp b off rfl
  refine ⟨b, off, rfl, by rw [hs]; exact hB, fun k v hk => ?_⟩
  exact (World.cell?_of_block (a := ⟨b, off + k, none⟩) (Below.heap_setCell W p u b (by omega))).trans (hc k v hk)

def RLayRes (st : List Int) (H : List Hd) (g : Gr) (e : Ending) (W : World) : Prop :=
  ∃ aw cw ar cr, e = .returned (.agg #[.slice aw (layHW st H g.objs).length cw, .slice ar (g.roots.map (packV st)).length cr]) ∧ Wds W.heap.size W aw (layHW st H g.objs) ∧ Wds W.heap.size W ar (g.roots.map (packV st))

set_option maxRecDepth 100000 in
set_option maxHeartbeats 8000000 in
theorem rlay_c (ao ar ah : Option Addr) (co cr ch : Nat) (g : Gr) (H : List Hd) (B : Nat) (w : World) (ho : Objs B w ao g.objs) (hr : Vals B w ar g.roots) (hH : Hdrs B w ah H) (hHl : H.length = g.objs.length) (hB : B ≤ w.heap.size)
    (hn : g.objs.length ≤ 256) (h4 : ∀ l ∈ g.objs, l.length ≤ 4) (h8 : g.roots.length ≤ 8) (hrr : ∀ v ∈ g.roots, v.1 = true → 0 ≤ v.2 ∧ v.2 < g.objs.length) (hro : ∀ l ∈ g.objs, ∀ v ∈ l, v.1 = true → 0 ≤ v.2 ∧ v.2 < g.objs.length) (hnr : NumOk g.roots) (hno : ∀ l ∈ g.objs, NumOk l) :
    Calls Try.prog 30 #[.agg #[.slice ao g.objs.length co, .slice ar g.roots.length cr], .slice ah H.length ch] w fun e w' => RLayRes (stF 0 g.objs) H g e w' ∧ Below w.heap.size w w' := by
  obtain ⟨i0, hi, hz0, hz1, hz2⟩ := info_parts Try.info51
  obtain ⟨i2, hi2, hy0, hy1, hy2⟩ := info_parts Try.info2
  have htL := tot_le5 _ h4
  have HHl := hide hHl
  have hH1 : H.length ≤ g.objs.length := by omega
  have hH2 : g.objs.length ≤ H.length := by omega
  clear hHl
  obtain ⟨W4, hW4⟩ : ∃ W4, (w.alloc (.cells #[.slice ao g.objs.length co, .slice ar g.roots.length cr] 39)).alloc (.cells #[.slice none 0 0, .slice none 0 0] 24) = W4 := ⟨_, rfl⟩
  have hbA : Below w.heap.size w W4 := by rw [← hW4]; exact ((Below.refl w.heap.size w).alloc (Nat.le_refl _) _).alloc (by simp) _
  have hs4 : w.heap.size + 1 < W4.heap.size := by rw [← hW4]; simp
  have q0 : W4.cell? ⟨w.heap.size + 1, 0, none⟩ = some (.slice none 0 0) := by rw [← hW4]; simp [go_sem]
  have q1 : W4.cell? ⟨w.heap.size + 1, 1, none⟩ = some (.slice none 0 0) := by rw [← hW4]; simp [go_sem]
  have f0 : W4.frozen? ⟨w.heap.size + 1, 0, none⟩ = false := by rw [← hW4]; simp [go_sem]
  have f1 : W4.frozen? ⟨w.heap.size + 1, 1, none⟩ = false := by rw [← hW4]; simp [go_sem]
  have g0 : W4.cell? ⟨w.heap.size, 0, none⟩ = some (.slice ao g.objs.length co) := by rw [← hW4]; simp [go_sem]
  have g1 : W4.cell? ⟨w.heap.size, 1, none⟩ = some (.slice ar g.roots.length cr) := by rw [← hW4]; simp [go_sem]
  go_enter Try.func30, Try.ntmps30
  go_wp2
  clear hW4
  go_loopw [5, 6, 19] (fun s nx i wr => ∃ k : Nat, k ≤ g.objs.length ∧ i = .int .i64 k ∧ nx = .int .i64 (tot (g.objs.take k) : Nat) ∧ wr.ownsRow W4.heap.size 2 1 s k (intsV (stF 0 (g.objs.take k))) ∧ Below W4.heap.size W4 wr) (fun _ _ i _ => g.objs.length - (intOf i).toNat)
  case atStart => exact ⟨0, Nat.zero_le _, rfl, rfl, by simpa [intsV, stF] using World.ownsRow_nil _ _ _ _, Below.refl _ _⟩
  case round =>
    obtain ⟨k, hk, rfl, rfl, hown, hb⟩ := hrel
    have hsz := hb.size
    have hbwr : Below w.heap.size w wr := hbA.trans (hb.mono (by omega))
    by_cases hlt : k < g.objs.length
    · obtain ⟨b, off, ai, ci, rfl, hbB, hcb, _⟩ := (ho.below (hbwr.mono hB)).at hlt
      have hf4 := h4 _ (List.getElem_mem hlt)
      have HN := hide (tot_take_succ hlt)
      have hle := tot_take_le g.objs (k + 1)
      rw [unhide HN] at hle
      have HS : Hid (intsV (stF 0 (g.objs.take (k + 1))) = intsV (stF 0 (g.objs.take k)) ++ [.int .i64 ((tot (g.objs.take k) : Nat) : Int)]) := by
        show _ = _
        rw [List.take_succ_eq_append_getElem hlt, stF_snoc, intsV_snoc, Nat.zero_add]
      generalize g.objs[k].length = n at *
      generalize tot (g.objs.take k) = p at *
      go_wp2_with (at_builtin; go_must (refine wpList_append_own _ rfl _ _ 81 rfl W4.heap.size 2 i2 _ 1 8 Try.underlying81 hi2 hy0 hy1 hy2 rfl (by decide) _ _ _ rfl ((hown.alloc _).alloc _) ⟨wr.heap.size + 1, 0, none⟩ 1 1 [.int .i64 (p : Int)] rfl rfl (cell_one_at _ _ _ _ (by simp)) (by simp [Value.oneCell']) (by simp only [maxLen]; omega) (by omega) (by simp; omega) ?_); go_must (intro v' w1 hown' hgrow _; have hc6 := hgrow.cell (a := ⟨wr.heap.size, 0, none⟩) (v := .slice ai n ci) (by simp [go_sem]) (fun e => by have := (hown.lt _ e.symm).2; simp at this)))
      go_roundw
      case rel => exact ⟨k + 1, by omega, by go_num, by rw [unhide HN]; go_num, by rw [unhide HS]; exact hown', ((hb.alloc hsz _).alloc (by simp; omega) _).grown hgrow (by simp; omega) (fun q e => (hown.lt q e).1)⟩
      case measure => simp [intOf]; omega
    · obtain rfl : k = g.objs.length := by omega
      rw [List.take_length] at hown
      obtain ⟨sa, sc, hv, hI, hr9⟩ := ints_of_owns hown (stF_len _ 0).symm (by omega)
      clear hr9 hown
      subst hv
      have hstl := stF_len g.objs 0
      have hstm : ∀ x ∈ stF 0 g.objs, 0 ≤ x ∧ x ≤ 9223372036854775807 := fun x hx => by have := stF_mem g.objs 0 x hx; omega
      replace q0 := (hb.cell (p := ⟨w.heap.size + 1, 0, none⟩) (by simp; omega)).trans q0
      replace q1 := (hb.cell (p := ⟨w.heap.size + 1, 1, none⟩) (by simp; omega)).trans q1
      replace f0 := (hb.frozen (p := ⟨w.heap.size + 1, 0, none⟩) (by simp; omega)).trans f0
      replace f1 := (hb.frozen (p := ⟨w.heap.size + 1, 1, none⟩) (by simp; omega)).trans f1
      replace g0 := (hb.cell (p := ⟨w.heap.size, 0, none⟩) (by simp; omega)).trans g0
      replace g1 := (hb.cell (p := ⟨w.heap.size, 1, none⟩) (by simp; omega)).trans g1
      have Hc1 := hide (rpacked_c ar sa cr sc g.roots (stF 0 g.objs) wr.heap.size wr ((hr.below (hbwr.mono hB)).mono (by omega)) hI (Nat.le_refl _) (by omega) (by rw [hstl]; exact hrr) hstm hnr.wide (by omega))
      have HcP : Hid (∀ W (l : List V) a c, l ∈ g.objs → Below wr.heap.size wr W → Vals B W a l → Calls Try.prog 46 #[.slice a l.length c, .slice sa (stF 0 g.objs).length sc] W fun e w' => ∃ a' cap', e = .returned (.slice a' (l.map (packV (stF 0 g.objs))).length cap') ∧ WdsF W.heap.size w' a' (l.map (packV (stF 0 g.objs))) ∧ Below W.heap.size W w') := fun W l a c hl hb2 hv =>
        rpacked_c a sa c sc l (stF 0 g.objs) W.heap.size W (hv.mono (by have := hb2.size; omega)) ((hI.below hb2).mono hb2.size) (Nat.le_refl _) (by have := h4 l hl; omega) (by rw [hstl]; exact hro l hl) hstm (hno l hl).wide (by omega)
      have hbR := hbwr
      clear hI hstm hbA hbwr hb hstl
      generalize hS : stF 0 g.objs = S at *
      have HS := hide hS
      clear hS
      go_wp2_with fail
      refine (unhide Hc1).mono ?_
      rintro e w6 ⟨ar6, cr6, he, hV6, hb6⟩
      subst he
      clear Hc1
      have hs6 := hb6.size
      have hbw6 : Below w.heap.size w w6 := hbR.trans (hb6.mono (by omega))
      replace q0 := (hb6.cell (p := ⟨w.heap.size + 1, 0, none⟩) (by simp; omega)).trans q0
      replace q1 := (hb6.cell (p := ⟨w.heap.size + 1, 1, none⟩) (by simp; omega)).trans q1
      replace f0 := (hb6.frozen (p := ⟨w.heap.size + 1, 0, none⟩) (by simp; omega)).trans f0
      replace f1 := (hb6.frozen (p := ⟨w.heap.size + 1, 1, none⟩) (by simp; omega)).trans f1
      replace g0 := (hb6.cell (p := ⟨w.heap.size, 0, none⟩) (by simp; omega)).trans g0
      have HV6 := hide hV6
      have hlt6 : w.heap.size < w6.heap.size := by omega
      have hlt6' : w.heap.size + 1 < w6.heap.size := by omega
      have Hrl : Hid ((g.roots.map (packV S)).length = g.roots.length) := by show _ = _; simp
      have HcP6 : Hid (∀ W (l : List V) a c, l ∈ g.objs → Below w6.heap.size w6 W → Vals B W a l → Calls Try.prog 46 #[.slice a l.length c, .slice sa S.length sc] W fun e w' => ∃ a' cap', e = .returned (.slice a' (l.map (packV S)).length cap') ∧ WdsF W.heap.size w' a' (l.map (packV S)) ∧ Below W.heap.size W w') := fun W l a c hl hb2 hv => unhide HcP W l a c hl (hb6.trans (hb2.mono hs6)) hv
      rw [unhide Hrl]
      clear hV6 g1 hb6 HcP
      go_wp2
      go_loopw [42] (fun i wr => ∃ (k : Nat) (x : Value), k ≤ g.objs.length ∧ i = .int .i64 k ∧ Below w6.heap.size w6 wr ∧ BoxW wr w6.heap.size x (layHK S H g.objs k) (.slice ar6 g.roots.length cr6)) (fun i _ => g.objs.length - (intOf i).toNat)
      case atStart => exact ⟨0, .slice none 0 0, Nat.zero_le _, rfl, (Below.refl _ _).alloc (Nat.le_refl _) _, ⟨by simp [go_sem], by simp [go_sem], by simp [go_sem], by simpa [layHK, layFields, joinW, wordsV] using World.ownsRow_nil _ _ _ _⟩⟩
      case round =>
        obtain ⟨k, x, hk, rfl, hb, hbx⟩ := hrel
        have hsz := hb.size
        have hbwr : Below w.heap.size w wr := hbw6.trans (hb.mono (by omega))
        have hq : w6.heap.size < wr.heap.size := World.block_lt_of_cell? wr _ hbx.c
        by_cases hlt : k < g.objs.length
        · have hltH : k < H.length := by omega
          obtain ⟨b, off, ai, ci, rfl, hbB, hcb, hva⟩ := (ho.below (hbwr.mono hB)).at hlt
          obtain ⟨b2, off2, hn2, hm2, he2, rfl, hbB2, hh1, hh2, hh3, HhH⟩ := (hH.below (hbwr.mono hB)).at hltH
          have hmem := List.getElem_mem hlt
          have hf4 := h4 _ hmem
          have HK := hide (layHK_succ S hltH hlt)
          have hLk := layHK_len S (unhide HHl) k
          have hle := tot_take_le g.objs k
          have HhW : Hid (hW H[k] = headW hn2 hm2 he2) := by show _ = _; rw [HhH.out]; rfl
          have HcP2 := hide (fun W a c hb hv => unhide HcP6 W _ a c hmem hb hv)
          have HvO : Hid (Vals B w ai g.objs[k]) := hide (hva.below' (hbwr.mono hB))
          have hkH : (k : Int) < (H.length : Int) := by omega
          rw [unhide HhW] at HK
          generalize g.objs[k] = o at *
          generalize layHK S H g.objs k = pre at *
          have hpl : pre.length ≤ 1280 := by omega
          clear hLk hle hmem HhW HhH hva
          have hb2w : b2 < wr.heap.size := by omega
          have HcH := hide (rhead_c hn2 he2 hm2 (wr.alloc (.cells #[.slice ai o.length ci] 71)))
          go_wp2_with fail
          refine (unhide HcH).mono ?_
          rintro e w8 ⟨he, hb8⟩
          subst he
          clear HcH hh1 hh2 hh3
          simp only [World.size_alloc] at hb8
          have hs8 := hb8.size
          simp only [World.size_alloc] at hs8
          have hb8' : Below wr.heap.size wr w8 := ((Below.refl _ _).alloc (Nat.le_refl _) _).trans (hb8.mono (by omega))
          have bo : w8.cell? ⟨wr.heap.size, 0, none⟩ = some (.slice ai o.length ci) := by rw [hb8.cell (p := ⟨wr.heap.size, 0, none⟩) (by simp)]; simp [go_sem]
          have hbx8 := hbx.below hb8'
          have c08 := hbx8.c
          have cf08 := hbx8.fz
          have hrow8 := hbx8.row
          obtain ⟨ca, cc, rfl⟩ := ownsRow_slice hrow8
          have hncb : Value.ownBlock (.slice ca pre.length cc) ≠ some w6.heap.size := fun e => by have := (hrow8.lt _ e).1; omega
          have hncw : Value.ownBlock (.slice ca pre.length cc) ≠ some wr.heap.size := fun e => by have := (hbx.row.lt _ e).2; omega
          generalize headW hn2 hm2 he2 = hw at *
          generalize headE hn2 he2 = hee at *
          have hq8 : w6.heap.size < w8.heap.size := by omega
          have hqw8 : wr.heap.size < w8.heap.size := by omega
          have hb8a : Below w8.heap.size w8 (w8.alloc (.cells #[.int .u64 hw] 51)) := (Below.refl _ _).alloc (Nat.le_refl _) _
          go_wp2_with (first
            | (at_builtin; go_must (refine wpList_append_own_at _ rfl _ _ 22 rfl (w6.heap.size + 1) 51 i0 _ 1 8 Try.underlying22 hi hz0 hz1 hz2 rfl (by decide) _ _ _ rfl (hrow8.alloc _) ⟨w8.heap.size, 0, none⟩ 1 1 [.int .u64 hw] rfl rfl (cell_one_at _ _ _ _ (by simp)) (by simp [Value.oneCell']) (by simp only [maxLen]; omega) (by omega) (by simp; omega) ?_); go_must (intro v1 w9 hrow9 hg9 _ hat9; obtain ⟨g9, cap9, hv9⟩ := ownsRow_succ hrow9; subst hv9; have hs9 := hg9.size; simp only [World.size_alloc] at hs9; have c09 := hg9.cell ((World.grownBy_alloc w8 (.cells #[.int .u64 hw] 51) none).cell c08 (by simp)) (fun e => hncb e.symm); have cf9 := (World.frozen?_of_block (a := ⟨w6.heap.size, 0, none⟩) (hg9.block w6.heap.size (by simp; omega) (fun e => hncb e.symm))).trans ((World.frozen?_of_block (a := ⟨w6.heap.size, 0, none⟩) (Below.heap_alloc w8 _ _ hq8)).trans cf08); have bo9 := hg9.cell ((World.grownBy_alloc w8 (.cells #[.int .u64 hw] 51) none).cell bo (by simp)) (fun e => hncw e.symm)))
            | fail)
          obtain ⟨r1, r2⟩ := hbx8.put hb8a hg9 hrow9
          obtain ⟨X, hX⟩ : ∃ X, w9.setCell ⟨w6.heap.size, 0, none⟩ (.slice (some ⟨g9, 0, none⟩) (pre.length + 1) cap9) = X := ⟨_, rfl⟩
          rw [hX] at r1 r2
          rw [hX]
          have hbX : Below w6.heap.size w6 X := (hb.trans (hb8'.mono (by omega))).trans r2
          have hqo : wr.heap.size < X.heap.size := by have := r2.size; omega
          have hbwX : Below w.heap.size w X := hbw6.trans (hbX.mono (by omega))
          have Hc3 := hide (unhide HcP2 X ai ci hbX ((unhide HvO).below (hbwX.mono hB)))
          have HR1 := hide r1
          have hol : (o.map (packV S)).length ≤ 4 := by simp; exact hf4
          generalize o.map (packV S) = pv at *
          clear hX bo bo9 c08 cf08 c09 cf9 hrow8 hrow9 hg9 hat9 hb8 hb8' hb8a hbx hbx8 r1 HcP2 HvO
          refine (unhide Hc3).mono ?_
          rintro e w10 ⟨a10, c10, he, hW10, hb10⟩
          subst he
          have hs10 := hb10.size
          have hbx10 := (unhide HR1).below hb10
          have HN10 : Hid (WdsN (some g9) w10 a10 pv) := by
            refine ⟨hW10.1, fun _ b off ha e => ?_⟩
            have h1 := hW10.2 b off ha
            have h2 := (unhide HR1).row.lt g9 rfl
            injection e with e
            omega
          have Hnew : Hid (∀ b off, a10 = some ⟨b, off, none⟩ → w6.heap.size < b) := fun b off ha => by have := hW10.2 b off ha; omega
          have HB10 := hide hbx10
          clear Hc3 hW10 HR1 hbx10
          go_wp2
          go_loopw [66] (fun i wi => ∃ (j : Nat) (y : Value), j ≤ pv.length ∧ i = .int .i64 j ∧ BoxW wi w6.heap.size y (pre ++ [hw] ++ pv.take j) (.slice ar6 g.roots.length cr6) ∧ Below w6.heap.size w6 wi ∧ Hid (WdsN y.ownBlock wi a10 pv)) (fun i _ => pv.length - (intOf i).toNat)
          case atStart => exact ⟨0, .slice (some ⟨g9, 0, none⟩) (pre.length + 1) cap9, Nat.zero_le _, rfl, by simpa using unhide HB10, hbX.trans (hb10.mono (by omega)), HN10⟩
          case round =>
            clear HN10 HB10 hb10 hs10 hs9 hs8
            obtain ⟨j, y, hj, rfl, hbx, hb2, HN⟩ := hrel
            have hsz2 := hb2.size
            have hq2 : w6.heap.size < wr.heap.size := World.block_lt_of_cell? wr _ hbx.c
            by_cases hlt2 : j < pv.length
            · obtain ⟨b4, off4, rfl, hbB4, hc4⟩ := (unhide HN).1.at hlt2
              have HT : Hid (pre ++ [hw] ++ pv.take (j + 1) = (pre ++ [hw] ++ pv.take j) ++ [pv[j]]) := by show _ = _; rw [List.take_succ_eq_append_getElem hlt2, ← List.append_assoc]
              have hpl2 : (pre ++ [hw] ++ pv.take j).length ≤ 1285 := by simp; omega
              have HN2 := hide ((unhide HN).below ((Below.refl _ _).alloc (Nat.le_refl _) (.cells #[.int .u64 pv[j]] 51)))
              generalize pv[j] = z at *
              generalize pre ++ [hw] ++ pv.take j = pre2 at *
              have c08 := hbx.c
              have cf08 := hbx.fz
              have hrow8 := hbx.row
              obtain ⟨ca2, cc2, rfl⟩ := ownsRow_slice hrow8
              have hncb2 : Value.ownBlock (.slice ca2 pre2.length cc2) ≠ some w6.heap.size := fun e => by have := (hrow8.lt _ e).1; omega
              have Hbx := hide hbx
              clear hbx
              go_wp2_with (at_builtin; go_must (refine wpList_append_own_at _ rfl _ _ 22 rfl (w6.heap.size + 1) 51 i0 _ 1 8 Try.underlying22 hi hz0 hz1 hz2 rfl (by decide) _ _ _ rfl (hrow8.alloc _) ⟨wr.heap.size, 0, none⟩ 1 1 [.int .u64 z] rfl rfl (cell_one_at _ _ _ _ (by simp)) (by simp [Value.oneCell']) (by simp only [maxLen]; omega) (by omega) (by simp; omega) ?_); go_must (intro v1 w9 hrow9 hg9 _ hat9; obtain ⟨g9', cap9', hv9⟩ := ownsRow_succ hrow9; subst hv9; have hs9 := hg9.size; simp only [World.size_alloc] at hs9; have c09 := hg9.cell ((World.grownBy_alloc wr (.cells #[.int .u64 z] 51) none).cell c08 (by simp)) (fun e => hncb2 e.symm); have cf9 := (World.frozen?_of_block (a := ⟨w6.heap.size, 0, none⟩) (hg9.block w6.heap.size (by simp; omega) (fun e => hncb2 e.symm))).trans ((World.frozen?_of_block (a := ⟨w6.heap.size, 0, none⟩) (Below.heap_alloc wr _ _ hq2)).trans cf08)))
              go_roundw
              case rel =>
                obtain ⟨r1, r2⟩ := (unhide Hbx).put ((Below.refl _ _).alloc (Nat.le_refl _) _) hg9 hrow9
                exact ⟨j + 1, _, by omega, by go_num, by rw [unhide HT]; exact r1, hb2.trans r2, hide (((unhide HN2).append hg9 hat9).setCell (p := ⟨w6.heap.size, 0, none⟩) (unhide Hnew) _)⟩
              case measure => simp [intOf]; omega
            · obtain rfl : j = pv.length := by omega
              rw [List.take_length] at hbx
              go_wp2
              go_roundw
              case rel => exact ⟨k + 1, y, by omega, by go_num, hb2, by rw [unhide HK, ← List.append_assoc]; exact hbx⟩
              case measure => simp [intOf]; omega
        · obtain rfl : k = g.objs.length := by omega
          have hall : layHK S H g.objs g.objs.length = layHW S H g.objs := by unfold layHK layHW; rw [List.take_length, ← unhide HHl, List.take_length]
          have hlen : (layHW S H g.objs).length ≤ 1280 := by rw [← hall, layHK_len S (unhide HHl)]; have := tot_take_le g.objs g.objs.length; omega
          rw [hall] at hbx
          have c0 := hbx.c
          have c1 := hbx.c1
          obtain ⟨va', vc', hv, hWF, _⟩ := wordsF_of_owns hbx.row rfl (by omega)
          subst hv
          have HWF := hide hWF
          have HRF := hide ((unhide HV6).below hb)
          clear hWF hbx hall
          replace q0 := (hb.cell (p := ⟨w.heap.size + 1, 0, none⟩) (by simp; omega)).trans q0
          replace q1 := (hb.cell (p := ⟨w.heap.size + 1, 1, none⟩) (by simp; omega)).trans q1
          replace f0 := (hb.frozen (p := ⟨w.heap.size + 1, 0, none⟩) (by simp; omega)).trans f0
          replace f1 := (hb.frozen (p := ⟨w.heap.size + 1, 1, none⟩) (by simp; omega)).trans f1
          generalize hLW : layHW S H g.objs = LW at *
          have HLW := hide hLW
          clear hLW
          go_wp2
          refine bodyPost_ret (v := .agg #[.slice va' LW.length vc', .slice ar6 g.roots.length cr6]) (by simp [results, Try.results30, go_sem, q0, q1, f0, f1]) rfl ?_
          have e1 : layHW (stF 0 g.objs) H g.objs = LW := by rw [unhide HS]; exact unhide HLW
          refine ⟨⟨va', vc', ar6, cr6, by rw [e1, unhide HS, unhide Hrl], ?_, ?_⟩, (hbwr.setCell (p := ⟨w.heap.size + 1, 0, none⟩) (by simp) _).setCell (p := ⟨w.heap.size + 1, 1, none⟩) (by simp) _⟩
          · rw [e1]
            exact (((unhide HWF).setCell (p := ⟨w.heap.size + 1, 0, none⟩) (by simp; omega) _).setCell (p := ⟨w.heap.size + 1, 1, none⟩) (by simp; omega) _).1
          · rw [unhide HS]
            exact (((unhide HRF).setCell (p := ⟨w.heap.size + 1, 0, none⟩) (by simp; omega) _).setCell (p := ⟨w.heap.size + 1, 1, none⟩) (by simp; omega) _).1

end Go.Proofs.Ytnbhciejlidnlaa

/- Walks: the document's Heads. -/
namespace Go.Proofs.Ytnbhciejlidnlaa
set_option linter.unusedSimpArgs false
set_option linter.unusedVariables false
open Go.RowKit Go.Shelf

/-- The headers of words. -/
def headsH (hs : List Int) : List Hd := hs.map fun x => (uhL x, uhM x, uhA x)
theorem headsH_len (hs : List Int) : (headsH hs).length = hs.length := by simp [headsH]
theorem headsH_succ {hs : List Int} {k : Nat} {x : Int} (hx : hs[k]? = some x) : headsH (hs.take (k + 1)) = headsH (hs.take k) ++ [(uhL x, uhM x, uhA x)] := by
  have hk := (List.getElem?_eq_some_iff.1 hx).1
  rw [List.take_succ_eq_append_getElem hk, (List.getElem?_eq_some_iff.1 hx).2]
  simp [headsH]

theorem owns_mono {w : World} {base base' : Nat} {e : TypeId} {size : Nat} {v : Value} {n : Nat} {xs : List Value} (h : w.ownsRow base e size v n xs) (hb : base' ≤ base) : w.ownsRow base' e size v n xs := by
  refine ⟨h.1, ?_⟩
  rcases h.2 with h2 | ⟨g, cap, cur, h1, h2, h3⟩
  · exact .inl h2
  · exact .inr ⟨g, cap, cur, h1, by omega, h3⟩

set_option maxRecDepth 100000 in
set_option maxHeartbeats 2000000 in
theorem heads_c (aw ar : Option Addr) (cw nr cr : Nat) (ws : List Int) (hs : List Int) (fs : List (List Int)) (B : Nat) (w : World) (hW : Wds B w aw ws) (hUW : U64 ws) (hB : B ≤ w.heap.size) (hF : Fit hs fs) (hws : ws = joinW hs fs) (h256 : ws.length ≤ 256) :
    Calls Try.prog 49 #[.agg #[.slice aw ws.length cw, .slice ar nr cr]] w fun e w' => (∃ v, e = .returned v ∧ w'.ownsRow w.heap.size 42 3 v hs.length (cellsH (headsH hs))) ∧ Below w.heap.size w w' := by
  obtain ⟨i0, hi0, hz0, hz1, hz2⟩ := info_parts Try.info42
  have hsp : splitR ws = some fs := by rw [hws]; exact fit_split hF
  have htot : tot fs = ws.length := by rw [hws, joinW_len _ _ hF.len]
  obtain ⟨W1, hW1⟩ : ∃ W1, w.alloc (.cells #[.slice aw ws.length cw, .slice ar nr cr] 24) = W1 := ⟨_, rfl⟩
  have hb1 : Below w.heap.size w W1 := by rw [← hW1]; exact (Below.refl w.heap.size w).alloc (Nat.le_refl _) _
  have hs1 : w.heap.size < W1.heap.size := by rw [← hW1]; simp
  have g0 : W1.cell? ⟨w.heap.size, 0, none⟩ = some (.slice aw ws.length cw) := by rw [← hW1]; simp [go_sem]
  have Hc1 := hide (rstarts_c aw cw ws B W1 (hW.below (hb1.mono hB)) hUW (by omega) h256)
  have Hw : Hid (∀ k x, hs[k]? = some x → ws[tot (fs.take k)]? = some x) := fun k x hx => by
    have hk : k < fs.length := by have := (List.getElem?_eq_some_iff.1 hx).1; have := hF.len; omega
    rw [hws, joinW_get _ _ _ hF.len hk]; exact hx
  have Hat : Hid (∀ k, k < fs.length → ∃ x, hs[k]? = some x ∧ unheadOk x = true ∧ wlen x = (fs.getD k []).length ∧ 0 ≤ x ∧ x < 18446744073709551616) := fun k hk => by
    obtain ⟨x, h1, h2, h3, h4⟩ := fit_at hF hk
    exact ⟨x, h1, h2, by rw [List.getD_eq_getElem?_getD, List.getElem?_eq_getElem hk]; exact h3, h4⟩
  have hlen : hs.length ≤ fs.length := by have := hF.len; omega
  have hlen' : fs.length ≤ hs.length := by have := hF.len; omega
  have htl := tot_len fs
  have Hsp := hide hsp
  have htw : tot fs ≤ ws.length := by omega
  clear hF hws hsp htot
  go_enter Try.func49, Try.ntmps49
  go_wp2_with fail
  refine (unhide Hc1).mono ?_
  rintro e w2 ⟨hres, hb2⟩
  obtain ⟨fs', sa, sc, hfs', he, hI⟩ := hres.resolve_left (fun h => by have := unhide Hsp; rw [h.1] at this; cases this)
  obtain rfl : fs' = fs := by have := unhide Hsp; rw [hfs'] at this; injection this
  subst he
  have hs2 := hb2.size
  have hbw2 : Below w.heap.size w w2 := hb1.trans (hb2.mono (by omega))
  replace g0 := (hb2.cell (p := ⟨w.heap.size, 0, none⟩) hs1).trans g0
  have hl2 : w.heap.size < w2.heap.size := by omega
  have HI := hide hI
  have HW := hide (hW.below (hbw2.mono hB))
  have hst : (stF 0 fs').length = fs'.length := stF_len fs' 0
  have hst1 : (stF 0 fs').length ≤ fs'.length := by omega
  have hst2 : fs'.length ≤ (stF 0 fs').length := by omega
  have Hsg := hide (fun k hk => stF_get fs' 0 k hk)
  clear hW1 Hc1 hres hfs' hI hb1 hb2 hst hW
  go_wp2
  go_loopw [5, 18] (fun s i wr => ∃ k : Nat, k ≤ fs'.length ∧ i = .int .i64 k ∧ wr.ownsRow w2.heap.size 42 3 s k (cellsH (headsH (hs.take k))) ∧ Below w2.heap.size w2 wr) (fun _ i _ => fs'.length - (intOf i).toNat)
  case atStart => exact ⟨0, Nat.zero_le _, rfl, by simpa [cellsH, headsH] using World.ownsRow_nil _ _ _ _, Below.refl _ _⟩
  case round =>
    obtain ⟨k, hk, rfl, hown, hb⟩ := hrel
    have hsz := hb.size
    have g0r := (hb.cell (p := ⟨w.heap.size, 0, none⟩) hl2).trans g0
    have hlr : w.heap.size < wr.heap.size := by omega
    by_cases hlt : k < fs'.length
    · obtain ⟨x, hx, hx1, hx2, hx3, hx4⟩ := unhide Hat k hlt
      have hltS : k < (stF 0 fs').length := by omega
      obtain ⟨b1, o1, rfl, hB1, hc1⟩ := ((unhide HI).below hb).at hltS
      have h1 := unhide Hsg k hlt
      rw [List.getElem?_eq_getElem hltS, Option.some.injEq, Nat.zero_add] at h1
      rw [h1] at hc1
      have hwx := unhide Hw k x hx
      have hpl : tot (fs'.take k) < ws.length := (List.getElem?_eq_some_iff.1 hwx).1
      obtain ⟨b2, o2, rfl, hB2, hc2⟩ := ((unhide HW).below (hb.mono (by omega))).at hpl
      rw [(List.getElem?_eq_some_iff.1 hwx).2] at hc2
      have HS := hide (headsH_succ hx)
      have hkI : (k : Int) < ((stF 0 fs').length : Int) := by omega
      have hpI : ((tot (fs'.take k) : Nat) : Int) < (ws.length : Int) := by omega
      have hq1 : b1 < wr.heap.size := by omega
      have hq2 : b2 < wr.heap.size := by omega
      clear h1 hwx hx hx2
      generalize tot (fs'.take k) = q at *
      generalize (stF 0 fs').length = sl at *
      go_wp2_with (first
        | (go_at_call 35; go_must (refine (runhead_c x _ hx3 hx4).mono ?_); go_must (rintro e w3 ⟨he, hb3⟩; subst he; have hs3 := hb3.size; have hown3 := ownsRow_below hown hb3))
        | (at_builtin; go_must (refine wpList_append_own _ rfl _ _ 64 rfl w2.heap.size 42 i0 _ 3 24 Try.underlying64 hi0 hz0 hz1 hz2 rfl (by decide) _ _ _ rfl ((hown3.alloc _).alloc _) ⟨w3.heap.size + 1, 0, none⟩ 1 1 [.int .i64 (uhL x), .bool (uhM x), .int .i64 (uhA x)] rfl rfl (cell_three_at _ _ _ _ _ _ (by simp)) (by simp [Value.oneCell']) (by simp only [maxLen]; omega) (by omega) (by simp; omega) ?_); intro v' w1 hown' hgrow _))
      go_roundw
      case rel => exact ⟨k + 1, by omega, by go_num, by rw [unhide HS, cellsH_snoc]; exact hown', (((hb.trans (hb3.mono hsz)).alloc (by omega) _).alloc (by simp; omega) _).grown hgrow (by simp; omega) (fun q e => (hown3.lt q e).1)⟩
      case measure => simp [intOf]; omega
    · obtain rfl : k = fs'.length := by omega
      have hkI : ¬ ((fs'.length : Int) < ((stF 0 fs').length : Int)) := by omega
      have Hown : Hid (wr.ownsRow w.heap.size 42 3 u5 fs'.length (cellsH (headsH hs))) := by
        have := owns_mono (base' := w.heap.size) hown (by omega)
        rw [List.take_of_length_le hlen] at this
        exact this
      have Hln : Hid (hs.length = fs'.length) := by show _ = _; omega
      clear hown
      go_wp2
      go_ret
      refine ⟨⟨_, rfl, ?_⟩, hbw2.trans (hb.mono (by omega))⟩
      rw [unhide Hln]
      exact unhide Hown

end Go.Proofs.Ytnbhciejlidnlaa

/- Plain: the document's Mark lays what was read, with marks. -/
namespace Go.Proofs.Ytnbhciejlidnlaa
set_option linter.unusedSimpArgs false
set_option linter.unusedVariables false
open Go.RowKit Go.Shelf

/-- Headers, the first k of them with these marks. -/
def hdK (hs : List Int) (p : Nat → Bool) (k : Nat) : List Hd := hs.mapIdx fun i x => (uhL x, if i < k then p i else uhM x, uhA x)

theorem hdK_len (hs : List Int) (p : Nat → Bool) (k : Nat) : (hdK hs p k).length = hs.length := by simp [hdK]
theorem hdK_get (hs : List Int) (p : Nat → Bool) (k i : Nat) : (hdK hs p k)[i]? = (hs[i]?).map fun x => (uhL x, if i < k then p i else uhM x, uhA x) := by simp [hdK, List.getElem?_mapIdx]
theorem hdK_zero (hs : List Int) (p : Nat → Bool) : hdK hs p 0 = headsH hs := by
  apply List.ext_getElem?
  intro i
  rw [hdK_get, headsH, List.getElem?_map]
  simp
theorem hdK_set {hs : List Int} {p : Nat → Bool} {k : Nat} {x : Int} (hx : hs[k]? = some x) : (hdK hs p k).set k (uhL x, p k, uhA x) = hdK hs p (k + 1) := by
  apply List.ext_getElem?
  intro i
  have hk := (List.getElem?_eq_some_iff.1 hx).1
  rw [List.getElem?_set, hdK_get, hdK_get, hdK_len]
  by_cases e : k = i
  · subst e
    rw [if_pos rfl, if_pos hk, hx]
    simp
  · rw [if_neg e]
    cases hs[i]? with
    | none => rfl
    | some y =>
      simp only [Option.map_some]
      by_cases hi : i < k
      · rw [if_pos hi, if_pos (by omega)]
      · rw [if_neg hi, if_neg (by omega)]
theorem hdK_all (hs : List Int) (p : Nat → Bool) (k : Nat) (h : hs.length ≤ k) : (hdK hs p k).map hW = mkH hs p := by
  apply List.ext_getElem?
  intro i
  rw [List.getElem?_map, hdK_get, mkH_get]
  cases e : hs[i]? with
  | none => rfl
  | some y =>
    have := (List.getElem?_eq_some_iff.1 e).1
    simp only [Option.map_some]
    rw [if_pos (by omega)]
    rfl

theorem cellsH_set : ∀ (l : List Hd) (k : Nat) (h : Hd) (b : Bool), l[k]? = some h → (cellsH l).set (k * 3 + 1) (.bool b) = cellsH (l.set k (h.1, b, h.2.2))
  | [], _, _, _, h => by simp at h
  | x :: l, 0, h, b, e => by simp at e; subst e; simp [cellsH]
  | x :: l, k + 1, h, b, e => by
    have ih := cellsH_set l k h b (by simpa using e)
    have e1 : (k + 1) * 3 + 1 = k * 3 + 1 + 1 + 1 + 1 := by omega
    rw [e1]
    simp only [cellsH, List.flatMap_cons, List.cons_append, List.nil_append, List.set_cons_succ] at *
    rw [ih]

theorem read_lay {hs : List Int} {fs : List (List Int)} {rs : List Int} (h : Arn hs fs rs) : stF 0 (readG fs rs).objs = stF 0 fs ∧ layFields (stF 0 fs) (readG fs rs).objs = fs ∧ (readG fs rs).roots.map (packV (stF 0 fs)) = rs ∧ NumOk (readG fs rs).roots ∧ ∀ l ∈ (readG fs rs).objs, NumOk l := by
  have hnd := stF_nodup fs 0
  refine ⟨stF_same _ _ _ (lens_read fs rs), ?_, map_word_back hnd h.ur h.okr, ⟨?_⟩, fun l hl => ⟨?_⟩⟩
  · unfold layFields readG
    simp only
    rw [List.map_map]
    conv => rhs; rw [← List.map_id fs]
    apply List.map_congr_left
    intro f hf
    exact map_word_back hnd (h.uf f hf) (h.okf f hf)
  · intro v hv hr
    unfold readG at hv
    obtain ⟨x, hx, rfl⟩ := List.mem_map.1 hv
    exact (word_back hnd (h.ur x hx).1 (h.ur x hx).2 (h.okr x hx)).2.2 hr
  · intro v hv hr
    unfold readG at hl
    obtain ⟨f, hf, rfl⟩ := List.mem_map.1 hl
    obtain ⟨x, hx, rfl⟩ := List.mem_map.1 hv
    exact (word_back hnd (h.uf f hf x hx).1 (h.uf f hf x hx).2 (h.okf f hf x hx)).2.2 hr

end Go.Proofs.Ytnbhciejlidnlaa

/- Plain: the arena that was moved to. -/
namespace Go.Proofs.Ytnbhciejlidnlaa
set_option linter.unusedSimpArgs false
set_option linter.unusedVariables false
open Go.RowKit

/-- Its headers and its fields. -/
def mH (hs : List Int) (fs : List (List Int)) (rs : List Int) : List Int := (orderOf (readG fs rs)).map (hO hs)
def mF (fs : List (List Int)) (rs : List Int) : List (List Int) := (orderOf (readG fs rs)).map fun o => (fO fs o).map (twW fs (orderOf (readG fs rs)))

theorem mvL_eq (hs : List Int) (fs : List (List Int)) (rs : List Int) : mvL hs fs rs = joinW (mH hs fs rs) (mF fs rs) := rfl

theorem ord_ok {hs : List Int} {fs : List (List Int)} {rs : List Int} (h : Arn hs fs rs) : OOk fs (orderOf (readG fs rs)) := oK_ok h _

theorem field_of {fs : List (List Int)} (rs : List Int) {o : Int} (h0 : 0 ≤ o) (h1 : o < fs.length) : fieldsOf (readG fs rs) o = (fO fs o).map (valW (stF 0 fs)) := by
  obtain ⟨i, rfl⟩ := Int.eq_ofNat_of_zero_le h0
  have hi : i < fs.length := by omega
  rw [fieldsOf_read (List.getElem?_eq_getElem hi)]
  simp [fO, List.getD_eq_getElem?_getD, hi]

theorem canon_objs {hs : List Int} {fs : List (List Int)} {rs : List Int} (h : Arn hs fs rs) : (canonG (readG fs rs)).objs = (orderOf (readG fs rs)).map fun o => ((fO fs o).map (valW (stF 0 fs))).map (renV (orderOf (readG fs rs))) := by
  unfold canonG
  simp only
  apply List.map_congr_left
  intro o ho
  have := (ord_ok h).rng o ho
  rw [field_of rs this.1 this.2]

theorem canon_st {hs : List Int} {fs : List (List Int)} {rs : List Int} (h : Arn hs fs rs) : stF 0 (canonG (readG fs rs)).objs = stF 0 ((orderOf (readG fs rs)).map (fO fs)) := by
  rw [canon_objs h]
  apply stF_same
  rw [List.map_map, List.map_map]
  apply List.map_congr_left
  intro o _
  simp

theorem mF_st {hs : List Int} {fs : List (List Int)} {rs : List Int} (h : Arn hs fs rs) : stF 0 (mF fs rs) = stF 0 (canonG (readG fs rs)).objs := by
  rw [canon_st h]
  apply stF_same
  unfold mF
  rw [List.map_map, List.map_map]
  apply List.map_congr_left
  intro o _
  simp

theorem mF_lay {hs : List Int} {fs : List (List Int)} {rs : List Int} (h : Arn hs fs rs) : mF fs rs = layFields (stF 0 (canonG (readG fs rs)).objs) (canonG (readG fs rs)).objs := by
  unfold layFields
  rw [canon_st h, canon_objs h, List.map_map]
  unfold mF
  apply List.map_congr_left
  intro o _
  simp only [Function.comp, List.map_map]
  rfl

theorem mR_lay {hs : List Int} {fs : List (List Int)} {rs : List Int} (h : Arn hs fs rs) : mvR fs rs = (canonG (readG fs rs)).roots.map (packV (stF 0 (canonG (readG fs rs)).objs)) := by
  rw [canon_st h]
  unfold mvR canonG readG
  simp only [List.map_map]
  rfl

theorem mH_len (hs : List Int) (fs : List (List Int)) (rs : List Int) : (mH hs fs rs).length = (orderOf (readG fs rs)).length := by simp [mH]
theorem mF_len (fs : List (List Int)) (rs : List Int) : (mF fs rs).length = (orderOf (readG fs rs)).length := by simp [mF]
theorem mF_tot (fs : List (List Int)) (rs : List Int) : tot (mF fs rs) = tot ((orderOf (readG fs rs)).map (fO fs)) := by
  unfold tot mF
  rw [List.map_map, List.map_map]
  congr 1
  apply List.map_congr_left
  intro o _
  simp

theorem canon_len (g : Gr) : (canonG g).objs.length = (orderOf g).length := by simp [canonG]

theorem good_canon {g : Gr} (h : Good g) : Good (canonG g) := by
  have hl := (searchN_ok h g.objs.length).le
  have hol : (orderOf g).length ≤ g.objs.length := hl
  have hn := h.n24
  have key : ∀ (l : List V), RefsOk l → (∀ x ∈ refsL l, x ∈ orderOf g) → ∀ v ∈ l.map (renV (orderOf g)), v.1 = true → 0 ≤ v.2 ∧ v.2 < (canonG g).objs.length := by
    intro l hl hm v hv h1
    obtain ⟨u, hu, rfl⟩ := List.mem_map.1 hv
    have hu1 : u.1 = true := by
      cases hu1 : u.1
      · unfold renV at h1; rw [hu1] at h1; simp [hu1] at h1
      · rfl
    have := placeOf_bounds (hm _ (mem_refs_of hl hu hu1))
    unfold renV
    rw [if_pos hu1, canon_len]
    exact this
  refine ⟨by rw [canon_len]; omega, by simpa [canonG] using h.n8, ?_, ?_, ?_⟩
  · intro l hl
    unfold canonG at hl
    obtain ⟨o, ho, rfl⟩ := List.mem_map.1 hl
    have := order_ok h ho
    simpa using h.n4 _ (fieldsOf_mem this.1 this.2)
  · intro v hv
    exact key _ h.refsRoots (order_roots g) v hv
  · intro l hl v hv
    unfold canonG at hl
    obtain ⟨o, ho, rfl⟩ := List.mem_map.1 hl
    have := order_ok h ho
    exact key _ (h.refsObjs (fieldsOf_mem this.1 this.2)) (order_closed h ho) v hv

theorem num_ren {O : List Int} {l : List V} (h : NumOk l) : NumOk (l.map (renV O)) := by
  refine ⟨fun v hv h1 => ?_⟩
  obtain ⟨u, hu, rfl⟩ := List.mem_map.1 hv
  unfold renV at h1 ⊢
  split
  · rename_i h2; rw [if_pos h2] at h1; cases h1
  · rename_i h2; rw [if_neg h2] at h1; exact h.num u hu h1

theorem num_canon {hs : List Int} {fs : List (List Int)} {rs : List Int} (h : Arn hs fs rs) : NumOk (canonG (readG fs rs)).roots ∧ ∀ l ∈ (canonG (readG fs rs)).objs, NumOk l := by
  obtain ⟨_, _, _, h1, h2⟩ := read_lay h
  refine ⟨num_ren h1, fun l hl => ?_⟩
  unfold canonG at hl
  obtain ⟨o, ho, rfl⟩ := List.mem_map.1 hl
  have := order_ok (good_read h) ho
  exact num_ren (h2 _ (fieldsOf_mem this.1 this.2))

theorem canon_tot {hs : List Int} {fs : List (List Int)} {rs : List Int} (h : Arn hs fs rs) : tot (canonG (readG fs rs)).objs = tot (mF fs rs) := by
  rw [mF_lay h]
  unfold tot
  rw [show (fun f : List Int => f.length + 1) = (fun n => n + 1) ∘ List.length from rfl, show (fun f : List V => f.length + 1) = (fun n => n + 1) ∘ List.length from rfl, ← List.map_map, ← List.map_map, lens_fields]

theorem mF_256 {hs : List Int} {fs : List (List Int)} {rs : List Int} (h : Arn hs fs rs) : tot (mF fs rs) ≤ 256 := by
  rw [mF_tot]
  have := (ord_ok h).tot_le
  have := h.n256
  omega

theorem arn_moved {hs : List Int} {fs : List (List Int)} {rs : List Int} (h : Arn hs fs rs) : Arn (mH hs fs rs) (mF fs rs) (mvR fs rs) := by
  have hG := good_canon (good_read h)
  obtain ⟨hnr, hno⟩ := num_canon h
  have ht : tot (canonG (readG fs rs)).objs ≤ 256 := by rw [canon_tot h]; exact mF_256 h
  have hr := map_back ht hG.rr hnr
  refine ⟨⟨by rw [mH_len, mF_len], ?_⟩, mF_256 h, by simpa [mvR] using h.n8, ?_, ?_, ?_, ?_⟩
  · intro k x f hx hf
    unfold mH at hx
    unfold mF at hf
    rw [List.getElem?_map] at hx hf
    cases ho : (orderOf (readG fs rs))[k]? with
    | none => rw [ho] at hx; cases hx
    | some o =>
      rw [ho] at hx hf
      simp only [Option.map_some, Option.some.injEq] at hx hf
      subst hx hf
      have hrg := (ord_ok h).rng o (List.mem_of_getElem? ho)
      obtain ⟨i, rfl⟩ := Int.eq_ofNat_of_zero_le hrg.1
      have hi : i < fs.length := by omega
      obtain ⟨y, hy, hy1, hy2, hy3, hy4⟩ := fit_at h.fit hi
      have e1 : hO hs (i : Int) = ageW y := by simp [hO, List.getD_eq_getElem?_getD, hy]
      have e2 : fO fs (i : Int) = fs[i] := by simp [fO, List.getD_eq_getElem?_getD, hi]
      have ha := ageW_ok y
      rw [e1, e2]
      exact ⟨ha.1, by rw [ageW_wlen hy1, hy2]; simp, ha.2.2.2.2⟩
  · rw [mR_lay h]; exact hr.2.2
  · intro f hf
    rw [mF_lay h] at hf
    obtain ⟨l, hl, rfl⟩ := List.mem_map.1 hf
    exact (map_back ht (hG.ro l hl) (hno l hl)).2.2
  · rw [mR_lay h, mF_st h]; exact hr.2.1
  · intro f hf
    rw [mF_st h]
    rw [mF_lay h] at hf
    obtain ⟨l, hl, rfl⟩ := List.mem_map.1 hf
    exact (map_back ht (hG.ro l hl) (hno l hl)).2.1

/-- It is numbered as found. -/
theorem read_moved {hs : List Int} {fs : List (List Int)} {rs : List Int} (h : Arn hs fs rs) : readG (mF fs rs) (mvR fs rs) = canonG (readG fs rs) := by
  have hG := good_canon (good_read h)
  obtain ⟨hnr, hno⟩ := num_canon h
  have ht : tot (canonG (readG fs rs)).objs ≤ 256 := by rw [canon_tot h]; exact mF_256 h
  have e1 : (mF fs rs).map (fun f => f.map (valW (stF 0 (mF fs rs)))) = (canonG (readG fs rs)).objs := by
    rw [mF_st h, mF_lay h]
    unfold layFields
    rw [List.map_map]
    conv => rhs; rw [← List.map_id (canonG (readG fs rs)).objs]
    apply List.map_congr_left
    intro l hl
    exact (map_back ht (hG.ro l hl) (hno l hl)).1
  have e2 : (mvR fs rs).map (valW (stF 0 (mF fs rs))) = (canonG (readG fs rs)).roots := by
    rw [mF_st h, mR_lay h]
    exact (map_back ht hG.rr hnr).1
  unfold readG
  rw [e1, e2]
  rfl

/-- How many words what can be come to has. -/
def sizeR (fs : List (List Int)) (R : List Int) : Nat := tot (R.map (fO fs))

theorem size_eq {hs : List Int} {fs : List (List Int)} {rs : List Int} (h : Arn hs fs rs) : sizeR fs (reachK (readG fs rs) (readG fs rs).objs.length) = tot (mF fs rs) := by
  have hO := ord_ok h
  have hnd : (reachK (readG fs rs) (readG fs rs).objs.length).Nodup := by
    unfold reachK
    unfold List.Nodup
    rw [List.pairwise_map]
    exact (List.Pairwise.filter _ List.nodup_range).imp (fun h e => h (by omega))
  have hm : ∀ x, x ∈ reachK (readG fs rs) (readG fs rs).objs.length ↔ x ∈ orderOf (readG fs rs) := by
    intro x
    constructor
    · intro hx
      have hx0 : ∃ j : Nat, x = (j : Int) := by
        unfold reachK at hx
        obtain ⟨j, _, e⟩ := List.mem_map.1 hx
        exact ⟨j, e.symm⟩
      obtain ⟨j, rfl⟩ := hx0
      exact (rch_order h j).1 ((mem_reachK h j).1 hx)
    · intro hx
      obtain ⟨j, rfl⟩ := Int.eq_ofNat_of_zero_le (hO.rng x hx).1
      exact (mem_reachK h j).2 ((rch_order h j).2 hx)
  have e : ∀ (L : List Int), tot (L.map (fO fs)) = (L.map fun o => (fO fs o).length + 1).sum := fun L => by unfold tot; rw [List.map_map]; rfl
  unfold sizeR
  rw [mF_tot, e, e]
  have a := sum_sub (fun o : Int => (fO fs o).length + 1) _ _ hnd (fun x hx => (hm x).1 hx)
  have b := sum_sub (fun o : Int => (fO fs o).length + 1) _ _ hO.nd (fun x hx => (hm x).2 hx)
  omega

end Go.Proofs.Ytnbhciejlidnlaa

/- Plain: the arena that was moved down. -/
namespace Go.Proofs.Ytnbhciejlidnlaa
set_option linter.unusedSimpArgs false
set_option linter.unusedVariables false
open Go.RowKit

/-- A header without its mark, by the object's number. -/
def rO (hs : List Int) (o : Int) : Int := reh false (hs.getD o.toNat 0)
/-- The headers, fields and roots of the objects of a list, as they stand there. -/
def sH (hs : List Int) (L : List Int) : List Int := L.map (rO hs)
def sF (fs : List (List Int)) (L : List Int) : List (List Int) := L.map fun o => (fO fs o).map (twW fs L)
def sR (fs : List (List Int)) (L : List Int) (rs : List Int) : List Int := rs.map (twW fs L)

theorem sH_len (hs L : List Int) : (sH hs L).length = L.length := by simp [sH]
theorem sF_len (fs : List (List Int)) (L : List Int) : (sF fs L).length = L.length := by simp [sF]
theorem sF_tot (fs : List (List Int)) (L : List Int) : tot (sF fs L) = tot (L.map (fO fs)) := by
  unfold tot sF
  rw [List.map_map, List.map_map]
  congr 1
  apply List.map_congr_left
  intro o _
  simp

section
variable {hs : List Int} {fs : List (List Int)} {rs L : List Int}

theorem Whole.ok (hL : Whole (readG fs rs) L) : OOk fs L := ⟨hL.nd, fun o ho => by have := hL.rng o ho; rw [readG_len] at this; exact this⟩

theorem ren_objs (hL : Whole (readG fs rs) L) : (renL (readG fs rs) L).objs = L.map fun o => ((fO fs o).map (valW (stF 0 fs))).map (renV L) := by
  unfold renL
  simp only
  apply List.map_congr_left
  intro o ho
  have := hL.ok.rng o ho
  rw [field_of rs this.1 this.2]

theorem ren_st (hL : Whole (readG fs rs) L) : stF 0 (renL (readG fs rs) L).objs = stF 0 (L.map (fO fs)) := by
  rw [ren_objs hL]
  apply stF_same
  rw [List.map_map, List.map_map]
  apply List.map_congr_left
  intro o _
  simp

theorem sF_st (hL : Whole (readG fs rs) L) : stF 0 (sF fs L) = stF 0 (renL (readG fs rs) L).objs := by
  rw [ren_st hL]
  apply stF_same
  unfold sF
  rw [List.map_map, List.map_map]
  apply List.map_congr_left
  intro o _
  simp

theorem sF_lay (hL : Whole (readG fs rs) L) : sF fs L = layFields (stF 0 (renL (readG fs rs) L).objs) (renL (readG fs rs) L).objs := by
  unfold layFields
  rw [ren_st hL, ren_objs hL, List.map_map]
  unfold sF
  apply List.map_congr_left
  intro o _
  simp only [Function.comp, List.map_map]
  rfl

theorem sR_lay (hL : Whole (readG fs rs) L) : sR fs L rs = (renL (readG fs rs) L).roots.map (packV (stF 0 (renL (readG fs rs) L).objs)) := by
  rw [ren_st hL]
  unfold sR renL readG
  simp only [List.map_map]
  rfl

theorem good_ren {g : Gr} {L : List Int} (h : Good g) (hL : Whole g L) : Good (renL g L) := by
  have hol := hL.le
  have hn := h.n24
  have key : ∀ (l : List V), RefsOk l → (∀ x ∈ refsL l, x ∈ L) → ∀ v ∈ l.map (renV L), v.1 = true → 0 ≤ v.2 ∧ v.2 < (renL g L).objs.length := by
    intro l hl hm v hv h1
    obtain ⟨u, hu, rfl⟩ := List.mem_map.1 hv
    have hu1 : u.1 = true := by
      cases hu1 : u.1
      · unfold renV at h1; rw [hu1] at h1; simp [hu1] at h1
      · rfl
    have := placeOf_bounds (hm _ (mem_refs_of hl hu hu1))
    unfold renV
    rw [if_pos hu1, renL_len]
    exact this
  refine ⟨by rw [renL_len]; omega, by simpa [renL] using h.n8, ?_, ?_, ?_⟩
  · intro l hl
    unfold renL at hl
    obtain ⟨o, ho, rfl⟩ := List.mem_map.1 hl
    have := hL.rng o ho
    simpa using h.n4 _ (fieldsOf_mem this.1 this.2)
  · intro v hv
    exact key _ h.refsRoots hL.roots v hv
  · intro l hl v hv
    unfold renL at hl
    obtain ⟨o, ho, rfl⟩ := List.mem_map.1 hl
    have := hL.rng o ho
    exact key _ (h.refsObjs (fieldsOf_mem this.1 this.2)) (hL.fields o ho) v hv

theorem num_renL (h : Arn hs fs rs) (hL : Whole (readG fs rs) L) : NumOk (renL (readG fs rs) L).roots ∧ ∀ l ∈ (renL (readG fs rs) L).objs, NumOk l := by
  obtain ⟨_, _, _, h1, h2⟩ := read_lay h
  refine ⟨num_ren h1, fun l hl => ?_⟩
  unfold renL at hl
  obtain ⟨o, ho, rfl⟩ := List.mem_map.1 hl
  have := hL.rng o ho
  exact num_ren (h2 _ (fieldsOf_mem this.1 this.2))

theorem ren_tot (hL : Whole (readG fs rs) L) : tot (renL (readG fs rs) L).objs = tot (sF fs L) := by
  rw [sF_lay hL]
  unfold tot
  rw [show (fun f : List Int => f.length + 1) = (fun n => n + 1) ∘ List.length from rfl, show (fun f : List V => f.length + 1) = (fun n => n + 1) ∘ List.length from rfl, ← List.map_map, ← List.map_map, lens_fields]

theorem sF_le (hL : Whole (readG fs rs) L) : tot (sF fs L) ≤ tot fs := by
  rw [sF_tot]
  exact hL.ok.tot_le

theorem sF_256 (h : Arn hs fs rs) (hL : Whole (readG fs rs) L) : tot (sF fs L) ≤ 256 := by
  have := sF_le hL
  have := h.n256
  omega

theorem rO_at (h : Fit hs fs) {i : Nat} (hi : i < fs.length) : ∃ y, hs[i]? = some y ∧ rO hs (i : Int) = reh false y ∧ unheadOk y = true ∧ wlen y = fs[i].length := by
  obtain ⟨y, hy, hy1, hy2, hy3, hy4⟩ := fit_at h hi
  exact ⟨y, hy, by simp [rO, List.getD_eq_getElem?_getD, hy], hy1, hy2⟩

theorem fO_at {i : Nat} (hi : i < fs.length) : fO fs (i : Int) = fs[i] := by simp [fO, List.getD_eq_getElem?_getD, hi]

theorem arn_slid (h : Arn hs fs rs) (hL : Whole (readG fs rs) L) : Arn (sH hs L) (sF fs L) (sR fs L rs) := by
  have hG := good_ren (good_read h) hL
  obtain ⟨hnr, hno⟩ := num_renL h hL
  have ht : tot (renL (readG fs rs) L).objs ≤ 256 := by rw [ren_tot hL]; exact sF_256 h hL
  have hr := map_back ht hG.rr hnr
  refine ⟨⟨by rw [sH_len, sF_len], ?_⟩, sF_256 h hL, by simpa [sR] using h.n8, ?_, ?_, ?_, ?_⟩
  · intro k x f hx hf
    unfold sH at hx
    unfold sF at hf
    rw [List.getElem?_map] at hx hf
    cases ho : L[k]? with
    | none => rw [ho] at hx; cases hx
    | some o =>
      rw [ho] at hx hf
      simp only [Option.map_some, Option.some.injEq] at hx hf
      subst hx hf
      have hrg := hL.ok.rng o (List.mem_of_getElem? ho)
      obtain ⟨i, rfl⟩ := Int.eq_ofNat_of_zero_le hrg.1
      have hi : i < fs.length := by omega
      obtain ⟨y, hy, e1, hy1, hy2⟩ := rO_at h.fit hi
      have ha := reh_ok false y
      rw [e1, fO_at hi]
      exact ⟨ha.1, by rw [reh_wlen hy1, hy2]; simp, ha.2.2.2.2⟩
  · rw [sR_lay hL]; exact hr.2.2
  · intro f hf
    rw [sF_lay hL] at hf
    obtain ⟨l, hl, rfl⟩ := List.mem_map.1 hf
    exact (map_back ht (hG.ro l hl) (hno l hl)).2.2
  · rw [sR_lay hL, sF_st hL]; exact hr.2.1
  · intro f hf
    rw [sF_st hL]
    rw [sF_lay hL] at hf
    obtain ⟨l, hl, rfl⟩ := List.mem_map.1 hf
    exact (map_back ht (hG.ro l hl) (hno l hl)).2.1

/-- It is numbered as it stands. -/
theorem read_slid (h : Arn hs fs rs) (hL : Whole (readG fs rs) L) : readG (sF fs L) (sR fs L rs) = renL (readG fs rs) L := by
  have hG := good_ren (good_read h) hL
  obtain ⟨hnr, hno⟩ := num_renL h hL
  have ht : tot (renL (readG fs rs) L).objs ≤ 256 := by rw [ren_tot hL]; exact sF_256 h hL
  have e1 : (sF fs L).map (fun f => f.map (valW (stF 0 (sF fs L)))) = (renL (readG fs rs) L).objs := by
    rw [sF_st hL, sF_lay hL]
    unfold layFields
    rw [List.map_map]
    conv => rhs; rw [← List.map_id (renL (readG fs rs) L).objs]
    apply List.map_congr_left
    intro l hl
    exact (map_back ht (hG.ro l hl) (hno l hl)).1
  have e2 : (sR fs L rs).map (valW (stF 0 (sF fs L))) = (renL (readG fs rs) L).roots := by
    rw [sF_st hL, sR_lay hL]
    exact (map_back ht hG.rr hnr).1
  unfold readG
  rw [e1, e2]
  rfl

theorem canon_slid (h : Arn hs fs rs) (hL : Whole (readG fs rs) L) : canonG (readG (sF fs L) (sR fs L rs)) = canonG (readG fs rs) := by
  rw [read_slid h hL]
  exact canon_ren (good_read h) hL

end

/-- The objects of an arena that can be come to. -/
def rL (fs : List (List Int)) (rs : List Int) : List Int := reachK (readG fs rs) (readG fs rs).objs.length

theorem mem_rL {hs : List Int} {fs : List (List Int)} {rs : List Int} (h : Arn hs fs rs) (x : Int) : x ∈ rL fs rs ↔ x ∈ orderOf (readG fs rs) := by
  constructor
  · intro hx
    have hx0 : ∃ j : Nat, x = (j : Int) := by
      unfold rL reachK at hx
      obtain ⟨j, _, e⟩ := List.mem_map.1 hx
      exact ⟨j, e.symm⟩
    obtain ⟨j, rfl⟩ := hx0
    exact (rch_order h j).1 ((mem_reachK h j).1 hx)
  · intro hx
    obtain ⟨j, rfl⟩ := Int.eq_ofNat_of_zero_le ((ord_ok h).rng x hx).1
    exact (mem_reachK h j).2 ((rch_order h j).2 hx)

theorem rL_sorted (fs : List (List Int)) (rs : List Int) : (rL fs rs).Pairwise (· < ·) := by
  unfold rL reachK
  rw [List.pairwise_map]
  exact (List.Pairwise.filter _ List.pairwise_lt_range).imp (fun h => by omega)

theorem whole_rL {hs : List Int} {fs : List (List Int)} {rs : List Int} (h : Arn hs fs rs) : Whole (readG fs rs) (rL fs rs) := by
  have hO := whole_order (good_read h)
  refine ⟨(rL_sorted fs rs).imp (fun h => by omega), fun o ho => hO.rng o ((mem_rL h o).1 ho), fun x hx => (mem_rL h x).2 (hO.roots x hx), fun o ho x hx => (mem_rL h x).2 (hO.fields o ((mem_rL h o).1 ho) x hx)⟩

/-- The marked ones among the first n. -/
def mL (p : Nat → Bool) (n : Nat) : List Int := ((List.range n).filter fun (i : Nat) => p i).map fun (i : Nat) => (i : Int)

theorem mL_yes {p : Nat → Bool} {k : Nat} (h : p k = true) : mL p (k + 1) = mL p k ++ [(k : Int)] := by
  unfold mL; rw [List.range_succ, List.filter_append, List.map_append]; simp [h]
theorem mL_no {p : Nat → Bool} {k : Nat} (h : p k = false) : mL p (k + 1) = mL p k := by
  unfold mL; rw [List.range_succ, List.filter_append, List.map_append]; simp [h]
theorem mL_zero (p : Nat → Bool) : mL p 0 = [] := rfl
theorem mL_notin (p : Nat → Bool) (k : Nat) : (k : Int) ∉ mL p k := by
  unfold mL
  intro h
  obtain ⟨j, hj, e⟩ := List.mem_map.1 h
  have := List.mem_range.1 (List.mem_filter.1 hj).1
  omega
theorem mL_pre (p : Nat → Bool) (k : Nat) : ∀ n, k ≤ n → mL p k <+: mL p n
  | 0, h => by obtain rfl : k = 0 := by omega
               exact List.prefix_refl _
  | n + 1, h => by
    by_cases e : k = n + 1
    · subst e; exact List.prefix_refl _
    · have ih := mL_pre p k n (by omega)
      cases hp : p n
      · rw [mL_no hp]; exact ih
      · rw [mL_yes hp]; exact ih.trans (List.prefix_append _ _)

theorem mL_rL {hs : List Int} {fs : List (List Int)} {rs : List Int} (h : Arn hs fs rs) {p : Nat → Bool} (hp : ∀ j, p j = true ↔ Rch fs rs j) : mL p fs.length = rL fs rs := by
  have hG := good_read h
  unfold mL rL reachK
  rw [readG_len]
  congr 1
  apply List.filter_congr
  intro i _
  have e : (0 ≤ dG (readG fs rs) i) ↔ p i = true := by
    rw [hp, rch_order h, ← distAt_nonneg hG]
    rfl
  by_cases hq : p i = true
  · rw [hq]; simpa using e.2 hq
  · have : p i = false := by simpa using hq
    rw [this]
    have : ¬ (0 ≤ dG (readG fs rs) i) := fun hh => hq (e.1 hh)
    simpa using this

end Go.Proofs.Ytnbhciejlidnlaa

/- Walks: turn. -/
namespace Go.Proofs.Ytnbhciejlidnlaa
set_option linter.unusedSimpArgs false
set_option linter.unusedVariables false
open Go.RowKit Go.Shelf

/-- A map in memory that tells where each object comes to stand. -/
def NowM (W : World) (N mb : Nat) (fs : List (List Int)) (L : List Int) : Prop := ∃ M, W.ownsMap Try.prog 3 (plainElem Try.prog 3) mb L.length M ∧ N ≤ mb ∧ NowD fs M L

theorem NowM.lt {W : World} {N mb : Nat} {fs : List (List Int)} {L : List Int} (h : NowM W N mb fs L) : mb < W.heap.size := by
  obtain ⟨M, h1, _⟩ := h
  exact h1.lt

theorem NowM.kept {W W' : World} {N mb : Nat} {fs : List (List Int)} {L : List Int} {o : Option Nat} (h : NowM W N mb fs L) (hg : W.grownBy W' o) (ho : some mb ≠ o) : NowM W' N mb fs L := by
  obtain ⟨M, h1, h2, h3⟩ := h
  exact ⟨M, h1.kept hg ho, h2, h3⟩

theorem NowM.below {W W' : World} {N mb : Nat} {fs : List (List Int)} {L : List Int} (h : NowM W N mb fs L) (hb : Below W.heap.size W W') : NowM W' N mb fs L :=
  h.kept (grown_none hb) (by simp)

set_option maxRecDepth 100000 in
theorem NowM.look {W : World} {N mb : Nat} {fs : List (List Int)} {L : List Int} {i : Nat} (h : NowM W N mb fs L) (hi : i < fs.length) (h256 : tot fs ≤ 256) (hm : (i : Int) ∈ L) :
    (Instr.lookup 47 (.map (some mb)) (.int .i64 (tot (fs.take i) : Nat)) false).run Try.prog W = .ok (.int .i64 ((tot ((L.map (fO fs)).take (L.idxOf (i : Int))) : Nat) : Int)) W := by
  obtain ⟨M, h1, _, h2⟩ := h
  have hpl := place_lt hi
  obtain ⟨d, e1, e2, _⟩ := h1.lookup_int (Maps.int_keyed Try.underlying3) Try.underlying47 Try.underlying3 (Try.zeroValue3 _) (Maps.keyOf_int_mk Try.underlying3 (wf_i64 (x := ((tot (fs.take i) : Nat) : Int)) (by omega) (by omega)))
  rw [(h2 i hi).2 hm] at e2
  injection e2 with e2
  injection e2 with _ e2
  rw [e1, e2]

set_option maxRecDepth 100000 in
set_option maxHeartbeats 2000000 in
theorem sturn_c (a : Option Addr) (cap : Nat) (l : List Int) (fs : List (List Int)) (L : List Int) (N mb B : Nat) (w : World) (hl : Wds B w a l) (hB : B ≤ w.heap.size) (hU : U64 l) (hok : ∀ x ∈ l, okW (stF 0 fs) x = true) (hO : OOk fs L)
    (hin : ∀ j, To fs l j → (j : Int) ∈ L) (hM : NowM w N mb fs L) (h256 : tot fs ≤ 256) (hlen : l.length ≤ 256) :
    Calls Try.prog 22 #[.slice a l.length cap, .map (some mb)] w fun e w' => (e = .returned (.slice (some ⟨w.heap.size, 0, none⟩) l.length l.length) ∧ WdsF w.heap.size w' (some ⟨w.heap.size, 0, none⟩) (l.map (twW fs L))) ∧ Below w.heap.size w w' := by
  obtain ⟨i0, hi0, hz0, hz1, hz2⟩ := info_parts Try.info51m
  have HL := hide hl
  have HM := hide hM
  have HU := hide hU
  have Hok := hide hok
  have Hin := hide hin
  have HO := hide hO
  clear hl hM hU hok hin hO
  go_enter Try.func22, Try.ntmps22
  go_wp2_with (at_make; go_must (refine wpList_make_at _ rfl _ _ 22 rfl w.heap.size 51 i0 _ 1 Try.underlying22 hi0 hz0 hz1 .i64 .i64 _ _ l.length rfl rfl rfl rfl (by rw [hz2]; omega) (by simp only [maxLen]; omega) (Nat.le_refl _) ?_); go_must (intro w5 hown5 hg5 hs5; have hb5 : Below w.heap.size w w5 := (Below.refl _ _).grown hg5 (Nat.le_refl _) (fun k e => by cases e)))
  generalize (madeCells _ _).toList = cs0 at *
  have HM5 := hide ((unhide HM).kept hg5 (by simp))
  have hml : (l.map (twW fs L)).length = l.length := by simp
  have hml1 : (l.map (twW fs L)).length ≤ l.length := by omega
  have hml2 : l.length ≤ (l.map (twW fs L)).length := by omega
  have hmlt := (unhide HM).lt
  clear hml hg5 HM
  have hrb5 : w.heap.size < w5.heap.size := by omega
  have hmn : Hid (w.heap.size ≠ mb) := by show _ ≠ _; omega
  go_loopw [15] (fun i wr => ∃ (k : Nat) (cs : List Value), k ≤ l.length ∧ i = .int .i64 k ∧ Hid (NowM wr N mb fs L) ∧
    wr.ownsRow w.heap.size 51 1 (.slice (some ⟨w.heap.size, 0, none⟩) l.length l.length) l.length cs ∧ Hid (cs.take k = wordsV ((l.map (twW fs L)).take k)) ∧ Below w.heap.size w wr) (fun i _ => l.length - (intOf i).toNat)
  case atStart => exact ⟨0, cs0, Nat.zero_le _, rfl, HM5, hown5, hide (by simp [wordsV]), hb5⟩
  case round =>
    clear hown5 hb5 hrb5 HM5
    obtain ⟨k, cs, hk, rfl, HMr, hown, Hcs, hb⟩ := hrel
    have hsz := hb.size
    have hrb : w.heap.size < wr.heap.size := (hown.lt _ rfl).2
    by_cases hlt : k < l.length
    · obtain ⟨b, off, rfl, hbB, hc⟩ := ((unhide HL).below (hb.mono hB)).at hlt
      have hux := unhide HU _ (List.getElem_mem hlt)
      have hokx := ok_ref (unhide Hok _ (List.getElem_mem hlt))
      have Hinx : Hid (∀ j : Nat, unRef l[k] = true → (stF 0 fs)[j]? = some (unNum l[k]) → (j : Int) ∈ L) := fun j h1 h2 => unhide Hin j ⟨_, List.getElem_mem hlt, h1, h2⟩
      have Hc := hide (unpack_c l[k] wr hux.1 hux.2)
      have hl0 := hown.1
      have hlc : k < cs.length := by omega
      obtain ⟨u1, hu1⟩ : ∃ u, cs[k]? = some u := ⟨cs[k], List.getElem?_eq_getElem hlc⟩
      have Hnew := hide (words_set (x := twW fs L l[k]) (k := k) (ws := l.map (twW fs L)) hlc (by simpa using hlt) (by simp) (unhide Hcs))
      have Hnum : Hid (unRef l[k] = false → twW fs L l[k] = l[k]) := fun h => twW_num h hux.1 hux.2 hokx.1
      have Href : Hid (∀ j : Nat, valW (stF 0 fs) l[k] = (true, (j : Int)) → (j : Int) ∈ L → twW fs L l[k] = packW true ((tot ((L.map (fO fs)).take (L.idxOf (j : Int))) : Nat) : Int)) := fun j h1 h2 => twW_ref h1 h2
      have Hex := hide hokx.2
      have Hvr : Hid (∀ j : Nat, unRef l[k] = true → (stF 0 fs)[j]? = some (unNum l[k]) → valW (stF 0 fs) l[k] = (true, (j : Int))) := fun j h1 h2 => by rw [valW_ref h1, placeOf_nodup (stF_nodup fs 0) h2]
      have hkI : (k : Int) < (l.length : Int) := by omega
      have hbl : b < wr.heap.size := by omega
      generalize l[k] = x at *
      generalize twW fs L x = tw at *
      clear hux hokx hl0 hlc HL HU Hok
      have x1 := cellRow_at hown hu1
      have y1 := hown.frozenAt k
      go_wp2_with fail
      refine (unhide Hc).mono ?_
      rintro e w3 ⟨rfl, hb3⟩
      have hs3 := hb3.size
      have hbw3 : Below w.heap.size w w3 := hb.trans (hb3.mono hsz)
      clear Hc hc
      cases hr : unRef x
      · have hx := unhide Hnum hr
        subst tw
        have hown3 := ownsRow_below hown (hb3.alloc hs3 (.cells #[.bool false, .int .i64 (unNum x)] 57))
        have x1 := cellRow_at hown3 hu1
        have y1 := hown3.frozenAt k
        have Hown3 := hide (hown3.stored k (.int .u64 x)).1
        have HM3 := hide ((unhide HMr).below (hb3.alloc hs3 (.cells #[.bool false, .int .i64 (unNum x)] 57)))
        clear hown3 hown
        go_wp2
        go_roundw
        case rel =>
          refine ⟨k + 1, _, by omega, by go_num, ?_, ?_, Hnew, (hbw3.alloc (by omega) _).setCell (p := ⟨w.heap.size, k, none⟩) (Nat.le_refl _) _⟩
          · exact (unhide HM3).kept (grown_set _ w.heap.size k _) (fun e => unhide hmn (by injection e with e; exact e.symm))
          · exact unhide Hown3
        case measure => simp [intOf]; omega
      · obtain ⟨j, hj⟩ := (unhide Hex) hr
        have hjl : j < fs.length := by have := (List.getElem?_eq_some_iff.1 hj).1; rw [stF_len] at this; exact this
        have hj' := stF_get fs 0 j hjl
        rw [Nat.zero_add] at hj'
        have hnum : unNum x = ((tot (fs.take j) : Nat) : Int) := by
          have := hj.symm.trans hj'
          injection this
        have hm := unhide Hinx j hr hj
        have Hpk := hide (unhide Href j (unhide Hvr j hr hj) hm)
        have hpi := place_in (unhide HO) hm
        have hpl := place_lt hjl
        rw [hnum]
        have HM3 := hide ((unhide HMr).below (hb3.alloc hs3 (.cells #[.bool true, .int .i64 (tot (fs.take j) : Nat)] 57)))
        have hlk := (unhide HM3).look hjl h256 hm
        have hown3 := ownsRow_below hown (hb3.alloc hs3 (.cells #[.bool true, .int .i64 (tot (fs.take j) : Nat)] 57))
        have Hown3 := hide hown3
        have Hc2 := hide (fun W q (h : q < tot fs) => pack_c true (q : Nat) W (by omega) (by omega))
        clear hown hown3 x1 y1 hj hj' hnum hr hm Hinx Href Hvr Hnum Hex
        generalize tot ((L.map (fO fs)).take (L.idxOf (j : Int))) = q at *
        generalize tot (fs.take j) = p at *
        go_wp2_with fail
        refine (unhide Hc2 _ q hpi).mono ?_
        rintro e w5 ⟨rfl, hb5⟩
        have hs5 := hb5.size
        have hown5 := ownsRow_below (unhide Hown3) hb5
        have x1 := cellRow_at hown5 hu1
        have y1 := hown5.frozenAt k
        have Hown5 := hide (hown5.stored k (.int .u64 tw)).1
        have HM5 := hide ((unhide HM3).below hb5)
        have hbw5 : Below w.heap.size w w5 := (hbw3.alloc (by omega) _).trans (hb5.mono (by simp; omega))
        rw [← unhide Hpk]
        simp only [World.size_alloc] at hs5
        have hq5 : w.heap.size < w5.heap.size := by omega
        clear hown5 Hc2 hb5 hlk
        go_wp2
        go_roundw
        case rel =>
          refine ⟨k + 1, _, by omega, by go_num, ?_, unhide Hown5, Hnew, hbw5.setCell (p := ⟨w.heap.size, k, none⟩) (Nat.le_refl _) _⟩
          exact (unhide HM5).kept (grown_set _ w.heap.size k _) (fun e => unhide hmn (by injection e with e; exact e.symm))
        case measure => simp [intOf]; omega
    · obtain rfl : k = l.length := by omega
      have hl0 := hown.1
      have hcs : cs = wordsV (l.map (twW fs L)) := by
        have := unhide Hcs
        rw [List.take_of_length_le (by omega), List.take_of_length_le (by simp)] at this
        exact this
      rw [hcs] at hown
      obtain ⟨a4, c4, hv4, hF4, hcl4⟩ := wordsF_of_owns hown (by simp) (by omega)
      injection hv4 with e1 e2 e3
      subst e1
      have HF4 := hide hF4
      clear hcs hl0 hown hF4 hcl4 e2 e3
      go_wp2
      go_ret
      exact ⟨⟨rfl, unhide HF4⟩, hb⟩

end Go.Proofs.Ytnbhciejlidnlaa

/- What a marker holds, in memory. -/
namespace Go.Proofs.Ytnbhciejlidnlaa
set_option linter.unusedSimpArgs false
set_option linter.unusedVariables false
open Go.RowKit Go.Shelf

theorem ty_set {W : World} {mb : Nat} {t : TypeId} (h : ∃ cs, W.heap[mb]? = some (.cells cs t)) (j : Nat) (u : Value) : ∃ cs, (W.setCell ⟨mb, j, none⟩ u).heap[mb]? = some (.cells cs t) := by
  obtain ⟨cs, h⟩ := h
  exact ⟨_, heap_setCell_same W mb j cs t u h⟩

/-- Blocks of other types than words, numbers and markers are as they were. -/
def KeepT (W W' : World) : Prop := ∀ (k : Nat) (cs : Array Value) (t : TypeId), W.heap[k]? = some (.cells cs t) → t ≠ 51 → t ≠ 3 → t ≠ 78 → W'.heap[k]? = some (.cells cs t)

theorem KeepT.trans {a b c : World} (h : KeepT a b) (h' : KeepT b c) : KeepT a c := fun k cs t hk h1 h2 h3 => h' k cs t (h k cs t hk h1 h2 h3) h1 h2 h3
theorem KeepT.refl (W : World) : KeepT W W := fun k cs t hk _ _ _ => hk
theorem KeepT.below {W W' : World} (h : Below W.heap.size W W') : KeepT W W' := fun k cs t hk _ _ _ => by rw [h.block k (Array.getElem?_eq_some_iff.1 hk).1]; exact hk
theorem KeepT.alloc {a W : World} (h : KeepT a W) (o : Obj) : KeepT a (W.alloc o) := h.trans (KeepT.below ((Below.refl _ _).alloc (Nat.le_refl _) _))
theorem KeepT.setCell {a W : World} (h : KeepT a W) {b j : Nat} {t : TypeId} (hb : ∃ cs, W.heap[b]? = some (.cells cs t)) (ht : t = 51 ∨ t = 3 ∨ t = 78) (u : Value) : KeepT a (W.setCell ⟨b, j, none⟩ u) := by
  refine h.trans fun k cs t' hk h1 h2 h3 => ?_
  obtain ⟨cs', hb⟩ := hb
  rw [Below.heap_setCell _ _ _ _ ?_]
  · exact hk
  · intro e
    subst e
    rw [hk] at hb
    injection hb with hb
    injection hb with _ hb
    subst hb
    rcases ht with ht | ht | ht
    · exact h1 ht
    · exact h2 ht
    · exact h3 ht
theorem KeepT.grown {a W W' : World} (h : KeepT a W) {base n : Nat} {t : TypeId} {size : Nat} {v : Value} {xs : List Value} (hr : W.ownsRow base t size v n xs) (hg : W.grownBy W' v.ownBlock) (ht : t = 51 ∨ t = 3 ∨ t = 78) : KeepT a W' := by
  refine h.trans fun k cs t' hk h1 h2 h3 => ?_
  rw [hg.block k (Array.getElem?_eq_some_iff.1 hk).1 ?_]
  · exact hk
  · intro e
    rcases hr.2 with ⟨rfl, _⟩ | ⟨g, cap, cur, rfl, _, hb, _⟩
    · simp [Value.ownBlock] at e
    · obtain rfl : k = g := by simpa [Value.ownBlock] using e
      rw [hk] at hb
      injection hb with hb
      injection hb with _ hb
      subst hb
      rcases ht with ht | ht | ht
      · exact h1 ht
      · exact h2 ht
      · exact h3 ht
theorem ty_row {W : World} {base n cap g : Nat} {t : TypeId} {size : Nat} {xs : List Value} (hr : W.ownsRow base t size (.slice (some ⟨g, 0, none⟩) n cap) n xs) : ∃ cs, W.heap[g]? = some (.cells cs t) := by
  rcases hr.2 with ⟨h, _⟩ | ⟨g', cap', cur, h, _, hb, _⟩
  · cases h
  · cases h
    exact ⟨cur, hb⟩

/-- The five cells of a marker. -/
structure MBox (W : World) (mb : Nat) (vw vr : Value) (room : Nat) (vk : Value) (lost : Bool) : Prop where
  c0 : W.cell? ⟨mb, 0, none⟩ = some vw
  c1 : W.cell? ⟨mb, 1, none⟩ = some vr
  c2 : W.cell? ⟨mb, 2, none⟩ = some (.int .i64 room)
  c3 : W.cell? ⟨mb, 3, none⟩ = some vk
  c4 : W.cell? ⟨mb, 4, none⟩ = some (.bool lost)
  fr : ∀ j, W.frozen? ⟨mb, j, none⟩ = false
  ty : ∃ cs, W.heap[mb]? = some (.cells cs 78)

theorem MBox.kept {W W' : World} {mb : Nat} {vw vr vk : Value} {room : Nat} {lost : Bool} (h : MBox W mb vw vr room vk lost) (hb : W'.heap[mb]? = W.heap[mb]?) : MBox W' mb vw vr room vk lost :=
  ⟨(World.cell?_of_block (a := ⟨mb, 0, none⟩) hb).trans h.c0, (World.cell?_of_block (a := ⟨mb, 1, none⟩) hb).trans h.c1, (World.cell?_of_block (a := ⟨mb, 2, none⟩) hb).trans h.c2, (World.cell?_of_block (a := ⟨mb, 3, none⟩) hb).trans h.c3, (World.cell?_of_block (a := ⟨mb, 4, none⟩) hb).trans h.c4,
    fun j => (World.frozen?_of_block (a := ⟨mb, j, none⟩) hb).trans (h.fr j), by rw [hb]; exact h.ty⟩

theorem MBox.lt {W : World} {mb : Nat} {vw vr vk : Value} {room : Nat} {lost : Bool} (h : MBox W mb vw vr room vk lost) : mb < W.heap.size := World.block_lt_of_cell? W _ h.c0

theorem MBox.set0 {W : World} {mb : Nat} {vw vr vk : Value} {room : Nat} {lost : Bool} (h : MBox W mb vw vr room vk lost) (v : Value) : MBox (W.setCell ⟨mb, 0, none⟩ v) mb v vr room vk lost := by
  refine ⟨World.cell?_setCell_same' _ _ _ (by rw [h.c0]; rfl), ?_, ?_, ?_, ?_, fun j => by rw [World.frozen?_setCell]; exact h.fr j, ty_set h.ty _ _⟩
  · rw [World.cell?_setCell_other _ _ _ _ (by simp)]; exact h.c1
  · rw [World.cell?_setCell_other _ _ _ _ (by simp)]; exact h.c2
  · rw [World.cell?_setCell_other _ _ _ _ (by simp)]; exact h.c3
  · rw [World.cell?_setCell_other _ _ _ _ (by simp)]; exact h.c4

theorem MBox.set1 {W : World} {mb : Nat} {vw vr vk : Value} {room : Nat} {lost : Bool} (h : MBox W mb vw vr room vk lost) (v : Value) : MBox (W.setCell ⟨mb, 1, none⟩ v) mb vw v room vk lost := by
  refine ⟨?_, World.cell?_setCell_same' _ _ _ (by rw [h.c1]; rfl), ?_, ?_, ?_, fun j => by rw [World.frozen?_setCell]; exact h.fr j, ty_set h.ty _ _⟩
  · rw [World.cell?_setCell_other _ _ _ _ (by simp)]; exact h.c0
  · rw [World.cell?_setCell_other _ _ _ _ (by simp)]; exact h.c2
  · rw [World.cell?_setCell_other _ _ _ _ (by simp)]; exact h.c3
  · rw [World.cell?_setCell_other _ _ _ _ (by simp)]; exact h.c4

theorem MBox.set3 {W : World} {mb : Nat} {vw vr vk : Value} {room : Nat} {lost : Bool} (h : MBox W mb vw vr room vk lost) (v : Value) : MBox (W.setCell ⟨mb, 3, none⟩ v) mb vw vr room v lost := by
  refine ⟨?_, ?_, ?_, World.cell?_setCell_same' _ _ _ (by rw [h.c3]; rfl), ?_, fun j => by rw [World.frozen?_setCell]; exact h.fr j, ty_set h.ty _ _⟩
  · rw [World.cell?_setCell_other _ _ _ _ (by simp)]; exact h.c0
  · rw [World.cell?_setCell_other _ _ _ _ (by simp)]; exact h.c1
  · rw [World.cell?_setCell_other _ _ _ _ (by simp)]; exact h.c2
  · rw [World.cell?_setCell_other _ _ _ _ (by simp)]; exact h.c4

theorem MBox.set4 {W : World} {mb : Nat} {vw vr vk : Value} {room : Nat} {lost : Bool} (h : MBox W mb vw vr room vk lost) (b : Bool) : MBox (W.setCell ⟨mb, 4, none⟩ (.bool b)) mb vw vr room vk b := by
  refine ⟨?_, ?_, ?_, ?_, World.cell?_setCell_same' _ _ _ (by rw [h.c4]; rfl), fun j => by rw [World.frozen?_setCell]; exact h.fr j, ty_set h.ty _ _⟩
  · rw [World.cell?_setCell_other _ _ _ _ (by simp)]; exact h.c0
  · rw [World.cell?_setCell_other _ _ _ _ (by simp)]; exact h.c1
  · rw [World.cell?_setCell_other _ _ _ _ (by simp)]; exact h.c2
  · rw [World.cell?_setCell_other _ _ _ _ (by simp)]; exact h.c3

/-- A marker: its words, its roots, the places that are kept. -/
structure Mk (W : World) (N mb : Nat) (vw vr vk : Value) (ws rs K : List Int) (room : Nat) (lost : Bool) : Prop where
  box : MBox W mb vw vr room vk lost
  lo : N ≤ mb
  wo : W.ownsRow N 51 1 vw ws.length (wordsV ws)
  ro : W.ownsRow N 51 1 vr rs.length (wordsV rs)
  ko : W.ownsRow N 3 1 vk K.length (intsV K)
  aw : vw.ownBlock ≠ some mb
  ar : vr.ownBlock ≠ some mb
  ak : vk.ownBlock ≠ some mb
  wr : ∀ k, vw.ownBlock = some k → vr.ownBlock ≠ some k
  wk : ∀ k, vw.ownBlock = some k → vk.ownBlock ≠ some k
  rk : ∀ k, vr.ownBlock = some k → vk.ownBlock ≠ some k

theorem Mk.below {W W' : World} {N mb : Nat} {vw vr vk : Value} {ws rs K : List Int} {room : Nat} {lost : Bool} (h : Mk W N mb vw vr vk ws rs K room lost) (hb : Below W.heap.size W W') : Mk W' N mb vw vr vk ws rs K room lost :=
  ⟨h.box.kept (hb.block _ h.box.lt), h.lo, ownsRow_below h.wo hb, ownsRow_below h.ro hb, ownsRow_below h.ko hb, h.aw, h.ar, h.ak, h.wr, h.wk, h.rk⟩

theorem Mk.alloc {W : World} {N mb : Nat} {vw vr vk : Value} {ws rs K : List Int} {room : Nat} {lost : Bool} (h : Mk W N mb vw vr vk ws rs K room lost) (o : Obj) : Mk (W.alloc o) N mb vw vr vk ws rs K room lost :=
  h.below ((Below.refl _ _).alloc (Nat.le_refl _) _)

/-- Behind a store of a word. -/
theorem Mk.setW {W : World} {N mb wb cap n : Nat} {vr vk : Value} {ws rs K : List Int} {room : Nat} {lost : Bool} (h : Mk W N mb (.slice (some ⟨wb, 0, none⟩) n cap) vr vk ws rs K room lost) (hn : n = ws.length) (j : Nat) (y : Int) :
    Mk (W.setCell ⟨wb, j, none⟩ (.int .u64 y)) N mb (.slice (some ⟨wb, 0, none⟩) n cap) vr vk (ws.set j y) rs K room lost := by
  subst hn
  have hg := grown_set W wb j (.int .u64 y)
  have e : wordsV (ws.set j y) = (wordsV ws).set j (.int .u64 y) := by simp [wordsV, List.map_set]
  refine ⟨h.box.kept (hg.block _ h.box.lt (fun e => h.aw e.symm)), h.lo, ?_, h.ro.kept hg (or_ne (h.wr wb rfl)), h.ko.kept hg (or_ne (h.wk wb rfl)), h.aw, h.ar, h.ak, h.wr, h.wk, h.rk⟩
  rw [e, List.length_set]
  exact (h.wo.stored j (.int .u64 y)).1

/-- Behind a store of whether something was lost. -/
theorem Mk.setL {W : World} {N mb : Nat} {vw vr vk : Value} {ws rs K : List Int} {room : Nat} {lost : Bool} (h : Mk W N mb vw vr vk ws rs K room lost) (b : Bool) : Mk (W.setCell ⟨mb, 4, none⟩ (.bool b)) N mb vw vr vk ws rs K room b := by
  have hg := grown_set W mb 4 (.bool b)
  exact ⟨h.box.set4 b, h.lo, h.wo.kept hg (or_ne h.aw), h.ro.kept hg (or_ne h.ar), h.ko.kept hg (or_ne h.ak), h.aw, h.ar, h.ak, h.wr, h.wk, h.rk⟩

/-- Behind a store of the kept places. -/
theorem Mk.setK {W : World} {N mb : Nat} {vw vr vk vk' : Value} {ws rs K' : List Int} {room : Nat} {lost : Bool} (h : MBox W mb vw vr room vk lost) (lo : N ≤ mb) (wo : W.ownsRow N 51 1 vw ws.length (wordsV ws)) (ro : W.ownsRow N 51 1 vr rs.length (wordsV rs))
    (ko : W.ownsRow N 3 1 vk' K'.length (intsV K')) (aw : vw.ownBlock ≠ some mb) (ar : vr.ownBlock ≠ some mb) (ak : vk'.ownBlock ≠ some mb) (wr : ∀ k, vw.ownBlock = some k → vr.ownBlock ≠ some k) (wk : ∀ k, vw.ownBlock = some k → vk'.ownBlock ≠ some k) (rk : ∀ k, vr.ownBlock = some k → vk'.ownBlock ≠ some k) :
    Mk (W.setCell ⟨mb, 3, none⟩ vk') N mb vw vr vk' ws rs K' room lost := by
  have hg := grown_set W mb 3 vk'
  exact ⟨h.set3 vk', lo, wo.kept hg (or_ne aw), ro.kept hg (or_ne ar), ko.kept hg (or_ne ak), aw, ar, ak, wr, wk, rk⟩

/-- One place less. -/
theorem Mk.pop {W : World} {N mb g cap n : Nat} {vw vr : Value} {ws rs K : List Int} {x : Int} {room : Nat} {lost : Bool} (h : Mk W N mb vw vr (.slice (some ⟨g, 0, none⟩) (n + 1) cap) ws rs (K ++ [x]) room lost) (hn : K.length = n) :
    Mk (W.setCell ⟨mb, 3, none⟩ (.slice (some ⟨g, 0, none⟩) n cap)) N mb vw vr (.slice (some ⟨g, 0, none⟩) n cap) ws rs K room lost := by
  refine Mk.setK h.box h.lo h.wo h.ro ?_ h.aw h.ar h.ak h.wr h.wk h.rk
  have := h.ko
  rw [intsV_snoc, List.length_append] at this
  subst hn
  exact ownsRow_pop (by simp [intsV]) this

/-- One place more: behind the append and the store. -/
theorem Mk.push {W w1 : World} {N mb : Nat} {vw vr vk v' : Value} {ws rs K : List Int} {x : Int} {room : Nat} {lost : Bool} (h : Mk W N mb vw vr vk ws rs K room lost) (hrow : w1.ownsRow N 3 1 v' (K.length + 1) (intsV K ++ [.int .i64 x])) (hg : W.grownBy w1 vk.ownBlock)
    (hat : v'.ownBlock = vk.ownBlock ∨ v'.ownBlock = some W.heap.size) : MBox w1 mb vw vr room vk lost ∧ Mk (w1.setCell ⟨mb, 3, none⟩ v') N mb vw vr v' ws rs (K ++ [x]) room lost := by
  have hbox : MBox w1 mb vw vr room vk lost := h.box.kept (hg.block _ h.box.lt (fun e => h.ak e.symm))
  have apart : ∀ {u : Value}, (∀ k, u.ownBlock = some k → k < W.heap.size) → (∀ k, u.ownBlock = some k → vk.ownBlock ≠ some k) → ∀ k, u.ownBlock = some k → v'.ownBlock ≠ some k := by
    intro u h1 h2 k hk e
    rcases hat with h | h
    · exact h2 k hk (h ▸ e)
    · rw [h] at e; injection e with e; have := h1 k hk; omega
  refine ⟨hbox, Mk.setK hbox h.lo (h.wo.kept hg ?_) (h.ro.kept hg ?_) ?_ h.aw h.ar ?_ h.wr (apart (fun k hk => (h.wo.lt k hk).2) h.wk) (apart (fun k hk => (h.ro.lt k hk).2) h.rk)⟩
  · cases hv : vw.ownBlock with
    | none => exact .inl rfl
    | some k => exact .inr fun e => h.wk k hv e.symm
  · cases hv : vr.ownBlock with
    | none => exact .inl rfl
    | some k => exact .inr fun e => h.rk k hv e.symm
  · rw [intsV_snoc, List.length_append]; exact hrow
  · rcases hat with h1 | h1
    · rw [h1]; exact h.ak
    · rw [h1]; intro e; injection e with e; have := h.box.lt; omega

/-- The words, where there are some. -/
theorem Mk.words {W : World} {N mb : Nat} {vw vr vk : Value} {ws rs K : List Int} {room : Nat} {lost : Bool} (h : Mk W N mb vw vr vk ws rs K room lost) (hne : 0 < ws.length) : ∃ wb cap, vw = .slice (some ⟨wb, 0, none⟩) ws.length cap ∧ N ≤ wb ∧ wb < W.heap.size ∧ ws.length ≤ cap := by
  rcases h.wo.2 with ⟨_, h0⟩ | ⟨g, cap, cur, hv, h1, h2, h3, h4, h5, h6⟩
  · omega
  · exact ⟨g, cap, hv, h1, (Array.getElem?_eq_some_iff.1 h2).1, h3⟩

theorem Mk.wcell {W : World} {N mb wb cap n : Nat} {vr vk : Value} {ws rs K : List Int} {room : Nat} {lost : Bool} (h : Mk W N mb (.slice (some ⟨wb, 0, none⟩) n cap) vr vk ws rs K room lost) (hn : n = ws.length) {j : Nat} {x : Int} (hx : ws[j]? = some x) :
    W.cell? ⟨wb, j, none⟩ = some (.int .u64 x) ∧ W.frozen? ⟨wb, j, none⟩ = false := by
  subst hn
  have hlt := (List.getElem?_eq_some_iff.1 hx).1
  refine ⟨?_, h.wo.frozenAt j⟩
  rw [h.wo.cellAt j (by omega)]
  simp [wordsV, hx]

theorem Mk.wds {W : World} {N mb : Nat} {vw vr vk : Value} {ws rs K : List Int} {room : Nat} {lost : Bool} (h : Mk W N mb vw vr vk ws rs K room lost) (hs : ws.length ≤ 256) : ∃ a cap, vw = .slice a ws.length cap ∧ Wds W.heap.size W a ws ∧ ws.length ≤ cap := by
  obtain ⟨a, cap, hv, hW, _⟩ := words_of_owns h.wo rfl (by omega)
  refine ⟨a, cap, hv, hW, ?_⟩
  rcases h.wo.2 with ⟨_, h0⟩ | ⟨g, cap', cur, hv', h1, h2, h3, h4, h5, h6⟩
  · omega
  · rw [hv] at hv'; injection hv' with _ _ e; omega

theorem Mk.rds {W : World} {N mb : Nat} {vw vr vk : Value} {ws rs K : List Int} {room : Nat} {lost : Bool} (h : Mk W N mb vw vr vk ws rs K room lost) (hs : rs.length ≤ 8) : ∃ a cap, vr = .slice a rs.length cap ∧ Wds W.heap.size W a rs := by
  obtain ⟨a, cap, hv, hW, _⟩ := words_of_owns h.ro rfl (by omega)
  exact ⟨a, cap, hv, hW⟩

/-- The last place that is kept. -/
theorem Mk.last {W : World} {N mb : Nat} {vw vr vk : Value} {ws rs K : List Int} {x : Int} {room : Nat} {lost : Bool} (h : Mk W N mb vw vr vk ws rs (K ++ [x]) room lost) : ∃ g cap, vk = .slice (some ⟨g, 0, none⟩) (K.length + 1) cap ∧ K.length + 1 ≤ cap ∧ g < W.heap.size ∧ W.cell? ⟨g, K.length, none⟩ = some (.int .i64 x) := by
  have hk := h.ko
  rw [List.length_append, List.length_singleton] at hk
  obtain ⟨g, cap, hv⟩ := ownsRow_succ hk
  subst hv
  have hb := hk.2
  rcases hb with ⟨h0, _⟩ | ⟨g', cap', cur, hv', h1, h2, h3, h4, h5, h6⟩
  · cases h0
  · refine ⟨g, cap, rfl, ?_, (hk.lt g rfl).2, ?_⟩
    · injection hv' with _ _ e; omega
    · rw [hk.cellAt K.length (by omega)]; simp [intsV]

end Go.Proofs.Ytnbhciejlidnlaa

/- Walks: header, set, fields. -/
namespace Go.Proofs.Ytnbhciejlidnlaa
set_option linter.unusedSimpArgs false
set_option linter.unusedVariables false
open Go.RowKit Go.Shelf

/-- A field of a header that a call told. -/
theorem field51_0 (l a : Int) (m : Bool) (w : World) : Sem.run Try.prog (Instr.field 42 (.agg #[.int .i64 l, .bool m, .int .i64 a]) 0) w = Result.ok (.int .i64 l) w := by
  simp [Instr.field, asAgg, go_sem, Try.underlying42]
theorem field51_1 (l a : Int) (m : Bool) (w : World) : Sem.run Try.prog (Instr.field 42 (.agg #[.int .i64 l, .bool m, .int .i64 a]) 1) w = Result.ok (.bool m) w := by
  simp [Instr.field, asAgg, go_sem, Try.underlying42]

set_option maxRecDepth 100000 in
set_option maxHeartbeats 1000000 in
theorem header_c (mb wb n cap p : Nat) (x : Int) (w : World) (h0 : w.cell? ⟨mb, 0, none⟩ = some (.slice (some ⟨wb, 0, none⟩) n cap)) (hx : w.cell? ⟨wb, p, none⟩ = some (.int .u64 x)) (hp : p < n) (hn : n ≤ 256) (h1 : 0 ≤ x) (h2 : x < 18446744073709551616) :
    Calls Try.prog 66 #[.pointer (some ⟨mb, 0, none⟩), .int .i64 (p : Nat)] w fun e w' => e = .returned (.agg #[.int .i64 (uhL x), .bool (uhM x), .int .i64 (uhA x)]) ∧ Below w.heap.size w w' := by
  have hb0 : Below w.heap.size w (w.alloc (.cells #[.int .i64 0, .bool false, .int .i64 0] 42)) := (Below.refl _ _).alloc (Nat.le_refl _) _
  have hlm : mb < w.heap.size := World.block_lt_of_cell? w _ h0
  have hlw : wb < w.heap.size := World.block_lt_of_cell? w _ hx
  have hpI : (p : Int) < (n : Int) := by omega
  go_enter Try.func66, Try.ntmps66
  go_wp2_with fail
  refine (unhead_c x _ h1 h2).mono ?_
  rintro e w2 ⟨rfl, hb2⟩
  simp only [World.size_alloc] at hb2
  have g0 := hb2.cell (p := ⟨w.heap.size, 0, none⟩) (show w.heap.size < _ by omega)
  have g1 := hb2.cell (p := ⟨w.heap.size, 1, none⟩) (show w.heap.size < _ by omega)
  have g2 := hb2.cell (p := ⟨w.heap.size, 2, none⟩) (show w.heap.size < _ by omega)
  have f0 := hb2.frozen (p := ⟨w.heap.size, 0, none⟩) (show w.heap.size < _ by omega)
  have f1 := hb2.frozen (p := ⟨w.heap.size, 1, none⟩) (show w.heap.size < _ by omega)
  have f2 := hb2.frozen (p := ⟨w.heap.size, 2, none⟩) (show w.heap.size < _ by omega)
  simp [go_sem] at g0 g1 g2 f0 f1 f2
  have hs2 := hb2.size
  simp only [World.size_alloc] at hs2
  have hlt2 : w.heap.size < w2.heap.size := by omega
  have hbw2 := hb0.trans (hb2.mono (by omega))
  clear hb0 hb2
  go_wp2
  obtain ⟨W3, hW3⟩ : ∃ W3, ((w2.setCell ⟨w.heap.size, 0, none⟩ (.int .i64 (uhL x))).setCell ⟨w.heap.size, 1, none⟩ (.bool (uhM x))).setCell ⟨w.heap.size, 2, none⟩ (.int .i64 (uhA x)) = W3 := ⟨_, rfl⟩
  have i0 : W3.cell? ⟨w.heap.size, 0, none⟩ = some (.int .i64 (uhL x)) := by rw [← hW3]; simp [go_sem, g0, g1, g2]
  have i1 : W3.cell? ⟨w.heap.size, 1, none⟩ = some (.bool (uhM x)) := by rw [← hW3]; simp [go_sem, g0, g1, g2]
  have i2 : W3.cell? ⟨w.heap.size, 2, none⟩ = some (.int .i64 (uhA x)) := by rw [← hW3]; simp [go_sem, g0, g1, g2]
  have hlt3 : w.heap.size < W3.heap.size := by rw [← hW3]; simpa [World.setCell] using hlt2
  have hb3 : Below w.heap.size w W3 := by rw [← hW3]; exact ((hbw2.setCell (p := ⟨w.heap.size, 0, none⟩) (Nat.le_refl _) _).setCell (p := ⟨w.heap.size, 1, none⟩) (Nat.le_refl _) _).setCell (p := ⟨w.heap.size, 2, none⟩) (Nat.le_refl _) _
  rw [hW3]
  clear hW3
  obtain ⟨W4, hW4⟩ : ∃ W4, W3.alloc (.cells #[.int .i64 (uhL x), .bool (uhM x), .int .i64 (uhA x)] 42) = W4 := ⟨_, rfl⟩
  rw [hW4]
  have hb4 : Below w.heap.size w W4 := by rw [← hW4]; exact hb3.alloc (by omega) _
  have k0 : W4.cell? ⟨w.heap.size, 0, none⟩ = some (.int .i64 (uhL x)) := by rw [← hW4, World.cell?_alloc_past _ _ _ hlt3]; exact i0
  have k1 : W4.cell? ⟨w.heap.size, 1, none⟩ = some (.bool (uhM x)) := by rw [← hW4, World.cell?_alloc_past _ _ _ hlt3]; exact i1
  have k2 : W4.cell? ⟨w.heap.size, 2, none⟩ = some (.int .i64 (uhA x)) := by rw [← hW4, World.cell?_alloc_past _ _ _ hlt3]; exact i2
  refine bodyPost_ret (v := .agg #[.int .i64 (uhL x), .bool (uhM x), .int .i64 (uhA x)]) (by simp [results, Try.results66, go_sem, k0, k1, k2]) rfl ?_
  exact ⟨rfl, hb4⟩

set_option maxRecDepth 100000 in
set_option maxHeartbeats 2000000 in
theorem set_w (mb wb n cap p : Nat) (x L A : Int) (M b : Bool) (w : World) (h0 : w.cell? ⟨mb, 0, none⟩ = some (.slice (some ⟨wb, 0, none⟩) n cap)) (hx : w.cell? ⟨wb, p, none⟩ = some (.int .u64 x)) (hf : w.frozen? ⟨wb, p, none⟩ = false) (hp : p < n) (hn : n ≤ 256) :
    Calls Try.prog 58 #[.pointer (some ⟨mb, 0, none⟩), .int .i64 (p : Nat), .agg #[.int .i64 L, .bool M, .int .i64 A], .bool b] w fun e w' => e = .returned (.tuple #[]) ∧ ∃ w1, Below w.heap.size w w1 ∧ w' = w1.setCell ⟨wb, p, none⟩ (.int .u64 (headW L b A)) := by
  have hlm : mb < w.heap.size := World.block_lt_of_cell? w _ h0
  have hlw : wb < w.heap.size := World.block_lt_of_cell? w _ hx
  have hpI : (p : Int) < (n : Int) := by omega
  have hb0 : Below w.heap.size w (w.alloc (.cells #[.int .i64 L, .bool b, .int .i64 A] 42)) := (Below.refl _ _).alloc (Nat.le_refl _) _
  go_enter Try.func58, Try.ntmps58
  go_wp2
  go_region_with (go_at_call 25; go_must (refine (head_c L A b _).mono ?_); go_must (rintro e w2 ⟨he, hb2⟩; subst he; have k0 := (hb2.cell (p := ⟨mb, 0, none⟩) (by simp; omega)).trans ((hb0.cell (p := ⟨mb, 0, none⟩) hlm).trans h0); have kx := (hb2.cell (p := ⟨wb, p, none⟩) (by simp; omega)).trans ((hb0.cell (p := ⟨wb, p, none⟩) hlw).trans hx); have kf := (hb2.frozen (p := ⟨wb, p, none⟩) (by simp; omega)).trans ((hb0.frozen (p := ⟨wb, p, none⟩) hlw).trans hf)))
  all_goals
    refine bodyPost_end (v := .tuple #[]) (results_none rfl _ _ _) rfl ⟨rfl, _, ?_, rfl⟩
    exact hb0.drew.trans (hb2.mono (by show w.heap.size ≤ (w.heap.push _).size; simp))

end Go.Proofs.Ytnbhciejlidnlaa

/- Walks: unmarked. -/
namespace Go.Proofs.Ytnbhciejlidnlaa
set_option linter.unusedSimpArgs false
set_option linter.unusedVariables false
open Go.RowKit Go.Shelf
attribute [local go_sem] field51_0 field51_1

/-- The arena that is being marked: its headers with these marks. -/
def mW (hs : List Int) (fs : List (List Int)) (p : Nat → Bool) : List Int := joinW (mkH hs p) fs

theorem mW_len {hs : List Int} {fs : List (List Int)} (h : Fit hs fs) (p : Nat → Bool) : (mW hs fs p).length = tot fs := by
  rw [mW, joinW_len _ _ (by rw [mkH_len]; exact h.len)]

theorem mW_get {hs : List Int} {fs : List (List Int)} (h : Fit hs fs) (p : Nat → Bool) {i : Nat} {x : Int} (hx : hs[i]? = some x) : (mW hs fs p)[tot (fs.take i)]? = some (reh (p i) x) := by
  have hi : i < fs.length := by have := (List.getElem?_eq_some_iff.1 hx).1; have := h.len; omega
  rw [mW, joinW_get _ _ _ (by rw [mkH_len]; exact h.len) hi, mkH_get, hx]
  rfl

theorem mW_set {hs : List Int} {fs : List (List Int)} (h : Fit hs fs) (p : Nat → Bool) {i : Nat} {x : Int} (hx : hs[i]? = some x) : (mW hs fs p).set (tot (fs.take i)) (reh true x) = mW hs fs (upd p i) := by
  have hi : i < fs.length := by have := (List.getElem?_eq_some_iff.1 hx).1; have := h.len; omega
  rw [mW, joinW_set _ _ _ _ (by rw [mkH_len]; exact h.len) hi, mkH_set hx, mW]

/-- What unmarked tells: the first object that is not marked, to which words refer. -/
def UnRes (fs : List (List Int)) (p : Nat → Bool) (l : List Int) (e : Ending) : Prop :=
  (∃ j, j < fs.length ∧ p j = false ∧ To fs l j ∧ e = .returned (.tuple #[.int .i64 (tot (fs.take j) : Nat), .bool true])) ∨
    ((∀ j, To fs l j → p j = true) ∧ e = .returned (.tuple #[.int .i64 0, .bool false]))

set_option maxRecDepth 100000 in
set_option maxHeartbeats 2000000 in
theorem unmarked_c (a : Option Addr) (c : Nat) (l : List Int) (hs : List Int) (fs : List (List Int)) (p : Nat → Bool) (N mb : Nat) (vw vr vk : Value) (rs K : List Int) (room : Nat) (lost : Bool) (w : World)
    (hM : Mk w N mb vw vr vk (mW hs fs p) rs K room lost) (hF : Fit hs fs) (h256 : tot fs ≤ 256) (hl : Wds w.heap.size w a l) (hU : U64 l) (hlen : l.length ≤ 8) (hok : ∀ x ∈ l, okW (stF 0 fs) x = true) :
    Calls Try.prog 59 #[.pointer (some ⟨mb, 0, none⟩), .slice a l.length c] w fun e w' => UnRes fs p l e ∧ Below w.heap.size w w' := by
  have HM := hide hM
  have hlm := hM.box.lt
  clear hM
  go_enter Try.func59, Try.ntmps59
  go_wp2
  go_loopw [12] (fun i wr => ∃ k : Nat, k ≤ l.length ∧ i = .int .i64 k ∧ Hid (∀ j, To fs (l.take k) j → p j = true) ∧ Below w.heap.size w wr) (fun i _ => l.length - (intOf i).toNat)
  case atStart => exact ⟨0, Nat.zero_le _, rfl, hide (fun j h => by obtain ⟨x, hx, _⟩ := h; simp at hx), Below.refl _ _⟩
  case round =>
    obtain ⟨k, hk, rfl, Hdone, hb⟩ := hrel
    have hsz := hb.size
    by_cases hlt : k < l.length
    · obtain ⟨b, off, rfl, hbB, hc⟩ := (hl.below hb).at hlt
      have hu := hU _ (List.getElem_mem hlt)
      have Hx := hide (List.getElem_mem hlt)
      have Hok := hide (ok_ref (hok _ (List.getElem_mem hlt)))
      have HT := hide (show l.take (k + 1) = l.take k ++ [l[k]] from List.take_succ_eq_append_getElem hlt)
      have hkI : (k : Int) < (l.length : Int) := by omega
      generalize l[k] = x at *
      have hq : b < wr.heap.size := by omega
      cases hr : unRef x
      · have Hr := hide hr
        have HE := hide (unhide Hok).1
        have HN : Hid (∀ j, To fs (l.take (k + 1)) j → p j = true) := hide (fun j h => by
          obtain ⟨y, hy, h1, h2⟩ := h
          rw [unhide HT] at hy
          rcases List.mem_append.1 hy with hy | hy
          · exact unhide Hdone j ⟨y, hy, h1, h2⟩
          · simp at hy; subst hy; rw [unhide Hr] at h1; cases h1)
        clear hr Hok
        go_wp2_with (go_at_call 43; go_must (refine (unpack_c x _ hu.1 hu.2).mono ?_); go_must (rintro e w3 ⟨he, hb3⟩; rw [unhide Hr, unhide HE] at he; subst he; have hs3 := hb3.size))
        go_roundw
        case rel => exact ⟨k + 1, by omega, by go_num, HN, (hb.trans (hb3.mono hsz)).alloc (by omega) _⟩
        case measure => simp [intOf]; omega
      · obtain ⟨j, hj⟩ := (unhide Hok).2 hr
        have hjl : j < fs.length := by have := (List.getElem?_eq_some_iff.1 hj).1; rw [stF_len] at this; exact this
        have hj' := stF_get fs 0 j hjl
        rw [Nat.zero_add] at hj'
        have Hnum : Hid (unNum x = ((tot (fs.take j) : Nat) : Int)) := by
          have := hj.symm.trans hj'
          injection this
        have hpl := place_lt hjl
        obtain ⟨y, hy, hy1, _, hy3, hy4⟩ := fit_at hF hjl
        have Hto : Hid (To fs l j) := hide ⟨x, unhide Hx, hr, hj⟩
        have Huniq : Hid (∀ j', (stF 0 fs)[j']? = some (unNum x) → j' = j) := hide (fun j' h => st_inj h hj)
        have HE := hide (unhide Hok).1
        obtain ⟨wb, cap, hvw, hwN, hwb, hcap⟩ := (unhide HM).words (by rw [mW_len hF]; omega)
        have hml := mW_len hF p
        rw [hml] at hvw hcap
        subst hvw
        have Hh : Hid (∀ W, Below w.heap.size w W → Calls Try.prog 66 #[.pointer (some ⟨mb, 0, none⟩), .int .i64 (tot (fs.take j) : Nat)] W fun e w' => e = .returned (.agg #[.int .i64 (uhL (reh (p j) y)), .bool (uhM (reh (p j) y)), .int .i64 (uhA (reh (p j) y))]) ∧ Below W.heap.size W w') := fun W hbW => by
          have hr2 := reh_ok (p j) y
          have hMW := (unhide HM).below hbW
          exact header_c mb wb (tot fs) cap _ _ W hMW.box.c0 (hMW.wcell hml.symm (mW_get hF p hy)).1 hpl h256 hr2.2.2.2.2.1 hr2.2.2.2.2.2
        have Hm : Hid (uhM (reh (p j) y) = p j) := (reh_ok (p j) y).2.2.1
        rw [unhide Hm] at Hh
        have Hr := hide hr
        clear hr Hok hj hj' hy hml
        generalize hpe : tot (fs.take j) = pl at *
        have Hpe := hide hpe
        clear hpe
        cases hpj : p j
        · rw [hpj] at Hh
          have Hpj := hide hpj
          clear hpj
          go_wp2_with (first
            | (go_at_call 43; go_must (refine (unpack_c x _ hu.1 hu.2).mono ?_); go_must (rintro e w3 ⟨he, hb3⟩; rw [unhide Hr, unhide HE, unhide Hnum] at he; subst he; have hs3 := hb3.size))
            | (go_at_call 66; go_must (refine (unhide Hh _ ((hb.trans (hb3.mono hsz)).alloc (by omega) _)).mono ?_); go_must (rintro e w4 ⟨he, hb4⟩; subst he; have hs4 := hb4.size; simp only [World.size_alloc] at hs4; have g0 := hb4.cell (p := ⟨w3.heap.size, 0, none⟩) (by simp); have g1 := hb4.cell (p := ⟨w3.heap.size, 1, none⟩) (by simp); simp [go_sem] at g0 g1; have hq4 : w3.heap.size < w4.heap.size := by omega)))
          go_ret2
          exact ⟨.inl ⟨j, hjl, unhide Hpj, unhide Hto, by rw [unhide Hpe]; rfl⟩, ((hb.trans (hb3.mono hsz)).alloc (by omega) _).trans (hb4.mono (by simp; omega))⟩
        · rw [hpj] at Hh
          have HN : Hid (∀ j, To fs (l.take (k + 1)) j → p j = true) := hide (fun j' h => by
            obtain ⟨z, hz, h1, h2⟩ := h
            rw [unhide HT] at hz
            rcases List.mem_append.1 hz with hz | hz
            · exact unhide Hdone j' ⟨z, hz, h1, h2⟩
            · simp at hz; subst hz; rw [unhide Huniq j' h2]; exact hpj)
          clear hpj
          go_wp2_with (first
            | (go_at_call 43; go_must (refine (unpack_c x _ hu.1 hu.2).mono ?_); go_must (rintro e w3 ⟨he, hb3⟩; rw [unhide Hr, unhide HE, unhide Hnum] at he; subst he; have hs3 := hb3.size))
            | (go_at_call 66; go_must (refine (unhide Hh _ ((hb.trans (hb3.mono hsz)).alloc (by omega) _)).mono ?_); go_must (rintro e w4 ⟨he, hb4⟩; subst he; have hs4 := hb4.size; simp only [World.size_alloc] at hs4)))
          go_roundw
          case rel => exact ⟨k + 1, by omega, by go_num, HN, ((hb.trans (hb3.mono hsz)).alloc (by omega) _).trans (hb4.mono (by simp; omega))⟩
          case measure => simp [intOf]; omega
    · obtain rfl : k = l.length := by omega
      have HN := Hdone
      rw [List.take_length] at HN
      go_wp2
      go_ret2
      exact ⟨.inr ⟨unhide HN, rfl⟩, hb⟩

end Go.Proofs.Ytnbhciejlidnlaa

/- Walks: each. -/
namespace Go.Proofs.Ytnbhciejlidnlaa
set_option linter.unusedSimpArgs false
set_option linter.unusedVariables false
open Go.RowKit Go.Shelf
attribute [local go_sem] field51_0 field51_1

/-- Headers in boxes are as they were. -/
def Keep51 (W W' : World) : Prop := ∀ (k : Nat) (cs : Array Value), W.heap[k]? = some (.cells cs 42) → W'.heap[k]? = some (.cells cs 42)

theorem KeepT.k51 {W W' : World} (h : KeepT W W') : Keep51 W W' := fun k cs hk => h k cs 42 hk (by decide) (by decide) (by decide)

/-- What each may rely on at an object. -/
def EachAt (fid : Nat) (c0 : Value) (a : Option Addr) (fs : List (List Int)) (I : Nat → World → Prop) (k : Nat) (l : Nat) (W : World) : Prop :=
  ∃ wb off x, a = some ⟨wb, off, none⟩ ∧ W.cell? ⟨wb, off + tot (fs.take k), none⟩ = some (.int .u64 x) ∧ 0 ≤ x ∧ x < 18446744073709551616 ∧ unheadOk x = true ∧ wlen x = l ∧
    ∀ W', Below W.heap.size W W' → Calls Try.prog fid #[.int .i64 (tot (fs.take k) : Nat), .agg #[.int .i64 l, .bool (uhM x), .int .i64 (uhA x)], c0] W' fun e W'' => e = .returned (.tuple #[]) ∧ I (k + 1) W'' ∧ Keep51 W' W'' ∧ W'.heap.size ≤ W''.heap.size

set_option maxRecDepth 100000 in
set_option maxHeartbeats 2000000 in
theorem each39_c (c0 : Value) (a : Option Addr) (cap : Nat) (fs : List (List Int)) (I : Nat → World → Prop) (w : World) (h256 : tot fs ≤ 256) (hI : I 0 w)
    (hat : ∀ (k : Nat) (hk : k < fs.length) W, I k W → EachAt 57 c0 a fs I k fs[k].length W) :
    Calls Try.prog 56 #[.slice a (tot fs : Nat) cap, .func (.func 57) #[] #[c0]] w fun e w' => e = .returned (.tuple #[]) ∧ I fs.length w' := by
  have HI := hide hI
  have Hat := hide hat
  clear hI hat
  go_enter Try.func56, Try.ntmps56
  go_wp2
  go_loopw [4] (fun i wr => ∃ k : Nat, k ≤ fs.length ∧ i = .int .i64 (tot (fs.take k) : Nat) ∧ Hid (I k wr)) (fun i _ => tot fs - (intOf i).toNat)
  case atStart => exact ⟨0, Nat.zero_le _, rfl, HI⟩
  case round =>
    clear HI
    obtain ⟨k, hk, rfl, HI⟩ := hrel
    by_cases hlt : k < fs.length
    · obtain ⟨wb, off, x, rfl, hx, hx1, hx2, hx3, hx4, hcall⟩ := unhide Hat k hlt wr (unhide HI)
      have hpl := place_lt hlt
      have hts := tot_take_succ hlt
      have htl := tot_take_le fs (k + 1)
      have HL := hide (uhL_wlen hx3)
      rw [hx4] at HL
      have HE := hide (uhE_ok hx3)
      have Hcall := hide hcall
      have HN : Hid (tot (fs.take (k + 1)) = tot (fs.take k) + 1 + fs[k].length) := by show _ = _; omega
      have hwl : wb < wr.heap.size := World.block_lt_of_cell? wr _ hx
      have hle : tot (fs.take k) + 1 + fs[k].length ≤ 256 := by omega
      clear hcall hx3 hx4 hts htl HI
      generalize fs[k].length = l at *
      generalize tot (fs.take k) = q at *
      generalize tot fs = n at *
      have hqI : (q : Int) < (n : Int) := by omega
      go_wp2_with fail
      refine (unhead_c x _ hx1 hx2).mono ?_
      rintro e w2 ⟨he, hb2⟩
      rw [unhide HL, unhide HE] at he
      subst he
      have hs2 := hb2.size
      have Hc2 := hide (unhide Hcall (w2.alloc (.cells #[.int .i64 (l : Nat), .bool (uhM x), .int .i64 (uhA x)] 42)) (hb2.alloc hs2 _))
      clear Hcall
      go_wp2_with fail
      refine (unhide Hc2).mono ?_
      rintro e w3 ⟨he, hI3, hk3, hs3⟩
      subst he
      have h51 := hk3 w2.heap.size #[.int .i64 (l : Nat), .bool (uhM x), .int .i64 (uhA x)] (heap_alloc_new _ _)
      have g0 : w3.cell? ⟨w2.heap.size, 0, none⟩ = some (.int .i64 (l : Nat)) := by rw [cell_of_row w3 w2.heap.size 0 _ 42 (0, 0) h51]; rfl
      have hl3 : w2.heap.size < w3.heap.size := by simp only [World.size_alloc] at hs3; omega
      have HI3 := hide hI3
      clear h51 hk3 hI3 Hc2
      go_wp2
      go_roundw
      case rel => exact ⟨k + 1, by omega, by rw [unhide HN]; go_num, HI3⟩
      case measure => simp [intOf]; omega
    · obtain rfl : k = fs.length := by omega
      have e0 : tot (fs.take fs.length) = tot fs := by rw [List.take_length]
      rw [e0]
      generalize tot fs = n at *
      go_wp2
      exact bodyPost_end (v := .tuple #[]) (results_none rfl _ _ _) rfl ⟨rfl, unhide HI⟩

set_option maxRecDepth 100000 in
set_option maxHeartbeats 2000000 in
theorem each56_c (c0 : Value) (a : Option Addr) (cap : Nat) (fs : List (List Int)) (I : Nat → World → Prop) (w : World) (h256 : tot fs ≤ 256) (hI : I 0 w)
    (hat : ∀ (k : Nat) (hk : k < fs.length) W, I k W → EachAt 68 c0 a fs I k fs[k].length W) :
    Calls Try.prog 56 #[.slice a (tot fs : Nat) cap, .func (.func 68) #[] #[c0]] w fun e w' => e = .returned (.tuple #[]) ∧ I fs.length w' := by
  have HI := hide hI
  have Hat := hide hat
  clear hI hat
  go_enter Try.func56, Try.ntmps56
  go_wp2
  go_loopw [4] (fun i wr => ∃ k : Nat, k ≤ fs.length ∧ i = .int .i64 (tot (fs.take k) : Nat) ∧ Hid (I k wr)) (fun i _ => tot fs - (intOf i).toNat)
  case atStart => exact ⟨0, Nat.zero_le _, rfl, HI⟩
  case round =>
    clear HI
    obtain ⟨k, hk, rfl, HI⟩ := hrel
    by_cases hlt : k < fs.length
    · obtain ⟨wb, off, x, rfl, hx, hx1, hx2, hx3, hx4, hcall⟩ := unhide Hat k hlt wr (unhide HI)
      have hpl := place_lt hlt
      have hts := tot_take_succ hlt
      have htl := tot_take_le fs (k + 1)
      have HL := hide (uhL_wlen hx3)
      rw [hx4] at HL
      have HE := hide (uhE_ok hx3)
      have Hcall := hide hcall
      have HN : Hid (tot (fs.take (k + 1)) = tot (fs.take k) + 1 + fs[k].length) := by show _ = _; omega
      have hwl : wb < wr.heap.size := World.block_lt_of_cell? wr _ hx
      have hle : tot (fs.take k) + 1 + fs[k].length ≤ 256 := by omega
      clear hcall hx3 hx4 hts htl HI
      generalize fs[k].length = l at *
      generalize tot (fs.take k) = q at *
      generalize tot fs = n at *
      have hqI : (q : Int) < (n : Int) := by omega
      go_wp2_with fail
      refine (unhead_c x _ hx1 hx2).mono ?_
      rintro e w2 ⟨he, hb2⟩
      rw [unhide HL, unhide HE] at he
      subst he
      have hs2 := hb2.size
      have Hc2 := hide (unhide Hcall (w2.alloc (.cells #[.int .i64 (l : Nat), .bool (uhM x), .int .i64 (uhA x)] 42)) (hb2.alloc hs2 _))
      clear Hcall
      go_wp2_with fail
      refine (unhide Hc2).mono ?_
      rintro e w3 ⟨he, hI3, hk3, hs3⟩
      subst he
      have h51 := hk3 w2.heap.size #[.int .i64 (l : Nat), .bool (uhM x), .int .i64 (uhA x)] (heap_alloc_new _ _)
      have g0 : w3.cell? ⟨w2.heap.size, 0, none⟩ = some (.int .i64 (l : Nat)) := by rw [cell_of_row w3 w2.heap.size 0 _ 42 (0, 0) h51]; rfl
      have hl3 : w2.heap.size < w3.heap.size := by simp only [World.size_alloc] at hs3; omega
      have HI3 := hide hI3
      clear h51 hk3 hI3 Hc2
      go_wp2
      go_roundw
      case rel => exact ⟨k + 1, by omega, by rw [unhide HN]; go_num, HI3⟩
      case measure => simp [intOf]; omega
    · obtain rfl : k = fs.length := by omega
      have e0 : tot (fs.take fs.length) = tot fs := by rw [List.take_length]
      rw [e0]
      generalize tot fs = n at *
      go_wp2
      exact bodyPost_end (v := .tuple #[]) (results_none rfl _ _ _) rfl ⟨rfl, unhide HI⟩

end Go.Proofs.Ytnbhciejlidnlaa

/- Walks: eachMarked. -/
namespace Go.Proofs.Ytnbhciejlidnlaa
set_option linter.unusedSimpArgs false
set_option linter.unusedVariables false
open Go.RowKit Go.Shelf
attribute [local go_sem] field51_0 field51_1

/-- What eachMarked may rely on at an object: cs is what the closure holds. -/
def EmAt (fid : Nat) (args : Value → Value → Array Value) (a : Option Addr) (fs : List (List Int)) (I : Nat → World → Prop) (k : Nat) (l : Nat) (W : World) : Prop :=
  ∃ wb off x, a = some ⟨wb, off, none⟩ ∧ W.cell? ⟨wb, off + tot (fs.take k), none⟩ = some (.int .u64 x) ∧ 0 ≤ x ∧ x < 18446744073709551616 ∧ unheadOk x = true ∧ wlen x = l ∧
    (uhM x = false → ∀ W', Below W.heap.size W W' → I (k + 1) W') ∧
    (uhM x = true → ∀ W', Below W.heap.size W W' → Calls Try.prog fid (args (.int .i64 (tot (fs.take k) : Nat)) (.agg #[.int .i64 l, .bool true, .int .i64 (uhA x)])) W' fun e W'' => e = .returned (.tuple #[]) ∧ I (k + 1) W'' ∧ Keep51 W' W'' ∧ W'.heap.size ≤ W''.heap.size)

set_option maxRecDepth 100000 in
set_option maxHeartbeats 2000000 in
theorem em42_c (c0 c1 : Value) (a : Option Addr) (cap : Nat) (fs : List (List Int)) (I : Nat → World → Prop) (w : World) (h256 : tot fs ≤ 256) (hI : I 0 w)
    (hat : ∀ (k : Nat) (hk : k < fs.length) W, I k W → EmAt 42 (fun x h => #[x, h, c0, c1]) a fs I k fs[k].length W) :
    Calls Try.prog 23 #[.slice a (tot fs : Nat) cap, .func (.func 42) #[] #[c0, c1]] w fun e w' => e = .returned (.tuple #[]) ∧ I fs.length w' := by
  have HI := hide hI
  have Hat := hide hat
  clear hI hat
  go_enter Try.func23, Try.ntmps23
  go_wp2
  go_loopw [4] (fun i wr => ∃ k : Nat, k ≤ fs.length ∧ i = .int .i64 (tot (fs.take k) : Nat) ∧ Hid (I k wr)) (fun i _ => tot fs - (intOf i).toNat)
  case atStart => exact ⟨0, Nat.zero_le _, rfl, HI⟩
  case round =>
    clear HI
    obtain ⟨k, hk, rfl, HI⟩ := hrel
    by_cases hlt : k < fs.length
    · obtain ⟨wb, off, x, rfl, hx, hx1, hx2, hx3, hx4, hno, hyes⟩ := unhide Hat k hlt wr (unhide HI)
      have hpl := place_lt hlt
      have hts := tot_take_succ hlt
      have htl := tot_take_le fs (k + 1)
      have HL := hide (uhL_wlen hx3)
      rw [hx4] at HL
      have HE := hide (uhE_ok hx3)
      have Hno := hide hno
      have Hyes := hide hyes
      have HN : Hid (tot (fs.take (k + 1)) = tot (fs.take k) + 1 + fs[k].length) := by show _ = _; omega
      have hwl : wb < wr.heap.size := World.block_lt_of_cell? wr _ hx
      have hle : tot (fs.take k) + 1 + fs[k].length ≤ 256 := by omega
      clear hno hyes hx3 hx4 hts htl HI
      generalize fs[k].length = l at *
      generalize tot (fs.take k) = q at *
      generalize tot fs = n at *
      have hqI : (q : Int) < (n : Int) := by omega
      go_wp2_with fail
      refine (unhead_c x _ hx1 hx2).mono ?_
      rintro e w2 ⟨he, hb2⟩
      rw [unhide HL, unhide HE] at he
      subst he
      have hs2 := hb2.size
      cases hm : uhM x
      · have HI2 := hide (unhide Hno hm (w2.alloc (.cells #[.int .i64 (l : Nat), .bool false, .int .i64 (uhA x)] 42)) (hb2.alloc hs2 _))
        clear Hno Hyes hb2
        go_wp2
        go_roundw
        case rel => exact ⟨k + 1, by omega, by rw [unhide HN]; go_num, HI2⟩
        case measure => simp [intOf]; omega
      · have Hc2 := hide (unhide Hyes hm (w2.alloc (.cells #[.int .i64 (l : Nat), .bool true, .int .i64 (uhA x)] 42)) (hb2.alloc hs2 _))
        clear Hno Hyes hb2
        go_wp2_with fail
        refine (unhide Hc2).mono ?_
        rintro e w3 ⟨he, hI3, hk3, hs3⟩
        subst he
        have h51 := hk3 w2.heap.size #[.int .i64 (l : Nat), .bool true, .int .i64 (uhA x)] (heap_alloc_new _ _)
        have g0 : w3.cell? ⟨w2.heap.size, 0, none⟩ = some (.int .i64 (l : Nat)) := by rw [cell_of_row w3 w2.heap.size 0 _ 42 (0, 0) h51]; rfl
        have hl3 : w2.heap.size < w3.heap.size := by simp only [World.size_alloc] at hs3; omega
        have HI3 := hide hI3
        clear h51 hk3 hI3 Hc2
        go_wp2
        go_roundw
        case rel => exact ⟨k + 1, by omega, by rw [unhide HN]; go_num, HI3⟩
        case measure => simp [intOf]; omega
    · obtain rfl : k = fs.length := by omega
      have e0 : tot (fs.take fs.length) = tot fs := by rw [List.take_length]
      rw [e0]
      generalize tot fs = n at *
      go_wp2
      exact bodyPost_end (v := .tuple #[]) (results_none rfl _ _ _) rfl ⟨rfl, unhide HI⟩

set_option maxRecDepth 100000 in
set_option maxHeartbeats 2000000 in
theorem em24_c (c0 c1 c2 : Value) (a : Option Addr) (cap : Nat) (fs : List (List Int)) (I : Nat → World → Prop) (w : World) (h256 : tot fs ≤ 256) (hI : I 0 w)
    (hat : ∀ (k : Nat) (hk : k < fs.length) W, I k W → EmAt 24 (fun x h => #[x, h, c0, c1, c2]) a fs I k fs[k].length W) :
    Calls Try.prog 23 #[.slice a (tot fs : Nat) cap, .func (.func 24) #[] #[c0, c1, c2]] w fun e w' => e = .returned (.tuple #[]) ∧ I fs.length w' := by
  have HI := hide hI
  have Hat := hide hat
  clear hI hat
  go_enter Try.func23, Try.ntmps23
  go_wp2
  go_loopw [4] (fun i wr => ∃ k : Nat, k ≤ fs.length ∧ i = .int .i64 (tot (fs.take k) : Nat) ∧ Hid (I k wr)) (fun i _ => tot fs - (intOf i).toNat)
  case atStart => exact ⟨0, Nat.zero_le _, rfl, HI⟩
  case round =>
    clear HI
    obtain ⟨k, hk, rfl, HI⟩ := hrel
    by_cases hlt : k < fs.length
    · obtain ⟨wb, off, x, rfl, hx, hx1, hx2, hx3, hx4, hno, hyes⟩ := unhide Hat k hlt wr (unhide HI)
      have hpl := place_lt hlt
      have hts := tot_take_succ hlt
      have htl := tot_take_le fs (k + 1)
      have HL := hide (uhL_wlen hx3)
      rw [hx4] at HL
      have HE := hide (uhE_ok hx3)
      have Hno := hide hno
      have Hyes := hide hyes
      have HN : Hid (tot (fs.take (k + 1)) = tot (fs.take k) + 1 + fs[k].length) := by show _ = _; omega
      have hwl : wb < wr.heap.size := World.block_lt_of_cell? wr _ hx
      have hle : tot (fs.take k) + 1 + fs[k].length ≤ 256 := by omega
      clear hno hyes hx3 hx4 hts htl HI
      generalize fs[k].length = l at *
      generalize tot (fs.take k) = q at *
      generalize tot fs = n at *
      have hqI : (q : Int) < (n : Int) := by omega
      go_wp2_with fail
      refine (unhead_c x _ hx1 hx2).mono ?_
      rintro e w2 ⟨he, hb2⟩
      rw [unhide HL, unhide HE] at he
      subst he
      have hs2 := hb2.size
      cases hm : uhM x
      · have HI2 := hide (unhide Hno hm (w2.alloc (.cells #[.int .i64 (l : Nat), .bool false, .int .i64 (uhA x)] 42)) (hb2.alloc hs2 _))
        clear Hno Hyes hb2
        go_wp2
        go_roundw
        case rel => exact ⟨k + 1, by omega, by rw [unhide HN]; go_num, HI2⟩
        case measure => simp [intOf]; omega
      · have Hc2 := hide (unhide Hyes hm (w2.alloc (.cells #[.int .i64 (l : Nat), .bool true, .int .i64 (uhA x)] 42)) (hb2.alloc hs2 _))
        clear Hno Hyes hb2
        go_wp2_with fail
        refine (unhide Hc2).mono ?_
        rintro e w3 ⟨he, hI3, hk3, hs3⟩
        subst he
        have h51 := hk3 w2.heap.size #[.int .i64 (l : Nat), .bool true, .int .i64 (uhA x)] (heap_alloc_new _ _)
        have g0 : w3.cell? ⟨w2.heap.size, 0, none⟩ = some (.int .i64 (l : Nat)) := by rw [cell_of_row w3 w2.heap.size 0 _ 42 (0, 0) h51]; rfl
        have hl3 : w2.heap.size < w3.heap.size := by simp only [World.size_alloc] at hs3; omega
        have HI3 := hide hI3
        clear h51 hk3 hI3 Hc2
        go_wp2
        go_roundw
        case rel => exact ⟨k + 1, by omega, by rw [unhide HN]; go_num, HI3⟩
        case measure => simp [intOf]; omega
    · obtain rfl : k = fs.length := by omega
      have e0 : tot (fs.take fs.length) = tot fs := by rw [List.take_length]
      rw [e0]
      generalize tot fs = n at *
      go_wp2
      exact bodyPost_end (v := .tuple #[]) (results_none rfl _ _ _) rfl ⟨rfl, unhide HI⟩

end Go.Proofs.Ytnbhciejlidnlaa

/- Walks: places. -/
namespace Go.Proofs.Ytnbhciejlidnlaa
set_option linter.unusedSimpArgs false
set_option linter.unusedVariables false
open Go.RowKit Go.Shelf
attribute [local go_sem] field51_0 field51_1

theorem mL_nodup (p : Nat → Bool) (k : Nat) : (mL p k).Nodup := by
  unfold mL List.Nodup
  rw [List.pairwise_map]
  exact (List.Pairwise.filter _ List.nodup_range).imp (fun h e => h (by omega))

theorem mL_ok (p : Nat → Bool) (fs : List (List Int)) {k : Nat} (hk : k ≤ fs.length) : OOk fs (mL p k) := by
  refine ⟨mL_nodup p k, fun o ho => ?_⟩
  unfold mL at ho
  obtain ⟨j, hj, rfl⟩ := List.mem_map.1 ho
  have := List.mem_range.1 (List.mem_filter.1 hj).1
  omega

theorem tot_snocO (fs : List (List Int)) (O : List Int) {i : Nat} (hi : i < fs.length) : tot ((O ++ [(i : Int)]).map (fO fs)) = tot (O.map (fO fs)) + (1 + fs[i].length) := by
  rw [List.map_append, List.map_cons, List.map_nil, tot_snoc, fO_at hi]
  omega

/-- What places holds while it goes through objects. -/
structure PlI (w0 : World) (N nb pb mb : Nat) (p : Nat → Bool) (fs : List (List Int)) (k : Nat) (W : World) : Prop where
  map : NowM W N mb fs (mL p k)
  nx : W.cell? ⟨nb, 0, none⟩ = some (.int .i64 (tot ((mL p k).map (fO fs)) : Nat))
  fr : W.frozen? ⟨nb, 0, none⟩ = false
  now : W.cell? ⟨pb, 0, none⟩ = some (.map (some mb))
  below : Below N w0 W
  lo : N ≤ nb
  nm : nb ≠ mb
  pm : pb ≠ mb
  np : nb ≠ pb
  ty : ∃ cs, W.heap[nb]? = some (.cells cs 3)

theorem PlI.kept {w0 W W' : World} {N nb pb mb : Nat} {p : Nat → Bool} {fs : List (List Int)} {k : Nat} (h : PlI w0 N nb pb mb p fs k W) (hb : Below W.heap.size W W') (hN : N ≤ W.heap.size) : PlI w0 N nb pb mb p fs k W' :=
  ⟨h.map.below hb, (hb.cell (p := ⟨nb, 0, none⟩) (World.block_lt_of_cell? W _ h.nx)).trans h.nx, (hb.frozen (p := ⟨nb, 0, none⟩) (World.block_lt_of_cell? W _ h.nx)).trans h.fr, (hb.cell (p := ⟨pb, 0, none⟩) (World.block_lt_of_cell? W _ h.now)).trans h.now, h.below.trans (hb.mono hN), h.lo, h.nm, h.pm, h.np, by
    obtain ⟨cs, hc⟩ := h.ty
    exact ⟨cs, (hb.block nb (World.block_lt_of_cell? W _ h.nx)).trans hc⟩⟩

theorem NowM.notCells {W : World} {N mb : Nat} {fs : List (List Int)} {L : List Int} (h : NowM W N mb fs L) (cs : Array Value) (t : TypeId) : W.heap[mb]? ≠ some (.cells cs t) := by
  obtain ⟨M, ⟨es, clock, hb, _⟩, _⟩ := h
  rw [hb]
  intro e
  cases e

set_option maxRecDepth 100000 in
set_option maxHeartbeats 1000000 in
theorem pl1_c (w0 : World) (N nb pb mb : Nat) (p : Nat → Bool) (fs : List (List Int)) (k : Nat) (A : Int) (w : World) (h : PlI w0 N nb pb mb p fs k w) (hk : k < fs.length) (hp : p k = true) (h256 : tot fs ≤ 256) (hN : N ≤ w.heap.size) :
    Calls Try.prog 42 #[.int .i64 (tot (fs.take k) : Nat), .agg #[.int .i64 (fs[k].length : Nat), .bool true, .int .i64 A], .pointer (some ⟨nb, 0, none⟩), .pointer (some ⟨pb, 0, none⟩)] w fun e w' => e = .returned (.tuple #[]) ∧ PlI w0 N nb pb mb p fs (k + 1) w' ∧ Keep51 w w' ∧ w.heap.size ≤ w'.heap.size := by
  have hno := h.map.notCells
  obtain ⟨M, hmap, hlm, hF⟩ := h.map
  have hpl := place_lt hk
  have hOk := mL_ok p fs (k := k) (by omega)
  have hOt := hOk.tot_le
  have hOl := hOk.len
  have ht := tot_snocO fs (mL p k) hk
  have hOt' := ((mL_ok p fs (k := k + 1) (by omega))).tot_le
  rw [mL_yes hp, ht] at hOt'
  have HF2 := hide (hF.put hmap.isMap hk (mL_notin p k))
  have Hkey := hide (Maps.keyOf_int_mk Try.underlying3 (wf_i64 (x := ((tot (fs.take k) : Nat) : Int)) (by omega) (by omega)))
  have Hval := hide (show plainElem (H := Unit) Try.prog 3 (.int .i64 ((tot ((mL p k).map (fO fs)) : Nat) : Int)) = some (.lit (.int .i64 ((tot ((mL p k).map (fO fs)) : Nat) : Int)), []) from plainElem_int Try.underlying3 (wf_i64 (by omega) (by omega)))
  have q0 := h.nx
  have q1 := h.now
  have q2 := h.fr
  have hl0 : nb < w.heap.size := World.block_lt_of_cell? w _ q0
  have hl1 : pb < w.heap.size := World.block_lt_of_cell? w _ q1
  have hnm := h.nm
  have hpm := h.pm
  have hnp := h.np
  have Hfin : Hid (∀ w1, (w.alloc (.cells #[.int .i64 (fs[k].length : Nat), .bool true, .int .i64 A] 42)).grownBy w1 (some mb) → w1.ownsMap Try.prog 3 (plainElem Try.prog 3) mb ((mL p k).length + 1) (M.put (.int .i64 (tot (fs.take k) : Nat)) (.lit (.int .i64 ((tot ((mL p k).map (fO fs)) : Nat) : Int)))) →
      PlI w0 N nb pb mb p fs (k + 1) (w1.setCell ⟨nb, 0, none⟩ (.int .i64 ((tot ((mL p k).map (fO fs)) : Nat) + (1 + (fs[k].length : Nat)) : Int))) ∧ Keep51 w (w1.setCell ⟨nb, 0, none⟩ (.int .i64 ((tot ((mL p k).map (fO fs)) : Nat) + (1 + (fs[k].length : Nat)) : Int))) ∧ w.heap.size ≤ (w1.setCell ⟨nb, 0, none⟩ (.int .i64 ((tot ((mL p k).map (fO fs)) : Nat) + (1 + (fs[k].length : Nat)) : Int))).heap.size) := fun w1 hg hm => by
    have hsz := hg.size
    simp only [World.size_alloc] at hsz
    have hblk : ∀ b, b < w.heap.size → b ≠ mb → w1.heap[b]? = w.heap[b]? := fun b hb hne => (hg.block b (by simp; omega) (fun e => hne (by injection e))).trans (Below.heap_alloc w _ _ hb)
    have hnb := hblk nb hl0 hnm
    have hbw1 : Below N w0 w1 := (h.below.alloc hN _).grown hg (by simp; omega) (fun q e => by injection e with e; omega)
    obtain ⟨cs, hty⟩ := h.ty
    refine ⟨⟨⟨_, (hm.kept (grown_set w1 nb 0 _) (fun e => hnm (by injection e with e; exact e.symm))).mono (by rw [mL_yes hp]; simp), hlm, by rw [mL_yes hp]; exact unhide HF2⟩, ?_, ?_, ?_, hbw1.setCell (p := ⟨nb, 0, none⟩) h.lo _, h.lo, hnm, hpm, hnp, ?_⟩, ?_, ?_⟩
    · rw [World.cell?_setCell_same' _ _ _ (by rw [World.cell?_of_block (a := ⟨nb, 0, none⟩) hnb, q0]; rfl), mL_yes hp, ht]
      congr 2
    · rw [World.frozen?_setCell, World.frozen?_of_block (a := ⟨nb, 0, none⟩) hnb]; exact q2
    · rw [World.cell?_setCell_other _ _ _ _ (by simp [hnp.symm]), World.cell?_of_block (a := ⟨pb, 0, none⟩) (hblk pb hl1 hpm)]
      exact q1
    · exact ⟨_, heap_setCell_same w1 nb 0 cs 3 _ (hnb.trans hty)⟩
    · intro b cs' hb
      have hbl := (Array.getElem?_eq_some_iff.1 hb).1
      have hb1 : b ≠ mb := fun e => hno cs' 42 (e ▸ hb)
      have hb2 : b ≠ nb := fun e => by
        subst e
        rw [hb] at hty
        injection hty with hty
        injection hty with _ hty
        exact absurd hty (by decide)
      rw [Below.heap_setCell _ _ _ _ (by show b ≠ nb; exact hb2), hblk b hbl hb1]
      exact hb
    · simp only [World.setCell]; simp; omega
  have hw1 : IntKind.i64.wrap (1 + ((fs[k].length : Nat) : Int)) = 1 + ((fs[k].length : Nat) : Int) := by rw [IntKind.wrap_i64]; omega
  have hw2 : IntKind.i64.wrap (((tot ((mL p k).map (fO fs)) : Nat) : Int) + (1 + ((fs[k].length : Nat) : Int))) = ((tot ((mL p k).map (fO fs)) : Nat) : Int) + (1 + ((fs[k].length : Nat) : Int)) := by rw [IntKind.wrap_i64]; omega
  clear h hF hno ht hOt' HF2 hOk
  generalize fs[k].length = l at *
  generalize tot ((mL p k).map (fO fs)) = T at *
  generalize (mL p k).length = n at *
  generalize tot (fs.take k) = q at *
  go_enter Try.func42, Try.ntmps42
  go_wp2_with (at_mapUpdate; go_must (refine wpList_mapUpdate_own _ rfl _ _ _ 47 rfl 3 3 (Maps.int_keyed Try.underlying3) Try.underlying47 _ mb n M rfl (hmap.alloc _) (by simp only [maxLen]; omega) _ _ _ rfl rfl (unhide Hkey) _ [] (unhide Hval) ?_); go_must (intro w1 hmap1 hg1; have r0 := hg1.cell (a := ⟨nb, 0, none⟩) (((World.grownBy_alloc w (.cells #[.int .i64 (l : Nat), .bool true, .int .i64 A] 42) none).cell q0 (by simp))) (fun e => hnm (by injection e)); have r1 := (hg1.block nb (by simp; omega) (fun e => hnm (by injection e))); have r2 : w1.frozen? ⟨nb, 0, none⟩ = false := ((World.frozen?_of_block (a := ⟨nb, 0, none⟩) r1).trans (World.frozen?_of_block (a := ⟨nb, 0, none⟩) (Below.heap_alloc w _ _ hl0))).trans q2; have hne : w.heap.size ≠ mb := by { have := hmap.lt; omega }; have r3 : w1.cell? ⟨w.heap.size, 0, none⟩ = some (.int .i64 (l : Nat)) := (World.cell?_of_block (a := ⟨w.heap.size, 0, none⟩) (hg1.block w.heap.size (by simp) (fun e => hne (by injection e)))).trans (by simp [go_sem]); have hs1 := hg1.size; have hl3 : w.heap.size < w1.heap.size := (by simp at hs1; omega); have hl4 : nb < w1.heap.size := Nat.lt_trans hl0 hl3))
  exact bodyPost_end (v := .tuple #[]) (results_none rfl _ _ _) rfl ⟨rfl, unhide Hfin w1 hg1 hmap1⟩

end Go.Proofs.Ytnbhciejlidnlaa

/- Walks: places. -/
namespace Go.Proofs.Ytnbhciejlidnlaa
set_option linter.unusedSimpArgs false
set_option linter.unusedVariables false
open Go.RowKit Go.Shelf
attribute [local go_sem] field51_0 field51_1

/-- A marked arena's header. -/
theorem mW_at {hs : List Int} {fs : List (List Int)} (hF : Fit hs fs) (p : Nat → Bool) {k : Nat} (hk : k < fs.length) {N : Nat} {w : World} {a : Option Addr} (hW : Wds N w a (mW hs fs p)) :
    ∃ wb off x, a = some ⟨wb, off, none⟩ ∧ wb < N ∧ w.cell? ⟨wb, off + tot (fs.take k), none⟩ = some (.int .u64 x) ∧ 0 ≤ x ∧ x < 18446744073709551616 ∧ unheadOk x = true ∧ wlen x = fs[k].length ∧ uhM x = p k ∧ ∃ y, hs[k]? = some y ∧ x = reh (p k) y := by
  obtain ⟨y, hy, h1, h2, h3, h4⟩ := fit_at hF hk
  have hr := reh_ok (p k) y
  have hg := mW_get hF p hy
  have hlt := (List.getElem?_eq_some_iff.1 hg).1
  obtain ⟨b, off, rfl, hb, hc⟩ := hW.2 (by intro e; rw [e] at hlt; simp at hlt)
  exact ⟨b, off, _, rfl, hb, hc _ _ hg, hr.2.2.2.2.1, hr.2.2.2.2.2, hr.1, by rw [reh_wlen h1, h2], hr.2.2.1, y, hy, rfl⟩

set_option maxRecDepth 100000 in
set_option maxHeartbeats 1000000 in
theorem places_c (a : Option Addr) (cap : Nat) (hs : List Int) (fs : List (List Int)) (rs : List Int) (p : Nat → Bool) (w : World) (hW : Wds w.heap.size w a (mW hs fs p)) (hA : Arn hs fs rs) :
    Calls Try.prog 21 #[.slice a (tot fs : Nat) cap] w fun e w' => (∃ mb, e = .returned (.map (some mb)) ∧ NowM w' w.heap.size mb fs (mL p fs.length)) ∧ Below w.heap.size w w' := by
  have hmm := @run_makeMap Try.prog
  have h256 := hA.n256
  have hst : PlI w w.heap.size (w.heap.size + 1 + 1) (w.heap.size + 1) w.heap.size p fs 0 (((w.alloc (.map #[] 0)).alloc (.cells #[.map (some w.heap.size)] 47)).alloc (.cells #[.int .i64 0] 3)) := by
    have hmp := World.ownsMap_made (H := Unit) w Try.prog 3 (plainElem Try.prog 3)
    refine ⟨⟨.map [], (hmp.alloc _).alloc _, Nat.le_refl _, nowD_nil fs⟩, ?_, ?_, ?_, ((((Below.refl _ _).alloc (Nat.le_refl _) _).alloc (by simp) _).alloc (by simp; omega) _), by omega, by omega, by omega, by omega, by
      have h := heap_alloc_new ((w.alloc (.map #[] 0)).alloc (.cells #[.map (some w.heap.size)] 47)) (.cells #[.int .i64 0] 3)
      simp only [World.size_alloc] at h
      exact ⟨_, h⟩⟩
    · simp [go_sem, mL_zero, tot]
    · simp [go_sem]
    · simp [go_sem]
  have Hc := hide (em42_c (.pointer (some ⟨w.heap.size + 1 + 1, 0, none⟩)) (.pointer (some ⟨w.heap.size + 1, 0, none⟩)) a cap fs (fun k W => PlI w w.heap.size (w.heap.size + 1 + 1) (w.heap.size + 1) w.heap.size p fs k W ∧ w.heap.size ≤ W.heap.size) (((w.alloc (.map #[] 0)).alloc (.cells #[.map (some w.heap.size)] 47)).alloc (.cells #[.int .i64 0] 3)) h256 ⟨hst, by simp; omega⟩ (fun k hk W hI => by
    obtain ⟨wb, off, x, rfl, hwb, hc, h1, h2, h3, h4, h5, _⟩ := mW_at hA.fit p hk (hW.below hI.1.below)
    refine ⟨wb, off, x, rfl, hc, h1, h2, h3, h4, fun hm W' hb' => ?_, fun hm W' hb' => ?_⟩
    · have h := hI.1.kept hb' hI.2
      have e : mL p (k + 1) = mL p k := mL_no (by rw [← h5]; exact hm)
      exact ⟨⟨by rw [e]; exact h.map, by rw [e]; exact h.nx, h.fr, h.now, h.below, h.lo, h.nm, h.pm, h.np, h.ty⟩, by have := hb'.size; have := hI.2; omega⟩
    · have h := hI.1.kept hb' hI.2
      refine (pl1_c w w.heap.size _ _ _ p fs k (uhA x) W' h hk (by rw [← h5]; exact hm) h256 (by have := hb'.size; have := hI.2; omega)).mono ?_
      rintro e W2 ⟨he, h6, h7, h8⟩
      exact ⟨he, ⟨h6, by have := hb'.size; have := hI.2; omega⟩, h7, h8⟩))
  clear hst hW hA
  go_enter Try.func21, Try.ntmps21
  go_wp2_with fail
  refine (unhide Hc).mono ?_
  rintro e w2 ⟨rfl, h2, hsz⟩
  have q1 := h2.now
  have hl1 : w.heap.size + 1 < w2.heap.size := World.block_lt_of_cell? w2 _ q1
  have H2 := hide h2
  clear h2 Hc
  go_wp2
  go_ret
  exact ⟨⟨_, rfl, (unhide H2).map⟩, (unhide H2).below⟩

end Go.Proofs.Ytnbhciejlidnlaa

/- Walks: Slide's closure. -/
namespace Go.Proofs.Ytnbhciejlidnlaa
set_option linter.unusedSimpArgs false
set_option linter.unusedVariables false
open Go.RowKit Go.Shelf

/-- The words of some objects, moved to where they come to stand among all of L. -/
def laid (hs : List Int) (fs : List (List Int)) (L O : List Int) : List Int := joinW (O.map (rO hs)) (O.map fun o => (fO fs o).map (twW fs L))

theorem joinW_append : ∀ (a b : List Int) (c d : List (List Int)), a.length = c.length → joinW (a ++ b) (c ++ d) = joinW a c ++ joinW b d
  | [], b, [], d, _ => by simp [joinW]
  | x :: a, b, y :: c, d, h => by
    have ih := joinW_append a b c d (by simpa using h)
    simp only [List.cons_append, joinW, ih, List.append_assoc]
  | [], _, _ :: _, _, h => by simp at h
  | _ :: _, _, [], _, h => by simp at h

theorem laid_snoc (hs : List Int) (fs : List (List Int)) (L O : List Int) (o : Int) : laid hs fs L (O ++ [o]) = laid hs fs L O ++ [rO hs o] ++ (fO fs o).map (twW fs L) := by
  unfold laid
  rw [List.map_append, List.map_append, joinW_append _ _ _ _ (by simp)]
  simp [joinW]

theorem laid_len (hs : List Int) (fs : List (List Int)) (L O : List Int) : (laid hs fs L O).length = tot (O.map (fO fs)) := by
  unfold laid
  rw [joinW_len _ _ (by simp)]
  unfold tot
  rw [List.map_map, List.map_map]
  congr 1
  apply List.map_congr_left
  intro o _
  simp

theorem gb_below {w W W' : World} {db : Nat} (h : w.grownBy W (some db)) (hb : Below W.heap.size W W') : w.grownBy W' (some db) :=
  ⟨hb.os.trans h.os, hb.tape.trans h.tape, hb.output.trans h.output, Nat.le_trans h.size hb.size, fun k hk hne => (hb.block k (Nat.lt_of_lt_of_le hk h.size)).trans (h.block k hk hne)⟩

theorem gb_set {w W : World} {db b : Nat} (h : w.grownBy W (some db)) (hb : b = db ∨ w.heap.size ≤ b) (j : Nat) (u : Value) : w.grownBy (W.setCell ⟨b, j, none⟩ u) (some db) := by
  have hg := grown_set W b j u
  refine ⟨hg.os.trans h.os, hg.tape.trans h.tape, hg.output.trans h.output, Nat.le_trans h.size hg.size, fun k hk hne => (hg.block k (Nat.lt_of_lt_of_le hk h.size) (fun e => ?_)).trans (h.block k hk hne)⟩
  injection e with e
  rcases hb with hb | hb
  · exact hne (by rw [e, hb])
  · omega

theorem gb_grown {w W W' : World} {db : Nat} {o : Option Nat} (h : w.grownBy W (some db)) (hg : W.grownBy W' o) (ho : ∀ k, o = some k → w.heap.size ≤ k) : w.grownBy W' (some db) :=
  ⟨hg.os.trans h.os, hg.tape.trans h.tape, hg.output.trans h.output, Nat.le_trans h.size hg.size, fun k hk hne => (hg.block k (Nat.lt_of_lt_of_le hk h.size) (fun e => by have := ho k e.symm; omega)).trans (h.block k hk hne)⟩

theorem gb_cell {w W : World} {db b : Nat} (h : w.grownBy W (some db)) (hb : b < w.heap.size) (hne : b ≠ db) (j : Nat) {v : Value} (hv : w.cell? ⟨b, j, none⟩ = some v) : W.cell? ⟨b, j, none⟩ = some v :=
  (World.cell?_of_block (a := ⟨b, j, none⟩) (h.block b hb (fun e => hne (by injection e)))).trans hv

/-- What Slide holds while it goes through objects: what was there ahead is as it was, but for the arena that is made. -/
structure SlI (w5 : World) (db : Nat) (vo : Value) (hs : List Int) (fs : List (List Int)) (L O : List Int) (W : World) (vm : Value) : Prop where
  g : w5.grownBy W (some db)
  d0 : W.cell? ⟨db, 0, none⟩ = some vm
  d1 : W.cell? ⟨db, 1, none⟩ = some vo
  df : ∀ j, W.frozen? ⟨db, j, none⟩ = false
  row : W.ownsRow w5.heap.size 51 1 vm (laid hs fs L O).length (wordsV (laid hs fs L O))
  ty : ∃ cs, W.heap[db]? = some (.cells cs 24)
  lt : db < w5.heap.size

theorem SlI.below {w5 W W' : World} {db : Nat} {vo vm : Value} {hs : List Int} {fs : List (List Int)} {L O : List Int} (h : SlI w5 db vo hs fs L O W vm) (hb : Below W.heap.size W W') : SlI w5 db vo hs fs L O W' vm := by
  have hl : db < W.heap.size := World.block_lt_of_cell? W _ h.d0
  refine ⟨gb_below h.g hb, (hb.cell (p := ⟨db, 0, none⟩) hl).trans h.d0, (hb.cell (p := ⟨db, 1, none⟩) hl).trans h.d1, fun j => (hb.frozen (p := ⟨db, j, none⟩) hl).trans (h.df j), ownsRow_below h.row hb, ?_, h.lt⟩
  obtain ⟨cs, hc⟩ := h.ty
  exact ⟨cs, (hb.block db hl).trans hc⟩

theorem SlI.setO {w5 W : World} {db b : Nat} {vo vm : Value} {hs : List Int} {fs : List (List Int)} {L O : List Int} (h : SlI w5 db vo hs fs L O W vm) (hb : w5.heap.size ≤ b) (hv : vm.ownBlock ≠ some b) (j : Nat) (u : Value) : SlI w5 db vo hs fs L O (W.setCell ⟨b, j, none⟩ u) vm := by
  have hlt := h.lt
  have hg := grown_set W b j u
  have hbk : (W.setCell ⟨b, j, none⟩ u).heap[db]? = W.heap[db]? := hg.block db (World.block_lt_of_cell? W _ h.d0) (fun e => by injection e with e; omega)
  refine ⟨gb_set h.g (.inr hb) j u, (World.cell?_of_block (a := ⟨db, 0, none⟩) hbk).trans h.d0, (World.cell?_of_block (a := ⟨db, 1, none⟩) hbk).trans h.d1, fun i => (World.frozen?_of_block (a := ⟨db, i, none⟩) hbk).trans (h.df i), h.row.kept hg (or_ne hv), ?_, h.lt⟩
  obtain ⟨cs, hc⟩ := h.ty
  exact ⟨cs, hbk.trans hc⟩

/-- Some words more. -/
theorem SlI.push {w5 W w1 : World} {db : Nat} {vo vm v' : Value} {hs : List Int} {fs : List (List Int)} {L O : List Int} (h : SlI w5 db vo hs fs L O W vm) (hg : W.grownBy w1 vm.ownBlock) : w1.cell? ⟨db, 0, none⟩ = some vm ∧ (∀ j, w1.frozen? ⟨db, j, none⟩ = false) ∧ db < w1.heap.size ∧
    w5.grownBy (w1.setCell ⟨db, 0, none⟩ v') (some db) ∧ (w1.setCell ⟨db, 0, none⟩ v').cell? ⟨db, 0, none⟩ = some v' ∧ (w1.setCell ⟨db, 0, none⟩ v').cell? ⟨db, 1, none⟩ = some vo ∧ (∀ j, (w1.setCell ⟨db, 0, none⟩ v').frozen? ⟨db, j, none⟩ = false) ∧ (∃ cs, (w1.setCell ⟨db, 0, none⟩ v').heap[db]? = some (.cells cs 24)) := by
  have hl : db < W.heap.size := World.block_lt_of_cell? W _ h.d0
  have hlt := h.lt
  have hne : some db ≠ vm.ownBlock := fun e => by have := (h.row.lt db e.symm).1; omega
  have hbk := hg.block db hl hne
  obtain ⟨cs, hc⟩ := h.ty
  have c0 := (World.cell?_of_block (a := ⟨db, 0, none⟩) hbk).trans h.d0
  refine ⟨c0, fun j => (World.frozen?_of_block (a := ⟨db, j, none⟩) hbk).trans (h.df j), Nat.lt_of_lt_of_le hl hg.size, gb_set (gb_grown h.g hg (fun k e => (h.row.lt k e).1)) (.inl rfl) 0 v', World.cell?_setCell_same' _ _ _ (by rw [c0]; rfl), ?_, fun j => ?_, ⟨_, heap_setCell_same w1 db 0 cs 24 _ (hbk.trans hc)⟩⟩
  · rw [World.cell?_setCell_other _ _ _ _ (by simp)]; exact (World.cell?_of_block (a := ⟨db, 1, none⟩) hbk).trans h.d1
  · rw [World.frozen?_setCell]; exact (World.frozen?_of_block (a := ⟨db, j, none⟩) hbk).trans (h.df j)

/-- All other blocks are as they were. -/
def KpS (W W' : World) (db : Nat) (vm vm' : Value) : Prop :=
  W.heap.size ≤ W'.heap.size ∧ ∀ k, k < W.heap.size → k ≠ db → vm.ownBlock ≠ some k → W'.heap[k]? = W.heap[k]? ∧ vm'.ownBlock ≠ some k

theorem KpS.refl (W : World) (db : Nat) (vm : Value) : KpS W W db vm vm := ⟨Nat.le_refl _, fun k _ _ h => ⟨rfl, h⟩⟩
theorem KpS.below {W W' W'' : World} {db : Nat} {vm vm' : Value} (h : KpS W W' db vm vm') (hb : Below W'.heap.size W' W'') : KpS W W'' db vm vm' :=
  ⟨Nat.le_trans h.1 hb.size, fun k h1 h2 h3 => ⟨(hb.block k (Nat.lt_of_lt_of_le h1 h.1)).trans (h.2 k h1 h2 h3).1, (h.2 k h1 h2 h3).2⟩⟩
theorem KpS.set {W W' : World} {db b : Nat} {vm vm' : Value} (h : KpS W W' db vm vm') (hb : W.heap.size ≤ b) (j : Nat) (u : Value) : KpS W (W'.setCell ⟨b, j, none⟩ u) db vm vm' :=
  ⟨by have := h.1; simp [World.setCell]; omega, fun k h1 h2 h3 => ⟨(Below.heap_setCell W' ⟨b, j, none⟩ u k (by show k ≠ b; omega)).trans (h.2 k h1 h2 h3).1, (h.2 k h1 h2 h3).2⟩⟩
theorem KpS.push {W W' w1 : World} {db : Nat} {vm vm' v' : Value} (h : KpS W W' db vm vm') (hg : W'.grownBy w1 vm'.ownBlock) (hat : v'.ownBlock = vm'.ownBlock ∨ v'.ownBlock = some W'.heap.size) : KpS W (w1.setCell ⟨db, 0, none⟩ v') db vm v' := by
  refine ⟨by have := h.1; have := hg.size; simp [World.setCell]; omega, fun k h1 h2 h3 => ?_⟩
  obtain ⟨h4, h5⟩ := h.2 k h1 h2 h3
  have hk := Nat.lt_of_lt_of_le h1 h.1
  refine ⟨((Below.heap_setCell w1 ⟨db, 0, none⟩ v' k (by show k ≠ db; exact h2)).trans (hg.block k hk (fun e => h5 e.symm))).trans h4, fun e => ?_⟩
  rcases hat with h6 | h6
  · exact h5 (h6 ▸ e)
  · rw [h6] at e; injection e with e; omega

end Go.Proofs.Ytnbhciejlidnlaa
