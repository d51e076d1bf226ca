/- Walks: the document's Lay. -/
import Derived.Test.YtahdalejmfbkeaaFb
namespace Go.Proofs.Ytahdalejmfbkeaa
set_option linter.unusedSimpArgs false
set_option linter.unusedVariables false
open Go.RowKit Go.Shelf

/-- The words of the first k objects, with headers. -/
def layHK (st : List Int) (H : List Hd) (L : List (List V)) (k : Nat) : List Int := joinW ((H.take k).map hW) (layFields st (L.take k))
def layHW (st : List Int) (H : List Hd) (L : List (List V)) : List Int := joinW (H.map hW) (layFields st L)

theorem layHK_succ (st : List Int) {H : List Hd} {L : List (List V)} {k : Nat} (hH : k < H.length) (h : k < L.length) : layHK st H L (k + 1) = layHK st H L k ++ ([hW H[k]] ++ L[k].map (packV st)) := by
  unfold layHK layFields
  rw [List.take_succ_eq_append_getElem h, List.take_succ_eq_append_getElem hH, List.map_append, List.map_append]
  exact joinW_snoc _ _ _ _ (by simp; omega)

theorem layHK_len (st : List Int) {H : List Hd} {L : List (List V)} (hl : H.length = L.length) (k : Nat) : (layHK st H L k).length = tot (L.take k) := by
  unfold layHK
  rw [joinW_len _ _ (by simp [layFields, hl])]
  unfold tot layFields
  rw [List.map_map]
  congr 1
  apply List.map_congr_left
  intro l _
  simp

/-- A row of words, whose slice lies in a box. -/
structure BoxW (W : World) (cb : Nat) (s : Value) (l : List Int) (r : Value) : Prop where
  c : W.cell? ⟨cb, 0, none⟩ = some s
  fz : W.frozen? ⟨cb, 0, none⟩ = false
  c1 : W.cell? ⟨cb, 1, none⟩ = some r
  row : W.ownsRow (cb + 1) 54 1 s l.length (wordsV l)

theorem BoxW.below {W W' : World} {cb : Nat} {s r : Value} {l : List Int} (h : BoxW W cb s l r) (hb : Below W.heap.size W W') : BoxW W' cb s l r := by
  have hlt := World.block_lt_of_cell? W _ h.c
  exact ⟨(hb.cell (p := ⟨cb, 0, none⟩) hlt).trans h.c, (hb.frozen (p := ⟨cb, 0, none⟩) hlt).trans h.fz, (hb.cell (p := ⟨cb, 1, none⟩) hlt).trans h.c1, ownsRow_below h.row hb⟩

theorem BoxW.put {W W1 w1 : World} {cb : Nat} {s v1 r : Value} {l : List Int} {x : Int} (h : BoxW W cb s l r) (h1 : Below W.heap.size W W1) (hg : W1.grownBy w1 s.ownBlock) (hrow : w1.ownsRow (cb + 1) 54 1 v1 (l.length + 1) (wordsV l ++ [.int .u64 x])) :
    BoxW (w1.setCell ⟨cb, 0, none⟩ v1) cb v1 (l ++ [x]) r ∧ Below cb W (w1.setCell ⟨cb, 0, none⟩ v1) := by
  have hlt : cb < W.heap.size := World.block_lt_of_cell? W _ h.c
  have hs1 := h1.size
  have hcb : w1.heap[cb]? = W.heap[cb]? := (hg.block cb (by omega) (fun e => by have := (h.row.lt _ e.symm).1; omega)).trans (h1.block cb hlt)
  have hc := (World.cell?_of_block (a := ⟨cb, 0, none⟩) hcb).trans h.c
  refine ⟨⟨World.cell?_setCell_same' _ _ _ (by rw [hc]; rfl), ?_, ?_, ?_⟩, ?_⟩
  · rw [World.frozen?_setCell]; exact (World.frozen?_of_block (a := ⟨cb, 0, none⟩) hcb).trans h.fz
  · rw [World.cell?_setCell_other _ _ _ _ (by simp)]
    exact (World.cell?_of_block (a := ⟨cb, 1, none⟩) hcb).trans h.c1
  · rw [wordsV_snoc, List.length_append]; exact ownsRow_setCell_below hrow (by simp) _
  · exact ((h1.mono (B' := cb) (by omega)).grown hg (by omega) (fun q e => by have := (h.row.lt q e).1; omega)).setCell (p := ⟨cb, 0, none⟩) (Nat.le_refl _) _

theorem WdsN.setCell {x : Option Nat} {W : World} {a : Option Addr} {l : List Int} (h : WdsN x W a l) {p : Addr} (hp : ∀ b off, a = some ⟨b, off, none⟩ → p.block < b) (u : Value) : WdsN x (W.setCell p u) a l := by
  have hs : (W.setCell p u).heap.size = W.heap.size := by simp [World.setCell]
  refine ⟨⟨h.1.1, fun hne => ?_⟩, h.2⟩
  obtain ⟨b, off, rfl, hB, hc⟩ := h.1.2 hne
  have h3 := hp b off rfl
  refine ⟨b, off, rfl, by rw [hs]; exact hB, fun k v hk => ?_⟩
  exact (World.cell?_of_block (a := ⟨b, off + k, none⟩) (Below.heap_setCell W p u b (by omega))).trans (hc k v hk)

def RLayRes (st : List Int) (H : List Hd) (g : Gr) (e : Ending) (W : World) : Prop :=
  ∃ aw cw ar cr, e = .returned (.agg #[.slice aw (layHW st H g.objs).length cw, .slice ar (g.roots.map (packV st)).length cr]) ∧ Wds W.heap.size W aw (layHW st H g.objs) ∧ Wds W.heap.size W ar (g.roots.map (packV st))

set_option maxRecDepth 100000 in
set_option maxHeartbeats 8000000 in
theorem rlay_c (ao ar ah : Option Addr) (co cr ch : Nat) (g : Gr) (H : List Hd) (B : Nat) (w : World) (ho : Objs B w ao g.objs) (hr : Vals B w ar g.roots) (hH : Hdrs B w ah H) (hHl : H.length = g.objs.length) (hB : B ≤ w.heap.size)
    (hn : g.objs.length ≤ 256) (h4 : ∀ l ∈ g.objs, l.length ≤ 4) (h8 : g.roots.length ≤ 8) (hrr : ∀ v ∈ g.roots, v.1 = true → 0 ≤ v.2 ∧ v.2 < g.objs.length) (hro : ∀ l ∈ g.objs, ∀ v ∈ l, v.1 = true → 0 ≤ v.2 ∧ v.2 < g.objs.length) (hnr : NumOk g.roots) (hno : ∀ l ∈ g.objs, NumOk l) :
    Calls Try.prog 19 #[.agg #[.slice ao g.objs.length co, .slice ar g.roots.length cr], .slice ah H.length ch] w fun e w' => RLayRes (stF 0 g.objs) H g e w' ∧ Below w.heap.size w w' := by
  obtain ⟨i0, hi, hz0, hz1, hz2⟩ := info_parts Try.info54
  obtain ⟨i2, hi2, hy0, hy1, hy2⟩ := info_parts Try.info2
  have htL := tot_le5 _ h4
  have HHl := hide hHl
  have hH1 : H.length ≤ g.objs.length := by omega
  have hH2 : g.objs.length ≤ H.length := by omega
  clear hHl
  obtain ⟨W4, hW4⟩ : ∃ W4, (w.alloc (.cells #[.slice ao g.objs.length co, .slice ar g.roots.length cr] 33)).alloc (.cells #[.slice none 0 0, .slice none 0 0] 24) = W4 := ⟨_, rfl⟩
  have hbA : Below w.heap.size w W4 := by rw [← hW4]; exact ((Below.refl w.heap.size w).alloc (Nat.le_refl _) _).alloc (by simp) _
  have hs4 : w.heap.size + 1 < W4.heap.size := by rw [← hW4]; simp
  have q0 : W4.cell? ⟨w.heap.size + 1, 0, none⟩ = some (.slice none 0 0) := by rw [← hW4]; simp [go_sem]
  have q1 : W4.cell? ⟨w.heap.size + 1, 1, none⟩ = some (.slice none 0 0) := by rw [← hW4]; simp [go_sem]
  have f0 : W4.frozen? ⟨w.heap.size + 1, 0, none⟩ = false := by rw [← hW4]; simp [go_sem]
  have f1 : W4.frozen? ⟨w.heap.size + 1, 1, none⟩ = false := by rw [← hW4]; simp [go_sem]
  have g0 : W4.cell? ⟨w.heap.size, 0, none⟩ = some (.slice ao g.objs.length co) := by rw [← hW4]; simp [go_sem]
  have g1 : W4.cell? ⟨w.heap.size, 1, none⟩ = some (.slice ar g.roots.length cr) := by rw [← hW4]; simp [go_sem]
  go_enter Try.func19, Try.ntmps19
  go_wp2
  clear hW4
  go_loopw [5, 6, 19] (fun s nx i wr => ∃ k : Nat, k ≤ g.objs.length ∧ i = .int .i64 k ∧ nx = .int .i64 (tot (g.objs.take k) : Nat) ∧ wr.ownsRow W4.heap.size 2 1 s k (intsV (stF 0 (g.objs.take k))) ∧ Below W4.heap.size W4 wr) (fun _ _ i _ => g.objs.length - (intOf i).toNat)
  case atStart => exact ⟨0, Nat.zero_le _, rfl, rfl, by simpa [intsV, stF] using World.ownsRow_nil _ _ _ _, Below.refl _ _⟩
  case round =>
    obtain ⟨k, hk, rfl, rfl, hown, hb⟩ := hrel
    have hsz := hb.size
    have hbwr : Below w.heap.size w wr := hbA.trans (hb.mono (by omega))
    by_cases hlt : k < g.objs.length
    · obtain ⟨b, off, ai, ci, rfl, hbB, hcb, _⟩ := (ho.below (hbwr.mono hB)).at hlt
      have hf4 := h4 _ (List.getElem_mem hlt)
      have HN := hide (tot_take_succ hlt)
      have hle := tot_take_le g.objs (k + 1)
      rw [unhide HN] at hle
      have HS : Hid (intsV (stF 0 (g.objs.take (k + 1))) = intsV (stF 0 (g.objs.take k)) ++ [.int .i64 ((tot (g.objs.take k) : Nat) : Int)]) := by
        show _ = _
        rw [List.take_succ_eq_append_getElem hlt, stF_snoc, intsV_snoc, Nat.zero_add]
      generalize g.objs[k].length = n at *
      generalize tot (g.objs.take k) = p at *
      go_wp2_with (at_builtin; go_must (refine wpList_append_own _ rfl _ _ 75 rfl W4.heap.size 2 i2 _ 1 8 Try.underlying75 hi2 hy0 hy1 hy2 rfl (by decide) _ _ _ rfl ((hown.alloc _).alloc _) ⟨wr.heap.size + 1, 0, none⟩ 1 1 [.int .i64 (p : Int)] rfl rfl (cell_one_at _ _ _ _ (by simp)) (by simp [Value.oneCell']) (by simp only [maxLen]; omega) (by omega) (by simp; omega) ?_); go_must (intro v' w1 hown' hgrow _; have hc6 := hgrow.cell (a := ⟨wr.heap.size, 0, none⟩) (v := .slice ai n ci) (by simp [go_sem]) (fun e => by have := (hown.lt _ e.symm).2; simp at this)))
      go_roundw
      case rel => exact ⟨k + 1, by omega, by go_num, by rw [unhide HN]; go_num, by rw [unhide HS]; exact hown', ((hb.alloc hsz _).alloc (by simp; omega) _).grown hgrow (by simp; omega) (fun q e => (hown.lt q e).1)⟩
      case measure => simp [intOf]; omega
    · obtain rfl : k = g.objs.length := by omega
      rw [List.take_length] at hown
      obtain ⟨sa, sc, hv, hI, hr9⟩ := ints_of_owns hown (stF_len _ 0).symm (by omega)
      clear hr9 hown
      subst hv
      have hstl := stF_len g.objs 0
      have hstm : ∀ x ∈ stF 0 g.objs, 0 ≤ x ∧ x ≤ 9223372036854775807 := fun x hx => by have := stF_mem g.objs 0 x hx; omega
      replace q0 := (hb.cell (p := ⟨w.heap.size + 1, 0, none⟩) (by simp; omega)).trans q0
      replace q1 := (hb.cell (p := ⟨w.heap.size + 1, 1, none⟩) (by simp; omega)).trans q1
      replace f0 := (hb.frozen (p := ⟨w.heap.size + 1, 0, none⟩) (by simp; omega)).trans f0
      replace f1 := (hb.frozen (p := ⟨w.heap.size + 1, 1, none⟩) (by simp; omega)).trans f1
      replace g0 := (hb.cell (p := ⟨w.heap.size, 0, none⟩) (by simp; omega)).trans g0
      replace g1 := (hb.cell (p := ⟨w.heap.size, 1, none⟩) (by simp; omega)).trans g1
      have Hc1 := hide (rpacked_c ar sa cr sc g.roots (stF 0 g.objs) wr.heap.size wr ((hr.below (hbwr.mono hB)).mono (by omega)) hI (Nat.le_refl _) (by omega) (by rw [hstl]; exact hrr) hstm hnr.wide (by omega))
      have HcP : Hid (∀ W (l : List V) a c, l ∈ g.objs → Below wr.heap.size wr W → Vals B W a l → Calls Try.prog 38 #[.slice a l.length c, .slice sa (stF 0 g.objs).length sc] W fun e w' => ∃ a' cap', e = .returned (.slice a' (l.map (packV (stF 0 g.objs))).length cap') ∧ WdsF W.heap.size w' a' (l.map (packV (stF 0 g.objs))) ∧ Below W.heap.size W w') := fun W l a c hl hb2 hv =>
        rpacked_c a sa c sc l (stF 0 g.objs) W.heap.size W (hv.mono (by have := hb2.size; omega)) ((hI.below hb2).mono hb2.size) (Nat.le_refl _) (by have := h4 l hl; omega) (by rw [hstl]; exact hro l hl) hstm (hno l hl).wide (by omega)
      have hbR := hbwr
      clear hI hstm hbA hbwr hb hstl
      generalize hS : stF 0 g.objs = S at *
      have HS := hide hS
      clear hS
      go_wp2_with fail
      refine (unhide Hc1).mono ?_
      rintro e w6 ⟨ar6, cr6, he, hV6, hb6⟩
      subst he
      clear Hc1
      have hs6 := hb6.size
      have hbw6 : Below w.heap.size w w6 := hbR.trans (hb6.mono (by omega))
      replace q0 := (hb6.cell (p := ⟨w.heap.size + 1, 0, none⟩) (by simp; omega)).trans q0
      replace q1 := (hb6.cell (p := ⟨w.heap.size + 1, 1, none⟩) (by simp; omega)).trans q1
      replace f0 := (hb6.frozen (p := ⟨w.heap.size + 1, 0, none⟩) (by simp; omega)).trans f0
      replace f1 := (hb6.frozen (p := ⟨w.heap.size + 1, 1, none⟩) (by simp; omega)).trans f1
      replace g0 := (hb6.cell (p := ⟨w.heap.size, 0, none⟩) (by simp; omega)).trans g0
      have HV6 := hide hV6
      have hlt6 : w.heap.size < w6.heap.size := by omega
      have hlt6' : w.heap.size + 1 < w6.heap.size := by omega
      have Hrl : Hid ((g.roots.map (packV S)).length = g.roots.length) := by show _ = _; simp
      have HcP6 : Hid (∀ W (l : List V) a c, l ∈ g.objs → Below w6.heap.size w6 W → Vals B W a l → Calls Try.prog 38 #[.slice a l.length c, .slice sa S.length sc] W fun e w' => ∃ a' cap', e = .returned (.slice a' (l.map (packV S)).length cap') ∧ WdsF W.heap.size w' a' (l.map (packV S)) ∧ Below W.heap.size W w') := fun W l a c hl hb2 hv => unhide HcP W l a c hl (hb6.trans (hb2.mono hs6)) hv
      rw [unhide Hrl]
      clear hV6 g1 hb6 HcP
      go_wp2
      go_loopw [42] (fun i wr => ∃ (k : Nat) (x : Value), k ≤ g.objs.length ∧ i = .int .i64 k ∧ Below w6.heap.size w6 wr ∧ BoxW wr w6.heap.size x (layHK S H g.objs k) (.slice ar6 g.roots.length cr6)) (fun i _ => g.objs.length - (intOf i).toNat)
      case atStart => exact ⟨0, .slice none 0 0, Nat.zero_le _, rfl, (Below.refl _ _).alloc (Nat.le_refl _) _, ⟨by simp [go_sem], by simp [go_sem], by simp [go_sem], by simpa [layHK, layFields, joinW, wordsV] using World.ownsRow_nil _ _ _ _⟩⟩
      case round =>
        obtain ⟨k, x, hk, rfl, hb, hbx⟩ := hrel
        have hsz := hb.size
        have hbwr : Below w.heap.size w wr := hbw6.trans (hb.mono (by omega))
        have hq : w6.heap.size < wr.heap.size := World.block_lt_of_cell? wr _ hbx.c
        by_cases hlt : k < g.objs.length
        · have hltH : k < H.length := by omega
          obtain ⟨b, off, ai, ci, rfl, hbB, hcb, hva⟩ := (ho.below (hbwr.mono hB)).at hlt
          obtain ⟨b2, off2, hn2, hm2, he2, rfl, hbB2, hh1, hh2, hh3, HhH⟩ := (hH.below (hbwr.mono hB)).at hltH
          have hmem := List.getElem_mem hlt
          have hf4 := h4 _ hmem
          have HK := hide (layHK_succ S hltH hlt)
          have hLk := layHK_len S (unhide HHl) k
          have hle := tot_take_le g.objs k
          have HhW : Hid (hW H[k] = headW hn2 hm2 he2) := by show _ = _; rw [HhH.out]; rfl
          have HcP2 := hide (fun W a c hb hv => unhide HcP6 W _ a c hmem hb hv)
          have HvO : Hid (Vals B w ai g.objs[k]) := hide (hva.below' (hbwr.mono hB))
          have hkH : (k : Int) < (H.length : Int) := by omega
          rw [unhide HhW] at HK
          generalize g.objs[k] = o at *
          generalize layHK S H g.objs k = pre at *
          have hpl : pre.length ≤ 1280 := by omega
          clear hLk hle hmem HhW HhH hva
          have hb2w : b2 < wr.heap.size := by omega
          have HcH := hide (rhead_c hn2 he2 hm2 (wr.alloc (.cells #[.slice ai o.length ci] 51)))
          go_wp2_with fail
          refine (unhide HcH).mono ?_
          rintro e w8 ⟨he, hb8⟩
          subst he
          clear HcH hh1 hh2 hh3
          simp only [World.size_alloc] at hb8
          have hs8 := hb8.size
          simp only [World.size_alloc] at hs8
          have hb8' : Below wr.heap.size wr w8 := ((Below.refl _ _).alloc (Nat.le_refl _) _).trans (hb8.mono (by omega))
          have bo : w8.cell? ⟨wr.heap.size, 0, none⟩ = some (.slice ai o.length ci) := by rw [hb8.cell (p := ⟨wr.heap.size, 0, none⟩) (by simp)]; simp [go_sem]
          have hbx8 := hbx.below hb8'
          have c08 := hbx8.c
          have cf08 := hbx8.fz
          have hrow8 := hbx8.row
          obtain ⟨ca, cc, rfl⟩ := ownsRow_slice hrow8
          have hncb : Value.ownBlock (.slice ca pre.length cc) ≠ some w6.heap.size := fun e => by have := (hrow8.lt _ e).1; omega
          have hncw : Value.ownBlock (.slice ca pre.length cc) ≠ some wr.heap.size := fun e => by have := (hbx.row.lt _ e).2; omega
          generalize headW hn2 hm2 he2 = hw at *
          generalize headE hn2 he2 = hee at *
          have hq8 : w6.heap.size < w8.heap.size := by omega
          have hqw8 : wr.heap.size < w8.heap.size := by omega
          have hb8a : Below w8.heap.size w8 (w8.alloc (.cells #[.int .u64 hw] 54)) := (Below.refl _ _).alloc (Nat.le_refl _) _
          go_wp2_with (first
            | (at_builtin; go_must (refine wpList_append_own_at _ rfl _ _ 22 rfl (w6.heap.size + 1) 54 i0 _ 1 8 Try.underlying22 hi hz0 hz1 hz2 rfl (by decide) _ _ _ rfl (hrow8.alloc _) ⟨w8.heap.size, 0, none⟩ 1 1 [.int .u64 hw] rfl rfl (cell_one_at _ _ _ _ (by simp)) (by simp [Value.oneCell']) (by simp only [maxLen]; omega) (by omega) (by simp; omega) ?_); go_must (intro v1 w9 hrow9 hg9 _ hat9; obtain ⟨g9, cap9, hv9⟩ := ownsRow_succ hrow9; subst hv9; have hs9 := hg9.size; simp only [World.size_alloc] at hs9; have c09 := hg9.cell ((World.grownBy_alloc w8 (.cells #[.int .u64 hw] 54) none).cell c08 (by simp)) (fun e => hncb e.symm); have cf9 := (World.frozen?_of_block (a := ⟨w6.heap.size, 0, none⟩) (hg9.block w6.heap.size (by simp; omega) (fun e => hncb e.symm))).trans ((World.frozen?_of_block (a := ⟨w6.heap.size, 0, none⟩) (Below.heap_alloc w8 _ _ hq8)).trans cf08); have bo9 := hg9.cell ((World.grownBy_alloc w8 (.cells #[.int .u64 hw] 54) none).cell bo (by simp)) (fun e => hncw e.symm)))
            | fail)
          obtain ⟨r1, r2⟩ := hbx8.put hb8a hg9 hrow9
          obtain ⟨X, hX⟩ : ∃ X, w9.setCell ⟨w6.heap.size, 0, none⟩ (.slice (some ⟨g9, 0, none⟩) (pre.length + 1) cap9) = X := ⟨_, rfl⟩
          rw [hX] at r1 r2
          rw [hX]
          have hbX : Below w6.heap.size w6 X := (hb.trans (hb8'.mono (by omega))).trans r2
          have hqo : wr.heap.size < X.heap.size := by have := r2.size; omega
          have hbwX : Below w.heap.size w X := hbw6.trans (hbX.mono (by omega))
          have Hc3 := hide (unhide HcP2 X ai ci hbX ((unhide HvO).below (hbwX.mono hB)))
          have HR1 := hide r1
          have hol : (o.map (packV S)).length ≤ 4 := by simp; exact hf4
          generalize o.map (packV S) = pv at *
          clear hX bo bo9 c08 cf08 c09 cf9 hrow8 hrow9 hg9 hat9 hb8 hb8' hb8a hbx hbx8 r1 HcP2 HvO
          refine (unhide Hc3).mono ?_
          rintro e w10 ⟨a10, c10, he, hW10, hb10⟩
          subst he
          have hs10 := hb10.size
          have hbx10 := (unhide HR1).below hb10
          have HN10 : Hid (WdsN (some g9) w10 a10 pv) := by
            refine ⟨hW10.1, fun _ b off ha e => ?_⟩
            have h1 := hW10.2 b off ha
            have h2 := (unhide HR1).row.lt g9 rfl
            injection e with e
            omega
          have Hnew : Hid (∀ b off, a10 = some ⟨b, off, none⟩ → w6.heap.size < b) := fun b off ha => by have := hW10.2 b off ha; omega
          have HB10 := hide hbx10
          clear Hc3 hW10 HR1 hbx10
          go_wp2
          go_loopw [66] (fun i wi => ∃ (j : Nat) (y : Value), j ≤ pv.length ∧ i = .int .i64 j ∧ BoxW wi w6.heap.size y (pre ++ [hw] ++ pv.take j) (.slice ar6 g.roots.length cr6) ∧ Below w6.heap.size w6 wi ∧ Hid (WdsN y.ownBlock wi a10 pv)) (fun i _ => pv.length - (intOf i).toNat)
          case atStart => exact ⟨0, .slice (some ⟨g9, 0, none⟩) (pre.length + 1) cap9, Nat.zero_le _, rfl, by simpa using unhide HB10, hbX.trans (hb10.mono (by omega)), HN10⟩
          case round =>
            clear HN10 HB10 hb10 hs10 hs9 hs8
            obtain ⟨j, y, hj, rfl, hbx, hb2, HN⟩ := hrel
            have hsz2 := hb2.size
            have hq2 : w6.heap.size < wr.heap.size := World.block_lt_of_cell? wr _ hbx.c
            by_cases hlt2 : j < pv.length
            · obtain ⟨b4, off4, rfl, hbB4, hc4⟩ := (unhide HN).1.at hlt2
              have HT : Hid (pre ++ [hw] ++ pv.take (j + 1) = (pre ++ [hw] ++ pv.take j) ++ [pv[j]]) := by show _ = _; rw [List.take_succ_eq_append_getElem hlt2, ← List.append_assoc]
              have hpl2 : (pre ++ [hw] ++ pv.take j).length ≤ 1285 := by simp; omega
              have HN2 := hide ((unhide HN).below ((Below.refl _ _).alloc (Nat.le_refl _) (.cells #[.int .u64 pv[j]] 54)))
              generalize pv[j] = z at *
              generalize pre ++ [hw] ++ pv.take j = pre2 at *
              have c08 := hbx.c
              have cf08 := hbx.fz
              have hrow8 := hbx.row
              obtain ⟨ca2, cc2, rfl⟩ := ownsRow_slice hrow8
              have hncb2 : Value.ownBlock (.slice ca2 pre2.length cc2) ≠ some w6.heap.size := fun e => by have := (hrow8.lt _ e).1; omega
              have Hbx := hide hbx
              clear hbx
              go_wp2_with (at_builtin; go_must (refine wpList_append_own_at _ rfl _ _ 22 rfl (w6.heap.size + 1) 54 i0 _ 1 8 Try.underlying22 hi hz0 hz1 hz2 rfl (by decide) _ _ _ rfl (hrow8.alloc _) ⟨wr.heap.size, 0, none⟩ 1 1 [.int .u64 z] rfl rfl (cell_one_at _ _ _ _ (by simp)) (by simp [Value.oneCell']) (by simp only [maxLen]; omega) (by omega) (by simp; omega) ?_); go_must (intro v1 w9 hrow9 hg9 _ hat9; obtain ⟨g9', cap9', hv9⟩ := ownsRow_succ hrow9; subst hv9; have hs9 := hg9.size; simp only [World.size_alloc] at hs9; have c09 := hg9.cell ((World.grownBy_alloc wr (.cells #[.int .u64 z] 54) none).cell c08 (by simp)) (fun e => hncb2 e.symm); have cf9 := (World.frozen?_of_block (a := ⟨w6.heap.size, 0, none⟩) (hg9.block w6.heap.size (by simp; omega) (fun e => hncb2 e.symm))).trans ((World.frozen?_of_block (a := ⟨w6.heap.size, 0, none⟩) (Below.heap_alloc wr _ _ hq2)).trans cf08)))
              go_roundw
              case rel =>
                obtain ⟨r1, r2⟩ := (unhide Hbx).put ((Below.refl _ _).alloc (Nat.le_refl _) _) hg9 hrow9
                exact ⟨j + 1, _, by omega, by go_num, by rw [unhide HT]; exact r1, hb2.trans r2, hide (((unhide HN2).append hg9 hat9).setCell (p := ⟨w6.heap.size, 0, none⟩) (unhide Hnew) _)⟩
              case measure => simp [intOf]; omega
            · obtain rfl : j = pv.length := by omega
              rw [List.take_length] at hbx
              go_wp2
              go_roundw
              case rel => exact ⟨k + 1, y, by omega, by go_num, hb2, by rw [unhide HK, ← List.append_assoc]; exact hbx⟩
              case measure => simp [intOf]; omega
        · obtain rfl : k = g.objs.length := by omega
          have hall : layHK S H g.objs g.objs.length = layHW S H g.objs := by unfold layHK layHW; rw [List.take_length, ← unhide HHl, List.take_length]
          have hlen : (layHW S H g.objs).length ≤ 1280 := by rw [← hall, layHK_len S (unhide HHl)]; have := tot_take_le g.objs g.objs.length; omega
          rw [hall] at hbx
          have c0 := hbx.c
          have c1 := hbx.c1
          obtain ⟨va', vc', hv, hWF, _⟩ := wordsF_of_owns hbx.row rfl (by omega)
          subst hv
          have HWF := hide hWF
          have HRF := hide ((unhide HV6).below hb)
          clear hWF hbx hall
          replace q0 := (hb.cell (p := ⟨w.heap.size + 1, 0, none⟩) (by simp; omega)).trans q0
          replace q1 := (hb.cell (p := ⟨w.heap.size + 1, 1, none⟩) (by simp; omega)).trans q1
          replace f0 := (hb.frozen (p := ⟨w.heap.size + 1, 0, none⟩) (by simp; omega)).trans f0
          replace f1 := (hb.frozen (p := ⟨w.heap.size + 1, 1, none⟩) (by simp; omega)).trans f1
          generalize hLW : layHW S H g.objs = LW at *
          have HLW := hide hLW
          clear hLW
          go_wp2
          refine bodyPost_ret (v := .agg #[.slice va' LW.length vc', .slice ar6 g.roots.length cr6]) (by simp [results, Try.results19, go_sem, q0, q1, f0, f1]) rfl ?_
          have e1 : layHW (stF 0 g.objs) H g.objs = LW := by rw [unhide HS]; exact unhide HLW
          refine ⟨⟨va', vc', ar6, cr6, by rw [e1, unhide HS, unhide Hrl], ?_, ?_⟩, (hbwr.setCell (p := ⟨w.heap.size + 1, 0, none⟩) (by simp) _).setCell (p := ⟨w.heap.size + 1, 1, none⟩) (by simp) _⟩
          · rw [e1]
            exact (((unhide HWF).setCell (p := ⟨w.heap.size + 1, 0, none⟩) (by simp; omega) _).setCell (p := ⟨w.heap.size + 1, 1, none⟩) (by simp; omega) _).1
          · rw [unhide HS]
            exact (((unhide HRF).setCell (p := ⟨w.heap.size + 1, 0, none⟩) (by simp; omega) _).setCell (p := ⟨w.heap.size + 1, 1, none⟩) (by simp; omega) _).1

end Go.Proofs.Ytahdalejmfbkeaa
