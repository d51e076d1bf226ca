/- Merged texts: Fc Pe Ta Qi Qj Tc Cb Tb Rc Rd Qk Ql Qm. -/
import Derived.Test.YtklihkalcmchpaaProg
import Derived.Test.YtklihkalcmchpaaMoveTwiceD
import Derived.BigQuiet
import Derived.Deep.QuietTactic
import Derived.Deep.RegionWith

/- Walks: the document's Lay. -/
namespace Go.Proofs.Ytklihkalcmchpaa
set_option linter.unusedSimpArgs false
set_option linter.unusedVariables false
open Go.RowKit Go.Shelf

/-- The words of the first k objects, with headers. -/
def layHK (st : List Int) (H : List Hd) (L : List (List V)) (k : Nat) : List Int := joinW ((H.take k).map hW) (layFields st (L.take k))
def layHW (st : List Int) (H : List Hd) (L : List (List V)) : List Int := joinW (H.map hW) (layFields st L)

theorem layHK_succ (st : List Int) {H : List Hd} {L : List (List V)} {k : Nat} (hH : k < H.length) (h : k < L.length) : layHK st H L (k + 1) = layHK st H L k ++ ([hW H[k]] ++ L[k].map (packV st)) := by
  unfold layHK layFields
  rw [List.take_succ_eq_append_getElem h, List.take_succ_eq_append_getElem hH, List.map_append, List.map_append]
  exact joinW_snoc _ _ _ _ (by simp; omega)

theorem layHK_len (st : List Int) {H : List Hd} {L : List (List V)} (hl : H.length = L.length) (k : Nat) : (layHK st H L k).length = tot (L.take k) := by
  unfold layHK
  rw [joinW_len _ _ (by simp [layFields, hl])]
  unfold tot layFields
  rw [List.map_map]
  congr 1
  apply List.map_congr_left
  intro l _
  simp

/-- A row of words, whose slice lies in a box. -/
structure BoxW (W : World) (cb : Nat) (s : Value) (l : List Int) (r : Value) : Prop where
  c : W.cell? ⟨cb, 0, none⟩ = some s
  fz : W.frozen? ⟨cb, 0, none⟩ = false
  c1 : W.cell? ⟨cb, 1, none⟩ = some r
  row : W.ownsRow (cb + 1) 45 1 s l.length (wordsV l)

theorem BoxW.below {W W' : World} {cb : Nat} {s r : Value} {l : List Int} (h : BoxW W cb s l r) (hb : Below W.heap.size W W') : BoxW W' cb s l r := by
  have hlt := World.block_lt_of_cell? W _ h.c
  exact ⟨(hb.cell (p := ⟨cb, 0, none⟩) hlt).trans h.c, (hb.frozen (p := ⟨cb, 0, none⟩) hlt).trans h.fz, (hb.cell (p := ⟨cb, 1, none⟩) hlt).trans h.c1, ownsRow_below h.row hb⟩

theorem BoxW.put {W W1 w1 : World} {cb : Nat} {s v1 r : Value} {l : List Int} {x : Int} (h : BoxW W cb s l r) (h1 : Below W.heap.size W W1) (hg : W1.grownBy w1 s.ownBlock) (hrow : w1.ownsRow (cb + 1) 45 1 v1 (l.length + 1) (wordsV l ++ [.int .u64 x])) :
    BoxW (w1.setCell ⟨cb, 0, none⟩ v1) cb v1 (l ++ [x]) r ∧ Below cb W (w1.setCell ⟨cb, 0, none⟩ v1) := by
  have hlt : cb < W.heap.size := World.block_lt_of_cell? W _ h.c
  have hs1 := h1.size
  have hcb : w1.heap[cb]? = W.heap[cb]? := (hg.block cb (by omega) (fun e => by have := (h.row.lt _ e.symm).1; omega)).trans (h1.block cb hlt)
  have hc := (World.cell?_of_block (a := ⟨cb, 0, none⟩) hcb).trans h.c
  refine ⟨⟨World.cell?_setCell_same' _ _ _ (by rw [hc]; rfl), ?_, ?_, ?_⟩, ?_⟩
  · rw [World.frozen?_setCell]; exact (World.frozen?_of_block (a := ⟨cb, 0, none⟩) hcb).trans h.fz
  · rw [World.cell?_setCell_other _ _ _ _ (by simp)]
    exact (World.cell?_of_block (a := ⟨cb, 1, none⟩) hcb).trans h.c1
  · rw [wordsV_snoc, List.length_append]; exact ownsRow_setCell_below hrow (by simp) _
  · exact ((h1.mono (B' := cb) (by omega)).grown hg (by omega) (fun q e => by have := (h.row.lt q e).1; omega)).setCell (p := ⟨cb, 0, none⟩) (Nat.le_refl _) _

theorem WdsN.setCell {x : Option Nat} {W : World} {a : Option Addr} {l : List Int} (h : WdsN x W a l) {p : Addr} (hp : ∀ b off, a = some ⟨b, off, none⟩ → p.block < b) (u : Value) : WdsN x (W.setCell p u) a l := by
  have hs : (W.setCell p u).heap.size = W.heap.size := by simp [World.setCell]
  refine ⟨⟨h.1.1, fun hne => ?_⟩, h.2⟩
  obtain ⟨b, off, rfl, hB, hc⟩ := h.1.2 hne
  have h3 := hp b off rfl
  refine ⟨b, off, rfl, by rw [hs]; exact hB, fun k v hk => ?_⟩
  exact (World.cell?_of_block (a := ⟨b, off + k, none⟩) (Below.heap_setCell W p u b (by omega))).trans (hc k v hk)

def RLayRes (st : List Int) (H : List Hd) (g : Gr) (e : Ending) (W : World) : Prop :=
  ∃ aw cw ar cr, e = .returned (.agg #[.slice aw (layHW st H g.objs).length cw, .slice ar (g.roots.map (packV st)).length cr]) ∧ Wds W.heap.size W aw (layHW st H g.objs) ∧ Wds W.heap.size W ar (g.roots.map (packV st))

set_option maxRecDepth 100000 in
set_option maxHeartbeats 8000000 in
theorem rlay_c (ao ar ah : Option Addr) (co cr ch : Nat) (g : Gr) (H : List Hd) (B : Nat) (w : World) (ho : Objs B w ao g.objs) (hr : Vals B w ar g.roots) (hH : Hdrs B w ah H) (hHl : H.length = g.objs.length) (hB : B ≤ w.heap.size)
    (hn : g.objs.length ≤ 256) (h4 : ∀ l ∈ g.objs, l.length ≤ 4) (h8 : g.roots.length ≤ 8) (hrr : ∀ v ∈ g.roots, v.1 = true → 0 ≤ v.2 ∧ v.2 < g.objs.length) (hro : ∀ l ∈ g.objs, ∀ v ∈ l, v.1 = true → 0 ≤ v.2 ∧ v.2 < g.objs.length) (hnr : NumOk g.roots) (hno : ∀ l ∈ g.objs, NumOk l) :
    Calls Try.prog 27 #[.agg #[.slice ao g.objs.length co, .slice ar g.roots.length cr], .slice ah H.length ch] w fun e w' => RLayRes (stF 0 g.objs) H g e w' ∧ Below w.heap.size w w' := by
  obtain ⟨i0, hi, hz0, hz1, hz2⟩ := info_parts Try.info45
  obtain ⟨i2, hi2, hy0, hy1, hy2⟩ := info_parts Try.info2
  have htL := tot_le5 _ h4
  have HHl := hide hHl
  have hH1 : H.length ≤ g.objs.length := by omega
  have hH2 : g.objs.length ≤ H.length := by omega
  clear hHl
  obtain ⟨W4, hW4⟩ : ∃ W4, (w.alloc (.cells #[.slice ao g.objs.length co, .slice ar g.roots.length cr] 36)).alloc (.cells #[.slice none 0 0, .slice none 0 0] 24) = W4 := ⟨_, rfl⟩
  have hbA : Below w.heap.size w W4 := by rw [← hW4]; exact ((Below.refl w.heap.size w).alloc (Nat.le_refl _) _).alloc (by simp) _
  have hs4 : w.heap.size + 1 < W4.heap.size := by rw [← hW4]; simp
  have q0 : W4.cell? ⟨w.heap.size + 1, 0, none⟩ = some (.slice none 0 0) := by rw [← hW4]; simp [go_sem]
  have q1 : W4.cell? ⟨w.heap.size + 1, 1, none⟩ = some (.slice none 0 0) := by rw [← hW4]; simp [go_sem]
  have f0 : W4.frozen? ⟨w.heap.size + 1, 0, none⟩ = false := by rw [← hW4]; simp [go_sem]
  have f1 : W4.frozen? ⟨w.heap.size + 1, 1, none⟩ = false := by rw [← hW4]; simp [go_sem]
  have g0 : W4.cell? ⟨w.heap.size, 0, none⟩ = some (.slice ao g.objs.length co) := by rw [← hW4]; simp [go_sem]
  have g1 : W4.cell? ⟨w.heap.size, 1, none⟩ = some (.slice ar g.roots.length cr) := by rw [← hW4]; simp [go_sem]
  go_enter Try.func27, Try.ntmps27
  go_wp2
  clear hW4
  go_loopw [5, 6, 19] (fun s nx i wr => ∃ k : Nat, k ≤ g.objs.length ∧ i = .int .i64 k ∧ nx = .int .i64 (tot (g.objs.take k) : Nat) ∧ wr.ownsRow W4.heap.size 2 1 s k (intsV (stF 0 (g.objs.take k))) ∧ Below W4.heap.size W4 wr) (fun _ _ i _ => g.objs.length - (intOf i).toNat)
  case atStart => exact ⟨0, Nat.zero_le _, rfl, rfl, by simpa [intsV, stF] using World.ownsRow_nil _ _ _ _, Below.refl _ _⟩
  case round =>
    obtain ⟨k, hk, rfl, rfl, hown, hb⟩ := hrel
    have hsz := hb.size
    have hbwr : Below w.heap.size w wr := hbA.trans (hb.mono (by omega))
    by_cases hlt : k < g.objs.length
    · obtain ⟨b, off, ai, ci, rfl, hbB, hcb, _⟩ := (ho.below (hbwr.mono hB)).at hlt
      have hf4 := h4 _ (List.getElem_mem hlt)
      have HN := hide (tot_take_succ hlt)
      have hle := tot_take_le g.objs (k + 1)
      rw [unhide HN] at hle
      have HS : Hid (intsV (stF 0 (g.objs.take (k + 1))) = intsV (stF 0 (g.objs.take k)) ++ [.int .i64 ((tot (g.objs.take k) : Nat) : Int)]) := by
        show _ = _
        rw [List.take_succ_eq_append_getElem hlt, stF_snoc, intsV_snoc, Nat.zero_add]
      generalize g.objs[k].length = n at *
      generalize tot (g.objs.take k) = p at *
      go_wp2_with (at_builtin; go_must (refine wpList_append_own _ rfl _ _ 78 rfl W4.heap.size 2 i2 _ 1 8 Try.underlying78 hi2 hy0 hy1 hy2 rfl (by decide) _ _ _ rfl ((hown.alloc _).alloc _) ⟨wr.heap.size + 1, 0, none⟩ 1 1 [.int .i64 (p : Int)] rfl rfl (cell_one_at _ _ _ _ (by simp)) (by simp [Value.oneCell']) (by simp only [maxLen]; omega) (by omega) (by simp; omega) ?_); go_must (intro v' w1 hown' hgrow _; have hc6 := hgrow.cell (a := ⟨wr.heap.size, 0, none⟩) (v := .slice ai n ci) (by simp [go_sem]) (fun e => by have := (hown.lt _ e.symm).2; simp at this)))
      go_roundw
      case rel => exact ⟨k + 1, by omega, by go_num, by rw [unhide HN]; go_num, by rw [unhide HS]; exact hown', ((hb.alloc hsz _).alloc (by simp; omega) _).grown hgrow (by simp; omega) (fun q e => (hown.lt q e).1)⟩
      case measure => simp [intOf]; omega
    · obtain rfl : k = g.objs.length := by omega
      rw [List.take_length] at hown
      obtain ⟨sa, sc, hv, hI, hr9⟩ := ints_of_owns hown (stF_len _ 0).symm (by omega)
      clear hr9 hown
      subst hv
      have hstl := stF_len g.objs 0
      have hstm : ∀ x ∈ stF 0 g.objs, 0 ≤ x ∧ x ≤ 9223372036854775807 := fun x hx => by have := stF_mem g.objs 0 x hx; omega
      replace q0 := (hb.cell (p := ⟨w.heap.size + 1, 0, none⟩) (by simp; omega)).trans q0
      replace q1 := (hb.cell (p := ⟨w.heap.size + 1, 1, none⟩) (by simp; omega)).trans q1
      replace f0 := (hb.frozen (p := ⟨w.heap.size + 1, 0, none⟩) (by simp; omega)).trans f0
      replace f1 := (hb.frozen (p := ⟨w.heap.size + 1, 1, none⟩) (by simp; omega)).trans f1
      replace g0 := (hb.cell (p := ⟨w.heap.size, 0, none⟩) (by simp; omega)).trans g0
      replace g1 := (hb.cell (p := ⟨w.heap.size, 1, none⟩) (by simp; omega)).trans g1
      have Hc1 := hide (rpacked_c ar sa cr sc g.roots (stF 0 g.objs) wr.heap.size wr ((hr.below (hbwr.mono hB)).mono (by omega)) hI (Nat.le_refl _) (by omega) (by rw [hstl]; exact hrr) hstm hnr.wide (by omega))
      have HcP : Hid (∀ W (l : List V) a c, l ∈ g.objs → Below wr.heap.size wr W → Vals B W a l → Calls Try.prog 40 #[.slice a l.length c, .slice sa (stF 0 g.objs).length sc] W fun e w' => ∃ a' cap', e = .returned (.slice a' (l.map (packV (stF 0 g.objs))).length cap') ∧ WdsF W.heap.size w' a' (l.map (packV (stF 0 g.objs))) ∧ Below W.heap.size W w') := fun W l a c hl hb2 hv =>
        rpacked_c a sa c sc l (stF 0 g.objs) W.heap.size W (hv.mono (by have := hb2.size; omega)) ((hI.below hb2).mono hb2.size) (Nat.le_refl _) (by have := h4 l hl; omega) (by rw [hstl]; exact hro l hl) hstm (hno l hl).wide (by omega)
      have hbR := hbwr
      clear hI hstm hbA hbwr hb hstl
      generalize hS : stF 0 g.objs = S at *
      have HS := hide hS
      clear hS
      go_wp2_with fail
      refine (unhide Hc1).mono ?_
      rintro e w6 ⟨ar6, cr6, he, hV6, hb6⟩
      subst he
      clear Hc1
      have hs6 := hb6.size
      have hbw6 : Below w.heap.size w w6 := hbR.trans (hb6.mono (by omega))
      replace q0 := (hb6.cell (p := ⟨w.heap.size + 1, 0, none⟩) (by simp; omega)).trans q0
      replace q1 := (hb6.cell (p := ⟨w.heap.size + 1, 1, none⟩) (by simp; omega)).trans q1
      replace f0 := (hb6.frozen (p := ⟨w.heap.size + 1, 0, none⟩) (by simp; omega)).trans f0
      replace f1 := (hb6.frozen (p := ⟨w.heap.size + 1, 1, none⟩) (by simp; omega)).trans f1
      replace g0 := (hb6.cell (p := ⟨w.heap.size, 0, none⟩) (by simp; omega)).trans g0
      have HV6 := hide hV6
      have hlt6 : w.heap.size < w6.heap.size := by omega
      have hlt6' : w.heap.size + 1 < w6.heap.size := by omega
      have Hrl : Hid ((g.roots.map (packV S)).length = g.roots.length) := by show _ = _; simp
      have HcP6 : Hid (∀ W (l : List V) a c, l ∈ g.objs → Below w6.heap.size w6 W → Vals B W a l → Calls Try.prog 40 #[.slice a l.length c, .slice sa S.length sc] W fun e w' => ∃ a' cap', e = .returned (.slice a' (l.map (packV S)).length cap') ∧ WdsF W.heap.size w' a' (l.map (packV S)) ∧ Below W.heap.size W w') := fun W l a c hl hb2 hv => unhide HcP W l a c hl (hb6.trans (hb2.mono hs6)) hv
      rw [unhide Hrl]
      clear hV6 g1 hb6 HcP
      go_wp2
      go_loopw [42] (fun i wr => ∃ (k : Nat) (x : Value), k ≤ g.objs.length ∧ i = .int .i64 k ∧ Below w6.heap.size w6 wr ∧ BoxW wr w6.heap.size x (layHK S H g.objs k) (.slice ar6 g.roots.length cr6)) (fun i _ => g.objs.length - (intOf i).toNat)
      case atStart => exact ⟨0, .slice none 0 0, Nat.zero_le _, rfl, (Below.refl _ _).alloc (Nat.le_refl _) _, ⟨by simp [go_sem], by simp [go_sem], by simp [go_sem], by simpa [layHK, layFields, joinW, wordsV] using World.ownsRow_nil _ _ _ _⟩⟩
      case round =>
        obtain ⟨k, x, hk, rfl, hb, hbx⟩ := hrel
        have hsz := hb.size
        have hbwr : Below w.heap.size w wr := hbw6.trans (hb.mono (by omega))
        have hq : w6.heap.size < wr.heap.size := World.block_lt_of_cell? wr _ hbx.c
        by_cases hlt : k < g.objs.length
        · have hltH : k < H.length := by omega
          obtain ⟨b, off, ai, ci, rfl, hbB, hcb, hva⟩ := (ho.below (hbwr.mono hB)).at hlt
          obtain ⟨b2, off2, hn2, hm2, he2, rfl, hbB2, hh1, hh2, hh3, HhH⟩ := (hH.below (hbwr.mono hB)).at hltH
          have hmem := List.getElem_mem hlt
          have hf4 := h4 _ hmem
          have HK := hide (layHK_succ S hltH hlt)
          have hLk := layHK_len S (unhide HHl) k
          have hle := tot_take_le g.objs k
          have HhW : Hid (hW H[k] = headW hn2 hm2 he2) := by show _ = _; rw [HhH.out]; rfl
          have HcP2 := hide (fun W a c hb hv => unhide HcP6 W _ a c hmem hb hv)
          have HvO : Hid (Vals B w ai g.objs[k]) := hide (hva.below' (hbwr.mono hB))
          have hkH : (k : Int) < (H.length : Int) := by omega
          rw [unhide HhW] at HK
          generalize g.objs[k] = o at *
          generalize layHK S H g.objs k = pre at *
          have hpl : pre.length ≤ 1280 := by omega
          clear hLk hle hmem HhW HhH hva
          have hb2w : b2 < wr.heap.size := by omega
          have HcH := hide (rhead_c hn2 he2 hm2 (wr.alloc (.cells #[.slice ai o.length ci] 66)))
          go_wp2_with fail
          refine (unhide HcH).mono ?_
          rintro e w8 ⟨he, hb8⟩
          subst he
          clear HcH hh1 hh2 hh3
          simp only [World.size_alloc] at hb8
          have hs8 := hb8.size
          simp only [World.size_alloc] at hs8
          have hb8' : Below wr.heap.size wr w8 := ((Below.refl _ _).alloc (Nat.le_refl _) _).trans (hb8.mono (by omega))
          have bo : w8.cell? ⟨wr.heap.size, 0, none⟩ = some (.slice ai o.length ci) := by rw [hb8.cell (p := ⟨wr.heap.size, 0, none⟩) (by simp)]; simp [go_sem]
          have hbx8 := hbx.below hb8'
          have c08 := hbx8.c
          have cf08 := hbx8.fz
          have hrow8 := hbx8.row
          obtain ⟨ca, cc, rfl⟩ := ownsRow_slice hrow8
          have hncb : Value.ownBlock (.slice ca pre.length cc) ≠ some w6.heap.size := fun e => by have := (hrow8.lt _ e).1; omega
          have hncw : Value.ownBlock (.slice ca pre.length cc) ≠ some wr.heap.size := fun e => by have := (hbx.row.lt _ e).2; omega
          generalize headW hn2 hm2 he2 = hw at *
          generalize headE hn2 he2 = hee at *
          have hq8 : w6.heap.size < w8.heap.size := by omega
          have hqw8 : wr.heap.size < w8.heap.size := by omega
          have hb8a : Below w8.heap.size w8 (w8.alloc (.cells #[.int .u64 hw] 45)) := (Below.refl _ _).alloc (Nat.le_refl _) _
          go_wp2_with (first
            | (at_builtin; go_must (refine wpList_append_own_at _ rfl _ _ 22 rfl (w6.heap.size + 1) 45 i0 _ 1 8 Try.underlying22 hi hz0 hz1 hz2 rfl (by decide) _ _ _ rfl (hrow8.alloc _) ⟨w8.heap.size, 0, none⟩ 1 1 [.int .u64 hw] rfl rfl (cell_one_at _ _ _ _ (by simp)) (by simp [Value.oneCell']) (by simp only [maxLen]; omega) (by omega) (by simp; omega) ?_); go_must (intro v1 w9 hrow9 hg9 _ hat9; obtain ⟨g9, cap9, hv9⟩ := ownsRow_succ hrow9; subst hv9; have hs9 := hg9.size; simp only [World.size_alloc] at hs9; have c09 := hg9.cell ((World.grownBy_alloc w8 (.cells #[.int .u64 hw] 45) none).cell c08 (by simp)) (fun e => hncb e.symm); have cf9 := (World.frozen?_of_block (a := ⟨w6.heap.size, 0, none⟩) (hg9.block w6.heap.size (by simp; omega) (fun e => hncb e.symm))).trans ((World.frozen?_of_block (a := ⟨w6.heap.size, 0, none⟩) (Below.heap_alloc w8 _ _ hq8)).trans cf08); have bo9 := hg9.cell ((World.grownBy_alloc w8 (.cells #[.int .u64 hw] 45) none).cell bo (by simp)) (fun e => hncw e.symm)))
            | fail)
          obtain ⟨r1, r2⟩ := hbx8.put hb8a hg9 hrow9
          obtain ⟨X, hX⟩ : ∃ X, w9.setCell ⟨w6.heap.size, 0, none⟩ (.slice (some ⟨g9, 0, none⟩) (pre.length + 1) cap9) = X := ⟨_, rfl⟩
          rw [hX] at r1 r2
          rw [hX]
          have hbX : Below w6.heap.size w6 X := (hb.trans (hb8'.mono (by omega))).trans r2
          have hqo : wr.heap.size < X.heap.size := by have := r2.size; omega
          have hbwX : Below w.heap.size w X := hbw6.trans (hbX.mono (by omega))
          have Hc3 := hide (unhide HcP2 X ai ci hbX ((unhide HvO).below (hbwX.mono hB)))
          have HR1 := hide r1
          have hol : (o.map (packV S)).length ≤ 4 := by simp; exact hf4
          generalize o.map (packV S) = pv at *
          clear hX bo bo9 c08 cf08 c09 cf9 hrow8 hrow9 hg9 hat9 hb8 hb8' hb8a hbx hbx8 r1 HcP2 HvO
          refine (unhide Hc3).mono ?_
          rintro e w10 ⟨a10, c10, he, hW10, hb10⟩
          subst he
          have hs10 := hb10.size
          have hbx10 := (unhide HR1).below hb10
          have HN10 : Hid (WdsN (some g9) w10 a10 pv) := by
            refine ⟨hW10.1, fun _ b off ha e => ?_⟩
            have h1 := hW10.2 b off ha
            have h2 := (unhide HR1).row.lt g9 rfl
            injection e with e
            omega
          have Hnew : Hid (∀ b off, a10 = some ⟨b, off, none⟩ → w6.heap.size < b) := fun b off ha => by have := hW10.2 b off ha; omega
          have HB10 := hide hbx10
          clear Hc3 hW10 HR1 hbx10
          go_wp2
          go_loopw [66] (fun i wi => ∃ (j : Nat) (y : Value), j ≤ pv.length ∧ i = .int .i64 j ∧ BoxW wi w6.heap.size y (pre ++ [hw] ++ pv.take j) (.slice ar6 g.roots.length cr6) ∧ Below w6.heap.size w6 wi ∧ Hid (WdsN y.ownBlock wi a10 pv)) (fun i _ => pv.length - (intOf i).toNat)
          case atStart => exact ⟨0, .slice (some ⟨g9, 0, none⟩) (pre.length + 1) cap9, Nat.zero_le _, rfl, by simpa using unhide HB10, hbX.trans (hb10.mono (by omega)), HN10⟩
          case round =>
            clear HN10 HB10 hb10 hs10 hs9 hs8
            obtain ⟨j, y, hj, rfl, hbx, hb2, HN⟩ := hrel
            have hsz2 := hb2.size
            have hq2 : w6.heap.size < wr.heap.size := World.block_lt_of_cell? wr _ hbx.c
            by_cases hlt2 : j < pv.length
            · obtain ⟨b4, off4, rfl, hbB4, hc4⟩ := (unhide HN).1.at hlt2
              have HT : Hid (pre ++ [hw] ++ pv.take (j + 1) = (pre ++ [hw] ++ pv.take j) ++ [pv[j]]) := by show _ = _; rw [List.take_succ_eq_append_getElem hlt2, ← List.append_assoc]
              have hpl2 : (pre ++ [hw] ++ pv.take j).length ≤ 1285 := by simp; omega
              have HN2 := hide ((unhide HN).below ((Below.refl _ _).alloc (Nat.le_refl _) (.cells #[.int .u64 pv[j]] 45)))
              generalize pv[j] = z at *
              generalize pre ++ [hw] ++ pv.take j = pre2 at *
              have c08 := hbx.c
              have cf08 := hbx.fz
              have hrow8 := hbx.row
              obtain ⟨ca2, cc2, rfl⟩ := ownsRow_slice hrow8
              have hncb2 : Value.ownBlock (.slice ca2 pre2.length cc2) ≠ some w6.heap.size := fun e => by have := (hrow8.lt _ e).1; omega
              have Hbx := hide hbx
              clear hbx
              go_wp2_with (at_builtin; go_must (refine wpList_append_own_at _ rfl _ _ 22 rfl (w6.heap.size + 1) 45 i0 _ 1 8 Try.underlying22 hi hz0 hz1 hz2 rfl (by decide) _ _ _ rfl (hrow8.alloc _) ⟨wr.heap.size, 0, none⟩ 1 1 [.int .u64 z] rfl rfl (cell_one_at _ _ _ _ (by simp)) (by simp [Value.oneCell']) (by simp only [maxLen]; omega) (by omega) (by simp; omega) ?_); go_must (intro v1 w9 hrow9 hg9 _ hat9; obtain ⟨g9', cap9', hv9⟩ := ownsRow_succ hrow9; subst hv9; have hs9 := hg9.size; simp only [World.size_alloc] at hs9; have c09 := hg9.cell ((World.grownBy_alloc wr (.cells #[.int .u64 z] 45) none).cell c08 (by simp)) (fun e => hncb2 e.symm); have cf9 := (World.frozen?_of_block (a := ⟨w6.heap.size, 0, none⟩) (hg9.block w6.heap.size (by simp; omega) (fun e => hncb2 e.symm))).trans ((World.frozen?_of_block (a := ⟨w6.heap.size, 0, none⟩) (Below.heap_alloc wr _ _ hq2)).trans cf08)))
              go_roundw
              case rel =>
                obtain ⟨r1, r2⟩ := (unhide Hbx).put ((Below.refl _ _).alloc (Nat.le_refl _) _) hg9 hrow9
                exact ⟨j + 1, _, by omega, by go_num, by rw [unhide HT]; exact r1, hb2.trans r2, hide (((unhide HN2).append hg9 hat9).setCell (p := ⟨w6.heap.size, 0, none⟩) (unhide Hnew) _)⟩
              case measure => simp [intOf]; omega
            · obtain rfl : j = pv.length := by omega
              rw [List.take_length] at hbx
              go_wp2
              go_roundw
              case rel => exact ⟨k + 1, y, by omega, by go_num, hb2, by rw [unhide HK, ← List.append_assoc]; exact hbx⟩
              case measure => simp [intOf]; omega
        · obtain rfl : k = g.objs.length := by omega
          have hall : layHK S H g.objs g.objs.length = layHW S H g.objs := by unfold layHK layHW; rw [List.take_length, ← unhide HHl, List.take_length]
          have hlen : (layHW S H g.objs).length ≤ 1280 := by rw [← hall, layHK_len S (unhide HHl)]; have := tot_take_le g.objs g.objs.length; omega
          rw [hall] at hbx
          have c0 := hbx.c
          have c1 := hbx.c1
          obtain ⟨va', vc', hv, hWF, _⟩ := wordsF_of_owns hbx.row rfl (by omega)
          subst hv
          have HWF := hide hWF
          have HRF := hide ((unhide HV6).below hb)
          clear hWF hbx hall
          replace q0 := (hb.cell (p := ⟨w.heap.size + 1, 0, none⟩) (by simp; omega)).trans q0
          replace q1 := (hb.cell (p := ⟨w.heap.size + 1, 1, none⟩) (by simp; omega)).trans q1
          replace f0 := (hb.frozen (p := ⟨w.heap.size + 1, 0, none⟩) (by simp; omega)).trans f0
          replace f1 := (hb.frozen (p := ⟨w.heap.size + 1, 1, none⟩) (by simp; omega)).trans f1
          generalize hLW : layHW S H g.objs = LW at *
          have HLW := hide hLW
          clear hLW
          go_wp2
          refine bodyPost_ret (v := .agg #[.slice va' LW.length vc', .slice ar6 g.roots.length cr6]) (by simp [results, Try.results27, go_sem, q0, q1, f0, f1]) rfl ?_
          have e1 : layHW (stF 0 g.objs) H g.objs = LW := by rw [unhide HS]; exact unhide HLW
          refine ⟨⟨va', vc', ar6, cr6, by rw [e1, unhide HS, unhide Hrl], ?_, ?_⟩, (hbwr.setCell (p := ⟨w.heap.size + 1, 0, none⟩) (by simp) _).setCell (p := ⟨w.heap.size + 1, 1, none⟩) (by simp) _⟩
          · rw [e1]
            exact (((unhide HWF).setCell (p := ⟨w.heap.size + 1, 0, none⟩) (by simp; omega) _).setCell (p := ⟨w.heap.size + 1, 1, none⟩) (by simp; omega) _).1
          · rw [unhide HS]
            exact (((unhide HRF).setCell (p := ⟨w.heap.size + 1, 0, none⟩) (by simp; omega) _).setCell (p := ⟨w.heap.size + 1, 1, none⟩) (by simp; omega) _).1

end Go.Proofs.Ytklihkalcmchpaa

/- Walks: the document's Heads. -/
namespace Go.Proofs.Ytklihkalcmchpaa
set_option linter.unusedSimpArgs false
set_option linter.unusedVariables false
open Go.RowKit Go.Shelf

/-- The headers of words. -/
def headsH (hs : List Int) : List Hd := hs.map fun x => (uhL x, uhM x, uhA x)
theorem headsH_len (hs : List Int) : (headsH hs).length = hs.length := by simp [headsH]
theorem headsH_succ {hs : List Int} {k : Nat} {x : Int} (hx : hs[k]? = some x) : headsH (hs.take (k + 1)) = headsH (hs.take k) ++ [(uhL x, uhM x, uhA x)] := by
  have hk := (List.getElem?_eq_some_iff.1 hx).1
  rw [List.take_succ_eq_append_getElem hk, (List.getElem?_eq_some_iff.1 hx).2]
  simp [headsH]

theorem owns_mono {w : World} {base base' : Nat} {e : TypeId} {size : Nat} {v : Value} {n : Nat} {xs : List Value} (h : w.ownsRow base e size v n xs) (hb : base' ≤ base) : w.ownsRow base' e size v n xs := by
  refine ⟨h.1, ?_⟩
  rcases h.2 with h2 | ⟨g, cap, cur, h1, h2, h3⟩
  · exact .inl h2
  · exact .inr ⟨g, cap, cur, h1, by omega, h3⟩

set_option maxRecDepth 100000 in
set_option maxHeartbeats 2000000 in
theorem heads_c (aw ar : Option Addr) (cw nr cr : Nat) (ws : List Int) (hs : List Int) (fs : List (List Int)) (B : Nat) (w : World) (hW : Wds B w aw ws) (hUW : U64 ws) (hB : B ≤ w.heap.size) (hF : Fit hs fs) (hws : ws = joinW hs fs) (h256 : ws.length ≤ 256) :
    Calls Try.prog 43 #[.agg #[.slice aw ws.length cw, .slice ar nr cr]] w fun e w' => (∃ v, e = .returned v ∧ w'.ownsRow w.heap.size 47 3 v hs.length (cellsH (headsH hs))) ∧ Below w.heap.size w w' := by
  obtain ⟨i0, hi0, hz0, hz1, hz2⟩ := info_parts Try.info47
  have hsp : splitR ws = some fs := by rw [hws]; exact fit_split hF
  have htot : tot fs = ws.length := by rw [hws, joinW_len _ _ hF.len]
  obtain ⟨W1, hW1⟩ : ∃ W1, w.alloc (.cells #[.slice aw ws.length cw, .slice ar nr cr] 24) = W1 := ⟨_, rfl⟩
  have hb1 : Below w.heap.size w W1 := by rw [← hW1]; exact (Below.refl w.heap.size w).alloc (Nat.le_refl _) _
  have hs1 : w.heap.size < W1.heap.size := by rw [← hW1]; simp
  have g0 : W1.cell? ⟨w.heap.size, 0, none⟩ = some (.slice aw ws.length cw) := by rw [← hW1]; simp [go_sem]
  have Hc1 := hide (rstarts_c aw cw ws B W1 (hW.below (hb1.mono hB)) hUW (by omega) h256)
  have Hw : Hid (∀ k x, hs[k]? = some x → ws[tot (fs.take k)]? = some x) := fun k x hx => by
    have hk : k < fs.length := by have := (List.getElem?_eq_some_iff.1 hx).1; have := hF.len; omega
    rw [hws, joinW_get _ _ _ hF.len hk]; exact hx
  have Hat : Hid (∀ k, k < fs.length → ∃ x, hs[k]? = some x ∧ unheadOk x = true ∧ wlen x = (fs.getD k []).length ∧ 0 ≤ x ∧ x < 18446744073709551616) := fun k hk => by
    obtain ⟨x, h1, h2, h3, h4⟩ := fit_at hF hk
    exact ⟨x, h1, h2, by rw [List.getD_eq_getElem?_getD, List.getElem?_eq_getElem hk]; exact h3, h4⟩
  have hlen : hs.length ≤ fs.length := by have := hF.len; omega
  have hlen' : fs.length ≤ hs.length := by have := hF.len; omega
  have htl := tot_len fs
  have Hsp := hide hsp
  have htw : tot fs ≤ ws.length := by omega
  clear hF hws hsp htot
  go_enter Try.func43, Try.ntmps43
  go_wp2_with fail
  refine (unhide Hc1).mono ?_
  rintro e w2 ⟨hres, hb2⟩
  obtain ⟨fs', sa, sc, hfs', he, hI⟩ := hres.resolve_left (fun h => by have := unhide Hsp; rw [h.1] at this; cases this)
  obtain rfl : fs' = fs := by have := unhide Hsp; rw [hfs'] at this; injection this
  subst he
  have hs2 := hb2.size
  have hbw2 : Below w.heap.size w w2 := hb1.trans (hb2.mono (by omega))
  replace g0 := (hb2.cell (p := ⟨w.heap.size, 0, none⟩) hs1).trans g0
  have hl2 : w.heap.size < w2.heap.size := by omega
  have HI := hide hI
  have HW := hide (hW.below (hbw2.mono hB))
  have hst : (stF 0 fs').length = fs'.length := stF_len fs' 0
  have hst1 : (stF 0 fs').length ≤ fs'.length := by omega
  have hst2 : fs'.length ≤ (stF 0 fs').length := by omega
  have Hsg := hide (fun k hk => stF_get fs' 0 k hk)
  clear hW1 Hc1 hres hfs' hI hb1 hb2 hst hW
  go_wp2
  go_loopw [5, 18] (fun s i wr => ∃ k : Nat, k ≤ fs'.length ∧ i = .int .i64 k ∧ wr.ownsRow w2.heap.size 47 3 s k (cellsH (headsH (hs.take k))) ∧ Below w2.heap.size w2 wr) (fun _ i _ => fs'.length - (intOf i).toNat)
  case atStart => exact ⟨0, Nat.zero_le _, rfl, by simpa [cellsH, headsH] using World.ownsRow_nil _ _ _ _, Below.refl _ _⟩
  case round =>
    obtain ⟨k, hk, rfl, hown, hb⟩ := hrel
    have hsz := hb.size
    have g0r := (hb.cell (p := ⟨w.heap.size, 0, none⟩) hl2).trans g0
    have hlr : w.heap.size < wr.heap.size := by omega
    by_cases hlt : k < fs'.length
    · obtain ⟨x, hx, hx1, hx2, hx3, hx4⟩ := unhide Hat k hlt
      have hltS : k < (stF 0 fs').length := by omega
      obtain ⟨b1, o1, rfl, hB1, hc1⟩ := ((unhide HI).below hb).at hltS
      have h1 := unhide Hsg k hlt
      rw [List.getElem?_eq_getElem hltS, Option.some.injEq, Nat.zero_add] at h1
      rw [h1] at hc1
      have hwx := unhide Hw k x hx
      have hpl : tot (fs'.take k) < ws.length := (List.getElem?_eq_some_iff.1 hwx).1
      obtain ⟨b2, o2, rfl, hB2, hc2⟩ := ((unhide HW).below (hb.mono (by omega))).at hpl
      rw [(List.getElem?_eq_some_iff.1 hwx).2] at hc2
      have HS := hide (headsH_succ hx)
      have hkI : (k : Int) < ((stF 0 fs').length : Int) := by omega
      have hpI : ((tot (fs'.take k) : Nat) : Int) < (ws.length : Int) := by omega
      have hq1 : b1 < wr.heap.size := by omega
      have hq2 : b2 < wr.heap.size := by omega
      clear h1 hwx hx hx2
      generalize tot (fs'.take k) = q at *
      generalize (stF 0 fs').length = sl at *
      go_wp2_with (first
        | (go_at_call 34; go_must (refine (runhead_c x _ hx3 hx4).mono ?_); go_must (rintro e w3 ⟨he, hb3⟩; subst he; have hs3 := hb3.size; have hown3 := ownsRow_below hown hb3))
        | (at_builtin; go_must (refine wpList_append_own _ rfl _ _ 62 rfl w2.heap.size 47 i0 _ 3 24 Try.underlying62 hi0 hz0 hz1 hz2 rfl (by decide) _ _ _ rfl ((hown3.alloc _).alloc _) ⟨w3.heap.size + 1, 0, none⟩ 1 1 [.int .i64 (uhL x), .bool (uhM x), .int .i64 (uhA x)] rfl rfl (cell_three_at _ _ _ _ _ _ (by simp)) (by simp [Value.oneCell']) (by simp only [maxLen]; omega) (by omega) (by simp; omega) ?_); intro v' w1 hown' hgrow _))
      go_roundw
      case rel => exact ⟨k + 1, by omega, by go_num, by rw [unhide HS, cellsH_snoc]; exact hown', (((hb.trans (hb3.mono hsz)).alloc (by omega) _).alloc (by simp; omega) _).grown hgrow (by simp; omega) (fun q e => (hown3.lt q e).1)⟩
      case measure => simp [intOf]; omega
    · obtain rfl : k = fs'.length := by omega
      have hkI : ¬ ((fs'.length : Int) < ((stF 0 fs').length : Int)) := by omega
      have Hown : Hid (wr.ownsRow w.heap.size 47 3 u5 fs'.length (cellsH (headsH hs))) := by
        have := owns_mono (base' := w.heap.size) hown (by omega)
        rw [List.take_of_length_le hlen] at this
        exact this
      have Hln : Hid (hs.length = fs'.length) := by show _ = _; omega
      clear hown
      go_wp2
      go_ret
      refine ⟨⟨_, rfl, ?_⟩, hbw2.trans (hb.mono (by omega))⟩
      rw [unhide Hln]
      exact unhide Hown

end Go.Proofs.Ytklihkalcmchpaa

/- Plain: the document's Mark lays what was read, with marks. -/
namespace Go.Proofs.Ytklihkalcmchpaa
set_option linter.unusedSimpArgs false
set_option linter.unusedVariables false
open Go.RowKit Go.Shelf

/-- Headers, the first k of them with these marks. -/
def hdK (hs : List Int) (p : Nat → Bool) (k : Nat) : List Hd := hs.mapIdx fun i x => (uhL x, if i < k then p i else uhM x, uhA x)

theorem hdK_len (hs : List Int) (p : Nat → Bool) (k : Nat) : (hdK hs p k).length = hs.length := by simp [hdK]
theorem hdK_get (hs : List Int) (p : Nat → Bool) (k i : Nat) : (hdK hs p k)[i]? = (hs[i]?).map fun x => (uhL x, if i < k then p i else uhM x, uhA x) := by simp [hdK, List.getElem?_mapIdx]
theorem hdK_zero (hs : List Int) (p : Nat → Bool) : hdK hs p 0 = headsH hs := by
  apply List.ext_getElem?
  intro i
  rw [hdK_get, headsH, List.getElem?_map]
  simp
theorem hdK_set {hs : List Int} {p : Nat → Bool} {k : Nat} {x : Int} (hx : hs[k]? = some x) : (hdK hs p k).set k (uhL x, p k, uhA x) = hdK hs p (k + 1) := by
  apply List.ext_getElem?
  intro i
  have hk := (List.getElem?_eq_some_iff.1 hx).1
  rw [List.getElem?_set, hdK_get, hdK_get, hdK_len]
  by_cases e : k = i
  · subst e
    rw [if_pos rfl, if_pos hk, hx]
    simp
  · rw [if_neg e]
    cases hs[i]? with
    | none => rfl
    | some y =>
      simp only [Option.map_some]
      by_cases hi : i < k
      · rw [if_pos hi, if_pos (by omega)]
      · rw [if_neg hi, if_neg (by omega)]
theorem hdK_all (hs : List Int) (p : Nat → Bool) (k : Nat) (h : hs.length ≤ k) : (hdK hs p k).map hW = mkH hs p := by
  apply List.ext_getElem?
  intro i
  rw [List.getElem?_map, hdK_get, mkH_get]
  cases e : hs[i]? with
  | none => rfl
  | some y =>
    have := (List.getElem?_eq_some_iff.1 e).1
    simp only [Option.map_some]
    rw [if_pos (by omega)]
    rfl

theorem cellsH_set : ∀ (l : List Hd) (k : Nat) (h : Hd) (b : Bool), l[k]? = some h → (cellsH l).set (k * 3 + 1) (.bool b) = cellsH (l.set k (h.1, b, h.2.2))
  | [], _, _, _, h => by simp at h
  | x :: l, 0, h, b, e => by simp at e; subst e; simp [cellsH]
  | x :: l, k + 1, h, b, e => by
    have ih := cellsH_set l k h b (by simpa using e)
    have e1 : (k + 1) * 3 + 1 = k * 3 + 1 + 1 + 1 + 1 := by omega
    rw [e1]
    simp only [cellsH, List.flatMap_cons, List.cons_append, List.nil_append, List.set_cons_succ] at *
    rw [ih]

theorem read_lay {hs : List Int} {fs : List (List Int)} {rs : List Int} (h : Arn hs fs rs) : stF 0 (readG fs rs).objs = stF 0 fs ∧ layFields (stF 0 fs) (readG fs rs).objs = fs ∧ (readG fs rs).roots.map (packV (stF 0 fs)) = rs ∧ NumOk (readG fs rs).roots ∧ ∀ l ∈ (readG fs rs).objs, NumOk l := by
  have hnd := stF_nodup fs 0
  refine ⟨stF_same _ _ _ (lens_read fs rs), ?_, map_word_back hnd h.ur h.okr, ⟨?_⟩, fun l hl => ⟨?_⟩⟩
  · unfold layFields readG
    simp only
    rw [List.map_map]
    conv => rhs; rw [← List.map_id fs]
    apply List.map_congr_left
    intro f hf
    exact map_word_back hnd (h.uf f hf) (h.okf f hf)
  · intro v hv hr
    unfold readG at hv
    obtain ⟨x, hx, rfl⟩ := List.mem_map.1 hv
    exact (word_back hnd (h.ur x hx).1 (h.ur x hx).2 (h.okr x hx)).2.2 hr
  · intro v hv hr
    unfold readG at hl
    obtain ⟨f, hf, rfl⟩ := List.mem_map.1 hl
    obtain ⟨x, hx, rfl⟩ := List.mem_map.1 hv
    exact (word_back hnd (h.uf f hf x hx).1 (h.uf f hf x hx).2 (h.okf f hf x hx)).2.2 hr

end Go.Proofs.Ytklihkalcmchpaa

/- Plain: the arena that was moved to. -/
namespace Go.Proofs.Ytklihkalcmchpaa
set_option linter.unusedSimpArgs false
set_option linter.unusedVariables false
open Go.RowKit

/-- Its headers and its fields. -/
def mH (hs : List Int) (fs : List (List Int)) (rs : List Int) : List Int := (orderOf (readG fs rs)).map (hO hs)
def mF (fs : List (List Int)) (rs : List Int) : List (List Int) := (orderOf (readG fs rs)).map fun o => (fO fs o).map (twW fs (orderOf (readG fs rs)))

theorem mvL_eq (hs : List Int) (fs : List (List Int)) (rs : List Int) : mvL hs fs rs = joinW (mH hs fs rs) (mF fs rs) := rfl

theorem ord_ok {hs : List Int} {fs : List (List Int)} {rs : List Int} (h : Arn hs fs rs) : OOk fs (orderOf (readG fs rs)) := oK_ok h _

theorem field_of {fs : List (List Int)} (rs : List Int) {o : Int} (h0 : 0 ≤ o) (h1 : o < fs.length) : fieldsOf (readG fs rs) o = (fO fs o).map (valW (stF 0 fs)) := by
  obtain ⟨i, rfl⟩ := Int.eq_ofNat_of_zero_le h0
  have hi : i < fs.length := by omega
  rw [fieldsOf_read (List.getElem?_eq_getElem hi)]
  simp [fO, List.getD_eq_getElem?_getD, hi]

theorem canon_objs {hs : List Int} {fs : List (List Int)} {rs : List Int} (h : Arn hs fs rs) : (canonG (readG fs rs)).objs = (orderOf (readG fs rs)).map fun o => ((fO fs o).map (valW (stF 0 fs))).map (renV (orderOf (readG fs rs))) := by
  unfold canonG
  simp only
  apply List.map_congr_left
  intro o ho
  have := (ord_ok h).rng o ho
  rw [field_of rs this.1 this.2]

theorem canon_st {hs : List Int} {fs : List (List Int)} {rs : List Int} (h : Arn hs fs rs) : stF 0 (canonG (readG fs rs)).objs = stF 0 ((orderOf (readG fs rs)).map (fO fs)) := by
  rw [canon_objs h]
  apply stF_same
  rw [List.map_map, List.map_map]
  apply List.map_congr_left
  intro o _
  simp

theorem mF_st {hs : List Int} {fs : List (List Int)} {rs : List Int} (h : Arn hs fs rs) : stF 0 (mF fs rs) = stF 0 (canonG (readG fs rs)).objs := by
  rw [canon_st h]
  apply stF_same
  unfold mF
  rw [List.map_map, List.map_map]
  apply List.map_congr_left
  intro o _
  simp

theorem mF_lay {hs : List Int} {fs : List (List Int)} {rs : List Int} (h : Arn hs fs rs) : mF fs rs = layFields (stF 0 (canonG (readG fs rs)).objs) (canonG (readG fs rs)).objs := by
  unfold layFields
  rw [canon_st h, canon_objs h, List.map_map]
  unfold mF
  apply List.map_congr_left
  intro o _
  simp only [Function.comp, List.map_map]
  rfl

theorem mR_lay {hs : List Int} {fs : List (List Int)} {rs : List Int} (h : Arn hs fs rs) : mvR fs rs = (canonG (readG fs rs)).roots.map (packV (stF 0 (canonG (readG fs rs)).objs)) := by
  rw [canon_st h]
  unfold mvR canonG readG
  simp only [List.map_map]
  rfl

theorem mH_len (hs : List Int) (fs : List (List Int)) (rs : List Int) : (mH hs fs rs).length = (orderOf (readG fs rs)).length := by simp [mH]
theorem mF_len (fs : List (List Int)) (rs : List Int) : (mF fs rs).length = (orderOf (readG fs rs)).length := by simp [mF]
theorem mF_tot (fs : List (List Int)) (rs : List Int) : tot (mF fs rs) = tot ((orderOf (readG fs rs)).map (fO fs)) := by
  unfold tot mF
  rw [List.map_map, List.map_map]
  congr 1
  apply List.map_congr_left
  intro o _
  simp

theorem canon_len (g : Gr) : (canonG g).objs.length = (orderOf g).length := by simp [canonG]

theorem good_canon {g : Gr} (h : Good g) : Good (canonG g) := by
  have hl := (searchN_ok h g.objs.length).le
  have hol : (orderOf g).length ≤ g.objs.length := hl
  have hn := h.n24
  have key : ∀ (l : List V), RefsOk l → (∀ x ∈ refsL l, x ∈ orderOf g) → ∀ v ∈ l.map (renV (orderOf g)), v.1 = true → 0 ≤ v.2 ∧ v.2 < (canonG g).objs.length := by
    intro l hl hm v hv h1
    obtain ⟨u, hu, rfl⟩ := List.mem_map.1 hv
    have hu1 : u.1 = true := by
      cases hu1 : u.1
      · unfold renV at h1; rw [hu1] at h1; simp [hu1] at h1
      · rfl
    have := placeOf_bounds (hm _ (mem_refs_of hl hu hu1))
    unfold renV
    rw [if_pos hu1, canon_len]
    exact this
  refine ⟨by rw [canon_len]; omega, by simpa [canonG] using h.n8, ?_, ?_, ?_⟩
  · intro l hl
    unfold canonG at hl
    obtain ⟨o, ho, rfl⟩ := List.mem_map.1 hl
    have := order_ok h ho
    simpa using h.n4 _ (fieldsOf_mem this.1 this.2)
  · intro v hv
    exact key _ h.refsRoots (order_roots g) v hv
  · intro l hl v hv
    unfold canonG at hl
    obtain ⟨o, ho, rfl⟩ := List.mem_map.1 hl
    have := order_ok h ho
    exact key _ (h.refsObjs (fieldsOf_mem this.1 this.2)) (order_closed h ho) v hv

theorem num_ren {O : List Int} {l : List V} (h : NumOk l) : NumOk (l.map (renV O)) := by
  refine ⟨fun v hv h1 => ?_⟩
  obtain ⟨u, hu, rfl⟩ := List.mem_map.1 hv
  unfold renV at h1 ⊢
  split
  · rename_i h2; rw [if_pos h2] at h1; cases h1
  · rename_i h2; rw [if_neg h2] at h1; exact h.num u hu h1

theorem num_canon {hs : List Int} {fs : List (List Int)} {rs : List Int} (h : Arn hs fs rs) : NumOk (canonG (readG fs rs)).roots ∧ ∀ l ∈ (canonG (readG fs rs)).objs, NumOk l := by
  obtain ⟨_, _, _, h1, h2⟩ := read_lay h
  refine ⟨num_ren h1, fun l hl => ?_⟩
  unfold canonG at hl
  obtain ⟨o, ho, rfl⟩ := List.mem_map.1 hl
  have := order_ok (good_read h) ho
  exact num_ren (h2 _ (fieldsOf_mem this.1 this.2))

theorem canon_tot {hs : List Int} {fs : List (List Int)} {rs : List Int} (h : Arn hs fs rs) : tot (canonG (readG fs rs)).objs = tot (mF fs rs) := by
  rw [mF_lay h]
  unfold tot
  rw [show (fun f : List Int => f.length + 1) = (fun n => n + 1) ∘ List.length from rfl, show (fun f : List V => f.length + 1) = (fun n => n + 1) ∘ List.length from rfl, ← List.map_map, ← List.map_map, lens_fields]

theorem mF_256 {hs : List Int} {fs : List (List Int)} {rs : List Int} (h : Arn hs fs rs) : tot (mF fs rs) ≤ 256 := by
  rw [mF_tot]
  have := (ord_ok h).tot_le
  have := h.n256
  omega

theorem arn_moved {hs : List Int} {fs : List (List Int)} {rs : List Int} (h : Arn hs fs rs) : Arn (mH hs fs rs) (mF fs rs) (mvR fs rs) := by
  have hG := good_canon (good_read h)
  obtain ⟨hnr, hno⟩ := num_canon h
  have ht : tot (canonG (readG fs rs)).objs ≤ 256 := by rw [canon_tot h]; exact mF_256 h
  have hr := map_back ht hG.rr hnr
  refine ⟨⟨by rw [mH_len, mF_len], ?_⟩, mF_256 h, by simpa [mvR] using h.n8, ?_, ?_, ?_, ?_⟩
  · intro k x f hx hf
    unfold mH at hx
    unfold mF at hf
    rw [List.getElem?_map] at hx hf
    cases ho : (orderOf (readG fs rs))[k]? with
    | none => rw [ho] at hx; cases hx
    | some o =>
      rw [ho] at hx hf
      simp only [Option.map_some, Option.some.injEq] at hx hf
      subst hx hf
      have hrg := (ord_ok h).rng o (List.mem_of_getElem? ho)
      obtain ⟨i, rfl⟩ := Int.eq_ofNat_of_zero_le hrg.1
      have hi : i < fs.length := by omega
      obtain ⟨y, hy, hy1, hy2, hy3, hy4⟩ := fit_at h.fit hi
      have e1 : hO hs (i : Int) = ageW y := by simp [hO, List.getD_eq_getElem?_getD, hy]
      have e2 : fO fs (i : Int) = fs[i] := by simp [fO, List.getD_eq_getElem?_getD, hi]
      have ha := ageW_ok y
      rw [e1, e2]
      exact ⟨ha.1, by rw [ageW_wlen hy1, hy2]; simp, ha.2.2.2.2⟩
  · rw [mR_lay h]; exact hr.2.2
  · intro f hf
    rw [mF_lay h] at hf
    obtain ⟨l, hl, rfl⟩ := List.mem_map.1 hf
    exact (map_back ht (hG.ro l hl) (hno l hl)).2.2
  · rw [mR_lay h, mF_st h]; exact hr.2.1
  · intro f hf
    rw [mF_st h]
    rw [mF_lay h] at hf
    obtain ⟨l, hl, rfl⟩ := List.mem_map.1 hf
    exact (map_back ht (hG.ro l hl) (hno l hl)).2.1

/-- It is numbered as found. -/
theorem read_moved {hs : List Int} {fs : List (List Int)} {rs : List Int} (h : Arn hs fs rs) : readG (mF fs rs) (mvR fs rs) = canonG (readG fs rs) := by
  have hG := good_canon (good_read h)
  obtain ⟨hnr, hno⟩ := num_canon h
  have ht : tot (canonG (readG fs rs)).objs ≤ 256 := by rw [canon_tot h]; exact mF_256 h
  have e1 : (mF fs rs).map (fun f => f.map (valW (stF 0 (mF fs rs)))) = (canonG (readG fs rs)).objs := by
    rw [mF_st h, mF_lay h]
    unfold layFields
    rw [List.map_map]
    conv => rhs; rw [← List.map_id (canonG (readG fs rs)).objs]
    apply List.map_congr_left
    intro l hl
    exact (map_back ht (hG.ro l hl) (hno l hl)).1
  have e2 : (mvR fs rs).map (valW (stF 0 (mF fs rs))) = (canonG (readG fs rs)).roots := by
    rw [mF_st h, mR_lay h]
    exact (map_back ht hG.rr hnr).1
  unfold readG
  rw [e1, e2]
  rfl

/-- How many words what can be come to has. -/
def sizeR (fs : List (List Int)) (R : List Int) : Nat := tot (R.map (fO fs))

theorem size_eq {hs : List Int} {fs : List (List Int)} {rs : List Int} (h : Arn hs fs rs) : sizeR fs (reachK (readG fs rs) (readG fs rs).objs.length) = tot (mF fs rs) := by
  have hO := ord_ok h
  have hnd : (reachK (readG fs rs) (readG fs rs).objs.length).Nodup := by
    unfold reachK
    unfold List.Nodup
    rw [List.pairwise_map]
    exact (List.Pairwise.filter _ List.nodup_range).imp (fun h e => h (by omega))
  have hm : ∀ x, x ∈ reachK (readG fs rs) (readG fs rs).objs.length ↔ x ∈ orderOf (readG fs rs) := by
    intro x
    constructor
    · intro hx
      have hx0 : ∃ j : Nat, x = (j : Int) := by
        unfold reachK at hx
        obtain ⟨j, _, e⟩ := List.mem_map.1 hx
        exact ⟨j, e.symm⟩
      obtain ⟨j, rfl⟩ := hx0
      exact (rch_order h j).1 ((mem_reachK h j).1 hx)
    · intro hx
      obtain ⟨j, rfl⟩ := Int.eq_ofNat_of_zero_le (hO.rng x hx).1
      exact (mem_reachK h j).2 ((rch_order h j).2 hx)
  have e : ∀ (L : List Int), tot (L.map (fO fs)) = (L.map fun o => (fO fs o).length + 1).sum := fun L => by unfold tot; rw [List.map_map]; rfl
  unfold sizeR
  rw [mF_tot, e, e]
  have a := sum_sub (fun o : Int => (fO fs o).length + 1) _ _ hnd (fun x hx => (hm x).1 hx)
  have b := sum_sub (fun o : Int => (fO fs o).length + 1) _ _ hO.nd (fun x hx => (hm x).2 hx)
  omega

end Go.Proofs.Ytklihkalcmchpaa

/- Walks: the document's headers of what is moved. -/
namespace Go.Proofs.Ytklihkalcmchpaa
set_option linter.unusedSimpArgs false
set_option linter.unusedVariables false
open Go.RowKit Go.Shelf

/-- Headers of some objects, without marks, one older. -/
def mvHd (hs : List Int) (L : List Int) : List Hd := L.map fun o => (uhL (hs.getD o.toNat 0), false, min (uhA (hs.getD o.toNat 0) + 1) 7)
theorem mvHd_len (hs L : List Int) : (mvHd hs L).length = L.length := by simp [mvHd]
theorem mvHd_hW (hs L : List Int) : (mvHd hs L).map hW = L.map (hO hs) := by
  unfold mvHd
  rw [List.map_map]
  rfl

set_option maxRecDepth 100000 in
set_option maxHeartbeats 2000000 in
theorem headsOf_c (aw ar al : Option Addr) (cw nr cr cl : Nat) (ws : List Int) (hs : List Int) (fs : List (List Int)) (L : List Int) (B : Nat) (w : World) (hW : Wds B w aw ws) (hUW : U64 ws) (hB : B ≤ w.heap.size) (hF : Fit hs fs) (hws : ws = joinW hs fs) (h256 : ws.length ≤ 256)
    (hl : Ints B w al L) (hin : ∀ o ∈ L, 0 ≤ o ∧ o < fs.length) (hL : L.length ≤ 256) :
    Calls Try.prog 29 #[.agg #[.slice aw ws.length cw, .slice ar nr cr], .slice al L.length cl, .int .i64 1] w fun e w' => (∃ a c, e = .returned (.slice a L.length c) ∧ Hdrs w'.heap.size w' a (mvHd hs L)) ∧ Below w.heap.size w w' := by
  obtain ⟨i0, hi0, hz0, hz1, hz2⟩ := info_parts Try.info47
  obtain ⟨W1, hW1⟩ : ∃ W1, w.alloc (.cells #[.slice aw ws.length cw, .slice ar nr cr] 24) = W1 := ⟨_, rfl⟩
  have hb1 : Below w.heap.size w W1 := by rw [← hW1]; exact (Below.refl w.heap.size w).alloc (Nat.le_refl _) _
  have hs1 : w.heap.size < W1.heap.size := by rw [← hW1]; simp
  have g0 : W1.cell? ⟨w.heap.size, 0, none⟩ = some (.slice aw ws.length cw) := by rw [← hW1]; simp [go_sem]
  have g1 : W1.cell? ⟨w.heap.size, 1, none⟩ = some (.slice ar nr cr) := by rw [← hW1]; simp [go_sem]
  have Hc1 := hide (heads_c aw ar cw nr cr ws hs fs B W1 (hW.below (hb1.mono hB)) hUW (by omega) hF hws h256)
  have hfl := hF.len
  have Hlen : Hid (hs.length = fs.length) := hfl
  have htl : hs.length ≤ 256 := by have := tot_len fs; rw [hws, joinW_len _ _ hF.len] at h256; omega
  have HL := hide (hl.below (hb1.mono hB))
  have Hin : Hid (∀ o ∈ L, 0 ≤ o ∧ o < hs.length) := fun o ho => by have := hin o ho; omega
  clear hF hws hUW hW hl hfl hin
  go_enter Try.func29, Try.ntmps29
  go_wp2_with fail
  refine (unhide Hc1).mono ?_
  rintro e w2 ⟨⟨v, rfl, hown⟩, hb2⟩
  obtain ⟨ha, hc, rfl, hH⟩ := hdrs_of_owns hown (by simp [headsH]) (by omega)
  rw [headsH_len]
  have hs2 := hb2.size
  have hbw2 : Below w.heap.size w w2 := hb1.trans (hb2.mono (by omega))
  have HH := hide hH
  have HL2 := hide ((unhide HL).below (hb2.mono (by omega)))
  have hB2 : B ≤ w2.heap.size := by omega
  clear hW1 Hc1 hown hH hb1 hb2 HL g0 g1 hs1
  go_wp2
  go_loopw [8, 16] (fun s i wr => ∃ k : Nat, k ≤ L.length ∧ i = .int .i64 k ∧ wr.ownsRow w2.heap.size 47 3 s k (cellsH (mvHd hs (L.take k))) ∧ Below w2.heap.size w2 wr) (fun _ i _ => L.length - (intOf i).toNat)
  case atStart => exact ⟨0, Nat.zero_le _, rfl, by simpa [cellsH, mvHd] using World.ownsRow_nil _ _ _ _, Below.refl _ _⟩
  case round =>
    obtain ⟨k, hk, rfl, hown, hb⟩ := hrel
    have hsz := hb.size
    by_cases hlt : k < L.length
    · obtain ⟨b1, o1, rfl, hB1, hc1⟩ := ((unhide HL2).below (hb.mono hB2)).at hlt
      have hro := unhide Hin _ (List.getElem_mem hlt)
      have HT : Hid (mvHd hs (L.take (k + 1)) = mvHd hs (L.take k) ++ [(uhL (hs.getD (L[k]).toNat 0), false, min (uhA (hs.getD (L[k]).toNat 0) + 1) 7)]) := by
        show _ = _
        rw [List.take_succ_eq_append_getElem hlt]
        simp only [mvHd, List.map_append, List.map_cons, List.map_nil]
      have hcl : (L[k]).toNat < (headsH hs).length := by rw [headsH_len]; omega
      obtain ⟨b2, o2, n, m, a, rfl, hB2', hd1, hd2, hd3, He⟩ := ((unhide HH).below hb).at hcl
      have He' : Hid (hs.getD (L[k]).toNat 0 = hs.getD (L[k]).toNat 0 ∧ n = uhL (hs.getD (L[k]).toNat 0) ∧ a = uhA (hs.getD (L[k]).toNat 0)) := by
        have hh := He.out
        simp only [headsH, List.getElem_map, Prod.mk.injEq] at hh
        have e1 : hs.getD (L[k]).toNat 0 = hs[(L[k]).toNat]'(by omega) := by rw [List.getD_eq_getElem?_getD, List.getElem?_eq_getElem (by omega), Option.getD_some]
        exact ⟨rfl, by rw [e1]; exact hh.1.symm, by rw [e1]; exact hh.2.2.symm⟩
      have hab : 0 ≤ a ∧ a ≤ 7 := by
        rw [(unhide He').2.2]
        unfold uhA; split
        · omega
        · omega
      generalize L[k] = o at *
      obtain ⟨o, rfl⟩ := Int.eq_ofNat_of_zero_le hro.1
      simp only [Int.toNat_natCast] at *
      have hoI : (o : Int) < (hs.length : Int) := hro.2
      have hq1 : b1 < wr.heap.size := by omega
      have hq2 : b2 < wr.heap.size := by omega
      have hw1 : IntKind.i64.wrap (a + 1) = a + 1 := by rw [IntKind.wrap_i64]; omega
      have HT2 : Hid (mvHd hs (L.take (k + 1)) = mvHd hs (L.take k) ++ [(n, false, min (a + 1) 7)]) := by
        show _ = _
        rw [unhide HT, (unhide He').2.1, (unhide He').2.2]
      clear HT He He' hro hcl
      have hmx : k + 1 ≤ maxLen := by simp only [maxLen]; omega
      have hmy : (k + 1) * 24 ≤ 140737488355328 := by omega
      by_cases h7 : 7 < a + 1
      · obtain rfl : a = 7 := by omega
        go_wp2_with (at_builtin; go_must (refine wpList_append_own _ rfl _ _ 62 rfl w2.heap.size 47 i0 _ 3 24 Try.underlying62 hi0 hz0 hz1 hz2 rfl (by decide) _ _ _ rfl ((hown.alloc _).alloc _) ⟨wr.heap.size + 1, 0, none⟩ 1 1 [.int .i64 n, .bool false, .int .i64 (7)] rfl rfl (cell_three_at _ _ _ _ _ _ (by simp)) (by simp [Value.oneCell']) hmx hmy (by simp; omega) ?_); intro v' w1 hown' hgrow _)
        go_roundw
        case rel =>
          refine ⟨k + 1, by omega, by go_num, ?_, ((hb.alloc hsz _).alloc (by simp; omega) _).grown hgrow (by simp; omega) (fun q e => (hown.lt q e).1)⟩
          rw [unhide HT2, cellsH_snoc]
          have em : min (7 + 1) 7 = (7 : Int) := by omega
          rw [em]
          exact hown'
        case measure => simp [intOf]; omega
      · go_wp2_with (at_builtin; go_must (refine wpList_append_own _ rfl _ _ 62 rfl w2.heap.size 47 i0 _ 3 24 Try.underlying62 hi0 hz0 hz1 hz2 rfl (by decide) _ _ _ rfl ((hown.alloc _).alloc _) ⟨wr.heap.size + 1, 0, none⟩ 1 1 [.int .i64 n, .bool false, .int .i64 (a + 1)] rfl rfl (cell_three_at _ _ _ _ _ _ (by simp)) (by simp [Value.oneCell']) hmx hmy (by simp; omega) ?_); intro v' w1 hown' hgrow _)
        go_roundw
        case rel =>
          refine ⟨k + 1, by omega, by go_num, ?_, ((hb.alloc hsz _).alloc (by simp; omega) _).grown hgrow (by simp; omega) (fun q e => (hown.lt q e).1)⟩
          rw [unhide HT2, cellsH_snoc]
          have em : min (a + 1) 7 = (a + 1 : Int) := by omega
          rw [em]
          exact hown'
        case measure => simp [intOf]; omega
    · obtain rfl : k = L.length := by omega
      rw [List.take_length] at hown
      obtain ⟨ra, rc, hv, hR⟩ := hdrs_of_owns hown (by rw [mvHd_len]) (by omega)
      rw [mvHd_len] at hv
      subst hv
      have HR := hide hR
      clear hown hR
      go_wp2
      go_ret
      exact ⟨⟨_, _, rfl, unhide HR⟩, hbw2.trans (hb.mono (by have := hbw2.size; omega))⟩

end Go.Proofs.Ytklihkalcmchpaa

/- Walks: the document's Reach, its row new. -/
namespace Go.Proofs.Ytklihkalcmchpaa
set_option linter.unusedSimpArgs false
set_option linter.unusedVariables false
open Go.RowKit

set_option maxRecDepth 100000 in
set_option maxHeartbeats 1000000 in
theorem refReachF_c (ao ar : Option Addr) (co cr : Nat) (g : Gr) (B : Nat) (w : World) (ho : Objs B w ao g.objs) (hr : Vals B w ar g.roots) (hB : B ≤ w.heap.size) (hG : Good g) :
    Calls Try.prog 33 #[.agg #[.slice ao g.objs.length co, .slice ar g.roots.length cr]] w fun e w' => ∃ a cap, e = .returned (.slice a (reachK g g.objs.length).length cap) ∧ Ints w'.heap.size w' a (reachK g g.objs.length) ∧ Below w.heap.size w w' ∧ Hid (∀ b off, a = some ⟨b, off, none⟩ → w.heap.size ≤ b) := by
  obtain ⟨i0, hi, hz0, hz1, hz2⟩ := info_parts Try.info3
  have hn24 := hG.n24
  have hb1 := (Below.refl w.heap.size w).alloc (Nat.le_refl _) (.cells #[.slice ao g.objs.length co, .slice ar g.roots.length cr] 36)
  go_enter Try.func33, Try.ntmps33
  go_wp2_with fail
  refine (refDist_c ao ar co cr g B _ (ho.below (hb1.mono hB)) (hr.below (hb1.mono hB)) (by simp; omega) hG).mono ?_
  rintro e w2 ⟨ad, cd, rfl, hI2, hb2⟩
  have hbw2 : Below w.heap.size w w2 := hb1.trans (hb2.mono (by simp))
  clear hb1 hb2
  have hlD : (distL g).length = g.objs.length := distL_len g
  have HlD := hide hlD
  have hDk : Hid (∀ k, k < g.objs.length → (distL g)[k]? = some (dG g k)) := fun k hk => by simp [distL, List.getElem?_map, List.getElem?_range hk, dG]
  rw [hlD]
  clear hlD
  generalize distL g = D at *
  go_wp2
  go_loopw [3, 9] (fun s i wr => ∃ k : Nat, k ≤ g.objs.length ∧ i = .int .i64 k ∧ wr.ownsRow w2.heap.size 3 1 s (reachK g k).length (intsV (reachK g k)) ∧ Below w2.heap.size w2 wr) (fun _ i _ => g.objs.length - (intOf i).toNat)
  case atStart => exact ⟨0, Nat.zero_le _, rfl, World.ownsRow_nil _ _ _ _, Below.refl _ _⟩
  case round =>
    obtain ⟨k, hk, rfl, hown, hb⟩ := hrel
    have hsz := hb.size
    have hkl := reachK_len g k
    by_cases hlt : k < g.objs.length
    · have hltD : k < D.length := by rw [unhide HlD]; exact hlt
      obtain ⟨bd, od, rfl, hbd, hcd⟩ := (hI2.below hb).at hltD
      have hx := unhide hDk k hlt
      rw [List.getElem?_eq_getElem hltD] at hx
      injection hx with hx
      rw [hx] at hcd
      have Hyes := hide (fun h => reachK_yes (g := g) (k := k) h)
      have Hno := hide (fun h => reachK_no (g := g) (k := k) h)
      clear hx
      generalize dG g k = x at *
      have hmx : (reachK g k).length + 1 ≤ maxLen := by simp only [maxLen]; omega
      have hmy : ((reachK g k).length + 1) * 8 ≤ 140737488355328 := by omega
      by_cases hx0 : 0 ≤ x
      · have d : decide (x ≥ 0) = true := by simpa using hx0
        have d' : decide (0 ≤ x) = true := by simpa using hx0
        have HT := hide (unhide Hyes hx0)
        go_wp2_with (at_builtin; go_must (refine wpList_append_own _ rfl _ _ 41 rfl w2.heap.size 3 i0 _ 1 8 Try.underlying41 hi hz0 hz1 hz2 rfl (by decide) _ _ _ rfl (hown.alloc _) ⟨wr.heap.size, 0, none⟩ 1 1 [.int .i64 k] rfl rfl (cell_one_at _ _ _ _ (by simp)) (by simp [Value.oneCell']) hmx hmy (by simp; omega) ?_); intro v' w1 hown' hgrow _)
        go_roundw
        case rel => exact ⟨k + 1, by omega, by go_num, by rw [unhide HT, intsV_snoc, List.length_append]; exact hown', (hb.alloc hsz _).grown hgrow (by simp; omega) (fun q e => (hown.lt q e).1)⟩
        case measure => simp [intOf]; omega
      · have d : decide (x ≥ 0) = false := by simp; omega
        have d' : decide (0 ≤ x) = false := by simp; omega
        have HT := hide (unhide Hno (by omega))
        go_wp2
        go_roundw
        case rel => exact ⟨k + 1, by omega, by go_num, by rw [unhide HT]; exact hown, hb⟩
        case measure => simp [intOf]; omega
    · obtain rfl : k = g.objs.length := by omega
      obtain ⟨a', cap', hv, hV, hr9⟩ := ints_of_owns hown rfl (by omega)
      have Hv := hide hv
      have H9 : Hid (∀ b off, a' = some ⟨b, off, none⟩ → w.heap.size ≤ b) := fun b off e => by have := hr9 b off e; have := hbw2.size; omega
      clear hv hr9
      go_wp2
      go_ret
      exact ⟨a', cap', congrArg Ending.returned (unhide Hv), hV, hbw2.trans (hb.mono hbw2.size), H9⟩

end Go.Proofs.Ytklihkalcmchpaa

/- Walks: the document's Read. -/
namespace Go.Proofs.Ytklihkalcmchpaa
set_option linter.unusedSimpArgs false
set_option linter.unusedVariables false
open Go.RowKit Go.Shelf

set_option maxRecDepth 100000 in
set_option maxHeartbeats 1000000 in
theorem runpacked2_c (a s0 : Option Addr) (cap caps : Nat) (ws st : List Int) (B : Nat) (w : World) (hl : Wds B w a ws) (hU : U64 ws) (hS : Ints B w s0 st) (hB : B ≤ w.heap.size) (hn : ws.length ≤ 256) :
    Calls Try.prog 32 #[.slice a ws.length cap, .slice s0 st.length caps] w fun e w' => ∃ a' cap', e = .returned (.slice a' (ws.map (valW st)).length cap') ∧ ValsF w.heap.size w' a' (ws.map (valW st)) ∧ Below w.heap.size w w' := by
  obtain ⟨i0, hi, hz0, hz1, hz2⟩ := info_parts Try.info56'
  go_enter Try.func32, Try.ntmps32
  go_wp2
  go_loopw [5, 12] (fun s i wr => ∃ k : Nat, k ≤ ws.length ∧ i = .int .i64 k ∧ wr.ownsRow w.heap.size 56 2 s k (cellsV ((ws.map (valW st)).take k)) ∧ Below w.heap.size w wr) (fun _ i _ => ws.length - (intOf i).toNat)
  case atStart => exact ⟨0, Nat.zero_le _, rfl, by simpa [cellsV] using World.ownsRow_nil _ _ _ _, Below.refl _ _⟩
  case round =>
    obtain ⟨k, hk, rfl, hown, hb⟩ := hrel
    have hsz := hb.size
    by_cases hlt : k < ws.length
    · obtain ⟨b, off, rfl, hbB, hc⟩ := (hl.below (hb.mono hB)).at hlt
      have hu := hU _ (List.getElem_mem hlt)
      have HT := hide (fun r n => cells_take_succ (st := st) hlt (r := r) (n := n))
      generalize ws[k] = x at *
      cases hr : unRef x
      · have HT2 := hide (unhide HT _ _ (valW_num hr))
        have Hr := hide hr
        clear hr HT
        go_wp2_with (first
          | (go_at_call 25; go_must (refine (runpack_c x _ hu.1 hu.2).mono ?_); go_must (rintro e w3 ⟨he, hb3⟩; rw [unhide Hr] at he; subst he; have hs3 := hb3.size; have hown3 := ownsRow_below hown hb3))
          | (at_builtin; go_must (refine wpList_append_own _ rfl _ _ 34 rfl w.heap.size 56 i0 _ 2 16 Try.underlying34 hi hz0 hz1 hz2 rfl (by decide) _ _ _ rfl ((hown3.alloc _).alloc _) ⟨w3.heap.size + 1, 0, none⟩ 1 1 [.bool false, .int .i64 (unNum x)] rfl rfl (cell_two_at _ _ _ _ _ (by simp)) (by simp [Value.oneCell']) (by simp only [maxLen]; omega) (by omega) (by simp; omega) ?_); intro v' w1 hown' hgrow _))
        go_roundw
        case rel => exact ⟨k + 1, by omega, by go_num, by rw [unhide HT2]; exact hown', (((hb.trans (hb3.mono hsz)).alloc (by omega) _).alloc (by simp; omega) _).grown hgrow (by simp; omega) (fun q e => (hown3.lt q e).1)⟩
        case measure => simp [intOf]; omega
      · have HT2 := hide (unhide HT _ _ (valW_ref hr))
        have Hr := hide hr
        clear hr HT
        go_wp2_with (first
          | (go_at_call 25; go_must (refine (runpack_c x _ hu.1 hu.2).mono ?_); go_must (rintro e w3 ⟨he, hb3⟩; rw [unhide Hr] at he; subst he; have hs3 := hb3.size; have hown3 := ownsRow_below hown hb3; have hS3 := hS.below ((hb.mono hB).trans (hb3.mono (Nat.le_trans hB hsz)))))
          | (go_at_call 45; go_must (refine (place_c _ _ st (unNum x) B _ (hS3.below ((Below.refl _ _).alloc (by omega) _))).mono ?_); go_must (rintro e w4 ⟨he, hw4⟩; subst he; have hw4 := hw4.symm; subst hw4))
          | (at_builtin; go_must (refine wpList_append_own _ rfl _ _ 34 rfl w.heap.size 56 i0 _ 2 16 Try.underlying34 hi hz0 hz1 hz2 rfl (by decide) _ _ _ rfl ((hown3.alloc _).alloc _) ⟨w3.heap.size + 1, 0, none⟩ 1 1 [.bool true, .int .i64 (placeOf st (unNum x))] rfl rfl (cell_two_at _ _ _ _ _ (by simp)) (by simp [Value.oneCell']) (by simp only [maxLen]; omega) (by omega) (by simp; omega) ?_); intro v' w1 hown' hgrow _))
        go_roundw
        case rel => exact ⟨k + 1, by omega, by go_num, by rw [unhide HT2]; exact hown', (((hb.trans (hb3.mono hsz)).alloc (by omega) _).alloc (by simp; omega) _).grown hgrow (by simp; omega) (fun q e => (hown3.lt q e).1)⟩
        case measure => simp [intOf]; omega
    · obtain rfl : k = ws.length := by omega
      rw [List.take_of_length_le (by simp)] at hown
      obtain ⟨a', cap', hv, hV, hr9⟩ := vals_of_owns hown (by simp) (by omega)
      have HV : Hid (ValsF w.heap.size wr a' (ws.map (valW st))) := ⟨hV, hr9⟩
      clear hr9 hV
      subst hv
      go_wp2
      go_ret
      exact ⟨a', cap', rfl, unhide HV, hb⟩

/-- What an append of one object has made. -/
def Apd (wr : World) (gb k : Nat) (v : Value) (es : List Value) (lv : List V) (v10 : Value) (W : World) : Prop :=
  ∃ a7 c7 W1, ValsF wr.heap.size W1 a7 lv ∧ Below wr.heap.size wr W1 ∧ W.ownsRow (gb + 1) 66 1 v10 (k + 1) (es ++ [.slice a7 lv.length c7]) ∧ (W1.alloc (.cells #[.slice a7 lv.length c7] 66)).grownBy W v.ownBlock ∧ (v10.ownBlock = v.ownBlock ∨ v10.ownBlock = some (W1.alloc (.cells #[.slice a7 lv.length c7] 66)).heap.size)

def RdRes (fs : List (List Int)) (rs : List Int) (e : Ending) (W : World) : Prop :=
  ∃ ao co ar cr, e = .returned (.agg #[.slice ao (readG fs rs).objs.length co, .slice ar (readG fs rs).roots.length cr]) ∧ Objs W.heap.size W ao (readG fs rs).objs ∧ Vals W.heap.size W ar (readG fs rs).roots

set_option maxRecDepth 100000 in
set_option maxHeartbeats 8000000 in
theorem rread_c (aw ar : Option Addr) (cw cr : Nat) (ws rs : List Int) (fs : List (List Int)) (B : Nat) (w : World) (hW : Wds B w aw ws) (hR : Wds B w ar rs) (hUW : U64 ws) (hUR : U64 rs) (hB : B ≤ w.heap.size)
    (h256 : ws.length ≤ 256) (h8 : rs.length ≤ 8) (hs : splitR ws = some fs) :
    Calls Try.prog 14 #[.agg #[.slice aw ws.length cw, .slice ar rs.length cr]] w fun e w' => RdRes fs rs e w' ∧ Below w.heap.size w w' := by
  obtain ⟨i0, hi, hz0, hz1, hz2⟩ := info_parts Try.info66'
  have Hs := hide hs
  have htot := (splitR_st hs).1
  have hfl := tot_len fs
  clear hs
  obtain ⟨W4, hW4⟩ : ∃ W4, (w.alloc (.cells #[.slice aw ws.length cw, .slice ar rs.length cr] 24)).alloc (.cells #[.slice none 0 0, .slice none 0 0] 36) = W4 := ⟨_, rfl⟩
  have hbA : Below w.heap.size w W4 := by rw [← hW4]; exact ((Below.refl w.heap.size w).alloc (Nat.le_refl _) _).alloc (by simp) _
  have hs4 : w.heap.size + 1 < W4.heap.size := by rw [← hW4]; simp
  have q0 : W4.cell? ⟨w.heap.size + 1, 0, none⟩ = some (.slice none 0 0) := by rw [← hW4]; simp [go_sem]
  have q1 : W4.cell? ⟨w.heap.size + 1, 1, none⟩ = some (.slice none 0 0) := by rw [← hW4]; simp [go_sem]
  have f0 : W4.frozen? ⟨w.heap.size + 1, 0, none⟩ = false := by rw [← hW4]; simp [go_sem]
  have f1 : W4.frozen? ⟨w.heap.size + 1, 1, none⟩ = false := by rw [← hW4]; simp [go_sem]
  have g0 : W4.cell? ⟨w.heap.size, 0, none⟩ = some (.slice aw ws.length cw) := by rw [← hW4]; simp [go_sem]
  have g1 : W4.cell? ⟨w.heap.size, 1, none⟩ = some (.slice ar rs.length cr) := by rw [← hW4]; simp [go_sem]
  have Hcall := hide (rstarts_c aw cw ws B W4 (hW.below (hbA.mono hB)) hUW (by omega) h256)
  go_enter Try.func14, Try.ntmps14
  go_wp2_with fail
  refine (unhide Hcall).mono ?_
  rintro e w5 ⟨hres, hb5⟩
  obtain ⟨fs', sa, sc, he', hres⟩ := hres.resolve_left (fun h => by rw [unhide Hs] at h; cases h.1)
  rw [unhide Hs] at he'
  injection he' with he'
  subst he'
  obtain ⟨he, hI⟩ := hres
  subst he
  clear hW4 Hcall
  have hs5 := hb5.size
  replace q0 := (hb5.cell (p := ⟨w.heap.size + 1, 0, none⟩) (by simp; omega)).trans q0
  replace q1 := (hb5.cell (p := ⟨w.heap.size + 1, 1, none⟩) (by simp; omega)).trans q1
  replace f0 := (hb5.frozen (p := ⟨w.heap.size + 1, 0, none⟩) (by simp; omega)).trans f0
  replace f1 := (hb5.frozen (p := ⟨w.heap.size + 1, 1, none⟩) (by simp; omega)).trans f1
  replace g0 := (hb5.cell (p := ⟨w.heap.size, 0, none⟩) (by simp; omega)).trans g0
  replace g1 := (hb5.cell (p := ⟨w.heap.size, 1, none⟩) (by simp; omega)).trans g1
  have hbw5 : Below w.heap.size w w5 := hbA.trans (hb5.mono (by omega))
  have Hc2 := hide (runpacked2_c ar sa cr sc rs (stF 0 fs) w5.heap.size w5 ((hR.below (hbw5.mono hB)).mono (by omega)) hUR hI (Nat.le_refl _) (by omega))
  have HI := hide hI
  clear hbA hb5 hI
  go_wp2_with fail
  refine (unhide Hc2).mono ?_
  rintro e w6 ⟨ar6, cr6, he, hV6, hb6⟩
  subst he
  have hs6 := hb6.size
  replace q0 := (hb6.cell (p := ⟨w.heap.size + 1, 0, none⟩) (by simp; omega)).trans q0
  replace q1 := (hb6.cell (p := ⟨w.heap.size + 1, 1, none⟩) (by simp; omega)).trans q1
  replace f0 := (hb6.frozen (p := ⟨w.heap.size + 1, 0, none⟩) (by simp; omega)).trans f0
  replace f1 := (hb6.frozen (p := ⟨w.heap.size + 1, 1, none⟩) (by simp; omega)).trans f1
  replace g0 := (hb6.cell (p := ⟨w.heap.size, 0, none⟩) (by simp; omega)).trans g0
  have hbw6 : Below w.heap.size w w6 := hbw5.trans (hb6.mono (by omega))
  have HI6 := hide ((unhide HI).below hb6)
  have HV6 := hide hV6
  have Hst := hide (stF_len fs 0)
  have Hsg := hide (fun k hk => stF_get fs 0 k hk)
  clear Hc2 HI hV6 g1 hb6
  generalize hrl : (rs.map (valW (stF 0 fs))).length = rl at *
  have Hrl := hide hrl
  clear hrl
  go_wp2
  go_loopw [21] (fun i wr => ∃ (k : Nat) (x : Value) (es : List Value), k ≤ fs.length ∧ i = .int .i64 k ∧ Below w6.heap.size w6 wr ∧ wr.cell? ⟨w6.heap.size, 0, none⟩ = some x ∧ wr.frozen? ⟨w6.heap.size, 0, none⟩ = false ∧ wr.cell? ⟨w6.heap.size, 1, none⟩ = some (.slice ar6 rl cr6) ∧
        ObjRow wr (w6.heap.size + 1) x (objsOf (stF 0 fs) (fs.take k)) es) (fun i _ => fs.length - (intOf i).toNat)
  case atStart => exact ⟨0, .slice none 0 0, [], Nat.zero_le _, rfl, (Below.refl _ _).alloc (Nat.le_refl _) _, by simp [go_sem], by simp [go_sem], by simp [go_sem], objRow_nil _ _⟩
  case round =>
    obtain ⟨k, x, es, hk, rfl, hb, c0, cf0, c1, hrow⟩ := hrel
    have hsz := hb.size
    have hbwr : Below w.heap.size w wr := hbw6.trans (hb.mono (by have := hbw6.size; omega))
    have g0r := (hb.cell (p := ⟨w.heap.size, 0, none⟩) (by simp; omega)).trans g0
    have hqr : w.heap.size < wr.heap.size := by omega
    by_cases hlt : k < fs.length
    · obtain ⟨hp, hk1, hk2, hf0⟩ := split_obj (unhide Hs) hlt
      have hltS : k < (stF 0 fs).length := by rw [unhide Hst]; exact hlt
      obtain ⟨b, off, rfl, hbB, hc⟩ := ((unhide HI6).below (hb.mono (by omega))).at hltS
      have Hsk := hide (show (stF 0 fs)[k] = ((tot (fs.take k) : Nat) : Int) from by have := unhide Hsg k hlt; rw [List.getElem?_eq_getElem hltS, Option.some.injEq, Nat.zero_add] at this; exact this)
      rw [unhide Hsk] at hc
      have hkI : (k : Int) < ((stF 0 fs).length : Int) := by omega
      have hq : w6.heap.size < wr.heap.size := World.block_lt_of_cell? wr _ c0
      have HO := hide (objsOf_succ (stF 0 fs) hlt)
      have HLk := hide (show (objsOf (stF 0 fs) (fs.take k)).length = k by rw [objsOf_len, List.length_take]; omega)
      have hf4 : fs[k].length ≤ 4 := (splitR_st (unhide Hs)).2 _ (List.getElem_mem hlt)
      have hUf := u64_fields (unhide Hs) hUW _ (List.getElem_mem hlt)
      rw [← hf0] at HO hf4 hUf
      have HcF : Hid (∀ W, Below wr.heap.size wr W → Calls Try.prog 24 #[.slice aw ws.length cw, .int .i64 (tot (fs.take k) : Nat)] W fun e w' => ∃ a' cap', e = .returned (.slice a' (fieldsAt ws (tot (fs.take k))).length cap') ∧ Wds w'.heap.size w' a' (fieldsAt ws (tot (fs.take k))) ∧ Below W.heap.size W w') := fun W hbW => by
        refine (rfields_c aw cw ws B W ((hW.below (hbwr.mono hB)).below (hbW.mono (by omega))) hUW (by have := hbW.size; omega) h256 _ hp hk1 hk2).mono ?_
        rintro e w' ⟨a', c', h1, h2, h3, _⟩
        exact ⟨a', c', h1, h2, h3⟩
      have HIr := hide ((unhide HI6).below (hb.mono (by omega)))
      clear Hsk hk1 hk2 hf0 hp
      generalize fieldsAt ws (tot (fs.take k)) = f at *
      generalize tot (fs.take k) = p at *
      have hrr := hrow.row
      rw [unhide HLk] at hrr
      obtain ⟨ca, cc, rfl⟩ := ownsRow_slice hrr
      have hncb : Value.ownBlock (.slice ca k cc) ≠ some w6.heap.size := fun e => by have := (hrr.lt _ e).1; omega
      have HcU : Hid (∀ W a5 c5, Below wr.heap.size wr W → Wds W.heap.size W a5 f → Calls Try.prog 32 #[.slice a5 f.length c5, .slice (some ⟨b, off, none⟩) (stF 0 fs).length sc] W fun e w' => ∃ a' cap', e = .returned (.slice a' (f.map (valW (stF 0 fs))).length cap') ∧ ValsF W.heap.size w' a' (f.map (valW (stF 0 fs))) ∧ Below W.heap.size W w') := fun W a5 c5 hbW hW5 =>
        runpacked2_c a5 (some ⟨b, off, none⟩) c5 sc f (stF 0 fs) W.heap.size W hW5 hUf (((unhide HIr).below (hbW.mono (by omega))).mono (by have := hbW.size; omega)) (Nat.le_refl _) (by omega)
      have HRow := hide hrow
      clear hrow
      go_wp2
      refine wp_region_hoist _ [5, 7, 8, 9, 10, 12] (fun i => match i with
          | 0 => .pointer (some ⟨w6.heap.size, 0, none⟩)
          | 1 => .slice ca k cc
          | 2 => .pointer (some ⟨w.heap.size, 0, none⟩)
          | 3 => .slice aw ws.length cw
          | 4 => .int .i64 (p : Int)
          | 6 => .slice (some ⟨b, off, none⟩) (stF 0 fs).length sc
          | _ => .pointer (some ⟨w6.heap.size, 0, none⟩))
        (fun vs W => match vs with
          | [] => Below wr.heap.size wr W
          | [v5] => (∃ a5 c5, v5 = .slice a5 f.length c5 ∧ Wds W.heap.size W a5 f) ∧ Below wr.heap.size wr W
          | [v5, v7] => (∃ a7 c7, v7 = .slice a7 (f.map (valW (stF 0 fs))).length c7 ∧ ValsF wr.heap.size W a7 (f.map (valW (stF 0 fs)))) ∧ Below wr.heap.size wr W
          | [v5, v7, v8] => (∃ a7 c7, v8 = .agg #[.slice a7 (f.map (valW (stF 0 fs))).length c7] ∧ ValsF wr.heap.size W a7 (f.map (valW (stF 0 fs)))) ∧ Below wr.heap.size wr W
          | [v5, v7, v8, v9] => (∃ a7 c7 W1, v9 = .slice (some ⟨W1.heap.size, 0, none⟩) 1 1 ∧ W = W1.alloc (.cells #[.slice a7 (f.map (valW (stF 0 fs))).length c7] 66) ∧ ValsF wr.heap.size W1 a7 (f.map (valW (stF 0 fs))) ∧ Below wr.heap.size wr W1) ∧ Below wr.heap.size wr W
          | [v5, v7, v8, v9, v10] => Apd wr w6.heap.size k (.slice ca k cc) es (f.map (valW (stF 0 fs))) v10 W
          | [v5, v7, v8, v9, v10, v12] => Below w6.heap.size w6 W ∧ W.cell? ⟨w6.heap.size, 0, none⟩ = some v10 ∧ W.frozen? ⟨w6.heap.size, 0, none⟩ = false ∧ W.cell? ⟨w6.heap.size, 1, none⟩ = some (.slice ar6 rl cr6) ∧ ∃ es', ObjRow W (w6.heap.size + 1) v10 (objsOf (stF 0 fs) (fs.take (k + 1))) es'
          | _ => False) Try.mixed (laid_of (by kernel_rfl)) (Below.refl _ _).drew ?_ ?_ ?_
      · intro i o hio hiT vs a W K hGv hlate hag hdep hK
        have hBW4 : vs.length ≤ 4 → Below wr.heap.size wr W := by
          intro h4
          match vs, hGv, h4 with
          | [], h, _ => exact h
          | [_], h, _ => exact h.2
          | [_, _], h, _ => exact h.2
          | [_, _, _], h, _ => exact h.2
          | [_, _, _, _], h, _ => exact h.2
        have t1 := hag.tm (k := 1) (by simp [dsOf])
        have t3 := hag.tm (k := 3) (by simp [dsOf])
        have t5 := hag.tm (k := 5) (by simp [dsOf])
        have t7 := hag.tm (k := 7) (by simp [dsOf])
        simp at t1 t3 t5 t7
        rcases i with _ | _ | _ | _ | _ | _ | _ | _ | _ | _ | _ | _ | _ | i
        · cases hio
          clear hGv
          unfold Oper.wp
          go_simp
          exact hK
        · have hl4 : vs.length ≤ 4 := hlate 4 10 _ rfl rfl ⟨⟨1, .data⟩, by simp, rfl, rfl⟩
          have s25 : a.tmps[25]?.getD undef = .pointer (some ⟨w6.heap.size, 0, none⟩) := hdep ⟨0, .data⟩ (by cases hio; simp) rfl 25 rfl
          have hcW := ((hBW4 hl4).cell (p := ⟨w6.heap.size, 0, none⟩) hq).trans c0
          cases hio
          clear hGv
          unfold Oper.wp
          go_simp
          exact hK
        · cases hio
          clear hGv
          unfold Oper.wp
          go_simp
          exact hK
        · have hl0 : vs.length ≤ 0 := hlate 0 5 _ rfl rfl ⟨⟨3, .data⟩, by simp, rfl, rfl⟩
          have s27 : a.tmps[27]?.getD undef = .pointer (some ⟨w.heap.size, 0, none⟩) := hdep ⟨2, .data⟩ (by cases hio; simp) rfl 27 rfl
          have hcW := ((hBW4 (by omega)).cell (p := ⟨w.heap.size, 0, none⟩) hqr).trans g0r
          cases hio
          clear hGv
          unfold Oper.wp
          go_simp
          exact hK
        · cases hio
          clear hGv
          unfold Oper.wp
          go_simp
          exact hK
        · exact absurd (by simp) hiT
        · cases hio
          clear hGv
          unfold Oper.wp
          go_simp
          exact hK
        · exact absurd (by simp) hiT
        · exact absurd (by simp) hiT
        · exact absurd (by simp) hiT
        · exact absurd (by simp) hiT
        · cases hio
          clear hGv
          unfold Oper.wp
          go_simp
          exact hK
        · exact absurd (by simp) hiT
        · simp at hio
      · intro j i o hj hio vs a W K hvl hGv hag hdep hK
        rcases j with _ | _ | _ | _ | _ | _ | j
        · obtain rfl : 5 = i := by simpa using hj
          obtain rfl : vs = [] := List.length_eq_zero_iff.1 hvl
          have s28 : a.tmps[28]?.getD undef = .slice aw ws.length cw := hdep ⟨3, .data⟩ (by cases hio; simp) rfl 28 rfl
          have s29 : a.tmps[29]?.getD undef = .int .i64 (p : Int) := hdep ⟨4, .data⟩ (by cases hio; simp) rfl 29 rfl
          cases hio
          refine op_call 24 #[.slice aw ws.length cw, .int .i64 (p : Int)] (by go_simp) ?_
          have hBW : Below wr.heap.size wr W := hGv
          refine (unhide HcF W hBW).mono ?_
          rintro e w' ⟨a', c', rfl, h2, h3⟩
          exact ⟨_, rfl, hK _ _ ⟨⟨a', c', rfl, h2⟩, hBW.trans (h3.mono hBW.size)⟩⟩
        · obtain rfl : 7 = i := by simpa using hj
          obtain ⟨v5, rfl⟩ : ∃ v5, vs = [v5] := by
            match vs, hvl with
            | [v5], _ => exact ⟨v5, rfl⟩
          obtain ⟨⟨a5, c5, rfl, hW5⟩, hBW⟩ := hGv
          have s30 : a.tmps[30]?.getD undef = .slice a5 f.length c5 := hdep ⟨5, .data⟩ (by cases hio; simp) rfl 30 rfl
          have s31 : a.tmps[31]?.getD undef = .slice (some ⟨b, off, none⟩) (stF 0 fs).length sc := hdep ⟨6, .data⟩ (by cases hio; simp) rfl 31 rfl
          cases hio
          refine op_call 32 #[.slice a5 f.length c5, .slice (some ⟨b, off, none⟩) (stF 0 fs).length sc] (by go_simp) ?_
          refine (unhide HcU W a5 c5 hBW hW5).mono ?_
          rintro e w' ⟨a', c', rfl, h2, h3⟩
          exact ⟨_, rfl, hK _ _ ⟨⟨a', c', rfl, h2.base hBW.size⟩, hBW.trans (h3.mono hBW.size)⟩⟩
        · obtain rfl : 8 = i := by simpa using hj
          obtain ⟨v5, v7, rfl⟩ : ∃ v5 v7, vs = [v5, v7] := by
            match vs, hvl with
            | [v5, v7], _ => exact ⟨v5, v7, rfl⟩
          obtain ⟨⟨a7, c7, rfl, hV7⟩, hBW⟩ := hGv
          have s32 : a.tmps[32]?.getD undef = .slice a7 (f.map (valW (stF 0 fs))).length c7 := hdep ⟨7, .data⟩ (by cases hio; simp) rfl 32 rfl
          generalize (f.map (valW (stF 0 fs))) = lv at *
          cases hio
          unfold Oper.wp
          go_simp
          exact hK _ _ ⟨⟨a7, c7, rfl, hV7⟩, hBW⟩
        · obtain rfl : 9 = i := by simpa using hj
          obtain ⟨v5, v7, v8, rfl⟩ : ∃ v5 v7 v8, vs = [v5, v7, v8] := by
            match vs, hvl with
            | [v5, v7, v8], _ => exact ⟨v5, v7, v8, rfl⟩
          obtain ⟨⟨a7, c7, rfl, hV7⟩, hBW⟩ := hGv
          have s33 : a.tmps[33]?.getD undef = .agg #[.slice a7 (f.map (valW (stF 0 fs))).length c7] := hdep ⟨8, .data⟩ (by cases hio; simp) rfl 33 rfl
          generalize (f.map (valW (stF 0 fs))) = lv at *
          cases hio
          unfold Oper.wp
          go_simp
          exact hK _ _ ⟨⟨a7, c7, W, rfl, rfl, hV7, hBW⟩, hBW.alloc hBW.size _⟩
        · obtain rfl : 10 = i := by simpa using hj
          obtain ⟨v5, v7, v8, v9, rfl⟩ : ∃ v5 v7 v8 v9, vs = [v5, v7, v8, v9] := by
            match vs, hvl with
            | [v5, v7, v8, v9], _ => exact ⟨v5, v7, v8, v9, rfl⟩
          obtain ⟨⟨a7, c7, W1, rfl, rfl, hV7, hBW1⟩, hBW⟩ := hGv
          have s26 : a.tmps[26]?.getD undef = .slice ca k cc := hdep ⟨1, .data⟩ (by cases hio; simp) rfl 26 rfl
          have s34 : a.tmps[34]?.getD undef = .slice (some ⟨W1.heap.size, 0, none⟩) 1 1 := hdep ⟨9, .data⟩ (by cases hio; simp) rfl 34 rfl
          cases hio
          have hs1 := hBW1.size
          refine op_append (.tmp 26) (.tmp 34) 33 rfl (w6.heap.size + 1) 66 i0 _ 1 24 Try.underlying33 hi hz0 hz1 hz2 rfl (by decide) (.slice ca k cc) k es (by simpa [Act.eval] using s26) ((ownsRow_below hrr hBW1).alloc _) ⟨W1.heap.size, 0, none⟩ 1 1 [.slice a7 (f.map (valW (stF 0 fs))).length c7] (by simpa [Act.eval] using s34) rfl (cell_one_at _ _ _ _ rfl) (by simp [Value.oneCell']) (by simp only [maxLen]; omega) (by omega) (by simp; omega) ?_
          intro v10 w10 hrow10 hg10 hat10
          exact hK _ _ ⟨a7, c7, W1, hV7, hBW1, hrow10, hg10, hat10⟩
        · obtain rfl : 12 = i := by simpa using hj
          obtain ⟨v5, v7, v8, v9, v10, rfl⟩ : ∃ v5 v7 v8 v9 v10, vs = [v5, v7, v8, v9, v10] := by
            match vs, hvl with
            | [v5, v7, v8, v9, v10], _ => exact ⟨v5, v7, v8, v9, v10, rfl⟩
          obtain ⟨a7, c7, W1, hV7, hBW1, hrow10, hg10, hat10⟩ := hGv
          have hs1 := hBW1.size
          obtain ⟨g7, cap7, hv7⟩ := ownsRow_succ hrow10
          subst hv7
          have s35 : a.tmps[35]?.getD undef = .slice (some ⟨g7, 0, none⟩) (k + 1) cap7 := hdep ⟨10, .data⟩ (by cases hio; simp) rfl 35 rfl
          have s36 : a.tmps[36]?.getD undef = .pointer (some ⟨w6.heap.size, 0, none⟩) := hdep ⟨11, .data⟩ (by cases hio; simp) rfl 36 rfl
          have hblk : W.heap[w6.heap.size]? = wr.heap[w6.heap.size]? := (hg10.block w6.heap.size (by simp; omega) (fun e => hncb e.symm)).trans ((Below.heap_alloc W1 _ _ (by omega)).trans (hBW1.block _ hq))
          have e0 := (World.cell?_of_block (a := ⟨w6.heap.size, 0, none⟩) hblk).trans c0
          have e1 := (World.cell?_of_block (a := ⟨w6.heap.size, 1, none⟩) hblk).trans c1
          have ef := (World.frozen?_of_block (a := ⟨w6.heap.size, 0, none⟩) hblk).trans cf0
          obtain ⟨r1, r2⟩ := obj_step (l := f.map (valW (stF 0 fs))) (ci := c7) (unhide HRow) (by omega) hV7.1 hBW1 hV7.2 (by rw [unhide HLk]; exact hrow10) hg10 hat10 rfl
          cases hio
          clear hrow10 hg10 hat10 hV7 hblk
          unfold Oper.wp
          go_simp
          refine hK undef _ ⟨hb.trans r2, World.cell?_setCell_same' _ _ _ (by rw [e0]; rfl), by rw [World.frozen?_setCell]; exact ef, ?_, _, by rw [unhide HO]; exact r1⟩
          rw [World.cell?_setCell_other _ _ _ _ (by simp)]
          exact e1
        · simp at hj
      · intro vs W hvl hGv
        obtain ⟨v5, v7, v8, v9, v10, v12, rfl⟩ : ∃ v5 v7 v8 v9 v10 v12, vs = [v5, v7, v8, v9, v10, v12] := by
          match vs, hvl with
          | [v5, v7, v8, v9, v10, v12], _ => exact ⟨v5, v7, v8, v9, v10, v12, rfl⟩
        obtain ⟨h1, h2, h3, h4, es', h5⟩ := hGv
        simp only [List.length_cons, List.length_nil, Nat.reduceAdd]
        simp [endAct, dstAt, valAt, List.idxOf?, List.findIdx?, List.findIdx?.go, Act.put]
        go_wp2
        go_roundw
        case rel => exact ⟨k + 1, v10, es', by omega, by go_num, h1, h2, h3, h4, h5⟩
        case measure => simp [intOf]; omega
    · obtain rfl : k = fs.length := by omega
      rw [List.take_length] at hrow
      have hkI : ¬ ((fs.length : Int) < ((stF 0 fs).length : Int)) := by rw [unhide Hst]; omega
      have hol := objsOf_len (stF 0 fs) fs
      obtain ⟨va', vc', hv, hO⟩ := hrow.objs (by omega)
      subst hv
      have HR := hide hrow
      have Hol := hide hol
      clear hO hrow hol
      replace q0 := (hb.cell (p := ⟨w.heap.size + 1, 0, none⟩) (by simp; omega)).trans q0
      replace q1 := (hb.cell (p := ⟨w.heap.size + 1, 1, none⟩) (by simp; omega)).trans q1
      replace f0 := (hb.frozen (p := ⟨w.heap.size + 1, 0, none⟩) (by simp; omega)).trans f0
      replace f1 := (hb.frozen (p := ⟨w.heap.size + 1, 1, none⟩) (by simp; omega)).trans f1
      generalize hL : objsOf (stF 0 fs) fs = L at *
      have HL := hide hL
      clear hL
      go_wp2
      refine bodyPost_ret (v := .agg #[.slice va' L.length vc', .slice ar6 rl cr6]) (by simp [results, Try.results14, go_sem, q0, q1]) rfl ?_
      have hO := ((unhide HR).setCell (p := ⟨w.heap.size + 1, 0, none⟩) (by simp; omega) (.slice va' L.length vc')).setCell (p := ⟨w.heap.size + 1, 1, none⟩) (by simp; omega) (.slice ar6 rl cr6)
      obtain ⟨va2, vc2, hv2, hO2⟩ := hO.objs (by rw [unhide Hol]; omega)
      injection hv2 with e1 _ e3
      subst e1 e3
      have hVF := ((((unhide HV6).below hb).setCell (p := ⟨w.heap.size + 1, 0, none⟩) (by simp; omega) (.slice va' L.length vc')).setCell (p := ⟨w.heap.size + 1, 1, none⟩) (by simp; omega) (.slice ar6 rl cr6))
      refine ⟨⟨va', vc', ar6, cr6, ?_, ?_, hVF.1⟩, (hbwr.setCell (p := ⟨w.heap.size + 1, 0, none⟩) (by simp) _).setCell (p := ⟨w.heap.size + 1, 1, none⟩) (by simp) _⟩
      · have e1 : (readG fs rs).objs = L := unhide HL
        have e2 : (readG fs rs).roots.length = rl := unhide Hrl
        rw [e1, e2]
      · have e1 : (readG fs rs).objs = L := unhide HL
        rw [e1]; exact hO2

end Go.Proofs.Ytklihkalcmchpaa

/- Walks: the document's Mark. -/
namespace Go.Proofs.Ytklihkalcmchpaa
set_option linter.unusedSimpArgs false
set_option linter.unusedVariables false
open Go.RowKit Go.Shelf

/-- A block that holds no number. -/
def NoNum (W : World) (rb : Nat) : Prop := ∃ cs t, W.heap[rb]? = some (.cells cs t) ∧ ∀ (i : Nat) (k : IntKind) (x : Int), cs[i]? ≠ some (Value.int k x)

theorem NoNum.wds {W : World} {rb B j : Nat} {a : Option Addr} {l : List Int} (h : NoNum W rb) (hw : Wds B W a l) (u : Value) : Wds B (W.setCell ⟨rb, j, none⟩ u) a l := by
  refine ⟨hw.1, fun hne => ?_⟩
  obtain ⟨b, off, rfl, hB, hc⟩ := hw.2 hne
  obtain ⟨cs, t, hb, hn⟩ := h
  have hbr : b ≠ rb := by
    rintro rfl
    have h0 : 0 < l.length := List.length_pos_iff.2 hne
    have := hc 0 l[0] (List.getElem?_eq_getElem h0)
    rw [cell_of_row W b (off + 0) cs t (0, 0) hb] at this
    exact hn _ _ _ this
  refine ⟨b, off, rfl, hB, fun k v hk => ?_⟩
  rw [World.cell?_of_block (a := ⟨b, off + k, none⟩) (Below.heap_setCell _ _ _ _ hbr)]
  exact hc k v hk

theorem NoNum.set {W : World} {rb j : Nat} (h : NoNum W rb) {u : Value} (hu : ∀ (k : IntKind) (x : Int), u ≠ Value.int k x) : NoNum (W.setCell ⟨rb, j, none⟩ u) rb := by
  obtain ⟨cs, t, hb, hn⟩ := h
  refine ⟨_, t, heap_setCell_same W rb j cs t u hb, fun i k x => ?_⟩
  rw [Array.getElem?_setIfInBounds]
  split
  · split
    · intro e; injection e with e; exact hu k x e
    · simp
  · exact hn i k x

theorem ints_keep {B : Nat} {W W' : World} {a : Option Addr} {l : List Int} (h : Ints B W a l) (hb : ∀ b off, a = some ⟨b, off, none⟩ → b < B → W'.heap[b]? = W.heap[b]?) : Ints B W' a l := by
  refine ⟨h.1, fun hne => ?_⟩
  obtain ⟨b, off, rfl, hB, hc⟩ := h.2 hne
  refine ⟨b, off, rfl, hB, fun k v hk => ?_⟩
  rw [World.cell?_of_block (a := ⟨b, off + k, none⟩) (hb b off rfl hB)]
  exact hc k v hk

/-- What the document's Mark tells. -/
def RMk (L rs : List Int) (e : Ending) (W : World) : Prop :=
  ∃ aw cw ar cr, e = .returned (.agg #[.slice aw L.length cw, .slice ar rs.length cr]) ∧ Wds W.heap.size W aw L ∧ Wds W.heap.size W ar rs

end Go.Proofs.Ytklihkalcmchpaa

/- Walks: the document's answer: Order. -/
namespace Go.Proofs.Ytklihkalcmchpaa
set_option linter.unusedSimpArgs false
set_option linter.unusedVariables false
open Go.RowKit

theorem refsL_no {l : List V} {k : Nat} (hk : k < l.length) {n : Int} (h : l[k] = (false, n)) : refsL (l.take (k + 1)) = refsL (l.take k) := by
  unfold refsL; rw [obsOf_no hk h]
theorem refsL_yes {l : List V} {k : Nat} (hk : k < l.length) {n : Int} (h : l[k] = (true, n)) (hn : 0 ≤ n ∧ n < 256) : refsL (l.take (k + 1)) = refsL (l.take k) ++ [n] := by
  unfold refsL; rw [obsOf_yes hk h hn]; simp [valsOf]

/-- One round of Order: a value of a list is found, if it refers to what isn't there. -/
theorem findA_yes {d : Int} {st : List Int × List Int} {xs : List Int} {o : Int} (h : o ∈ (findA d st xs).1) : findA d st (xs ++ [o]) = findA d st xs := by
  rw [findA_snoc, findS, if_pos h]
theorem findA_no {d : Int} {st : List Int × List Int} {xs : List Int} {o : Int} (h : o ∉ (findA d st xs).1) : (findA d st (xs ++ [o])).1 = (findA d st xs).1 ++ [o] := by
  rw [findA_snoc, findS, if_neg h]

set_option maxRecDepth 100000 in
set_option maxHeartbeats 1000000 in
theorem order_c (ao ar : Option Addr) (co cr : Nat) (g : Gr) (B : Nat) (w : World) (ho : Objs B w ao g.objs) (hr : Vals B w ar g.roots) (hB : B ≤ w.heap.size) (hG : Good g) :
    Calls Try.prog 26 #[.agg #[.slice ao g.objs.length co, .slice ar g.roots.length cr]] w fun e w' => ∃ a cap, e = .returned (.slice a (orderOf g).length cap) ∧ Ints w'.heap.size w' a (orderOf g) ∧ Below w.heap.size w w' := by
  obtain ⟨i0, hi, hz0, hz1, hz2⟩ := info_parts Try.info3
  have hn24 := hG.n24
  have hn8 := hG.n8
  obtain ⟨W0, hW0⟩ : ∃ W0, w.alloc (.cells #[.slice ao g.objs.length co, .slice ar g.roots.length cr] 36) = W0 := ⟨_, rfl⟩
  have hb0 : Below w.heap.size w W0 := by rw [← hW0]; exact (Below.refl _ _).alloc (Nat.le_refl _) _
  have hs0 : w.heap.size < W0.heap.size := by rw [← hW0]; simp
  have g0 : W0.cell? ⟨w.heap.size, 0, none⟩ = some (.slice ao g.objs.length co) := by rw [← hW0]; simp [go_sem]
  have g1 : W0.cell? ⟨w.heap.size, 1, none⟩ = some (.slice ar g.roots.length cr) := by rw [← hW0]; simp [go_sem]
  go_enter Try.func26, Try.ntmps26
  go_wp2
  clear hW0
  go_loopw [3, 12] (fun s i wr => ∃ k : Nat, k ≤ g.roots.length ∧ i = .int .i64 k ∧ wr.ownsRow W0.heap.size 3 1 s (findA 0 ([], []) (refsL (g.roots.take k))).1.length (intsV (findA 0 ([], []) (refsL (g.roots.take k))).1) ∧ Below W0.heap.size W0 wr) (fun _ i _ => g.roots.length - (intOf i).toNat)
  case atStart => exact ⟨0, Nat.zero_le _, rfl, World.ownsRow_nil _ _ _ _, Below.refl _ _⟩
  case round =>
    obtain ⟨k, hk, rfl, hown, hb⟩ := hrel
    have hsz := hb.size
    have hbw : Below B w wr := (hb0.mono hB).trans (hb.mono (by omega))
    by_cases hlt : k < g.roots.length
    · obtain ⟨b, off, r, n, rfl, hbB, hc1, hc2, Hv⟩ := (hr.below hbw).at hlt
      have hlen := findA_len 0 (refsL (g.roots.take k)) ([], [])
      have hlr : (refsL (g.roots.take k)).length ≤ 8 := by
        have h1 := obsOf_len (g.roots.take k)
        simp only [refsL, valsOf, List.length_map, List.length_take] at *
        omega
      simp only [List.length_nil, Nat.zero_add] at hlen
      cases r
      · have HT := hide (refsL_no hlt Hv.out)
        go_wp2
        go_roundw
        case rel => exact ⟨k + 1, by omega, by go_num, by rw [unhide HT]; exact hown.alloc _, hb.alloc hsz _⟩
        case measure => simp [intOf]; omega
      · have hn := hG.refsRoots _ (List.getElem_mem hlt)
        rw [Hv.out] at hn
        have hn := hn rfl
        have HT := hide (refsL_yes hlt Hv.out hn)
        by_cases hm : n ∈ (findA 0 ([], []) (refsL (g.roots.take k))).1
        · have HF := hide (findA_yes hm)
          have Hm := hide (show decide (n ∈ (findA 0 ([], []) (refsL (g.roots.take k))).1) = true from by simpa using hm)
          clear hm
          generalize hst : (findA 0 ([], []) (refsL (g.roots.take k))).1 = st at *
          have Hst := hide hst
          clear hst
          obtain ⟨sa, sc, rfl, hI, _⟩ := ints_of_owns hown rfl (by omega)
          have hIa := (hI.below ((Below.refl wr.heap.size wr).alloc (Nat.le_refl _) (.cells #[.bool true, .int .i64 n] 56)))
          go_wp2_with (go_at_call 19; go_must (refine (has_c _ _ st n wr.heap.size _ hIa).mono ?_); go_must (rintro e w3 ⟨he, hw3⟩; rw [unhide Hm] at he; subst he; subst hw3))
          go_roundw
          case rel => exact ⟨k + 1, by omega, by go_num, by rw [unhide HT, unhide HF, unhide Hst]; exact hown.alloc _, hb.alloc hsz _⟩
          case measure => simp [intOf]; omega
        · have HF := hide (findA_no hm)
          have Hm := hide (show decide (n ∈ (findA 0 ([], []) (refsL (g.roots.take k))).1) = false from by simpa using hm)
          clear hm
          generalize hst : (findA 0 ([], []) (refsL (g.roots.take k))).1 = st at *
          have Hst := hide hst
          clear hst
          obtain ⟨sa, sc, rfl, hI, _⟩ := ints_of_owns hown rfl (by omega)
          have hIa := (hI.below ((Below.refl wr.heap.size wr).alloc (Nat.le_refl _) (.cells #[.bool true, .int .i64 n] 56)))
          have hmx : st.length + 1 ≤ maxLen := by simp only [maxLen]; omega
          have hmy : (st.length + 1) * 8 ≤ 140737488355328 := by omega
          go_wp2_with (first
            | (go_at_call 19; go_must (refine (has_c _ _ st n wr.heap.size _ hIa).mono ?_); go_must (rintro e w3 ⟨he, hw3⟩; rw [unhide Hm] at he; subst he; subst hw3))
            | (at_builtin; go_must (refine wpList_append_own _ rfl _ _ 41 rfl W0.heap.size 3 i0 _ 1 8 Try.underlying41 hi hz0 hz1 hz2 rfl (by decide) _ _ _ rfl ((hown.alloc _).alloc _) ⟨wr.heap.size + 1, 0, none⟩ 1 1 [.int .i64 n] rfl rfl (cell_one_at _ _ _ _ (by simp)) (by simp [Value.oneCell']) hmx hmy (by simp; omega) ?_); intro v' w1 hown' hgrow _))
          go_roundw
          case rel => exact ⟨k + 1, by omega, by go_num, by rw [unhide HT, unhide HF, intsV_snoc, List.length_append]; exact hown', ((hb.alloc hsz _).alloc (by simp; omega) _).grown hgrow (by simp; omega) (fun q e => (hown.lt q e).1)⟩
          case measure => simp [intOf]; omega
    · obtain rfl : k = g.roots.length := by omega
      rw [List.take_length] at hown
      have hown : wr.ownsRow W0.heap.size 3 1 u3 (searchN g 0).1.length (intsV (searchN g 0).1) := hown
      go_wp2
      go_loopw [3, 6] (fun s i wr => ∃ k : Nat, k ≤ (searchN g k).1.length ∧ i = .int .i64 k ∧ wr.ownsRow W0.heap.size 3 1 s (searchN g k).1.length (intsV (searchN g k).1) ∧ Below W0.heap.size W0 wr) (fun _ i _ => g.objs.length - (intOf i).toNat)
      case atStart => exact ⟨0, Nat.zero_le _, rfl, hown, hb⟩
      case round =>
        clear hown hb hsz hbw
        obtain ⟨k, hk, rfl, hown, hb⟩ := hrel
        have hsz := hb.size
        have hbw : Below B w wr := (hb0.mono hB).trans (hb.mono (by omega))
        have hok := searchN_ok hG k
        have hkN := hok.le
        obtain ⟨sa, sc, rfl, hI, _⟩ := ints_of_owns hown rfl (by omega)
        by_cases hlt : k < (searchN g k).1.length
        · have hro := hok.rng _ (List.getElem_mem hlt)
          have HS : Hid (searchN g (k + 1) = findA (((searchN g k).2[k]?).getD 0 + 1) (searchN g k) (refsL (fieldsOf g (searchN g k).1[k]))) := by
            show searchN g (k + 1) = _
            rw [searchN_succ, List.getElem?_eq_getElem hlt]
          have g0 := (hb.cell (p := ⟨w.heap.size, 0, none⟩) (by simp; omega)).trans g0
          obtain ⟨gg, og, rfl, hgl, hx1⟩ := hI.at hlt
          generalize (searchN g k).1[k] = o at *
          obtain ⟨o, rfl⟩ := Int.eq_ofNat_of_zero_le hro.1
          have hoN : o < g.objs.length := by omega
          obtain ⟨b, off, ai, ci, rfl, hbB, hcb, hva⟩ := (ho.below hbw).at hoN
          have hva0 := hva.below' hbw
          have Hfs := hide (show fieldsOf g (o : Int) = g.objs[o] by simp [fieldsOf, hoN])
          have hl4 := hG.n4 _ (List.getElem_mem hoN)
          have hrf := hG.refsObjs (List.getElem_mem hoN)
          rw [unhide Hfs] at HS
          clear Hfs
          generalize g.objs[o] = fs at *
          generalize ((searchN g k).2[k]?).getD 0 + 1 = d at *
          have hoI : (o : Int) < (g.objs.length : Int) := by omega
          have hkI : (k : Int) < ((searchN g k).1.length : Int) := by omega
          have hsl := (searchN_ok hG k).le
          generalize searchN g k = sk at *
          go_wp2
          go_still Try.mixed
          go_wp2
          clear hx1 hI
          go_loopw [3, 47] (fun s i wi => ∃ j : Nat, j ≤ fs.length ∧ i = .int .i64 j ∧ wi.ownsRow W0.heap.size 3 1 s (findA d sk (refsL (fs.take j))).1.length (intsV (findA d sk (refsL (fs.take j))).1) ∧ Below W0.heap.size W0 wi) (fun _ i _ => fs.length - (intOf i).toNat)
          case atStart => exact ⟨0, Nat.zero_le _, rfl, hown, hb.trans (Below.refl _ _).drew⟩
          case round =>
            clear hown hb hsz hbw g0 hcb hva
            obtain ⟨j, hj, rfl, hown, hb⟩ := hrel
            have hsz := hb.size
            have hbw : Below B w wr := (hb0.mono hB).trans (hb.mono (by omega))
            by_cases hlt2 : j < fs.length
            · obtain ⟨b2, off2, r, n, rfl, hbB2, hc1, hc2, Hv⟩ := (hva0.below hbw).at hlt2
              have hlen := findA_len d (refsL (fs.take j)) sk
              have hlr : (refsL (fs.take j)).length ≤ 4 := by
                have h1 := obsOf_len (fs.take j)
                simp only [refsL, valsOf, List.length_map, List.length_take] at *
                omega
              cases r
              · have HT := hide (refsL_no hlt2 Hv.out)
                go_wp2
                go_roundw
                case rel => exact ⟨j + 1, by omega, by go_num, by rw [unhide HT]; exact hown.alloc _, hb.alloc hsz _⟩
                case measure => simp [intOf]; omega
              · have hn := hrf _ (List.getElem_mem hlt2)
                rw [Hv.out] at hn
                have hn := hn rfl
                have HT := hide (refsL_yes hlt2 Hv.out hn)
                by_cases hm : n ∈ (findA d sk (refsL (fs.take j))).1
                · have HF := hide (findA_yes hm)
                  have Hm := hide (show decide (n ∈ (findA d sk (refsL (fs.take j))).1) = true from by simpa using hm)
                  clear hm
                  generalize hst : (findA d sk (refsL (fs.take j))).1 = st at *
                  have Hst := hide hst
                  clear hst
                  obtain ⟨sa, sc, rfl, hI, _⟩ := ints_of_owns hown rfl (by omega)
                  have hIa := (hI.below ((Below.refl wr.heap.size wr).alloc (Nat.le_refl _) (.cells #[.bool true, .int .i64 n] 56)))
                  go_wp2_with (go_at_call 19; go_must (refine (has_c _ _ st n wr.heap.size _ hIa).mono ?_); go_must (rintro e w3 ⟨he, hw3⟩; rw [unhide Hm] at he; subst he; subst hw3))
                  go_roundw
                  case rel => exact ⟨j + 1, by omega, by go_num, by rw [unhide HT, unhide HF, unhide Hst]; exact hown.alloc _, hb.alloc hsz _⟩
                  case measure => simp [intOf]; omega
                · have HF := hide (findA_no hm)
                  have Hm := hide (show decide (n ∈ (findA d sk (refsL (fs.take j))).1) = false from by simpa using hm)
                  clear hm
                  generalize hst : (findA d sk (refsL (fs.take j))).1 = st at *
                  have Hst := hide hst
                  clear hst
                  obtain ⟨sa, sc, rfl, hI, _⟩ := ints_of_owns hown rfl (by omega)
                  have hIa := (hI.below ((Below.refl wr.heap.size wr).alloc (Nat.le_refl _) (.cells #[.bool true, .int .i64 n] 56)))
                  have hmx : st.length + 1 ≤ maxLen := by simp only [maxLen]; omega
                  have hmy : (st.length + 1) * 8 ≤ 140737488355328 := by omega
                  go_wp2_with (first
                    | (go_at_call 19; go_must (refine (has_c _ _ st n wr.heap.size _ hIa).mono ?_); go_must (rintro e w3 ⟨he, hw3⟩; rw [unhide Hm] at he; subst he; subst hw3))
                    | (at_builtin; go_must (refine wpList_append_own _ rfl _ _ 41 rfl W0.heap.size 3 i0 _ 1 8 Try.underlying41 hi hz0 hz1 hz2 rfl (by decide) _ _ _ rfl ((hown.alloc _).alloc _) ⟨wr.heap.size + 1, 0, none⟩ 1 1 [.int .i64 n] rfl rfl (cell_one_at _ _ _ _ (by simp)) (by simp [Value.oneCell']) hmx hmy (by simp; omega) ?_); intro v' w1 hown' hgrow _))
                  go_roundw
                  case rel => exact ⟨j + 1, by omega, by go_num, by rw [unhide HT, unhide HF, intsV_snoc, List.length_append]; exact hown', ((hb.alloc hsz _).alloc (by simp; omega) _).grown hgrow (by simp; omega) (fun q e => (hown.lt q e).1)⟩
                  case measure => simp [intOf]; omega
            · obtain rfl : j = fs.length := by omega
              rw [List.take_length] at hown
              have hgr := (findA_prefix d (refsL fs) sk).1.length_le
              go_wp2
              go_roundw
              case rel => exact ⟨k + 1, by rw [unhide HS]; omega, by go_num, by rw [unhide HS]; exact hown, hb⟩
              case measure => simp [intOf]; omega
        · have HS := hide (show orderOf g = (searchN g k).1 from by
            have := searchN_stable g (k := k) (by omega) (g.objs.length - k)
            rw [show k + (g.objs.length - k) = g.objs.length from by omega] at this
            unfold orderOf; rw [this])
          generalize (searchN g k).1 = sk at *
          go_wp2
          go_ret
          refine ⟨sa, sc, ?_, by rw [unhide HS]; exact hI, hb0.trans (hb.mono (by omega))⟩
          rw [unhide HS]; rfl

end Go.Proofs.Ytklihkalcmchpaa

/- Walks: the document's answer: Canon, Graphs, Values. -/
namespace Go.Proofs.Ytklihkalcmchpaa
set_option linter.unusedSimpArgs false
set_option linter.unusedVariables false
open Go.RowKit

set_option maxRecDepth 100000 in
set_option maxHeartbeats 1000000 in
theorem refCanon_c (ao ar : Option Addr) (co cr : Nat) (g : Gr) (B : Nat) (w : World) (ho : Objs B w ao g.objs) (hr : Vals B w ar g.roots) (hB : B ≤ w.heap.size) (hG : Good g) :
    Calls Try.prog 15 #[.agg #[.slice ao g.objs.length co, .slice ar g.roots.length cr]] w fun e w' => ∃ ao' co' ar' cr', e = .returned (.agg #[.slice ao' (canonG g).objs.length co', .slice ar' (canonG g).roots.length cr']) ∧
      Objs w'.heap.size w' ao' (canonG g).objs ∧ Vals w'.heap.size w' ar' (canonG g).roots ∧ Below w.heap.size w w' := by
  have hol := (searchN_ok hG g.objs.length).le
  have hn24 := hG.n24
  obtain ⟨W4, hW4⟩ : ∃ W4, (w.alloc (.cells #[.slice ao g.objs.length co, .slice ar g.roots.length cr] 36)).alloc (.cells #[.slice none 0 0, .slice none 0 0] 36) = W4 := ⟨_, rfl⟩
  have hb1 : Below w.heap.size w W4 := by rw [← hW4]; exact ((Below.refl w.heap.size w).alloc (Nat.le_refl _) _).alloc (by simp) _
  have hs4 : w.heap.size + 1 < W4.heap.size := by rw [← hW4]; simp
  have q0 : W4.cell? ⟨w.heap.size + 1, 0, none⟩ = some (.slice none 0 0) := by rw [← hW4]; simp [go_sem]
  have q1 : W4.cell? ⟨w.heap.size + 1, 1, none⟩ = some (.slice none 0 0) := by rw [← hW4]; simp [go_sem]
  have f0 : W4.frozen? ⟨w.heap.size + 1, 0, none⟩ = false := by rw [← hW4]; simp [go_sem]
  have f1 : W4.frozen? ⟨w.heap.size + 1, 1, none⟩ = false := by rw [← hW4]; simp [go_sem]
  have g0 : W4.cell? ⟨w.heap.size, 0, none⟩ = some (.slice ao g.objs.length co) := by rw [← hW4]; simp [go_sem]
  have g1 : W4.cell? ⟨w.heap.size, 1, none⟩ = some (.slice ar g.roots.length cr) := by rw [← hW4]; simp [go_sem]
  go_enter Try.func15, Try.ntmps15
  go_wp2
  clear hW4
  have ho4 := (ho.below (hb1.mono hB)).below (Below.refl B W4).drew
  have hr4 := (hr.below (hb1.mono hB)).below (Below.refl B W4).drew
  have hB4 : B ≤ W4.drew.heap.size := by show B ≤ W4.heap.size; omega
  go_region_law (first
    | (refine step_call rfl 26 #[.agg #[.slice ao g.objs.length co, .slice ar g.roots.length cr]] (by go_simp) (fun v w6 => ∃ a6 c6, v = .slice a6 (orderOf g).length c6 ∧ Ints w6.heap.size w6 a6 (orderOf g) ∧ Below W4.heap.size W4 w6) ((order_c ao ar co cr g B _ ho4 hr4 hB4 hG).mono (by rintro e w6 ⟨a6, c6, rfl, hI6, hb6⟩; exact ⟨_, rfl, a6, c6, rfl, hI6, (Below.refl _ _).drew.trans hb6⟩)) ?_; rintro v6 w6 ⟨a6, c6, rfl, hI6, hb6⟩; have hs6 := hb6.size; have g06 := (hb6.cell (p := ⟨w.heap.size, 0, none⟩) (by simp; omega)).trans g0; have g16 := (hb6.cell (p := ⟨w.heap.size, 1, none⟩) (by simp; omega)).trans g1; have hbw6 : Below w.heap.size w w6 := hb1.trans (hb6.mono (by omega)); have ho6 : Objs w6.heap.size w6 ao g.objs := (ho.below (hbw6.mono hB)).mono (by have := hbw6.size; omega); have hr6 : Vals w6.heap.size w6 ar g.roots := (hr.below (hbw6.mono hB)).mono (by have := hbw6.size; omega))
    | (refine step_call rfl 28 #[.agg #[.slice ao g.objs.length co, .slice ar g.roots.length cr], .slice a6 (orderOf g).length c6] (by go_simp) (fun v w7 => ∃ ao' co' ar' cr', v = .agg #[.slice ao' (canonG g).objs.length co', .slice ar' (canonG g).roots.length cr'] ∧ (∃ base es, w6.heap.size ≤ base ∧ ObjRow w7 base (.slice ao' (canonG g).objs.length co') (canonG g).objs es) ∧ Vals w7.heap.size w7 ar' (canonG g).roots ∧ (∀ b off, ar' = some ⟨b, off, none⟩ → w6.heap.size ≤ b) ∧ Below w6.heap.size w6 w7) ((renum_c ao ar a6 co cr c6 g (orderOf g) w6 ho6 hr6 hI6 hG (by unfold orderOf; omega) (fun o h => order_ok hG h)).mono (by rintro e w7 ⟨x1, x2, x3, x4, rfl, x5, x6, x7, x8⟩; exact ⟨_, rfl, x1, x2, x3, x4, rfl, x5, x6, x7, x8⟩)) ?_; rintro v7 w7 ⟨ao', co', ar', cr', rfl, ⟨base7, es7, hbase7, hO7⟩, hV7, hbs7, hb7⟩; have q07 := (hb7.cell (p := ⟨w.heap.size + 1, 0, none⟩) (by simp; omega)).trans ((hb6.cell (p := ⟨w.heap.size + 1, 0, none⟩) (by simp; omega)).trans q0); have q17 := (hb7.cell (p := ⟨w.heap.size + 1, 1, none⟩) (by simp; omega)).trans ((hb6.cell (p := ⟨w.heap.size + 1, 1, none⟩) (by simp; omega)).trans q1); have f07 := (hb7.frozen (p := ⟨w.heap.size + 1, 0, none⟩) (by simp; omega)).trans ((hb6.frozen (p := ⟨w.heap.size + 1, 0, none⟩) (by simp; omega)).trans f0); have f17 := (hb7.frozen (p := ⟨w.heap.size + 1, 1, none⟩) (by simp; omega)).trans ((hb6.frozen (p := ⟨w.heap.size + 1, 1, none⟩) (by simp; omega)).trans f1)))
  all_goals
    go_wp2
    refine bodyPost_ret (v := .agg #[.slice ao' (canonG g).objs.length co', .slice ar' (canonG g).roots.length cr']) (by simp [results, Try.results15, go_sem, q07, q17]) rfl ?_
    obtain ⟨va', vc', hv, hO⟩ := ((hO7.setCell (p := ⟨w.heap.size + 1, 0, none⟩) (by simp; omega) (.slice ao' (canonG g).objs.length co')).setCell (p := ⟨w.heap.size + 1, 1, none⟩) (by simp; omega) (.slice ar' (canonG g).roots.length cr')).objs (by simp only [canonG, List.length_map]; unfold orderOf; omega)
    injection hv with h1 _ h3
    subst h1 h3
    refine ⟨_, _, ar', cr', rfl, hO, ?_, ?_⟩
    · refine Vals.mono ((hV7.setCell ⟨w.heap.size + 1, 0, none⟩ (.slice ao' (canonG g).objs.length co') (fun b off e => ?_)).setCell ⟨w.heap.size + 1, 1, none⟩ (.slice ar' (canonG g).roots.length cr') (fun b off e => ?_)) (by simp [World.setCell])
      · have := hbs7 b off e; simp; omega
      · have := hbs7 b off e; simp; omega
    · exact ((hbw6.trans (hb7.mono (by have := hbw6.size; omega))).setCell (p := ⟨w.heap.size + 1, 0, none⟩) (by simp) _).setCell (p := ⟨w.heap.size + 1, 1, none⟩) (by simp) _

end Go.Proofs.Ytklihkalcmchpaa

/- Walks: the document's Move. -/
namespace Go.Proofs.Ytklihkalcmchpaa
set_option linter.unusedSimpArgs false
set_option linter.unusedVariables false
open Go.RowKit Go.Shelf

/-- What Renumber, headsOf, Lay hand back. -/
def RnP (X : World) (g : Gr) (v : Value) (W : World) : Prop :=
  ∃ ao co ar cr, v = .agg #[.slice ao (canonG g).objs.length co, .slice ar (canonG g).roots.length cr] ∧ Objs W.heap.size W ao (canonG g).objs ∧ Vals W.heap.size W ar (canonG g).roots ∧ Below X.heap.size X W
def HdP (X : World) (hs L : List Int) (v : Value) (W : World) : Prop :=
  ∃ a c, v = .slice a L.length c ∧ Hdrs W.heap.size W a (mvHd hs L) ∧ Below X.heap.size X W
def LyP (X : World) (L R : List Int) (v : Value) (W : World) : Prop :=
  ∃ aw cw ar cr, v = .agg #[.slice aw L.length cw, .slice ar R.length cr] ∧ Wds W.heap.size W aw L ∧ Wds W.heap.size W ar R ∧ Below X.heap.size X W

theorem lay_moved {hs : List Int} {fs : List (List Int)} {rs : List Int} (hA : Arn hs fs rs) (ao ar ah : Option Addr) (co cr ch : Nat) (X : World)
    (hO : Objs X.heap.size X ao (canonG (readG fs rs)).objs) (hV : Vals X.heap.size X ar (canonG (readG fs rs)).roots) (hH : Hdrs X.heap.size X ah (mvHd hs (orderOf (readG fs rs)))) :
    Calls Try.prog 27 #[.agg #[.slice ao (canonG (readG fs rs)).objs.length co, .slice ar (canonG (readG fs rs)).roots.length cr], .slice ah (orderOf (readG fs rs)).length ch] X fun e w' => ∃ v, e = .returned v ∧ LyP X (mvL hs fs rs) (mvR fs rs) v w' := by
  have hG := good_canon (good_read hA)
  obtain ⟨hnr, hno⟩ := num_canon hA
  have h := rlay_c ao ar ah co cr ch (canonG (readG fs rs)) (mvHd hs (orderOf (readG fs rs))) X.heap.size X hO hV hH (by rw [mvHd_len, canon_len]) (Nat.le_refl _) hG.n24 hG.n4 hG.n8 hG.rr hG.ro hnr hno
  rw [mvHd_len] at h
  refine h.mono ?_
  rintro e w' ⟨⟨aw', cw', ar', cr', he, h1, h2⟩, h3⟩
  have e1 : layHW (stF 0 (canonG (readG fs rs)).objs) (mvHd hs (orderOf (readG fs rs))) (canonG (readG fs rs)).objs = mvL hs fs rs := by
    unfold layHW
    rw [mvHd_hW, ← mF_lay hA]
    rfl
  have e2 := mR_lay hA
  rw [e1] at he h1
  rw [← e2] at he h2
  exact ⟨_, he, aw', cw', ar', cr', rfl, h1, h2, h3⟩

set_option maxRecDepth 100000 in
set_option maxHeartbeats 8000000 in
theorem rmove_c (aw ar : Option Addr) (cw cr : Nat) (ws rs : List Int) (hs : List Int) (fs : List (List Int)) (B : Nat) (w : World) (hW : Wds B w aw ws) (hR : Wds B w ar rs) (hUW : U64 ws) (hUR : U64 rs) (hB : B ≤ w.heap.size) (hA : Arn hs fs rs) (hws : ws = joinW hs fs) :
    Calls Try.prog 9 #[.agg #[.slice aw ws.length cw, .slice ar rs.length cr]] w fun e w' => RMk (mvL hs fs rs) (mvR fs rs) e w' ∧ Below w.heap.size w w' := by
  have hsp : splitR ws = some fs := by rw [hws]; exact fit_split hA.fit
  have h256 : ws.length ≤ 256 := by rw [hws, joinW_len _ _ hA.fit.len]; exact hA.n256
  obtain ⟨W1, hW1⟩ : ∃ W1, (w.alloc (.cells #[.slice aw ws.length cw, .slice ar rs.length cr] 24)).alloc (.cells #[.slice none 0 0, .slice none 0 0] 24) = W1 := ⟨_, rfl⟩
  have hb1 : Below w.heap.size w W1 := by rw [← hW1]; exact ((Below.refl w.heap.size w).alloc (Nat.le_refl _) _).alloc (by simp) _
  have hs1 : w.heap.size + 1 < W1.heap.size := by rw [← hW1]; simp
  have g0 : W1.cell? ⟨w.heap.size, 0, none⟩ = some (.slice aw ws.length cw) := by rw [← hW1]; simp [go_sem]
  have g1 : W1.cell? ⟨w.heap.size, 1, none⟩ = some (.slice ar rs.length cr) := by rw [← hW1]; simp [go_sem]
  have hr0 : W1.heap[w.heap.size + 1]? = some (.cells #[.slice none 0 0, .slice none 0 0] 24) := by
    have := heap_alloc_new (w.alloc (.cells #[.slice aw ws.length cw, .slice ar rs.length cr] 24)) (.cells #[.slice none 0 0, .slice none 0 0] 24)
    rw [hW1] at this
    simpa using this
  have Hc1 := hide (rread_c aw ar cw cr ws rs fs B W1 (hW.below (hb1.mono hB)) (hR.below (hb1.mono hB)) hUW hUR (by omega) h256 hA.n8 hsp)
  have HA := hide hA
  have HG := hide (good_read hA)
  have Hws := hide hws
  have Hr0 := hide hr0
  have hOl : (orderOf (readG fs rs)).length ≤ 256 := by have := (ord_ok hA).len; have := hA.n256; omega
  have HR := hide (fun o ho => (ord_ok hA).rng o ho)
  clear hA hws hsp hr0
  go_enter Try.func9, Try.ntmps9
  go_wp2_with fail
  refine (unhide Hc1).mono ?_
  rintro e w2 ⟨⟨ao, co, ar2, cr2, he, hO, hV⟩, hb2⟩
  subst he
  have hs2 := hb2.size
  have hbw2 : Below w.heap.size w w2 := hb1.trans (hb2.mono (by omega))
  obtain ⟨W2, hW2⟩ : ∃ W2, w2.alloc (.cells #[.slice ao (readG fs rs).objs.length co, .slice ar2 (readG fs rs).roots.length cr2] 36) = W2 := ⟨_, rfl⟩
  have hb2' : Below w2.heap.size w2 W2 := by rw [← hW2]; exact (Below.refl _ _).alloc (Nat.le_refl _) _
  have hs2' : w2.heap.size < W2.heap.size := by rw [← hW2]; simp
  have k0 : W2.cell? ⟨w2.heap.size, 0, none⟩ = some (.slice ao (readG fs rs).objs.length co) := by rw [← hW2]; simp [go_sem]
  have k1 : W2.cell? ⟨w2.heap.size, 1, none⟩ = some (.slice ar2 (readG fs rs).roots.length cr2) := by rw [← hW2]; simp [go_sem]
  replace g0 := (hb2'.cell (p := ⟨w.heap.size, 0, none⟩) (by simp; omega)).trans ((hb2.cell (p := ⟨w.heap.size, 0, none⟩) (by simp; omega)).trans g0)
  replace g1 := (hb2'.cell (p := ⟨w.heap.size, 1, none⟩) (by simp; omega)).trans ((hb2.cell (p := ⟨w.heap.size, 1, none⟩) (by simp; omega)).trans g1)
  have hbW2 : Below w.heap.size w W2 := hbw2.trans (hb2'.mono (by omega))
  have hwW2 : w.heap.size < W2.heap.size := by omega
  replace Hr0 := hide ((hb2'.block (w.heap.size + 1) (by omega)).trans ((hb2.block (w.heap.size + 1) (by omega)).trans (unhide Hr0)))
  have HO := hide ((hO.below hb2').mono (B' := W2.heap.size) (by omega))
  have HV := hide ((hV.below hb2').mono (B' := W2.heap.size) (by omega))
  have Hc2 := hide (order_c ao ar2 co cr2 (readG fs rs) W2.heap.size W2 (unhide HO) (unhide HV) (Nat.le_refl _) (unhide HG))
  clear Hc1 hO hV hW1 hb1 hb2 hb2' hbw2
  go_wp2_with fail
  refine (unhide Hc2).mono ?_
  rintro e w3 ⟨la, lc, he, hI, hb3⟩
  subst he
  have hs3 := hb3.size
  replace k0 := (hb3.cell (p := ⟨w2.heap.size, 0, none⟩) hs2').trans k0
  replace k1 := (hb3.cell (p := ⟨w2.heap.size, 1, none⟩) hs2').trans k1
  replace g0 := (hb3.cell (p := ⟨w.heap.size, 0, none⟩) hwW2).trans g0
  replace g1 := (hb3.cell (p := ⟨w.heap.size, 1, none⟩) hwW2).trans g1
  replace Hr0 := hide ((hb3.block (w.heap.size + 1) (by omega)).trans (unhide Hr0))
  have hbw3 : Below w.heap.size w w3 := hbW2.trans (hb3.mono (by omega))
  have hl3 : w2.heap.size < w3.heap.size := by omega
  have hl3' : w.heap.size < w3.heap.size := by omega
  have hl3'' : w.heap.size + 1 < w3.heap.size := by omega
  have hO3 : Objs w3.heap.size w3 ao (readG fs rs).objs := ((unhide HO).below hb3).mono hs3
  have hV3 : Vals w3.heap.size w3 ar2 (readG fs rs).roots := ((unhide HV).below hb3).mono hs3
  have HcA : Hid (∀ X, Below w3.heap.size w3 X → Calls Try.prog 28 #[.agg #[.slice ao (readG fs rs).objs.length co, .slice ar2 (readG fs rs).roots.length cr2], .slice la (orderOf (readG fs rs)).length lc] X fun e w' => ∃ v, e = .returned v ∧ RnP X (readG fs rs) v w') := by
    intro X hb
    refine (renum_c ao ar2 la co cr2 lc (readG fs rs) (orderOf (readG fs rs)) X ((hO3.below hb).mono hb.size) ((hV3.below hb).mono hb.size) ((hI.below hb).mono hb.size) (unhide HG) hOl (fun o ho => order_ok (unhide HG) ho)).mono ?_
    rintro e w' ⟨x1, x2, x3, x4, rfl, ⟨base, es, _, hrow⟩, h6, _, h8⟩
    obtain ⟨va, vc, hv, hO'⟩ := hrow.objs (by have := (good_canon (unhide HG)).n24; exact Nat.le_trans this (by omega))
    injection hv with h1 _ h3
    subst h1 h3
    exact ⟨_, rfl, _, _, _, _, rfl, hO', h6, h8⟩
  have HcH : Hid (∀ X, Below w3.heap.size w3 X → Calls Try.prog 29 #[.agg #[.slice aw ws.length cw, .slice ar rs.length cr], .slice la (orderOf (readG fs rs)).length lc, .int .i64 1] X fun e w' => ∃ v, e = .returned v ∧ HdP X hs (orderOf (readG fs rs)) v w') := by
    intro X hb
    have hbX : Below w.heap.size w X := hbw3.trans (hb.mono (by omega))
    refine (headsOf_c aw ar la cw rs.length cr lc ws hs fs (orderOf (readG fs rs)) X.heap.size X ((hW.below (hbX.mono hB)).mono (by have := hbX.size; omega)) hUW (Nat.le_refl _) (unhide HA).fit (unhide Hws) h256 ((hI.below hb).mono hb.size) (unhide HR) hOl).mono ?_
    rintro e w' ⟨⟨a, c, rfl, h1⟩, h2⟩
    exact ⟨_, rfl, a, c, rfl, h1, h2⟩
  have HcL := hide (fun X ao ar ah co cr ch h1 h2 h3 => lay_moved (unhide HA) ao ar ah co cr ch X h1 h2 h3)
  clear hW2 hb3 hO3 hV3 hI HO HV Hc2 hW hR
  generalize readG fs rs = g at *
  go_wp2_with fail
  have hbd : Below w3.heap.size w3 w3.drew := (Below.refl _ _).drew
  have hbwd : Below w.heap.size w w3.drew := hbw3.trans (hbd.mono (by omega))
  go_region_law (first
    | (refine step_call rfl 28 #[.agg #[.slice ao g.objs.length co, .slice ar2 g.roots.length cr2], .slice la (orderOf g).length lc] (by go_simp) (fun v w' => RnP w3.drew g v w') (unhide HcA _ hbd) ?_; rintro vA wA ⟨a6, c6, r6, d6, rfl, hOA, hVA, hbA⟩; have hsA := hbA.size; have hb3A : Below w3.heap.size w3 wA := hbd.trans hbA; have g0A := (hbA.cell (p := ⟨w.heap.size, 0, none⟩) hl3').trans g0; have g1A := (hbA.cell (p := ⟨w.heap.size, 1, none⟩) hl3').trans g1)
    | (refine step_call rfl 29 #[.agg #[.slice aw ws.length cw, .slice ar rs.length cr], .slice la (orderOf g).length lc, .int .i64 1] (by go_simp) (fun v w' => HdP w3.drew hs (orderOf g) v w') (unhide HcH _ hbd) ?_; rintro vH wH ⟨ha, hc, rfl, hHH0, hbH0⟩; have hsH0 := hbH0.size; have hb3H : Below w3.heap.size w3 wH := hbd.trans hbH0; have k0H := (hbH0.cell (p := ⟨w2.heap.size, 0, none⟩) hl3).trans k0; have k1H := (hbH0.cell (p := ⟨w2.heap.size, 1, none⟩) hl3).trans k1)
    | (refine step_call rfl 29 #[.agg #[.slice aw ws.length cw, .slice ar rs.length cr], .slice la (orderOf g).length lc, .int .i64 1] (by go_simp) (fun v w' => HdP wA hs (orderOf g) v w') (unhide HcH _ hb3A) ?_; rintro vH wH ⟨ha, hc, rfl, hHH, hbH⟩; have hsH := hbH.size; have hOH := (hOA.below hbH).mono hbH.size; have hVH := (hVA.below hbH).mono hbH.size; have hb3Z : Below w3.heap.size w3 wH := hb3A.trans (hbH.mono hsA))
    | (refine step_call rfl 28 #[.agg #[.slice ao g.objs.length co, .slice ar2 g.roots.length cr2], .slice la (orderOf g).length lc] (by go_simp) (fun v w' => RnP wH g v w') (unhide HcA _ hb3H) ?_; rintro vA wA ⟨a6, c6, r6, d6, rfl, hOA1, hVA1, hbA1⟩; have hsA1 := hbA1.size; have hHA := (hHH0.below hbA1).mono hbA1.size; have hb3Z : Below w3.heap.size w3 wA := hb3H.trans (hbA1.mono hsH0))
    | (refine step_call rfl 27 #[.agg #[.slice a6 (canonG g).objs.length c6, .slice r6 (canonG g).roots.length d6], .slice ha (orderOf g).length hc] (by go_simp) (fun v w' => LyP wH (mvL hs fs rs) (mvR fs rs) v w') (unhide HcL _ _ _ _ _ _ _ hOH hVH hHH) ?_; rintro vL w5 ⟨aw', cw', ar', cr', rfl, h1, h2, hbL⟩; have hbZ : Below w3.heap.size w3 w5 := hb3Z.trans (hbL.mono hb3Z.size); have hs5 := hbZ.size; have hrb5 : w5.heap[w.heap.size + 1]? = some (.cells #[.slice none 0 0, .slice none 0 0] 24) := (hbZ.block (w.heap.size + 1) (by omega)).trans (unhide Hr0); have r0 : w5.cell? ⟨w.heap.size + 1, 0, none⟩ = some (.slice none 0 0) := by { rw [cell_of_row w5 (w.heap.size + 1) 0 _ 24 (0, 0) hrb5]; rfl }; have r1 : w5.cell? ⟨w.heap.size + 1, 1, none⟩ = some (.slice none 0 0) := by { rw [cell_of_row w5 (w.heap.size + 1) 1 _ 24 (0, 0) hrb5]; rfl }; have z0 : w5.frozen? ⟨w.heap.size + 1, 0, none⟩ = false := frozen_of_row _ _ 0 _ 24 hrb5; have z1 : w5.frozen? ⟨w.heap.size + 1, 1, none⟩ = false := frozen_of_row _ _ 1 _ 24 hrb5; have hl5 : w.heap.size + 1 < w5.heap.size := by omega)
    | (refine step_call rfl 27 #[.agg #[.slice a6 (canonG g).objs.length c6, .slice r6 (canonG g).roots.length d6], .slice ha (orderOf g).length hc] (by go_simp) (fun v w' => LyP wA (mvL hs fs rs) (mvR fs rs) v w') (unhide HcL _ _ _ _ _ _ _ hOA1 hVA1 hHA) ?_; rintro vL w5 ⟨aw', cw', ar', cr', rfl, h1, h2, hbL⟩; have hbZ : Below w3.heap.size w3 w5 := hb3Z.trans (hbL.mono hb3Z.size); have hs5 := hbZ.size; have hrb5 : w5.heap[w.heap.size + 1]? = some (.cells #[.slice none 0 0, .slice none 0 0] 24) := (hbZ.block (w.heap.size + 1) (by omega)).trans (unhide Hr0); have r0 : w5.cell? ⟨w.heap.size + 1, 0, none⟩ = some (.slice none 0 0) := by { rw [cell_of_row w5 (w.heap.size + 1) 0 _ 24 (0, 0) hrb5]; rfl }; have r1 : w5.cell? ⟨w.heap.size + 1, 1, none⟩ = some (.slice none 0 0) := by { rw [cell_of_row w5 (w.heap.size + 1) 1 _ 24 (0, 0) hrb5]; rfl }; have z0 : w5.frozen? ⟨w.heap.size + 1, 0, none⟩ = false := frozen_of_row _ _ 0 _ 24 hrb5; have z1 : w5.frozen? ⟨w.heap.size + 1, 1, none⟩ = false := frozen_of_row _ _ 1 _ 24 hrb5; have hl5 : w.heap.size + 1 < w5.heap.size := by omega))
  all_goals
    have hnn : NoNum w5 (w.heap.size + 1) := ⟨_, 24, hrb5, fun i k x => by
      match i with
      | 0 => simp
      | 1 => simp
      | i + 2 => simp⟩
    have Hfin : Hid (∀ W, W = (w5.setCell ⟨w.heap.size + 1, 0, none⟩ (.slice aw' (mvL hs fs rs).length cw')).setCell ⟨w.heap.size + 1, 1, none⟩ (.slice ar' (mvR fs rs).length cr') → RMk (mvL hs fs rs) (mvR fs rs) (.returned (.agg #[.slice aw' (mvL hs fs rs).length cw', .slice ar' (mvR fs rs).length cr'])) W ∧ Below w.heap.size w W) := fun W h => by
      subst h
      have hsz5 : ((w5.setCell ⟨w.heap.size + 1, 0, none⟩ (.slice aw' (mvL hs fs rs).length cw')).setCell ⟨w.heap.size + 1, 1, none⟩ (.slice ar' (mvR fs rs).length cr')).heap.size = w5.heap.size := by simp [World.setCell]
      have hn1 := hnn.set (j := 0) (u := .slice aw' (mvL hs fs rs).length cw') (by simp)
      refine ⟨⟨aw', cw', ar', cr', rfl, ?_, ?_⟩, ((hbw3.trans (hbZ.mono (by omega))).setCell (p := ⟨w.heap.size + 1, 0, none⟩) (by simp) _).setCell (p := ⟨w.heap.size + 1, 1, none⟩) (by simp) _⟩
      · rw [hsz5]; exact hn1.wds (hnn.wds h1 _) _
      · rw [hsz5]; exact hn1.wds (hnn.wds h2 _) _
    clear h1 h2 hnn hrb5
    generalize (mvL hs fs rs).length = n at *
    generalize (mvR fs rs).length = m at *
    go_wp2
    exact bodyPost_ret (v := .agg #[.slice aw' n cw', .slice ar' m cr']) (by simp [results, Try.results9, go_sem, r0, r1]) rfl (unhide Hfin _ rfl)

end Go.Proofs.Ytklihkalcmchpaa

/- Walks: MoveTells. -/
namespace Go.Proofs.Ytklihkalcmchpaa
set_option linter.unusedSimpArgs false
set_option linter.unusedVariables false
open Go.RowKit Go.Shelf

theorem CpRes.use {base : Nat} {ws rs : List Int} {e : Ending} {W : World} (h : CpRes base ws rs e W) : (arenaE ws rs ≠ 0 ∧ e = .returned (.tuple #[.agg #[.slice none 0 0, .slice none 0 0], .int .i64 (arenaE ws rs)])) ∨
    (arenaE ws rs = 0 ∧ ∃ hs fs a c a' c', Arn hs fs rs ∧ ws = joinW hs fs ∧ e = .returned (.tuple #[.agg #[.slice a (mvL hs fs rs).length c, .slice a' (mvR fs rs).length c'], .int .i64 0]) ∧ Wds W.heap.size W a (mvL hs fs rs) ∧ Wds W.heap.size W a' (mvR fs rs) ∧ (mvL hs fs rs).length ≤ c) := by
  rcases h with h | ⟨hE, hs, fs, a, c, a', c', h1, h2, h3, h4, h5, h6⟩
  · exact .inl h
  · exact .inr ⟨hE, hs, fs, a, c, a', c', h1, h2, by rw [h3]; simp [mvR], h4.1, h6.1, h5⟩

set_option maxRecDepth 100000 in
set_option maxHeartbeats 8000000 in
theorem mtells_c (aw ar : Option Addr) (cw cr : Nat) (ws rs : List Int) (w : World) (hW : Wds w.heap.size w aw ws) (hR : Wds w.heap.size w ar rs) (hUW : U64 ws) (hUR : U64 rs) (hcap : ws.length ≤ cw) :
    Calls Try.prog 3 #[.agg #[.slice aw ws.length cw, .slice ar rs.length cr]] w fun e w' => e = .returned (.bool true) ∧ Below w.heap.size w w' := by
  obtain ⟨W1, hW1⟩ : ∃ W1, w.alloc (.cells #[.slice aw ws.length cw, .slice ar rs.length cr] 24) = W1 := ⟨_, rfl⟩
  have hb1 : Below w.heap.size w W1 := by rw [← hW1]; exact (Below.refl w.heap.size w).alloc (Nat.le_refl _) _
  have hs1 : w.heap.size < W1.heap.size := by rw [← hW1]; simp
  have g0 : W1.cell? ⟨w.heap.size, 0, none⟩ = some (.slice aw ws.length cw) := by rw [← hW1]; simp [go_sem]
  have g1 : W1.cell? ⟨w.heap.size, 1, none⟩ = some (.slice ar rs.length cr) := by rw [← hW1]; simp [go_sem]
  have Hc1 := hide (copy_c aw ar cw cr ws rs w.heap.size W1 (hW.below hb1) (hR.below hb1) hUW hUR (by omega) hcap)
  go_enter Try.func3, Try.ntmps3
  go_wp2_with fail
  refine (unhide Hc1).mono ?_
  rintro e w2 ⟨hres, hb2⟩
  have hs2 := hb2.size
  have hbw2 : Below w.heap.size w w2 := hb1.trans (hb2.mono (by omega))
  replace g0 := (hb2.cell (p := ⟨w.heap.size, 0, none⟩) hs1).trans g0
  replace g1 := (hb2.cell (p := ⟨w.heap.size, 1, none⟩) hs1).trans g1
  have hl2 : w.heap.size < w2.heap.size := by omega
  clear hb1 hb2 Hc1 hW1
  rcases hres.use with ⟨hE, he⟩ | ⟨hE, hs, fs, ba, bc, ba', bc', hA, hws, he, hBL, hBR, _⟩
  · subst he
    obtain ⟨W2, hW2⟩ : ∃ W2, w2.alloc (.cells #[.slice none 0 0, .slice none 0 0] 24) = W2 := ⟨_, rfl⟩
    have hb2' : Below w2.heap.size w2 W2 := by rw [← hW2]; exact (Below.refl _ w2).alloc (Nat.le_refl _) _
    have hs2' : w2.heap.size < W2.heap.size := by rw [← hW2]; simp
    have k0 : W2.cell? ⟨w2.heap.size, 0, none⟩ = some (.slice none 0 0) := by rw [← hW2]; simp [go_sem]
    have k1 : W2.cell? ⟨w2.heap.size, 1, none⟩ = some (.slice none 0 0) := by rw [← hW2]; simp [go_sem]
    have hbW2 : Below w.heap.size w W2 := hbw2.trans (hb2'.mono (by omega))
    have hwW2 : w.heap.size < W2.heap.size := by omega
    have Hc3 := hide (rcheck_c aw ar cw cr ws rs w.heap.size W2 (hW.below hbW2) (hR.below hbW2) hUW hUR (by omega))
    generalize hAE : arenaE ws rs = AE at *
    have d0 : (AE != 0) = true := by simpa using hE
    have d1 : (AE == AE) = true := by simp
    have HW2 := hide hW2
    clear hAE hE hbw2 hW2
    go_wp2_with fail
    rw [unhide HW2]
    refine (unhide Hc3).mono ?_
    rintro e w4 ⟨he, hb4⟩
    subst he
    have hs4 := hb4.size
    have hbw4 : Below w.heap.size w w4 := hbW2.trans (hb4.mono (by omega))
    replace k0 := (hb4.cell (p := ⟨w2.heap.size, 0, none⟩) hs2').trans k0
    replace k1 := (hb4.cell (p := ⟨w2.heap.size, 1, none⟩) hs2').trans k1
    have hw4' : w2.heap.size < w4.heap.size := by omega
    have Hc7 : Hid (Calls Try.prog 8 #[.agg #[.slice none 0 0, .slice none 0 0], .agg #[.slice none 0 0, .slice none 0 0]] w4 fun e w' => e = .returned (.bool true) ∧ Below w4.heap.size w4 w') := by
      have := arenas_eq_c none none none none 0 0 0 0 [] [] [] [] w4.heap.size w4 (wds_nil rfl) (wds_nil rfl) (wds_nil rfl) (wds_nil rfl) (Nat.le_refl _)
      simp only [decide_true, Bool.and_self] at this
      exact this
    clear Hc3 hb4 HW2 hb2'
    go_wp2_with fail
    refine (unhide Hc7).mono ?_
    rintro e w7 ⟨he, hb7⟩
    subst he
    clear Hc7
    go_wp2
    go_ret
    exact ⟨rfl, hbw4.trans (hb7.mono (by omega))⟩
  · subst he
    have HA := hide hA
    have Hws := hide hws
    have HE := hide hE
    obtain ⟨W2, hW2⟩ : ∃ W2, w2.alloc (.cells #[.slice ba (mvL hs fs rs).length bc, .slice ba' (mvR fs rs).length bc'] 24) = W2 := ⟨_, rfl⟩
    have hb2' : Below w2.heap.size w2 W2 := by rw [← hW2]; exact (Below.refl _ w2).alloc (Nat.le_refl _) _
    have hs2' : w2.heap.size < W2.heap.size := by rw [← hW2]; simp
    have k0 : W2.cell? ⟨w2.heap.size, 0, none⟩ = some (.slice ba (mvL hs fs rs).length bc) := by rw [← hW2]; simp [go_sem]
    have k1 : W2.cell? ⟨w2.heap.size, 1, none⟩ = some (.slice ba' (mvR fs rs).length bc') := by rw [← hW2]; simp [go_sem]
    replace g0 := (hb2'.cell (p := ⟨w.heap.size, 0, none⟩) hl2).trans g0
    replace g1 := (hb2'.cell (p := ⟨w.heap.size, 1, none⟩) hl2).trans g1
    have hbW2 : Below w.heap.size w W2 := hbw2.trans (hb2'.mono (by omega))
    have hwW2 : w.heap.size < W2.heap.size := by omega
    have Hc3 := hide (rcheck_c aw ar cw cr ws rs w.heap.size W2 (hW.below hbW2) (hR.below hbW2) hUW hUR (by omega))
    rw [hE] at Hc3
    have HBL := hide ((hBL.below hb2').mono (Nat.le_of_lt hs2'))
    have HBR := hide ((hBR.below hb2').mono (Nat.le_of_lt hs2'))
    clear hA hws hE hBL hBR hbw2
    generalize hBLe : mvL hs fs rs = BL at *
    generalize hBRe : mvR fs rs = BR at *
    have HBLe := hide hBLe
    have HBRe := hide hBRe
    clear hBLe hBRe
    go_wp2_with fail
    refine (unhide Hc3).mono ?_
    rintro e w4 ⟨he, hb4⟩
    subst he
    have hs4 := hb4.size
    have hbw4 : Below w.heap.size w w4 := hbW2.trans (hb4.mono (by omega))
    replace g0 := (hb4.cell (p := ⟨w.heap.size, 0, none⟩) hwW2).trans g0
    replace g1 := (hb4.cell (p := ⟨w.heap.size, 1, none⟩) hwW2).trans g1
    replace k0 := (hb4.cell (p := ⟨w2.heap.size, 0, none⟩) hs2').trans k0
    replace k1 := (hb4.cell (p := ⟨w2.heap.size, 1, none⟩) hs2').trans k1
    have hw4 : w.heap.size < w4.heap.size := by omega
    have hw4' : w2.heap.size < w4.heap.size := by omega
    have HB4 := hide (((unhide HBL).below hb4).mono hs4)
    have HR4 := hide (((unhide HBR).below hb4).mono hs4)
    have Hc9 : Hid (Calls Try.prog 9 #[.agg #[.slice aw ws.length cw, .slice ar rs.length cr]] w4.drew fun e w' => RMk BL BR e w' ∧ Below w4.heap.size w4 w') := by
      have := rmove_c aw ar cw cr ws rs hs fs w.heap.size w4.drew (hW.below hbw4.drew) (hR.below hbw4.drew) hUW hUR (by show w.heap.size ≤ w4.heap.size; omega) (unhide HA) (unhide Hws)
      rw [unhide HBLe, unhide HBRe] at this
      refine this.mono ?_
      rintro e w' ⟨h1, h2⟩
      exact ⟨h1, (Below.refl _ w4).drew.trans h2⟩
    have Hc8 : Hid (∀ W xa xc ya yc, Below w4.heap.size w4 W → Wds W.heap.size W xa BL → Wds W.heap.size W ya BR → Calls Try.prog 8 #[.agg #[.slice ba BL.length bc, .slice ba' BR.length bc'], .agg #[.slice xa BL.length xc, .slice ya BR.length yc]] W fun e w' => e = .returned (.bool true) ∧ Below W.heap.size W w') := fun W xa xc ya yc hbW h1 h2 => by
      have := arenas_eq_c ba ba' xa ya bc bc' xc yc BL BR BL BR W.heap.size W (((unhide HB4).below hbW).mono hbW.size) (((unhide HR4).below hbW).mono hbW.size) h1 h2 (Nat.le_refl _)
      simp only [decide_true, Bool.and_self] at this
      exact this
    clear Hc3 hb4 hW2 hb2' HBL HBR HB4 HR4 HA Hws HBLe HBRe HE hW hR
    go_wp2
    go_region_with (first
      | (go_at_call 9; go_must (refine (unhide Hc9).mono ?_); go_must (rintro e w5 ⟨⟨xa, xc, ya, yc, he, hx, hy⟩, hb5⟩; subst he; have hs5 := hb5.size; have k05 := (hb5.cell (p := ⟨w2.heap.size, 0, none⟩) hw4').trans k0; have k15 := (hb5.cell (p := ⟨w2.heap.size, 1, none⟩) hw4').trans k1; have hl5 : w2.heap.size < w5.heap.size := Nat.lt_of_lt_of_le hw4' hs5; have Hca := hide (unhide Hc8 w5 xa xc ya yc hb5 hx hy); clear hx hy))
      | (go_at_call 8; go_must (refine (unhide Hca).mono ?_); go_must (rintro e w6 ⟨he, hb6⟩; subst he; have hb6' : Below w4.heap.size w4 w6 := hb5.trans (hb6.mono hs5))))
    all_goals
      go_wp2
      go_ret
      exact ⟨rfl, hbw4.trans (hb6'.mono (by omega))⟩

end Go.Proofs.Ytklihkalcmchpaa

/- Walks: the law's size. -/
namespace Go.Proofs.Ytklihkalcmchpaa
set_option linter.unusedSimpArgs false
set_option linter.unusedVariables false
open Go.RowKit Go.Shelf

theorem fO_len {hs : List Int} {fs : List (List Int)} {rs : List Int} (h : Arn hs fs rs) {o : Nat} (ho : o < (readG fs rs).objs.length) : (readG fs rs).objs[o].length = (fO fs (o : Int)).length := by
  have hl := readG_len fs rs
  have hi : o < fs.length := by omega
  simp [readG, fO, List.getD_eq_getElem?_getD, hi]

theorem reach_rng {g : Gr} {x : Int} (h : x ∈ reachK g g.objs.length) : 0 ≤ x ∧ x < g.objs.length := by
  unfold reachK at h
  obtain ⟨j, hj, rfl⟩ := List.mem_map.1 h
  have := List.mem_range.1 (List.mem_filter.1 hj).1
  omega

set_option maxRecDepth 100000 in
set_option maxHeartbeats 2000000 in
theorem size_c (aw ar : Option Addr) (cw cr : Nat) (ws rs : List Int) (hs : List Int) (fs : List (List Int)) (B : Nat) (w : World) (hW : Wds B w aw ws) (hR : Wds B w ar rs) (hUW : U64 ws) (hUR : U64 rs) (hB : B ≤ w.heap.size) (hA : Arn hs fs rs) (hws : ws = joinW hs fs) :
    Calls Try.prog 16 #[.agg #[.slice aw ws.length cw, .slice ar rs.length cr]] w fun e w' => e = .returned (.int .i64 (tot (mF fs rs) : Nat)) ∧ Below w.heap.size w w' := by
  have hsp : splitR ws = some fs := by rw [hws]; exact fit_split hA.fit
  have h256 : ws.length ≤ 256 := by rw [hws, joinW_len _ _ hA.fit.len]; exact hA.n256
  have hb1 : Below w.heap.size w (w.alloc (.cells #[.slice aw ws.length cw, .slice ar rs.length cr] 24)) := (Below.refl w.heap.size w).alloc (Nat.le_refl _) _
  have Hc1 := hide (rread_c aw ar cw cr ws rs fs B _ (hW.below (hb1.mono hB)) (hR.below (hb1.mono hB)) hUW hUR (by simp; omega) h256 hA.n8 hsp)
  have HA := hide hA
  have hG := good_read hA
  have HG := hide hG
  have Hsz := hide (size_eq hA)
  have Hb1 := hide hb1
  clear hA hws hsp hG hb1
  go_enter Try.func16, Try.ntmps16
  go_wp2_with fail
  refine (unhide Hc1).mono ?_
  rintro e w2 ⟨⟨ao, co, ar2, cr2, he, hO, hV⟩, hb2⟩
  subst he
  have hs2 := hb2.size
  simp only [World.size_alloc] at hs2 hb2
  have hbw2 : Below w.heap.size w w2 := (unhide Hb1).trans (hb2.mono (by omega))
  obtain ⟨W2, hW2⟩ : ∃ W2, w2.alloc (.cells #[.slice ao (readG fs rs).objs.length co, .slice ar2 (readG fs rs).roots.length cr2] 36) = W2 := ⟨_, rfl⟩
  have hb2' : Below w2.heap.size w2 W2 := by rw [← hW2]; exact (Below.refl _ _).alloc (Nat.le_refl _) _
  have hs2' : w2.heap.size < W2.heap.size := by rw [← hW2]; simp
  have k0 : W2.cell? ⟨w2.heap.size, 0, none⟩ = some (.slice ao (readG fs rs).objs.length co) := by rw [← hW2]; simp [go_sem]
  have k1 : W2.cell? ⟨w2.heap.size, 1, none⟩ = some (.slice ar2 (readG fs rs).roots.length cr2) := by rw [← hW2]; simp [go_sem]
  have hbW2 : Below w.heap.size w W2 := hbw2.trans (hb2'.mono (by omega))
  have HO := hide ((hO.below hb2').mono (B' := W2.heap.size) (by omega))
  have HV := hide ((hV.below hb2').mono (B' := W2.heap.size) (by omega))
  have Hc2 := hide (refReach_c ao ar2 co cr2 (readG fs rs) W2.heap.size W2 (unhide HO) (unhide HV) (Nat.le_refl _) (unhide HG))
  clear Hc1 hO hV hb2 hb2' hbw2 Hb1
  go_wp2_with fail
  refine (unhide Hc2).mono ?_
  rintro e w3 ⟨la, lc, he, hI, hb3⟩
  subst he
  have hs3 := hb3.size
  replace k0 := (hb3.cell (p := ⟨w2.heap.size, 0, none⟩) hs2').trans k0
  have hbw3 : Below w.heap.size w w3 := hbW2.trans (hb3.mono (by omega))
  have hl3 : w2.heap.size < w3.heap.size := by omega
  have HO3 := hide ((unhide HO).below hb3)
  have HI3 := hide hI
  have Hrg := hide (fun x h => reach_rng (g := readG fs rs) (x := x) h)
  have Hfl := hide (fun o ho => fO_len (unhide HA) (o := o) ho)
  have h5 : ∀ k, tot (((reachK (readG fs rs) (readG fs rs).objs.length).take k).map (fO fs)) ≤ 256 := fun k => by
    have h1 := tot_take_le ((reachK (readG fs rs) (readG fs rs).objs.length).map (fO fs)) k
    rw [← List.map_take] at h1
    have h2 := unhide Hsz
    unfold sizeR at h2
    have := mF_256 (unhide HA)
    omega
  have H5 := hide h5
  have hrl : (reachK (readG fs rs) (readG fs rs).objs.length).length ≤ 256 := by
    have h1 := tot_len ((reachK (readG fs rs) (readG fs rs).objs.length).map (fO fs))
    have h2 := h5 (reachK (readG fs rs) (readG fs rs).objs.length).length
    rw [List.take_length] at h2
    simp at h1
    omega
  have hn24 := (unhide HG).n24
  have Hn4 := hide (unhide HG).n4
  clear hW2 hb3 hI Hc2 HO HV hW hR hUW hUR k1 h5 HA HG
  generalize reachK (readG fs rs) (readG fs rs).objs.length = R at *
  generalize readG fs rs = g at *
  go_wp2
  go_loopw [3, 12] (fun s i wr => ∃ k : Nat, k ≤ R.length ∧ i = .int .i64 k ∧ s = .int .i64 (tot ((R.take k).map (fO fs)) : Nat) ∧ Below w3.heap.size w3 wr) (fun _ i _ => R.length - (intOf i).toNat)
  case atStart => exact ⟨0, Nat.zero_le _, rfl, by simp [tot], Below.refl _ _⟩
  case round =>
    obtain ⟨k, hk, rfl, rfl, hb⟩ := hrel
    have hsz := hb.size
    have k0r := (hb.cell (p := ⟨w2.heap.size, 0, none⟩) hl3).trans k0
    have hlr : w2.heap.size < wr.heap.size := by omega
    by_cases hlt : k < R.length
    · obtain ⟨b1, o1, rfl, hB1, hc1⟩ := ((unhide HI3).below hb).at hlt
      have hro := unhide Hrg _ (List.getElem_mem hlt)
      have HT : Hid (tot ((R.take (k + 1)).map (fO fs)) = tot ((R.take k).map (fO fs)) + ((fO fs R[k]).length + 1)) := by
        show _ = _
        rw [List.take_succ_eq_append_getElem hlt, List.map_append, List.map_cons, List.map_nil, tot_snoc]
      have h5k := unhide H5 k
      generalize R[k] = o at *
      obtain ⟨o, rfl⟩ := Int.eq_ofNat_of_zero_le hro.1
      have hoN : o < g.objs.length := by omega
      obtain ⟨b, off, ai, ci, rfl, hbB, hcb, hva⟩ := ((unhide HO3).below (hb.mono (by omega))).at hoN
      have hfl := unhide Hfl o hoN
      have h4 : (g.objs[o]).length ≤ 4 := unhide Hn4 _ (List.getElem_mem hoN)
      generalize g.objs[o] = f at *
      have HT2 : Hid (tot ((R.take (k + 1)).map (fO fs)) = tot ((R.take k).map (fO fs)) + 1 + f.length) := by show _ = _; rw [unhide HT, hfl]; omega
      clear HT hfl hva
      have hoI : (o : Int) < (g.objs.length : Int) := by omega
      generalize tot ((R.take k).map (fO fs)) = T at *
      generalize f.length = fl at *
      have hw1 : IntKind.i64.wrap ((T : Int) + 1) = (T : Int) + 1 := by rw [IntKind.wrap_i64]; omega
      have hw2 : IntKind.i64.wrap ((T : Int) + 1 + (fl : Int)) = (T : Int) + 1 + (fl : Int) := by rw [IntKind.wrap_i64]; omega
      have hq1 : b1 < wr.heap.size := by omega
      have hq2 : b < wr.heap.size := by omega
      go_wp2
      go_roundw
      case rel => exact ⟨k + 1, by omega, by go_num, by rw [unhide HT2]; go_num, hb⟩
      case measure => simp [intOf]; omega
    · obtain rfl : k = R.length := by omega
      have Hf : Hid (tot ((R.take R.length).map (fO fs)) = tot (mF fs rs)) := by show _ = _; rw [List.take_length]; exact unhide Hsz
      go_wp2
      go_ret
      rw [unhide Hf]
      exact ⟨rfl, hbw3.trans (hb.mono (by omega))⟩

end Go.Proofs.Ytklihkalcmchpaa
