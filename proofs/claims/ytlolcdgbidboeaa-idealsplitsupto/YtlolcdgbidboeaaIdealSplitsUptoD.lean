/- Merged texts: Je Ka Kb Kc Kd Ke Kf Kg Kh Ki Kj Rb Rc Rd. -/
import Derived.Test.YtlolcdgbidboeaaProg
import Derived.Test.YtlolcdgbidboeaaIdealSplitsUptoC
import Derived.BigQuiet
import Derived.Deep.QuietTactic

/- Walks: Play, where nothing is wrong. -/
namespace Go.Proofs.Ytlolcdgbidboeaa
set_option linter.unusedSimpArgs false
set_option linter.unusedVariables false
open Go.RowKit Go.Shelf

theorem PM.row_out {W : World} {N N' mb ob : Nat} {vo : Value} {fb : List Value} {m : Mm} (h : PM W N mb ob vo fb m) {v : Value} {n : Nat} {xs : List Value} (hr : W.ownsRow N' 55 3 v n xs) : ∀ k, v.ownBlock = some k → ¬ PS mb ob vo fb k := by
  intro k hk
  rcases hr.2 with ⟨rfl, _⟩ | ⟨g, cap, cur, rfl, _, hg, _⟩
  · cases hk
  · have hk' : some g = some k := hk
    injection hk' with hk'
    subst hk'
    exact h.ne hg (by decide) (by decide) (by decide) (by decide)

theorem playM_snoc (m : Mm) {ds : List Dd} {k : Nat} (hk : k < ds.length) : playM m (ds.take (k + 1)) = ((playM m (ds.take k)).1 ++ [(stepM (playM m (ds.take k)).2 ds[k]).1], (stepM (playM m (ds.take k)).2 ds[k]).2) := by
  rw [List.take_succ_eq_append_getElem hk, playM_append]
  rfl

theorem Try.info55o : (Try.prog.info? 55).map (fun i => (i.zero, i.size, i.bytes)) = some (some (.agg #[.int .i64 0, .bool false, .int .i64 0]), 3, 24) := by kernel_rfl

theorem cell_three_at (w : World) (x y z : Value) (t : TypeId) (m : Nat) (hm : m = w.heap.size) : ∀ j u, [x, y, z][j]? = some u → (w.alloc (.cells #[x, y, z] t)).cell? ((⟨m, 0, none⟩ : Addr).add j) = some u := by
  subst hm
  intro j u hj
  have hadd : (⟨w.heap.size, 0, none⟩ : Addr).add j = ⟨w.heap.size, 0 + j, none⟩ := by unfold Addr.add; split <;> simp_all
  rw [hadd, Nat.zero_add]
  have hg := heap_alloc_new w (.cells #[x, y, z] t)
  rw [cell_of_row _ _ j _ t (0, 0) hg]
  simpa using hj

theorem PyRes.mk0 {g : Gr} {ds : List Dd} {B0 : Nat} {W : World} {C : List Ou} {H : Gr} {ac : Option Addr} {cc : Nat} {ao : Option Addr} {co : Nat} {ar : Option Addr} {cr : Nat} (hl : C.length = ds.length) (hE : playE g ds.length = 0) (hp : PyIs g ds C H) (hcc : ds.length ≤ cc) (h : OusF B0 W ac C ∧ ObjsF B0 W ao H.objs ∧ ValsF B0 W ar H.roots) :
    PyRes g ds B0 (.returned (.tuple #[.slice ac ds.length cc, .agg #[.slice ao H.objs.length co, .slice ar H.roots.length cr], .int .i64 0])) W :=
  ⟨C, H, ac, cc, ao, co, ar, cr, by rw [hE, hl], h.1, h.2.1, h.2.2, hp, by omega⟩

/-- The three results, behind the last stores: where the box was laid last. -/
theorem fin_a {B0 N N1 : Nat} {w wr w6 : World} {b : Nat} {u0 u1 : Value} {x : Obj} {ac ao ar : Option Addr} {C : List Ou} {H : Gr} (hOu : OusF N wr ac C) (hb6 : Below wr.heap.size wr w6) (hbw : Below w.heap.size w wr) (hO : ObjsF N1 w6 ao H.objs) (hV : ValsF N1 w6 ar H.roots) (hN : b < N) (hN1 : b < N1) (hb : w.heap.size ≤ b) (h0 : B0 ≤ N) (h1 : B0 ≤ N1) (hl : b < wr.heap.size) :
    (OusF B0 ((((w6.setCell ⟨b, 0, none⟩ u0).setCell ⟨b, 1, none⟩ u1).alloc x).drew) ac C ∧ ObjsF B0 ((((w6.setCell ⟨b, 0, none⟩ u0).setCell ⟨b, 1, none⟩ u1).alloc x).drew) ao H.objs ∧ ValsF B0 ((((w6.setCell ⟨b, 0, none⟩ u0).setCell ⟨b, 1, none⟩ u1).alloc x).drew) ar H.roots) ∧ Below w.heap.size w ((((w6.setCell ⟨b, 0, none⟩ u0).setCell ⟨b, 1, none⟩ u1).alloc x).drew) := by
  have hd : Below ((w6.setCell ⟨b, 0, none⟩ u0).setCell ⟨b, 1, none⟩ u1).heap.size ((w6.setCell ⟨b, 0, none⟩ u0).setCell ⟨b, 1, none⟩ u1) ((((w6.setCell ⟨b, 0, none⟩ u0).setCell ⟨b, 1, none⟩ u1).alloc x).drew) := ((Below.refl _ _).alloc (Nat.le_refl _) x).drew
  have hs : ((w6.setCell ⟨b, 0, none⟩ u0).setCell ⟨b, 1, none⟩ u1).heap.size = w6.heap.size := by simp [World.setCell]
  refine ⟨⟨((((hOu.below hb6).setCell (p := ⟨b, 0, none⟩) hN u0).setCell (p := ⟨b, 1, none⟩) hN u1).below hd).base h0, (((hO.setCell (p := ⟨b, 0, none⟩) hN1 u0).setCell (p := ⟨b, 1, none⟩) hN1 u1).below hd).base h1, (((hV.setCell (p := ⟨b, 0, none⟩) hN1 u0).setCell (p := ⟨b, 1, none⟩) hN1 u1).below hd).base h1⟩, ?_⟩
  have hw6 : Below w.heap.size w w6 := hbw.trans (hb6.mono hbw.size)
  exact ((hw6.setCell (p := ⟨b, 0, none⟩) hb u0).setCell (p := ⟨b, 1, none⟩) hb u1).trans (hd.mono (by rw [hs]; exact hw6.size))

/-- The three results, behind the last stores: where the box was laid first. -/
theorem fin_b {B0 N N1 : Nat} {w wr w6 : World} {b : Nat} {u0 u1 : Value} {ac ao ar : Option Addr} {C : List Ou} {H : Gr} (hOu : OusF N wr ac C) (hb6 : Below wr.heap.size wr w6) (hbw : Below w.heap.size w wr) (hO : ObjsF N1 w6 ao H.objs) (hV : ValsF N1 w6 ar H.roots) (hN : b < N) (hN1 : wr.heap.size < N1) (hb : w.heap.size ≤ b) (h0 : B0 ≤ N) (h1 : B0 ≤ N1) (hl : b < wr.heap.size) :
    (OusF B0 (((((w6.setCell ⟨wr.heap.size, 0, none⟩ u0).setCell ⟨wr.heap.size, 1, none⟩ u1).setCell ⟨b, 0, none⟩ u0).setCell ⟨b, 1, none⟩ u1).drew) ac C ∧ ObjsF B0 (((((w6.setCell ⟨wr.heap.size, 0, none⟩ u0).setCell ⟨wr.heap.size, 1, none⟩ u1).setCell ⟨b, 0, none⟩ u0).setCell ⟨b, 1, none⟩ u1).drew) ao H.objs ∧ ValsF B0 (((((w6.setCell ⟨wr.heap.size, 0, none⟩ u0).setCell ⟨wr.heap.size, 1, none⟩ u1).setCell ⟨b, 0, none⟩ u0).setCell ⟨b, 1, none⟩ u1).drew) ar H.roots) ∧ Below w.heap.size w (((((w6.setCell ⟨wr.heap.size, 0, none⟩ u0).setCell ⟨wr.heap.size, 1, none⟩ u1).setCell ⟨b, 0, none⟩ u0).setCell ⟨b, 1, none⟩ u1).drew) := by
  have hd : ∀ W : World, Below W.heap.size W W.drew := fun W => (Below.refl _ _).drew
  have hm : b < N1 := by omega
  have hb6' : Below wr.heap.size wr ((w6.setCell ⟨wr.heap.size, 0, none⟩ u0).setCell ⟨wr.heap.size, 1, none⟩ u1) := (hb6.setCell (p := ⟨wr.heap.size, 0, none⟩) (Nat.le_refl _) u0).setCell (p := ⟨wr.heap.size, 1, none⟩) (Nat.le_refl _) u1
  refine ⟨⟨((((hOu.below hb6').setCell (p := ⟨b, 0, none⟩) hN u0).setCell (p := ⟨b, 1, none⟩) hN u1).below (hd _)).base h0, (((((hO.setCell (p := ⟨wr.heap.size, 0, none⟩) hN1 u0).setCell (p := ⟨wr.heap.size, 1, none⟩) hN1 u1).setCell (p := ⟨b, 0, none⟩) hm u0).setCell (p := ⟨b, 1, none⟩) hm u1).below (hd _)).base h1, (((((hV.setCell (p := ⟨wr.heap.size, 0, none⟩) hN1 u0).setCell (p := ⟨wr.heap.size, 1, none⟩) hN1 u1).setCell (p := ⟨b, 0, none⟩) hm u0).setCell (p := ⟨b, 1, none⟩) hm u1).below (hd _)).base h1⟩, ?_⟩
  have hw6 : Below w.heap.size w _ := hbw.trans (hb6'.mono hbw.size)
  exact ((hw6.setCell (p := ⟨b, 0, none⟩) hb u0).setCell (p := ⟨b, 1, none⟩) hb u1).drew

set_option maxRecDepth 100000 in
set_option maxHeartbeats 4000000 in
theorem play_good (ao ar : Option Addr) (co cr : Nat) (g : Gr) (a : Option Addr) (c : Nat) (ds : List Dd) (B : Nat) (w : World) (ho : Objs B w ao g.objs) (hr : Vals B w ar g.roots) (hB : B ≤ w.heap.size) (hds : Dos B w a ds) (hc : checkG g = 0) (hl : ds.length ≤ 100) :
    Calls Try.prog 6 #[.agg #[.slice ao g.objs.length co, .slice ar g.roots.length cr], .slice a ds.length c] w fun e w' => PyRes g ds w.heap.size e w' ∧ Below w.heap.size w w' := by
  have hG := good_of_check hc
  have hn24 := len_of_check hc
  have h8 := hG.n8
  have H4 := hide hG.n4
  have HG := hide hG
  have hb1 := ((Below.refl w.heap.size w).alloc (Nat.le_refl _) (.cells #[.slice ao g.objs.length co, .slice ar g.roots.length cr] 25)).alloc (by simp) (.cells #[.slice none 0 0, .slice none 0 0] 25)
  have dl : decide (100 < (ds.length : Int)) = false := by simp; omega
  have Hcc := hide hc
  clear hc hG
  go_enter Try.func6, Try.ntmps6
  go_wp2_with fail
  refine (check_c _ _ _ _ g B _ (ho.below (hb1.mono hB)) (hr.below (hb1.mono hB)) (by simp; omega)).mono ?_
  rintro e w2 ⟨he, hb2⟩
  rw [unhide Hcc] at he
  subst he
  simp only [World.size_alloc] at hb2
  have q0 := hb2.cell (p := ⟨w.heap.size + 1, 0, none⟩) (by simp)
  have q1 := hb2.cell (p := ⟨w.heap.size + 1, 1, none⟩) (by simp)
  have f0 := hb2.frozen (p := ⟨w.heap.size + 1, 0, none⟩) (by simp)
  have f1 := hb2.frozen (p := ⟨w.heap.size + 1, 1, none⟩) (by simp)
  have g0 := hb2.cell (p := ⟨w.heap.size, 0, none⟩) (by simp; omega)
  have g1 := hb2.cell (p := ⟨w.heap.size, 1, none⟩) (by simp; omega)
  simp [go_sem] at q0 q1 f0 f1 g0 g1
  have hs2 := hb2.size
  simp at hs2
  have hbw2 : Below w.heap.size w w2 := hb1.trans (hb2.mono (by omega))
  clear hb1 hb2
  go_wp2_with fail
  refine (copied_c ao co g.objs w2 ((ho.below (hbw2.mono hB)).mono (by omega)) hn24 (unhide H4)).mono ?_
  rintro e w3 ⟨⟨vo, fb, rfl, hO3⟩, hb3⟩
  have hs3 := hb3.size
  have q0 := (hb3.cell (p := ⟨w.heap.size + 1, 0, none⟩) (by simp; omega)).trans q0
  have q1 := (hb3.cell (p := ⟨w.heap.size + 1, 1, none⟩) (by simp; omega)).trans q1
  have f0 := (hb3.frozen (p := ⟨w.heap.size + 1, 0, none⟩) (by simp; omega)).trans f0
  have f1 := (hb3.frozen (p := ⟨w.heap.size + 1, 1, none⟩) (by simp; omega)).trans f1
  have g0 := (hb3.cell (p := ⟨w.heap.size, 0, none⟩) (by simp; omega)).trans g0
  have g1 := (hb3.cell (p := ⟨w.heap.size, 1, none⟩) (by simp; omega)).trans g1
  have hbw3 : Below w.heap.size w w3 := hbw2.trans (hb3.mono (by omega))
  have HO3 := hide hO3
  clear hO3
  go_wp2
  obtain ⟨W4, hW4⟩ : ∃ W4, w3.alloc (.cells #[.iface 42 (.pointer (some ⟨w2.heap.size, 0, none⟩)), .bool false, .int .i64 0, .bool false, .int .i64 0, .bool false, .int .i64 0, .bool false, .int .i64 0, .bool false, .int .i64 0, .bool false, .int .i64 0, .bool false, .int .i64 0, .bool false, .int .i64 0] 51) = W4 := ⟨_, rfl⟩
  rw [hW4]
  have hb4 : Below w3.heap.size w3 W4 := by rw [← hW4]; exact (Below.refl _ _).alloc (Nat.le_refl _) _
  have hbx4 : W4.heap[w3.heap.size]? = some (.cells (.iface 42 (.pointer (some ⟨w2.heap.size, 0, none⟩)) :: cellsV (List.replicate 8 (false, 0))).toArray 51) := by rw [← hW4]; exact heap_alloc_new _ _
  have hP4 : PM W4 w2.heap.size w3.heap.size w2.heap.size vo fb ⟨List.replicate 8 (false, 0), g.objs⟩ := ⟨hbx4, (unhide HO3).below hb4, rfl, hs3⟩
  have hbd : Below W4.heap.size W4 W4.drew := (Below.refl _ _).drew
  have hPd := hP4.below hbd
  have hbw4 : Below w.heap.size w W4 := hbw3.trans (hb4.mono hbw3.size)
  have hvr := (hr.below (hbw4.mono hB)).below (hbd.mono (Nat.le_trans hB hbw4.size))
  have hcp : ∀ ty, (Builtin.copy_ #[23, 23] ty #[.slice (some ⟨w3.heap.size, 1, none⟩) 8 8, .slice ar g.roots.length cr]).run Try.prog W4.drew = .ok (goInt (Nat.min g.roots.length 8)) (W4.drew.setRow w3.heap.size (splice (.iface 42 (.pointer (some ⟨w2.heap.size, 0, none⟩)) :: cellsV (List.replicate 8 (false, 0))) 1 (cellsV g.roots)).toArray) := fun ty =>
    run_copy47 W4.drew ty 51 ar 8 8 g.roots.length cr w3.heap.size 1 _ hPd.box (cellsV g.roots) (by rw [cellsV_len]; show g.roots.length * 2 = min g.roots.length 8 * 2; omega) (fun hpos => by
      obtain ⟨b, off, rfl, _⟩ := hvr.2 (by rintro e; rw [e] at hpos; simp [cellsV] at hpos)
      exact ⟨_, rfl, hvr.cells⟩) (by simp [cellsV_len]; omega) (cellsV_one _)
  have hP5 := pm_start hPd h8
  have hK5 : Below w2.heap.size W4 (W4.drew.setRow w3.heap.size (splice (.iface 42 (.pointer (some ⟨w2.heap.size, 0, none⟩)) :: cellsV (List.replicate 8 (false, 0))) 1 (cellsV g.roots)).toArray) := (hbd.mono (by have := hb4.size; omega)).grown (grown_setRow W4.drew w3.heap.size _) (by show w2.heap.size ≤ W4.heap.size; have := hb4.size; omega) (fun k e => by injection e with e; omega)
  have hl4 : w3.heap.size < W4.heap.size := lt_of_heap hbx4
  have hm4 : w2.heap.size < W4.heap.size := by omega
  have q0 := (hb4.cell (p := ⟨w.heap.size + 1, 0, none⟩) (by simp; omega)).trans q0
  have q1 := (hb4.cell (p := ⟨w.heap.size + 1, 1, none⟩) (by simp; omega)).trans q1
  have f0 := (hb4.frozen (p := ⟨w.heap.size + 1, 0, none⟩) (by simp; omega)).trans f0
  have f1 := (hb4.frozen (p := ⟨w.heap.size + 1, 1, none⟩) (by simp; omega)).trans f1
  have g0 := (hb4.cell (p := ⟨w.heap.size, 0, none⟩) (by simp; omega)).trans g0
  have g1 := (hb4.cell (p := ⟨w.heap.size, 1, none⟩) (by simp; omega)).trans g1
  generalize (splice (.iface 42 (.pointer (some ⟨w2.heap.size, 0, none⟩)) :: cellsV (List.replicate 8 (false, 0))) 1 (cellsV g.roots)).toArray = X at *
  have HP5 := hide hP5
  have HK5 := hide hK5
  clear hW4 hbx4 hP4 hPd hvr hP5 hK5 hb4 hbd
  go_still_tail 4, Try.mixed
  change wpList _ _ _ _ _ W4.drew
  go_wp2
  obtain ⟨W5, hW5⟩ : ∃ W5, W4.drew.setRow w3.heap.size X = W5 := ⟨_, rfl⟩
  rw [hW5] at HP5 HK5 ⊢
  have hk5 := unhide HK5
  have hl0 : w.heap.size < W4.heap.size := by omega
  have hl1 : w.heap.size + 1 < W4.heap.size := by omega
  have q0 := (hk5.cell (p := ⟨w.heap.size + 1, 0, none⟩) (by simp; omega)).trans q0
  have q1 := (hk5.cell (p := ⟨w.heap.size + 1, 1, none⟩) (by simp; omega)).trans q1
  have f0 := (hk5.frozen (p := ⟨w.heap.size + 1, 0, none⟩) (by simp; omega)).trans f0
  have f1 := (hk5.frozen (p := ⟨w.heap.size + 1, 1, none⟩) (by simp; omega)).trans f1
  have hbw5 : Below w.heap.size w W5 := hbw4.trans (hk5.mono (by omega))
  have hs5 := hk5.size
  clear hW5 hcp g0 g1 hk5
  have HM := hide (newM_ok (unhide HG))
  go_loopw [10, 38] (fun outs i wr => ∃ (k : Nat) (vo : Value) (fb : List Value), k ≤ ds.length ∧ i = .int .i64 k ∧ Hid (PM wr w2.heap.size w3.heap.size w2.heap.size vo fb (playM (newM g) (ds.take k)).2) ∧ Hid (wr.ownsRow w2.heap.size 55 3 outs k (cellsO (playM (newM g) (ds.take k)).1)) ∧ Below w2.heap.size W5 wr) (fun _ i _ => ds.length - (intOf i).toNat)
  case atStart => exact ⟨0, vo, fb, Nat.zero_le _, rfl, HP5, hide (World.ownsRow_nil _ _ _ _), Below.refl _ _⟩
  case round =>
    obtain ⟨k, vo, fb, hk, rfl, HP, HR, hb⟩ := hrel
    have hsz := hb.size
    have hbw : Below w.heap.size w wr := hbw5.trans (hb.mono (by omega))
    by_cases hlt : k < ds.length
    · obtain ⟨b, off, rfl, hbB, d0, d1, d2, d3, d4⟩ := ((hds.below (hbw.mono hB))).at (List.getElem?_eq_getElem hlt)
      have hkI : (k : Int) < (ds.length : Int) := by omega
      have HS := hide (playM_snoc (newM g) hlt)
      obtain ⟨hM, hMl⟩ := (unhide HM).play (ds.take k)
      have hol : (playM (newM g) (ds.take k)).2.objs.length ≤ 200 := by
        have h3 : (newM g).objs.length = g.objs.length := rfl
        rw [List.length_take] at hMl
        omega
      have HM1 := hide hM
      have HL1 := hide hol
      clear hM hMl hol
      generalize playM (newM g) (ds.take k) = st at *
      obtain ⟨Cs, m⟩ := st
      generalize ds[k] = d at *
      obtain ⟨dk, dd, dsr, df, dn⟩ := d
      simp only at d0 d1 d2 d3 d4
      obtain ⟨oa, oc, rfl⟩ := ownsRow_slice (unhide HR)
      have hmb : w3.heap.size < wr.heap.size := lt_of_heap (unhide HP).box
      obtain ⟨W6, hW6⟩ : ∃ W6, wr.alloc (.cells #[.int .i64 dk, .int .i64 dd, .int .i64 dsr, .int .i64 df, .int .i64 dn] 53) = W6 := ⟨_, rfl⟩
      have hb6 : Below wr.heap.size wr W6 := by rw [← hW6]; exact (Below.refl _ _).alloc (Nat.le_refl _) _
      have e0 : W6.cell? ⟨wr.heap.size, 0, none⟩ = some (.int .i64 dk) := by rw [← hW6]; simp [go_sem]
      have e1 : W6.cell? ⟨wr.heap.size, 1, none⟩ = some (.int .i64 dd) := by rw [← hW6]; simp [go_sem]
      have e2 : W6.cell? ⟨wr.heap.size, 2, none⟩ = some (.int .i64 dsr) := by rw [← hW6]; simp [go_sem]
      have e3 : W6.cell? ⟨wr.heap.size, 3, none⟩ = some (.int .i64 df) := by rw [← hW6]; simp [go_sem]
      have e4 : W6.cell? ⟨wr.heap.size, 4, none⟩ = some (.int .i64 dn) := by rw [← hW6]; simp [go_sem]
      have hP6 := (unhide HP).below hb6
      have hR6 := ownsRow_below (unhide HR) hb6
      have Hdo := hide (do_c w2.heap.size w3.heap.size w2.heap.size vo fb m ⟨dk, dd, dsr, df, dn⟩ W6 hP6 (unhide HM1) (unhide HL1) (by have := hb6.size; omega))
      have hOut := hP6.row_out hR6
      have HP6 := hide hP6
      have HR6 := hide hR6
      have HOut := hide hOut
      obtain ⟨R, HRs⟩ : ∃ R, Hid (stepM m ⟨dk, dd, dsr, df, dn⟩ = R) := ⟨_, rfl⟩
      rw [unhide HRs] at Hdo HS
      obtain ⟨⟨xc, xr, xn⟩, m'⟩ := R
      obtain ⟨i0, hi, hz0, hz1, hz2⟩ := info_parts Try.info55o
      have hmx : k + 1 ≤ maxLen := by simp only [maxLen]; omega
      have hmy : (k + 1) * 24 ≤ 140737488355328 := by omega
      have hone : ∀ u ∈ ([.int .i64 xc, .bool xr, .int .i64 xn] : List Value), u.oneCell' = true := by simp [Value.oneCell']
      clear hP6 hR6 hOut
      go_wp2_with fail
      refine (unhide Hdo).mono ?_
      rintro e w7 ⟨rfl, vo7, fb7, hP7, hK7, hS7⟩
      have hR7 := row_same (unhide HR6) (fun j hj => hK7.block j ((unhide HR6).lt j hj).2 ((unhide HOut) j hj))
      have hOut7 := hP7.row_out hR7
      have hrow7 := hR7.alloc (.cells #[.int .i64 xc, .bool xr, .int .i64 xn] 55)
      have hs7 := hK7.size
      have hs6 := hb6.size
      have hbase : w2.heap.size ≤ (w7.alloc (.cells #[.int .i64 xc, .bool xr, .int .i64 xn] 55)).heap.size := by simp; omega
      have HP7 := hide hP7
      have HK7 := hide hK7
      have HOut7 := hide hOut7
      have Hfin : Hid (∀ (v' : Value) (w9 : World), w9.ownsRow w2.heap.size 55 3 v' (k + 1) (cellsO Cs ++ [.int .i64 xc, .bool xr, .int .i64 xn]) → (w7.alloc (.cells #[.int .i64 xc, .bool xr, .int .i64 xn] 55)).grownBy w9 (Value.ownBlock (.slice oa k oc)) → PM w9 w2.heap.size w3.heap.size w2.heap.size vo7 fb7 m' ∧ Below w2.heap.size W5 w9) := fun v' w9 hr9 hg9 => by
        have ha : Below w7.heap.size w7 (w7.alloc (.cells #[.int .i64 xc, .bool xr, .int .i64 xn] 55)) := (Below.refl _ _).alloc (Nat.le_refl _) _
        refine ⟨((unhide HP7).below ha).same (fun j hj => hg9.block j (((unhide HP7).below ha).lt hj).2 (fun e => (unhide HOut7) j e.symm hj)), ?_⟩
        have h67 : Below w2.heap.size W6 w7 := (unhide HK7).below (by omega) (fun j hj => ((unhide HP6).lt hj).1)
        exact (((hb.trans (hb6.mono (by omega))).trans h67).trans (ha.mono (by omega))).grown hg9 (by simp; omega) (fun j e => ((unhide HR6).lt j e).1)
      clear hP7 hK7 hR7 hOut7 hS7 d0 d1 d2 d3 d4 e0 e1 e2 e3 e4 hW6 Hdo
      simp only [ouV]
      go_wp2_with (at_builtin; go_must (refine wpList_append_own_at _ rfl _ _ 27 rfl w2.heap.size 55 i0 _ 3 24 Try.underlying27 hi hz0 hz1 hz2 rfl (by decide) _ k _ rfl hrow7 ⟨w7.heap.size, 0, none⟩ 1 1 [.int .i64 xc, .bool xr, .int .i64 xn] rfl rfl (cell_three_at _ _ _ _ _ _ rfl) hone hmx hmy hbase ?_); go_must (intro v9 w9 hrow9 hg9 _ hat9; have Hf9 := hide ((unhide Hfin) v9 w9 hrow9 hg9); have Hr9 := hide hrow9; clear hrow9 hg9 hat9))
      go_roundw
      case rel =>
        refine ⟨k + 1, vo7, fb7, by omega, by go_num, ?_, ?_, (unhide Hf9).2⟩
        · rw [unhide HS]; exact hide (unhide Hf9).1
        · rw [unhide HS]; refine hide ?_
          simp only [cellsO_snoc]
          exact unhide Hr9
      case measure => simp [intOf]; omega
    · obtain rfl : k = ds.length := by omega
      rw [List.take_length] at HP HR
      obtain ⟨e1, e2, e3, e4⟩ := play_end (unhide Hcc) ds hl
      have hpe : playE g ds.length = 0 := by unfold playE; rw [if_neg (by simp [unhide Hcc]), if_neg (by omega)]
      have Hpy : Hid (PyIs g ds (playM (newM g) ds).1 (canonG (grM (playM (newM g) ds).2))) := ⟨fun h => absurd hpe h, fun _ => ⟨rfl, rfl⟩⟩
      have hCl : (playM (newM g) ds).1.length = ds.length := playM_len _ _
      generalize playM (newM g) ds = st at *
      obtain ⟨Cs, m⟩ := st
      simp only at e1 e2 e3 e4 hCl
      obtain ⟨oa, oc, hvo, hO⟩ := (unhide HP).mem.objs (by show m.objs.length ≤ _; omega) e1.n4
      subst hvo
      have hV := (unhide HP).vals
      have c0 := (unhide HP).mem.c0
      have hmb : w3.heap.size < wr.heap.size := lt_of_heap (unhide HP).box
      have hob : w2.heap.size < wr.heap.size := lt_of_heap (unhide HP).mem.box
      have h8r := (unhide HP).n8
      have Hcan : Hid (∀ W, Below wr.heap.size wr W → Calls Try.prog 17 #[.agg #[.slice oa m.objs.length oc, .slice (some ⟨w3.heap.size, 1, none⟩) 8 8]] W fun e w' => ∃ ao' co' ar' cr', e = .returned (.tuple #[.agg #[.slice ao' (canonG (grM m)).objs.length co', .slice ar' (canonG (grM m)).roots.length cr'], .int .i64 0]) ∧ ObjsF W.heap.size w' ao' (canonG (grM m)).objs ∧ ValsF W.heap.size w' ar' (canonG (grM m)).roots ∧ Below W.heap.size W w') := fun W hW => by
        have h := canon_ok oa (some ⟨w3.heap.size, 1, none⟩) oc 8 (grM m) wr.heap.size W (hO.below hW) (hV.below hW) hW.size e4 e3
        rw [show (grM m).roots.length = 8 from h8r] at h
        exact h
      obtain ⟨H, HH⟩ : ∃ H, Hid (canonG (grM m) = H) := ⟨_, rfl⟩
      rw [unhide HH] at Hcan Hpy
      obtain ⟨ca, cc, hov, hOu, hcc⟩ := ous_of_row (l := Cs) (by rw [hCl]; exact unhide HR) (by omega)
      have Hcl := hide hCl
      have HOu := hide hOu
      have Hpe := hide hpe
      have q0 := (hb.cell (p := ⟨w.heap.size + 1, 0, none⟩) (by simp; omega)).trans q0
      have q1 := (hb.cell (p := ⟨w.heap.size + 1, 1, none⟩) (by simp; omega)).trans q1
      have f0 := (hb.frozen (p := ⟨w.heap.size + 1, 0, none⟩) (by simp; omega)).trans f0
      have f1 := (hb.frozen (p := ⟨w.heap.size + 1, 1, none⟩) (by simp; omega)).trans f1
      have hl5 : w.heap.size + 1 < wr.heap.size := by omega
      rw [hCl] at hov hcc
      subst hov
      clear hCl e1 e2 e3 e4 hO hV h8r hOu hpe HP HR
      go_wp2
      go_region_with (first
        | (go_at_call 17; refine ((unhide Hcan) _ (Below.refl _ _).drew).mono ?_; rintro e w6 ⟨ao6, co6, ar6, cr6, rfl, hO6, hV6, hb6⟩; have hb6' : Below wr.heap.size wr w6 := (Below.refl _ _).drew.trans hb6; have HO6 := hide hO6; have HV6 := hide hV6; have y0 := (hb6'.cell (p := ⟨w.heap.size + 1, 0, none⟩) hl5).trans q0; have y1 := (hb6'.cell (p := ⟨w.heap.size + 1, 1, none⟩) hl5).trans q1; have z0 := (hb6'.frozen (p := ⟨w.heap.size + 1, 0, none⟩) hl5).trans f0; have z1 := (hb6'.frozen (p := ⟨w.heap.size + 1, 1, none⟩) hl5).trans f1; have hl6 : w.heap.size + 1 < w6.heap.size := Nat.lt_of_lt_of_le hl5 hb6'.size; clear hO6 hV6 hb6)
        | (go_at_call 17; refine ((unhide Hcan) _ ((Below.refl _ _).alloc (Nat.le_refl _) (.cells #[.slice none 0 0, .slice none 0 0] 25)).drew).mono ?_; rintro e w6 ⟨ao6, co6, ar6, cr6, rfl, hO6, hV6, hb6⟩; have hb6' : Below wr.heap.size wr w6 := (((Below.refl wr.heap.size wr).alloc (Nat.le_refl _) (.cells #[.slice none 0 0, .slice none 0 0] 25)).drew).trans (hb6.mono (by simp [World.drew])); have HO6 := hide hO6; have HV6 := hide hV6; have y0 := (hb6'.cell (p := ⟨w.heap.size + 1, 0, none⟩) hl5).trans q0; have y1 := (hb6'.cell (p := ⟨w.heap.size + 1, 1, none⟩) hl5).trans q1; have z0 := (hb6'.frozen (p := ⟨w.heap.size + 1, 0, none⟩) hl5).trans f0; have z1 := (hb6'.frozen (p := ⟨w.heap.size + 1, 1, none⟩) hl5).trans f1; have x0 := hb6.cell (p := ⟨wr.heap.size, 0, none⟩) (by simp [World.drew]); have x1 := hb6.cell (p := ⟨wr.heap.size, 1, none⟩) (by simp [World.drew]); have t0 := hb6.frozen (p := ⟨wr.heap.size, 0, none⟩) (by simp [World.drew]); have t1 := hb6.frozen (p := ⟨wr.heap.size, 1, none⟩) (by simp [World.drew]); simp [go_sem] at x0 x1 t0 t1; have hl6 : w.heap.size + 1 < w6.heap.size := Nat.lt_of_lt_of_le hl5 hb6'.size; clear hO6 hV6 hb6))
      all_goals
        clear q0 q1 f0 f1
        go_wp2
        go_region
        all_goals
          go_wp2
          refine bodyPost_ret (v := .tuple #[.slice ca ds.length cc, .agg #[.slice ao6 H.objs.length co6, .slice ar6 H.roots.length cr6], .int .i64 0]) (by simp [results, Try.results6, go_sem, y0, y1, hl6]) rfl ?_
          first
            | (have hf := fin_a (B0 := w.heap.size) (x := .cells #[.slice ao6 H.objs.length co6, .slice ar6 H.roots.length cr6] 25) (u0 := .slice ao6 H.objs.length co6) (u1 := .slice ar6 H.roots.length cr6) (b := w.heap.size + 1) (unhide HOu) hb6' hbw (unhide HO6) (unhide HV6) (by omega) hl5 (by omega) (by omega) (by show w.heap.size ≤ wr.heap.size; omega) hl5; exact ⟨PyRes.mk0 (unhide Hcl) (unhide Hpe) (unhide Hpy) hcc hf.1, hf.2⟩)
            | (have hf := fin_b (B0 := w.heap.size) (u0 := .slice ao6 H.objs.length co6) (u1 := .slice ar6 H.roots.length cr6) (b := w.heap.size + 1) (unhide HOu) hb6' hbw (unhide HO6) (unhide HV6) (by omega) (by show wr.heap.size < (wr.alloc _).heap.size; rw [World.size_alloc]; omega) (by omega) (by omega) (by show w.heap.size ≤ (wr.alloc _).heap.size; rw [World.size_alloc]; omega) hl5; exact ⟨PyRes.mk0 (unhide Hcl) (unhide Hpe) (unhide Hpy) hcc hf.1, hf.2⟩)

end Go.Proofs.Ytlolcdgbidboeaa

/- Memory: the document's registers, objects, and which went. -/
namespace Go.Proofs.Ytlolcdgbidboeaa
set_option linter.unusedSimpArgs false
set_option linter.unusedVariables false
open Go.RowKit Go.Shelf

def boolsV (l : List Bool) : List Value := l.map (.bool ·)
theorem boolsV_snoc (l : List Bool) (b : Bool) : boolsV (l ++ [b]) = boolsV l ++ [.bool b] := by simp [boolsV]
theorem boolsV_len (l : List Bool) : (boolsV l).length = l.length := by simp [boolsV]

/-- Blocks of the document's memory. -/
def RS (rb : Nat) (vr vo vg : Value) (fb : List Value) (k : Nat) : Prop := k = rb ∨ vr.ownBlock = some k ∨ vg.ownBlock = some k ∨ OwnO.In vo fb k

/-- The document's memory. -/
structure RM (W : World) (N rb : Nat) (vr vo vg : Value) (fb : List Value) (m : Mm) (gs : List Bool) : Prop where
  box : W.heap[rb]? = some (.cells [vr, vo, vg].toArray 88)
  regs : OwnV W N vr m.regs
  own : OwnO W N vo fb m.objs
  gone : W.ownsRow N 4 1 vg gs.length (boolsV gs)
  n8 : m.regs.length = 8
  lo : N ≤ rb
  sep : ∀ k, vr.ownBlock = some k → ¬ OwnO.In vo fb k

section
variable {W W' : World} {N rb : Nat} {vr vo vg : Value} {fb : List Value} {m : Mm} {gs : List Bool}

theorem RM.lt (h : RM W N rb vr vo vg fb m gs) {k : Nat} (hk : RS rb vr vo vg fb k) : N ≤ k ∧ k < W.heap.size := by
  rcases hk with rfl | hk | hk | hk
  · exact ⟨h.lo, lt_of_heap h.box⟩
  · exact World.ownsRow.lt h.regs k hk
  · exact h.gone.lt k hk
  · exact h.own.lt hk
theorem RM.same (h : RM W N rb vr vo vg fb m gs) (hs : ∀ k, RS rb vr vo vg fb k → W'.heap[k]? = W.heap[k]?) : RM W' N rb vr vo vg fb m gs :=
  ⟨(hs rb (.inl rfl)).trans h.box, h.regs.same (fun k hk => hs k (.inr (.inl hk))), h.own.same (fun k hk => hs k (.inr (.inr (.inr hk)))), row_same h.gone (fun k hk => hs k (.inr (.inr (.inl hk)))), h.n8, h.lo, h.sep⟩
theorem RM.keep {S : Nat → Prop} (h : RM W N rb vr vo vg fb m gs) (hk : Kp S W W') (hs : ∀ k, RS rb vr vo vg fb k → ¬ S k) : RM W' N rb vr vo vg fb m gs :=
  h.same (fun k hi => hk.block k (h.lt hi).2 (hs k hi))
theorem RM.below (h : RM W N rb vr vo vg fb m gs) (hb : Below W.heap.size W W') : RM W' N rb vr vo vg fb m gs := h.same (fun k hk => hb.block k (h.lt hk).2)

theorem ownV_type (h : OwnV W N vr m.regs) {k : Nat} (hk : vr.ownBlock = some k) : ∃ cs, W.heap[k]? = some (.cells cs 47) := by
  rcases h.2 with ⟨rfl, _⟩ | ⟨g, cap, cur, rfl, _, hg, _⟩
  · cases hk
  · have hk' : some g = some k := hk
    injection hk' with hk'
    subst hk'
    exact ⟨_, hg⟩

theorem RM.c0 (h : RM W N rb vr vo vg fb m gs) : W.cell? ⟨rb, 0, none⟩ = some vr := by rw [box_cell h.box]; rfl
theorem RM.c1 (h : RM W N rb vr vo vg fb m gs) : W.cell? ⟨rb, 1, none⟩ = some vo := by rw [box_cell h.box]; rfl
theorem RM.c2 (h : RM W N rb vr vo vg fb m gs) : W.cell? ⟨rb, 2, none⟩ = some vg := by rw [box_cell h.box]; rfl

theorem RM.rb_regs (h : RM W N rb vr vo vg fb m gs) : vr.ownBlock ≠ some rb := row_ne h.regs h.box (by decide)
theorem RM.rb_gone (h : RM W N rb vr vo vg fb m gs) : vg.ownBlock ≠ some rb := row_ne h.gone h.box (by decide)
theorem RM.rb_own (h : RM W N rb vr vo vg fb m gs) : ¬ OwnO.In vo fb rb := h.own.ne h.box (by decide) (by decide)
theorem RM.regs_gone (h : RM W N rb vr vo vg fb m gs) {k : Nat} (hk : vr.ownBlock = some k) : vg.ownBlock ≠ some k := by
  obtain ⟨cs, hc⟩ := ownV_type h.regs hk
  exact row_ne h.gone hc (by decide)
theorem RM.own_gone (h : RM W N rb vr vo vg fb m gs) {k : Nat} (hk : OwnO.In vo fb k) : vg.ownBlock ≠ some k := by
  intro e
  rcases h.gone.2 with ⟨rfl, _⟩ | ⟨g, cap, cur, rfl, _, hg, _⟩
  · cases e
  · have e' : some g = some k := e
    injection e' with e'
    subst e'
    exact h.own.ne hg (by decide) (by decide) hk

/-- The registers' row, written out. -/
theorem RM.regs_form (h : RM W N rb vr vo vg fb m gs) : ∃ g c, vr = .slice (some ⟨g, 0, none⟩) 8 c ∧ N ≤ g ∧ g < W.heap.size := by
  have := h.regs.form (by have := h.n8; omega)
  rw [h.n8] at this
  exact this

/-- A register is set. -/
theorem RM.setReg {g c n : Nat} (h : RM W N rb (.slice (some ⟨g, 0, none⟩) n c) vo vg fb m gs) (i : Nat) (x : V) :
    RM ((W.setCell ⟨g, i * 2, none⟩ (.bool x.1)).setCell ⟨g, i * 2 + 1, none⟩ (.int .i64 x.2)) N rb (.slice (some ⟨g, 0, none⟩) n c) vo vg fb { m with regs := m.regs.set i x } gs ∧ Kp (fun k => k = g) W ((W.setCell ⟨g, i * 2, none⟩ (.bool x.1)).setCell ⟨g, i * 2 + 1, none⟩ (.int .i64 x.2)) := by
  have hg := grown_set2 W g (i * 2) (i * 2 + 1) (.bool x.1) (.int .i64 x.2)
  have hk : Kp (fun k => k = g) W ((W.setCell ⟨g, i * 2, none⟩ (.bool x.1)).setCell ⟨g, i * 2 + 1, none⟩ (.int .i64 x.2)) := Kp.of_grown hg (fun k e => by injection e with e; exact e.symm)
  have e : Value.ownBlock (.slice (some ⟨g, 0, none⟩) n c) = some g := rfl
  refine ⟨⟨hk.heap h.box (fun e2 => h.rb_regs (by rw [e, e2])), h.regs.set i x, h.own.keep hk (fun k hi e2 => h.sep g e (e2 ▸ hi)), row_same h.gone (fun k hi => hk.block k (h.gone.lt k hi).2 (fun e2 => h.regs_gone e (e2 ▸ hi))), by simp [h.n8], h.lo, h.sep⟩, hk⟩

/-- A field is set. -/
theorem RM.setFld {i g c n : Nat} {l : List V} (h : RM W N rb vr vo vg fb m gs) (hu : fb[i]? = some (.slice (some ⟨g, 0, none⟩) n c)) (hl : m.objs[i]? = some l) (j : Nat) (x : V) :
    RM ((W.setCell ⟨g, j * 2, none⟩ (.bool x.1)).setCell ⟨g, j * 2 + 1, none⟩ (.int .i64 x.2)) N rb vr vo vg fb { m with objs := m.objs.set i (l.set j x) } gs ∧ Kp (fun k => k = g) W ((W.setCell ⟨g, j * 2, none⟩ (.bool x.1)).setCell ⟨g, j * 2 + 1, none⟩ (.int .i64 x.2)) ∧ OwnO.In vo fb g := by
  have hg := grown_set2 W g (j * 2) (j * 2 + 1) (.bool x.1) (.int .i64 x.2)
  have hk : Kp (fun k => k = g) W ((W.setCell ⟨g, j * 2, none⟩ (.bool x.1)).setCell ⟨g, j * 2 + 1, none⟩ (.int .i64 x.2)) := Kp.of_grown hg (fun k e => by injection e with e; exact e.symm)
  have hi : OwnO.In vo fb g := .inr ⟨_, List.mem_of_getElem? hu, rfl⟩
  exact ⟨⟨hk.heap h.box (fun e => h.rb_own (e ▸ hi)), h.regs.same (fun k hr => hk.block k (World.ownsRow.lt h.regs k hr).2 (fun e => h.sep k hr (e ▸ hi))), h.own.setF hu hl j x, row_same h.gone (fun k hr => hk.block k (h.gone.lt k hr).2 (fun e => h.own_gone hi (e ▸ hr))), h.n8, h.lo, h.sep⟩, hk, hi⟩

/-- An object, read. -/
theorem RM.objAt (h : RM W N rb vr vo vg fb m gs) {i : Nat} {l : List V} (hl : m.objs[i]? = some l) :
    ∃ g c u a cu, vo = .slice (some ⟨g, 0, none⟩) m.objs.length c ∧ g < W.heap.size ∧ fb[i]? = some u ∧ u = .slice a l.length cu ∧ W.cell? ⟨g, i, none⟩ = some u ∧ OwnV W N u l := by
  have hil := (List.getElem?_eq_some_iff.1 hl).1
  obtain ⟨g, c, u, h1, h2, h3, h4, h5⟩ := h.own.at hil
  have e : m.objs[i] = l := by rw [List.getElem?_eq_getElem hil] at hl; injection hl
  rw [e] at h5
  obtain ⟨a, cu, hu⟩ := h5.slice
  exact ⟨g, c, u, a, cu, by rw [h1, h.own.len], h2, h3, hu, h4, h5⟩

end

/-- What a step of the document's leaves. -/
def RRes (N rb : Nat) (vr vo vg : Value) (fb : List Value) (m' : Mm) (gs' : List Bool) (w w' : World) : Prop :=
  ∃ vo' vg' fb', RM w' N rb vr vo' vg' fb' m' gs' ∧ Kp (RS rb vr vo vg fb) w w' ∧ ∀ k, RS rb vr vo' vg' fb' k → RS rb vr vo vg fb k ∨ w.heap.size ≤ k

theorem RRes.none {N rb : Nat} {vr vo vg : Value} {fb : List Value} {m : Mm} {gs : List Bool} {w w' : World} (h : RM w N rb vr vo vg fb m gs) (hb : Below w.heap.size w w') : RRes N rb vr vo vg fb m gs w w' := ⟨vo, vg, fb, h.below hb, Kp.of_below hb, fun k hk => .inl hk⟩

theorem RRes.fin {N rb : Nat} {vr vo vg : Value} {fb : List Value} {m m0 : Mm} {gs gs0 : List Bool} {w wq w' : World} (h : RRes N rb vr vo vg fb m gs wq w') (h0 : RM w N rb vr vo vg fb m0 gs0) (hb : Below w.heap.size w wq) {b : Nat} (hbq : b < wq.heap.size) (hbo : w.heap.size ≤ b) (c : Int) (r : Bool) (n : Int) : RRes N rb vr vo vg fb m gs w (outW w' b c r n) := by
  obtain ⟨vo', vg', fb', h1, h2, h3⟩ := h
  have hk := out_kp (W := w') (b := b) c r n
  have hn : ¬ RS rb vr vo' vg' fb' b := fun e => by
    rcases h3 b e with e | e
    · have := (h0.lt e).2; omega
    · omega
  have hsz := hb.size
  refine ⟨vo', vg', fb', h1.keep hk (fun k hk e => hn (e ▸ hk)), ((Kp.of_below hb).trans (S' := RS rb vr vo vg fb) h2 (fun k e => .inl e)).trans hk (fun k e => .inr (by omega)), fun k e => ?_⟩
  rcases h3 k e with e | e
  · exact .inl e
  · exact .inr (by omega)

theorem RRes.one {N rb : Nat} {vr vo vg : Value} {fb : List Value} {m : Mm} {gs : List Bool} {w w' : World} {g : Nat} (h : RM w' N rb vr vo vg fb m gs) (hk : Kp (fun k => k = g) w w') (hg : RS rb vr vo vg fb g) : RRes N rb vr vo vg fb m gs w w' :=
  ⟨vo, vg, fb, h, hk.mono (fun k e => by subst e; exact hg), fun k hk => .inl hk⟩

end Go.Proofs.Ytlolcdgbidboeaa

/- Walks: the document's register, Wrong. -/
namespace Go.Proofs.Ytlolcdgbidboeaa
set_option linter.unusedSimpArgs false
set_option linter.unusedVariables false
open Go.RowKit Go.Shelf

set_option maxRecDepth 100000 in
set_option maxHeartbeats 2000000 in
theorem register_c (r : Int) (w : World) : Calls Try.prog 36 #[.int .i64 r] w fun e w' => e = .returned (.bool (decide (0 ≤ r) && decide (r < 8))) ∧ w' = w := by
  by_cases h0 : 0 ≤ r
  · have d0 : decide (0 ≤ r) = true := by simpa using h0
    go_enter Try.func36, Try.ntmps36
    go_wp2
    go_ret
    exact ⟨by simp [h0], rfl⟩
  · have d0 : decide (0 ≤ r) = false := by simpa using h0
    go_enter Try.func36, Try.ntmps36
    go_wp2
    go_ret
    exact ⟨by simp [h0], rfl⟩

theorem reg_r : Hid (∀ (r : Int) (b : Bool), InR r b → ∀ (W : World), Calls Try.prog 36 #[.int .i64 r] W fun e w' => e = .returned (.bool b) ∧ w' = W) :=
  fun r b h W => (register_c r W).mono (by rintro e w' ⟨rfl, rfl⟩; exact ⟨by rw [h.is_], rfl⟩)

section
variable (N rb : Nat) (vr vo vg : Value) (fb : List Value) (m : Mm) (gs : List Bool) (w : World)

set_option maxRecDepth 100000 in
set_option maxHeartbeats 2000000 in
theorem rwrong_kind (k d s f n : Int) (hk : k < 1 ∨ 7 < k) :
    Calls Try.prog 22 #[.pointer (some ⟨rb, 0, none⟩), .agg #[.int .i64 k, .int .i64 d, .int .i64 s, .int .i64 f, .int .i64 n]] w fun e w' => e = .returned (.int .i64 5) ∧ Below w.heap.size w w' := by
  have hb1 := (dbox_new w k d s f n).below
  by_cases h1 : k < 1
  · have d1 : decide (k < 1) = true := by simpa using h1
    clear hk h1
    go_enter Try.func22, Try.ntmps22
    go_wp2
    go_ret
    exact ⟨rfl, hb1⟩
  · have d1 : decide (k < 1) = false := by simpa using h1
    have d2 : decide (7 < k) = true := by simp; omega
    clear hk h1
    go_enter Try.func22, Try.ntmps22
    go_wp2
    go_ret
    exact ⟨rfl, hb1⟩

set_option maxRecDepth 100000 in
set_option maxHeartbeats 2000000 in
theorem rwrong_to (k d s f n : Int) (d1 : decide (k < 1) = false) (d2 : decide (7 < k) = false) (d7 : (k != 7) = true) (iD : InR d false) :
    Calls Try.prog 22 #[.pointer (some ⟨rb, 0, none⟩), .agg #[.int .i64 k, .int .i64 d, .int .i64 s, .int .i64 f, .int .i64 n]] w fun e w' => e = .returned (.int .i64 2) ∧ Below w.heap.size w w' := by
  have hb1 := (dbox_new w k d s f n).below
  go_enter Try.func22, Try.ntmps22
  go_wp2_with (go_at_call 36; go_must (refine ((unhide reg_r) _ _ (by assumption) _).mono ?_); go_must (rintro e w3 ⟨rfl, hw3⟩; subst hw3))
  go_ret
  exact ⟨rfl, hb1⟩

set_option maxRecDepth 100000 in
set_option maxHeartbeats 2000000 in
theorem rwrong_from7 (d s f n : Int) (iS : InR s false) :
    Calls Try.prog 22 #[.pointer (some ⟨rb, 0, none⟩), .agg #[.int .i64 7, .int .i64 d, .int .i64 s, .int .i64 f, .int .i64 n]] w fun e w' => e = .returned (.int .i64 2) ∧ Below w.heap.size w w' := by
  have hb1 := (dbox_new w 7 d s f n).below
  go_enter Try.func22, Try.ntmps22
  go_wp2_with (go_at_call 36; go_must (refine ((unhide reg_r) _ _ (by assumption) _).mono ?_); go_must (rintro e w3 ⟨rfl, hw3⟩; subst hw3))
  go_ret
  exact ⟨rfl, hb1⟩

set_option maxRecDepth 100000 in
set_option maxHeartbeats 2000000 in
theorem rwrong_from (k d s f n : Int) (d1 : decide (k < 1) = false) (d2 : decide (7 < k) = false) (d7 : (k != 7) = true) (e1 : (k != 1) = true) (e2 : (k != 2) = true) (iD : InR d true) (iS : InR s false) :
    Calls Try.prog 22 #[.pointer (some ⟨rb, 0, none⟩), .agg #[.int .i64 k, .int .i64 d, .int .i64 s, .int .i64 f, .int .i64 n]] w fun e w' => e = .returned (.int .i64 2) ∧ Below w.heap.size w w' := by
  have hb1 := (dbox_new w k d s f n).below
  go_enter Try.func22, Try.ntmps22
  go_wp2_with (go_at_call 36; go_must (refine ((unhide reg_r) _ _ (by assumption) _).mono ?_); go_must (rintro e w3 ⟨rfl, hw3⟩; subst hw3))
  go_ret
  exact ⟨rfl, hb1⟩

set_option maxRecDepth 100000 in
set_option maxHeartbeats 2000000 in
theorem rwrong_num1 (d s f n : Int) (iD : InR d true) :
    Calls Try.prog 22 #[.pointer (some ⟨rb, 0, none⟩), .agg #[.int .i64 1, .int .i64 d, .int .i64 s, .int .i64 f, .int .i64 n]] w fun e w' => e = .returned (.int .i64 (if beyB 1 n then 3 else 0)) ∧ Below w.heap.size w w' := by
  have hb1 := (dbox_new w 1 d s f n).below
  by_cases h0 : n < 0
  · have e : beyB 1 n = true := by simp [beyB, h0]
    have d0 : decide (n < 0) = true := by simpa using h0
    rw [e]
    clear e h0
    go_enter Try.func22, Try.ntmps22
    go_wp2_with (go_at_call 36; go_must (refine ((unhide reg_r) _ _ (by assumption) _).mono ?_); go_must (rintro e w3 ⟨rfl, hw3⟩; subst hw3))
    go_ret
    exact ⟨rfl, hb1⟩
  · have d0 : decide (n < 0) = false := by simpa using h0
    by_cases h4 : 4 < n
    · have e : beyB 1 n = true := by simp [beyB, h4]
      have d4 : decide (4 < n) = true := by simpa using h4
      rw [e]
      clear e h0 h4
      go_enter Try.func22, Try.ntmps22
      go_wp2_with (go_at_call 36; go_must (refine ((unhide reg_r) _ _ (by assumption) _).mono ?_); go_must (rintro e w3 ⟨rfl, hw3⟩; subst hw3))
      go_ret
      exact ⟨rfl, hb1⟩
    · have e : beyB 1 n = false := by simp [beyB]; omega
      have d4 : decide (4 < n) = false := by simpa using h4
      rw [e]
      clear e h0 h4
      go_enter Try.func22, Try.ntmps22
      go_wp2_with (go_at_call 36; go_must (refine ((unhide reg_r) _ _ (by assumption) _).mono ?_); go_must (rintro e w3 ⟨rfl, hw3⟩; subst hw3))
      go_ret
      exact ⟨rfl, hb1⟩

set_option maxRecDepth 100000 in
set_option maxHeartbeats 2000000 in
theorem rwrong_num2 (d s f n : Int) (iD : InR d true) :
    Calls Try.prog 22 #[.pointer (some ⟨rb, 0, none⟩), .agg #[.int .i64 2, .int .i64 d, .int .i64 s, .int .i64 f, .int .i64 n]] w fun e w' => e = .returned (.int .i64 (if beyB 2 n then 3 else 0)) ∧ Below w.heap.size w w' := by
  have hb1 := (dbox_new w 2 d s f n).below
  by_cases h0 : n < -4611686018427387904
  · have e : beyB 2 n = true := by simp [beyB, h0]
    have d0 : decide (n < -4611686018427387904) = true := by simpa using h0
    rw [e]
    clear e h0
    go_enter Try.func22, Try.ntmps22
    go_wp2_with (go_at_call 36; go_must (refine ((unhide reg_r) _ _ (by assumption) _).mono ?_); go_must (rintro e w3 ⟨rfl, hw3⟩; subst hw3))
    go_ret
    exact ⟨rfl, hb1⟩
  · have d0 : decide (n < -4611686018427387904) = false := by simpa using h0
    by_cases h4 : 4611686018427387903 < n
    · have e : beyB 2 n = true := by simp [beyB, h4]
      have d4 : decide (4611686018427387903 < n) = true := by simpa using h4
      rw [e]
      clear e h0 h4
      go_enter Try.func22, Try.ntmps22
      go_wp2_with (go_at_call 36; go_must (refine ((unhide reg_r) _ _ (by assumption) _).mono ?_); go_must (rintro e w3 ⟨rfl, hw3⟩; subst hw3))
      go_ret
      exact ⟨rfl, hb1⟩
    · have e : beyB 2 n = false := by simp [beyB]; omega
      have d4 : decide (4611686018427387903 < n) = false := by simpa using h4
      rw [e]
      clear e h0 h4
      go_enter Try.func22, Try.ntmps22
      go_wp2_with (go_at_call 36; go_must (refine ((unhide reg_r) _ _ (by assumption) _).mono ?_); go_must (rintro e w3 ⟨rfl, hw3⟩; subst hw3))
      go_ret
      exact ⟨rfl, hb1⟩

set_option maxRecDepth 100000 in
set_option maxHeartbeats 2000000 in
theorem rwrong_ok3 (d s f n : Int) (iD : InR d true) (iS : InR s true) :
    Calls Try.prog 22 #[.pointer (some ⟨rb, 0, none⟩), .agg #[.int .i64 3, .int .i64 d, .int .i64 s, .int .i64 f, .int .i64 n]] w fun e w' => e = .returned (.int .i64 0) ∧ Below w.heap.size w w' := by
  have hb1 := (dbox_new w 3 d s f n).below
  go_enter Try.func22, Try.ntmps22
  go_wp2_with (go_at_call 36; go_must (refine ((unhide reg_r) _ _ (by assumption) _).mono ?_); go_must (rintro e w3 ⟨rfl, hw3⟩; subst hw3))
  go_ret
  exact ⟨rfl, hb1⟩

set_option maxRecDepth 100000 in
set_option maxHeartbeats 2000000 in
theorem rwrong_ok6 (d s f n : Int) (iD : InR d true) (iS : InR s true) :
    Calls Try.prog 22 #[.pointer (some ⟨rb, 0, none⟩), .agg #[.int .i64 6, .int .i64 d, .int .i64 s, .int .i64 f, .int .i64 n]] w fun e w' => e = .returned (.int .i64 0) ∧ Below w.heap.size w w' := by
  have hb1 := (dbox_new w 6 d s f n).below
  go_enter Try.func22, Try.ntmps22
  go_wp2_with (go_at_call 36; go_must (refine ((unhide reg_r) _ _ (by assumption) _).mono ?_); go_must (rintro e w3 ⟨rfl, hw3⟩; subst hw3))
  go_ret
  exact ⟨rfl, hb1⟩

set_option maxRecDepth 100000 in
set_option maxHeartbeats 2000000 in
theorem rwrong_ok7 (d s f n : Int) (iS : InR s true) :
    Calls Try.prog 22 #[.pointer (some ⟨rb, 0, none⟩), .agg #[.int .i64 7, .int .i64 d, .int .i64 s, .int .i64 f, .int .i64 n]] w fun e w' => e = .returned (.int .i64 0) ∧ Below w.heap.size w w' := by
  have hb1 := (dbox_new w 7 d s f n).below
  go_enter Try.func22, Try.ntmps22
  go_wp2_with (go_at_call 36; go_must (refine ((unhide reg_r) _ _ (by assumption) _).mono ?_); go_must (rintro e w3 ⟨rfl, hw3⟩; subst hw3))
  go_ret
  exact ⟨rfl, hb1⟩

set_option maxRecDepth 100000 in
set_option maxHeartbeats 2000000 in
theorem rwrong_put (d s f n : Int) (r : Nat) (x : V) (h : RM w N rb vr vo vg fb m gs) (iD : InR d true) (iS : InR s true) (hr : d = (r : Nat)) (hx : m.regs[r]? = some x) (hxr : x.1 = true → 0 ≤ x.2 ∧ x.2 < m.objs.length) :
    Calls Try.prog 22 #[.pointer (some ⟨rb, 0, none⟩), .agg #[.int .i64 4, .int .i64 d, .int .i64 s, .int .i64 f, .int .i64 n]] w fun e w' => e = .returned (.int .i64 (wfE m x f)) ∧ Below w.heap.size w w' := by
  subst hr
  obtain ⟨g, c, rfl, hNg, hgl⟩ := h.regs_form
  obtain ⟨x0, x1, _⟩ := h.regs.cell hx
  have hr8 : r < 8 := by have := (List.getElem?_eq_some_iff.1 hx).1; have := h.n8; omega
  have hrI : (r : Int) < 8 := by omega
  have b0 := h.c0
  have b1 := h.c1
  have hrb := lt_of_heap h.box
  have hb1 := (dbox_new w 4 (r : Nat) s f n).below
  have hb2 : Below w.heap.size w ((w.alloc (.cells #[.int .i64 4, .int .i64 (r : Nat), .int .i64 s, .int .i64 f, .int .i64 n] 53)).alloc (.cells #[.bool x.1, .int .i64 x.2] 47)) := hb1.alloc (by simp) _
  obtain ⟨xr, xn⟩ := x
  cases xr
  · have hE : wfE m (false, xn) f = 5 := by simp [wfE]
    rw [hE]
    clear h hx hxr hE
    go_enter Try.func22, Try.ntmps22
    go_wp2_with (go_at_call 36; go_must (refine ((unhide reg_r) _ _ (by assumption) _).mono ?_); go_must (rintro e w3 ⟨rfl, hw3⟩; subst hw3))
    go_ret
    exact ⟨rfl, hb2⟩
  · obtain ⟨h0, h1⟩ := hxr rfl
    simp only at h0 h1
    obtain ⟨o, rfl⟩ := Int.eq_ofNat_of_zero_le h0
    have hol : o < m.objs.length := by omega
    have hl := List.getElem?_eq_getElem hol
    have hfl : fldM m (o : Int) = m.objs[o] := by unfold fldM; rw [Int.toNat_natCast, List.getD_eq_getElem?_getD, hl]; rfl
    have hE : wfE m (true, (o : Int)) f = if f < 0 ∨ (m.objs[o].length : Int) ≤ f then 3 else 0 := by simp [wfE, hfl]
    rw [hE]
    clear hE hfl
    obtain ⟨go, co, u, a, cu, rfl, hgo, _, rfl, hc, _⟩ := h.objAt hl
    have hoI : (o : Int) < (m.objs.length : Int) := by omega
    generalize m.objs[o] = l at *
    obtain ⟨W2, hW2⟩ : ∃ W2, (w.alloc (.cells #[.int .i64 4, .int .i64 (r : Nat), .int .i64 s, .int .i64 f, .int .i64 n] 53)).alloc (.cells #[.bool true, .int .i64 (o : Nat)] 47) = W2 := ⟨_, rfl⟩
    have z3 : W2.cell? ⟨w.heap.size, 3, none⟩ = some (.int .i64 f) := by rw [← hW2]; simp [go_sem]
    have y0 : W2.cell? ⟨w.heap.size + 1, 0, none⟩ = some (.bool true) := by rw [← hW2]; simp [go_sem]
    have y1 : W2.cell? ⟨w.heap.size + 1, 1, none⟩ = some (.int .i64 (o : Nat)) := by rw [← hW2]; simp [go_sem]
    have hb2' : Below w.heap.size w W2 := by rw [← hW2]; exact hb2
    have b1' := (hb2'.cell (p := ⟨rb, 1, none⟩) hrb).trans b1
    have hc' := (hb2'.cell (p := ⟨go, o, none⟩) hgo).trans hc
    have hs2 : w.heap.size + 1 < W2.heap.size := by rw [← hW2]; simp
    have hrb2 : rb < W2.heap.size := by omega
    have hgo2 : go < W2.heap.size := by omega
    clear h hx hl hxr hb2
    by_cases hf : f < 0
    · have d0 : decide (f < 0) = true := by simpa using hf
      rw [if_pos (.inl hf)]
      clear hf
      go_enter Try.func22, Try.ntmps22
      go_wp2_with (first | (go_at_call 36; go_must (refine ((unhide reg_r) _ _ (by assumption) _).mono ?_); go_must (rintro e w3 ⟨rfl, hw3⟩; subst hw3)) | fail)
      clear hW2
      have G0 := cell_regrown z3
      have G1 := cell_regrown b1'
      have G2 := cell_regrown y1
      have G3 := cell_regrown hc'
      refine wp_region_quiet_below (by kernel_rfl) (by kernel_rfl) ?_
      repeat (go_big_quiet_step (fail))
      refine wpQuiet_nil ?_
      intro _ hw'
      obtain ⟨⟨dq, osq⟩, hw''⟩ := hw'
      subst hw''
      have hbq := below_regrown W2 dq osq
      clear G0 G1 G2 G3
      generalize Go.Sort.grow (redrawn W2 dq) osq = wq at *
      go_wp2
      go_ret
      exact ⟨rfl, hb2'.trans (hbq.mono hb2'.size)⟩
    · have d0 : decide (f < 0) = false := by simpa using hf
      by_cases hg : (l.length : Int) ≤ f
      · have d3 : decide ((l.length : Int) ≤ f) = true := by simpa using hg
        rw [if_pos (.inr hg)]
        clear hf hg
        go_enter Try.func22, Try.ntmps22
        go_wp2_with (first | (go_at_call 36; go_must (refine ((unhide reg_r) _ _ (by assumption) _).mono ?_); go_must (rintro e w3 ⟨rfl, hw3⟩; subst hw3)) | fail)
        clear hW2
        have G0 := cell_regrown z3
        have G1 := cell_regrown b1'
        have G2 := cell_regrown y1
        have G3 := cell_regrown hc'
        refine wp_region_quiet_below (by kernel_rfl) (by kernel_rfl) ?_
        repeat (go_big_quiet_step (fail))
        refine wpQuiet_nil ?_
        intro _ hw'
        obtain ⟨⟨dq, osq⟩, hw''⟩ := hw'
        subst hw''
        have hbq := below_regrown W2 dq osq
        clear G0 G1 G2 G3
        generalize Go.Sort.grow (redrawn W2 dq) osq = wq at *
        go_wp2
        go_ret
        exact ⟨rfl, hb2'.trans (hbq.mono hb2'.size)⟩
      · have d3 : decide ((l.length : Int) ≤ f) = false := by simpa using hg
        rw [if_neg (by omega)]
        clear hf hg
        go_enter Try.func22, Try.ntmps22
        go_wp2_with (first | (go_at_call 36; go_must (refine ((unhide reg_r) _ _ (by assumption) _).mono ?_); go_must (rintro e w3 ⟨rfl, hw3⟩; subst hw3)) | fail)
        clear hW2
        have G0 := cell_regrown z3
        have G1 := cell_regrown b1'
        have G2 := cell_regrown y1
        have G3 := cell_regrown hc'
        refine wp_region_quiet_below (by kernel_rfl) (by kernel_rfl) ?_
        repeat (go_big_quiet_step (fail))
        refine wpQuiet_nil ?_
        intro _ hw'
        obtain ⟨⟨dq, osq⟩, hw''⟩ := hw'
        subst hw''
        have hbq := below_regrown W2 dq osq
        clear G0 G1 G2 G3
        generalize Go.Sort.grow (redrawn W2 dq) osq = wq at *
        go_wp2
        go_ret
        exact ⟨rfl, hb2'.trans (hbq.mono hb2'.size)⟩

set_option maxRecDepth 100000 in
set_option maxHeartbeats 2000000 in
theorem rwrong_get (d s f n : Int) (r : Nat) (x : V) (h : RM w N rb vr vo vg fb m gs) (iD : InR d true) (iS : InR s true) (hr : s = (r : Nat)) (hx : m.regs[r]? = some x) (hxr : x.1 = true → 0 ≤ x.2 ∧ x.2 < m.objs.length) :
    Calls Try.prog 22 #[.pointer (some ⟨rb, 0, none⟩), .agg #[.int .i64 5, .int .i64 d, .int .i64 s, .int .i64 f, .int .i64 n]] w fun e w' => e = .returned (.int .i64 (wfE m x f)) ∧ Below w.heap.size w w' := by
  subst hr
  obtain ⟨g, c, rfl, hNg, hgl⟩ := h.regs_form
  obtain ⟨x0, x1, _⟩ := h.regs.cell hx
  have hr8 : r < 8 := by have := (List.getElem?_eq_some_iff.1 hx).1; have := h.n8; omega
  have hrI : (r : Int) < 8 := by omega
  have b0 := h.c0
  have b1 := h.c1
  have hrb := lt_of_heap h.box
  have hb1 := (dbox_new w 5 d (r : Nat) f n).below
  have hb2 : Below w.heap.size w ((w.alloc (.cells #[.int .i64 5, .int .i64 d, .int .i64 (r : Nat), .int .i64 f, .int .i64 n] 53)).alloc (.cells #[.bool x.1, .int .i64 x.2] 47)) := hb1.alloc (by simp) _
  obtain ⟨xr, xn⟩ := x
  cases xr
  · have hE : wfE m (false, xn) f = 5 := by simp [wfE]
    rw [hE]
    clear h hx hxr hE
    go_enter Try.func22, Try.ntmps22
    go_wp2_with (go_at_call 36; go_must (refine ((unhide reg_r) _ _ (by assumption) _).mono ?_); go_must (rintro e w3 ⟨rfl, hw3⟩; subst hw3))
    go_ret
    exact ⟨rfl, hb2⟩
  · obtain ⟨h0, h1⟩ := hxr rfl
    simp only at h0 h1
    obtain ⟨o, rfl⟩ := Int.eq_ofNat_of_zero_le h0
    have hol : o < m.objs.length := by omega
    have hl := List.getElem?_eq_getElem hol
    have hfl : fldM m (o : Int) = m.objs[o] := by unfold fldM; rw [Int.toNat_natCast, List.getD_eq_getElem?_getD, hl]; rfl
    have hE : wfE m (true, (o : Int)) f = if f < 0 ∨ (m.objs[o].length : Int) ≤ f then 3 else 0 := by simp [wfE, hfl]
    rw [hE]
    clear hE hfl
    obtain ⟨go, co, u, a, cu, rfl, hgo, _, rfl, hc, _⟩ := h.objAt hl
    have hoI : (o : Int) < (m.objs.length : Int) := by omega
    generalize m.objs[o] = l at *
    obtain ⟨W2, hW2⟩ : ∃ W2, (w.alloc (.cells #[.int .i64 5, .int .i64 d, .int .i64 (r : Nat), .int .i64 f, .int .i64 n] 53)).alloc (.cells #[.bool true, .int .i64 (o : Nat)] 47) = W2 := ⟨_, rfl⟩
    have z3 : W2.cell? ⟨w.heap.size, 3, none⟩ = some (.int .i64 f) := by rw [← hW2]; simp [go_sem]
    have y0 : W2.cell? ⟨w.heap.size + 1, 0, none⟩ = some (.bool true) := by rw [← hW2]; simp [go_sem]
    have y1 : W2.cell? ⟨w.heap.size + 1, 1, none⟩ = some (.int .i64 (o : Nat)) := by rw [← hW2]; simp [go_sem]
    have hb2' : Below w.heap.size w W2 := by rw [← hW2]; exact hb2
    have b1' := (hb2'.cell (p := ⟨rb, 1, none⟩) hrb).trans b1
    have hc' := (hb2'.cell (p := ⟨go, o, none⟩) hgo).trans hc
    have hs2 : w.heap.size + 1 < W2.heap.size := by rw [← hW2]; simp
    have hrb2 : rb < W2.heap.size := by omega
    have hgo2 : go < W2.heap.size := by omega
    clear h hx hl hxr hb2
    by_cases hf : f < 0
    · have d0 : decide (f < 0) = true := by simpa using hf
      rw [if_pos (.inl hf)]
      clear hf
      go_enter Try.func22, Try.ntmps22
      go_wp2_with (first | (go_at_call 36; go_must (refine ((unhide reg_r) _ _ (by assumption) _).mono ?_); go_must (rintro e w3 ⟨rfl, hw3⟩; subst hw3)) | fail)
      clear hW2
      have G0 := cell_regrown z3
      have G1 := cell_regrown b1'
      have G2 := cell_regrown y1
      have G3 := cell_regrown hc'
      refine wp_region_quiet_below (by kernel_rfl) (by kernel_rfl) ?_
      repeat (go_big_quiet_step (fail))
      refine wpQuiet_nil ?_
      intro _ hw'
      obtain ⟨⟨dq, osq⟩, hw''⟩ := hw'
      subst hw''
      have hbq := below_regrown W2 dq osq
      clear G0 G1 G2 G3
      generalize Go.Sort.grow (redrawn W2 dq) osq = wq at *
      go_wp2
      go_ret
      exact ⟨rfl, hb2'.trans (hbq.mono hb2'.size)⟩
    · have d0 : decide (f < 0) = false := by simpa using hf
      by_cases hg : (l.length : Int) ≤ f
      · have d3 : decide ((l.length : Int) ≤ f) = true := by simpa using hg
        rw [if_pos (.inr hg)]
        clear hf hg
        go_enter Try.func22, Try.ntmps22
        go_wp2_with (first | (go_at_call 36; go_must (refine ((unhide reg_r) _ _ (by assumption) _).mono ?_); go_must (rintro e w3 ⟨rfl, hw3⟩; subst hw3)) | fail)
        clear hW2
        have G0 := cell_regrown z3
        have G1 := cell_regrown b1'
        have G2 := cell_regrown y1
        have G3 := cell_regrown hc'
        refine wp_region_quiet_below (by kernel_rfl) (by kernel_rfl) ?_
        repeat (go_big_quiet_step (fail))
        refine wpQuiet_nil ?_
        intro _ hw'
        obtain ⟨⟨dq, osq⟩, hw''⟩ := hw'
        subst hw''
        have hbq := below_regrown W2 dq osq
        clear G0 G1 G2 G3
        generalize Go.Sort.grow (redrawn W2 dq) osq = wq at *
        go_wp2
        go_ret
        exact ⟨rfl, hb2'.trans (hbq.mono hb2'.size)⟩
      · have d3 : decide ((l.length : Int) ≤ f) = false := by simpa using hg
        rw [if_neg (by omega)]
        clear hf hg
        go_enter Try.func22, Try.ntmps22
        go_wp2_with (first | (go_at_call 36; go_must (refine ((unhide reg_r) _ _ (by assumption) _).mono ?_); go_must (rintro e w3 ⟨rfl, hw3⟩; subst hw3)) | fail)
        clear hW2
        have G0 := cell_regrown z3
        have G1 := cell_regrown b1'
        have G2 := cell_regrown y1
        have G3 := cell_regrown hc'
        refine wp_region_quiet_below (by kernel_rfl) (by kernel_rfl) ?_
        repeat (go_big_quiet_step (fail))
        refine wpQuiet_nil ?_
        intro _ hw'
        obtain ⟨⟨dq, osq⟩, hw''⟩ := hw'
        subst hw''
        have hbq := below_regrown W2 dq osq
        clear G0 G1 G2 G3
        generalize Go.Sort.grow (redrawn W2 dq) osq = wq at *
        go_wp2
        go_ret
        exact ⟨rfl, hb2'.trans (hbq.mono hb2'.size)⟩
end

end Go.Proofs.Ytlolcdgbidboeaa

/- Walks: the document's Wrong, by its plain words. -/
namespace Go.Proofs.Ytlolcdgbidboeaa
set_option linter.unusedSimpArgs false
set_option linter.unusedVariables false
open Go.RowKit Go.Shelf

theorem rwrong_c (N rb : Nat) (vr vo vg : Value) (fb : List Value) (m : Mm) (gs : List Bool) (d : Dd) (w : World) (h : RM w N rb vr vo vg fb m gs) (hm : MOk m) :
    Calls Try.prog 22 #[.pointer (some ⟨rb, 0, none⟩), .agg #[.int .i64 d.kind, .int .i64 d.dst, .int .i64 d.src, .int .i64 d.fat, .int .i64 d.num]] w fun e w' => e = .returned (.int .i64 (wrongM m d)) ∧ Below w.heap.size w w' := by
  by_cases hk : d.kind < 1 ∨ 7 < d.kind
  · have e : wrongM m d = 5 := by unfold wrongM; rw [if_pos hk]
    rw [e]
    exact rwrong_kind rb w _ _ _ _ _ hk
  have d1 : decide (d.kind < 1) = false := by simp; omega
  have d2 : decide (7 < d.kind) = false := by simp; omega
  by_cases ha : (d.kind ≠ 7 ∧ (d.dst < 0 ∨ 8 ≤ d.dst)) ∨ (d.kind ≠ 1 ∧ d.kind ≠ 2 ∧ (d.src < 0 ∨ 8 ≤ d.src))
  · have e : wrongM m d = 2 := by unfold wrongM; rw [if_neg hk, if_pos ha]
    rw [e]
    by_cases h7 : d.kind = 7
    · rw [h7]
      refine rwrong_from7 rb w _ _ _ _ ⟨?_⟩
      rcases ha with ha | ha
      · exact absurd h7 ha.1
      · have := ha.2.2
        simp; omega
    · by_cases hd : d.dst < 0 ∨ 8 ≤ d.dst
      · exact rwrong_to rb w _ _ _ _ _ d1 d2 (by simpa using h7) ⟨by simp; omega⟩
      · rcases ha with ha | ha
        · exact absurd ha.2 hd
        · have := ha.2.2
          exact rwrong_from rb w _ _ _ _ _ d1 d2 (by simpa using h7) (by simpa using ha.1) (by simpa using ha.2.1) ⟨by simp; omega⟩ ⟨by simp; omega⟩
  have hdst : d.kind ≠ 7 → 0 ≤ d.dst ∧ d.dst < 8 := fun h7 => by omega
  have hsrc : d.kind ≠ 1 → d.kind ≠ 2 → 0 ≤ d.src ∧ d.src < 8 := fun h1 h2 => by omega
  by_cases k4 : d.kind = 4
  · obtain ⟨a1, a2⟩ := hdst (by omega)
    obtain ⟨a3, a4⟩ := hsrc (by omega) (by omega)
    have hwho : whoM d = d.dst := by unfold whoM; rw [if_neg (by omega)]
    have e : wrongM m d = wfE m (regM m d.dst) d.fat := by
      unfold wrongM wfE
      rw [if_neg hk, if_neg ha, if_neg (by omega), if_neg (by omega), hwho]
    rw [e, k4]
    have hr := reg_at h.n8 a1 a2
    exact rwrong_put N rb vr vo vg fb m gs w _ _ _ _ d.dst.toNat _ h ⟨by simp; omega⟩ ⟨by simp; omega⟩ (by omega) hr (regM_mem hm _)
  by_cases k5 : d.kind = 5
  · obtain ⟨a1, a2⟩ := hdst (by omega)
    obtain ⟨a3, a4⟩ := hsrc (by omega) (by omega)
    have hwho : whoM d = d.src := by unfold whoM; rw [if_pos k5]
    have e : wrongM m d = wfE m (regM m d.src) d.fat := by
      unfold wrongM wfE
      rw [if_neg hk, if_neg ha, if_neg (by omega), if_neg (by omega), hwho]
    rw [e, k5]
    have hr := reg_at h.n8 a3 a4
    exact rwrong_get N rb vr vo vg fb m gs w _ _ _ _ d.src.toNat _ h ⟨by simp; omega⟩ ⟨by simp; omega⟩ (by omega) hr (regM_mem hm _)
  have e : wrongM m d = if beyB d.kind d.num then 3 else 0 := by
    unfold wrongM
    rw [if_neg hk, if_neg ha, if_pos (show d.kind ≠ 4 ∧ d.kind ≠ 5 from ⟨k4, k5⟩)]
    by_cases hb : beyB d.kind d.num = true
    · rw [if_pos hb, if_pos ((beyB_iff _ _).1 hb)]
    · rw [if_neg hb, if_neg (fun hh => hb ((beyB_iff _ _).2 hh))]
  rw [e]
  have c5 : d.kind = 1 ∨ d.kind = 2 ∨ d.kind = 3 ∨ d.kind = 6 ∨ d.kind = 7 := by omega
  have hD : d.kind ≠ 7 → InR d.dst true := fun h7 => ⟨by have := hdst h7; simp; omega⟩
  have hS : d.kind ≠ 1 → d.kind ≠ 2 → InR d.src true := fun h1 h2 => ⟨by have := hsrc h1 h2; simp; omega⟩
  rcases c5 with c | c | c | c | c
  · rw [c]; exact rwrong_num1 rb w _ _ _ _ (hD (by omega))
  · rw [c]; exact rwrong_num2 rb w _ _ _ _ (hD (by omega))
  · rw [c]; exact rwrong_ok3 rb w _ _ _ _ (hD (by omega)) (hS (by omega) (by omega))
  · rw [c]; exact rwrong_ok6 rb w _ _ _ _ (hD (by omega)) (hS (by omega) (by omega))
  · rw [c]; exact rwrong_ok7 rb w _ _ _ _ (hS (by omega) (by omega))

end Go.Proofs.Ytlolcdgbidboeaa

/- Walks: the document's New. -/
namespace Go.Proofs.Ytlolcdgbidboeaa
set_option linter.unusedSimpArgs false
set_option linter.unusedVariables false
open Go.RowKit Go.Shelf

section
variable {W W1 W2 : World} {N rb : Nat} {vr vo vg : Value} {fb : List Value} {m : Mm} {gs : List Bool}

/-- Behind the append, ahead of the store: an object more. -/
theorem RM.pushObj {u vo' : Value} {l : List V} (h : RM W N rb vr vo vg fb m gs) (hb : Below W.heap.size W W1) (hu : OwnV W1 N u l) (hub : ∀ k, u.ownBlock = some k → W.heap.size ≤ k)
    (hrow : W2.ownsRow N 62 1 vo' (fb.length + 1) (fb ++ [u])) (hg : W1.grownBy W2 vo.ownBlock) (hat : vo'.ownBlock = vo.ownBlock ∨ vo'.ownBlock = some W1.heap.size) :
    W2.heap[rb]? = some (.cells [vr, vo, vg].toArray 88) ∧ RM (W2.setCell ⟨rb, 1, none⟩ vo') N rb vr vo' vg (fb ++ [u]) { m with objs := m.objs ++ [l] } gs ∧ Kp (RS rb vr vo vg fb) W (W2.setCell ⟨rb, 1, none⟩ vo') ∧ ∀ k, RS rb vr vo' vg (fb ++ [u]) k → RS rb vr vo vg fb k ∨ W.heap.size ≤ k := by
  have hx := h.below hb
  have hsz := hb.size
  have hap : ∀ k, u.ownBlock = some k → ¬ OwnO.In vo fb k := fun k hk hi => by have := (h.own.lt hi).2; have := hub k hk; omega
  have hP := hx.own.push hg hrow hat hu hap
  have hvo : ∀ k, vo.ownBlock = some k → OwnO.In vo fb k := fun k hk => .inl hk
  have hbox : W2.heap[rb]? = some (.cells [vr, vo, vg].toArray 88) := (hg.block rb (lt_of_heap hx.box) (fun e => h.rb_own (hvo rb e.symm))).trans hx.box
  have hk1 : Kp (RS rb vr vo vg fb) W W2 := (Kp.of_below hb).trans (S' := RS rb vr vo vg fb) (Kp.of_grown hg (fun k hk => .inr (.inr (.inr (hvo k hk))))) (fun k e => .inl e)
  have hk2 : Kp (fun k => k = rb) W2 (W2.setCell ⟨rb, 1, none⟩ vo') := Kp.set rb 1 vo' W2 rfl
  have hnew : ∀ k, RS rb vr vo' vg (fb ++ [u]) k → RS rb vr vo vg fb k ∨ W.heap.size ≤ k := by
    intro k hk
    rcases hk with hk | hk | hk | hk | ⟨v, hv, hk⟩
    · exact .inl (.inl hk)
    · exact .inl (.inr (.inl hk))
    · exact .inl (.inr (.inr (.inl hk)))
    · rcases hat with h1 | h1
      · rw [h1] at hk; exact .inl (.inr (.inr (.inr (.inl hk))))
      · rw [h1] at hk; injection hk with hk; right; omega
    · rcases List.mem_append.1 hv with hv | hv
      · exact .inl (.inr (.inr (.inr (.inr ⟨v, hv, hk⟩))))
      · simp only [List.mem_singleton] at hv
        subst hv
        exact .inr (hub k hk)
  have hin : ∀ k, OwnO.In vo' (fb ++ [u]) k → OwnO.In vo fb k ∨ W.heap.size ≤ k := by
    intro k hk
    rcases hk with hk | ⟨v, hv, hk⟩
    · rcases hat with h1 | h1
      · rw [h1] at hk; exact .inl (.inl hk)
      · rw [h1] at hk; injection hk with hk; right; omega
    · rcases List.mem_append.1 hv with hv | hv
      · exact .inl (.inr ⟨v, hv, hk⟩)
      · simp only [List.mem_singleton] at hv
        subst hv
        exact .inr (hub k hk)
  have hregs2 : OwnV W2 N vr m.regs := hx.regs.same (fun k hk => hg.block k (World.ownsRow.lt hx.regs k hk).2 (fun e => h.sep k hk (hvo k e.symm)))
  have hgone2 : W2.ownsRow N 4 1 vg gs.length (boolsV gs) := row_same hx.gone (fun k hk => hg.block k (hx.gone.lt k hk).2 (fun e => h.own_gone (hvo k e.symm) hk))
  refine ⟨hbox, ⟨?_, hregs2.same (fun k hk => hk2.block k (World.ownsRow.lt hregs2 k hk).2 (fun e => h.rb_regs (by rw [← e]; exact hk))), hP.keep hk2 (fun k hi e => ?_), row_same hgone2 (fun k hk => hk2.block k (hgone2.lt k hk).2 (fun e => h.rb_gone (by rw [← e]; exact hk))), h.n8, h.lo, fun k hk hi => ?_⟩, hk1.trans hk2 (fun k e => .inl (.inl e)), hnew⟩
  · have := box_set hbox 1 vo'
    simpa using this
  · subst e
    exact hP.ne hbox (by decide) (by decide) hi
  · rcases hin k hi with hi | hi
    · exact h.sep k hk hi
    · have := (World.ownsRow.lt h.regs k hk).2; omega

/-- Behind the append, ahead of the store: one more that did not go. -/
theorem RM.pushGone {vg' : Value} {b : Bool} (h : RM W N rb vr vo vg fb m gs) (hb : Below W.heap.size W W1)
    (hrow : W2.ownsRow N 4 1 vg' (gs.length + 1) (boolsV gs ++ [.bool b])) (hg : W1.grownBy W2 vg.ownBlock) (hat : vg'.ownBlock = vg.ownBlock ∨ vg'.ownBlock = some W1.heap.size) :
    W2.heap[rb]? = some (.cells [vr, vo, vg].toArray 88) ∧ RM (W2.setCell ⟨rb, 2, none⟩ vg') N rb vr vo vg' fb m (gs ++ [b]) ∧ Kp (RS rb vr vo vg fb) W (W2.setCell ⟨rb, 2, none⟩ vg') ∧ ∀ k, RS rb vr vo vg' fb k → RS rb vr vo vg fb k ∨ W.heap.size ≤ k := by
  have hx := h.below hb
  have hsz := hb.size
  have hbox : W2.heap[rb]? = some (.cells [vr, vo, vg].toArray 88) := (hg.block rb (lt_of_heap hx.box) (fun e => h.rb_gone e.symm)).trans hx.box
  have hk1 : Kp (RS rb vr vo vg fb) W W2 := (Kp.of_below hb).trans (S' := RS rb vr vo vg fb) (Kp.of_grown hg (fun k hk => .inr (.inr (.inl hk)))) (fun k e => .inl e)
  have hk2 : Kp (fun k => k = rb) W2 (W2.setCell ⟨rb, 2, none⟩ vg') := Kp.set rb 2 vg' W2 rfl
  have hregs2 : OwnV W2 N vr m.regs := hx.regs.same (fun k hk => hg.block k (World.ownsRow.lt hx.regs k hk).2 (fun e => h.regs_gone hk e.symm))
  have hown2 : OwnO W2 N vo fb m.objs := hx.own.same (fun k hk => hg.block k (hx.own.lt hk).2 (fun e => h.own_gone hk e.symm))
  refine ⟨hbox, ⟨?_, hregs2.same (fun k hk => hk2.block k (World.ownsRow.lt hregs2 k hk).2 (fun e => h.rb_regs (by rw [← e]; exact hk))), hown2.keep hk2 (fun k hi e => h.rb_own (e ▸ hi)), ?_, h.n8, h.lo, h.sep⟩, hk1.trans hk2 (fun k e => .inl (.inl e)), fun k hk => ?_⟩
  · have := box_set hbox 2 vg'
    simpa using this
  · have h1 : W2.ownsRow N 4 1 vg' (gs ++ [b]).length (boolsV (gs ++ [b])) := by rw [boolsV_snoc, List.length_append]; exact hrow
    exact row_same h1 (fun k hk => hk2.block k (h1.lt k hk).2 (fun e => row_ne h1 hbox (by decide) (by rw [← e]; exact hk)))
  · rcases hk with hk | hk | hk | hk
    · exact .inl (.inl hk)
    · exact .inl (.inr (.inl hk))
    · rcases hat with h1 | h1
      · rw [h1] at hk; exact .inl (.inr (.inr (.inl hk)))
      · rw [h1] at hk; injection hk with hk; right; omega
    · exact .inl (.inr (.inr (.inr hk)))
end

theorem Try.info4' : (Try.prog.info? 4).map (fun i => (i.zero, i.size, i.bytes)) = some (some (.bool false), 1, 1) := by kernel_rfl

/-- The fresh row of a new object, and the slice that holds it. -/
structure MkU (w W1 W2 : World) (N n : Nat) : Prop where
  below : Below W1.heap.size W1 W2
  own : OwnV W2 N (.slice (some ⟨W1.heap.size, 0, none⟩) n n) (List.replicate n (false, 0))
  cell : ∀ j u, ([.slice (some ⟨W1.heap.size, 0, none⟩) n n] : List Value)[j]? = some u → W2.cell? ((⟨W1.heap.size + 1, 0, none⟩ : Addr).add j) = some u
  size : W2.heap.size = W1.heap.size + 2

theorem mkU (w W1 : World) (N n : Nat) (M : Array Value) (hM : madeCells (Value.agg #[.bool false, .int .i64 0]).cells (n * 2) = M) (hn : n ≤ 8) (hN : N ≤ W1.heap.size) : MkU w W1 (((W1.alloc (.cells M 47)).alloc (.cells #[.slice (some ⟨W1.heap.size, 0, none⟩) n n] 62)).drew) N n := by
  subst hM
  refine ⟨(((Below.refl _ _).alloc (Nat.le_refl _) _).alloc (by simp) _).drew, ?_, fun j u hj => ?_, by simp⟩
  · exact (made_own W1 N n hn hN).below (((Below.refl _ _).alloc (Nat.le_refl _) _).drew)
  · exact cell_one_at (W1.alloc (.cells (madeCells (Value.agg #[.bool false, .int .i64 0]).cells (n * 2)) 47)) (.slice (some ⟨W1.heap.size, 0, none⟩) n n) 62 (W1.heap.size + 1) (by simp) j u hj

set_option maxRecDepth 100000 in
set_option maxHeartbeats 4000000 in
theorem new_c (N rb : Nat) (vr vo vg : Value) (fb : List Value) (m : Mm) (gs : List Bool) (r n : Nat) (k s f : Int) (w : World) (h : RM w N rb vr vo vg fb m gs) (hr : r < 8) (hn : n ≤ 4) (hol : m.objs.length ≤ 200) (hgl : gs.length ≤ 200) (hNw : N ≤ w.heap.size) :
    Calls Try.prog 37 #[.pointer (some ⟨rb, 0, none⟩), .agg #[.int .i64 k, .int .i64 (r : Nat), .int .i64 s, .int .i64 f, .int .i64 (n : Nat)]] w fun e w' => e = .returned (.tuple #[]) ∧ RRes N rb vr vo vg fb { regs := m.regs.set r (true, (m.objs.length : Int)), objs := m.objs ++ [List.replicate n (false, 0)] } (gs ++ [false]) w w' := by
  obtain ⟨rg, rc, hvr, hNg, hgl0⟩ := h.regs_form
  subst hvr
  have hfl := h.own.len
  obtain ⟨oa, oc, hvo⟩ := ownsRow_slice h.own.row
  subst hvo
  obtain ⟨ga, gc, hvg⟩ := ownsRow_slice h.gone
  subst hvg
  have hmk := run_made n (by omega)
  obtain ⟨M, HM⟩ : ∃ M, Hid (madeCells (Value.agg #[.bool false, .int .i64 0]).cells (n * 2) = M) := ⟨_, rfl⟩
  rw [unhide HM] at hmk
  obtain ⟨i0, hi, hz0, hz1, hz2⟩ := info_parts Try.info62'
  obtain ⟨j0, ji, jz0, jz1, jz2⟩ := info_parts Try.info4'
  obtain ⟨W1, hW1⟩ : ∃ W1, w.alloc (.cells #[.int .i64 k, .int .i64 (r : Nat), .int .i64 s, .int .i64 f, .int .i64 (n : Nat)] 53) = W1 := ⟨_, rfl⟩
  have hDB := dbox_new w k (r : Nat) s f (n : Nat)
  rw [hW1] at hDB
  obtain ⟨d0, d1, d2, d3, d4, hdl, hb1⟩ := hDB
  have hx := h.below hb1
  have c0 := hx.c0
  have c1 := hx.c1
  have c2 := hx.c2
  have hrb := lt_of_heap hx.box
  have hU := mkU w W1 N n M (unhide HM) (by omega) (by have := hb1.size; omega)
  have hrow2 := ownsRow_below hx.own.row hU.below
  have hcl := hU.cell
  have hone : ∀ u ∈ ([.slice (some ⟨W1.heap.size, 0, none⟩) n n] : List Value), u.oneCell' = true := by simp [Value.oneCell']
  have hmx : fb.length + 1 ≤ maxLen := by simp only [maxLen]; omega
  have hmy : (fb.length + 1) * 24 ≤ 140737488355328 := by omega
  have hbase : N ≤ (((W1.alloc (.cells M 47)).alloc (.cells #[.slice (some ⟨W1.heap.size, 0, none⟩) n n] 62)).drew).heap.size := by have := hU.size; have := hb1.size; omega
  have hdrb : w.heap.size ≠ rb := by have := lt_of_heap h.box; omega
  have Hq : Hid (∀ (v' : Value) (w7 : World), (((W1.alloc (.cells M 47)).alloc (.cells #[.slice (some ⟨W1.heap.size, 0, none⟩) n n] 62)).drew).grownBy w7 (Value.ownBlock (.slice oa fb.length oc)) → w7.ownsRow N 62 1 v' (fb.length + 1) (fb ++ [.slice (some ⟨W1.heap.size, 0, none⟩) n n]) → (v'.ownBlock = Value.ownBlock (.slice oa fb.length oc) ∨ v'.ownBlock = some (((W1.alloc (.cells M 47)).alloc (.cells #[.slice (some ⟨W1.heap.size, 0, none⟩) n n] 62)).drew).heap.size) →
      w7.heap[rb]? = some (.cells [.slice (some ⟨rg, 0, none⟩) 8 rc, .slice oa fb.length oc, .slice ga gs.length gc].toArray 88) ∧ RM (w7.setCell ⟨rb, 1, none⟩ v') N rb (.slice (some ⟨rg, 0, none⟩) 8 rc) v' (.slice ga gs.length gc) (fb ++ [.slice (some ⟨W1.heap.size, 0, none⟩) n n]) ⟨m.regs, m.objs ++ [List.replicate n (false, 0)]⟩ gs ∧ Kp (RS rb (.slice (some ⟨rg, 0, none⟩) 8 rc) (.slice oa fb.length oc) (.slice ga gs.length gc) fb) W1 (w7.setCell ⟨rb, 1, none⟩ v') ∧ ∀ j, RS rb (.slice (some ⟨rg, 0, none⟩) 8 rc) v' (.slice ga gs.length gc) (fb ++ [.slice (some ⟨W1.heap.size, 0, none⟩) n n]) j → RS rb (.slice (some ⟨rg, 0, none⟩) 8 rc) (.slice oa fb.length oc) (.slice ga gs.length gc) fb j ∨ W1.heap.size ≤ j) := fun v' w7 hg hrow hat => hx.pushObj hU.below hU.own (fun j hj => by simp [Value.ownBlock] at hj; omega) hrow hg hat
  have Hx := hide hx
  have Hh := hide h
  have Hb1 := hide hb1
  have Hfl := hide hfl
  clear hx h hU hfl hb1
  go_enter Try.func37, Try.ntmps37
  go_wp2
  clear hW1
  go_region_law (first
    | (refine step_append_at rfl _ _ 22 rfl N 62 i0 _ 1 24 Try.underlying22 hi hz0 hz1 hz2 rfl (Nat.zero_lt_one) (.slice oa fb.length oc) fb.length fb rfl hrow2 ⟨W1.heap.size + 1, 0, none⟩ 1 1 [.slice (some ⟨W1.heap.size, 0, none⟩) n n] rfl rfl hcl hone hmx hmy hbase ?_; intro v' w7 hrow7 hg7 hat7; obtain ⟨g7, cap7, hv7⟩ := ownsRow_succ hrow7; subst hv7; have hQ := (unhide Hq) _ _ hg7 hrow7 hat7; have e1 := box_cell hQ.1 1; simp only [List.getElem?_cons_succ, List.getElem?_cons_zero] at e1; have e2 := box_fr hQ.1 1; have e3 := lt_of_heap hQ.1; have HQ := hide hQ; clear hg7 hrow7 hat7 hQ))
  all_goals
    clear Hq hrow2 hcl e1 e2 e3 c0 c1 c2
    obtain ⟨W8, hW8⟩ : ∃ W8, w7.setCell ⟨rb, 1, none⟩ (.slice (some ⟨g7, 0, none⟩) (fb.length + 1) cap7) = W8 := ⟨_, rfl⟩
    obtain ⟨_, hR8, hK8, hS8⟩ := unhide HQ
    rw [hW8] at hR8 hK8 ⊢
    have c2 := hR8.c2
    have hrb8 := lt_of_heap hR8.box
    have hs8 := hK8.size
    have hN8 : N ≤ W8.heap.size := by have := (unhide Hb1).size; omega
    have hrow9 := hR8.gone.alloc (.cells #[.bool false] 4)
    have hone9 : ∀ u ∈ ([.bool false] : List Value), u.oneCell' = true := by simp [Value.oneCell']
    have hmx9 : gs.length + 1 ≤ maxLen := by simp only [maxLen]; omega
    have hmy9 : (gs.length + 1) * 1 ≤ 140737488355328 := by omega
    have hbase9 : N ≤ (W8.alloc (.cells #[.bool false] 4)).heap.size := by simp; omega
    have Hg : Hid (∀ (v' : Value) (w9 : World), (W8.alloc (.cells #[.bool false] 4)).grownBy w9 (Value.ownBlock (.slice ga gs.length gc)) → w9.ownsRow N 4 1 v' (gs.length + 1) (boolsV gs ++ [.bool false]) → (v'.ownBlock = Value.ownBlock (.slice ga gs.length gc) ∨ v'.ownBlock = some (W8.alloc (.cells #[.bool false] 4)).heap.size) → _) := fun v' w9 hg hrow hat => hR8.pushGone (b := false) ((Below.refl _ _).alloc (Nat.le_refl _) (.cells #[.bool false] 4)) hrow hg hat
    have HR8 := hide hR8
    have HK8 := hide hK8
    have HS8 := hide hS8
    clear HQ hW8 hR8 hK8 hS8
    go_wp2_with (at_builtin; go_must (refine wpList_append_own_at _ rfl _ _ 86 rfl N 4 j0 _ 1 1 Try.underlying86 ji jz0 jz1 jz2 rfl (by decide) _ gs.length _ rfl hrow9 ⟨W8.heap.size, 0, none⟩ 1 1 [.bool false] rfl rfl (cell_one_at _ _ _ _ rfl) hone9 hmx9 hmy9 hbase9 ?_); go_must (intro v9 w9 hr9 hg9 _ hat9; obtain ⟨g9, cap9, hv9⟩ := ownsRow_succ hr9; subst hv9; have hG := (unhide Hg) _ _ hg9 hr9 hat9; have e1 := box_cell hG.1 2; simp only [List.getElem?_cons_succ, List.getElem?_cons_zero] at e1; have e2 := box_fr hG.1 2; have e3 := lt_of_heap hG.1; have HG := hide hG; clear hr9 hg9 hat9 hG))
    clear Hg hrow9 e1 e2 e3 c2
    obtain ⟨W10, hW10⟩ : ∃ W10, w9.setCell ⟨rb, 2, none⟩ (.slice (some ⟨g9, 0, none⟩) (gs.length + 1) cap9) = W10 := ⟨_, rfl⟩
    obtain ⟨_, hR10, hK10, hS10⟩ := unhide HG
    rw [hW10] at hR10 hK10 ⊢
    have hK : Kp (RS rb (.slice (some ⟨rg, 0, none⟩) 8 rc) (.slice oa fb.length oc) (.slice ga gs.length gc) fb) W1 W10 := (unhide HK8).trans hK10 (unhide HS8)
    have hnd : ¬ RS rb (.slice (some ⟨rg, 0, none⟩) 8 rc) (.slice oa fb.length oc) (.slice ga gs.length gc) fb w.heap.size := fun e => by have := ((unhide Hh).lt e).2; omega
    have d1 := (hK.cell (p := ⟨w.heap.size, 1, none⟩) hdl hnd).trans d1
    have c0 := hR10.c0
    have c1 := hR10.c1
    have hrb10 := lt_of_heap hR10.box
    have hdl10 : w.heap.size < W10.heap.size := Nat.lt_of_lt_of_le hdl hK.size
    have hrl : r < m.regs.length := by have := hR10.n8; simp only at this; omega
    obtain ⟨x0, x1, xf⟩ := hR10.regs.cell (List.getElem?_eq_getElem hrl)
    generalize m.regs[r] = y at *
    have f0 := xf (r * 2)
    have f1 := xf (r * 2 + 1)
    have hrI : (r : Int) < 8 := by omega
    have hrg10 : rg < W10.heap.size := by have := hK.size; omega
    have hset := (hR10.below (Below.refl W10.heap.size W10).drew).setReg r (true, (fb.length : Int))
    have Hset := hide hset
    have HK := hide hK
    have HS10 := hide hS10
    have hwm : IntKind.i64.wrap ((fb.length : Int) + 1 - 1) = (fb.length : Int) := by rw [IntKind.wrap_i64]; have := unhide Hfl; omega
    have hfl2 : fb.length ≤ 200 := by have := unhide Hfl; omega
    clear HG hW10 hR10 hK10 hS10 hK hset xf d0 d2 d3 d4
    go_wp2
    go_still_tail 14, Try.mixed
    change wpList _ _ _ _ _ W10.drew
    go_wp2
    refine bodyPost_end (v := .tuple #[]) (results_none rfl _ _ _) rfl ⟨rfl, ?_⟩
    have hfin := unhide Hset
    have em : ({ regs := m.regs.set r (true, (m.objs.length : Int)), objs := m.objs ++ [List.replicate n (false, 0)] } : Mm) = { regs := m.regs.set r (true, (fb.length : Int)), objs := m.objs ++ [List.replicate n (false, 0)] } := by rw [unhide Hfl]
    rw [em]
    refine ⟨_, _, _, hfin.1, ?_, fun j hj => ?_⟩
    · refine ((Kp.of_below (unhide Hb1)).trans (unhide HK) (fun j e => .inl e)).trans (S' := fun j => j = rg) ((Kp.of_below ((Below.refl W10.heap.size W10).drew)).trans (S' := fun j => j = rg) hfin.2 (fun j e => .inl e)) (fun j e => .inl (.inr (.inl (by rw [e]; rfl))))
    · have hw1 := (unhide Hb1).size
      rcases (unhide HS10) j hj with hj | hj
      · rcases (unhide HS8) j hj with hj | hj
        · exact .inl hj
        · exact .inr (by omega)
      · exact .inr (by omega)

end Go.Proofs.Ytlolcdgbidboeaa

/- Walks: the document's Do. -/
namespace Go.Proofs.Ytlolcdgbidboeaa
set_option linter.unusedSimpArgs false
set_option linter.unusedVariables false
open Go.RowKit Go.Shelf

section
variable (N rb : Nat) (vr vo vg : Value) (fb : List Value) (m : Mm) (gs : List Bool) (w : World)

set_option maxRecDepth 100000 in
set_option maxHeartbeats 2000000 in
theorem rdo_int (r : Nat) (s f n : Int) (h : RM w N rb vr vo vg fb m gs) (hr : r < 8) :
    Calls Try.prog 23 #[.pointer (some ⟨rb, 0, none⟩), .agg #[.int .i64 2, .int .i64 (r : Nat), .int .i64 s, .int .i64 f, .int .i64 n]] w fun e w' => e = .returned (.agg #[.int .i64 0, .bool false, .int .i64 0]) ∧ RRes N rb vr vo vg fb { m with regs := m.regs.set r (false, n) } gs w w' := by
  obtain ⟨rg, rc, hvr, hNg, hgl0⟩ := h.regs_form
  subst hvr
  obtain ⟨W1, hW1⟩ : ∃ W1, (w.alloc (.cells #[.int .i64 2, .int .i64 (r : Nat), .int .i64 s, .int .i64 f, .int .i64 n] 53)).alloc (.cells #[.int .i64 0, .bool false, .int .i64 0] 55) = W1 := ⟨_, rfl⟩
  have hD := dtwo_new w 2 (r : Nat) s f n
  have hb1 := dtwo_below w (.cells #[.int .i64 2, .int .i64 (r : Nat), .int .i64 s, .int .i64 f, .int .i64 n] 53) (.cells #[.int .i64 0, .bool false, .int .i64 0] 55)
  rw [hW1] at hD hb1
  obtain ⟨c0, c1, c2, c3, c4, r0, r1, r2, f0, f1, f2, hlt, _⟩ := id hD
  have HD := hide hD
  have hx := h.below hb1
  have b0 := hx.c0
  have b1 := hx.c1
  have hrb := lt_of_heap hx.box
  have hrg1 : rg < W1.heap.size := Nat.lt_of_lt_of_le hgl0 hb1.size
  have hlt0 : w.heap.size < W1.heap.size := by omega
  have Hx := hide hx
  have Hh := hide h
  have hrl : r < m.regs.length := by have := hx.n8; omega
  have hrI : (r : Int) < 8 := by omega
  have u0 := (hx.regs.cell (List.getElem?_eq_getElem hrl)).1
  have u1 := (hx.regs.cell (List.getElem?_eq_getElem hrl)).2.1
  have f3 := (hx.regs.cell (List.getElem?_eq_getElem hrl)).2.2 (r * 2)
  have f4 := (hx.regs.cell (List.getElem?_eq_getElem hrl)).2.2 (r * 2 + 1)
  generalize m.regs[r] = y at *
  have hset := ((unhide Hx).below (Below.refl W1.heap.size W1).drew).setReg r (false, n)
  have Hset := hide hset
  clear hset
  clear h hx hD
  go_enter Try.func23, Try.ntmps23
  go_wp2
  clear hW1
  go_still_tail 10, Try.mixed
  change wpList _ _ _ _ _ W1.drew
  go_wp2
  refine bodyPost_ret (v := .agg #[.int .i64 0, .bool false, .int .i64 0]) (by simp [results, Try.results23, go_sem, r0, r1, r2]) rfl ⟨rfl, ?_⟩
  exact RRes.fin (b := w.heap.size + 1) (RRes.one (unhide Hset).1 ((Kp.of_below (Below.refl W1.heap.size W1).drew).trans (S' := fun j => j = rg) (unhide Hset).2 (fun j e => .inl e)) (.inr (.inl rfl))) (unhide Hh) hb1 (unhide HD).lt (by omega) 0 false 0

set_option maxRecDepth 100000 in
set_option maxHeartbeats 2000000 in
theorem rdo_move (r q : Nat) (f n : Int) (x : V) (h : RM w N rb vr vo vg fb m gs) (hr : r < 8) (hq : m.regs[q]? = some x) :
    Calls Try.prog 23 #[.pointer (some ⟨rb, 0, none⟩), .agg #[.int .i64 3, .int .i64 (r : Nat), .int .i64 (q : Nat), .int .i64 f, .int .i64 n]] w fun e w' => e = .returned (.agg #[.int .i64 0, .bool false, .int .i64 0]) ∧ RRes N rb vr vo vg fb { m with regs := m.regs.set r x } gs w w' := by
  obtain ⟨rg, rc, hvr, hNg, hgl0⟩ := h.regs_form
  subst hvr
  obtain ⟨W1, hW1⟩ : ∃ W1, (w.alloc (.cells #[.int .i64 3, .int .i64 (r : Nat), .int .i64 (q : Nat), .int .i64 f, .int .i64 n] 53)).alloc (.cells #[.int .i64 0, .bool false, .int .i64 0] 55) = W1 := ⟨_, rfl⟩
  have hD := dtwo_new w 3 (r : Nat) (q : Nat) f n
  have hb1 := dtwo_below w (.cells #[.int .i64 3, .int .i64 (r : Nat), .int .i64 (q : Nat), .int .i64 f, .int .i64 n] 53) (.cells #[.int .i64 0, .bool false, .int .i64 0] 55)
  rw [hW1] at hD hb1
  obtain ⟨c0, c1, c2, c3, c4, r0, r1, r2, f0, f1, f2, hlt, _⟩ := id hD
  have HD := hide hD
  have hx := h.below hb1
  have b0 := hx.c0
  have b1 := hx.c1
  have hrb := lt_of_heap hx.box
  have hrg1 : rg < W1.heap.size := Nat.lt_of_lt_of_le hgl0 hb1.size
  have hlt0 : w.heap.size < W1.heap.size := by omega
  have Hx := hide hx
  have Hh := hide h
  have v0 := (hx.regs.cell hq).1
  have v1 := (hx.regs.cell hq).2.1
  have hqI : (q : Int) < 8 := by have := (List.getElem?_eq_some_iff.1 hq).1; have := hx.n8; omega
  have hrl : r < m.regs.length := by have := hx.n8; omega
  have hrI : (r : Int) < 8 := by omega
  have u0 := (hx.regs.cell (List.getElem?_eq_getElem hrl)).1
  have u1 := (hx.regs.cell (List.getElem?_eq_getElem hrl)).2.1
  have f3 := (hx.regs.cell (List.getElem?_eq_getElem hrl)).2.2 (r * 2)
  have f4 := (hx.regs.cell (List.getElem?_eq_getElem hrl)).2.2 (r * 2 + 1)
  generalize m.regs[r] = y at *
  clear hq
  have hset := ((unhide Hx).below (Below.refl W1.heap.size W1).drew).setReg r x
  have Hset := hide hset
  clear hset
  clear h hx hD
  go_enter Try.func23, Try.ntmps23
  go_wp2
  clear hW1
  go_still_tail 15, Try.mixed
  change wpList _ _ _ _ _ W1.drew
  go_wp2
  refine bodyPost_ret (v := .agg #[.int .i64 0, .bool false, .int .i64 0]) (by simp [results, Try.results23, go_sem, r0, r1, r2]) rfl ⟨rfl, ?_⟩
  exact RRes.fin (b := w.heap.size + 1) (RRes.one (unhide Hset).1 ((Kp.of_below (Below.refl W1.heap.size W1).drew).trans (S' := fun j => j = rg) (unhide Hset).2 (fun j e => .inl e)) (.inr (.inl rfl))) (unhide Hh) hb1 (unhide HD).lt (by omega) 0 false 0

end

end Go.Proofs.Ytlolcdgbidboeaa

/- Walks: the document's Do. -/
namespace Go.Proofs.Ytlolcdgbidboeaa
set_option linter.unusedSimpArgs false
set_option linter.unusedVariables false
open Go.RowKit Go.Shelf

section
variable (N rb : Nat) (vr vo vg : Value) (fb : List Value) (m : Mm) (gs : List Bool) (w : World)

set_option maxRecDepth 100000 in
set_option maxHeartbeats 2000000 in
theorem rdo_put (r q j o : Nat) (n : Int) (x z : V) (l : List V) (h : RM w N rb vr vo vg fb m gs) (hy : m.regs[r]? = some (true, (o : Int))) (hq : m.regs[q]? = some x) (hl : m.objs[o]? = some l) (hj : l[j]? = some z) :
    Calls Try.prog 23 #[.pointer (some ⟨rb, 0, none⟩), .agg #[.int .i64 4, .int .i64 (r : Nat), .int .i64 (q : Nat), .int .i64 (j : Nat), .int .i64 n]] w fun e w' => e = .returned (.agg #[.int .i64 0, .bool false, .int .i64 0]) ∧ RRes N rb vr vo vg fb { m with objs := m.objs.set o (l.set j x) } gs w w' := by
  obtain ⟨rg, rc, hvr, hNg, hgl0⟩ := h.regs_form
  subst hvr
  obtain ⟨W1, hW1⟩ : ∃ W1, (w.alloc (.cells #[.int .i64 4, .int .i64 (r : Nat), .int .i64 (q : Nat), .int .i64 (j : Nat), .int .i64 n] 53)).alloc (.cells #[.int .i64 0, .bool false, .int .i64 0] 55) = W1 := ⟨_, rfl⟩
  have hD := dtwo_new w 4 (r : Nat) (q : Nat) (j : Nat) n
  have hb1 := dtwo_below w (.cells #[.int .i64 4, .int .i64 (r : Nat), .int .i64 (q : Nat), .int .i64 (j : Nat), .int .i64 n] 53) (.cells #[.int .i64 0, .bool false, .int .i64 0] 55)
  rw [hW1] at hD hb1
  obtain ⟨c0, c1, c2, c3, c4, r0, r1, r2, f0, f1, f2, hlt, _⟩ := id hD
  have HD := hide hD
  have hx := h.below hb1
  have b0 := hx.c0
  have b1 := hx.c1
  have hrb := lt_of_heap hx.box
  have hrg1 : rg < W1.heap.size := Nat.lt_of_lt_of_le hgl0 hb1.size
  have hlt0 : w.heap.size < W1.heap.size := by omega
  have Hx := hide hx
  have Hh := hide h
  have v0 := (hx.regs.cell hq).1
  have v1 := (hx.regs.cell hq).2.1
  have hqI : (q : Int) < 8 := by have := (List.getElem?_eq_some_iff.1 hq).1; have := hx.n8; omega
  have t0 := (hx.regs.cell hy).1
  have t1 := (hx.regs.cell hy).2.1
  have hrI : (r : Int) < 8 := by have := (List.getElem?_eq_some_iff.1 hy).1; have := hx.n8; omega
  obtain ⟨og, oc, u, a, cu, rfl, hog, hu, rfl, hoc, hV⟩ := hx.objAt hl
  have hol := (List.getElem?_eq_some_iff.1 hl).1
  have hoI : (o : Int) < (m.objs.length : Int) := by omega
  have hjl := (List.getElem?_eq_some_iff.1 hj).1
  obtain ⟨fg, fc, hv, hfg1, hfg2⟩ := hV.form (by omega)
  injection hv with e1 _ e2
  subst e1 e2
  have hjI : (j : Int) < (l.length : Int) := by omega
  have hfgw : fg < w.heap.size := (h.lt (.inr (.inr (.inr (.inr ⟨_, List.mem_of_getElem? hu, rfl⟩))))).2
  have j0 := (hV.cell hj).1
  have j1 := (hV.cell hj).2.1
  have f5 := (hV.cell hj).2.2 (j * 2)
  have f6 := (hV.cell hj).2.2 (j * 2 + 1)
  have hset := (hx.below (Below.refl W1.heap.size W1).drew).setFld hu hl j x
  have Hset := hide hset
  clear hset hV hu hl hj hy hq
  clear h hx hD
  go_enter Try.func23, Try.ntmps23
  go_wp2
  clear hW1
  go_still_tail 27, Try.mixed
  change wpList _ _ _ _ _ W1.drew
  go_wp2
  refine bodyPost_ret (v := .agg #[.int .i64 0, .bool false, .int .i64 0]) (by simp [results, Try.results23, go_sem, r0, r1, r2]) rfl ⟨rfl, ?_⟩
  exact RRes.fin (b := w.heap.size + 1) (RRes.one (unhide Hset).1 ((Kp.of_below (Below.refl W1.heap.size W1).drew).trans (S' := fun j => j = fg) (unhide Hset).2.1 (fun j e => .inl e)) (.inr (.inr (.inr (unhide Hset).2.2)))) (unhide Hh) hb1 (unhide HD).lt (by omega) 0 false 0

end

end Go.Proofs.Ytlolcdgbidboeaa

/- Walks: the document's Do. -/
namespace Go.Proofs.Ytlolcdgbidboeaa
set_option linter.unusedSimpArgs false
set_option linter.unusedVariables false
open Go.RowKit Go.Shelf

section
variable (N rb : Nat) (vr vo vg : Value) (fb : List Value) (m : Mm) (gs : List Bool) (w : World)

set_option maxRecDepth 100000 in
set_option maxHeartbeats 2000000 in
theorem rdo_get (r q j o : Nat) (n : Int) (z : V) (l : List V) (h : RM w N rb vr vo vg fb m gs) (hr : r < 8) (hy : m.regs[q]? = some (true, (o : Int))) (hl : m.objs[o]? = some l) (hj : l[j]? = some z) :
    Calls Try.prog 23 #[.pointer (some ⟨rb, 0, none⟩), .agg #[.int .i64 5, .int .i64 (r : Nat), .int .i64 (q : Nat), .int .i64 (j : Nat), .int .i64 n]] w fun e w' => e = .returned (.agg #[.int .i64 0, .bool false, .int .i64 0]) ∧ RRes N rb vr vo vg fb { m with regs := m.regs.set r z } gs w w' := by
  obtain ⟨rg, rc, hvr, hNg, hgl0⟩ := h.regs_form
  subst hvr
  obtain ⟨W1, hW1⟩ : ∃ W1, (w.alloc (.cells #[.int .i64 5, .int .i64 (r : Nat), .int .i64 (q : Nat), .int .i64 (j : Nat), .int .i64 n] 53)).alloc (.cells #[.int .i64 0, .bool false, .int .i64 0] 55) = W1 := ⟨_, rfl⟩
  have hD := dtwo_new w 5 (r : Nat) (q : Nat) (j : Nat) n
  have hb1 := dtwo_below w (.cells #[.int .i64 5, .int .i64 (r : Nat), .int .i64 (q : Nat), .int .i64 (j : Nat), .int .i64 n] 53) (.cells #[.int .i64 0, .bool false, .int .i64 0] 55)
  rw [hW1] at hD hb1
  obtain ⟨c0, c1, c2, c3, c4, r0, r1, r2, f0, f1, f2, hlt, _⟩ := id hD
  have HD := hide hD
  have hx := h.below hb1
  have b0 := hx.c0
  have b1 := hx.c1
  have hrb := lt_of_heap hx.box
  have hrg1 : rg < W1.heap.size := Nat.lt_of_lt_of_le hgl0 hb1.size
  have hlt0 : w.heap.size < W1.heap.size := by omega
  have Hx := hide hx
  have Hh := hide h
  have t0 := (hx.regs.cell hy).1
  have t1 := (hx.regs.cell hy).2.1
  have hqI : (q : Int) < 8 := by have := (List.getElem?_eq_some_iff.1 hy).1; have := hx.n8; omega
  obtain ⟨og, oc, u, a, cu, rfl, hog, hu, rfl, hoc, hV⟩ := hx.objAt hl
  have hol := (List.getElem?_eq_some_iff.1 hl).1
  have hoI : (o : Int) < (m.objs.length : Int) := by omega
  have hjl := (List.getElem?_eq_some_iff.1 hj).1
  obtain ⟨fg, fc, hv, hfg1, hfg2⟩ := hV.form (by omega)
  injection hv with e1 _ e2
  subst e1 e2
  have hjI : (j : Int) < (l.length : Int) := by omega
  have hfgw : fg < w.heap.size := (h.lt (.inr (.inr (.inr (.inr ⟨_, List.mem_of_getElem? hu, rfl⟩))))).2
  have j0 := (hV.cell hj).1
  have j1 := (hV.cell hj).2.1
  have f5 := (hV.cell hj).2.2 (j * 2)
  have f6 := (hV.cell hj).2.2 (j * 2 + 1)
  have hrl : r < m.regs.length := by have := hx.n8; omega
  have hrI : (r : Int) < 8 := by omega
  have u0 := (hx.regs.cell (List.getElem?_eq_getElem hrl)).1
  have u1 := (hx.regs.cell (List.getElem?_eq_getElem hrl)).2.1
  have f3 := (hx.regs.cell (List.getElem?_eq_getElem hrl)).2.2 (r * 2)
  have f4 := (hx.regs.cell (List.getElem?_eq_getElem hrl)).2.2 (r * 2 + 1)
  generalize m.regs[r] = y at *
  clear hV hu hl hj hy
  have hset := ((unhide Hx).below (Below.refl W1.heap.size W1).drew).setReg r z
  have Hset := hide hset
  clear hset
  clear h hx hD
  go_enter Try.func23, Try.ntmps23
  go_wp2
  clear hW1
  go_still_tail 27, Try.mixed
  change wpList _ _ _ _ _ W1.drew
  go_wp2
  refine bodyPost_ret (v := .agg #[.int .i64 0, .bool false, .int .i64 0]) (by simp [results, Try.results23, go_sem, r0, r1, r2]) rfl ⟨rfl, ?_⟩
  exact RRes.fin (b := w.heap.size + 1) (RRes.one (unhide Hset).1 ((Kp.of_below (Below.refl W1.heap.size W1).drew).trans (S' := fun j => j = rg) (unhide Hset).2 (fun j e => .inl e)) (.inr (.inl rfl))) (unhide Hh) hb1 (unhide HD).lt (by omega) 0 false 0

end

end Go.Proofs.Ytlolcdgbidboeaa

/- Walks: the document's Do. -/
namespace Go.Proofs.Ytlolcdgbidboeaa
set_option linter.unusedSimpArgs false
set_option linter.unusedVariables false
open Go.RowKit Go.Shelf

section
variable (N rb : Nat) (vr vo vg : Value) (fb : List Value) (m : Mm) (gs : List Bool) (w : World)

set_option maxRecDepth 100000 in
set_option maxHeartbeats 2000000 in
theorem rdo_same (r q : Nat) (f n : Int) (x y : V) (h : RM w N rb vr vo vg fb m gs) (hy : m.regs[r]? = some x) (hq : m.regs[q]? = some y) (hxy : x = y) :
    Calls Try.prog 23 #[.pointer (some ⟨rb, 0, none⟩), .agg #[.int .i64 6, .int .i64 (r : Nat), .int .i64 (q : Nat), .int .i64 f, .int .i64 n]] w fun e w' => e = .returned (.agg #[.int .i64 0, .bool false, .int .i64 1]) ∧ RRes N rb vr vo vg fb m gs w w' := by
  obtain ⟨rg, rc, hvr, hNg, hgl0⟩ := h.regs_form
  subst hvr
  obtain ⟨W1, hW1⟩ : ∃ W1, (w.alloc (.cells #[.int .i64 6, .int .i64 (r : Nat), .int .i64 (q : Nat), .int .i64 f, .int .i64 n] 53)).alloc (.cells #[.int .i64 0, .bool false, .int .i64 0] 55) = W1 := ⟨_, rfl⟩
  have hD := dtwo_new w 6 (r : Nat) (q : Nat) f n
  have hb1 := dtwo_below w (.cells #[.int .i64 6, .int .i64 (r : Nat), .int .i64 (q : Nat), .int .i64 f, .int .i64 n] 53) (.cells #[.int .i64 0, .bool false, .int .i64 0] 55)
  rw [hW1] at hD hb1
  obtain ⟨c0, c1, c2, c3, c4, r0, r1, r2, f0, f1, f2, hlt, _⟩ := id hD
  have HD := hide hD
  have hx := h.below hb1
  have b0 := hx.c0
  have b1 := hx.c1
  have hrb := lt_of_heap hx.box
  have hrg1 : rg < W1.heap.size := Nat.lt_of_lt_of_le hgl0 hb1.size
  have hlt0 : w.heap.size < W1.heap.size := by omega
  have Hx := hide hx
  have Hh := hide h
  have t0 := (hx.regs.cell hy).1
  have t1 := (hx.regs.cell hy).2.1
  have hrI : (r : Int) < 8 := by have := (List.getElem?_eq_some_iff.1 hy).1; have := hx.n8; omega
  have v0 := (hx.regs.cell hq).1
  have v1 := (hx.regs.cell hq).2.1
  have hqI : (q : Int) < 8 := by have := (List.getElem?_eq_some_iff.1 hq).1; have := hx.n8; omega
  have heq := eql_v x.1 y.1 x.2 y.2
  have hbb : (x.1 == y.1 && x.2 == y.2) = true := by rw [hxy]; simp
  rw [hbb] at heq
  clear hbb hxy hy hq
  clear h hx hD
  go_enter Try.func23, Try.ntmps23
  go_wp2
  clear hW1
  go_still Try.mixed
  go_wp2
  refine bodyPost_ret (v := .agg #[.int .i64 0, .bool false, .int .i64 1]) (by simp [results, Try.results23, go_sem, r0, r1, r2]) rfl ⟨rfl, ?_⟩
  exact RRes.fin (b := w.heap.size + 1) (RRes.none (unhide Hx) (Below.refl W1.heap.size W1).drew) (unhide Hh) hb1 (unhide HD).lt (by omega) 0 false 1

set_option maxRecDepth 100000 in
set_option maxHeartbeats 2000000 in
theorem rdo_other (r q : Nat) (f n : Int) (x y : V) (h : RM w N rb vr vo vg fb m gs) (hy : m.regs[r]? = some x) (hq : m.regs[q]? = some y) (hxy : ¬ x = y) :
    Calls Try.prog 23 #[.pointer (some ⟨rb, 0, none⟩), .agg #[.int .i64 6, .int .i64 (r : Nat), .int .i64 (q : Nat), .int .i64 f, .int .i64 n]] w fun e w' => e = .returned (.agg #[.int .i64 0, .bool false, .int .i64 0]) ∧ RRes N rb vr vo vg fb m gs w w' := by
  obtain ⟨rg, rc, hvr, hNg, hgl0⟩ := h.regs_form
  subst hvr
  obtain ⟨W1, hW1⟩ : ∃ W1, (w.alloc (.cells #[.int .i64 6, .int .i64 (r : Nat), .int .i64 (q : Nat), .int .i64 f, .int .i64 n] 53)).alloc (.cells #[.int .i64 0, .bool false, .int .i64 0] 55) = W1 := ⟨_, rfl⟩
  have hD := dtwo_new w 6 (r : Nat) (q : Nat) f n
  have hb1 := dtwo_below w (.cells #[.int .i64 6, .int .i64 (r : Nat), .int .i64 (q : Nat), .int .i64 f, .int .i64 n] 53) (.cells #[.int .i64 0, .bool false, .int .i64 0] 55)
  rw [hW1] at hD hb1
  obtain ⟨c0, c1, c2, c3, c4, r0, r1, r2, f0, f1, f2, hlt, _⟩ := id hD
  have HD := hide hD
  have hx := h.below hb1
  have b0 := hx.c0
  have b1 := hx.c1
  have hrb := lt_of_heap hx.box
  have hrg1 : rg < W1.heap.size := Nat.lt_of_lt_of_le hgl0 hb1.size
  have hlt0 : w.heap.size < W1.heap.size := by omega
  have Hx := hide hx
  have Hh := hide h
  have t0 := (hx.regs.cell hy).1
  have t1 := (hx.regs.cell hy).2.1
  have hrI : (r : Int) < 8 := by have := (List.getElem?_eq_some_iff.1 hy).1; have := hx.n8; omega
  have v0 := (hx.regs.cell hq).1
  have v1 := (hx.regs.cell hq).2.1
  have hqI : (q : Int) < 8 := by have := (List.getElem?_eq_some_iff.1 hq).1; have := hx.n8; omega
  have heq := eql_v x.1 y.1 x.2 y.2
  have hbb : (x.1 == y.1 && x.2 == y.2) = false := by cases hc : (x.1 == y.1 && x.2 == y.2); rfl; exact absurd ((eqV_iff x y).1 hc) hxy
  rw [hbb] at heq
  clear hbb hxy hy hq
  clear h hx hD
  go_enter Try.func23, Try.ntmps23
  go_wp2
  clear hW1
  go_still Try.mixed
  go_wp2
  refine bodyPost_ret (v := .agg #[.int .i64 0, .bool false, .int .i64 0]) (by simp [results, Try.results23, go_sem, r0, r1, r2]) rfl ⟨rfl, ?_⟩
  exact RRes.fin (b := w.heap.size + 1) (RRes.none (unhide Hx) (Below.refl W1.heap.size W1).drew) (unhide Hh) hb1 (unhide HD).lt (by omega) 0 false 0

end

end Go.Proofs.Ytlolcdgbidboeaa

/- Walks: the document's Do. -/
namespace Go.Proofs.Ytlolcdgbidboeaa
set_option linter.unusedSimpArgs false
set_option linter.unusedVariables false
open Go.RowKit Go.Shelf

section
variable (N rb : Nat) (vr vo vg : Value) (fb : List Value) (m : Mm) (gs : List Bool) (w : World)

set_option maxRecDepth 100000 in
set_option maxHeartbeats 2000000 in
theorem rdo_new (r n : Nat) (s f : Int) (h : RM w N rb vr vo vg fb m gs) (hr : r < 8) (hn : n ≤ 4) (hol : m.objs.length ≤ 200) (hgl : gs.length ≤ 200) (hNw : N ≤ w.heap.size) :
    Calls Try.prog 23 #[.pointer (some ⟨rb, 0, none⟩), .agg #[.int .i64 1, .int .i64 (r : Nat), .int .i64 s, .int .i64 f, .int .i64 (n : Nat)]] w fun e w' => e = .returned (.agg #[.int .i64 0, .bool false, .int .i64 0]) ∧ RRes N rb vr vo vg fb { regs := m.regs.set r (true, (m.objs.length : Int)), objs := m.objs ++ [List.replicate n (false, 0)] } (gs ++ [false]) w w' := by
  obtain ⟨rg, rc, hvr, hNg, hgl0⟩ := h.regs_form
  subst hvr
  obtain ⟨W1, hW1⟩ : ∃ W1, (w.alloc (.cells #[.int .i64 1, .int .i64 (r : Nat), .int .i64 s, .int .i64 f, .int .i64 (n : Nat)] 53)).alloc (.cells #[.int .i64 0, .bool false, .int .i64 0] 55) = W1 := ⟨_, rfl⟩
  have hD := dtwo_new w 1 (r : Nat) s f (n : Nat)
  have hb1 := dtwo_below w (.cells #[.int .i64 1, .int .i64 (r : Nat), .int .i64 s, .int .i64 f, .int .i64 (n : Nat)] 53) (.cells #[.int .i64 0, .bool false, .int .i64 0] 55)
  rw [hW1] at hD hb1
  obtain ⟨c0, c1, c2, c3, c4, r0, r1, r2, f0, f1, f2, hlt, _⟩ := id hD
  have HD := hide hD
  have hx := h.below hb1
  have b0 := hx.c0
  have b1 := hx.c1
  have hrb := lt_of_heap hx.box
  have hrg1 : rg < W1.heap.size := Nat.lt_of_lt_of_le hgl0 hb1.size
  have hlt0 : w.heap.size < W1.heap.size := by omega
  have Hx := hide hx
  have Hh := hide h
  have Hc := hide (new_c N rb _ vo vg fb m gs r n 1 s f W1 hx hr hn hol hgl (by have := hb1.size; omega))
  clear h hx hD
  go_enter Try.func23, Try.ntmps23
  go_wp2_with (go_at_call 37; go_must (refine (unhide Hc).mono ?_); go_must (rintro e w5 ⟨rfl, hR5⟩; obtain ⟨vo5, vg5, fb5, hP5, hK5, hS5⟩ := id hR5; have hD5 := (unhide HD).kept hK5 (fun j e => ((unhide Hh).lt e).2); have HR5 := hide hR5; clear c0 c1 c2 c3 c4 r0 r1 r2 f0 f1 f2; obtain ⟨c0, c1, c2, c3, c4, r0, r1, r2, f0, f1, f2, hlt5, _⟩ := hD5; clear hR5 hP5 hK5 hS5))
  refine bodyPost_ret (v := .agg #[.int .i64 0, .bool false, .int .i64 0]) (by simp [results, Try.results23, go_sem, r0, r1, r2]) rfl ⟨rfl, ?_⟩
  exact RRes.fin (b := w.heap.size + 1) (unhide HR5) (unhide Hh) hb1 (unhide HD).lt (by omega) 0 false 0

set_option maxRecDepth 100000 in
set_option maxHeartbeats 2000000 in
theorem rdo_num (q : Nat) (d f n z : Int) (h : RM w N rb vr vo vg fb m gs) (hq : m.regs[q]? = some (false, z)) :
    Calls Try.prog 23 #[.pointer (some ⟨rb, 0, none⟩), .agg #[.int .i64 7, .int .i64 d, .int .i64 (q : Nat), .int .i64 f, .int .i64 n]] w fun e w' => e = .returned (.agg #[.int .i64 0, .bool false, .int .i64 z]) ∧ RRes N rb vr vo vg fb m gs w w' := by
  obtain ⟨rg, rc, hvr, hNg, hgl0⟩ := h.regs_form
  subst hvr
  obtain ⟨W1, hW1⟩ : ∃ W1, (w.alloc (.cells #[.int .i64 7, .int .i64 d, .int .i64 (q : Nat), .int .i64 f, .int .i64 n] 53)).alloc (.cells #[.int .i64 0, .bool false, .int .i64 0] 55) = W1 := ⟨_, rfl⟩
  have hD := dtwo_new w 7 d (q : Nat) f n
  have hb1 := dtwo_below w (.cells #[.int .i64 7, .int .i64 d, .int .i64 (q : Nat), .int .i64 f, .int .i64 n] 53) (.cells #[.int .i64 0, .bool false, .int .i64 0] 55)
  rw [hW1] at hD hb1
  obtain ⟨c0, c1, c2, c3, c4, r0, r1, r2, f0, f1, f2, hlt, _⟩ := id hD
  have HD := hide hD
  have hx := h.below hb1
  have b0 := hx.c0
  have b1 := hx.c1
  have hrb := lt_of_heap hx.box
  have hrg1 : rg < W1.heap.size := Nat.lt_of_lt_of_le hgl0 hb1.size
  have hlt0 : w.heap.size < W1.heap.size := by omega
  have Hx := hide hx
  have Hh := hide h
  have v0 := (hx.regs.cell hq).1
  have v1 := (hx.regs.cell hq).2.1
  have hqI : (q : Int) < 8 := by have := (List.getElem?_eq_some_iff.1 hq).1; have := hx.n8; omega
  simp only at v0 v1
  clear hq
  have hb12 : Below W1.heap.size W1 ((W1.alloc (.cells #[.bool false, .int .i64 z] 47)).drew) := ((Below.refl _ _).alloc (Nat.le_refl _) _).drew
  clear h hx hD
  go_enter Try.func23, Try.ntmps23
  go_wp2
  clear hW1
  go_region
  all_goals
    obtain ⟨W2, hW2⟩ : ∃ W2, (W1.alloc (.cells #[.bool false, .int .i64 z] 47)).drew = W2 := ⟨_, rfl⟩
    rw [hW2] at hb12 ⊢
    have z0 : W2.cell? ⟨W1.heap.size, 0, none⟩ = some (.bool false) := by rw [← hW2]; simp [go_sem]
    have z1 : W2.cell? ⟨W1.heap.size, 1, none⟩ = some (.int .i64 z) := by rw [← hW2]; simp [go_sem]
    have hsz2 : W1.heap.size < W2.heap.size := by rw [← hW2]; simp
    have HD2 := hide ((unhide HD).on hb12)
    clear hW2 c0 c1 c2 c3 c4 r0 r1 r2 f0 f1 f2
    obtain ⟨c0, c1, c2, c3, c4, r0, r1, r2, f0, f1, f2, hlt2, _⟩ := unhide HD2
    have hlt20 : w.heap.size < W2.heap.size := by omega
    go_wp2
    refine bodyPost_ret (v := .agg #[.int .i64 0, .bool false, .int .i64 z]) (by simp [results, Try.results23, go_sem, r0, r1, r2]) rfl ⟨rfl, ?_⟩
    exact RRes.fin (b := w.heap.size + 1) (RRes.none (unhide Hx) hb12) (unhide Hh) hb1 (unhide HD).lt (by omega) 0 false z

set_option maxRecDepth 100000 in
set_option maxHeartbeats 2000000 in
theorem rdo_ref (q o : Nat) (d f n : Int) (l : List V) (h : RM w N rb vr vo vg fb m gs) (hq : m.regs[q]? = some (true, (o : Int))) (hl : m.objs[o]? = some l) :
    Calls Try.prog 23 #[.pointer (some ⟨rb, 0, none⟩), .agg #[.int .i64 7, .int .i64 d, .int .i64 (q : Nat), .int .i64 f, .int .i64 n]] w fun e w' => e = .returned (.agg #[.int .i64 0, .bool true, .int .i64 (l.length : Nat)]) ∧ RRes N rb vr vo vg fb m gs w w' := by
  obtain ⟨rg, rc, hvr, hNg, hgl0⟩ := h.regs_form
  subst hvr
  obtain ⟨W1, hW1⟩ : ∃ W1, (w.alloc (.cells #[.int .i64 7, .int .i64 d, .int .i64 (q : Nat), .int .i64 f, .int .i64 n] 53)).alloc (.cells #[.int .i64 0, .bool false, .int .i64 0] 55) = W1 := ⟨_, rfl⟩
  have hD := dtwo_new w 7 d (q : Nat) f n
  have hb1 := dtwo_below w (.cells #[.int .i64 7, .int .i64 d, .int .i64 (q : Nat), .int .i64 f, .int .i64 n] 53) (.cells #[.int .i64 0, .bool false, .int .i64 0] 55)
  rw [hW1] at hD hb1
  obtain ⟨c0, c1, c2, c3, c4, r0, r1, r2, f0, f1, f2, hlt, _⟩ := id hD
  have HD := hide hD
  have hx := h.below hb1
  have b0 := hx.c0
  have b1 := hx.c1
  have hrb := lt_of_heap hx.box
  have hrg1 : rg < W1.heap.size := Nat.lt_of_lt_of_le hgl0 hb1.size
  have hlt0 : w.heap.size < W1.heap.size := by omega
  have Hx := hide hx
  have Hh := hide h
  have v0 := (hx.regs.cell hq).1
  have v1 := (hx.regs.cell hq).2.1
  have hqI : (q : Int) < 8 := by have := (List.getElem?_eq_some_iff.1 hq).1; have := hx.n8; omega
  simp only at v0 v1
  obtain ⟨og, oc, u, a, cu, rfl, hog, hu, rfl, hoc, _⟩ := hx.objAt hl
  have hol := (List.getElem?_eq_some_iff.1 hl).1
  have hoI : (o : Int) < (m.objs.length : Int) := by omega
  clear hq hl hu
  have hb12 : Below W1.heap.size W1 ((W1.alloc (.cells #[.bool true, .int .i64 (o : Nat)] 47)).drew) := ((Below.refl _ _).alloc (Nat.le_refl _) _).drew
  clear h hx hD
  go_enter Try.func23, Try.ntmps23
  go_wp2
  clear hW1
  go_region
  all_goals
    obtain ⟨W2, hW2⟩ : ∃ W2, (W1.alloc (.cells #[.bool true, .int .i64 (o : Nat)] 47)).drew = W2 := ⟨_, rfl⟩
    rw [hW2] at hb12 ⊢
    have z0 : W2.cell? ⟨W1.heap.size, 0, none⟩ = some (.bool true) := by rw [← hW2]; simp [go_sem]
    have z1 : W2.cell? ⟨W1.heap.size, 1, none⟩ = some (.int .i64 (o : Nat)) := by rw [← hW2]; simp [go_sem]
    have hsz2 : W1.heap.size < W2.heap.size := by rw [← hW2]; simp
    have HD2 := hide ((unhide HD).on hb12)
    clear hW2 c0 c1 c2 c3 c4 r0 r1 r2 f0 f1 f2
    obtain ⟨c0, c1, c2, c3, c4, r0, r1, r2, f0, f1, f2, hlt2, _⟩ := unhide HD2
    have hlt20 : w.heap.size < W2.heap.size := by omega
    have hoc := (hb12.cell (p := ⟨og, o, none⟩) hog).trans hoc
    have b1 := (hb12.cell (p := ⟨rb, 1, none⟩) hrb).trans b1
    have hrb2 : rb < W2.heap.size := by omega
    have hog2 : og < W2.heap.size := by omega
    have HDd := hide ((unhide HD2).on (Below.refl W2.heap.size W2).drew)
    go_wp2
    go_still_tail 11, Try.mixed
    change wpList _ _ _ _ _ W2.drew
    go_wp2
    refine bodyPost_ret (v := .agg #[.int .i64 0, .bool true, .int .i64 (l.length : Nat)]) (by simp [results, Try.results23, go_sem, r0, r1, r2]) rfl ⟨rfl, ?_⟩
    exact RRes.fin (b := w.heap.size + 1) (RRes.none (unhide Hx) (hb12.trans ((Below.refl W2.heap.size W2).drew.mono hb12.size))) (unhide Hh) hb1 (unhide HD).lt (by omega) 0 true (l.length : Nat)

end

end Go.Proofs.Ytlolcdgbidboeaa

/- Walks: the document's Do, by its plain words. -/
namespace Go.Proofs.Ytlolcdgbidboeaa
set_option linter.unusedSimpArgs false
set_option linter.unusedVariables false
open Go.RowKit Go.Shelf

theorem rdo_c (N rb : Nat) (vr vo vg : Value) (fb : List Value) (m : Mm) (gs : List Bool) (d : Dd) (w : World) (h : RM w N rb vr vo vg fb m gs) (hm : MOk m) (hw : wrongM m d = 0) (hgl : gs.length ≤ 200) (hol : m.objs.length ≤ 200) (hNw : N ≤ w.heap.size) :
    Calls Try.prog 23 #[.pointer (some ⟨rb, 0, none⟩), ddV d] w fun e w' => e = .returned (ouV (stepM m d).1) ∧ ∃ gs', gs'.length ≤ gs.length + 1 ∧ RRes N rb vr vo vg fb (stepM m d).2 gs' w w' := by
  have e : stepM m d = doM m d := by unfold stepM; rw [if_pos hw]
  rw [e]
  clear e
  obtain ⟨a1, a7, hdst, hsrc, hnew, hint⟩ := wrong_num hw
  have hfld := fun hk => wrong_ref (m := m) (d := d) hw hk
  obtain ⟨k, ds, s, f, n⟩ := d
  simp only at a1 a7 hdst hsrc hnew hint hfld
  have c7 : k = 1 ∨ k = 2 ∨ k = 3 ∨ k = 4 ∨ k = 5 ∨ k = 6 ∨ k = 7 := by omega
  rcases c7 with rfl | rfl | rfl | rfl | rfl | rfl | rfl
  · obtain ⟨h1, h2⟩ := hdst (by decide)
    obtain ⟨h3, h4⟩ := hnew rfl
    obtain ⟨r, rfl⟩ := Int.eq_ofNat_of_zero_le h1
    obtain ⟨q, rfl⟩ := Int.eq_ofNat_of_zero_le h3
    refine (rdo_new N rb vr vo vg fb m gs w r q s f h (by omega) (by omega) hol hgl hNw).mono ?_
    rintro e w5 ⟨he, hR⟩
    exact ⟨he, _, by simp, hR⟩
  · obtain ⟨h1, h2⟩ := hdst (by decide)
    obtain ⟨r, rfl⟩ := Int.eq_ofNat_of_zero_le h1
    refine (rdo_int N rb vr vo vg fb m gs w r s f n h (by omega)).mono ?_
    rintro e w5 ⟨he, hR⟩
    exact ⟨he, _, Nat.le_succ _, hR⟩
  · obtain ⟨h1, h2⟩ := hdst (by decide)
    obtain ⟨h3, h4⟩ := hsrc (by decide) (by decide)
    have hx := reg_at h.n8 h3 h4
    obtain ⟨r, rfl⟩ := Int.eq_ofNat_of_zero_le h1
    obtain ⟨q, rfl⟩ := Int.eq_ofNat_of_zero_le h3
    refine (rdo_move N rb vr vo vg fb m gs w r q f n (regM m (q : Int)) h (by omega) hx).mono ?_
    rintro e w5 ⟨he, hR⟩
    exact ⟨he, _, Nat.le_succ _, hR⟩
  · obtain ⟨h1, h2⟩ := hdst (by decide)
    obtain ⟨h3, h4⟩ := hsrc (by decide) (by decide)
    have hx := reg_at h.n8 h3 h4
    have hy := reg_at h.n8 h1 h2
    obtain ⟨g1, g2, g3⟩ := hfld (.inl rfl)
    have hwho : whoM ⟨4, ds, s, f, n⟩ = ds := by unfold whoM; rw [if_neg (show ¬ (4 : Int) = 5 by decide)]
    rw [hwho] at g1 g3
    have hb := regM_mem hm ds g1
    have hl := fld_at hb.1 hb.2
    obtain ⟨r, rfl⟩ := Int.eq_ofNat_of_zero_le h1
    obtain ⟨q, rfl⟩ := Int.eq_ofNat_of_zero_le h3
    obtain ⟨j, rfl⟩ := Int.eq_ofNat_of_zero_le g2
    have hv : regM m (r : Int) = (true, ((regM m (r : Int)).2.toNat : Int)) := by
      rw [Int.toNat_of_nonneg hb.1, ← g1]
    rw [hv] at hy
    have hj : j < (fldM m (regM m (r : Int)).2).length := by omega
    refine (rdo_put N rb vr vo vg fb m gs w r q j (regM m (r : Int)).2.toNat n (regM m (q : Int)) _ (fldM m (regM m (r : Int)).2) h hy hx hl (List.getElem?_eq_getElem hj)).mono ?_
    rintro e w5 ⟨he, hR⟩
    exact ⟨he, _, Nat.le_succ _, hR⟩
  · obtain ⟨h1, h2⟩ := hdst (by decide)
    obtain ⟨h3, h4⟩ := hsrc (by decide) (by decide)
    have hy := reg_at h.n8 h3 h4
    obtain ⟨g1, g2, g3⟩ := hfld (.inr rfl)
    have hwho : whoM ⟨5, ds, s, f, n⟩ = s := by unfold whoM; rw [if_pos rfl]
    rw [hwho] at g1 g3
    have hb := regM_mem hm s g1
    have hl := fld_at hb.1 hb.2
    obtain ⟨r, rfl⟩ := Int.eq_ofNat_of_zero_le h1
    obtain ⟨q, rfl⟩ := Int.eq_ofNat_of_zero_le h3
    obtain ⟨j, rfl⟩ := Int.eq_ofNat_of_zero_le g2
    have hv : regM m (q : Int) = (true, ((regM m (q : Int)).2.toNat : Int)) := by
      rw [Int.toNat_of_nonneg hb.1, ← g1]
    rw [hv] at hy
    have hj : j < (fldM m (regM m (q : Int)).2).length := by omega
    have hx : (fldM m (regM m (q : Int)).2)[j]? = some ((fldM m (regM m (q : Int)).2).getD j (false, 0)) := by rw [List.getD_eq_getElem?_getD, List.getElem?_eq_getElem hj]; rfl
    refine (rdo_get N rb vr vo vg fb m gs w r q j (regM m (q : Int)).2.toNat n _ (fldM m (regM m (q : Int)).2) h (by omega) hy hl hx).mono ?_
    rintro e w5 ⟨he, hR⟩
    exact ⟨he, _, Nat.le_succ _, hR⟩
  · obtain ⟨h1, h2⟩ := hdst (by decide)
    obtain ⟨h3, h4⟩ := hsrc (by decide) (by decide)
    have hx := reg_at h.n8 h1 h2
    have hy := reg_at h.n8 h3 h4
    obtain ⟨r, rfl⟩ := Int.eq_ofNat_of_zero_le h1
    obtain ⟨q, rfl⟩ := Int.eq_ofNat_of_zero_le h3
    have ed : doM m ⟨6, (r : Int), (q : Int), f, n⟩ = (⟨0, false, if regM m (r : Int) = regM m (q : Int) then 1 else 0⟩, m) := rfl
    rw [ed]
    by_cases hxy : regM m (r : Int) = regM m (q : Int)
    · rw [if_pos hxy]
      refine (rdo_same N rb vr vo vg fb m gs w r q f n _ _ h hx hy hxy).mono ?_
      rintro e w5 ⟨he, hR⟩
      exact ⟨he, _, Nat.le_succ _, hR⟩
    · rw [if_neg hxy]
      refine (rdo_other N rb vr vo vg fb m gs w r q f n _ _ h hx hy hxy).mono ?_
      rintro e w5 ⟨he, hR⟩
      exact ⟨he, _, Nat.le_succ _, hR⟩
  · obtain ⟨h3, h4⟩ := hsrc (by decide) (by decide)
    have hx := reg_at h.n8 h3 h4
    obtain ⟨q, rfl⟩ := Int.eq_ofNat_of_zero_le h3
    have hreg := regM_mem hm (q : Int)
    have ed : doM m ⟨7, ds, (q : Int), f, n⟩ = (if (regM m (q : Int)).1 then ⟨0, true, ((fldM m (regM m (q : Int)).2).length : Int)⟩ else ⟨0, false, (regM m (q : Int)).2⟩, m) := rfl
    rw [ed]
    generalize regM m (q : Int) = x at *
    obtain ⟨b, v⟩ := x
    cases b
    · refine (rdo_num N rb vr vo vg fb m gs w q ds f n v h hx).mono ?_
      rintro e w5 ⟨he, hR⟩
      exact ⟨he, _, Nat.le_succ _, hR⟩
    · obtain ⟨h5, h6⟩ := hreg rfl
      simp only at h5 h6
      have hl := fld_at h5 h6
      obtain ⟨o, rfl⟩ := Int.eq_ofNat_of_zero_le h5
      refine (rdo_ref N rb vr vo vg fb m gs w q o ds f n _ h hx hl).mono ?_
      rintro e w5 ⟨he, hR⟩
      exact ⟨he, _, Nat.le_succ _, hR⟩

end Go.Proofs.Ytlolcdgbidboeaa

/- Walks: the document's answer: Renumber. -/
namespace Go.Proofs.Ytlolcdgbidboeaa
set_option linter.unusedSimpArgs false
set_option linter.unusedVariables false
open Go.RowKit

/-- The objects of a list alone. -/
def renG (g : Gr) (l : List Int) : Gr := { objs := l.map (fun o => (fieldsOf g o).map (renV l)), roots := g.roots.map (renV l) }

set_option maxRecDepth 100000 in
set_option maxHeartbeats 1000000 in
theorem renum_c (ao ar al : Option Addr) (co cr cl : Nat) (g : Gr) (l : List Int) (w : World) (ho : Objs w.heap.size w ao g.objs) (hr : Vals w.heap.size w ar g.roots) (hl : Ints w.heap.size w al l)
    (hG : Good g) (hln : l.length ≤ 256) (hin : ∀ o ∈ l, 0 ≤ o ∧ o < g.objs.length) :
    Calls Try.prog 25 #[.agg #[.slice ao g.objs.length co, .slice ar g.roots.length cr], .slice al l.length cl] w fun e w' => ∃ ao' co' ar' cr', e = .returned (.agg #[.slice ao' (renG g l).objs.length co', .slice ar' (renG g l).roots.length cr']) ∧
      (∃ base es, w.heap.size ≤ base ∧ ObjRow w' base (.slice ao' (renG g l).objs.length co') (renG g l).objs es) ∧ Vals w'.heap.size w' ar' (renG g l).roots ∧ (∀ b off, ar' = some ⟨b, off, none⟩ → w.heap.size ≤ b) ∧ Below w.heap.size w w' := by
  have hn8 := hG.n8
  obtain ⟨W4, hW4⟩ : ∃ W4, (w.alloc (.cells #[.slice ao g.objs.length co, .slice ar g.roots.length cr] 25)).alloc (.cells #[.slice none 0 0, .slice none 0 0] 25) = W4 := ⟨_, rfl⟩
  have hb1 : Below w.heap.size w W4 := by rw [← hW4]; exact ((Below.refl w.heap.size w).alloc (Nat.le_refl _) _).alloc (by simp) _
  have hs4 : w.heap.size + 1 < W4.heap.size := by rw [← hW4]; simp
  have q0 : W4.cell? ⟨w.heap.size + 1, 0, none⟩ = some (.slice none 0 0) := by rw [← hW4]; simp [go_sem]
  have q1 : W4.cell? ⟨w.heap.size + 1, 1, none⟩ = some (.slice none 0 0) := by rw [← hW4]; simp [go_sem]
  have f0 : W4.frozen? ⟨w.heap.size + 1, 0, none⟩ = false := by rw [← hW4]; simp [go_sem]
  have f1 : W4.frozen? ⟨w.heap.size + 1, 1, none⟩ = false := by rw [← hW4]; simp [go_sem]
  have g0 : W4.cell? ⟨w.heap.size, 0, none⟩ = some (.slice ao g.objs.length co) := by rw [← hW4]; simp [go_sem]
  have g1 : W4.cell? ⟨w.heap.size, 1, none⟩ = some (.slice ar g.roots.length cr) := by rw [← hW4]; simp [go_sem]
  go_enter Try.func25, Try.ntmps25
  go_wp2_with fail
  refine (turned_c ar al cr cl g.roots l W4 ((hr.below hb1).mono (by omega)) ((hl.below hb1).mono (by omega)) (by omega)).mono ?_
  rintro e w5 ⟨ar', cr', rfl, hV5, hbs5, hb5⟩
  clear hW4
  have hs5 := hb5.size
  have q0 := (hb5.cell (p := ⟨w.heap.size + 1, 0, none⟩) (by simp; omega)).trans q0
  have q1 := (hb5.cell (p := ⟨w.heap.size + 1, 1, none⟩) (by simp; omega)).trans q1
  have f0 := (hb5.frozen (p := ⟨w.heap.size + 1, 0, none⟩) (by simp; omega)).trans f0
  have f1 := (hb5.frozen (p := ⟨w.heap.size + 1, 1, none⟩) (by simp; omega)).trans f1
  have g0 := (hb5.cell (p := ⟨w.heap.size, 0, none⟩) (by simp; omega)).trans g0
  have hbw5 : Below w.heap.size w w5 := hb1.trans (hb5.mono (by omega))
  clear hb1 hb5 g1
  go_wp2
  go_loopw [15] (fun i wr => ∃ (k : Nat) (v : Value) (es : List Value), k ≤ l.length ∧ i = .int .i64 k ∧ Below w5.heap.size w5 wr ∧ wr.cell? ⟨w5.heap.size, 0, none⟩ = some v ∧ wr.frozen? ⟨w5.heap.size, 0, none⟩ = false ∧ wr.cell? ⟨w5.heap.size, 1, none⟩ = some (.slice ar' g.roots.length cr') ∧
      ObjRow wr (w5.heap.size + 1) v ((l.take k).map (fun o => (fieldsOf g o).map (renV l))) es) (fun i _ => l.length - (intOf i).toNat)
  case atStart => exact ⟨0, .slice none 0 0, [], Nat.zero_le _, rfl, (Below.refl _ _).alloc (Nat.le_refl _) _, by simp [go_sem], by simp [go_sem], by simp [go_sem], objRow_nil _ _⟩
  case round =>
    obtain ⟨k, v, es, hk, rfl, hb, c0, cf0, c1, hrow⟩ := hrel
    have hsz := hb.size
    have hbwr : Below w.heap.size w wr := hbw5.trans (hb.mono (by have := hbw5.size; omega))
    by_cases hlt : k < l.length
    · have g0 := (hb.cell (p := ⟨w.heap.size, 0, none⟩) (by simp; omega)).trans g0
      obtain ⟨gg, ogg, rfl, hgl1, hx1⟩ := (hl.below hbwr).at hlt
      have hro := hin _ (List.getElem_mem hlt)
      have HT := hide (List.take_succ_eq_append_getElem hlt)
      generalize l[k] = o at *
      obtain ⟨o, rfl⟩ := Int.eq_ofNat_of_zero_le hro.1
      have hoN : o < g.objs.length := by omega
      obtain ⟨b, off, ai, ci, rfl, hbB, hcb, hva⟩ := (ho.below hbwr).at hoN
      have Hfs := hide (show fieldsOf g (o : Int) = g.objs[o] by simp [fieldsOf, hoN])
      have hl4 := hG.n4 _ (List.getElem_mem hoN)
      generalize g.objs[o] = fs at *
      have hLk : ((l.take k).map (fun o => (fieldsOf g o).map (renV l))).length = k := by simp; omega
      have hrr := hrow.row
      rw [hLk] at hrr
      obtain ⟨ca, cc, rfl⟩ := ownsRow_slice hrr
      obtain ⟨i0, hi, hz0, hz1, hz2⟩ := info_parts Try.info62
      have hoI : (o : Int) < (g.objs.length : Int) := by omega
      have hq : w5.heap.size < wr.heap.size := World.block_lt_of_cell? wr _ c0
      have hvr : Vals wr.drew.heap.size wr.drew ai fs := (hva.mono (B' := wr.heap.size) (by have := hbwr.size; omega)).below (Below.refl _ _).drew
      have hlr : Ints wr.drew.heap.size wr.drew (some ⟨gg, ogg, none⟩) l := ((hl.below hbwr).mono (B' := wr.heap.size) hbwr.size).below (Below.refl _ _).drew
      have hfl : fs.length ≤ 1000 := by omega
      have hmx : k + 1 ≤ maxLen := by simp only [maxLen]; omega
      have hmy : (k + 1) * 24 ≤ 140737488355328 := by omega
      have HL := hide hLk
      have HR := hide hrow
      clear hLk
      go_wp2
      go_region_law (first
        | (refine step_append_at rfl _ _ 22 rfl (w5.heap.size + 1) 62 i0 _ 1 24 Try.underlying22 hi hz0 hz1 hz2 rfl (Nat.zero_lt_one) (.slice ca k cc) k es rfl hrow6 ⟨w6.heap.size, 0, none⟩ 1 1 [.slice a6 fs.length c6] rfl rfl (cell_one_at _ _ _ _ rfl) hone hmx hmy hbase6 ?_; intro v' w7 hrow7 hg7 hat7; obtain ⟨g7, cap7, hv7⟩ := ownsRow_succ hrow7; subst hv7; have c07 := hg7.cell ((World.grownBy_alloc w6 (.cells #[.slice a6 fs.length c6] 62) none).cell c06 (by simp)) (fun e => hncb e.symm); have cf7 := (hg7.block w5.heap.size (by simp; omega) (fun e => hncb e.symm)); have cf8 := (World.frozen?_of_block (a := ⟨w5.heap.size, 0, none⟩) cf7).trans cf6a; have Hcf7 := hide cf7; clear cf7)
        | (refine step_call rfl 39 #[.slice ai fs.length ci, .slice (some ⟨gg, ogg, none⟩) l.length cl] (by go_simp) (fun v w6 => ∃ a6 c6, v = .slice a6 fs.length c6 ∧ Vals w6.heap.size w6 a6 (fs.map (renV l)) ∧ (∀ b off, a6 = some ⟨b, off, none⟩ → wr.heap.size ≤ b) ∧ Below wr.heap.size wr w6) ((turned_c ai (some ⟨gg, ogg, none⟩) ci cl fs l _ hvr hlr hfl).mono (by rintro e w6 ⟨a6, c6, rfl, hV6, hbs6, hb6⟩; exact ⟨_, rfl, a6, c6, rfl, hV6, hbs6, (Below.refl _ _).drew.trans hb6⟩)) ?_; rintro v6 w6 ⟨a6, c6, rfl, hV6, hbs6, hb6'⟩; have hrow6 := (hrr.kept (grown_of_below hb6') (by cases hv : Value.ownBlock (.slice ca k cc) <;> simp)).alloc (.cells #[.slice a6 fs.length c6] 62); have hs6 := hb6'.size; have c06 := (hb6'.cell (p := ⟨w5.heap.size, 0, none⟩) hq).trans c0; have cf6 := (hb6'.frozen (p := ⟨w5.heap.size, 0, none⟩) hq).trans cf0; have hq6 : w5.heap.size < w6.heap.size := Nat.lt_of_lt_of_le hq hs6; have cf6a : (w6.alloc (.cells #[.slice a6 fs.length c6] 62)).frozen? ⟨w5.heap.size, 0, none⟩ = false := (World.frozen?_of_block (a := ⟨w5.heap.size, 0, none⟩) (Below.heap_alloc w6 _ _ hq6)).trans cf6; have hone : ∀ u ∈ ([.slice a6 fs.length c6] : List Value), u.oneCell' = true := (by simp [Value.oneCell']); have hbase6 : w5.heap.size + 1 ≤ (w6.alloc (.cells #[.slice a6 fs.length c6] 62)).heap.size := (by simp; omega); have hncb : Value.ownBlock (.slice ca k cc) ≠ some w5.heap.size := (fun e => by have := (hrr.lt _ e).1; omega)))
      all_goals
        go_wp2
        go_roundw
        case rel =>
          obtain ⟨r1, r2⟩ := obj_step (l := fs.map (renV l)) (ci := c6) (unhide HR) (by omega) hV6 hb6' hbs6 (by rw [unhide HL, List.length_map]; exact hrow7) hg7 hat7 rfl
          refine ⟨k + 1, _, _, by omega, by go_num, hb.trans r2, World.cell?_setCell_same' _ _ _ (by rw [c07]; rfl), by rw [World.frozen?_setCell]; exact cf8, ?_, by rw [unhide HT, List.map_append, List.map_cons, List.map_nil, unhide Hfs]; exact r1⟩
          rw [World.cell?_setCell_other _ _ _ _ (by simp)]
          exact (World.cell?_of_block (a := ⟨w5.heap.size, 1, none⟩) (unhide Hcf7)).trans ((World.cell?_of_block (a := ⟨w5.heap.size, 1, none⟩) (Below.heap_alloc w6 _ _ hq6)).trans ((hb6'.cell (p := ⟨w5.heap.size, 1, none⟩) hq).trans c1))
        case measure => simp [intOf]; omega
    · obtain rfl : k = l.length := by omega
      rw [List.take_length] at hrow
      have hL : (l.map (fun o => (fieldsOf g o).map (renV l))) = (renG g l).objs := rfl
      have hR : g.roots.map (renV l) = (renG g l).roots := rfl
      rw [hL] at hrow
      rw [hR] at hV5
      have hLl : (renG g l).objs.length = l.length := by rw [← hL]; simp
      have hRl : (renG g l).roots.length = g.roots.length := by rw [← hR]; simp
      obtain ⟨va, vc, hv, hO⟩ := hrow.objs (by omega)
      subst hv
      have hV6 := (hV5.below hb).mono (B' := wr.heap.size) (by omega)
      have HLl := hide hLl
      have HRl := hide hRl
      clear hL hR hLl hRl
      have q0 := (hb.cell (p := ⟨w.heap.size + 1, 0, none⟩) (by simp; omega)).trans q0
      have q1 := (hb.cell (p := ⟨w.heap.size + 1, 1, none⟩) (by simp; omega)).trans q1
      have f0 := (hb.frozen (p := ⟨w.heap.size + 1, 0, none⟩) (by simp; omega)).trans f0
      have f1 := (hb.frozen (p := ⟨w.heap.size + 1, 1, none⟩) (by simp; omega)).trans f1
      have HR := hide hrow
      clear hO hrow
      go_wp2
      refine bodyPost_ret (v := .agg #[.slice va (renG g l).objs.length vc, .slice ar' g.roots.length cr']) (by simp [results, Try.results25, go_sem, q0, q1]) rfl ?_
      have hO := ((unhide HR).setCell (p := ⟨w.heap.size + 1, 0, none⟩) (by simp; omega) (.slice va (renG g l).objs.length vc)).setCell (p := ⟨w.heap.size + 1, 1, none⟩) (by simp; omega) (.slice ar' g.roots.length cr')
      refine ⟨_, _, ar', cr', by rw [unhide HRl], ⟨_, _, by omega, hO⟩, ?_, fun b off e => by have := hbs5 b off e; omega, ?_⟩
      · refine Vals.mono ((hV6.setCell ⟨w.heap.size + 1, 0, none⟩ (.slice va (renG g l).objs.length vc) (fun b off e => ?_)).setCell ⟨w.heap.size + 1, 1, none⟩ (.slice ar' g.roots.length cr') (fun b off e => ?_)) (by simp [World.setCell])
        · have := hbs5 b off e; simp; omega
        · have := hbs5 b off e; simp; omega
      · exact (hbwr.setCell (p := ⟨w.heap.size + 1, 0, none⟩) (by simp) _).setCell (p := ⟨w.heap.size + 1, 1, none⟩) (by simp) _

end Go.Proofs.Ytlolcdgbidboeaa

/- Walks: the document's answer: Order. -/
namespace Go.Proofs.Ytlolcdgbidboeaa
set_option linter.unusedSimpArgs false
set_option linter.unusedVariables false
open Go.RowKit

theorem refsL_no {l : List V} {k : Nat} (hk : k < l.length) {n : Int} (h : l[k] = (false, n)) : refsL (l.take (k + 1)) = refsL (l.take k) := by
  unfold refsL; rw [obsOf_no hk h]
theorem refsL_yes {l : List V} {k : Nat} (hk : k < l.length) {n : Int} (h : l[k] = (true, n)) (hn : 0 ≤ n ∧ n < 256) : refsL (l.take (k + 1)) = refsL (l.take k) ++ [n] := by
  unfold refsL; rw [obsOf_yes hk h hn]; simp [valsOf]

/-- One round of Order: a value of a list is found, if it refers to what isn't there. -/
theorem findA_yes {d : Int} {st : List Int × List Int} {xs : List Int} {o : Int} (h : o ∈ (findA d st xs).1) : findA d st (xs ++ [o]) = findA d st xs := by
  rw [findA_snoc, findS, if_pos h]
theorem findA_no {d : Int} {st : List Int × List Int} {xs : List Int} {o : Int} (h : o ∉ (findA d st xs).1) : (findA d st (xs ++ [o])).1 = (findA d st xs).1 ++ [o] := by
  rw [findA_snoc, findS, if_neg h]

set_option maxRecDepth 100000 in
set_option maxHeartbeats 1000000 in
theorem order_c (ao ar : Option Addr) (co cr : Nat) (g : Gr) (B : Nat) (w : World) (ho : Objs B w ao g.objs) (hr : Vals B w ar g.roots) (hB : B ≤ w.heap.size) (hG : Good g) :
    Calls Try.prog 52 #[.agg #[.slice ao g.objs.length co, .slice ar g.roots.length cr]] w fun e w' => ∃ a cap, e = .returned (.slice a (orderOf g).length cap) ∧ Ints w'.heap.size w' a (orderOf g) ∧ Below w.heap.size w w' := by
  obtain ⟨i0, hi, hz0, hz1, hz2⟩ := info_parts Try.info3
  have hn24 := hG.n24
  have hn8 := hG.n8
  obtain ⟨W0, hW0⟩ : ∃ W0, w.alloc (.cells #[.slice ao g.objs.length co, .slice ar g.roots.length cr] 25) = W0 := ⟨_, rfl⟩
  have hb0 : Below w.heap.size w W0 := by rw [← hW0]; exact (Below.refl _ _).alloc (Nat.le_refl _) _
  have hs0 : w.heap.size < W0.heap.size := by rw [← hW0]; simp
  have g0 : W0.cell? ⟨w.heap.size, 0, none⟩ = some (.slice ao g.objs.length co) := by rw [← hW0]; simp [go_sem]
  have g1 : W0.cell? ⟨w.heap.size, 1, none⟩ = some (.slice ar g.roots.length cr) := by rw [← hW0]; simp [go_sem]
  go_enter Try.func52, Try.ntmps52
  go_wp2
  clear hW0
  go_loopw [3, 12] (fun s i wr => ∃ k : Nat, k ≤ g.roots.length ∧ i = .int .i64 k ∧ wr.ownsRow W0.heap.size 3 1 s (findA 0 ([], []) (refsL (g.roots.take k))).1.length (intsV (findA 0 ([], []) (refsL (g.roots.take k))).1) ∧ Below W0.heap.size W0 wr) (fun _ i _ => g.roots.length - (intOf i).toNat)
  case atStart => exact ⟨0, Nat.zero_le _, rfl, World.ownsRow_nil _ _ _ _, Below.refl _ _⟩
  case round =>
    obtain ⟨k, hk, rfl, hown, hb⟩ := hrel
    have hsz := hb.size
    have hbw : Below B w wr := (hb0.mono hB).trans (hb.mono (by omega))
    by_cases hlt : k < g.roots.length
    · obtain ⟨b, off, r, n, rfl, hbB, hc1, hc2, Hv⟩ := (hr.below hbw).at hlt
      have hlen := findA_len 0 (refsL (g.roots.take k)) ([], [])
      have hlr : (refsL (g.roots.take k)).length ≤ 8 := by
        have h1 := obsOf_len (g.roots.take k)
        simp only [refsL, valsOf, List.length_map, List.length_take] at *
        omega
      simp only [List.length_nil, Nat.zero_add] at hlen
      cases r
      · have HT := hide (refsL_no hlt Hv.out)
        go_wp2
        go_roundw
        case rel => exact ⟨k + 1, by omega, by go_num, by rw [unhide HT]; exact hown.alloc _, hb.alloc hsz _⟩
        case measure => simp [intOf]; omega
      · have hn := hG.refsRoots _ (List.getElem_mem hlt)
        rw [Hv.out] at hn
        have hn := hn rfl
        have HT := hide (refsL_yes hlt Hv.out hn)
        by_cases hm : n ∈ (findA 0 ([], []) (refsL (g.roots.take k))).1
        · have HF := hide (findA_yes hm)
          have Hm := hide (show decide (n ∈ (findA 0 ([], []) (refsL (g.roots.take k))).1) = true from by simpa using hm)
          clear hm
          generalize hst : (findA 0 ([], []) (refsL (g.roots.take k))).1 = st at *
          have Hst := hide hst
          clear hst
          obtain ⟨sa, sc, rfl, hI, _⟩ := ints_of_owns hown rfl (by omega)
          have hIa := (hI.below ((Below.refl wr.heap.size wr).alloc (Nat.le_refl _) (.cells #[.bool true, .int .i64 n] 47)))
          go_wp2_with (go_at_call 57; go_must (refine (has_c _ _ st n wr.heap.size _ hIa).mono ?_); go_must (rintro e w3 ⟨he, hw3⟩; rw [unhide Hm] at he; subst he; subst hw3))
          go_roundw
          case rel => exact ⟨k + 1, by omega, by go_num, by rw [unhide HT, unhide HF, unhide Hst]; exact hown.alloc _, hb.alloc hsz _⟩
          case measure => simp [intOf]; omega
        · have HF := hide (findA_no hm)
          have Hm := hide (show decide (n ∈ (findA 0 ([], []) (refsL (g.roots.take k))).1) = false from by simpa using hm)
          clear hm
          generalize hst : (findA 0 ([], []) (refsL (g.roots.take k))).1 = st at *
          have Hst := hide hst
          clear hst
          obtain ⟨sa, sc, rfl, hI, _⟩ := ints_of_owns hown rfl (by omega)
          have hIa := (hI.below ((Below.refl wr.heap.size wr).alloc (Nat.le_refl _) (.cells #[.bool true, .int .i64 n] 47)))
          have hmx : st.length + 1 ≤ maxLen := by simp only [maxLen]; omega
          have hmy : (st.length + 1) * 8 ≤ 140737488355328 := by omega
          go_wp2_with (first
            | (go_at_call 57; go_must (refine (has_c _ _ st n wr.heap.size _ hIa).mono ?_); go_must (rintro e w3 ⟨he, hw3⟩; rw [unhide Hm] at he; subst he; subst hw3))
            | (at_builtin; go_must (refine wpList_append_own _ rfl _ _ 70 rfl W0.heap.size 3 i0 _ 1 8 Try.underlying70 hi hz0 hz1 hz2 rfl (by decide) _ _ _ rfl ((hown.alloc _).alloc _) ⟨wr.heap.size + 1, 0, none⟩ 1 1 [.int .i64 n] rfl rfl (cell_one_at _ _ _ _ (by simp)) (by simp [Value.oneCell']) hmx hmy (by simp; omega) ?_); intro v' w1 hown' hgrow _))
          go_roundw
          case rel => exact ⟨k + 1, by omega, by go_num, by rw [unhide HT, unhide HF, intsV_snoc, List.length_append]; exact hown', ((hb.alloc hsz _).alloc (by simp; omega) _).grown hgrow (by simp; omega) (fun q e => (hown.lt q e).1)⟩
          case measure => simp [intOf]; omega
    · obtain rfl : k = g.roots.length := by omega
      rw [List.take_length] at hown
      have hown : wr.ownsRow W0.heap.size 3 1 u3 (searchN g 0).1.length (intsV (searchN g 0).1) := hown
      go_wp2
      go_loopw [3, 6] (fun s i wr => ∃ k : Nat, k ≤ (searchN g k).1.length ∧ i = .int .i64 k ∧ wr.ownsRow W0.heap.size 3 1 s (searchN g k).1.length (intsV (searchN g k).1) ∧ Below W0.heap.size W0 wr) (fun _ i _ => g.objs.length - (intOf i).toNat)
      case atStart => exact ⟨0, Nat.zero_le _, rfl, hown, hb⟩
      case round =>
        clear hown hb hsz hbw
        obtain ⟨k, hk, rfl, hown, hb⟩ := hrel
        have hsz := hb.size
        have hbw : Below B w wr := (hb0.mono hB).trans (hb.mono (by omega))
        have hok := searchN_ok hG k
        have hkN := hok.le
        obtain ⟨sa, sc, rfl, hI, _⟩ := ints_of_owns hown rfl (by omega)
        by_cases hlt : k < (searchN g k).1.length
        · have hro := hok.rng _ (List.getElem_mem hlt)
          have HS : Hid (searchN g (k + 1) = findA (((searchN g k).2[k]?).getD 0 + 1) (searchN g k) (refsL (fieldsOf g (searchN g k).1[k]))) := by
            show searchN g (k + 1) = _
            rw [searchN_succ, List.getElem?_eq_getElem hlt]
          have g0 := (hb.cell (p := ⟨w.heap.size, 0, none⟩) (by simp; omega)).trans g0
          obtain ⟨gg, og, rfl, hgl, hx1⟩ := hI.at hlt
          generalize (searchN g k).1[k] = o at *
          obtain ⟨o, rfl⟩ := Int.eq_ofNat_of_zero_le hro.1
          have hoN : o < g.objs.length := by omega
          obtain ⟨b, off, ai, ci, rfl, hbB, hcb, hva⟩ := (ho.below hbw).at hoN
          have hva0 := hva.below' hbw
          have Hfs := hide (show fieldsOf g (o : Int) = g.objs[o] by simp [fieldsOf, hoN])
          have hl4 := hG.n4 _ (List.getElem_mem hoN)
          have hrf := hG.refsObjs (List.getElem_mem hoN)
          rw [unhide Hfs] at HS
          clear Hfs
          generalize g.objs[o] = fs at *
          generalize ((searchN g k).2[k]?).getD 0 + 1 = d at *
          have hoI : (o : Int) < (g.objs.length : Int) := by omega
          have hkI : (k : Int) < ((searchN g k).1.length : Int) := by omega
          have hsl := (searchN_ok hG k).le
          generalize searchN g k = sk at *
          go_wp2
          go_still Try.mixed
          go_wp2
          clear hx1 hI
          go_loopw [3, 47] (fun s i wi => ∃ j : Nat, j ≤ fs.length ∧ i = .int .i64 j ∧ wi.ownsRow W0.heap.size 3 1 s (findA d sk (refsL (fs.take j))).1.length (intsV (findA d sk (refsL (fs.take j))).1) ∧ Below W0.heap.size W0 wi) (fun _ i _ => fs.length - (intOf i).toNat)
          case atStart => exact ⟨0, Nat.zero_le _, rfl, hown, hb.trans (Below.refl _ _).drew⟩
          case round =>
            clear hown hb hsz hbw g0 hcb hva
            obtain ⟨j, hj, rfl, hown, hb⟩ := hrel
            have hsz := hb.size
            have hbw : Below B w wr := (hb0.mono hB).trans (hb.mono (by omega))
            by_cases hlt2 : j < fs.length
            · obtain ⟨b2, off2, r, n, rfl, hbB2, hc1, hc2, Hv⟩ := (hva0.below hbw).at hlt2
              have hlen := findA_len d (refsL (fs.take j)) sk
              have hlr : (refsL (fs.take j)).length ≤ 4 := by
                have h1 := obsOf_len (fs.take j)
                simp only [refsL, valsOf, List.length_map, List.length_take] at *
                omega
              cases r
              · have HT := hide (refsL_no hlt2 Hv.out)
                go_wp2
                go_roundw
                case rel => exact ⟨j + 1, by omega, by go_num, by rw [unhide HT]; exact hown.alloc _, hb.alloc hsz _⟩
                case measure => simp [intOf]; omega
              · have hn := hrf _ (List.getElem_mem hlt2)
                rw [Hv.out] at hn
                have hn := hn rfl
                have HT := hide (refsL_yes hlt2 Hv.out hn)
                by_cases hm : n ∈ (findA d sk (refsL (fs.take j))).1
                · have HF := hide (findA_yes hm)
                  have Hm := hide (show decide (n ∈ (findA d sk (refsL (fs.take j))).1) = true from by simpa using hm)
                  clear hm
                  generalize hst : (findA d sk (refsL (fs.take j))).1 = st at *
                  have Hst := hide hst
                  clear hst
                  obtain ⟨sa, sc, rfl, hI, _⟩ := ints_of_owns hown rfl (by omega)
                  have hIa := (hI.below ((Below.refl wr.heap.size wr).alloc (Nat.le_refl _) (.cells #[.bool true, .int .i64 n] 47)))
                  go_wp2_with (go_at_call 57; go_must (refine (has_c _ _ st n wr.heap.size _ hIa).mono ?_); go_must (rintro e w3 ⟨he, hw3⟩; rw [unhide Hm] at he; subst he; subst hw3))
                  go_roundw
                  case rel => exact ⟨j + 1, by omega, by go_num, by rw [unhide HT, unhide HF, unhide Hst]; exact hown.alloc _, hb.alloc hsz _⟩
                  case measure => simp [intOf]; omega
                · have HF := hide (findA_no hm)
                  have Hm := hide (show decide (n ∈ (findA d sk (refsL (fs.take j))).1) = false from by simpa using hm)
                  clear hm
                  generalize hst : (findA d sk (refsL (fs.take j))).1 = st at *
                  have Hst := hide hst
                  clear hst
                  obtain ⟨sa, sc, rfl, hI, _⟩ := ints_of_owns hown rfl (by omega)
                  have hIa := (hI.below ((Below.refl wr.heap.size wr).alloc (Nat.le_refl _) (.cells #[.bool true, .int .i64 n] 47)))
                  have hmx : st.length + 1 ≤ maxLen := by simp only [maxLen]; omega
                  have hmy : (st.length + 1) * 8 ≤ 140737488355328 := by omega
                  go_wp2_with (first
                    | (go_at_call 57; go_must (refine (has_c _ _ st n wr.heap.size _ hIa).mono ?_); go_must (rintro e w3 ⟨he, hw3⟩; rw [unhide Hm] at he; subst he; subst hw3))
                    | (at_builtin; go_must (refine wpList_append_own _ rfl _ _ 70 rfl W0.heap.size 3 i0 _ 1 8 Try.underlying70 hi hz0 hz1 hz2 rfl (by decide) _ _ _ rfl ((hown.alloc _).alloc _) ⟨wr.heap.size + 1, 0, none⟩ 1 1 [.int .i64 n] rfl rfl (cell_one_at _ _ _ _ (by simp)) (by simp [Value.oneCell']) hmx hmy (by simp; omega) ?_); intro v' w1 hown' hgrow _))
                  go_roundw
                  case rel => exact ⟨j + 1, by omega, by go_num, by rw [unhide HT, unhide HF, intsV_snoc, List.length_append]; exact hown', ((hb.alloc hsz _).alloc (by simp; omega) _).grown hgrow (by simp; omega) (fun q e => (hown.lt q e).1)⟩
                  case measure => simp [intOf]; omega
            · obtain rfl : j = fs.length := by omega
              rw [List.take_length] at hown
              have hgr := (findA_prefix d (refsL fs) sk).1.length_le
              go_wp2
              go_roundw
              case rel => exact ⟨k + 1, by rw [unhide HS]; omega, by go_num, by rw [unhide HS]; exact hown, hb⟩
              case measure => simp [intOf]; omega
        · have HS := hide (show orderOf g = (searchN g k).1 from by
            have := searchN_stable g (k := k) (by omega) (g.objs.length - k)
            rw [show k + (g.objs.length - k) = g.objs.length from by omega] at this
            unfold orderOf; rw [this])
          generalize (searchN g k).1 = sk at *
          go_wp2
          go_ret
          refine ⟨sa, sc, ?_, by rw [unhide HS]; exact hI, hb0.trans (hb.mono (by omega))⟩
          rw [unhide HS]; rfl

end Go.Proofs.Ytlolcdgbidboeaa

/- Walks: the document's answer: Canon, Graphs, Values. -/
namespace Go.Proofs.Ytlolcdgbidboeaa
set_option linter.unusedSimpArgs false
set_option linter.unusedVariables false
open Go.RowKit

set_option maxRecDepth 100000 in
set_option maxHeartbeats 1000000 in
theorem refCanon_c (ao ar : Option Addr) (co cr : Nat) (g : Gr) (B : Nat) (w : World) (ho : Objs B w ao g.objs) (hr : Vals B w ar g.roots) (hB : B ≤ w.heap.size) (hG : Good g) :
    Calls Try.prog 38 #[.agg #[.slice ao g.objs.length co, .slice ar g.roots.length cr]] w fun e w' => ∃ ao' co' ar' cr', e = .returned (.agg #[.slice ao' (canonG g).objs.length co', .slice ar' (canonG g).roots.length cr']) ∧
      ObjsF w.heap.size w' ao' (canonG g).objs ∧ ValsF w.heap.size w' ar' (canonG g).roots ∧ Below w.heap.size w w' := by
  have hol := (searchN_ok hG g.objs.length).le
  have hn24 := hG.n24
  obtain ⟨W4, hW4⟩ : ∃ W4, (w.alloc (.cells #[.slice ao g.objs.length co, .slice ar g.roots.length cr] 25)).alloc (.cells #[.slice none 0 0, .slice none 0 0] 25) = W4 := ⟨_, rfl⟩
  have hb1 : Below w.heap.size w W4 := by rw [← hW4]; exact ((Below.refl w.heap.size w).alloc (Nat.le_refl _) _).alloc (by simp) _
  have hs4 : w.heap.size + 1 < W4.heap.size := by rw [← hW4]; simp
  have q0 : W4.cell? ⟨w.heap.size + 1, 0, none⟩ = some (.slice none 0 0) := by rw [← hW4]; simp [go_sem]
  have q1 : W4.cell? ⟨w.heap.size + 1, 1, none⟩ = some (.slice none 0 0) := by rw [← hW4]; simp [go_sem]
  have f0 : W4.frozen? ⟨w.heap.size + 1, 0, none⟩ = false := by rw [← hW4]; simp [go_sem]
  have f1 : W4.frozen? ⟨w.heap.size + 1, 1, none⟩ = false := by rw [← hW4]; simp [go_sem]
  have g0 : W4.cell? ⟨w.heap.size, 0, none⟩ = some (.slice ao g.objs.length co) := by rw [← hW4]; simp [go_sem]
  have g1 : W4.cell? ⟨w.heap.size, 1, none⟩ = some (.slice ar g.roots.length cr) := by rw [← hW4]; simp [go_sem]
  go_enter Try.func38, Try.ntmps38
  go_wp2
  clear hW4
  have ho4 := (ho.below (hb1.mono hB)).below (Below.refl B W4).drew
  have hr4 := (hr.below (hb1.mono hB)).below (Below.refl B W4).drew
  have hB4 : B ≤ W4.drew.heap.size := by show B ≤ W4.heap.size; omega
  go_region_law (first
    | (refine step_call rfl 52 #[.agg #[.slice ao g.objs.length co, .slice ar g.roots.length cr]] (by go_simp) (fun v w6 => ∃ a6 c6, v = .slice a6 (orderOf g).length c6 ∧ Ints w6.heap.size w6 a6 (orderOf g) ∧ Below W4.heap.size W4 w6) ((order_c ao ar co cr g B _ ho4 hr4 hB4 hG).mono (by rintro e w6 ⟨a6, c6, rfl, hI6, hb6⟩; exact ⟨_, rfl, a6, c6, rfl, hI6, (Below.refl _ _).drew.trans hb6⟩)) ?_; rintro v6 w6 ⟨a6, c6, rfl, hI6, hb6⟩; have hs6 := hb6.size; have g06 := (hb6.cell (p := ⟨w.heap.size, 0, none⟩) (by simp; omega)).trans g0; have g16 := (hb6.cell (p := ⟨w.heap.size, 1, none⟩) (by simp; omega)).trans g1; have hbw6 : Below w.heap.size w w6 := hb1.trans (hb6.mono (by omega)); have ho6 : Objs w6.heap.size w6 ao g.objs := (ho.below (hbw6.mono hB)).mono (by have := hbw6.size; omega); have hr6 : Vals w6.heap.size w6 ar g.roots := (hr.below (hbw6.mono hB)).mono (by have := hbw6.size; omega))
    | (refine step_call rfl 25 #[.agg #[.slice ao g.objs.length co, .slice ar g.roots.length cr], .slice a6 (orderOf g).length c6] (by go_simp) (fun v w7 => ∃ ao' co' ar' cr', v = .agg #[.slice ao' (canonG g).objs.length co', .slice ar' (canonG g).roots.length cr'] ∧ (∃ base es, w6.heap.size ≤ base ∧ ObjRow w7 base (.slice ao' (canonG g).objs.length co') (canonG g).objs es) ∧ Vals w7.heap.size w7 ar' (canonG g).roots ∧ (∀ b off, ar' = some ⟨b, off, none⟩ → w6.heap.size ≤ b) ∧ Below w6.heap.size w6 w7) ((renum_c ao ar a6 co cr c6 g (orderOf g) w6 ho6 hr6 hI6 hG (by unfold orderOf; omega) (fun o h => order_ok hG h)).mono (by rintro e w7 ⟨x1, x2, x3, x4, rfl, x5, x6, x7, x8⟩; exact ⟨_, rfl, x1, x2, x3, x4, rfl, x5, x6, x7, x8⟩)) ?_; rintro v7 w7 ⟨ao', co', ar', cr', rfl, ⟨base7, es7, hbase7, hO7⟩, hV7, hbs7, hb7⟩; have q07 := (hb7.cell (p := ⟨w.heap.size + 1, 0, none⟩) (by simp; omega)).trans ((hb6.cell (p := ⟨w.heap.size + 1, 0, none⟩) (by simp; omega)).trans q0); have q17 := (hb7.cell (p := ⟨w.heap.size + 1, 1, none⟩) (by simp; omega)).trans ((hb6.cell (p := ⟨w.heap.size + 1, 1, none⟩) (by simp; omega)).trans q1); have f07 := (hb7.frozen (p := ⟨w.heap.size + 1, 0, none⟩) (by simp; omega)).trans ((hb6.frozen (p := ⟨w.heap.size + 1, 0, none⟩) (by simp; omega)).trans f0); have f17 := (hb7.frozen (p := ⟨w.heap.size + 1, 1, none⟩) (by simp; omega)).trans ((hb6.frozen (p := ⟨w.heap.size + 1, 1, none⟩) (by simp; omega)).trans f1)))
  all_goals
    go_wp2
    refine bodyPost_ret (v := .agg #[.slice ao' (canonG g).objs.length co', .slice ar' (canonG g).roots.length cr']) (by simp [results, Try.results38, go_sem, q07, q17]) rfl ?_
    obtain ⟨va', vc', hv, hO⟩ := ((hO7.setCell (p := ⟨w.heap.size + 1, 0, none⟩) (by simp; omega) (.slice ao' (canonG g).objs.length co')).setCell (p := ⟨w.heap.size + 1, 1, none⟩) (by simp; omega) (.slice ar' (canonG g).roots.length cr')).objsF (by simp only [canonG, List.length_map]; unfold orderOf; omega)
    injection hv with h1 _ h3
    subst h1 h3
    have hsw6 := hbw6.size
    refine ⟨_, _, ar', cr', rfl, hO.base (by omega), ⟨?_, fun b off e => by have := hbs7 b off e; omega⟩, ?_⟩
    · refine Vals.mono ((hV7.setCell ⟨w.heap.size + 1, 0, none⟩ (.slice ao' (canonG g).objs.length co') (fun b off e => ?_)).setCell ⟨w.heap.size + 1, 1, none⟩ (.slice ar' (canonG g).roots.length cr') (fun b off e => ?_)) (by simp [World.setCell])
      · have := hbs7 b off e; simp; omega
      · have := hbs7 b off e; simp; omega
    · exact ((hbw6.trans (hb7.mono (by have := hbw6.size; omega))).setCell (p := ⟨w.heap.size + 1, 0, none⟩) (by simp) _).setCell (p := ⟨w.heap.size + 1, 1, none⟩) (by simp) _

end Go.Proofs.Ytlolcdgbidboeaa
