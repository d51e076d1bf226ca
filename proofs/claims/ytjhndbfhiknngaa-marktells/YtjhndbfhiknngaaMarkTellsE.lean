/- Merged texts: Td Mg Mj Ml Mm Mn Mo Mp Mq Te Tf. -/
import Derived.Test.YtjhndbfhiknngaaProg
import Derived.Test.YtjhndbfhiknngaaMarkTellsD
import Derived.Deep.RegionLaw
import Derived.Deep.CutRange
import Derived.OwnWalk
import Derived.Laws.StructEq
import Derived.BigQuiet
import Derived.Deep.RegionWith

/- Walks: the document's Sweep. -/
namespace Go.Proofs.Ytjhndbfhiknngaa
set_option linter.unusedSimpArgs false
set_option linter.unusedVariables false
open Go.RowKit Go.Shelf

/-- Blocks, with m words more from p on. -/
def inB (S : List (Nat × Nat)) (p m : Nat) : List (Nat × Nat) := if m = 0 then S else joinB S (p, m)

theorem inB_zero (S : List (Nat × Nat)) (p : Nat) : inB S p 0 = S := rfl
theorem inB_succ (S : List (Nat × Nat)) (p m : Nat) : inB S p (m + 1) = joinB (inB S p m) (p + m, 1) := by
  rcases Nat.eq_zero_or_pos m with rfl | h
  · simp [inB]
  · rw [inB, if_neg (by omega), inB, if_neg (by omega), joinB_more]
theorem inB_apart {S : List (Nat × Nat)} {p : Nat} (h : Apart S p) (m : Nat) : Apart (inB S p m) (p + m) := by
  rcases Nat.eq_zero_or_pos m with rfl | hm
  · exact h
  · rw [inB, if_neg (by omega)]; exact apart_join h hm
theorem inB_len (S : List (Nat × Nat)) (p m : Nat) : (inB S p m).length ≤ S.length + 1 := by
  unfold inB
  split
  · omega
  · exact joinB_len _ _

/-- What the document's Sweep tells. -/
def RSw (l : List (Nat × Nat)) (e : Ending) (W : World) : Prop := ∃ a c, e = .returned (.slice a l.length c) ∧ Blks W.heap.size W a l

theorem cells3 {W : World} {b : Nat} {x y z : Value} {t : TypeId} (h : W.heap[b]? = some (.cells #[x, y, z] t)) : W.cell? ⟨b, 0, none⟩ = some x ∧ W.cell? ⟨b, 1, none⟩ = some y :=
  ⟨by rw [cell_of_row W b 0 _ t (0, 0) h]; rfl, by rw [cell_of_row W b 1 _ t (0, 0) h]; rfl⟩

set_option maxRecDepth 100000 in
set_option maxHeartbeats 8000000 in
theorem rsweep_c (aw ar : Option Addr) (cw nr cr : Nat) (ws : List Int) (hs : List Int) (fs : List (List Int)) (B : Nat) (w : World) (hW : Wds B w aw ws) (hUW : U64 ws) (hB : B ≤ w.heap.size) (hF : Fit hs fs) (hws : ws = joinW hs fs) (h256 : ws.length ≤ 256) :
    Calls Try.prog 13 #[.agg #[.slice aw ws.length cw, .slice ar nr cr]] w fun e w' => RSw (sweepL hs fs fs.length) e w' ∧ Below w.heap.size w w' := by
  obtain ⟨i0, hi0, hz0, hz1, hz2⟩ := info_parts Try.info57
  have hsp : splitR ws = some fs := by rw [hws]; exact fit_split hF
  have htot : tot fs = ws.length := by rw [hws, joinW_len _ _ hF.len]
  obtain ⟨W1, hW1⟩ : ∃ W1, w.alloc (.cells #[.slice aw ws.length cw, .slice ar nr cr] 24) = W1 := ⟨_, rfl⟩
  have hb1 : Below w.heap.size w W1 := by rw [← hW1]; exact (Below.refl w.heap.size w).alloc (Nat.le_refl _) _
  have hs1 : w.heap.size < W1.heap.size := by rw [← hW1]; simp
  have g0 : W1.cell? ⟨w.heap.size, 0, none⟩ = some (.slice aw ws.length cw) := by rw [← hW1]; simp [go_sem]
  have Hc1 := hide (rstarts_c aw cw ws B W1 (hW.below (hb1.mono hB)) hUW (by omega) h256)
  have Hat : Hid (∀ k, k < fs.length → ∃ x n, hs[k]? = some x ∧ ws[tot (fs.take k)]? = some x ∧ uhL x = (n : Nat) ∧ n ≤ 4 ∧ 0 ≤ x ∧ x < 18446744073709551616 ∧ tot (fs.take k) + 1 + n ≤ 256 ∧ Apart (sweepL hs fs k) (tot (fs.take k)) ∧
      (uhM x = true → sweepL hs fs (k + 1) = sweepL hs fs k) ∧ (uhM x = false → sweepL hs fs (k + 1) = inB (sweepL hs fs k) (tot (fs.take k)) (n + 1))) := fun k hk => by
    obtain ⟨x, h1, h2, h3, h4, h5⟩ := fit_at hF hk
    have hts := tot_take_succ hk
    have htl := tot_take_le fs (k + 1)
    refine ⟨x, fs[k].length, h1, by rw [hws, joinW_get _ _ _ hF.len hk]; exact h1, by rw [uhL_wlen h2, h3], by rw [← h3]; exact wlen_le h2, h4, h5, by omega, sweep_apart hF k (by omega), fun hm => sweep_yes h1 hm, fun hm => ?_⟩
    rw [sweep_no h1 hk hm, inB, if_neg (by omega), Nat.add_comm 1]
  have htl := tot_len fs
  have Hsp := hide hsp
  have Hsl := hide (fun k => sweep_len hs fs k)
  have hfl : fs.length ≤ 256 := by omega
  clear hF hws hsp htot htl
  go_enter Try.func13, Try.ntmps13
  go_wp2_with fail
  refine (unhide Hc1).mono ?_
  rintro e w2 ⟨hres, hb2⟩
  obtain ⟨fs', sa, sc, hfs', he, hI⟩ := hres.resolve_left (fun h => by have := unhide Hsp; rw [h.1] at this; cases this)
  obtain rfl : fs' = fs := by have := unhide Hsp; rw [hfs'] at this; injection this
  subst he
  have hs2 := hb2.size
  have hbw2 : Below w.heap.size w w2 := hb1.trans (hb2.mono (by omega))
  replace g0 := (hb2.cell (p := ⟨w.heap.size, 0, none⟩) hs1).trans g0
  have hl2 : w.heap.size < w2.heap.size := by omega
  have HI := hide hI
  have HW := hide (hW.below (hbw2.mono hB))
  have hst : (stF 0 fs').length = fs'.length := stF_len fs' 0
  have hst1 : (stF 0 fs').length ≤ fs'.length := by omega
  have hst2 : fs'.length ≤ (stF 0 fs').length := by omega
  have Hsg := hide (fun k hk => stF_get fs' 0 k hk)
  clear hW1 Hc1 hres hfs' hI hb1 hb2 hst hW
  go_wp2
  go_loopw [5, 20] (fun s i wr => ∃ k : Nat, k ≤ fs'.length ∧ i = .int .i64 k ∧ wr.ownsRow w2.heap.size 57 2 s (sweepL hs fs' k).length (cellsB (sweepL hs fs' k)) ∧ Below w2.heap.size w2 wr) (fun _ i _ => fs'.length - (intOf i).toNat)
  case atStart => exact ⟨0, Nat.zero_le _, rfl, World.ownsRow_nil _ _ _ _, Below.refl _ _⟩
  case round =>
    obtain ⟨k, hk, rfl, hown, hb⟩ := hrel
    have hsz := hb.size
    have g0r := (hb.cell (p := ⟨w.heap.size, 0, none⟩) hl2).trans g0
    have hlr : w.heap.size < wr.heap.size := by omega
    by_cases hlt : k < fs'.length
    · obtain ⟨x, n, hx, hwx, hxL, hn4, hx3, hx4, hend, hap, hyes, hno⟩ := unhide Hat k hlt
      have hltS : k < (stF 0 fs').length := by omega
      obtain ⟨b1, o1, rfl, hB1, hc1⟩ := ((unhide HI).below hb).at hltS
      have h1 := unhide Hsg k hlt
      rw [List.getElem?_eq_getElem hltS, Option.some.injEq, Nat.zero_add] at h1
      rw [h1] at hc1
      have hpl : tot (fs'.take k) < ws.length := (List.getElem?_eq_some_iff.1 hwx).1
      obtain ⟨b2, o2, rfl, hB2, hc2⟩ := ((unhide HW).below (hb.mono (by omega))).at hpl
      rw [(List.getElem?_eq_some_iff.1 hwx).2] at hc2
      have hkI : (k : Int) < ((stF 0 fs').length : Int) := by omega
      have hpI : ((tot (fs'.take k) : Nat) : Int) < (ws.length : Int) := by omega
      have hq1 : b1 < wr.heap.size := by omega
      have hq2 : b2 < wr.heap.size := by omega
      have HxL := hide hxL
      have Hap := hide hap
      have Hyes := hide hyes
      have Hno := hide hno
      have hSl := unhide Hsl k
      clear h1 hwx hx hxL hap hyes hno
      generalize tot (fs'.take k) = q at *
      generalize (stF 0 fs').length = sl at *
      generalize hSk : sweepL hs fs' k = SK at *
      have HSk := hide hSk
      clear hSk
      go_wp2_with fail
      refine (runhead_c x _ hx3 hx4).mono ?_
      rintro e w3 ⟨he, hb3⟩
      rw [unhide HxL] at he
      subst he
      have hs3 := hb3.size
      obtain ⟨W3, hW3⟩ : ∃ W3, w3.alloc (.cells #[.int .i64 (n : Nat), .bool (uhM x), .int .i64 (uhA x)] 51) = W3 := ⟨_, rfl⟩
      have hb3' : Below wr.heap.size wr W3 := by rw [← hW3]; exact hb3.alloc hs3 _
      have hs3' : w3.heap.size < W3.heap.size := by rw [← hW3]; simp
      have hbx : W3.heap[w3.heap.size]? = some (.cells #[.int .i64 (n : Nat), .bool (uhM x), .int .i64 (uhA x)] 51) := by rw [← hW3]; exact heap_alloc_new _ _
      have hown3 := ownsRow_below hown hb3'
      have hbW3 : Below w2.heap.size w2 W3 := hb.trans (hb3'.mono hsz)
      have Hown3 := hide hown3
      have Hbx := hide hbx
      generalize uhM x = M at *
      generalize uhA x = A at *
      clear hown hown3 hbx hc1 hc2 g0r hb3
      cases M
      · have HN := hide (unhide Hno rfl)
        clear Hno Hyes
        go_wp2
        go_loopw [5, 10] (fun s i wq => ∃ m : Nat, m ≤ n + 1 ∧ i = .int .i64 m ∧ Hid (wq.ownsRow w2.heap.size 57 2 s (inB SK q m).length (cellsB (inB SK q m))) ∧ Hid (wq.heap[w3.heap.size]? = some (.cells #[.int .i64 (n : Nat), .bool false, .int .i64 A] 51)) ∧ Below w2.heap.size w2 wq) (fun _ i _ => n + 1 - (intOf i).toNat)
        case atStart => exact ⟨0, Nat.zero_le _, rfl, Hown3, Hbx, hbW3⟩
        case round =>
          clear Hown3 Hbx hbW3
          obtain ⟨m, hm, rfl, HT, Hbx, hbq⟩ := hrel
          have hsq := hbq.size
          have hlq : w3.heap.size < wr.heap.size := (Array.getElem?_eq_some_iff.1 (unhide Hbx)).1
          obtain ⟨c0, c1⟩ := cells3 (unhide Hbx)
          by_cases hmn : m ≤ n
          · have hTl := inB_len SK q m
            have HTb := hide (apart_le (inB_apart (unhide Hap) m))
            have HJ := hide (inB_succ SK q m)
            have e0 : decide ((m : Int) ≤ (n : Int)) = true := decide_eq_true (by omega)
            have wqm : IntKind.i64.wrap ((q : Int) + (m : Int)) = (q : Int) + (m : Int) := by rw [IntKind.wrap_i64]; omega
            generalize inB SK q m = T at *
            rcases List.eq_nil_or_concat T with rfl | ⟨T0, ⟨a, l⟩, hT0⟩
            · obtain ⟨va, vc, hv⟩ := ownsRow_slice (unhide HT)
              simp only [List.length_nil] at hv HT
              subst hv
              have d0 : decide ((0 : Int) > 0) = false := by decide
              have d0' : decide ((0 : Int) < 0) = false := by decide
              go_wp2
              go_quiet (fail)
              have hbn : Below w2.heap.size w2 (wr.drewN nq) := below_drewN hbq nq
              have hrn : (wr.drewN nq).ownsRow w2.heap.size 57 2 (.slice va 0 vc) 0 (cellsB []) := ownsRow_below (unhide HT) (below_drewN (Below.refl _ wr) nq)
              have hxn : (wr.drewN nq).heap[w3.heap.size]? = some (.cells #[.int .i64 (n : Nat), .bool false, .int .i64 A] 51) := unhide Hbx
              have hln : w3.heap.size < (wr.drewN nq).heap.size := hlq
              have hsn : w2.heap.size ≤ (wr.drewN nq).heap.size := hsq
              clear c0 c1 hlq hsq HT Hbx hbq 
              generalize wr.drewN nq = wn at *
              go_wp2_with (at_builtin; go_must (refine wpList_append_own_at _ rfl _ _ 28 rfl w2.heap.size 57 i0 _ 2 16 Try.underlying28 hi0 hz0 hz1 hz2 rfl (by decide) _ _ _ rfl (hrn.alloc _) ⟨wn.heap.size, 0, none⟩ 1 1 [.int .i64 ((q : Int) + (m : Int)), .int .i64 1] rfl rfl (cell_two_at _ _ _ _ _ (by simp)) (by simp [Value.oneCell']) (by simp only [maxLen]; omega) (by omega) (by simp; omega) ?_); go_must (intro v' w5 hrow hg5 _ hat))
              have hs5 := hg5.size
              simp only [World.size_alloc] at hs5
              have hx5 := (keep51_grown (hrn.alloc _) hg5) w3.heap.size _ (by rw [Below.heap_alloc _ _ _ hln]; exact hxn)
              have HR5 : Hid (w5.ownsRow w2.heap.size 57 2 v' (inB SK q (m + 1)).length (cellsB (inB SK q (m + 1)))) := by
                show w5.ownsRow _ _ _ _ _ _
                rw [unhide HJ, joinB_nil]
                have := hrow
                rw [show ((q : Int) + (m : Int)) = ((q + m : Nat) : Int) by omega] at this
                exact this
              have hb5 : Below w2.heap.size w2 w5 := (hbn.alloc hsn _).grown hg5 (by simp; omega) (fun z e => (hrn.lt z e).1)
              have Hx5 := hide hx5
              clear hrow hx5 hg5 hat hrn hxn
              go_wp2
              go_roundw
              case rel => exact ⟨m + 1, by omega, by go_num, HR5, Hx5, hb5⟩
              case measure => simp [intOf]; omega
            · rw [List.concat_eq_append] at hT0
              subst hT0
              have hK : (T0 ++ [(a, l)]).length = T0.length + 1 := by simp
              rw [hK] at HT hTl
              obtain ⟨g, cap, hv⟩ := ownsRow_succ (unhide HT)
              subst hv
              have hcap : T0.length + 1 ≤ cap := by
                rcases (unhide HT).2 with ⟨e, _⟩ | ⟨g', cap', cur, e, _, _, h3, _⟩
                · cases e
                · injection e with _ _ e; omega
              have hg := ((unhide HT).lt g rfl).2
              have hxy := cellsB_get (T0 ++ [(a, l)]) T0.length (a, l) (by simp)
              have x0 : wr.cell? ⟨g, T0.length * 2, none⟩ = some (.int .i64 (a : Nat)) := by rw [(unhide HT).cellAt _ (by omega)]; exact hxy.1
              have x1 : wr.cell? ⟨g, T0.length * 2 + 1, none⟩ = some (.int .i64 (l : Nat)) := by rw [(unhide HT).cellAt _ (by omega)]; exact hxy.2
              have xf := (unhide HT).frozenAt (T0.length * 2 + 1)
              have han := unhide HTb (a, l) (by simp)
              simp only at han
              have d0 : decide (((T0.length + 1 : Nat) : Int) > 0) = true := decide_eq_true (by omega)
              have d0' : decide ((0 : Int) < ((T0.length + 1 : Nat) : Int)) = true := decide_eq_true (by omega)
              have e1 : ((T0.length + 1 : Nat) : Int) - 1 = (T0.length : Int) := by omega
              have w1 : IntKind.i64.wrap (((T0.length + 1 : Nat) : Int) - 1) = (T0.length : Int) := by rw [IntKind.wrap_i64]; omega
              have w2' : IntKind.i64.wrap ((a : Int) + (l : Int)) = (a : Int) + (l : Int) := by rw [IntKind.wrap_i64]; omega
              have hI : (T0.length : Int) < ((T0.length + 1 : Nat) : Int) := by omega
              clear hxy hK HTb
              by_cases hc : a + l = q + m
              · have HJ2 := hide (joinB_yes (l := T0) (b := (q + m, 1)) hc)
                have d1 : ((a : Int) + (l : Int) == (q : Int) + (m : Int)) = true := by simp; omega
                have w3' : IntKind.i64.wrap ((l : Int) + 1) = (l : Int) + 1 := by rw [IntKind.wrap_i64]; omega
                go_wp2
                go_quiet (fail)
                have hbn : Below w2.heap.size w2 (wr.drewN nq) := below_drewN hbq nq
                have hrn : (wr.drewN nq).ownsRow w2.heap.size 57 2 (.slice (some ⟨g, 0, none⟩) (T0.length + 1) cap) (T0.length + 1) (cellsB (T0 ++ [(a, l)])) := ownsRow_below (unhide HT) (below_drewN (Below.refl _ wr) nq)
                have hxn : (wr.drewN nq).heap[w3.heap.size]? = some (.cells #[.int .i64 (n : Nat), .bool false, .int .i64 A] 51) := unhide Hbx
                have hln : w3.heap.size < (wr.drewN nq).heap.size := hlq
                have hsn : w2.heap.size ≤ (wr.drewN nq).heap.size := hsq
                have y1 : (wr.drewN nq).cell? ⟨g, T0.length * 2 + 1, none⟩ = some (.int .i64 (l : Nat)) := x1
                have yf : (wr.drewN nq).frozen? ⟨g, T0.length * 2 + 1, none⟩ = false := xf
                have hgn : g < (wr.drewN nq).heap.size := hg
                clear c0 c1 hlq hsq HT Hbx hbq x0 x1 xf hg
                generalize wr.drewN nq = wn at *
                have hst := hrn.stored (T0.length * 2 + 1) (.int .i64 ((l : Int) + 1))
                have hx5 := (keep51_grown hrn hst.2) w3.heap.size _ hxn
                have HR5 : Hid ((wn.setCell ⟨g, T0.length * 2 + 1, none⟩ (.int .i64 ((l : Int) + 1))).ownsRow w2.heap.size 57 2 (.slice (some ⟨g, 0, none⟩) (T0.length + 1) cap) (inB SK q (m + 1)).length (cellsB (inB SK q (m + 1)))) := by
                  have := hst.1
                  rw [show (l : Int) + 1 = ((l + 1 : Nat) : Int) by omega, cellsB_last] at this
                  show World.ownsRow _ _ _ _ _ _ _
                  rw [unhide HJ, unhide HJ2, List.length_append, List.length_singleton, show (l : Int) + 1 = ((l + 1 : Nat) : Int) by omega]
                  exact this
                have hg0 : w2.heap.size ≤ g := (hrn.lt g rfl).1
                have Hx5 := hide hx5
                clear hst hx5 hrn hxn
                go_wp2
                go_roundw
                case rel => exact ⟨m + 1, by omega, by go_num, HR5, Hx5, hbn.setCell (p := ⟨g, T0.length * 2 + 1, none⟩) hg0 _⟩
                case measure => simp [intOf]; omega
              · have HJ2 := hide (joinB_no (l := T0) (b := (q + m, 1)) hc)
                have d1 : ((a : Int) + (l : Int) == (q : Int) + (m : Int)) = false := by simp; omega
                go_wp2
                go_quiet (fail)
                have hbn : Below w2.heap.size w2 (wr.drewN nq) := below_drewN hbq nq
                have hrn : (wr.drewN nq).ownsRow w2.heap.size 57 2 (.slice (some ⟨g, 0, none⟩) (T0.length + 1) cap) (T0.length + 1) (cellsB (T0 ++ [(a, l)])) := ownsRow_below (unhide HT) (below_drewN (Below.refl _ wr) nq)
                have hxn : (wr.drewN nq).heap[w3.heap.size]? = some (.cells #[.int .i64 (n : Nat), .bool false, .int .i64 A] 51) := unhide Hbx
                have hln : w3.heap.size < (wr.drewN nq).heap.size := hlq
                have hsn : w2.heap.size ≤ (wr.drewN nq).heap.size := hsq
                have y1 : (wr.drewN nq).cell? ⟨g, T0.length * 2 + 1, none⟩ = some (.int .i64 (l : Nat)) := x1
                have yf : (wr.drewN nq).frozen? ⟨g, T0.length * 2 + 1, none⟩ = false := xf
                have hgn : g < (wr.drewN nq).heap.size := hg
                clear c0 c1 hlq hsq HT Hbx hbq x0 x1 xf hg
                generalize wr.drewN nq = wn at *
                go_wp2_with (at_builtin; go_must (refine wpList_append_own_at _ rfl _ _ 28 rfl w2.heap.size 57 i0 _ 2 16 Try.underlying28 hi0 hz0 hz1 hz2 rfl (by decide) _ _ _ rfl (hrn.alloc _) ⟨wn.heap.size, 0, none⟩ 1 1 [.int .i64 ((q : Int) + (m : Int)), .int .i64 1] rfl rfl (cell_two_at _ _ _ _ _ (by simp)) (by simp [Value.oneCell']) (by simp only [maxLen]; omega) (by omega) (by simp; omega) ?_); go_must (intro v' w5 hrow hg5 _ hat))
                have hs5 := hg5.size
                simp only [World.size_alloc] at hs5
                have hx5 := (keep51_grown (hrn.alloc _) hg5) w3.heap.size _ (by rw [Below.heap_alloc _ _ _ hln]; exact hxn)
                have HR5 : Hid (w5.ownsRow w2.heap.size 57 2 v' (inB SK q (m + 1)).length (cellsB (inB SK q (m + 1)))) := by
                  show w5.ownsRow _ _ _ _ _ _
                  rw [unhide HJ, unhide HJ2, show T0 ++ [(a, l), (q + m, 1)] = (T0 ++ [(a, l)]) ++ [(q + m, 1)] by simp, cellsB_snoc, List.length_append, List.length_append]
                  have := hrow
                  rw [show ((q : Int) + (m : Int)) = ((q + m : Nat) : Int) by omega] at this
                  exact this
                have hb5 : Below w2.heap.size w2 w5 := (hbn.alloc hsn _).grown hg5 (by simp; omega) (fun z e => (hrn.lt z e).1)
                have Hx5 := hide hx5
                clear hrow hx5 hg5 hat hrn hxn
                go_wp2
                go_roundw
                case rel => exact ⟨m + 1, by omega, by go_num, HR5, Hx5, hb5⟩
                case measure => simp [intOf]; omega
          · obtain rfl : m = n + 1 := by omega
            have e0 : decide (((n + 1 : Nat) : Int) ≤ (n : Int)) = false := decide_eq_false (by omega)
            have HR5 := HT
            rw [← unhide HN] at HR5
            clear HT
            go_wp2
            go_roundw
            case rel => exact ⟨k + 1, by omega, by go_num, unhide HR5, hbq⟩
            case measure => simp [intOf]; omega
      · have HN := hide (unhide Hyes rfl)
        clear Hno Hyes
        go_wp2
        go_loopw [5, 10] (fun s i wq => i = .int .i64 0 ∧ Hid (wq.ownsRow w2.heap.size 57 2 s SK.length (cellsB SK)) ∧ Hid (wq.heap[w3.heap.size]? = some (.cells #[.int .i64 (n : Nat), .bool true, .int .i64 A] 51)) ∧ Below w2.heap.size w2 wq) (fun _ _ _ => 0)
        case atStart => exact ⟨rfl, Hown3, Hbx, hbW3⟩
        case round =>
          clear Hown3 Hbx hbW3
          obtain ⟨rfl, HT, Hbx, hbq⟩ := hrel
          have hsq := hbq.size
          have hlq : w3.heap.size < wr.heap.size := (Array.getElem?_eq_some_iff.1 (unhide Hbx)).1
          obtain ⟨c0, c1⟩ := cells3 (unhide Hbx)
          have e0 : decide ((0 : Int) ≤ (n : Int)) = true := decide_eq_true (by omega)
          have HR5 := HT
          rw [← unhide HN] at HR5
          clear HT
          go_wp2
          go_roundw
          case rel => exact ⟨k + 1, by omega, by go_num, unhide HR5, hbq⟩
          case measure => simp [intOf]; omega
    · obtain rfl : k = fs'.length := by omega
      have hkI : ¬ ((fs'.length : Int) < ((stF 0 fs').length : Int)) := by omega
      have hSl := unhide Hsl fs'.length
      obtain ⟨a, c, hv, hBl⟩ := blks_of_owns hown rfl (by omega)
      subst hv
      have HBl := hide hBl
      clear hown hBl
      go_wp2
      go_ret
      exact ⟨⟨a, c, rfl, unhide HBl⟩, hbw2.trans (hb.mono (by omega))⟩

end Go.Proofs.Ytjhndbfhiknngaa

/- Walks: climb. -/
namespace Go.Proofs.Ytjhndbfhiknngaa
set_option linter.unusedSimpArgs false
set_option linter.unusedVariables false
open Go.RowKit Go.Shelf
attribute [local go_sem] field51_0 field51_1

/-- What holds while objects are marked: E are those that are still to be gone through. -/
structure Inv (fs : List (List Int)) (rs : List Int) (E : Nat → Prop) (n0 : Nat) (p : Nat → Bool) (K : List Nat) (lost : Bool) : Prop where
  rch : ∀ j, p j = true → Rch fs rs j
  inb : ∀ j ∈ K, j < fs.length
  km : ∀ j ∈ K, p j = true
  cl : lost = false → ∀ j, p j = true → E j ∨ j ∈ K ∨ Cl fs p j
  le : unm fs.length p ≤ n0
  ls : lost = true → unm fs.length p < n0

theorem Inv.full {fs : List (List Int)} {rs : List Int} {E : Nat → Prop} {n0 : Nat} {p : Nat → Bool} {K : List Nat} {lost : Bool} (h : Inv fs rs E n0 p K lost) {j : Nat} (hj : j < fs.length) (hp : p j = false) (hr : Rch fs rs j) : Inv fs rs E n0 (upd p j) K true := by
  have hu := unm_upd hj hp
  have := h.le
  refine ⟨fun k hk => ?_, h.inb, fun k hk => upd_le (h.km k hk), fun e => (by cases e), by omega, fun _ => by omega⟩
  rcases upd_inv hk with rfl | hk
  · exact hr
  · exact h.rch k hk

theorem Inv.push {fs : List (List Int)} {rs : List Int} {E : Nat → Prop} {n0 : Nat} {p : Nat → Bool} {K : List Nat} {lost : Bool} (h : Inv fs rs E n0 p K lost) {j : Nat} (hj : j < fs.length) (hp : p j = false) (hr : Rch fs rs j) : Inv fs rs E n0 (upd p j) (K ++ [j]) lost := by
  have hu := unm_upd hj hp
  have := h.le
  refine ⟨fun k hk => ?_, fun k hk => ?_, fun k hk => ?_, fun e k hk => ?_, by omega, fun e => by have := h.ls e; omega⟩
  · rcases upd_inv hk with rfl | hk
    · exact hr
    · exact h.rch k hk
  · rcases List.mem_append.1 hk with hk | hk
    · exact h.inb k hk
    · simp at hk; subst hk; exact hj
  · rcases List.mem_append.1 hk with hk | hk
    · exact upd_le (h.km k hk)
    · simp at hk; subst hk; exact upd_self _ _
  · rcases upd_inv hk with rfl | hk
    · exact .inr (.inl (by simp))
    · rcases h.cl e k hk with h1 | h1 | h1
      · exact .inl h1
      · exact .inr (.inl (by simp [h1]))
      · exact .inr (.inr h1.upd)

theorem Inv.pop {fs : List (List Int)} {rs : List Int} {E : Nat → Prop} {n0 : Nat} {p : Nat → Bool} {K : List Nat} {i : Nat} {lost : Bool} (h : Inv fs rs E n0 p (K ++ [i]) lost) (hc : Cl fs p i) : Inv fs rs E n0 p K lost := by
  refine ⟨h.rch, fun k hk => h.inb k (by simp [hk]), fun k hk => h.km k (by simp [hk]), fun e k hk => ?_, h.le, h.ls⟩
  rcases h.cl e k hk with h1 | h1 | h1
  · exact .inl h1
  · rcases List.mem_append.1 h1 with h1 | h1
    · exact .inr (.inl h1)
    · simp at h1; subst h1; exact .inr (.inr hc)
  · exact .inr (.inr h1)

/-- How many places are kept, as memory tells. -/
def mesK (mb : Nat) (w : World) : Nat := match w.cell? ⟨mb, 3, none⟩ with
  | some (.slice _ n _) => n
  | _ => 0
/-- How many objects are not marked, as memory tells. -/
def mesU (vw : Value) (fs : List (List Int)) (w : World) : Nat := ((List.range fs.length).filter fun (i : Nat) => match w.cell? ⟨vw.ownBlock.getD 0, tot (fs.take i), none⟩ with
  | some (.int _ x) => !uhM x
  | _ => false).length

theorem mesK_eq {W : World} {N mb : Nat} {vw vr : Value} {hs : List Int} {fs : List (List Int)} {rs : List Int} {room : Nat} {p : Nat → Bool} {K : List Nat} {lost : Bool} (h : MkA W N mb vw vr hs fs rs room p K lost) : mesK mb W = K.length := by
  obtain ⟨vk, h⟩ := h
  obtain ⟨a, c, hv⟩ := ownsRow_slice h.ko
  subst hv
  unfold mesK
  rw [h.box.c3, plc_len]

theorem mesU_eq {W : World} {N mb : Nat} {vw vr : Value} {hs : List Int} {fs : List (List Int)} {rs : List Int} {room : Nat} {p : Nat → Bool} {K : List Nat} {lost : Bool} (h : MkA W N mb vw vr hs fs rs room p K lost) (hF : Fit hs fs) : mesU vw fs W = unm fs.length p := by
  obtain ⟨vk, h⟩ := h
  unfold mesU unm
  congr 1
  apply List.filter_congr
  intro i hi
  have hi' : i < fs.length := List.mem_range.1 hi
  have hml := mW_len hF p
  have hpl := place_lt hi'
  obtain ⟨wb, cap, hvw, _⟩ := h.words (by rw [hml]; omega)
  rw [hml] at hvw
  subst hvw
  obtain ⟨x, hx, _⟩ := fit_at hF hi'
  have := (h.wcell hml.symm (mW_get hF p hx)).1
  show (match W.cell? ⟨wb, tot (fs.take i), none⟩ with | some (.int _ x) => !uhM x | _ => false) = _
  rw [this]
  simp only [(reh_ok (p i) x).2.2.1]

/-- What climb leaves. -/
def ClRes (N mb : Nat) (vw vr : Value) (hs : List Int) (fs : List (List Int)) (rs : List Int) (room : Nat) (E : Nat → Prop) (n0 : Nat) (p : Nat → Bool) (W : World) : Prop :=
  ∃ p' lost', MkA W N mb vw vr hs fs rs room p' [] lost' ∧ Inv fs rs E n0 p' [] lost' ∧ ∀ j, p j = true → p' j = true

/-- The fields of an object that is kept, in memory. -/
theorem fld_wds {W : World} {N mb wb cap : Nat} {vr vk : Value} {hs : List Int} {fs : List (List Int)} {rs PK : List Int} {room : Nat} {lost : Bool} {p : Nat → Bool} (h : Mk W N mb (.slice (some ⟨wb, 0, none⟩) (tot fs) cap) vr vk (mW hs fs p) rs PK room lost) (hF : Fit hs fs) {i : Nat} {f : List Int} (hf : fs[i]? = some f) (h4 : f.length ≤ 4)
    {a : Option Addr} (ha : 0 < f.length → a = some ⟨wb, tot (fs.take i) + 1, none⟩) : Wds W.heap.size W a f := by
  refine ⟨by omega, fun hne => ?_⟩
  have hpos : 0 < f.length := List.length_pos_iff.2 hne
  have hml := mW_len hF p
  refine ⟨wb, tot (fs.take i) + 1, ha hpos, ?_, fun k v hk => ?_⟩
  · exact (h.wo.lt wb rfl).2
  · have hj := joinW_fields (mkH hs p) fs i f (by rw [mkH_len]; exact hF.len) hf
    have hk' : k < f.length := (List.getElem?_eq_some_iff.1 hk).1
    have : (mW hs fs p)[tot (fs.take i) + 1 + k]? = some v := by
      rw [← hj, List.getElem?_take, if_pos hk', List.getElem?_drop] at hk
      exact hk
    exact (h.wcell hml.symm this).1

set_option maxRecDepth 100000 in
set_option maxHeartbeats 2000000 in
theorem climb_c (hs : List Int) (fs : List (List Int)) (rs : List Int) (E : Nat → Prop) (n0 : Nat) (p : Nat → Bool) (K : List Nat) (N mb : Nat) (vw vr : Value) (room : Nat) (lost : Bool) (w : World)
    (hM : MkA w N mb vw vr hs fs rs room p K lost) (hA : Arn hs fs rs) (hroom : room ≤ 64) (hK : K.length ≤ room) (hI : Inv fs rs E n0 p K lost) :
    Calls Try.prog 43 #[.pointer (some ⟨mb, 0, none⟩)] w fun e w' => (e = .returned (.tuple #[]) ∧ ClRes N mb vw vr hs fs rs room E n0 p w') ∧ Below N w w' ∧ KeepT w w' := by
  have hF := hA.fit
  have h256 := hA.n256
  have HA := hide hA
  have HF := hide hF
  have HM0 := hide hM
  have HI0 := hide hI
  clear hA hF hM hI
  go_enter Try.func43, Try.ntmps43
  go_wp2
  go_loopw [] (fun wr => ∃ p' K' lost', Hid (MkA wr N mb vw vr hs fs rs room p' K' lost') ∧ Hid (Inv fs rs E n0 p' K' lost') ∧ Hid (∀ j, p j = true → p' j = true) ∧ K'.length ≤ room ∧ Below N w wr ∧ Hid (KeepT w wr)) (fun wr => 2 * mesU vw fs wr + mesK mb wr)
  case atStart => exact ⟨p, K, lost, HM0, HI0, hide (fun j h => h), hK, Below.refl _ _, hide (KeepT.refl _)⟩
  case round =>
    clear HM0 HI0 hK
    obtain ⟨p', K', lost', HM, HI, Hle, hKr, hb, Hkt⟩ := hrel
    have HmU := hide (mesU_eq (unhide HM) (unhide HF))
    have HmK := hide (mesK_eq (unhide HM))
    have HMA := HM
    obtain ⟨vk, HM⟩ := unhide HM
    replace HM := hide HM
    rcases List.eq_nil_or_concat K' with rfl | ⟨K0, i, hK'⟩
    · have q3 := (unhide HM).box.c3
      obtain ⟨ka, kc, hv⟩ := ownsRow_slice (unhide HM).ko
      subst hv
      rw [plc_len] at q3
      simp only [List.length_nil] at q3
      have hlm := (unhide HM).box.lt
      go_wp2
      exact bodyPost_end (v := .tuple #[]) (results_none rfl _ _ _) rfl ⟨⟨rfl, p', lost', unhide HMA, unhide HI, unhide Hle⟩, hb, unhide Hkt⟩
    · rw [List.concat_eq_append] at hK'
      subst hK'
      have hi : i < fs.length := (unhide HI).inb i (by simp)
      have hKl : K0.length + 1 ≤ room := by simpa using hKr
      have HM1 : Hid (Mk wr N mb vw vr vk (mW hs fs p') rs (plc fs K0 ++ [((tot (fs.take i) : Nat) : Int)]) room lost') := by
        have := unhide HM
        rw [plc_snoc] at this
        exact this
      obtain ⟨g, kc, hvk, hkc, hgl, hcl⟩ := (unhide HM1).last
      rw [plc_len] at hvk hkc hcl
      subst hvk
      have q3 := (unhide HM1).box.c3
      have z3 := (unhide HM1).box.fr 3
      have hlm := (unhide HM1).box.lt
      have hmN := (unhide HM1).lo
      have hml := mW_len (unhide HF) p'
      have hpl := place_lt hi
      obtain ⟨wb, cap, hvw, hwN, hwb, hcap⟩ := (unhide HM1).words (by rw [hml]; omega)
      rw [hml] at hvw hcap
      subst hvw
      obtain ⟨x, hx, hx1, hx2, hx3, hx4⟩ := fit_at (unhide HF) hi
      have hr2 := reh_ok (p' i) x
      have hmg := mW_get (unhide HF) p' hx
      have h4 : fs[i].length ≤ 4 := by rw [← hx2]; exact wlen_le hx1
      have hts := tot_take_succ hi
      have htl := tot_take_le fs (i + 1)
      have Hfld : Hid (Calls Try.prog 55 #[.pointer (some ⟨mb, 0, none⟩), .int .i64 (tot (fs.take i) : Nat)] wr fun e w' => FldRes wb (tot (fs.take i)) fs[i].length e ∧ Below wr.heap.size wr w') := by
        have := fields_c mb wb (tot fs) cap _ _ wr (unhide HM1).box.c0 ((unhide HM1).wcell hml.symm hmg).1 h256 hcap hr2.2.2.2.2.1 hr2.2.2.2.2.2 hr2.1 (by rw [reh_wlen hx1, hx2]; omega)
        rw [reh_wlen hx1, hx2] at this
        exact this
      have Hun : Hid (∀ W a c, Below wr.heap.size wr W → (0 < fs[i].length → a = some ⟨wb, tot (fs.take i) + 1, none⟩) → Calls Try.prog 41 #[.pointer (some ⟨mb, 0, none⟩), .slice a fs[i].length c] W fun e w' => UnRes fs p' fs[i] e ∧ Below W.heap.size W w') := fun W a c hbW ha => by
        have hMW := (unhide HM1).below hbW
        exact unmarked_c a c fs[i] hs fs p' N mb _ vr _ rs _ room lost' W hMW (unhide HF) h256 (fld_wds hMW (unhide HF) (List.getElem?_eq_getElem hi) h4 ha) ((unhide HA).uf _ (List.getElem_mem hi)) (by omega) ((unhide HA).okf _ (List.getElem_mem hi))
      have Htk : Hid (∀ W j, Below wr.heap.size wr W → j < fs.length → Calls Try.prog 42 #[.pointer (some ⟨mb, 0, none⟩), .int .i64 (tot (fs.take j) : Nat)] W fun e w' => (e = .returned (.tuple #[]) ∧ TkRes N mb (.slice (some ⟨wb, 0, none⟩) (tot fs) cap) vr hs fs rs room p' (K0 ++ [i]) lost' j w') ∧ Below N W w' ∧ KeepT W w') := fun W j hbW hj =>
        take_c hs fs rs p' (K0 ++ [i]) N mb _ vr room j lost' W ((unhide HMA).below hbW) (unhide HF) h256 hroom hKr hj
      have Hfi := hide (List.getElem?_eq_getElem hi)
      have hNw : N ≤ wr.heap.size := by omega
      clear hml hmg hr2 hx hx1 hx2 hx3 hx4 hts htl HM
      generalize fs[i] = f at *
      have w1 : IntKind.i64.wrap (((K0.length + 1 : Nat) : Int) - 1) = (K0.length : Int) := by rw [IntKind.wrap_i64]; omega
      have e1 : ((K0.length + 1 : Nat) : Int) - 1 = (K0.length : Int) := by omega
      go_wp2_with fail
      refine (unhide Hfld).mono ?_
      rintro e w2 ⟨⟨fa, fc, he, hfa⟩, hb2⟩
      subst he
      have Hun2 := hide (unhide Hun w2 fa fc hb2 hfa)
      clear Hfld Hun hfa
      go_wp2_with fail
      refine (unhide Hun2).mono ?_
      rintro e w3 ⟨hres, hb3⟩
      have hs2 := hb2.size
      have hs3 := hb3.size
      have hb23 : Below wr.heap.size wr w3 := hb2.trans (hb3.mono hs2)
      clear Hun2
      rcases hres with ⟨j, hj, hpj, hto, he⟩ | ⟨hall, he⟩
      · subst he
        have Htk2 := hide (unhide Htk w3 j hb23 hj)
        have Hr : Hid (Rch fs rs j) := hide (rch_step ((unhide HI).rch i ((unhide HI).km i (by simp))) (unhide Hfi) hto)
        have Hpj := hide hpj
        clear hto hpj Htk
        go_wp2_with fail
        refine (unhide Htk2).mono ?_
        rintro e w4 ⟨⟨he, hres⟩, hb4, hk4⟩
        subst he
        have Hk4 := hide ((unhide Hkt).trans ((KeepT.below hb23).trans hk4))
        clear hk4
        have Hres := hide hres
        clear hres Htk2
        have hbw4 : Below N w w4 := (hb.trans (hb23.mono hNw)).trans hb4
        go_wp2
        go_roundw
        case rel =>
          rcases unhide Hres with ⟨h1, h2⟩ | ⟨h1, h2⟩
          · exact ⟨_, _, _, hide h2, hide ((unhide HI).full hj (unhide Hpj) (unhide Hr)), hide (fun k hk => upd_le (unhide Hle k hk)), hKr, hbw4, Hk4⟩
          · exact ⟨_, _, _, hide h2, hide ((unhide HI).push hj (unhide Hpj) (unhide Hr)), hide (fun k hk => upd_le (unhide Hle k hk)), by rw [List.length_append, List.length_singleton]; omega, hbw4, Hk4⟩
        case measure =>
          have hu := unm_upd hj (unhide Hpj)
          rw [unhide HmU, unhide HmK]
          rcases unhide Hres with ⟨h1, h2⟩ | ⟨h1, h2⟩
          · rw [mesU_eq h2 (unhide HF), mesK_eq h2]; omega
          · rw [mesU_eq h2 (unhide HF), mesK_eq h2]; simp only [List.length_append, List.length_singleton]; omega
      · subst he
        have hM3 := (unhide HM1).below hb23
        have r3 := hM3.box.c3
        have t3 := hM3.box.fr 3
        have Hpop := hide (hM3.pop (plc_len fs K0))
        have Hcl : Hid (Cl fs p' i) := hide (fun f' j hf' ht => by rw [unhide Hfi] at hf'; injection hf' with hf'; subst hf'; exact hall j ht)
        have hlm3 := hM3.box.lt
        have Hk3 := hide (((unhide Hkt).trans (KeepT.below hb23)).setCell (j := 3) hM3.box.ty (.inr (.inr rfl)) (.slice (some ⟨g, 0, none⟩) K0.length kc))
        clear hM3 hall Htk
        go_wp2
        go_roundw
        case rel => exact ⟨p', K0, lost', hide ⟨_, unhide Hpop⟩, hide ((unhide HI).pop (unhide Hcl)), Hle, by omega, (hb.trans (hb23.mono hNw)).setCell (p := ⟨mb, 3, none⟩) hmN _, Hk3⟩
        case measure =>
          have h2 : MkA (w3.setCell ⟨mb, 3, none⟩ (.slice (some ⟨g, 0, none⟩) K0.length kc)) N mb (.slice (some ⟨wb, 0, none⟩) (tot fs) cap) vr hs fs rs room p' K0 lost' := ⟨_, unhide Hpop⟩
          rw [unhide HmU, unhide HmK, mesU_eq h2 (unhide HF), mesK_eq h2, List.length_append, List.length_singleton]; omega

end Go.Proofs.Ytjhndbfhiknngaa

/- Walks: again's closure. -/
namespace Go.Proofs.Ytjhndbfhiknngaa
set_option linter.unusedSimpArgs false
set_option linter.unusedVariables false
open Go.RowKit Go.Shelf
attribute [local go_sem] field51_0 field51_1

theorem Inv.next {fs : List (List Int)} {rs : List Int} {n0 k : Nat} {p : Nat → Bool} {lost : Bool} (h : Inv fs rs (fun j => k ≤ j) n0 p [] lost) (hp : p k = false) : Inv fs rs (fun j => k + 1 ≤ j) n0 p [] lost := by
  refine ⟨h.rch, h.inb, h.km, fun e j hj => ?_, h.le, h.ls⟩
  rcases h.cl e j hj with h1 | h1 | h1
  · refine .inl ?_
    have : j ≠ k := fun e => by subst e; rw [hp] at hj; cases hj
    show k + 1 ≤ j
    have : k ≤ j := h1
    omega
  · exact .inr (.inl h1)
  · exact .inr (.inr h1)

theorem Inv.open {fs : List (List Int)} {rs : List Int} {n0 k : Nat} {p : Nat → Bool} {lost : Bool} (h : Inv fs rs (fun j => k ≤ j) n0 p [] lost) (hp : p k = true) (hk : k < fs.length) : Inv fs rs (fun j => k + 1 ≤ j) n0 p [k] lost := by
  refine ⟨h.rch, fun j hj => ?_, fun j hj => ?_, fun e j hj => ?_, h.le, h.ls⟩
  · simp at hj; subst hj; exact hk
  · simp at hj; subst hj; exact hp
  · rcases h.cl e j hj with h1 | h1 | h1
    · have h2 : k ≤ j := h1
      by_cases e : j = k
      · exact .inr (.inl (by simp [e]))
      · exact .inl (show k + 1 ≤ j by omega)
    · simp at h1
    · exact .inr (.inr h1)

set_option maxRecDepth 100000 in
set_option maxHeartbeats 2000000 in
theorem ag1_c (hs : List Int) (fs : List (List Int)) (rs : List Int) (n0 k : Nat) (p : Nat → Bool) (N mb pb : Nat) (vw vr : Value) (room : Nat) (lost : Bool) (L A : Int) (w : World)
    (hM : MkA w N mb vw vr hs fs rs room p [] lost) (hA : Arn hs fs rs) (hr1 : 1 ≤ room) (hroom : room ≤ 64) (hk : k < fs.length) (hI : Inv fs rs (fun j => k ≤ j) n0 p [] lost) (hp : w.heap[pb]? = some (.cells #[.pointer (some ⟨mb, 0, none⟩)] 61)) :
    Calls Try.prog 56 #[.int .i64 (tot (fs.take k) : Nat), .agg #[.int .i64 L, .bool (p k), .int .i64 A], .pointer (some ⟨pb, 0, none⟩)] w fun e w' => (e = .returned (.tuple #[]) ∧ ClRes N mb vw vr hs fs rs room (fun j => k + 1 ≤ j) n0 p w') ∧ Below N w w' ∧ KeepT w w' := by
  obtain ⟨i0, hi0, hz0, hz1, hz2⟩ := info_parts Try.info3
  have hlp : pb < w.heap.size := (Array.getElem?_eq_some_iff.1 hp).1
  have hNw : N ≤ w.heap.size := by obtain ⟨vk, h⟩ := hM; have := h.box.lt; have := h.lo; omega
  cases hpk : p k
  · have hb0 : Below w.heap.size w (w.alloc (.cells #[.int .i64 L, .bool false, .int .i64 A] 51)) := (Below.refl _ _).alloc (Nat.le_refl _) _
    have HM := hide (hM.below hb0)
    have HI := hide (hI.next hpk)
    clear hM hI hpk hp
    go_enter Try.func56, Try.ntmps56
    go_wp2
    exact bodyPost_end (v := .tuple #[]) (results_none rfl _ _ _) rfl ⟨⟨rfl, p, lost, unhide HM, unhide HI, fun j h => h⟩, hb0.mono hNw, KeepT.below hb0⟩
  · obtain ⟨W1, hW1⟩ : ∃ W1, w.alloc (.cells #[.int .i64 L, .bool true, .int .i64 A] 51) = W1 := ⟨_, rfl⟩
    have hb0 : Below w.heap.size w W1 := by rw [← hW1]; exact (Below.refl _ _).alloc (Nat.le_refl _) _
    have b1 : W1.cell? ⟨w.heap.size, 1, none⟩ = some (.bool true) := by rw [← hW1]; simp [go_sem]
    have hs1 : w.heap.size < W1.heap.size := by rw [← hW1]; simp
    have HI := hide (hI.open hpk hk)
    obtain ⟨vk, hM⟩ := hM.below hb0
    have hp1 : W1.heap[pb]? = some (.cells #[.pointer (some ⟨mb, 0, none⟩)] 61) := by rw [hb0.block pb hlp]; exact hp
    have hcp := cell_of_box hp1
    have Hp1 := hide hp1
    have q3 := hM.box.c3
    have z3 := hM.box.fr 3
    have hlm := hM.box.lt
    have hmN := hM.lo
    have hko := hM.ko
    obtain ⟨ka, kc, rfl⟩ := ownsRow_slice hko
    have hkl : (plc fs ([] : List Nat)).length = 0 := rfl
    have Hkd := hide hM
    rw [hkl] at q3 hko
    have hkd := hko
    have hlp1 : pb < W1.heap.size := by omega
    have hb0N := hb0.mono hNw
    have Hclimb : Hid (∀ W lost v, Mk W N mb vw vr v (mW hs fs p) rs (plc fs [k]) room lost → Inv fs rs (fun j => k + 1 ≤ j) n0 p [k] lost → Calls Try.prog 43 #[.pointer (some ⟨mb, 0, none⟩)] W fun e w' => (e = .returned (.tuple #[]) ∧ ClRes N mb vw vr hs fs rs room (fun j => k + 1 ≤ j) n0 p w') ∧ Below N W w' ∧ KeepT W w') := fun W lost v h1 h2 =>
      climb_c hs fs rs _ n0 p [k] N mb vw vr room lost W ⟨v, h1⟩ hA hroom (by simpa using hr1) h2
    have Hpl : Hid (plc fs [k] = plc fs [] ++ [((tot (fs.take k) : Nat) : Int)]) := rfl
    have hq : tot (fs.take k) ≤ 256 := by have := place_lt hk; have := hA.n256; omega
    clear hM hI hpk hp hp1 hko hkl hA
    generalize tot (fs.take k) = q at *
    go_enter Try.func56, Try.ntmps56
    go_wp2
    clear hW1
    go_region_law (refine step_append_at rfl _ _ 40 rfl N 3 i0 _ 1 8 Try.underlying40 hi0 hz0 hz1 hz2 rfl (Nat.zero_lt_one) (.slice ka 0 kc) 0 _ rfl (hkd.alloc _).drew ⟨W1.heap.size, 0, none⟩ 1 1 [.int .i64 (q : Int)] rfl rfl (cell_one_at _ _ _ _ rfl) (by simp [Value.oneCell']) (by simp only [maxLen]; omega) (by omega) (by show N ≤ (W1.heap.push _).size; simp; omega) ?_; intro v' w5 hrow hg5 hat; have hpush := (((unhide Hkd).alloc (.cells #[.int .i64 (q : Int)] 3)).below ((Below.refl _ _).drew)).push (x := (q : Int)) hrow hg5 hat; have r3 := hpush.1.c3; have t3 := hpush.1.fr 3; have hlm5 := hpush.1.lt; have Hpush := hide hpush.2; have Hk5 := hide ((((KeepT.refl W1).alloc (.cells #[.int .i64 (q : Int)] 3)).trans (KeepT.below ((Below.refl _ _).drew))).grown (hkd.alloc _).drew hg5 (.inr (.inl rfl))); have Hty := hide hpush.1.ty; clear hpush; have c5 := cell_of_box ((unhide Hk5) pb _ 61 (unhide Hp1) (by decide) (by decide) (by decide)); have hpb5 := (Array.getElem?_eq_some_iff.1 ((unhide Hk5) pb _ 61 (unhide Hp1) (by decide) (by decide) (by decide))).1; obtain ⟨g5, cap5, hv5⟩ := ownsRow_succ hrow; subst hv5)
    all_goals
      have Hc9 := hide (unhide Hclimb _ lost _ (by rw [unhide Hpl]; exact unhide Hpush) (unhide HI))
      have Hb9 : Hid (Below N w (w5.setCell ⟨mb, 3, none⟩ (.slice (some ⟨g5, 0, none⟩) 1 cap5))) := hide (((hb0N.alloc (by omega) (.cells #[.int .i64 (q : Int)] 3)).drew.grown hg5 (by show N ≤ (W1.heap.push _).size; simp; omega) (fun z e => (hkd.lt z e).1)).setCell (p := ⟨mb, 3, none⟩) hmN _)
      have Hk9 := hide (((KeepT.below hb0).trans (unhide Hk5)).setCell (j := 3) (unhide Hty) (.inr (.inr rfl)) (.slice (some ⟨g5, 0, none⟩) 1 cap5))
      clear Hclimb Hpush
      go_wp2_with fail
      refine (unhide Hc9).mono ?_
      rintro e w6 ⟨⟨he, hres⟩, hb6, hk6⟩
      subst he
      have Hres := hide hres
      have Hk6 := hide hk6
      clear hres Hc9 hk6
      go_wp2
      exact bodyPost_end (v := .tuple #[]) (results_none rfl _ _ _) rfl ⟨⟨rfl, unhide Hres⟩, (unhide Hb9).trans hb6, (unhide Hk9).trans (unhide Hk6)⟩

end Go.Proofs.Ytjhndbfhiknngaa

/- Walks: again, markAll. -/
namespace Go.Proofs.Ytjhndbfhiknngaa
set_option linter.unusedSimpArgs false
set_option linter.unusedVariables false
open Go.RowKit Go.Shelf
attribute [local go_sem] field51_0 field51_1

theorem to_lt {fs : List (List Int)} {l : List Int} {j : Nat} (h : To fs l j) : j < fs.length := by
  obtain ⟨x, _, _, h⟩ := h
  have := (List.getElem?_eq_some_iff.1 h).1
  rw [stF_len] at this
  exact this
theorem rch_lt {fs : List (List Int)} {rs : List Int} {j : Nat} (h : Rch fs rs j) : j < fs.length :=
  h (fun j => j < fs.length) (fun _ h => to_lt h) (fun _ _ _ _ _ h => to_lt h)

/-- What holds while marked objects are gone through once more. -/
def AgI (w0 : World) (N mb pb : Nat) (vw vr : Value) (hs : List Int) (fs : List (List Int)) (rs : List Int) (room n0 : Nat) (p : Nat → Bool) (k : Nat) (W : World) : Prop :=
  ClRes N mb vw vr hs fs rs room (fun j => k ≤ j) n0 p W ∧ W.heap[pb]? = some (.cells #[.pointer (some ⟨mb, 0, none⟩)] 61) ∧ Below N w0 W ∧ KeepT w0 W

theorem agEach (N mb pb cap : Nat) (a : Option Addr) (vr : Value) (hs : List Int) (fs : List (List Int)) (rs : List Int) (room n0 : Nat) (p : Nat → Bool) (w : World) (hA : Arn hs fs rs) (hr1 : 1 ≤ room) (hroom : room ≤ 64)
    (hM : ClRes N mb (.slice a (tot fs) cap) vr hs fs rs room (fun j => 0 ≤ j) n0 p w) (hp : w.heap[pb]? = some (.cells #[.pointer (some ⟨mb, 0, none⟩)] 61)) :
    Calls Try.prog 29 #[.slice a (tot fs : Nat) cap, .func (.func 56) #[] #[.pointer (some ⟨pb, 0, none⟩)]] w fun e w' => e = .returned (.tuple #[]) ∧ AgI w N mb pb (.slice a (tot fs) cap) vr hs fs rs room n0 p fs.length w' := by
  have hF := hA.fit
  refine each56_c _ a cap fs (AgI w N mb pb (.slice a (tot fs) cap) vr hs fs rs room n0 p) w hA.n256 ⟨hM, hp, Below.refl _ _, KeepT.refl _⟩ ?_
  intro k hk W hI
  obtain ⟨⟨p', lost', hMA, hI', hle⟩, hpW, hbW, hkW⟩ := hI
  have hMA' := hMA
  obtain ⟨vk, hMW⟩ := hMA
  obtain ⟨x, hx, hx1, hx2, hx3, hx4⟩ := fit_at hF hk
  have hml := mW_len hF p'
  have hpl := place_lt hk
  obtain ⟨wb, cap', hvw, hwN, hwb, hcap⟩ := hMW.words (by rw [hml]; omega)
  rw [hml] at hvw
  injection hvw with h1 _ h3
  subst h1 h3
  have hg := mW_get hF p' hx
  have hr2 := reh_ok (p' k) x
  refine ⟨wb, 0, reh (p' k) x, rfl, by rw [Nat.zero_add]; exact (hMW.wcell hml.symm hg).1, hr2.2.2.2.2.1, hr2.2.2.2.2.2, hr2.1, by rw [reh_wlen hx1]; exact hx2, fun W' hb' => ?_⟩
  have hp' : W'.heap[pb]? = some (.cells #[.pointer (some ⟨mb, 0, none⟩)] 61) := by rw [hb'.block pb (Array.getElem?_eq_some_iff.1 hpW).1]; exact hpW
  rw [hr2.2.2.1]
  refine (ag1_c hs fs rs n0 k p' N mb pb _ vr room lost' _ _ W' (hMA'.below hb') hA hr1 hroom hk hI' hp').mono ?_
  rintro e W2 ⟨⟨rfl, p2, lost2, h2, h3, h4⟩, hb2, hk2⟩
  refine ⟨rfl, ⟨⟨p2, lost2, h2, h3, fun j hj => h4 j (hle j hj)⟩, hk2 pb _ 61 hp' (by decide) (by decide) (by decide), (hbW.trans (hb'.mono (by omega))).trans hb2, (hkW.trans (KeepT.below hb')).trans hk2⟩, hk2.k51, hb2.size⟩

theorem Inv.again {fs : List (List Int)} {rs : List Int} {E : Nat → Prop} {n0 : Nat} {p : Nat → Bool} {lost : Bool} (h : Inv fs rs E n0 p [] lost) : Inv fs rs (fun j => 0 ≤ j) (unm fs.length p) p [] false :=
  ⟨h.rch, h.inb, h.km, fun _ j _ => .inl (Nat.zero_le j), Nat.le_refl _, fun e => by cases e⟩

theorem Inv.none {fs : List (List Int)} {rs : List Int} {n0 : Nat} {p : Nat → Bool} {lost : Bool} (h : Inv fs rs (fun j => fs.length ≤ j) n0 p [] lost) : Inv fs rs (fun _ => False) n0 p [] lost := by
  refine ⟨h.rch, h.inb, h.km, fun e j hj => ?_, h.le, h.ls⟩
  rcases h.cl e j hj with h1 | h1 | h1
  · have := rch_lt (h.rch j hj)
    have h2 : fs.length ≤ j := h1
    omega
  · exact .inr (.inl h1)
  · exact .inr (.inr h1)

set_option maxRecDepth 100000 in
set_option maxHeartbeats 2000000 in
theorem again_c (hs : List Int) (fs : List (List Int)) (rs : List Int) (n0 : Nat) (p : Nat → Bool) (N mb : Nat) (vw vr : Value) (room : Nat) (w : World)
    (hM : MkA w N mb vw vr hs fs rs room p [] true) (hA : Arn hs fs rs) (hr1 : 1 ≤ room) (hroom : room ≤ 64) (hI : Inv fs rs (fun _ => False) n0 p [] true) :
    Calls Try.prog 44 #[.pointer (some ⟨mb, 0, none⟩)] w fun e w' => (e = .returned (.tuple #[]) ∧ ClRes N mb vw vr hs fs rs room (fun _ => False) (unm fs.length p) p w') ∧ Below N w w' ∧ KeepT w w' := by
  have hml := mW_len hA.fit p
  obtain ⟨W1, hW1⟩ : ∃ W1, w.alloc (.cells #[.pointer (some ⟨mb, 0, none⟩)] 61) = W1 := ⟨_, rfl⟩
  have hb0 : Below w.heap.size w W1 := by rw [← hW1]; exact (Below.refl _ _).alloc (Nat.le_refl _) _
  have hs1 : w.heap.size < W1.heap.size := by rw [← hW1]; simp
  have hp1 : W1.heap[w.heap.size]? = some (.cells #[.pointer (some ⟨mb, 0, none⟩)] 61) := by rw [← hW1]; exact heap_alloc_new _ _
  have hcp := cell_of_box hp1
  obtain ⟨vk, hM1⟩ := hM.below hb0
  have hM2 := hM1.setL false
  have q4 := hM1.box.c4
  have z4 := hM1.box.fr 4
  have q0 := hM1.box.c0
  have hmN := hM1.lo
  have hlm := hM1.box.lt
  have hNw : N ≤ w.heap.size := by obtain ⟨vk, h⟩ := hM; have := h.box.lt; have := h.lo; omega
  obtain ⟨a, cap, hvw⟩ := ownsRow_slice hM1.wo
  rw [hml] at hvw
  subst hvw
  have hp2 : (W1.setCell ⟨mb, 4, none⟩ (.bool false)).heap[w.heap.size]? = some (.cells #[.pointer (some ⟨mb, 0, none⟩)] 61) := by
    refine ((KeepT.refl W1).setCell (j := 4) hM1.box.ty (.inr (.inr rfl)) (.bool false)) _ _ 61 hp1 (by decide) (by decide) (by decide)
  have Hk2 := hide ((KeepT.below hb0).setCell (j := 4) hM1.box.ty (.inr (.inr rfl)) (.bool false))
  have Hb2 := hide ((hb0.mono hNw).setCell (p := ⟨mb, 4, none⟩) hmN (.bool false))
  have Hc := hide (agEach N mb w.heap.size cap a vr hs fs rs room (unm fs.length p) p (W1.setCell ⟨mb, 4, none⟩ (.bool false)) hA hr1 hroom ⟨p, false, ⟨_, hM2⟩, hI.again, fun j h => h⟩ hp2)
  clear hM hM1 hM2 hp1 hp2 hI hA hml
  generalize tot fs = n at *
  go_enter Try.func44, Try.ntmps44
  go_wp2_with fail
  refine (unhide Hc).mono ?_
  rintro e w3 ⟨he, ⟨p', lost', h1, h2, h3⟩, _, hb3, hk3⟩
  subst he
  have Hres : Hid (ClRes N mb (.slice a n cap) vr hs fs rs room (fun _ => False) (unm fs.length p) p w3) := hide ⟨p', lost', h1, h2.none, h3⟩
  have Hk3 := hide hk3
  clear h1 h2 h3 hk3 hW1 Hc
  go_wp2
  exact bodyPost_end (v := .tuple #[]) (results_none rfl _ _ _) rfl ⟨⟨rfl, unhide Hres⟩, (unhide Hb2).trans hb3, (unhide Hk2).trans (unhide Hk3)⟩

end Go.Proofs.Ytjhndbfhiknngaa

/- Walks: markAll. -/
namespace Go.Proofs.Ytjhndbfhiknngaa
set_option linter.unusedSimpArgs false
set_option linter.unusedVariables false
open Go.RowKit Go.Shelf
attribute [local go_sem] field51_0 field51_1

theorem unm_mono {p q : Nat → Bool} (h : ∀ j, p j = true → q j = true) (n : Nat) : unm n q ≤ unm n p := by
  unfold unm
  rw [← List.countP_eq_length_filter, ← List.countP_eq_length_filter]
  refine List.countP_mono_left fun x _ hx => ?_
  cases hp : p x
  · rfl
  · rw [h x hp] at hx; cases hx

/-- Whether something was lost, as memory tells. -/
def mesL (mb : Nat) (w : World) : Nat := match w.cell? ⟨mb, 4, none⟩ with
  | some (.bool true) => 1
  | _ => 0

theorem mesL_eq {W : World} {N mb : Nat} {vw vr : Value} {hs : List Int} {fs : List (List Int)} {rs : List Int} {room : Nat} {p : Nat → Bool} {K : List Nat} {lost : Bool} (h : MkA W N mb vw vr hs fs rs room p K lost) : mesL mb W = if lost then 1 else 0 := by
  obtain ⟨vk, h⟩ := h
  unfold mesL
  rw [h.box.c4]
  cases lost <;> rfl

/-- What markAll leaves. -/
def MaRes (N mb : Nat) (vw vr : Value) (hs : List Int) (fs : List (List Int)) (rs : List Int) (room : Nat) (W : World) : Prop :=
  ∃ p, MkA W N mb vw vr hs fs rs room p [] false ∧ ∀ j, p j = true ↔ Rch fs rs j

set_option maxRecDepth 100000 in
set_option maxHeartbeats 2000000 in
theorem markAll_c (hs : List Int) (fs : List (List Int)) (rs : List Int) (N mb : Nat) (vw vr : Value) (room : Nat) (w : World)
    (hM : MkA w N mb vw vr hs fs rs room (fun _ => false) [] false) (hA : Arn hs fs rs) (hr1 : 1 ≤ room) (hroom : room ≤ 64) :
    Calls Try.prog 28 #[.pointer (some ⟨mb, 0, none⟩)] w fun e w' => (e = .returned (.tuple #[]) ∧ MaRes N mb vw vr hs fs rs room w') ∧ Below N w w' ∧ KeepT w w' := by
  have HM0 := hide hM
  have HA := hide hA
  have HF := hide hA.fit
  have h256 := hA.n256
  have HI0 : Hid (Inv fs rs (fun _ => False) (fs.length + 1) (fun _ => false) [] false) := hide ⟨fun j h => (by cases h), by simp, by simp, fun _ j h => (by cases h), by unfold unm; have := List.length_filter_le (fun i => !(fun _ => false) i) (List.range fs.length); rw [List.length_range] at this; omega, fun e => by cases e⟩
  clear hM hA
  go_enter Try.func28, Try.ntmps28
  go_wp2
  go_loopw [] (fun wr => ∃ p lost, Hid (MkA wr N mb vw vr hs fs rs room p [] lost) ∧ Hid (Inv fs rs (fun _ => False) (fs.length + 1) p [] lost) ∧ Below N w wr ∧ Hid (KeepT w wr)) (fun wr => mesU vw fs wr)
  case atStart => exact ⟨_, _, HM0, HI0, Below.refl _ _, hide (KeepT.refl _)⟩
  case round =>
    clear HM0 HI0
    obtain ⟨p, lost, HMA, HI, hb, Hkt⟩ := hrel
    have HmU := hide (mesU_eq (unhide HMA) (unhide HF))
    obtain ⟨vk, hM⟩ := unhide HMA
    have q1 := hM.box.c1
    have hlm := hM.box.lt
    have hmN := hM.lo
    have hNw : N ≤ wr.heap.size := by omega
    obtain ⟨ra, rc, hvr, hrd⟩ := hM.rds (unhide HA).n8
    subst hvr
    have Hun := hide (unmarked_c ra rc rs hs fs p N mb vw _ vk rs _ room lost wr hM (unhide HF) h256 hrd (unhide HA).ur (unhide HA).n8 (unhide HA).okr)
    clear hM hrd
    go_wp2_with fail
    refine (unhide Hun).mono ?_
    rintro e w3 ⟨hres, hb3⟩
    have hs3 := hb3.size
    clear Hun
    rcases hres with ⟨j, hj, hpj, hto, he⟩ | ⟨hall, he⟩
    · subst he
      have Htk := hide (take_c hs fs rs p [] N mb vw _ room j lost w3 ((unhide HMA).below hb3) (unhide HF) h256 hroom (by simp) hj)
      have HI2 := hide ((unhide HI).push hj hpj (rch_root hto))
      have Hu := hide (unm_upd hj hpj)
      clear hto hpj HI HMA
      go_wp2_with fail
      refine (unhide Htk).mono ?_
      rintro e w4 ⟨⟨he, hres⟩, hb4, hk4⟩
      subst he
      have h4 : MkA w4 N mb vw (.slice ra rs.length rc) hs fs rs room (upd p j) ([] ++ [j]) lost := by
        rcases hres with ⟨h1, _⟩ | ⟨_, h2⟩
        · simp at h1; omega
        · exact h2
      have Hcl := hide (climb_c hs fs rs _ _ (upd p j) ([] ++ [j]) N mb vw _ room lost w4 h4 (unhide HA) hroom (by simpa using hr1) (unhide HI2))
      have Hk4 := hide ((unhide Hkt).trans ((KeepT.below hb3).trans hk4))
      have hbw4 : Below N w w4 := (hb.trans (hb3.mono hNw)).trans hb4
      clear hres h4 Htk HI2 hk4
      go_wp2_with fail
      refine (unhide Hcl).mono ?_
      rintro e w5 ⟨⟨he, p', lost', h1, h2, h3⟩, hb5, hk5⟩
      subst he
      have H1 := hide h1
      have H2 := hide h2
      have H3 := hide h3
      have Hk5 := hide ((unhide Hk4).trans hk5)
      clear h1 h2 h3 hk5 Hcl
      go_wp2
      go_roundw
      case rel => exact ⟨p', lost', H1, H2, hbw4.trans hb5, Hk5⟩
      case measure =>
        have := unm_mono (unhide H3) fs.length
        have := unhide Hu
        rw [unhide HmU, mesU_eq (unhide H1) (unhide HF)]
        omega
    · subst he
      have Hall := hide hall
      have HM3 := hide ((unhide HMA).below hb3)
      have Hk3 := hide ((unhide Hkt).trans (KeepT.below hb3))
      have hbw3 : Below N w w3 := hb.trans (hb3.mono hNw)
      clear hall HMA HmU Hkt q1 hlm hNw hb hb3 hs3
      go_wp2
      go_loopw [] (fun wr => ∃ p lost n0, Hid (MkA wr N mb vw (.slice ra rs.length rc) hs fs rs room p [] lost) ∧ Hid (Inv fs rs (fun _ => False) n0 p [] lost) ∧ Hid (∀ j, To fs rs j → p j = true) ∧ Below N w wr ∧ Hid (KeepT w wr)) (fun wr => 2 * mesU vw fs wr + mesL mb wr)
      case atStart => exact ⟨p, lost, _, HM3, HI, Hall, hbw3, Hk3⟩
      case round =>
        clear HM3 HI Hall hbw3 Hk3
        obtain ⟨p, lost, n0, HMA, HI, Hall, hb, Hkt⟩ := hrel
        have HmU := hide (mesU_eq (unhide HMA) (unhide HF))
        have HmL := hide (mesL_eq (unhide HMA))
        have q4 : wr.cell? ⟨mb, 4, none⟩ = some (.bool lost) := by obtain ⟨vk, hM⟩ := unhide HMA; exact hM.box.c4
        have hlm : mb < wr.heap.size := by obtain ⟨vk, hM⟩ := unhide HMA; exact hM.box.lt
        cases lost
        · have HR : Hid (MaRes N mb vw (.slice ra rs.length rc) hs fs rs room wr) := hide ⟨p, unhide HMA, marked_all (unhide HI).rch (unhide Hall) (fun i hi => by
            rcases (unhide HI).cl rfl i hi with h | h | h
            · cases h
            · cases h
            · exact h)⟩
          go_wp2
          exact bodyPost_end (v := .tuple #[]) (results_none rfl _ _ _) rfl ⟨⟨rfl, unhide HR⟩, hb, unhide Hkt⟩
        · have Hag := hide (again_c hs fs rs n0 p N mb vw _ room wr (unhide HMA) (unhide HA) hr1 hroom (unhide HI))
          go_wp2_with fail
          refine (unhide Hag).mono ?_
          rintro e w5 ⟨⟨he, p', lost', h1, h2, h3⟩, hb5, hk5⟩
          subst he
          have H1 := hide h1
          have H2 := hide h2
          have H3 := hide h3
          have Hk5 := hide ((unhide Hkt).trans hk5)
          clear h1 h2 h3 hk5 Hag
          go_wp2
          go_roundw
          case rel => exact ⟨p', lost', _, H1, H2, hide (fun j hj => unhide H3 j (unhide Hall j hj)), hb.trans hb5, Hk5⟩
          case measure =>
            have hm := unm_mono (unhide H3) fs.length
            rw [unhide HmU, unhide HmL, mesU_eq (unhide H1) (unhide HF), mesL_eq (unhide H1)]
            cases lost'
            · simp; omega
            · have := (unhide H2).ls rfl
              simp; omega

end Go.Proofs.Ytjhndbfhiknngaa

/- Walks: newMarker. -/
namespace Go.Proofs.Ytjhndbfhiknngaa
set_option linter.unusedSimpArgs false
set_option linter.unusedVariables false
open Go.RowKit Go.Shelf
attribute [local go_sem] field51_0 field51_1

theorem Try.info55m : (Try.prog.info? 55).map (fun i => (i.zero, i.size, i.bytes)) = some (some (.int .u64 0), 1, 8) := by kernel_rfl

theorem run_append_words (w : World) (base : Nat) (ty : TypeId) (ar : Option Addr) (l : List Int) (c : Nat) (hW : Wds w.heap.size w ar l) (hl : l.length ≤ 256) (hbase : base ≤ w.heap.size) :
    ∃ v' w', (Builtin.append_ #[22, 22] ty #[.slice none 0 0, .slice ar l.length c]).run Try.prog w = .ok v' w' ∧ w'.ownsRow base 55 1 v' l.length (wordsV l) ∧ w.grownBy w' none ∧ (v'.ownBlock = none ∨ v'.ownBlock = some w.heap.size) := by
  obtain ⟨i0, hi0, hz0, hz1, hz2⟩ := info_parts Try.info55m
  cases ar with
  | none =>
    have h0 : l = [] := by
      cases l with
      | nil => rfl
      | cons x l => obtain ⟨b, off, e, _⟩ := hW.2 (by simp); cases e
    subst h0
    refine ⟨.slice none 0 0, w, ?_, World.ownsRow_nil _ _ _ _, ⟨rfl, rfl, rfl, Nat.le_refl _, fun _ _ _ => rfl⟩, .inl rfl⟩
    simp [Builtin.append_, run_underlying Try.underlying22, sizeOf, typeInfo, hi0, Builtin.lenOf, Builtin.firstCells]
  | some ad =>
    have hn : ∀ j u, (wordsV l)[j]? = some u → w.cell? (ad.add j) = some u := by
      intro j u hj
      obtain ⟨b, off, e, _, hc⟩ := hW.2 (by rintro rfl; simp [wordsV] at hj)
      have e' := Option.some.inj e
      subst e'
      rw [Go.WideShapes.add_plain]
      simp only [wordsV, List.getElem?_map, Option.map_eq_some_iff] at hj
      obtain ⟨x, hx, rfl⟩ := hj
      exact hc j x hx
    obtain ⟨v', w', h1, h2, h3, _, h5⟩ := run_append_own_at (P := Try.prog) w base 22 ty 55 i0 (.int .u64 0) 1 8 Try.underlying22 hi0 hz0 hz1 hz2 rfl (by decide) (.slice none 0 0) 0 [] (World.ownsRow_nil _ _ _ _) ad l.length c (wordsV l) (by simp [wordsV]) hn (by intro u hu; simp only [wordsV, List.mem_map] at hu; obtain ⟨x, _, rfl⟩ := hu; rfl) (by simp only [maxLen]; omega) (by omega) hbase
    rw [Nat.zero_add, List.nil_append] at h2
    exact ⟨v', w', h1, h2, h3, h5⟩

theorem step_append_words {ops : Array Oper} {o : Oper} {a : Act} {w : World} {K : Act → World → Prop} {Q : Exit → Act → World → Prop} {E : Prop} (hgd : o.guard = none) (s x : Operand)
    (ho : o.op = .call { callee := .builtin .append, args := #[s, x], argTypes := #[22, 22] }) (base : Nat) (ar : Option Addr) (l : List Int) (c : Nat) (hs : a.eval s = .slice none 0 0) (hx : a.eval x = .slice ar l.length c) (hW : Wds w.heap.size w ar l) (hl : l.length ≤ 256) (hbase : base ≤ w.heap.size)
    (h : ∀ v' w', w'.ownsRow base 55 1 v' l.length (wordsV l) → w.grownBy w' none → (v'.ownBlock = none ∨ v'.ownBlock = some w.heap.size) → K (a.put o.dst v') w') :
    if Region.wanted o (yielded ops a.tmps) = true then Oper.wp Try.prog o a w K Q else E := by
  have hw : Region.wanted o (yielded ops a.tmps) = true := by simp [Region.wanted, hgd]
  rw [if_pos hw]
  obtain ⟨v', w', hr, h2, h3, h5⟩ := run_append_words w base o.type ar l c hW hl hbase
  unfold Oper.wp execOp
  simp only [ho, resolve, invoke, builtin, Sem.run_bind, Sem.run_pure, Result.andThen_ok, List.map_toArray, List.map_cons, List.map_nil, hs, hx, hr]
  exact h v' w' h2 h3 h5

theorem grown_own {W w1 : World} {base : Nat} {e : TypeId} {size : Nat} {v : Value} {n : Nat} {xs : List Value} (h : W.ownsRow base e size v n xs) (hg : W.grownBy w1 none) : w1.ownsRow base e size v n xs := h.kept hg (by cases hv : v.ownBlock <;> simp)

/-- Behind the first append and its store. -/
theorem Mk.first {W w1 : World} {N mb : Nat} {vr vk v' : Value} {ws rs K : List Int} {room : Nat} {lost : Bool} (h : Mk W N mb (.slice none 0 0) vr vk [] rs K room lost) (hrow : w1.ownsRow N 55 1 v' ws.length (wordsV ws)) (hg : W.grownBy w1 none)
    (hat : v'.ownBlock = none ∨ v'.ownBlock = some W.heap.size) : MBox w1 mb (.slice none 0 0) vr room vk lost ∧ Mk (w1.setCell ⟨mb, 0, none⟩ v') N mb v' vr vk ws rs K room lost := by
  have hbox : MBox w1 mb (.slice none 0 0) vr room vk lost := h.box.kept (hg.block _ h.box.lt (by simp))
  have new : ∀ {u : Value}, (∀ k, u.ownBlock = some k → k < W.heap.size) → ∀ k, v'.ownBlock = some k → u.ownBlock ≠ some k := by
    intro u h1 k hk e
    rcases hat with h | h
    · rw [h] at hk; cases hk
    · rw [h] at hk; injection hk with hk; have := h1 k e; omega
  have hg2 := grown_set w1 mb 0 v'
  have ne : v'.ownBlock ≠ some mb := fun e => by
    rcases hat with h1 | h1
    · rw [h1] at e; cases e
    · rw [h1] at e; injection e with e; have := h.box.lt; omega
  exact ⟨hbox, hbox.set0 v', h.lo, hrow.kept hg2 (or_ne ne), (grown_own h.ro hg).kept hg2 (or_ne h.ar), (grown_own h.ko hg).kept hg2 (or_ne h.ak), ne, h.ar, h.ak, new (fun k hk => (h.ro.lt k hk).2), new (fun k hk => (h.ko.lt k hk).2), h.rk⟩

/-- Behind the second append and its store. -/
theorem Mk.second {W w1 : World} {N mb : Nat} {vw vk v' : Value} {ws rs K : List Int} {room : Nat} {lost : Bool} (h : Mk W N mb vw (.slice none 0 0) vk ws [] K room lost) (hrow : w1.ownsRow N 55 1 v' rs.length (wordsV rs)) (hg : W.grownBy w1 none)
    (hat : v'.ownBlock = none ∨ v'.ownBlock = some W.heap.size) : MBox w1 mb vw (.slice none 0 0) room vk lost ∧ Mk (w1.setCell ⟨mb, 1, none⟩ v') N mb vw v' vk ws rs K room lost := by
  have hbox : MBox w1 mb vw (.slice none 0 0) room vk lost := h.box.kept (hg.block _ h.box.lt (by simp))
  have new : ∀ {u : Value}, (∀ k, u.ownBlock = some k → k < W.heap.size) → ∀ k, v'.ownBlock = some k → u.ownBlock ≠ some k := by
    intro u h1 k hk e
    rcases hat with h | h
    · rw [h] at hk; cases hk
    · rw [h] at hk; injection hk with hk; have := h1 k e; omega
  have hg2 := grown_set w1 mb 1 v'
  have ne : v'.ownBlock ≠ some mb := fun e => by
    rcases hat with h1 | h1
    · rw [h1] at e; cases e
    · rw [h1] at e; injection e with e; have := h.box.lt; omega
  exact ⟨hbox, hbox.set1 v', h.lo, (grown_own h.wo hg).kept hg2 (or_ne h.aw), hrow.kept hg2 (or_ne ne), (grown_own h.ko hg).kept hg2 (or_ne h.ak), h.aw, ne, h.ak, fun k hk e => new (fun k hk => (h.wo.lt k hk).2) k e hk, h.wk, new (fun k hk => (h.ko.lt k hk).2)⟩

theorem keepT_grown {a W W' : World} (h : KeepT a W) (hg : W.grownBy W' none) : KeepT a W' := h.trans fun k cs t hk _ _ _ => by rw [hg.block k (Array.getElem?_eq_some_iff.1 hk).1 (by simp)]; exact hk

/-- A new marker. -/
theorem mk_start {w1 : World} {N kb room : Nat} (h : w1.ownsRow N 3 1 (.slice (some ⟨kb, 0, none⟩) 0 room) 0 []) (hN : N ≤ w1.heap.size) :
    Mk ((w1.alloc (.cells #[.slice none 0 0, .slice none 0 0, .int .i64 (room : Nat), .slice (some ⟨kb, 0, none⟩) 0 room, .bool false] 64)).alloc (.cells #[.pointer (some ⟨w1.heap.size, 0, none⟩)] 61)) N w1.heap.size (.slice none 0 0) (.slice none 0 0) (.slice (some ⟨kb, 0, none⟩) 0 room) [] [] [] room false := by
  have hk := (h.lt kb rfl).2
  refine ⟨⟨by simp [go_sem], by simp [go_sem], by simp [go_sem], by simp [go_sem], by simp [go_sem], fun j => ?_, ?_⟩, hN, World.ownsRow_nil _ _ _ _, World.ownsRow_nil _ _ _ _, (h.alloc _).alloc _, by simp [Value.ownBlock], by simp [Value.ownBlock], by simp [Value.ownBlock]; omega, by simp [Value.ownBlock], by simp [Value.ownBlock], by simp [Value.ownBlock]⟩
  · simp [go_sem]
  · refine ⟨#[.slice none 0 0, .slice none 0 0, .int .i64 (room : Nat), .slice (some ⟨kb, 0, none⟩) 0 room, .bool false], ?_⟩
    rw [Below.heap_alloc _ _ _ (by simp)]
    exact heap_alloc_new _ _

end Go.Proofs.Ytjhndbfhiknngaa

/- Walks: newMarker. -/
namespace Go.Proofs.Ytjhndbfhiknngaa
set_option linter.unusedSimpArgs false
set_option linter.unusedVariables false
open Go.RowKit Go.Shelf
attribute [local go_sem] field51_0 field51_1

def NmRes (N : Nat) (hs : List Int) (fs : List (List Int)) (rs : List Int) (room : Nat) (e : Ending) (W : World) : Prop :=
  ∃ mb vw vr, e = .returned (.pointer (some ⟨mb, 0, none⟩)) ∧ MkA W N mb vw vr hs fs rs room (fun _ => false) [] false

set_option maxRecDepth 100000 in
set_option maxHeartbeats 2000000 in
theorem newMarker_c (aw ar : Option Addr) (cw cr : Nat) (hs : List Int) (fs : List (List Int)) (rs : List Int) (room : Nat) (w : World) (hA : Arn hs fs rs) (hr1 : 1 ≤ room) (hroom : room ≤ 64)
    (hW : Wds w.heap.size w aw (joinW hs fs)) (hR : Wds w.heap.size w ar rs) :
    Calls Try.prog 27 #[.agg #[.slice aw (tot fs : Nat) cw, .slice ar rs.length cr], .int .i64 (room : Nat)] w fun e w' => NmRes w.heap.size hs fs rs room e w' ∧ Below w.heap.size w w' := by
  obtain ⟨i0, hi0, hz0, hz1, hz2⟩ := info_parts Try.info3
  have hF := hA.fit
  have h256 := hA.n256
  have h8 := hA.n8
  have hjl := joinW_len hs fs hF.len
  have HF := hide hF
  have Hjl := hide hjl
  obtain ⟨W0, hW0⟩ : ∃ W0, w.alloc (.cells #[.slice aw (tot fs : Nat) cw, .slice ar rs.length cr] 24) = W0 := ⟨_, rfl⟩
  have hb0 : Below w.heap.size w W0 := by rw [← hW0]; exact (Below.refl _ _).alloc (Nat.le_refl _) _
  have hs0 : w.heap.size < W0.heap.size := by rw [← hW0]; simp
  have hp0 : W0.heap[w.heap.size]? = some (.cells #[.slice aw (tot fs : Nat) cw, .slice ar rs.length cr] 24) := by rw [← hW0]; exact heap_alloc_new _ _
  have Hp0 := hide hp0
  have HW := hide (hW.below hb0)
  have HR := hide (hR.below hb0)
  clear hW hR hA hjl hF hp0
  go_enter Try.func27, Try.ntmps27
  go_upto_region 2 with (at_make; go_must (refine wpList_make_own _ rfl _ _ 40 rfl w.heap.size 3 i0 _ 1 Try.underlying40 hi0 hz0 hz1 .i64 .i64 _ room rfl rfl rfl (by rw [hz2]; omega) (by simp only [maxLen]; omega) (by omega) ?_); go_must (intro w1 hown hg1))
  have hs1 := hg1.size
  have hM2 := mk_start hown (N := w.heap.size) (by omega)
  obtain ⟨W2, hW2⟩ : ∃ W2, ((w1.alloc (.cells #[.slice none 0 0, .slice none 0 0, .int .i64 (room : Nat), .slice (some ⟨W0.heap.size, 0, none⟩) 0 room, .bool false] 64)).alloc (.cells #[.pointer (some ⟨w1.heap.size, 0, none⟩)] 61)) = W2 := ⟨_, rfl⟩
  rw [hW2] at hM2
  have hp2 : W2.heap[w1.heap.size + 1]? = some (.cells #[.pointer (some ⟨w1.heap.size, 0, none⟩)] 61) := by
    have := heap_alloc_new (w1.alloc (.cells #[.slice none 0 0, .slice none 0 0, .int .i64 (room : Nat), .slice (some ⟨W0.heap.size, 0, none⟩) 0 room, .bool false] 64)) (.cells #[.pointer (some ⟨w1.heap.size, 0, none⟩)] 61)
    rw [hW2] at this
    simpa using this
  have hb2 : Below W0.heap.size W0 W2 := by rw [← hW2]; exact ((((Below.refl _ W0).grown hg1 (Nat.le_refl _) (fun k e => by cases e)).alloc hs1 _).alloc (by simp; omega) _)
  have hs2 := hb2.size
  rw [hW2]
  have hmW : W0.heap.size ≤ w1.heap.size := hs1
  have hlp2 := (Array.getElem?_eq_some_iff.1 hp2).1
  clear hown hg1 hW2 hW0 hs1
  generalize w1.heap.size = mb at *
  have hcp := cell_of_box hp2
  have q0 := hM2.box.c0
  have z0 := hM2.box.fr 0
  have hlm := hM2.box.lt
  have c24 : ∀ (wx : World), Below W0.heap.size W0 wx → wx.cell? ⟨w.heap.size, 0, none⟩ = some (.slice aw (tot fs : Nat) cw) ∧ wx.cell? ⟨w.heap.size, 1, none⟩ = some (.slice ar rs.length cr) := fun wx hb => by
    have h := (hb.block w.heap.size hs0).trans (unhide Hp0)
    exact ⟨by rw [cell_of_row wx w.heap.size 0 _ 24 (0, 0) h]; rfl, by rw [cell_of_row wx w.heap.size 1 _ 24 (0, 0) h]; rfl⟩
  have a0 := (c24 W2 hb2).1
  have hla : w.heap.size < W2.heap.size := by omega
  have HM2 := hide hM2
  have Hp2 := hide hp2
  have HWd : Hid (∀ wx, Below W0.heap.size W0 wx → Wds wx.heap.size wx aw (joinW hs fs) ∧ Wds wx.heap.size wx ar rs) := fun wx hb => ⟨((unhide HW).below (hb.mono (by omega))).mono (by have := hb.size; omega), ((unhide HR).below (hb.mono (by omega))).mono (by have := hb.size; omega)⟩
  have Hc24 := hide c24
  clear hM2 hp2 c24
  go_cut [] from 11 to 22 (fun wx => ∃ vw, Hid (Mk wx w.heap.size mb vw (.slice none 0 0) (.slice (some ⟨W0.heap.size, 0, none⟩) 0 room) (joinW hs fs) [] [] room false) ∧ Hid (KeepT W2 wx) ∧ Below W0.heap.size W0 wx)
  case first =>
    go_region_law (refine step_append_words rfl _ _ rfl w.heap.size aw (joinW hs fs) cw rfl (by rw [unhide Hjl]; rfl) (unhide HWd _ hb2.drew).1 (by rw [unhide Hjl]; exact h256) (by show w.heap.size ≤ W2.heap.size; omega) ?_; intro v' w5 hrow hg5 hat; have hfst := ((unhide HM2).below ((Below.refl _ _).drew)).first hrow hg5 hat; have r0 := hfst.1.c0; have t0 := hfst.1.fr 0; have hlm5 := hfst.1.lt; have Hfst := hide hfst.2; have Hty := hide hfst.1.ty; have Hk5 := hide (keepT_grown (KeepT.below ((Below.refl _ W2).drew)) hg5); have hb5 := hb2.drew.grown hg5 hs2 (fun k e => by cases e); have c5 := cell_of_box ((unhide Hk5) (mb + 1) _ 61 (unhide Hp2) (by decide) (by decide) (by decide)); clear hfst; obtain ⟨va, vc, hv5⟩ := ownsRow_slice hrow; subst hv5)
    all_goals
      go_wp2_with fail
      go_meet
      case rel => exact ⟨_, Hfst, hide ((unhide Hk5).setCell (unhide Hty) (.inr (.inr rfl)) _), hb5.setCell (p := ⟨mb, 0, none⟩) (by show W0.heap.size ≤ mb; omega) _⟩
  case rest =>
  obtain ⟨vw, HM3, Hk3, hb3⟩ := hcut
  clear q0 z0 hcp hlm hla a0 HM2 hlp2
  have hs3 := hb3.size
  have Hp3 := hide ((unhide Hk3) (mb + 1) _ 61 (unhide Hp2) (by decide) (by decide) (by decide))
  have hcp := cell_of_box (unhide Hp3)
  have q1 := (unhide HM3).box.c1
  have z1 := (unhide HM3).box.fr 1
  have hlm := (unhide HM3).box.lt
  have a1 := (unhide Hc24 wc hb3).2
  have hla : w.heap.size < wc.heap.size := by omega
  have hlp : mb + 1 < wc.heap.size := (Array.getElem?_eq_some_iff.1 (unhide Hp3)).1
  clear hb2 hs2 Hp2 Hk3
  go_upto_region 3 with fail
  go_cut [] from 23 to 34 (fun wx => ∃ vr, Hid (Mk wx w.heap.size mb vw vr (.slice (some ⟨W0.heap.size, 0, none⟩) 0 room) (joinW hs fs) rs [] room false) ∧ Hid (wx.heap[mb + 1]? = some (.cells #[.pointer (some ⟨mb, 0, none⟩)] 61)) ∧ Below W0.heap.size W0 wx)
  case first =>
    go_region_law (refine step_append_words rfl _ _ rfl w.heap.size ar rs cr rfl rfl (unhide HWd _ hb3.drew).2 (by omega) (by show w.heap.size ≤ wc.heap.size; omega) ?_; intro v' w5 hrow hg5 hat; have hsnd := ((unhide HM3).below ((Below.refl _ _).drew)).second hrow hg5 hat; have r0 := hsnd.1.c1; have t0 := hsnd.1.fr 1; have hlm5 := hsnd.1.lt; have Hsnd := hide hsnd.2; have Hty := hide hsnd.1.ty; have Hk5 := hide (keepT_grown (KeepT.below ((Below.refl _ wc).drew)) hg5); have hb5 := hb3.drew.grown hg5 hs3 (fun k e => by cases e); have c5 := cell_of_box ((unhide Hk5) (mb + 1) _ 61 (unhide Hp3) (by decide) (by decide) (by decide)); clear hsnd; obtain ⟨va, vc, hv5⟩ := ownsRow_slice hrow; subst hv5)
    all_goals
      go_wp2_with fail
      go_meet
      case rel => exact ⟨_, Hsnd, hide (((unhide Hk5).setCell (unhide Hty) (.inr (.inr rfl)) _) (mb + 1) _ 61 (unhide Hp3) (by decide) (by decide) (by decide)), hb5.setCell (p := ⟨mb, 1, none⟩) (by show W0.heap.size ≤ mb; omega) _⟩
  case rest =>
  obtain ⟨vr, HM4, Hp4, hb4⟩ := hcut
  clear q1 z1 hcp hlm hla a1 HM3 Hp3 hs3 hb3 hlp Hc24 HWd
  have hcp := cell_of_box (unhide Hp4)
  have hlp : mb + 1 < wc.heap.size := (Array.getElem?_eq_some_iff.1 (unhide Hp4)).1
  have hlm := (unhide HM4).box.lt
  obtain ⟨a, cap, hvw⟩ := ownsRow_slice (unhide HM4).wo
  rw [unhide Hjl] at hvw
  subst hvw
  have q0 := (unhide HM4).box.c0
  have Hc := hide (nmEach w.heap.size mb (mb + 1) cap a vr _ hs fs rs room wc (unhide HF) h256 (unhide HM4) (unhide Hp4))
  have Hfin : Hid (fW hs fs fs.length = mW hs fs (fun _ => false)) := by
    show joinW _ _ = joinW _ _
    rw [mkF_all _ _ (by have := (unhide HF).len; omega)]
  have hbw : Below w.heap.size w wc := hb0.trans (hb4.mono (by omega))
  clear HM4 Hp4 hb0 hb4
  go_wp2_with fail
  refine (unhide Hc).mono ?_
  rintro e w6 ⟨he, hM6, hp6, hb6, hk6⟩
  subst he
  have hc6 := cell_of_box hp6
  have hl6 : mb + 1 < w6.heap.size := (Array.getElem?_eq_some_iff.1 hp6).1
  have HM6 := hide hM6
  clear hM6 hp6 hk6 Hc
  go_wp2
  go_ret
  have h9 := unhide HM6
  rw [unhide Hfin] at h9
  exact ⟨⟨mb, _, vr, rfl, ⟨_, h9⟩⟩, hbw.trans hb6⟩

end Go.Proofs.Ytjhndbfhiknngaa

/- Walks: Mark. -/
namespace Go.Proofs.Ytjhndbfhiknngaa
set_option linter.unusedSimpArgs false
set_option linter.unusedVariables false
open Go.RowKit Go.Shelf

/-- What Mark tells of an arena that may be, and a room that may be. -/
def MrkOk (ws rs : List Int) (e : Ending) (W : World) : Prop :=
  ∃ hs fs p a c a' c', Arn hs fs rs ∧ ws = joinW hs fs ∧ (∀ j, p j = true ↔ Rch fs rs j) ∧ e = .returned (.tuple #[.agg #[.slice a (mW hs fs p).length c, .slice a' rs.length c'], .int .i64 0]) ∧ Wds W.heap.size W a (mW hs fs p) ∧ (mW hs fs p).length ≤ c ∧ Wds W.heap.size W a' rs

/-- What Mark tells. -/
def MrkRes (ws rs : List Int) (room : Int) (e : Ending) (W : World) : Prop :=
  (arenaE ws rs ≠ 0 ∧ e = .returned (.tuple #[.agg #[.slice none 0 0, .slice none 0 0], .int .i64 (arenaE ws rs)])) ∨
  (arenaE ws rs = 0 ∧ (room < 1 ∨ 64 < room) ∧ e = .returned (.tuple #[.agg #[.slice none 0 0, .slice none 0 0], .int .i64 3])) ∨
  (arenaE ws rs = 0 ∧ 1 ≤ room ∧ room ≤ 64 ∧ MrkOk ws rs e W)

theorem row_wds {w : World} {N mb : Nat} {l : List Int} {v u : Value} {off : Nat} (h : w.ownsRow N 55 1 v l.length (wordsV l)) (hl : l.length ≤ 256) (hb : mb < N) : ∃ a c, v = .slice a l.length c ∧ Wds w.heap.size w a l ∧ l.length ≤ c ∧ Hid (∀ b o, a = some ⟨b, o, none⟩ → N ≤ b) := by
  obtain ⟨a, c, hv, hW, hn⟩ := words_of_owns h rfl (by omega)
  refine ⟨a, c, hv, hW, ?_, hn⟩
  rcases h.2 with ⟨_, h0⟩ | ⟨g, cap', cur, hv', h1, h2, h3, h4, h5, h6⟩
  · omega
  · rw [hv] at hv'; injection hv' with _ _ e; omega

theorem wds_set {B N : Nat} {w : World} {a : Option Addr} {l : List Int} (h : Wds B w a l) (hn : Hid (∀ b o, a = some ⟨b, o, none⟩ → N ≤ b)) {p : Addr} (hp : p.block < N) (u : Value) : Wds B (w.setCell p u) a l := by
  refine ⟨h.1, fun hne => ?_⟩
  obtain ⟨b, off, rfl, hB, hc⟩ := h.2 hne
  have := unhide hn b off rfl
  refine ⟨b, off, rfl, hB, fun k v hk => ?_⟩
  rw [World.cell?_of_block (a := ⟨b, off + k, none⟩) (Below.heap_setCell _ _ _ _ (by show b ≠ _; omega))]
  exact hc k v hk

set_option maxRecDepth 100000 in
set_option maxHeartbeats 2000000 in
theorem mark_c (aw ar : Option Addr) (cw cr : Nat) (ws rs : List Int) (room : Int) (B : Nat) (w : World) (hW : Wds B w aw ws) (hR : Wds B w ar rs) (hUW : U64 ws) (hUR : U64 rs) (hB : B ≤ w.heap.size) (hcap : ws.length ≤ cw) :
    Calls Try.prog 8 #[.agg #[.slice aw ws.length cw, .slice ar rs.length cr], .int .i64 room] w fun e w' => MrkRes ws rs room e w' ∧ Below w.heap.size w w' := by
  obtain ⟨W1, hW1⟩ : ∃ W1, (w.alloc (.cells #[.slice aw ws.length cw, .slice ar rs.length cr] 24)).alloc (.cells #[.slice none 0 0, .slice none 0 0] 24) = W1 := ⟨_, rfl⟩
  have hb1 : Below w.heap.size w W1 := by rw [← hW1]; exact ((Below.refl w.heap.size w).alloc (Nat.le_refl _) _).alloc (by simp) _
  have hs1 : w.heap.size + 1 < W1.heap.size := by rw [← hW1]; simp
  have g0 : W1.cell? ⟨w.heap.size, 0, none⟩ = some (.slice aw ws.length cw) := by rw [← hW1]; simp [go_sem]
  have g1 : W1.cell? ⟨w.heap.size, 1, none⟩ = some (.slice ar rs.length cr) := by rw [← hW1]; simp [go_sem]
  have r0 : W1.cell? ⟨w.heap.size + 1, 0, none⟩ = some (.slice none 0 0) := by rw [← hW1]; simp [go_sem]
  have r1 : W1.cell? ⟨w.heap.size + 1, 1, none⟩ = some (.slice none 0 0) := by rw [← hW1]; simp [go_sem]
  have z0 : W1.frozen? ⟨w.heap.size + 1, 0, none⟩ = false := by rw [← hW1]; simp [go_sem]
  have z1 : W1.frozen? ⟨w.heap.size + 1, 1, none⟩ = false := by rw [← hW1]; simp [go_sem]
  have Hc1 := hide (acheck_c aw ar cw cr ws rs B W1 (hW.below (hb1.mono hB)) (hR.below (hb1.mono hB)) hUW hUR (by omega) hcap)
  go_enter Try.func8, Try.ntmps8
  go_wp2_with fail
  refine (unhide Hc1).mono ?_
  rintro e w2 ⟨rfl, hb2⟩
  clear hW1 Hc1
  have hs2 := hb2.size
  have hbw2 : Below w.heap.size w w2 := hb1.trans (hb2.mono (by omega))
  replace g0 := (hb2.cell (p := ⟨w.heap.size, 0, none⟩) (by simp; omega)).trans g0
  replace g1 := (hb2.cell (p := ⟨w.heap.size, 1, none⟩) (by simp; omega)).trans g1
  replace r0 := (hb2.cell (p := ⟨w.heap.size + 1, 0, none⟩) hs1).trans r0
  replace r1 := (hb2.cell (p := ⟨w.heap.size + 1, 1, none⟩) hs1).trans r1
  replace z0 := (hb2.frozen (p := ⟨w.heap.size + 1, 0, none⟩) hs1).trans z0
  replace z1 := (hb2.frozen (p := ⟨w.heap.size + 1, 1, none⟩) hs1).trans z1
  have hl2 : w.heap.size + 1 < w2.heap.size := by omega
  have hl2' : w.heap.size < w2.heap.size := by omega
  clear hb1 hb2
  by_cases hE : arenaE ws rs = 0
  · by_cases hr : room < 1 ∨ 64 < room
    · have HE := hide hE
      have Hr := hide hr
      rw [hE]
      have hfin : Hid (∀ W, Below w.heap.size w W → MrkRes ws rs room (.returned (.tuple #[.agg #[.slice none 0 0, .slice none 0 0], .int .i64 3])) W ∧ Below w.heap.size w W) := fun W h => ⟨.inr (.inl ⟨unhide HE, unhide Hr, rfl⟩), h⟩
      clear hE
      rcases hr with hr | hr
      · have d1 : decide (room < 1) = true := by simpa using hr
        go_wp2
        refine bodyPost_ret (v := .tuple #[.agg #[.slice none 0 0, .slice none 0 0], .int .i64 3]) (by simp [results, Try.results8, go_sem, r0, r1]) rfl (unhide hfin _ ((hbw2.setCell (p := ⟨w.heap.size + 1, 0, none⟩) (by simp) _).setCell (p := ⟨w.heap.size + 1, 1, none⟩) (by simp) _))
      · have d1 : decide (room < 1) = false := by simp; omega
        have d2 : decide (room > 64) = true := by simp; omega
        have d3 : decide (64 < room) = true := by simp; omega
        go_wp2
        refine bodyPost_ret (v := .tuple #[.agg #[.slice none 0 0, .slice none 0 0], .int .i64 3]) (by simp [results, Try.results8, go_sem, r0, r1]) rfl (unhide hfin _ ((hbw2.setCell (p := ⟨w.heap.size + 1, 0, none⟩) (by simp) _).setCell (p := ⟨w.heap.size + 1, 1, none⟩) (by simp) _))
    · obtain ⟨rN, rfl⟩ := Int.eq_ofNat_of_zero_le (show 0 ≤ room by omega)
      have hr1 : 1 ≤ rN := by omega
      have hr2 : rN ≤ 64 := by omega
      obtain ⟨hs, fs, hA, hws⟩ := arn_of hUW hUR hE
      have hjl : tot fs = ws.length := by rw [hws, joinW_len _ _ hA.fit.len]
      have HA := hide hA
      have Hws := hide hws
      have HE := hide hE
      rw [hE]
      have Hc2 : Hid (Calls Try.prog 27 #[.agg #[.slice aw ws.length cw, .slice ar rs.length cr], .int .i64 (rN : Nat)] w2 fun e w' => NmRes w2.heap.size hs fs rs rN e w' ∧ Below w2.heap.size w2 w') := by
        have := newMarker_c aw ar cw cr hs fs rs rN w2 hA hr1 hr2 (by rw [← hws]; exact (hW.below (hbw2.mono hB)).mono (by omega)) ((hR.below (hbw2.mono hB)).mono (by omega))
        rw [hjl] at this
        exact this
      have d1 : decide ((rN : Int) < 1) = false := by simp; omega
      have d2 : decide ((rN : Int) > 64) = false := by simp; omega
      have d3 : decide (64 < (rN : Int)) = false := by simp; omega
      clear hE hr hA hws hjl
      go_wp2_with fail
      refine (unhide Hc2).mono ?_
      rintro e w3 ⟨⟨mb, vw, vr, he, hM3⟩, hb3⟩
      subst he
      have Hc3 := hide (markAll_c hs fs rs w2.heap.size mb vw vr rN w3 hM3 (unhide HA) hr1 hr2)
      clear hM3 Hc2
      go_wp2_with fail
      refine (unhide Hc3).mono ?_
      rintro e w4 ⟨⟨he, p, ⟨vk, hM4⟩, hp4⟩, hb4, _⟩
      subst he
      have hs3 := hb3.size
      have hs4 := hb4.size
      have hb34 : Below w2.heap.size w2 w4 := hb3.trans hb4
      have hbw4 : Below w.heap.size w w4 := hbw2.trans (hb34.mono (by omega))
      replace r0 := (hb34.cell (p := ⟨w.heap.size + 1, 0, none⟩) hl2).trans r0
      replace r1 := (hb34.cell (p := ⟨w.heap.size + 1, 1, none⟩) hl2).trans r1
      replace z0 := (hb34.frozen (p := ⟨w.heap.size + 1, 0, none⟩) hl2).trans z0
      replace z1 := (hb34.frozen (p := ⟨w.heap.size + 1, 1, none⟩) hl2).trans z1
      have hml := mW_len (unhide HA).fit p
      obtain ⟨wa, wc, hvw, hWw, hwc, hwn⟩ := row_wds (mb := 0) (u := .bool true) (off := 0) hM4.wo (by rw [hml]; exact (unhide HA).n256) (by omega)
      obtain ⟨ra, rc, hvr, hWr, _, hrn⟩ := row_wds (mb := 0) (u := .bool true) (off := 0) hM4.ro (by have := (unhide HA).n8; omega) (by omega)
      subst hvw hvr
      have q0 := hM4.box.c0
      have q1 := hM4.box.c1
      have hlm := hM4.box.lt
      have hl4 : w.heap.size + 1 < w4.heap.size := by omega
      have hmb : w2.heap.size ≤ mb := hM4.lo
      have Hfin : Hid (∀ W, W = (w4.setCell ⟨w.heap.size + 1, 0, none⟩ (.slice wa (mW hs fs p).length wc)).setCell ⟨w.heap.size + 1, 1, none⟩ (.slice ra rs.length rc) → MrkRes ws rs (rN : Int) (.returned (.tuple #[.agg #[.slice wa (mW hs fs p).length wc, .slice ra rs.length rc], .int .i64 0])) W ∧ Below w.heap.size w W) := fun W h => by
        subst h
        have hsz : ((w4.setCell ⟨w.heap.size + 1, 0, none⟩ (.slice wa (mW hs fs p).length wc)).setCell ⟨w.heap.size + 1, 1, none⟩ (.slice ra rs.length rc)).heap.size = w4.heap.size := by simp [World.setCell]
        refine ⟨.inr (.inr ⟨unhide HE, by omega, by omega, hs, fs, p, wa, wc, ra, rc, unhide HA, unhide Hws, hp4, rfl, ?_, hwc, ?_⟩), (hbw4.setCell (p := ⟨w.heap.size + 1, 0, none⟩) (by simp) _).setCell (p := ⟨w.heap.size + 1, 1, none⟩) (by simp) _⟩
        · rw [hsz]; exact wds_set (wds_set hWw hwn (by show w.heap.size + 1 < _; omega) _) hwn (by show w.heap.size + 1 < _; omega) _
        · rw [hsz]; exact wds_set (wds_set hWr hrn (by show w.heap.size + 1 < _; omega) _) hrn (by show w.heap.size + 1 < _; omega) _
      clear hM4 hp4 hml hWw hWr hwn hrn Hc3 hb3 hb4 hb34 hwc
      generalize (mW hs fs p).length = n at *
      go_wp2
      exact bodyPost_ret (v := .tuple #[.agg #[.slice wa n wc, .slice ra rs.length rc], .int .i64 0]) (by simp [results, Try.results8, go_sem, r0, r1]) rfl (unhide Hfin _ rfl)
  · have HE := hide hE
    have hfin : Hid (∀ W, Below w.heap.size w W → MrkRes ws rs room (.returned (.tuple #[.agg #[.slice none 0 0, .slice none 0 0], .int .i64 (arenaE ws rs)])) W ∧ Below w.heap.size w W) := fun W h => ⟨.inl ⟨unhide HE, rfl⟩, h⟩
    generalize arenaE ws rs = E at *
    have d0 : (E != 0) = true := by simpa using hE
    clear hE
    go_wp2
    refine bodyPost_ret (v := .tuple #[.agg #[.slice none 0 0, .slice none 0 0], .int .i64 E]) (by simp [results, Try.results8, go_sem, r0, r1]) rfl (unhide hfin _ ((hbw2.setCell (p := ⟨w.heap.size + 1, 0, none⟩) (by simp) _).setCell (p := ⟨w.heap.size + 1, 1, none⟩) (by simp) _))

end Go.Proofs.Ytjhndbfhiknngaa

/- Walks: MarkRoom. -/
namespace Go.Proofs.Ytjhndbfhiknngaa
set_option linter.unusedSimpArgs false
set_option linter.unusedVariables false
open Go.RowKit Go.Shelf

/-- What is wrong with what Mark is asked. -/
def mrkE (ws rs : List Int) (room : Int) : Int := if arenaE ws rs ≠ 0 then arenaE ws rs else if room < 1 ∨ 64 < room then 3 else 0

/-- The arena that Mark tells. -/
def MrkIs (ws rs : List Int) (room : Int) (L R : List Int) : Prop :=
  (mrkE ws rs room ≠ 0 ∧ L = [] ∧ R = []) ∨ (mrkE ws rs room = 0 ∧ 1 ≤ room ∧ room ≤ 64 ∧ R = rs ∧ ∃ hs fs p, Arn hs fs rs ∧ ws = joinW hs fs ∧ (∀ j, p j = true ↔ Rch fs rs j) ∧ L = mW hs fs p)

theorem MrkRes.all {ws rs : List Int} {room : Int} {e : Ending} {W : World} (h : MrkRes ws rs room e W) :
    ∃ a c a' c' L R, e = .returned (.tuple #[.agg #[.slice a L.length c, .slice a' R.length c'], .int .i64 (mrkE ws rs room)]) ∧ Wds W.heap.size W a L ∧ Wds W.heap.size W a' R ∧ L.length ≤ c ∧ Hid (MrkIs ws rs room L R) := by
  rcases h with ⟨hE, rfl⟩ | ⟨hE, hr, rfl⟩ | ⟨hE, h1, h2, hs, fs, p, a, c, a', c', hA, hw, hp, rfl, hW, hc, hR⟩
  · have e : mrkE ws rs room = arenaE ws rs := by rw [mrkE, if_pos hE]
    exact ⟨none, 0, none, 0, [], [], by rw [e]; rfl, wds_nil rfl, wds_nil rfl, by simp, hide (.inl ⟨by rw [e]; exact hE, rfl, rfl⟩)⟩
  · have e : mrkE ws rs room = 3 := by rw [mrkE, if_neg (by simp [hE]), if_pos hr]
    exact ⟨none, 0, none, 0, [], [], by rw [e]; rfl, wds_nil rfl, wds_nil rfl, by simp, hide (.inl ⟨by rw [e]; omega, rfl, rfl⟩)⟩
  · have e : mrkE ws rs room = 0 := by rw [mrkE, if_neg (by simp [hE]), if_neg (by omega)]
    exact ⟨a, c, a', c', mW hs fs p, rs, by rw [e], hW, hR, hc, hide (.inr ⟨e, h1, h2, rfl, hs, fs, p, hA, hw, hp, rfl⟩)⟩

theorem arn_uniq {hs hs' : List Int} {fs fs' : List (List Int)} {rs rs' : List Int} (h : Arn hs fs rs) (h' : Arn hs' fs' rs') (e : joinW hs fs = joinW hs' fs') : hs = hs' ∧ fs = fs' := by
  have hf : fs = fs' := by
    have h1 := fit_split h.fit
    rw [e, fit_split h'.fit] at h1
    injection h1 with h1
    exact h1.symm
  subst hf
  refine ⟨?_, rfl⟩
  apply List.ext_getElem?
  intro k
  by_cases hk : k < fs.length
  · rw [← joinW_get hs fs k h.fit.len hk, e, joinW_get hs' fs k h'.fit.len hk]
  · rw [List.getElem?_eq_none (by have := h.fit.len; omega), List.getElem?_eq_none (by have := h'.fit.len; omega)]

theorem bool_fn_eq {p q : Nat → Bool} {R : Nat → Prop} (h1 : ∀ j, p j = true ↔ R j) (h2 : ∀ j, q j = true ↔ R j) : p = q := by
  funext j
  rw [Bool.eq_iff_iff, h1, h2]

/-- However little is kept in mind, the same is marked. -/
theorem MrkIs.same {ws rs : List Int} {r s : Int} {L R L' R' : List Int} (h : MrkIs ws rs r L R) (h' : MrkIs ws rs s L' R') (e : mrkE ws rs r = 0) (e' : mrkE ws rs s = 0) : L = L' ∧ R = R' ∧ L.length = ws.length := by
  rcases h with h | ⟨_, _, _, rfl, hs, fs, p, hA, hw, hp, rfl⟩
  · exact absurd e h.1
  rcases h' with h | ⟨_, _, _, rfl, hs', fs', p', hA', hw', hp', rfl⟩
  · exact absurd e' h.1
  obtain ⟨rfl, rfl⟩ := arn_uniq hA hA' (hw.symm.trans hw')
  rw [bool_fn_eq hp hp']
  exact ⟨rfl, rfl, by rw [hw, mW_len hA.fit, joinW_len _ _ hA.fit.len]⟩

set_option maxRecDepth 100000 in
set_option maxHeartbeats 2000000 in
theorem room_c (aw ar : Option Addr) (cw cr : Nat) (ws rs : List Int) (r s : Int) (w : World) (hW : Wds w.heap.size w aw ws) (hR : Wds w.heap.size w ar rs) (hUW : U64 ws) (hUR : U64 rs) (hcap : ws.length ≤ cw) :
    Calls Try.prog 4 #[.agg #[.slice aw ws.length cw, .slice ar rs.length cr], .int .i64 r, .int .i64 s] w fun e w' => e = .returned (.bool true) ∧ Below w.heap.size w w' := by
  obtain ⟨W1, hW1⟩ : ∃ W1, w.alloc (.cells #[.slice aw ws.length cw, .slice ar rs.length cr] 24) = W1 := ⟨_, rfl⟩
  have hb1 : Below w.heap.size w W1 := by rw [← hW1]; exact (Below.refl w.heap.size w).alloc (Nat.le_refl _) _
  have hs1 : w.heap.size < W1.heap.size := by rw [← hW1]; simp
  have g0 : W1.cell? ⟨w.heap.size, 0, none⟩ = some (.slice aw ws.length cw) := by rw [← hW1]; simp [go_sem]
  have g1 : W1.cell? ⟨w.heap.size, 1, none⟩ = some (.slice ar rs.length cr) := by rw [← hW1]; simp [go_sem]
  have Hc1 := hide (sound_c aw ar cw cr ws rs w.heap.size W1 (hW.below hb1) (hR.below hb1) hUW hUR (by omega))
  go_enter Try.func4, Try.ntmps4
  go_wp2_with fail
  refine (unhide Hc1).mono ?_
  rintro e w2 ⟨rfl, hb2⟩
  clear hW1 Hc1
  have hs2 := hb2.size
  have hbw2 : Below w.heap.size w w2 := hb1.trans (hb2.mono (by omega))
  replace g0 := (hb2.cell (p := ⟨w.heap.size, 0, none⟩) hs1).trans g0
  replace g1 := (hb2.cell (p := ⟨w.heap.size, 1, none⟩) hs1).trans g1
  by_cases hE : arenaE ws rs = 0
  · have d0 : (arenaE ws rs == 0) = true := by simp [hE]
    rw [d0]
    have HE := hide hE
    have Hc2 := hide (mark_c aw ar cw cr ws rs r w.heap.size w2 (hW.below hbw2) (hR.below hbw2) hUW hUR (by omega) hcap)
    clear hb1 hb2 hE d0
    go_wp2_with fail
    refine (unhide Hc2).mono ?_
    rintro e w3 ⟨hres, hb3⟩
    obtain ⟨ba, bc, ba', bc', BL, BR, he, hBL, hBR, hbc, HB⟩ := hres.all
    subst he
    have hs3 := hb3.size
    have hbw3 : Below w.heap.size w w3 := hbw2.trans (hb3.mono (by omega))
    obtain ⟨W3, hW3⟩ : ∃ W3, w3.alloc (.cells #[.slice ba BL.length bc, .slice ba' BR.length bc'] 24) = W3 := ⟨_, rfl⟩
    have hb3' : Below w3.heap.size w3 W3 := by rw [← hW3]; exact (Below.refl _ w3).alloc (Nat.le_refl _) _
    have hs3' : w3.heap.size < W3.heap.size := by rw [← hW3]; simp
    have k0 : W3.cell? ⟨w3.heap.size, 0, none⟩ = some (.slice ba BL.length bc) := by rw [← hW3]; simp [go_sem]
    have k1 : W3.cell? ⟨w3.heap.size, 1, none⟩ = some (.slice ba' BR.length bc') := by rw [← hW3]; simp [go_sem]
    replace g0 := (hb3'.cell (p := ⟨w.heap.size, 0, none⟩) (by simp; omega)).trans ((hb3.cell (p := ⟨w.heap.size, 0, none⟩) (by simp; omega)).trans g0)
    replace g1 := (hb3'.cell (p := ⟨w.heap.size, 1, none⟩) (by simp; omega)).trans ((hb3.cell (p := ⟨w.heap.size, 1, none⟩) (by simp; omega)).trans g1)
    have hbW3 : Below w.heap.size w W3 := hbw3.trans (hb3'.mono (by omega))
    have hwW3 : w.heap.size < W3.heap.size := by omega
    have Hc3 := hide (mark_c aw ar cw cr ws rs s w.heap.size W3 (hW.below hbW3) (hR.below hbW3) hUW hUR (by omega) hcap)
    have HBL := hide ((hBL.below hb3').mono (Nat.le_of_lt hs3'))
    have HBR := hide ((hBR.below hb3').mono (Nat.le_of_lt hs3'))
    generalize hE1 : mrkE ws rs r = E1 at *
    have HE1 := hide hE1
    clear Hc2 hres hBL hBR hE1 hb3 hbw3
    go_wp2_with fail
    refine (unhide Hc3).mono ?_
    rintro e w4 ⟨hres, hb4⟩
    obtain ⟨ca, cc, ca', cc', CL, CR, he, hCL, hCR, hcc, HC⟩ := hres.all
    subst he
    have hs4 := hb4.size
    have hbw4 : Below w.heap.size w w4 := hbW3.trans (hb4.mono (by omega))
    obtain ⟨W4, hW4⟩ : ∃ W4, w4.alloc (.cells #[.slice ca CL.length cc, .slice ca' CR.length cc'] 24) = W4 := ⟨_, rfl⟩
    have hb4' : Below w4.heap.size w4 W4 := by rw [← hW4]; exact (Below.refl _ w4).alloc (Nat.le_refl _) _
    have hs4' : w4.heap.size < W4.heap.size := by rw [← hW4]; simp
    have m0 : W4.cell? ⟨w4.heap.size, 0, none⟩ = some (.slice ca CL.length cc) := by rw [← hW4]; simp [go_sem]
    have m1 : W4.cell? ⟨w4.heap.size, 1, none⟩ = some (.slice ca' CR.length cc') := by rw [← hW4]; simp [go_sem]
    replace k0 := (hb4'.cell (p := ⟨w3.heap.size, 0, none⟩) (by simp; omega)).trans ((hb4.cell (p := ⟨w3.heap.size, 0, none⟩) (by simp; omega)).trans k0)
    replace k1 := (hb4'.cell (p := ⟨w3.heap.size, 1, none⟩) (by simp; omega)).trans ((hb4.cell (p := ⟨w3.heap.size, 1, none⟩) (by simp; omega)).trans k1)
    replace g0 := (hb4'.cell (p := ⟨w.heap.size, 0, none⟩) (by simp; omega)).trans ((hb4.cell (p := ⟨w.heap.size, 0, none⟩) (by simp; omega)).trans g0)
    have hbW4 : Below w.heap.size w W4 := hbw4.trans (hb4'.mono (by omega))
    have hwW4 : w.heap.size < W4.heap.size := by omega
    have hwW3' : w3.heap.size < W4.heap.size := by omega
    have hb34 : Below W3.heap.size W3 W4 := hb4.trans (hb4'.mono hs4)
    have Hc4 := hide (arenas_eq_c ba ba' ca ca' bc bc' cc cc' BL BR CL CR W4.heap.size W4 (((unhide HBL).below hb34).mono (by omega)) (((unhide HBR).below hb34).mono (by omega)) ((hCL.below hb4').mono (by omega)) ((hCR.below hb4').mono (by omega)) (Nat.le_refl _))
    generalize hE2 : mrkE ws rs s = E2 at *
    have HE2 := hide hE2
    have Hbad : Hid ((r < 1 ∨ s < 1 ∨ 64 < r ∨ 64 < s) → (E1 != 0) = false → (E2 != 0) = true) := fun h h1 => by
      have h1' : E1 = 0 := by simpa using h1
      have b1 : ¬ (r < 1 ∨ 64 < r) := fun h => by
        have := unhide HE1
        rw [mrkE, if_neg (by simp [unhide HE]), if_pos h] at this
        omega
      have b2 : s < 1 ∨ 64 < s := by omega
      have := unhide HE2
      rw [mrkE, if_neg (by simp [unhide HE]), if_pos b2] at this
      simp; omega
    have Hgood : Hid (¬ (r < 1 ∨ s < 1 ∨ 64 < r ∨ 64 < s) → E1 = 0 ∧ E2 = 0 ∧ BL = CL ∧ BR = CR ∧ BL.length = ws.length) := fun h => by
      have e1 : E1 = 0 := by rw [← unhide HE1, mrkE, if_neg (by simp [unhide HE]), if_neg (by omega)]
      have e2 : E2 = 0 := by rw [← unhide HE2, mrkE, if_neg (by simp [unhide HE]), if_neg (by omega)]
      have := (unhide HB).same (unhide HC) ((unhide HE1).trans e1) ((unhide HE2).trans e2)
      exact ⟨e1, e2, this.1, this.2.1, this.2.2⟩
    clear Hc3 hres hCL hCR hE2 hb4 hbw4 HBL HBR hb4' hb34 HB HC hW3 hb3'
    by_cases hbad : r < 1 ∨ s < 1 ∨ 64 < r ∨ 64 < s
    · have Hbad1 := hide (unhide Hbad hbad)
      clear Hbad Hgood Hc4 HE1 HE2
      by_cases c1 : r < 1
      · have d1 : decide (r < 1) = true := by simpa using c1
        cases h1 : (E1 != 0)
        · have h2 := unhide Hbad1 h1
          go_wp2
          go_ret
          exact ⟨rfl, hbW4⟩
        · go_wp2
          go_ret
          exact ⟨rfl, hbW4⟩
      · have d1 : decide (r < 1) = false := by simpa using c1
        by_cases c2 : s < 1
        · have d2 : decide (s < 1) = true := by simpa using c2
          cases h1 : (E1 != 0)
          · have h2 := unhide Hbad1 h1
            go_wp2
            go_ret
            exact ⟨rfl, hbW4⟩
          · go_wp2
            go_ret
            exact ⟨rfl, hbW4⟩
        · have d2 : decide (s < 1) = false := by simpa using c2
          by_cases c3 : 64 < r
          · have d3 : decide (r > 64) = true := by simpa using c3
            have d3' : decide (64 < r) = true := by simpa using c3
            cases h1 : (E1 != 0)
            · have h2 := unhide Hbad1 h1
              go_wp2
              go_ret
              exact ⟨rfl, hbW4⟩
            · go_wp2
              go_ret
              exact ⟨rfl, hbW4⟩
          · have d3 : decide (r > 64) = false := by simpa using c3
            have d3' : decide (64 < r) = false := by simpa using c3
            have c4 : 64 < s := by omega
            have d4 : decide (s > 64) = true := by simpa using c4
            have d4' : decide (64 < s) = true := by simpa using c4
            cases h1 : (E1 != 0)
            · have h2 := unhide Hbad1 h1
              go_wp2
              go_ret
              exact ⟨rfl, hbW4⟩
            · go_wp2
              go_ret
              exact ⟨rfl, hbW4⟩
    · obtain ⟨e1, e2, hbl, hbr, hlen⟩ := unhide Hgood hbad
      subst e1 e2 hbl hbr
      have d1 : decide (r < 1) = false := by simp; omega
      have d2 : decide (s < 1) = false := by simp; omega
      have d3 : decide (r > 64) = false := by simp; omega
      have d3' : decide (64 < r) = false := by simp; omega
      have d4 : decide (s > 64) = false := by simp; omega
      have d4' : decide (64 < s) = false := by simp; omega
      have dd : (decide (BL = BL) && decide (BR = BR)) = true := by simp
      rw [dd] at Hc4
      rw [hlen] at k0 m0 Hc4 hW4 ⊢
      clear Hbad Hgood HE1 HE2 hbad hlen
      go_wp2_with fail
      refine (unhide Hc4).mono ?_
      rintro e w5 ⟨he, hb5⟩
      subst he
      have hs5 := hb5.size
      replace k0 := (hb5.cell (p := ⟨w3.heap.size, 0, none⟩) (by simp; omega)).trans k0
      replace g0 := (hb5.cell (p := ⟨w.heap.size, 0, none⟩) (by simp; omega)).trans g0
      have hw5 : w.heap.size < w5.heap.size := by omega
      have hw5' : w3.heap.size < w5.heap.size := by omega
      clear Hc4
      go_wp2
      go_ret
      exact ⟨ret_bool (by simp), hbW4.trans (hb5.mono (by omega))⟩
  · have d0 : (arenaE ws rs == 0) = false := by simp [hE]
    have HE := hide hE
    rw [d0]
    have Hc2 := hide (unsound_c aw ar cw cr ws rs w.heap.size w2 (hW.below hbw2) (hR.below hbw2) hUW hUR (by omega) hcap)
    clear hE
    go_wp2_with fail
    refine (unhide Hc2).mono ?_
    rintro e w3 ⟨he, hb3⟩
    have d3 : (arenaE ws rs != 0) = true := by simpa using unhide HE
    rw [d3] at he
    subst he
    go_wp2
    go_ret
    exact ⟨rfl, hbw2.trans (hb3.mono (by omega))⟩

end Go.Proofs.Ytjhndbfhiknngaa

/- Walks: Blocks. -/
namespace Go.Proofs.Ytjhndbfhiknngaa
set_option linter.unusedSimpArgs false
set_option linter.unusedVariables false
open Go.RowKit Go.Shelf

theorem eql_bin (a1 a2 n1 n2 : Int) (w : World) : (Op.equalIn 10000 57 (.agg #[.int .i64 a1, .int .i64 n1]) (.agg #[.int .i64 a2, .int .i64 n2])).run Try.prog w = .ok (a1 == a2 && n1 == n2) w := by
  have u3 := Try.underlying3
  have a3 := Try.isAgg3
  have z3 := Try.sizeOf3
  have hS : Try.prog.underlying 57 = some (.struct (Try.prog.fieldsOf 57)) := by kernel_rfl
  have hp : Try.prog.stoodInHeld 57 = false := by kernel_rfl
  rw [show (10000 : Nat) = 9999 + 1 from rfl, run_equalIn_agg w 9999 57 _ _ hS hp]
  simp only [Program.fieldsOf, Try.underlying57]
  go_simp
  by_cases h1 : a1 = a2 <;> by_cases h2 : n1 = n2 <;> simp [h1, h2]

theorem neq_b (a1 a2 n1 n2 : Int) (w : World) : (binOp .neq 57 (.agg #[.int .i64 a1, .int .i64 n1]) (.agg #[.int .i64 a2, .int .i64 n2])).run Try.prog w = .ok (.bool (!(a1 == a2 && n1 == n2))) w := by
  rw [run_neq_struct, eql_bin]; rfl

set_option maxRecDepth 100000 in
set_option maxHeartbeats 2000000 in
theorem blocks_c (a a' : Option Addr) (c c' : Nat) (l : List (Nat × Nat)) (B : Nat) (w : World) (h : Blks B w a l) (h' : Blks B w a' l) (hB : B ≤ w.heap.size) :
    Calls Try.prog 12 #[.slice a l.length c, .slice a' l.length c'] w fun e w' => e = .returned (.bool true) ∧ Below w.heap.size w w' := by
  have hneq := neq_b
  have hl := h.1
  have d0 : ((l.length : Int) != (l.length : Int)) = false := by simp
  go_enter Try.func12, Try.ntmps12
  go_wp2
  go_loopw [5] (fun i wr => ∃ k : Nat, k ≤ l.length ∧ i = .int .i64 k ∧ Below w.heap.size w wr) (fun i _ => l.length - (intOf i).toNat)
  case atStart => exact ⟨0, Nat.zero_le _, rfl, Below.refl _ _⟩
  case round =>
    obtain ⟨k, hk, rfl, hb⟩ := hrel
    have hsz := hb.size
    by_cases hlt : k < l.length
    · obtain ⟨b, off, p, n, rfl, hbB, hc0, hc1, Hpn⟩ := (h.below (hb.mono hB)).at hlt
      obtain ⟨b', off', p', n', rfl, hbB', hd0, hd1, Hpn'⟩ := (h'.below (hb.mono hB)).at hlt
      obtain ⟨rfl, rfl⟩ : p = p' ∧ n = n' := by
        have := (unhide Hpn).symm.trans (unhide Hpn')
        simpa using this
      have hkI : (k : Int) < (l.length : Int) := by omega
      have hq : b < wr.heap.size := by omega
      have hq' : b' < wr.heap.size := by omega
      have d1 : (!((p : Int) == (p : Int) && (n : Int) == (n : Int))) = false := by simp
      clear Hpn Hpn'
      go_wp2
      go_quiet (fail)
      have hbn := below_drewN hb nq
      clear hc0 hc1 hd0 hd1 hq hq'
      generalize wr.drewN nq = wq at *
      go_wp2
      go_roundw
      case rel => exact ⟨k + 1, by omega, by go_num, hbn⟩
      case measure => simp [intOf]; omega
    · obtain rfl : k = l.length := by omega
      go_wp2
      go_ret
      exact ⟨rfl, hb⟩

theorem SwRes.all {ws rs : List Int} {e : Ending} {W : World} (h : SwRes ws rs e W) :
    ∃ a c SL, e = .returned (.tuple #[.slice a SL.length c, .int .i64 (arenaE ws rs)]) ∧ Blks W.heap.size W a SL ∧ Hid ((arenaE ws rs ≠ 0 → SL = []) ∧ (∀ hs fs, arenaE ws rs = 0 → Arn hs fs rs → ws = joinW hs fs → SL = sweepL hs fs fs.length)) := by
  rcases h with ⟨hE, rfl⟩ | ⟨hE, hs, fs, a, c, hA, hw, rfl, hB⟩
  · exact ⟨none, 0, [], rfl, ⟨by simp, fun h => absurd rfl h⟩, hide ⟨fun _ => rfl, fun hs fs h => absurd h hE⟩⟩
  · refine ⟨a, c, _, by rw [hE], hB, hide ⟨fun h => absurd hE h, fun hs' fs' _ hA' hw' => ?_⟩⟩
    obtain ⟨rfl, rfl⟩ := arn_uniq hA hA' (hw.symm.trans hw')
    rfl

end Go.Proofs.Ytjhndbfhiknngaa

/- Walks: MarkTells. -/
namespace Go.Proofs.Ytjhndbfhiknngaa
set_option linter.unusedSimpArgs false
set_option linter.unusedVariables false
open Go.RowKit Go.Shelf

theorem MrkIs.empty {ws rs : List Int} {room : Int} {L R : List Int} (h : MrkIs ws rs room L R) (e : mrkE ws rs room ≠ 0) : L = [] ∧ R = [] := by
  rcases h with h | h
  · exact h.2
  · exact absurd h.1 e

set_option maxRecDepth 100000 in
set_option maxHeartbeats 8000000 in
theorem tells_c (aw ar : Option Addr) (cw cr : Nat) (ws rs : List Int) (room : Int) (w : World) (hW : Wds w.heap.size w aw ws) (hR : Wds w.heap.size w ar rs) (hUW : U64 ws) (hUR : U64 rs) (hcap : ws.length ≤ cw) :
    Calls Try.prog 3 #[.agg #[.slice aw ws.length cw, .slice ar rs.length cr], .int .i64 room] w fun e w' => e = .returned (.bool true) ∧ Below w.heap.size w w' := by
  obtain ⟨W1, hW1⟩ : ∃ W1, w.alloc (.cells #[.slice aw ws.length cw, .slice ar rs.length cr] 24) = W1 := ⟨_, rfl⟩
  have hb1 : Below w.heap.size w W1 := by rw [← hW1]; exact (Below.refl w.heap.size w).alloc (Nat.le_refl _) _
  have hs1 : w.heap.size < W1.heap.size := by rw [← hW1]; simp
  have g0 : W1.cell? ⟨w.heap.size, 0, none⟩ = some (.slice aw ws.length cw) := by rw [← hW1]; simp [go_sem]
  have g1 : W1.cell? ⟨w.heap.size, 1, none⟩ = some (.slice ar rs.length cr) := by rw [← hW1]; simp [go_sem]
  have Hc1 := hide (mark_c aw ar cw cr ws rs room w.heap.size W1 (hW.below hb1) (hR.below hb1) hUW hUR (by omega) hcap)
  go_enter Try.func3, Try.ntmps3
  go_wp2_with fail
  refine (unhide Hc1).mono ?_
  rintro e w2 ⟨hres, hb2⟩
  obtain ⟨ba, bc, ba', bc', BL, BR, he, hBL, hBR, hbc, HB⟩ := hres.all
  subst he
  have hs2 := hb2.size
  have hbw2 : Below w.heap.size w w2 := hb1.trans (hb2.mono (by omega))
  obtain ⟨W2, hW2⟩ : ∃ W2, w2.alloc (.cells #[.slice ba BL.length bc, .slice ba' BR.length bc'] 24) = W2 := ⟨_, rfl⟩
  have hb2' : Below w2.heap.size w2 W2 := by rw [← hW2]; exact (Below.refl _ w2).alloc (Nat.le_refl _) _
  have hs2' : w2.heap.size < W2.heap.size := by rw [← hW2]; simp
  have k0 : W2.cell? ⟨w2.heap.size, 0, none⟩ = some (.slice ba BL.length bc) := by rw [← hW2]; simp [go_sem]
  have k1 : W2.cell? ⟨w2.heap.size, 1, none⟩ = some (.slice ba' BR.length bc') := by rw [← hW2]; simp [go_sem]
  replace g0 := (hb2'.cell (p := ⟨w.heap.size, 0, none⟩) (by simp; omega)).trans ((hb2.cell (p := ⟨w.heap.size, 0, none⟩) hs1).trans g0)
  replace g1 := (hb2'.cell (p := ⟨w.heap.size, 1, none⟩) (by simp; omega)).trans ((hb2.cell (p := ⟨w.heap.size, 1, none⟩) hs1).trans g1)
  have hbW2 : Below w.heap.size w W2 := hbw2.trans (hb2'.mono (by omega))
  have hwW2 : w.heap.size < W2.heap.size := by omega
  have HBL := hide ((hBL.below hb2').mono (Nat.le_of_lt hs2'))
  have HBR := hide ((hBR.below hb2').mono (Nat.le_of_lt hs2'))
  have Hc2 := hide (sweep_c aw ar cw cr ws rs w.heap.size W2 (hW.below hbW2) (hR.below hbW2) hUW hUR (by omega) hcap)
  generalize hE1 : mrkE ws rs room = E1 at *
  have HE1 := hide hE1
  clear Hc1 hres hBL hBR hE1 hb2 hbw2 hW1 hb1
  go_wp2_with fail
  refine (unhide Hc2).mono ?_
  rintro e w3 ⟨hres, hb3⟩
  obtain ⟨la, lc, SL, he, hSL, HSL⟩ := hres.all
  subst he
  have hs3 := hb3.size
  have hbw3 : Below w.heap.size w w3 := hbW2.trans (hb3.mono (by omega))
  replace g0 := (hb3.cell (p := ⟨w.heap.size, 0, none⟩) hwW2).trans g0
  replace g1 := (hb3.cell (p := ⟨w.heap.size, 1, none⟩) hwW2).trans g1
  replace k0 := (hb3.cell (p := ⟨w2.heap.size, 0, none⟩) hs2').trans k0
  replace k1 := (hb3.cell (p := ⟨w2.heap.size, 1, none⟩) hs2').trans k1
  replace HBL := hide (((unhide HBL).below hb3).mono hs3)
  replace HBR := hide (((unhide HBR).below hb3).mono hs3)
  have HSB := hide hSL
  have hw3 : w.heap.size < w3.heap.size := by omega
  have hw3' : w2.heap.size < w3.heap.size := by omega
  have Hc3 := hide (rcheck_c aw ar cw cr ws rs w.heap.size w3 (hW.below hbw3) (hR.below hbw3) hUW hUR (by omega))
  generalize hAE : arenaE ws rs = AE at *
  have HAE := hide hAE
  clear Hc2 hres hSL hAE hW2 hb3 hb2'
  go_wp2_with fail
  refine (unhide Hc3).mono ?_
  rintro e w4 ⟨he, hb4⟩
  subst he
  have hs4 := hb4.size
  have hbw4 : Below w.heap.size w w4 := hbw3.trans (hb4.mono (by omega))
  replace g0 := (hb4.cell (p := ⟨w.heap.size, 0, none⟩) hw3).trans g0
  replace g1 := (hb4.cell (p := ⟨w.heap.size, 1, none⟩) hw3).trans g1
  replace k0 := (hb4.cell (p := ⟨w2.heap.size, 0, none⟩) hw3').trans k0
  replace k1 := (hb4.cell (p := ⟨w2.heap.size, 1, none⟩) hw3').trans k1
  replace HBL := hide (((unhide HBL).below hb4).mono hs4)
  replace HBR := hide (((unhide HBR).below hb4).mono hs4)
  replace HSB := hide (((unhide HSB).below hb4).mono hs4)
  have hw4 : w.heap.size < w4.heap.size := by omega
  have hw4' : w2.heap.size < w4.heap.size := by omega
  clear Hc3 hb4
  by_cases hE : AE = 0
  · subst hE
    have hE0 := unhide HAE
    obtain ⟨hs, fs, hA, hws⟩ := arn_of hUW hUR hE0
    have hSLe := (unhide HSL).2 hs fs rfl hA hws
    subst hSLe
    have h256 : ws.length ≤ 256 := by rw [hws, joinW_len _ _ hA.fit.len]; exact hA.n256
    have Hc5 := hide (rsweep_c aw ar cw rs.length cr ws hs fs w.heap.size w4 (hW.below hbw4) hUW (by omega) hA.fit hws h256)
    have HA := hide hA
    have Hws := hide hws
    clear hA hws hE0 HSL
    generalize sweepL hs fs fs.length = SL at *
    go_wp2_with fail
    refine (unhide Hc5).mono ?_
    rintro e w5 ⟨⟨sa, sc, he, hSB⟩, hb5⟩
    subst he
    have hs5 := hb5.size
    have hbw5 : Below w.heap.size w w5 := hbw4.trans (hb5.mono (by omega))
    replace g0 := (hb5.cell (p := ⟨w.heap.size, 0, none⟩) hw4).trans g0
    replace g1 := (hb5.cell (p := ⟨w.heap.size, 1, none⟩) hw4).trans g1
    replace k0 := (hb5.cell (p := ⟨w2.heap.size, 0, none⟩) hw4').trans k0
    replace k1 := (hb5.cell (p := ⟨w2.heap.size, 1, none⟩) hw4').trans k1
    replace HBL := hide (((unhide HBL).below hb5).mono hs5)
    replace HBR := hide (((unhide HBR).below hb5).mono hs5)
    have Hc6 := hide (blocks_c la sa lc sc SL w5.heap.size w5 (((unhide HSB).below hb5).mono hs5) hSB (Nat.le_refl _))
    have hw5 : w.heap.size < w5.heap.size := by omega
    have hw5' : w2.heap.size < w5.heap.size := by omega
    clear Hc5 hSB hb5 HSB
    go_wp2_with fail
    refine (unhide Hc6).mono ?_
    rintro e w6 ⟨he, hb6⟩
    subst he
    have hs6 := hb6.size
    have hbw6 : Below w.heap.size w w6 := hbw5.trans (hb6.mono (by omega))
    replace g0 := (hb6.cell (p := ⟨w.heap.size, 0, none⟩) hw5).trans g0
    replace g1 := (hb6.cell (p := ⟨w.heap.size, 1, none⟩) hw5).trans g1
    replace k0 := (hb6.cell (p := ⟨w2.heap.size, 0, none⟩) hw5').trans k0
    replace k1 := (hb6.cell (p := ⟨w2.heap.size, 1, none⟩) hw5').trans k1
    replace HBL := hide (((unhide HBL).below hb6).mono hs6)
    replace HBR := hide (((unhide HBR).below hb6).mono hs6)
    have hw6 : w.heap.size < w6.heap.size := by omega
    have hw6' : w2.heap.size < w6.heap.size := by omega
    clear Hc6 hb6
    by_cases hbad : room < 1 ∨ 64 < room
    · have e3 : E1 = 3 := by rw [← unhide HE1, mrkE, if_neg (by simp [unhide HAE]), if_pos hbad]
      subst e3
      obtain ⟨hL, hRR⟩ := (unhide HB).empty (by rw [unhide HE1]; decide)
      subst hL hRR
      have Hc7 : Hid (Calls Try.prog 11 #[.agg #[.slice ba ([] : List Int).length bc, .slice ba' ([] : List Int).length bc'], .agg #[.slice none 0 0, .slice none 0 0]] w6 fun e w' => e = .returned (.bool true) ∧ Below w6.heap.size w6 w') := by
        have := arenas_eq_c ba ba' none none bc bc' 0 0 [] [] [] [] w6.heap.size w6 (unhide HBL) (unhide HBR) (wds_nil rfl) (wds_nil rfl) (Nat.le_refl _)
        simp only [decide_true, Bool.and_self] at this
        exact this
      simp only [List.length_nil] at Hc7 k0 k1 ⊢
      rcases hbad with hr | hr
      · have d1 : decide (room < 1) = true := by simpa using hr
        go_wp2_with fail
        refine (unhide Hc7).mono ?_
        rintro e w7 ⟨he, hb7⟩
        subst he
        clear Hc7
        go_wp2
        go_ret
        exact ⟨rfl, hbw6.trans (hb7.mono (by omega))⟩
      · have d1 : decide (room < 1) = false := by simp; omega
        have d2 : decide (room > 64) = true := by simpa using hr
        have d2' : decide (64 < room) = true := by simpa using hr
        go_wp2_with fail
        refine (unhide Hc7).mono ?_
        rintro e w7 ⟨he, hb7⟩
        subst he
        clear Hc7
        go_wp2
        go_ret
        exact ⟨rfl, hbw6.trans (hb7.mono (by omega))⟩
    · have e0 : E1 = 0 := by rw [← unhide HE1, mrkE, if_neg (by simp [unhide HAE]), if_neg hbad]
      subst e0
      obtain ⟨hRs, hs', fs', p, hA', hws', hp, hL⟩ : BR = rs ∧ ∃ hs fs p, Arn hs fs rs ∧ ws = joinW hs fs ∧ (∀ j, p j = true ↔ Rch fs rs j) ∧ BL = mW hs fs p := by
        rcases unhide HB with h | ⟨_, _, _, h1, h2⟩
        · exact absurd (unhide HE1) h.1
        · exact ⟨h1, h2⟩
      subst hRs
      obtain ⟨rfl, rfl⟩ := arn_uniq (unhide HA) hA' ((unhide Hws).symm.trans hws')
      have d1 : decide (room < 1) = false := by simp; omega
      have d2 : decide (room > 64) = false := by simp; omega
      have d2' : decide (64 < room) = false := by simp; omega
      have Hc8 : Hid (Calls Try.prog 14 #[.agg #[.slice aw ws.length cw, .slice ar BR.length cr]] w6.drew fun e w' => RMk BL BR e w' ∧ Below w6.heap.size w6 w') := by
        have := rmark_c aw ar cw cr ws BR hs fs p w.heap.size w6.drew (hW.below hbw6.drew) (hR.below hbw6.drew) hUW hUR (by show w.heap.size ≤ w6.heap.size; omega) (unhide HA) (unhide Hws) hp
        rw [← hL] at this
        refine this.mono ?_
        rintro e w' ⟨h1, h2⟩
        exact ⟨h1, (Below.refl _ w6).drew.trans h2⟩
      have Hc9 : Hid (∀ W xa xc ya yc, Below w6.heap.size w6 W → Wds W.heap.size W xa BL → Wds W.heap.size W ya BR → Calls Try.prog 11 #[.agg #[.slice ba BL.length bc, .slice ba' BR.length bc'], .agg #[.slice xa BL.length xc, .slice ya BR.length yc]] W fun e w' => e = .returned (.bool true) ∧ Below W.heap.size W w') := fun W xa xc ya yc hbW h1 h2 => by
        have := arenas_eq_c ba ba' xa ya bc bc' xc yc BL BR BL BR W.heap.size W (((unhide HBL).below hbW).mono hbW.size) (((unhide HBR).below hbW).mono hbW.size) h1 h2 (Nat.le_refl _)
        simp only [decide_true, Bool.and_self] at this
        exact this
      clear hA' hws' hp hL HB HBL HBR HA Hws hbad HE1 HAE
      go_wp2
      go_region_with (first
        | (go_at_call 14; go_must (refine (unhide Hc8).mono ?_); go_must (rintro e w7 ⟨⟨xa, xc, ya, yc, he, hx, hy⟩, hb7⟩; subst he; have hs7 := hb7.size; have k07 := (hb7.cell (p := ⟨w2.heap.size, 0, none⟩) hw6').trans k0; have k17 := (hb7.cell (p := ⟨w2.heap.size, 1, none⟩) hw6').trans k1; have hl7 : w2.heap.size < w7.heap.size := Nat.lt_of_lt_of_le hw6' hs7; have Hca := hide (unhide Hc9 w7 xa xc ya yc hb7 hx hy); clear hx hy))
        | (go_at_call 11; go_must (refine (unhide Hca).mono ?_); go_must (rintro e w8 ⟨he, hb8⟩; subst he)))
      all_goals
        go_wp2
        go_ret
        exact ⟨rfl, hbw6.trans ((hb7.trans (hb8.mono hs7)).mono (by omega))⟩
  · have e1 : E1 = AE := by rw [← unhide HE1, mrkE, unhide HAE, if_pos hE]
    subst e1
    obtain ⟨hL, hRR⟩ := (unhide HB).empty (by rw [unhide HE1]; exact hE)
    have hSLe := (unhide HSL).1 hE
    subst hL hRR hSLe
    have d0 : (E1 != 0) = true := by simpa using hE
    have d1 : (E1 == E1) = true := by simp
    have Hc7 : Hid (Calls Try.prog 11 #[.agg #[.slice ba ([] : List Int).length bc, .slice ba' ([] : List Int).length bc'], .agg #[.slice none 0 0, .slice none 0 0]] w4 fun e w' => e = .returned (.bool true) ∧ Below w4.heap.size w4 w') := by
      have := arenas_eq_c ba ba' none none bc bc' 0 0 [] [] [] [] w4.heap.size w4 (unhide HBL) (unhide HBR) (wds_nil rfl) (wds_nil rfl) (Nat.le_refl _)
      simp only [decide_true, Bool.and_self] at this
      exact this
    simp only [List.length_nil] at Hc7 k0 k1 ⊢
    clear hE HE1 HAE HB HSL
    go_wp2_with fail
    refine (unhide Hc7).mono ?_
    rintro e w7 ⟨he, hb7⟩
    subst he
    clear Hc7
    go_wp2
    go_ret
    exact ⟨rfl, hbw4.trans (hb7.mono (by omega))⟩

end Go.Proofs.Ytjhndbfhiknngaa
