/- Merged texts: Vp Vd Ve Vf Vg Ta Vh. -/
import Derived.Test.YtoelnioifjeakaaProg
import Derived.Test.YtoelnioifjeakaaBuddyPlaysB
import Derived.ProofKit
import Derived.OpenShut
import Derived.Lib.SmallJoins
import Derived.Deep.Slices

/- Walks: the yard's piece. -/
namespace Go.Proofs.Ytoelnioifjeakaa
set_option linter.unusedSimpArgs false
set_option linter.unusedVariables false
open Go.RowKit

/-- The best piece so far, in its box. -/
def bsA : Option (Nat × Nat) → Int
  | none => -1
  | some b => (b.1 : Int)
def bsL : Option (Nat × Nat) → Int
  | none => 0
  | some b => (b.2 : Int)

theorem best_keep {n j : Nat} {l : List (Nat × Nat)} {p q : Nat} (hx : l[j]? = some (p, q)) (h : q < n ∨ ∃ c, bestK n l j = some c ∧ c.2 ≤ q) : bestK n l (j + 1) = bestK n l j := by
  have hg : l.getD j (0, 0) = (p, q) := getD_of hx
  rw [bestK, hg]
  rcases h with h | ⟨c, h1, h2⟩
  · cases hb : bestK n l j with
    | none => simp only; rw [if_neg (by omega)]
    | some c => simp only; rw [if_neg (by omega)]
  · rw [h1]; simp only; rw [if_neg (by omega)]
theorem best_new {n j : Nat} {l : List (Nat × Nat)} {p q : Nat} (hx : l[j]? = some (p, q)) (hn : n ≤ q) (h : bestK n l j = none ∨ ∃ c, bestK n l j = some c ∧ q < c.2) : bestK n l (j + 1) = some (p, q) := by
  have hg : l.getD j (0, 0) = (p, q) := getD_of hx
  rw [bestK, hg]
  rcases h with h | ⟨c, h1, h2⟩
  · rw [h]; simp only; rw [if_pos hn]
  · rw [h1]; simp only; rw [if_pos ⟨hn, h2⟩]

/-- What holds while pieces are looked at. -/
structure PS (W w : World) (N2 bb : Nat) (v2 : Value) (l : List (Nat × Nat)) (o : Option (Nat × Nat)) : Prop where
  box : w.heap[bb]? = some (.cells #[.int .i64 (bsA o), .int .i64 (bsL o)] 37)
  row : w.ownsRow N2 37 2 v2 l.length (cellsB l)
  bel : Below W.heap.size W w
  lo : W.heap.size ≤ bb
  hi : bb < N2

theorem PS.alloc {W w : World} {N2 bb : Nat} {v2 : Value} {l : List (Nat × Nat)} {o : Option (Nat × Nat)} (h : PS W w N2 bb v2 l o) (x : Obj) : PS W (w.alloc x) N2 bb v2 l o :=
  ⟨by rw [Below.heap_alloc _ _ _ (Array.getElem?_eq_some_iff.1 h.box).1]; exact h.box, h.row.alloc x, h.bel.alloc h.bel.size x, h.lo, h.hi⟩
theorem PS.set {W w : World} {N2 bb : Nat} {v2 : Value} {l : List (Nat × Nat)} {o : Option (Nat × Nat)} (h : PS W w N2 bb v2 l o) (b : Nat × Nat) :
    PS W ((w.setCell ⟨bb, 0, none⟩ (.int .i64 (b.1 : Nat))).setCell ⟨bb, 1, none⟩ (.int .i64 (b.2 : Nat))) N2 bb v2 l (some b) := by
  have h1 := heap_setCell_same w bb 0 _ 37 (.int .i64 (b.1 : Nat)) h.box
  have h2 := heap_setCell_same _ bb 1 _ 37 (.int .i64 (b.2 : Nat)) h1
  have hne : ∀ k, v2.ownBlock = some k → k ≠ bb := fun k hk e => by have := (h.row.lt k hk).1; have := h.hi; omega
  have hr : v2.ownBlock = none ∨ v2.ownBlock ≠ some bb := by
    cases hv : v2.ownBlock with
    | none => exact .inl rfl
    | some k => exact .inr (fun e => hne k hv (by injection e))
  exact ⟨h2, (h.row.kept (grown_set w bb 0 _) hr).kept (grown_set _ bb 1 _) hr, (h.bel.setCell (p := ⟨bb, 0, none⟩) h.lo _).setCell (p := ⟨bb, 1, none⟩) h.lo _, h.lo, h.hi⟩

set_option maxRecDepth 100000 in
set_option maxHeartbeats 4000000 in
theorem ypiece_c (W : World) (N yb tb : Nat) (va vl : Value) (S : Nat) (T : List Bool) (P L : List Int) (la : Nat) (h : Ym W N yb tb va vl S T P L la) (K : Nat) (hK : K ≤ 7) (hSK : S = p2 K) (n : Nat) (hn1 : 1 ≤ n) (hn : n ≤ S) :
    Calls Try.prog 20 #[.pointer (some ⟨yb, 0, none⟩), .int .i64 (n : Nat)] W fun e w' => e = .returned (.tuple #[.int .i64 (bsA (bestB n (pcs (tF T) K 0))), .int .i64 (p2 (lv n) : Nat)]) ∧ Below W.heap.size W w' := by
  have hS : S ≤ 256 := by rw [hSK]; exact p2_le (by omega)
  have hlv : lv n ≤ 8 := lv_le (k := 8) (show n ≤ 2 ^ 8 by omega)
  have Hge := hide (show n ≤ p2 (lv n) from lv_ge n)
  have Hlt : Hid (∀ k, k < lv n → p2 k < n) := fun k h => p2_lv h
  have H0 : Hid (p2 0 = 1) := rfl
  have hb1 : Below W.heap.size W (W.alloc (.cells #[.int .i64 (-1), .int .i64 0] 37)) := (Below.refl _ _).alloc (Nat.le_refl _) _
  have hY1 := h.below hb1
  have HC := hide (ypieces_c N yb tb va vl S T P L la hS K hK (W.alloc (.cells #[.int .i64 (-1), .int .i64 0] 37)) 0 hY1 (by omega))
  have hlen : (pcs (tF T) K 0).length ≤ 256 := Nat.le_trans (pcs_len _ _ _) (by rw [← show p2 K = 2 ^ K from rfl, ← hSK]; exact hS)
  have Hbx : Hid ((W.alloc (.cells #[.int .i64 (-1), .int .i64 0] 37)).heap[W.heap.size]? = some (.cells #[.int .i64 (-1), .int .i64 0] 37)) := heap_alloc_new _ _
  have c0 := hY1.c0
  have yl := hY1.lt
  have Hb1 := hide hb1
  rw [← hSK] at HC
  clear h hY1 hb1 hSK
  obtain ⟨l, hl⟩ : ∃ l, pcs (tF T) K 0 = l := ⟨_, rfl⟩
  rw [hl] at HC hlen ⊢
  clear hl
  go_enter Try.func20, Try.ntmps20
  go_wp2
  go_loopw [6] (fun p wr => ∃ k : Nat, k ≤ lv n ∧ p = .int .i64 (p2 k : Nat) ∧ wr = W) (fun p _ => 512 - (intOf p).toNat)
  case atStart => exact ⟨0, Nat.zero_le _, by rw [unhide H0]; rfl, rfl⟩
  case round =>
    obtain ⟨k, hk, rfl, rfl⟩ := hrel
    have hp := p2_le (k := k) (by omega)
    have hpos := p2_pos k
    by_cases hlt : k < lv n
    · have h3 := unhide Hlt k hlt
      have Hs := hide (p2_succ k)
      have d1 : decide (p2 k < n) = true := decide_eq_true h3
      go_wp2
      go_roundw
      case rel => exact ⟨k + 1, hlt, by rw [unhide Hs]; go_num, trivial⟩
      case measure => simp [intOf]; omega
    · obtain rfl : k = lv n := by omega
      have h3 := unhide Hge
      have d1 : decide (p2 (lv n) < n) = false := decide_eq_false (by omega)
      clear Hge Hlt H0 hlt hk
      generalize hsz : p2 (lv n) = sz at *
      have Hsz := hide hsz
      clear hsz
      go_wp2_with fail
      refine (unhide HC).mono ?_
      rintro e w2 ⟨v2, rfl, hr2, hb2⟩
      obtain ⟨a2, c2, hv2⟩ := ownsRow_slice hr2
      subst hv2
      have hPS : PS wr w2 (wr.alloc (.cells #[.int .i64 (-1), .int .i64 0] 37)).heap.size wr.heap.size (.slice a2 l.length c2) l (bestK n l 0) :=
        ⟨by rw [hb2.block _ (by simp)]; exact unhide Hbx, hr2, (unhide Hb1).trans (hb2.mono (by simp)), Nat.le_refl _, by simp⟩
      have HPS := hide hPS
      clear hPS hr2 hb2 HC Hbx Hb1 c0 yl
      go_wp2
      obtain ⟨WR, hWR⟩ : ∃ WR, WR = wr := ⟨wr, rfl⟩
      subst hWR
      go_loopw [25] (fun i wr => ∃ j : Nat, j ≤ l.length ∧ i = .int .i64 j ∧ Hid (PS WR wr (WR.alloc (.cells #[.int .i64 (-1), .int .i64 0] 37)).heap.size WR.heap.size (.slice a2 l.length c2) l (bestK n l j))) (fun i _ => l.length - (intOf i).toNat)
      case atStart => exact ⟨0, Nat.zero_le _, rfl, HPS⟩
      case round =>
        clear HPS
        obtain ⟨j, hj, rfl, HPS⟩ := hrel
        have hbx := (unhide HPS).box
        have b0 : wr.cell? ⟨WR.heap.size, 0, none⟩ = some (.int .i64 (bsA (bestK n l j))) := by rw [cell_of_row wr _ 0 _ 37 (0, 0) hbx]; rfl
        have b1 : wr.cell? ⟨WR.heap.size, 1, none⟩ = some (.int .i64 (bsL (bestK n l j))) := by rw [cell_of_row wr _ 1 _ 37 (0, 0) hbx]; rfl
        have bf0 := frozen_of_row wr _ 0 _ 37 hbx
        have bf1 := frozen_of_row wr _ 1 _ 37 hbx
        have bl := (Array.getElem?_eq_some_iff.1 hbx).1
        clear hbx
        by_cases hlt : j < l.length
        · obtain ⟨p, q, hx⟩ : ∃ p q, l[j]? = some (p, q) := ⟨l[j].1, l[j].2, List.getElem?_eq_getElem hlt⟩
          obtain ⟨a3, c3, hv3, hB⟩ := blks_of_row (unhide HPS).row (by omega)
          injection hv3 with e3 _ e4
          subst e3 e4
          obtain ⟨b, off, rfl, hbB, y0, y1⟩ := hB.at hx
          have hjI : (j : Int) < (l.length : Int) := by omega
          have HPa := hide ((unhide HPS).alloc (.cells #[.int .i64 (p : Nat), .int .i64 (q : Nat)] 37))
          clear hB
          by_cases hnq : n ≤ q
          · have d2 : decide (n ≤ q) = true := decide_eq_true hnq
            have d2' : decide ((q : Int) ≥ (n : Int)) = true := decide_eq_true (by omega)
            cases hbk : bestK n l j with
            | none =>
              have Hn := hide (best_new hx hnq (.inl hbk))
              have HPn : Hid (PS WR (((wr.setCell ⟨WR.heap.size, 0, none⟩ (.int .i64 (p : Nat))).setCell ⟨WR.heap.size, 1, none⟩ (.int .i64 (q : Nat))).alloc (.cells #[.int .i64 (p : Nat), .int .i64 (q : Nat)] 37)) (WR.alloc (.cells #[.int .i64 (-1), .int .i64 0] 37)).heap.size WR.heap.size (.slice (some ⟨b, off, none⟩) l.length c2) l (some (p, q))) := ((unhide HPS).set (p, q)).alloc _
              rw [hbk] at b0 b1
              simp only [bsA, bsL] at b0 b1
              clear HPa HPS hbk hx
              go_wp2
              go_roundw
              case rel => exact ⟨j + 1, by omega, by go_num, by rw [unhide Hn]; exact HPn⟩
              case measure => simp [intOf]; omega
            | some c =>
              obtain ⟨x, y⟩ := c
              have d3 : decide ((x : Int) < 0) = false := decide_eq_false (by omega)
              by_cases hqy : q < y
              · have Hn := hide (best_new hx hnq (.inr ⟨_, hbk, hqy⟩))
                have HPn : Hid (PS WR (((wr.setCell ⟨WR.heap.size, 0, none⟩ (.int .i64 (p : Nat))).setCell ⟨WR.heap.size, 1, none⟩ (.int .i64 (q : Nat))).alloc (.cells #[.int .i64 (p : Nat), .int .i64 (q : Nat)] 37)) (WR.alloc (.cells #[.int .i64 (-1), .int .i64 0] 37)).heap.size WR.heap.size (.slice (some ⟨b, off, none⟩) l.length c2) l (some (p, q))) := ((unhide HPS).set (p, q)).alloc _
                have d4 : decide (q < y) = true := decide_eq_true hqy
                rw [hbk] at b0 b1
                simp only [bsA, bsL] at b0 b1
                clear HPa HPS hbk hx
                go_wp2
                go_roundw
                case rel => exact ⟨j + 1, by omega, by go_num, by rw [unhide Hn]; exact HPn⟩
                case measure => simp [intOf]; omega
              · have Hn := hide (best_keep hx (.inr ⟨_, hbk, by simp only; omega⟩))
                have d4 : decide (q < y) = false := decide_eq_false hqy
                have HPn : Hid (PS WR (wr.alloc (.cells #[.int .i64 (p : Nat), .int .i64 (q : Nat)] 37)) (WR.alloc (.cells #[.int .i64 (-1), .int .i64 0] 37)).heap.size WR.heap.size (.slice (some ⟨b, off, none⟩) l.length c2) l (bestK n l (j + 1))) := by
                  show PS _ _ _ _ _ _ _
                  rw [unhide Hn]; exact unhide HPa
                rw [hbk] at b0 b1
                simp only [bsA, bsL] at b0 b1
                clear HPa HPS hbk hx Hn
                go_wp2
                go_roundw
                case rel => exact ⟨j + 1, by omega, by go_num, HPn⟩
                case measure => simp [intOf]; omega
          · have hqn : q < n := by omega
            have Hn := hide (best_keep hx (.inl hqn))
            have d2 : decide (n ≤ q) = false := decide_eq_false hnq
            have d2' : decide ((q : Int) ≥ (n : Int)) = false := decide_eq_false (by omega)
            have HPn : Hid (PS WR (wr.alloc (.cells #[.int .i64 (p : Nat), .int .i64 (q : Nat)] 37)) (WR.alloc (.cells #[.int .i64 (-1), .int .i64 0] 37)).heap.size WR.heap.size (.slice (some ⟨b, off, none⟩) l.length c2) l (bestK n l (j + 1))) := by
              show PS _ _ _ _ _ _ _
              rw [unhide Hn]; exact unhide HPa
            clear HPa HPS hx Hn
            generalize bsA (bestK n l j) = xa at *
            generalize bsL (bestK n l j) = xl at *
            go_wp2
            go_roundw
            case rel => exact ⟨j + 1, by omega, by go_num, HPn⟩
            case measure => simp [intOf]; omega
        · obtain rfl : j = l.length := by omega
          have hbel := (unhide HPS).bel
          have He : Hid (bsA (bestK n l l.length) = bsA (bestB n l)) := rfl
          clear HPS
          generalize bsA (bestK n l l.length) = xa at *
          generalize bsL (bestK n l l.length) = xl at *
          go_wp2
          go_ret2
          refine ⟨?_, hbel⟩
          show Ending.returned (.tuple #[.int .i64 xa, .int .i64 (sz : Nat)]) = _
          rw [unhide He, ← unhide Hsz]

end Go.Proofs.Ytoelnioifjeakaa

/- Walks: the yard's take, give. -/
namespace Go.Proofs.Ytoelnioifjeakaa
set_option linter.unusedSimpArgs false
set_option linter.unusedVariables false
open Go.RowKit

/-- What a turn of the yard leaves alone. -/
structure Yfr (W W' : World) (N yb tb : Nat) (va vl va' vl' : Value) : Prop where
  bel : Below N W W'
  rest : ∀ k, k < W.heap.size → k ≠ yb → k ≠ tb → va.ownBlock ≠ some k → vl.ownBlock ≠ some k → W'.heap[k]? = W.heap[k]?
  na : va'.ownBlock = va.ownBlock ∨ ∃ k, va'.ownBlock = some k ∧ W.heap.size ≤ k
  nl : vl'.ownBlock = vl.ownBlock ∨ ∃ k, vl'.ownBlock = some k ∧ W.heap.size ≤ k

theorem box57_1 {W : World} {b : Nat} {x y z u : Value} (h : W.heap[b]? = some (.cells #[x, y, z, u] 53)) (v : Value) : (W.setCell ⟨b, 1, none⟩ v).heap[b]? = some (.cells #[x, v, z, u] 53) := by
  rw [heap_setCell_same W b 1 _ 53 v h]; rfl
theorem box57_2 {W : World} {b : Nat} {x y z u : Value} (h : W.heap[b]? = some (.cells #[x, y, z, u] 53)) (v : Value) : (W.setCell ⟨b, 2, none⟩ v).heap[b]? = some (.cells #[x, y, v, u] 53) := by
  rw [heap_setCell_same W b 2 _ 53 v h]; rfl
theorem box57_3 {W : World} {b : Nat} {x y z u : Value} (h : W.heap[b]? = some (.cells #[x, y, z, u] 53)) (v : Value) : (W.setCell ⟨b, 3, none⟩ v).heap[b]? = some (.cells #[x, y, z, v] 53) := by
  rw [heap_setCell_same W b 3 _ 53 v h]; rfl

section
variable {W : World} {N yb tb : Nat} {va vl : Value} {S : Nat} {T : List Bool} {P L : List Int} {la : Nat}
/-- Behind an append to what was taken where. -/
theorem Ym.pushA {W' : World} {v : Value} {x : Int} (h : Ym W N yb tb va vl S T P L la) (hr : W'.ownsRow N 3 1 v (P.length + 1) (intsV P ++ [.int .i64 x])) (hg : W.grownBy W' va.ownBlock) (hat : v.ownBlock = va.ownBlock ∨ v.ownBlock = some W.heap.size) :
    W'.heap[yb]? = some (.cells #[.slice (some ⟨tb, 0, none⟩) S S, va, vl, .int .i64 (la : Nat)] 53) ∧ Ym (W'.setCell ⟨yb, 1, none⟩ v) N yb tb v vl S T (P ++ [x]) L la := by
  have hya := row_ne h.ra h.box (by decide)
  have hbx : W'.heap[yb]? = some (.cells #[.slice (some ⟨tb, 0, none⟩) S S, va, vl, .int .i64 (la : Nat)] 53) := by rw [hg.block yb h.lt (fun e => hya e.symm)]; exact h.box
  have hgs := grown_set W' yb 1 v
  have hvl := h.rl.kept hg (by cases hv : vl.ownBlock with
    | none => exact .inl rfl
    | some k => exact .inr (fun e => h.dj k e.symm hv))
  have hvt := h.rt.kept hg (.inr (by
    obtain ⟨cs, ht⟩ := h.tat
    exact fun e => row_ne h.ra ht (by decide) (by rw [← e]; rfl)))
  have hr' : W'.ownsRow N 3 1 v (P ++ [x]).length (intsV (P ++ [x])) := by rw [intsV_snoc, List.length_append]; exact hr
  refine ⟨hbx, box57_1 hbx v, hvt.kept hgs (.inr (row_ne hvt hbx (by decide))), hr'.kept hgs (.inr (row_ne hr' hbx (by decide))), hvl.kept hgs (.inr (row_ne hvl hbx (by decide))), fun k hk e => ?_, h.lo⟩
  rcases hat with h1 | h1
  · exact h.dj k (by rw [← h1]; exact hk) e
  · rw [h1] at hk
    injection hk with hk
    have := (h.rl.lt k e).2
    omega
/-- Behind an append to how long each is. -/
theorem Ym.pushL {W' : World} {v : Value} {x : Int} (h : Ym W N yb tb va vl S T P L la) (hr : W'.ownsRow N 3 1 v (L.length + 1) (intsV L ++ [.int .i64 x])) (hg : W.grownBy W' vl.ownBlock) (hat : v.ownBlock = vl.ownBlock ∨ v.ownBlock = some W.heap.size) :
    W'.heap[yb]? = some (.cells #[.slice (some ⟨tb, 0, none⟩) S S, va, vl, .int .i64 (la : Nat)] 53) ∧ Ym (W'.setCell ⟨yb, 2, none⟩ v) N yb tb va v S T P (L ++ [x]) la := by
  have hya := row_ne h.rl h.box (by decide)
  have hbx : W'.heap[yb]? = some (.cells #[.slice (some ⟨tb, 0, none⟩) S S, va, vl, .int .i64 (la : Nat)] 53) := by rw [hg.block yb h.lt (fun e => hya e.symm)]; exact h.box
  have hgs := grown_set W' yb 2 v
  have hva := h.ra.kept hg (by cases hv : va.ownBlock with
    | none => exact .inl rfl
    | some k => exact .inr (fun e => h.dj k hv e.symm))
  have hvt := h.rt.kept hg (.inr (by
    obtain ⟨cs, ht⟩ := h.tat
    exact fun e => row_ne h.rl ht (by decide) (by rw [← e]; rfl)))
  have hr' : W'.ownsRow N 3 1 v (L ++ [x]).length (intsV (L ++ [x])) := by rw [intsV_snoc, List.length_append]; exact hr
  refine ⟨hbx, box57_2 hbx v, hvt.kept hgs (.inr (row_ne hvt hbx (by decide))), hva.kept hgs (.inr (row_ne hva hbx (by decide))), hr'.kept hgs (.inr (row_ne hr' hbx (by decide))), fun k hk e => ?_, h.lo⟩
  rcases hat with h1 | h1
  · exact h.dj k hk (by rw [← h1]; exact e)
  · rw [h1] at e
    injection e with e
    have := (h.ra.lt k hk).2
    omega
theorem Ym.setE (h : Ym W N yb tb va vl S T P L la) (la' : Nat) : Ym (W.setCell ⟨yb, 3, none⟩ (.int .i64 (la' : Nat))) N yb tb va vl S T P L la' := by
  have hgs := grown_set W yb 3 (.int .i64 (la' : Nat))
  exact ⟨box57_3 h.box _, h.rt.kept hgs (.inr (row_ne h.rt h.box (by decide))), h.ra.kept hgs (.inr (row_ne h.ra h.box (by decide))), h.rl.kept hgs (.inr (row_ne h.rl h.box (by decide))), h.dj, h.lo⟩
end

set_option maxRecDepth 100000 in
set_option maxHeartbeats 2000000 in
theorem ytake_c (W : World) (N yb tb : Nat) (va vl : Value) (S : Nat) (T : List Bool) (P L : List Int) (la : Nat) (h : Ym W N yb tb va vl S T P L la) (hN : N ≤ W.heap.size) (p n : Nat) (hp : p + n ≤ S) (hS : S ≤ 256) (hP : P.length ≤ 100) (hL : L.length ≤ 100) :
    Calls Try.prog 22 #[.pointer (some ⟨yb, 0, none⟩), .int .i64 (p : Nat), .int .i64 (n : Nat)] W fun e w' => e = .returned (.tuple #[]) ∧ ∃ va' vl', Ym w' N yb tb va' vl' S (updB T (rowP p n) true) (P ++ [(p : Int)]) (L ++ [(n : Int)]) (p + n) ∧ Yfr W w' N yb tb va vl va' vl' := by
  obtain ⟨i3, hi3, hy0, hy1, hy2⟩ := info_parts Try.info3
  have Hc := hide (set_c W N yb tb va vl S T P L la h p n true hp hS)
  have HY := hide h
  clear h
  go_enter Try.func22, Try.ntmps22
  go_wp2_with fail
  refine (unhide Hc).mono ?_
  rintro e w1 ⟨rfl, h1, hg1⟩
  have hs1 := hg1.size
  have hb11 : Below w1.heap.size w1 (w1.alloc (.cells #[.int .i64 (p : Nat)] 3)) := (Below.refl _ _).alloc (Nat.le_refl _) _
  have c1 := h1.c1
  have l1 := h1.lt
  have H1 := hide h1
  have Hg1 := hide hg1
  have hra := h1.ra
  clear h1 hg1 Hc
  go_wp2_with (first
    | (at_builtin; refine wpList_append_own_at _ rfl _ _ 24 rfl N 3 i3 _ 1 8 Try.underlying24 hi3 hy0 hy1 hy2 rfl (by decide) va _ _ rfl (hra.alloc _) ⟨w1.heap.size, 0, none⟩ 1 1 [.int .i64 (p : Nat)] rfl rfl (cell_one_at _ _ _ _ rfl) (by simp [Value.oneCell']) (by simp only [maxLen]; omega) (by omega) (by simp; omega) ?_; go_must (intro v7 w7 hrow7 hg7 _ hat7; obtain ⟨g7, c7, hv7⟩ := ownsRow_succ hrow7; subst hv7; obtain ⟨hbx7, hY7⟩ := ((unhide H1).below hb11).pushA hrow7 hg7 hat7; have hq1 : w7.cell? ⟨yb, 1, none⟩ = some va := (by rw [cell_of_row w7 yb 1 _ 53 (0, 0) hbx7]; rfl); have hqf := frozen_of_row w7 yb 1 _ 53 hbx7; have hql : yb < w7.heap.size := (Array.getElem?_eq_some_iff.1 hbx7).1; have hd2 := hY7.c2; have hdl := hY7.lt; have H7 := hide hY7; have Hg7 := hide hg7; have Hat7 := hide hat7; have hs7 := hg7.size; have hb77 := (Below.refl (w7.setCell ⟨yb, 1, none⟩ (.slice (some ⟨g7, 0, none⟩) (P.length + 1) c7)).heap.size (w7.setCell ⟨yb, 1, none⟩ (.slice (some ⟨g7, 0, none⟩) (P.length + 1) c7))).alloc (Nat.le_refl _) (.cells #[.int .i64 (n : Nat)] 3); have hrl := hY7.rl; clear hrow7 hg7 hat7 hbx7 hY7 hra c1))
    | (at_builtin; refine wpList_append_own_at _ rfl _ _ 24 rfl N 3 i3 _ 1 8 Try.underlying24 hi3 hy0 hy1 hy2 rfl (by decide) vl _ _ rfl (hrl.alloc _) ⟨w7.heap.size, 0, none⟩ 1 1 [.int .i64 (n : Nat)] rfl rfl (cell_one_at _ _ _ _ (by simp [World.setCell])) (by simp [Value.oneCell']) (by simp only [maxLen]; omega) (by omega) (by simp [World.setCell] at hs7 ⊢; omega) ?_; go_must (intro v9 w9 hrow9 hg9 _ hat9; obtain ⟨g9, c9, hv9⟩ := ownsRow_succ hrow9; subst hv9; obtain ⟨hbx9, hY9⟩ := ((unhide H7).below hb77).pushL hrow9 hg9 hat9; have hu1 : w9.cell? ⟨yb, 2, none⟩ = some vl := (by rw [cell_of_row w9 yb 2 _ 53 (0, 0) hbx9]; rfl); have huf := frozen_of_row w9 yb 2 _ 53 hbx9; have hul : yb < w9.heap.size := (Array.getElem?_eq_some_iff.1 hbx9).1; have he3 := hY9.c3; have hef := hY9.fr 3; have hel := hY9.lt; have H9 := hide (hY9.setE (p + n)); have Hg9 := hide hg9; have Hat9 := hide hat9; have hs9 := hg9.size; clear hrow9 hg9 hat9 hbx9 hY9 hrl hd2)))
  go_end0
  refine ⟨rfl, _, _, unhide H9, ?_⟩
  have hyN := (unhide HY).lo
  have htN := (unhide HY).tlt.1
  have hyl := (unhide HY).lt
  have hs7' : w1.heap.size + 1 ≤ w7.heap.size := by simpa using hs7
  have hs9' : w7.heap.size + 1 ≤ w9.heap.size := by simpa [World.setCell] using hs9
  refine ⟨?_, fun k hk k1 k2 k3 k4 => ?_, ?_, ?_⟩
  · exact ((((((((Below.refl N W).grown (unhide Hg1) hN (fun x e => by injection e with e; omega)).alloc (by omega) _).grown (unhide Hg7) (by simp; omega) (fun x e => ((unhide H1).ra.lt x e).1)).setCell (p := ⟨yb, 1, none⟩) hyN _).alloc (by simp [World.setCell]; omega) _).grown (unhide Hg9) (by simp [World.setCell]; omega) (fun x e => ((unhide H7).rl.lt x e).1)).setCell (p := ⟨yb, 2, none⟩) hyN _).setCell (p := ⟨yb, 3, none⟩) hyN _
  · rw [Below.heap_setCell _ _ _ _ k1, Below.heap_setCell _ _ _ _ k1, (unhide Hg9).block k (by simp [World.setCell]; omega) (fun e => k4 e.symm), Below.heap_alloc _ _ _ (by simp [World.setCell]; omega), Below.heap_setCell _ _ _ _ k1, (unhide Hg7).block k (by simp; omega) (fun e => k3 e.symm), Below.heap_alloc _ _ _ (by omega), (unhide Hg1).block k hk (by simpa using k2)]
  · rcases unhide Hat7 with e | e
    · exact .inl e
    · exact .inr ⟨_, e, by simp; omega⟩
  · rcases unhide Hat9 with e | e
    · exact .inl e
    · exact .inr ⟨_, e, by simp [World.setCell]; omega⟩

end Go.Proofs.Ytoelnioifjeakaa

/- Walks: the yard's give. -/
namespace Go.Proofs.Ytoelnioifjeakaa
set_option linter.unusedSimpArgs false
set_option linter.unusedVariables false
open Go.RowKit

section
variable {W : World} {N yb tb : Nat} {va vl : Value} {S : Nat} {T : List Bool} {P L : List Int} {la : Nat}
theorem Ym.setP {g n cap : Nat} (h : Ym W N yb tb (.slice (some ⟨g, 0, none⟩) n cap) vl S T P L la) (j : Nat) (x : Int) : Ym (W.setCell ⟨g, j, none⟩ (.int .i64 x)) N yb tb (.slice (some ⟨g, 0, none⟩) n cap) vl S T (P.set j x) L la := by
  have hn : n = P.length := by obtain ⟨a, c, e⟩ := ownsRow_slice h.ra; injection e
  subst hn
  have h1 := h.ra.stored j (.int .i64 x)
  rw [show (intsV P).set j (.int .i64 x) = intsV (P.set j x) by simp [intsV, List.map_set]] at h1
  have hg := grown_set W g j (.int .i64 x)
  obtain ⟨cs, ht⟩ := h.tat
  have hya := row_ne h.ra h.box (by decide)
  have hta := row_ne h.ra ht (by decide)
  refine ⟨by rw [hg.block yb h.lt (fun e => hya (by rw [Value.ownBlock, e]))]; exact h.box, h.rt.kept hg (.inr (fun e => hta (by have e' : some tb = some g := e; injection e' with e'; subst e'; rfl))), by rw [List.length_set]; exact h1.1, h.rl.kept hg (.inr (h.dj g rfl)), h.dj, h.lo⟩
end

set_option maxRecDepth 100000 in
set_option maxHeartbeats 2000000 in
theorem ygive_no (W : World) (N yb tb : Nat) (va vl : Value) (S : Nat) (T : List Bool) (P L : List Int) (la : Nat) (h : Ym W N yb tb va vl S T P L la) (hP : P.length ≤ 100) (q : Int) (hq : ∀ i : Nat, P[i]? ≠ some q) :
    Calls Try.prog 23 #[.pointer (some ⟨yb, 0, none⟩), .int .i64 q] W fun e w' => e = .returned (.bool false) ∧ w' = W := by
  obtain ⟨a, c, e⟩ := ownsRow_slice h.ra
  subst e
  have t1 := h.c1
  have tl := h.lt
  have HY := hide h
  have Hq := hide hq
  clear h hq
  go_enter Try.func23, Try.ntmps23
  go_wp2
  go_loopw [5] (fun i wr => ∃ k : Nat, k ≤ P.length ∧ i = .int .i64 k ∧ wr = W) (fun i _ => P.length - (intOf i).toNat)
  case atStart => exact ⟨0, Nat.zero_le _, rfl, rfl⟩
  case round =>
    obtain ⟨k, hk, rfl, rfl⟩ := hrel
    by_cases hlt : k < P.length
    · obtain ⟨x, hx⟩ : ∃ x, P[k]? = some x := ⟨_, List.getElem?_eq_getElem hlt⟩
      obtain ⟨a', c', e', hN, _⟩ := nums_of_owns (unhide HY).ra (by omega)
      injection e' with e1 _ _
      subst e1
      obtain ⟨b, off, rfl, hbB, y0⟩ := hN.at hx
      have hkI : (k : Int) < (P.length : Int) := by omega
      have hne : (x == q) = false := by
        have := unhide Hq k
        rw [hx] at this
        simpa using this
      clear hx hN
      go_wp2
      go_roundw
      case rel => exact ⟨k + 1, by omega, by go_num, trivial⟩
      case measure => simp [intOf]; omega
    · obtain rfl : k = P.length := by omega
      go_wp2
      go_ret
      exact ⟨rfl, rfl⟩

set_option maxRecDepth 100000 in
set_option maxHeartbeats 2000000 in
theorem ygive_yes (W : World) (N yb tb : Nat) (va vl : Value) (S : Nat) (T : List Bool) (P L : List Int) (la : Nat) (h : Ym W N yb tb va vl S T P L la) (hN : N ≤ W.heap.size) (hP : P.length ≤ 100) (hPL : P.length = L.length) (hS : S ≤ 256) (p m i : Nat) (hi : P[i]? = some (p : Int)) (hL : L[i]? = some (m : Int)) (hpm : p + m ≤ S) (hun : ∀ j, j < i → P[j]? ≠ some (p : Int)) :
    Calls Try.prog 23 #[.pointer (some ⟨yb, 0, none⟩), .int .i64 (p : Nat)] W fun e w' => e = .returned (.bool true) ∧ Ym w' N yb tb va vl S (updB T (rowP p m) false) (P.set i (-1)) L la ∧ Yfr W w' N yb tb va vl va vl := by
  have hil := (List.getElem?_eq_some_iff.1 hi).1
  obtain ⟨n1, hn1⟩ : ∃ n1, P.length = n1 + 1 := ⟨P.length - 1, by omega⟩
  have hra := h.ra
  rw [hn1] at hra
  obtain ⟨g, c, e⟩ := ownsRow_succ hra
  subst e
  have hrl := h.rl
  rw [← hPL, hn1] at hrl
  obtain ⟨g', c', e⟩ := ownsRow_succ hrl
  subst e
  rw [← hn1] at *
  have t1 := h.c1
  have t2 := h.c2
  have tl := h.lt
  have hgl := (h.ra.lt g rfl).2
  have hgl' := (h.rl.lt g' rfl).2
  have HY := hide h
  have Hun := hide hun
  have HC := hide (set_c W N yb tb _ _ S T P L la h p m false hpm hS)
  have Hi := hide hi
  have HL := hide hL
  clear h hun hra hrl hi hL
  go_enter Try.func23, Try.ntmps23
  go_wp2
  go_loopw [5] (fun j wr => ∃ k : Nat, k ≤ i ∧ j = .int .i64 k ∧ wr = W) (fun j _ => P.length - (intOf j).toNat)
  case atStart => exact ⟨0, Nat.zero_le _, rfl, rfl⟩
  case round =>
    obtain ⟨k, hk, rfl, rfl⟩ := hrel
    have hkI : (k : Int) < (P.length : Int) := by omega
    by_cases hlt : k < i
    · obtain ⟨x, hx⟩ : ∃ x, P[k]? = some x := ⟨_, List.getElem?_eq_getElem (by omega)⟩
      have y0 : wr.cell? ⟨g, k, none⟩ = some (.int .i64 x) := by rw [(unhide HY).ra.cellAt k (by omega)]; exact intsV_get hx
      have hne : (x == (p : Int)) = false := by
        have := unhide Hun k hlt
        rw [hx] at this
        simpa using this
      clear hx
      go_wp2
      go_roundw
      case rel => exact ⟨k + 1, by omega, by go_num, trivial⟩
      case measure => simp [intOf]; omega
    · obtain rfl : k = i := by omega
      have y0 : wr.cell? ⟨g, k, none⟩ = some (.int .i64 (p : Nat)) := by rw [(unhide HY).ra.cellAt k (by omega)]; exact intsV_get (unhide Hi)
      have y1 : wr.cell? ⟨g', k, none⟩ = some (.int .i64 (m : Nat)) := by
        have hrl := (unhide HY).rl
        rw [← hPL] at hrl
        rw [hrl.cellAt k (by omega)]; exact intsV_get (unhide HL)
      have hkL : (k : Int) < (L.length : Int) := by omega
      have hpp : ((p : Int) == (p : Int)) = true := by simp
      go_wp2_with fail
      refine (unhide HC).mono ?_
      rintro e w1 ⟨rfl, h1, hg1⟩
      have u1 := h1.c1
      have ul := h1.lt
      have ugl := (h1.ra.lt g rfl).2
      have ugN := (h1.ra.lt g rfl).1
      have uf := h1.ra.frozenAt k
      have z0 : w1.cell? ⟨g, k, none⟩ = some (.int .i64 (p : Nat)) := by rw [h1.ra.cellAt k (by omega)]; exact intsV_get (unhide Hi)
      have H2 := hide (h1.setP k (-1))
      have HF : Hid (Yfr wr (w1.setCell ⟨g, k, none⟩ (.int .i64 (-1))) N yb tb (.slice (some ⟨g, 0, none⟩) P.length c) (.slice (some ⟨g', 0, none⟩) P.length c') (.slice (some ⟨g, 0, none⟩) P.length c) (.slice (some ⟨g', 0, none⟩) P.length c')) := by
        refine ⟨((Below.refl N wr).grown hg1 hN (fun x e => by injection e with e; have := (unhide HY).tlt.1; omega)).setCell (p := ⟨g, k, none⟩) ugN _, fun j hj k1 k2 k3 k4 => ?_, .inl rfl, .inl rfl⟩
        rw [Below.heap_setCell _ _ _ _ (by simpa [Value.ownBlock, eq_comm] using k3), hg1.block j hj (by simpa using k2)]
      clear h1 hg1 HC y0 y1 t1 t2 tl hgl hgl'
      go_wp2
      go_ret
      exact ⟨rfl, unhide H2, unhide HF⟩

end Go.Proofs.Ytoelnioifjeakaa

/- What the other way holds behind some asks, in memory. -/
namespace Go.Proofs.Ytoelnioifjeakaa
set_option linter.unusedSimpArgs false
set_option linter.unusedVariables false
open Go.RowKit

section
variable {W : World} {N yb tb : Nat} {va vl : Value} {S : Nat} {T : List Bool} {P L : List Int} {la : Nat}
theorem Ym.kept {W' : World} {r : Option Nat} (h : Ym W N yb tb va vl S T P L la) (hg : W.grownBy W' r) (h1 : some yb ≠ r) (h2 : some tb ≠ r) (h3 : va.ownBlock = none ∨ va.ownBlock ≠ r) (h4 : vl.ownBlock = none ∨ vl.ownBlock ≠ r) : Ym W' N yb tb va vl S T P L la :=
  ⟨by rw [hg.block yb h.lt h1]; exact h.box, h.rt.kept hg (.inr h2), h.ra.kept hg h3, h.rl.kept hg h4, h.dj, h.lo⟩
/-- Behind a turn of a row of another type. -/
theorem Ym.keptR {W' : World} {base : Nat} {e : TypeId} {size : Nat} {v : Value} {n : Nat} {xs : List Value} (h : Ym W N yb tb va vl S T P L la) (hr : W.ownsRow base e size v n xs) (hg : W.grownBy W' v.ownBlock) (e1 : e ≠ 53) (e2 : e ≠ 4) (e3 : e ≠ 3) : Ym W' N yb tb va vl S T P L la := by
  obtain ⟨cs, ht⟩ := h.tat
  exact h.kept hg (fun e => row_ne hr h.box e1 e.symm) (fun e => row_ne hr ht e2 e.symm) (row_ne_row h.ra hr (fun e => e3 e.symm)) (row_ne_row h.rl hr (fun e => e3 e.symm))
/-- Behind a store in a box of another type. -/
theorem Ym.keptB {b j : Nat} {cs : Array Value} (h : Ym W N yb tb va vl S T P L la) (hb : W.heap[b]? = some (.cells cs 27)) (u : Value) : Ym (W.setCell ⟨b, j, none⟩ u) N yb tb va vl S T P L la := by
  have hne : ∀ {x : Nat} {ds : Array Value} {t : TypeId}, W.heap[x]? = some (.cells ds t) → t ≠ 27 → some x ≠ some b := fun hx ht e => by
    injection e with e
    subst e
    rw [hx] at hb
    injection hb with hb
    injection hb with _ hb
    exact ht hb
  obtain ⟨ds, ht⟩ := h.tat
  exact h.kept (grown_set W b j u) (hne h.box (by decide)) (hne ht (by decide)) (.inr (row_ne h.ra hb (by decide))) (.inr (row_ne h.rl hb (by decide)))
end

theorem told27_0 {W : World} {b : Nat} {x y z : Value} (h : W.heap[b]? = some (.cells #[x, y, z] 27)) (v : Value) : (W.setCell ⟨b, 0, none⟩ v).heap[b]? = some (.cells #[v, y, z] 27) := by
  rw [heap_setCell_same W b 0 _ 27 v h]; rfl
theorem told27_1 {W : World} {b : Nat} {x y z : Value} (h : W.heap[b]? = some (.cells #[x, y, z] 27)) (v : Value) : (W.setCell ⟨b, 1, none⟩ v).heap[b]? = some (.cells #[x, v, z] 27) := by
  rw [heap_setCell_same W b 1 _ 27 v h]; rfl
theorem told27_2 {W : World} {b : Nat} {x y z : Value} (h : W.heap[b]? = some (.cells #[x, y, z] 27)) (v : Value) : (W.setCell ⟨b, 2, none⟩ v).heap[b]? = some (.cells #[x, y, v] 27) := by
  rw [heap_setCell_same W b 2 _ 27 v h]; rfl

/-- The yard and what was told lie apart. -/
def Sep (vt va vl : Value) : Prop := ∀ j, vt.ownBlock = some j → va.ownBlock ≠ some j ∧ vl.ownBlock ≠ some j

theorem told_C {W W' : World} {N yb tb ob : Nat} {va vl vc vt v : Value} {S : Nat} {T : List Bool} {P L C A : List Int} {la : Nat} {x : Int} (h : Ym W N yb tb va vl S T P L la) (ht : Told W N ob vc vt C A)
    (hr : W'.ownsRow N 28 1 v (C.length + 1) (intsV C ++ [.int .i64 x])) (hg : W.grownBy W' vc.ownBlock) :
    W'.heap[ob]? = some (.cells #[vc, vt, .slice none 0 0] 27) ∧ Ym (W'.setCell ⟨ob, 0, none⟩ v) N yb tb va vl S T P L la ∧ Told (W'.setCell ⟨ob, 0, none⟩ v) N ob v vt (C ++ [x]) A := by
  have hbx : W'.heap[ob]? = some (.cells #[vc, vt, .slice none 0 0] 27) := by rw [hg.block ob ht.lt (fun e => row_ne ht.rc ht.box (by decide) e.symm)]; exact ht.box
  have hY := h.keptR ht.rc hg (by decide) (by decide) (by decide)
  have hra := ht.ra.kept hg (row_ne_row ht.ra ht.rc (by decide))
  have hr' : W'.ownsRow N 28 1 v (C ++ [x]).length (intsV (C ++ [x])) := by rw [intsV_snoc, List.length_append]; exact hr
  have hgs := grown_set W' ob 0 v
  exact ⟨hbx, hY.keptB hbx v, told27_0 hbx v, hr'.kept hgs (.inr (row_ne hr' hbx (by decide))), hra.kept hgs (.inr (row_ne hra hbx (by decide))), ht.lo⟩

theorem told_A {W W' : World} {N yb tb ob : Nat} {va vl vc vt v : Value} {S : Nat} {T : List Bool} {P L C A : List Int} {la : Nat} {x : Int} (h : Ym W N yb tb va vl S T P L la) (ht : Told W N ob vc vt C A) (hs : Sep vt va vl)
    (hr : W'.ownsRow N 3 1 v (A.length + 1) (intsV A ++ [.int .i64 x])) (hg : W.grownBy W' vt.ownBlock) (hat : v.ownBlock = vt.ownBlock ∨ v.ownBlock = some W.heap.size) :
    W'.heap[ob]? = some (.cells #[vc, vt, .slice none 0 0] 27) ∧ Ym (W'.setCell ⟨ob, 1, none⟩ v) N yb tb va vl S T P L la ∧ Told (W'.setCell ⟨ob, 1, none⟩ v) N ob vc v C (A ++ [x]) ∧ Sep v va vl := by
  have hbx : W'.heap[ob]? = some (.cells #[vc, vt, .slice none 0 0] 27) := by rw [hg.block ob ht.lt (fun e => row_ne ht.ra ht.box (by decide) e.symm)]; exact ht.box
  obtain ⟨cs, htt⟩ := h.tat
  have hY := h.kept hg (fun e => row_ne ht.ra h.box (by decide) e.symm) (fun e => row_ne ht.ra htt (by decide) e.symm)
    (by cases hv : va.ownBlock with
      | none => exact .inl rfl
      | some k => exact .inr (fun e => (hs k e.symm).1 hv))
    (by cases hv : vl.ownBlock with
      | none => exact .inl rfl
      | some k => exact .inr (fun e => (hs k e.symm).2 hv))
  have hrc := ht.rc.kept hg (row_ne_row ht.rc ht.ra (by decide))
  have hr' : W'.ownsRow N 3 1 v (A ++ [x]).length (intsV (A ++ [x])) := by rw [intsV_snoc, List.length_append]; exact hr
  have hgs := grown_set W' ob 1 v
  refine ⟨hbx, hY.keptB hbx v, ⟨told27_1 hbx v, hrc.kept hgs (.inr (row_ne hrc hbx (by decide))), hr'.kept hgs (.inr (row_ne hr' hbx (by decide))), ht.lo⟩, fun j hj => ?_⟩
  rcases hat with e | e
  · exact hs j (by rw [← e]; exact hj)
  · rw [e] at hj
    injection hj with hj
    exact ⟨fun e' => by have := (h.ra.lt j e').2; omega, fun e' => by have := (h.rl.lt j e').2; omega⟩

theorem row_same {W W' : World} {base : Nat} {e : TypeId} {size : Nat} {v : Value} {n : Nat} {xs : List Value} (h : W.ownsRow base e size v n xs) (hk : ∀ k, v.ownBlock = some k → W'.heap[k]? = W.heap[k]?) : W'.ownsRow base e size v n xs := by
  refine ⟨h.1, ?_⟩
  rcases h.2 with h | ⟨g, cap, cur, hv, hb, hg, h3⟩
  · exact .inl h
  · exact .inr ⟨g, cap, cur, hv, hb, by rw [hk g (by rw [hv]; rfl)]; exact hg, h3⟩

/-- What was told stays, behind a turn of the yard. -/
theorem told_yfr {W W' : World} {N yb tb ob : Nat} {va vl va' vl' vc vt : Value} {S : Nat} {T : List Bool} {P L C A : List Int} {la : Nat} (h : Ym W N yb tb va vl S T P L la) (ht : Told W N ob vc vt C A) (hs : Sep vt va vl) (hf : Yfr W W' N yb tb va vl va' vl') :
    Told W' N ob vc vt C A ∧ Sep vt va' vl' := by
  obtain ⟨cs, htt⟩ := h.tat
  have hne : ∀ {x y : Nat} {ds es : Array Value} {t u : TypeId}, W.heap[x]? = some (.cells ds t) → W.heap[y]? = some (.cells es u) → t ≠ u → x ≠ y := fun hx hy ht e => by
    subst e
    rw [hx] at hy
    injection hy with hy
    injection hy with _ hy
    exact ht hy
  refine ⟨⟨by rw [hf.rest ob ht.lt (hne ht.box h.box (by decide)) (hne ht.box htt (by decide)) (row_ne h.ra ht.box (by decide)) (row_ne h.rl ht.box (by decide))]; exact ht.box, row_same ht.rc fun k hk => ?_, row_same ht.ra fun k hk => ?_, ht.lo⟩, fun j hj => ?_⟩
  · have hl := (ht.rc.lt k hk).2
    refine hf.rest k hl (fun e => row_ne ht.rc h.box (by decide) (by rw [hk, e])) (fun e => row_ne ht.rc htt (by decide) (by rw [hk, e])) (fun e => ?_) (fun e => ?_)
    · rcases row_ne_row h.ra ht.rc (by decide) with e' | e'
      · rw [e'] at e; cases e
      · exact e' (by rw [e, hk])
    · rcases row_ne_row h.rl ht.rc (by decide) with e' | e'
      · rw [e'] at e; cases e
      · exact e' (by rw [e, hk])
  · have hl := (ht.ra.lt k hk).2
    exact hf.rest k hl (fun e => row_ne ht.ra h.box (by decide) (by rw [hk, e])) (fun e => row_ne ht.ra htt (by decide) (by rw [hk, e])) (hs k hk).1 (hs k hk).2
  · have hl := (ht.ra.lt j hj).2
    refine ⟨?_, ?_⟩
    · rcases hf.na with e | ⟨k, e, hk⟩
      · rw [e]; exact (hs j hj).1
      · rw [e]; simp; omega
    · rcases hf.nl with e | ⟨k, e, hk⟩
      · rw [e]; exact (hs j hj).2
      · rw [e]; simp; omega

/-- All of it. -/
def Fh (w0 wr : World) (N yb tb ob S K : Nat) (s : St) (n : Nat) (C A : List Int) : Prop :=
  ∃ va vl vc vt T P L la, Ym wr N yb tb va vl S T P L la ∧ Yd K s T P L ∧ Told wr N ob vc vt C A ∧ Sep vt va vl ∧ P.length ≤ n ∧ Below N w0 wr

theorem Fh.below {w0 W W' : World} {N yb tb ob S K : Nat} {s : St} {n : Nat} {C A : List Int} (h : Fh w0 W N yb tb ob S K s n C A) (hb : Below W.heap.size W W') : Fh w0 W' N yb tb ob S K s n C A := by
  obtain ⟨va, vl, vc, vt, T, P, L, la, h1, h2, h3, h4, h5, h6⟩ := h
  exact ⟨va, vl, vc, vt, T, P, L, la, h1.below hb, h2, h3.below hb, h4, h5, h6.trans (hb.mono (by have := h1.lo; have := h1.lt; omega))⟩
theorem Fh.more {w0 W : World} {N yb tb ob S K : Nat} {s : St} {n n' : Nat} {C A : List Int} (h : Fh w0 W N yb tb ob S K s n C A) (hn : n ≤ n') : Fh w0 W N yb tb ob S K s n' C A := by
  obtain ⟨va, vl, vc, vt, T, P, L, la, h1, h2, h3, h4, h5, h6⟩ := h
  exact ⟨va, vl, vc, vt, T, P, L, la, h1, h2, h3, h4, by omega, h6⟩

end Go.Proofs.Ytoelnioifjeakaa

/- Walks: Freed. -/
namespace Go.Proofs.Ytoelnioifjeakaa
set_option linter.unusedSimpArgs false
set_option linter.unusedVariables false
open Go.RowKit

theorem Try.info4 : (Try.prog.info? 4).map (fun i => (i.zero, i.size, i.bytes)) = some (some (.bool false), 1, 1) := by kernel_rfl
theorem made_bools (n : Nat) : (madeCells (Value.cells (.bool false)) (n * 1)).toList = boolsV (List.replicate n false) := by
  simp only [madeCells, boolsV, Value.cells, Nat.mul_one]
  apply List.ext_getElem
  · simp
  · intro i h1 h2
    simp [Nat.mod_one]
theorem st_of {K : Nat} {sc : List (Int × Int)} {k : Nat} {x : Int × Int} {c : Int} {a : Nat} {s' : St} (hx : sc[k]? = some x) (h : stepS K (stK K sc k) x = (c, a, s')) : codeK K sc k = c ∧ atK K sc k = a ∧ stK K sc (k + 1) = s' := by
  have hg : sc.getD k (0, 0) = x := by rw [List.getD_eq_getElem?_getD, hx]; rfl
  simp only [codeK, atK, stK, hg, h, and_self]

set_option maxRecDepth 100000 in
set_option maxHeartbeats 8000000 in
theorem freed_c (S K : Nat) (hSK : 2 ^ K = S) (hK : K ≤ 7) (pol : Int) (a : Option Addr) (c : Nat) (sc : List (Int × Int)) (w : World) (hn : sc.length ≤ 100) (hA : Asks w.heap.size w a sc) :
    Calls Try.prog 10 #[.int .i64 (S : Nat), .int .i64 pol, .bool true, .slice a sc.length c] w fun e w' => (∃ ac cc aa ca af cf, e = .returned (.agg #[.slice ac sc.length cc, .slice aa sc.length ca, .slice af ((stK K sc sc.length).bl K).length cf]) ∧ Nums w'.heap.size w' ac (codesL K sc sc.length) ∧ Nums w'.heap.size w' aa (atsL K sc sc.length) ∧ Blks w'.heap.size w' af ((stK K sc sc.length).bl K)) ∧ Below w.heap.size w w' := by
  have hS2 : S ≤ 256 := by rw [← hSK]; exact p2_le (k := K) (by omega)
  have hS1 : 1 ≤ S := by rw [← hSK]; exact two_pos K
  have hyd : Yd K startS (List.replicate S false) [] [] := by rw [← hSK]; exact yd_start
  have HSK := hide hSK
  clear hSK
  obtain ⟨i28, hi28, hx0, hx1, hx2⟩ := info_parts Try.info28
  obtain ⟨i3, hi3, hy0, hy1, hy2⟩ := info_parts Try.info3
  obtain ⟨i4, hi4, hz0, hz1, hz2⟩ := info_parts Try.info4
  obtain ⟨w0, hw0⟩ : ∃ w0, w.alloc (.cells #[.slice none 0 0, .slice none 0 0, .slice none 0 0] 27) = w0 := ⟨_, rfl⟩
  have hb0 : Below w.heap.size w w0 := by rw [← hw0]; exact (Below.refl _ _).alloc (Nat.le_refl _) _
  have hs0 : w.heap.size < w0.heap.size := by rw [← hw0]; simp
  have Hrb : Hid (w0.heap[w.heap.size]? = some (.cells #[.slice none 0 0, .slice none 0 0, .slice none 0 0] 27)) := by show _ = _; rw [← hw0]; exact heap_alloc_new _ _
  have HA : Hid (Asks w0.heap.size w0 a sc) := (hA.below hb0).mono (by omega)
  clear hA
  go_enter Try.func10, Try.ntmps10
  go_wp2_with (at_make; go_must (refine wpList_make_full _ rfl _ _ 51 rfl w0.heap.size 4 i4 _ 1 Try.underlying51 hi4 hz0 hz1 .i64 .i64 _ _ S rfl rfl rfl rfl (by rw [hz2]; omega) (by simp only [maxLen]; omega) (Nat.le_refl _) ?_); go_must (intro w5 hown5 hg5))
  rw [made_bools] at hown5
  have hs5 := hg5.size
  have htb := (hown5.lt w0.heap.size rfl).2
  have hb5 : Below w0.heap.size w0 w5 := (Below.refl _ _).grown hg5 (Nat.le_refl _) (fun k e => by cases e)
  obtain ⟨W6, hW6⟩ : ∃ W6, (w5.alloc (.cells #[.slice (some ⟨w0.heap.size, 0, none⟩) S S, .slice none 0 0, .slice none 0 0, .int .i64 0] 53)).alloc (.cells #[.slice none 0 0, .slice none 0 0, .slice none 0 0] 27) = W6 := ⟨_, rfl⟩
  have HI : Hid (Fh w0 W6 w0.heap.size w5.heap.size w0.heap.size (w5.heap.size + 1) S K startS 0 [] []) := by
    have hba : Below w5.heap.size w5 (w5.alloc (.cells #[.slice (some ⟨w0.heap.size, 0, none⟩) S S, .slice none 0 0, .slice none 0 0, .int .i64 0] 53)) := (Below.refl _ _).alloc (Nat.le_refl _) _
    have hY : Ym (w5.alloc (.cells #[.slice (some ⟨w0.heap.size, 0, none⟩) S S, .slice none 0 0, .slice none 0 0, .int .i64 0] 53)) w0.heap.size w5.heap.size w0.heap.size (.slice none 0 0) (.slice none 0 0) S (List.replicate S false) [] [] 0 :=
      ⟨heap_alloc_new _ _, ownsRow_below hown5 hba, World.ownsRow_nil _ _ _ _, World.ownsRow_nil _ _ _ _, fun k h => (by cases h), hs5⟩
    have hbb := (Below.refl (w5.alloc (.cells #[.slice (some ⟨w0.heap.size, 0, none⟩) S S, .slice none 0 0, .slice none 0 0, .int .i64 0] 53)).heap.size (w5.alloc (.cells #[.slice (some ⟨w0.heap.size, 0, none⟩) S S, .slice none 0 0, .slice none 0 0, .int .i64 0] 53))).alloc (Nat.le_refl _) (.cells #[.slice none 0 0, .slice none 0 0, .slice none 0 0] 27)
    rw [← hW6]
    refine ⟨_, _, .slice none 0 0, .slice none 0 0, _, _, _, _, hY.below hbb, hyd, ⟨?_, World.ownsRow_nil _ _ _ _, World.ownsRow_nil _ _ _ _, by omega⟩, fun j h => (by cases h), Nat.le_refl _, ?_⟩
    · have := heap_alloc_new (w5.alloc (.cells #[.slice (some ⟨w0.heap.size, 0, none⟩) S S, .slice none 0 0, .slice none 0 0, .int .i64 0] 53)) (.cells #[.slice none 0 0, .slice none 0 0, .slice none 0 0] 27)
      simpa using this
    · exact (hb5.alloc hs5 _).alloc (by simp; omega) _
  subst hW6
  go_wp2
  generalize hyb : w5.heap.size = yb at *
  generalize hN : w0.heap.size = N at *
  have HN := hide hN
  clear hown5 hg5 hb5 hN hyb hs5 htb hi4 hz0 hz1 hz2
  go_loopw [24] (fun i wr => ∃ k : Nat, k ≤ sc.length ∧ i = .int .i64 k ∧ Hid (Fh w0 wr N yb N (yb + 1) S K (stK K sc k) k (codesL K sc k) (atsL K sc k))) (fun i _ => sc.length - (intOf i).toNat)
  case atStart => exact ⟨0, Nat.zero_le _, rfl, HI⟩
  case round =>
    clear HI
    obtain ⟨k, hk, rfl, HI⟩ := hrel
    by_cases hlt : k < sc.length
    · obtain ⟨q, m, hx⟩ : ∃ q m, sc[k]? = some (q, m) := ⟨sc[k].1, sc[k].2, List.getElem?_eq_getElem hlt⟩
      have hO := hide (ok_stK K sc k)
      obtain ⟨va, vl, vc, vt, T, P, L, la, hY, hD, hT, hSp, hP, hB⟩ := unhide HI
      have hNr : N ≤ wr.heap.size := by have := hY.lo; have := hY.lt; omega
      obtain ⟨b, off, rfl, hbB, x0, x1⟩ := ((unhide HA).below hB).at hx
      have hbr : b < wr.heap.size := by omega
      have hkI : (k : Int) < (sc.length : Int) := by omega
      obtain ⟨W3, hW3⟩ : ∃ W3, wr.alloc (.cells #[.int .i64 q, .int .i64 m] 39) = W3 := ⟨_, rfl⟩
      have hb3 : Below wr.heap.size wr W3 := by rw [← hW3]; exact (Below.refl _ _).alloc (Nat.le_refl _) _
      have hm1 : wr.heap.size < W3.heap.size := by rw [← hW3]; simp
      have g0 : W3.cell? ⟨wr.heap.size, 0, none⟩ = some (.int .i64 q) := by rw [← hW3]; simp [go_sem]
      have g1 : W3.cell? ⟨wr.heap.size, 1, none⟩ = some (.int .i64 m) := by rw [← hW3]; simp [go_sem]
      have H3 : Hid (Fh w0 W3 N yb N (yb + 1) S K (stK K sc k) k (codesL K sc k) (atsL K sc k)) := (unhide HI).below hb3
      have HCs := hide (codesL_succ K sc k)
      have HAs := hide (atsL_succ K sc k)
      have HCl := hide (codesL_len K sc k)
      have HAl := hide (atsL_len K sc k)
      have HY3 := hide (hY.below hb3)
      have HT3 := hide (hT.below hb3)
      have HB3 := hide (hB.trans (hb3.mono hNr))
      have HD := hide hD
      have HSp := hide hSp
      have Hx := hide hx
      clear hY hD hT hSp hB hx HI
      by_cases hq1 : q = 1
      · subst hq1
        by_cases hb : m < 1
        · have hst := st_of (unhide Hx) (show stepS K (stK K sc k) _ = (3, 0, stK K sc k) from by unfold stepS; rw [if_pos rfl, if_pos (.inl hb)])
          have HE : Hid (codeK K sc k = 3 ∧ ((atK K sc k : Nat) : Int) = 0) := ⟨hst.1, by rw [hst.2.1]; rfl⟩
          have H5 : Hid (Fh w0 W3 N yb N (yb + 1) S K (stK K sc (k + 1)) (k + 1) (codesL K sc k) (atsL K sc k)) := by show Fh _ _ _ _ _ _ _ _ _ _ _ _; rw [hst.2.2]; exact (unhide H3).more (by omega)
          have d1 : decide (m < 1) = true := decide_eq_true hb
          clear hst H3 HY3 HT3 HB3 HD HSp hO
          obtain ⟨w5, hw5⟩ : ∃ w5, w5 = W3 := ⟨W3, rfl⟩
          subst hw5
          obtain ⟨va5, vl5, vc5, vt5, T5, P5, L5, la5, hY5, hD5, hT5, hSp5, hP5, hB5⟩ := unhide H5
          obtain ⟨ac, cc, hvc⟩ := ownsRow_slice hT5.rc
          obtain ⟨at5, ct, hvt⟩ := ownsRow_slice hT5.ra
          rw [unhide HCl] at hvc
          rw [unhide HAl] at hvt
          subst hvc hvt
          have t0 := hT5.c0
          have tf0 := hT5.fr 0
          have tlt := hT5.lt
          have hN5 : N ≤ w5.heap.size := by have := hY5.lo; have := hY5.lt; omega
          have hoN := hT5.lo
          have hrc := hT5.rc
          rw [unhide HCl] at hrc
          have HT5 := hide hT5
          have HY5 := hide hY5
          have HSp5 := hide hSp5
          have HB5 := hide hB5
          have HD5 := hide hD5
          clear hT5 hY5 hSp5 hB5 hD5 H5
          go_wp2_with (first
            | (at_builtin; refine wpList_append_own_at _ rfl _ _ 23 rfl N 28 i28 _ 1 8 Try.underlying23 hi28 hx0 hx1 hx2 rfl (by decide) _ _ _ rfl (hrc.alloc _) ⟨w5.heap.size, 0, none⟩ 1 1 [.int .i64 3] rfl rfl (cell_one_at _ _ _ _ rfl) (by simp [Value.oneCell']) (by simp only [maxLen]; omega) (by omega) (by simp; omega) ?_; go_must (intro v7 w7 hrow7 hg7 _ hat7; obtain ⟨g7, c7, hv7⟩ := ownsRow_succ hrow7; subst hv7; have hb55 : Below w5.heap.size w5 (w5.alloc (.cells #[.int .i64 3] 28)) := (Below.refl _ _).alloc (Nat.le_refl _) _; obtain ⟨hbx7, hY7, hT7⟩ := told_C (x := 3) ((unhide HY5).below hb55) ((unhide HT5).below hb55) (by rw [unhide HCl]; exact hrow7) hg7; have hq0 := cell27_0 hbx7; have hq2 := cell27_1 hbx7; have hqf := frozen_of_row w7 _ 0 _ 27 hbx7; have hq1 : yb + 1 < w7.heap.size := (Array.getElem?_eq_some_iff.1 hbx7).1; have hra := hT7.ra; rw [unhide HAl] at hra; have Hrc5 := hide hrc; have Hg7 := hide hg7; have hs7 := hg7.size; have HT7 := hide hT7; have HY7 := hide hY7; clear hT7 hY7 hrow7 hg7 hbx7 hrc hat7))
            | (at_builtin; refine wpList_append_own_at _ rfl _ _ 24 rfl N 3 i3 _ 1 8 Try.underlying24 hi3 hy0 hy1 hy2 rfl (by decide) _ _ _ rfl (hra.alloc _) ⟨w7.heap.size, 0, none⟩ 1 1 [.int .i64 0] rfl rfl (cell_one_at _ _ _ _ (by simp [World.setCell])) (by simp [Value.oneCell']) (by simp only [maxLen]; omega) (by omega) (by simp [World.setCell] at hs7 ⊢; omega) ?_; go_must (intro v9 w9 hrow9 hg9 _ hat9; obtain ⟨g9, c9, hv9⟩ := ownsRow_succ hrow9; subst hv9; have hb88 := (Below.refl (w7.setCell ⟨yb + 1, 0, none⟩ (.slice (some ⟨g7, 0, none⟩) (k + 1) c7)).heap.size (w7.setCell ⟨yb + 1, 0, none⟩ (.slice (some ⟨g7, 0, none⟩) (k + 1) c7))).alloc (Nat.le_refl _) (.cells #[.int .i64 0] 3); obtain ⟨hbx9, hY9, hT9, hSp9⟩ := told_A (x := 0) ((unhide HY7).below hb88) ((unhide HT7).below hb88) (unhide HSp5) (by rw [unhide HAl]; exact hrow9) hg9 hat9; have hu1 := cell27_1 hbx9; have huf := frozen_of_row w9 _ 1 _ 27 hbx9; have hu2 : yb + 1 < w9.heap.size := (Array.getElem?_eq_some_iff.1 hbx9).1; have Hfin : Hid (Fh w0 (w9.setCell ⟨yb + 1, 1, none⟩ (.slice (some ⟨g9, 0, none⟩) (k + 1) c9)) N yb N (yb + 1) S K (stK K sc (k + 1)) (k + 1) (codesL K sc (k + 1)) (atsL K sc (k + 1))) := ⟨_, _, _, _, _, _, _, _, hY9, unhide HD5, by rw [unhide HCs, unhide HAs, (unhide HE).1, (unhide HE).2]; exact hT9, hSp9, hP5, ((((((unhide HB5).alloc hN5 _).grown (unhide Hg7) (by simp; omega) (fun x e => ((unhide Hrc5).lt x e).1)).setCell (p := ⟨yb + 1, 0, none⟩) hoN _).alloc (by simp [World.setCell] at hs7 ⊢; omega) _).grown hg9 (by simp [World.setCell] at hs7 ⊢; omega) (fun x e => (hra.lt x e).1)).setCell (p := ⟨yb + 1, 1, none⟩) hoN _⟩; clear hT9 hY9 hrow9 hg9 hbx9 hat9 hb88)))
          go_roundw
          case rel => exact ⟨k + 1, by omega, by go_num, Hfin⟩
          case measure => simp [intOf]; omega
        · by_cases hb2 : (S : Int) < m
          · have hst := st_of (unhide Hx) (show stepS K (stK K sc k) _ = (3, 0, stK K sc k) from by unfold stepS; rw [if_pos rfl, if_pos (.inr (by rw [unhide HSK]; exact hb2))])
            have HE : Hid (codeK K sc k = 3 ∧ ((atK K sc k : Nat) : Int) = 0) := ⟨hst.1, by rw [hst.2.1]; rfl⟩
            have H5 : Hid (Fh w0 W3 N yb N (yb + 1) S K (stK K sc (k + 1)) (k + 1) (codesL K sc k) (atsL K sc k)) := by show Fh _ _ _ _ _ _ _ _ _ _ _ _; rw [hst.2.2]; exact (unhide H3).more (by omega)
            have d1 : decide (m < 1) = false := decide_eq_false hb
            have d2 : decide ((S : Int) < m) = true := decide_eq_true hb2
            clear hst H3 HY3 HT3 HB3 HD HSp hO
            obtain ⟨w5, hw5⟩ : ∃ w5, w5 = W3 := ⟨W3, rfl⟩
            subst hw5
            obtain ⟨va5, vl5, vc5, vt5, T5, P5, L5, la5, hY5, hD5, hT5, hSp5, hP5, hB5⟩ := unhide H5
            obtain ⟨ac, cc, hvc⟩ := ownsRow_slice hT5.rc
            obtain ⟨at5, ct, hvt⟩ := ownsRow_slice hT5.ra
            rw [unhide HCl] at hvc
            rw [unhide HAl] at hvt
            subst hvc hvt
            have t0 := hT5.c0
            have tf0 := hT5.fr 0
            have tlt := hT5.lt
            have hN5 : N ≤ w5.heap.size := by have := hY5.lo; have := hY5.lt; omega
            have hoN := hT5.lo
            have hrc := hT5.rc
            rw [unhide HCl] at hrc
            have HT5 := hide hT5
            have HY5 := hide hY5
            have HSp5 := hide hSp5
            have HB5 := hide hB5
            have HD5 := hide hD5
            clear hT5 hY5 hSp5 hB5 hD5 H5
            go_wp2_with (first
              | (at_builtin; refine wpList_append_own_at _ rfl _ _ 23 rfl N 28 i28 _ 1 8 Try.underlying23 hi28 hx0 hx1 hx2 rfl (by decide) _ _ _ rfl (hrc.alloc _) ⟨w5.heap.size, 0, none⟩ 1 1 [.int .i64 3] rfl rfl (cell_one_at _ _ _ _ rfl) (by simp [Value.oneCell']) (by simp only [maxLen]; omega) (by omega) (by simp; omega) ?_; go_must (intro v7 w7 hrow7 hg7 _ hat7; obtain ⟨g7, c7, hv7⟩ := ownsRow_succ hrow7; subst hv7; have hb55 : Below w5.heap.size w5 (w5.alloc (.cells #[.int .i64 3] 28)) := (Below.refl _ _).alloc (Nat.le_refl _) _; obtain ⟨hbx7, hY7, hT7⟩ := told_C (x := 3) ((unhide HY5).below hb55) ((unhide HT5).below hb55) (by rw [unhide HCl]; exact hrow7) hg7; have hq0 := cell27_0 hbx7; have hq2 := cell27_1 hbx7; have hqf := frozen_of_row w7 _ 0 _ 27 hbx7; have hq1 : yb + 1 < w7.heap.size := (Array.getElem?_eq_some_iff.1 hbx7).1; have hra := hT7.ra; rw [unhide HAl] at hra; have Hrc5 := hide hrc; have Hg7 := hide hg7; have hs7 := hg7.size; have HT7 := hide hT7; have HY7 := hide hY7; clear hT7 hY7 hrow7 hg7 hbx7 hrc hat7))
              | (at_builtin; refine wpList_append_own_at _ rfl _ _ 24 rfl N 3 i3 _ 1 8 Try.underlying24 hi3 hy0 hy1 hy2 rfl (by decide) _ _ _ rfl (hra.alloc _) ⟨w7.heap.size, 0, none⟩ 1 1 [.int .i64 0] rfl rfl (cell_one_at _ _ _ _ (by simp [World.setCell])) (by simp [Value.oneCell']) (by simp only [maxLen]; omega) (by omega) (by simp [World.setCell] at hs7 ⊢; omega) ?_; go_must (intro v9 w9 hrow9 hg9 _ hat9; obtain ⟨g9, c9, hv9⟩ := ownsRow_succ hrow9; subst hv9; have hb88 := (Below.refl (w7.setCell ⟨yb + 1, 0, none⟩ (.slice (some ⟨g7, 0, none⟩) (k + 1) c7)).heap.size (w7.setCell ⟨yb + 1, 0, none⟩ (.slice (some ⟨g7, 0, none⟩) (k + 1) c7))).alloc (Nat.le_refl _) (.cells #[.int .i64 0] 3); obtain ⟨hbx9, hY9, hT9, hSp9⟩ := told_A (x := 0) ((unhide HY7).below hb88) ((unhide HT7).below hb88) (unhide HSp5) (by rw [unhide HAl]; exact hrow9) hg9 hat9; have hu1 := cell27_1 hbx9; have huf := frozen_of_row w9 _ 1 _ 27 hbx9; have hu2 : yb + 1 < w9.heap.size := (Array.getElem?_eq_some_iff.1 hbx9).1; have Hfin : Hid (Fh w0 (w9.setCell ⟨yb + 1, 1, none⟩ (.slice (some ⟨g9, 0, none⟩) (k + 1) c9)) N yb N (yb + 1) S K (stK K sc (k + 1)) (k + 1) (codesL K sc (k + 1)) (atsL K sc (k + 1))) := ⟨_, _, _, _, _, _, _, _, hY9, unhide HD5, by rw [unhide HCs, unhide HAs, (unhide HE).1, (unhide HE).2]; exact hT9, hSp9, hP5, ((((((unhide HB5).alloc hN5 _).grown (unhide Hg7) (by simp; omega) (fun x e => ((unhide Hrc5).lt x e).1)).setCell (p := ⟨yb + 1, 0, none⟩) hoN _).alloc (by simp [World.setCell] at hs7 ⊢; omega) _).grown hg9 (by simp [World.setCell] at hs7 ⊢; omega) (fun x e => (hra.lt x e).1)).setCell (p := ⟨yb + 1, 1, none⟩) hoN _⟩; clear hT9 hY9 hrow9 hg9 hbx9 hat9 hb88)))
            go_roundw
            case rel => exact ⟨k + 1, by omega, by go_num, Hfin⟩
            case measure => simp [intOf]; omega
          · obtain ⟨n, rfl⟩ : ∃ n : Nat, m = (n : Int) := ⟨m.toNat, by omega⟩
            have hn1 : 1 ≤ n := by omega
            have d1 : decide (n < 1) = false := decide_eq_false (by omega)
            have d1' : decide ((n : Int) < 1) = false := decide_eq_false (by omega)
            have d2 : decide ((S : Int) < (n : Int)) = false := decide_eq_false hb2
            have Hc := hide (ypiece_c W3 N yb N va vl S T P L _ (unhide HY3) K hK (unhide HSK).symm n hn1 (by omega))
            rw [(unhide HD).bl] at Hc
            cases ho : bestB n ((stK K sc k).bl K) with
            | none =>
              rw [ho] at Hc
              have hst := st_of (unhide Hx) (show stepS K (stK K sc k) _ = (6, 0, stK K sc k) from by unfold stepS; rw [if_pos rfl, if_neg (by simp only; rw [unhide HSK]; omega)]; simp only [Int.toNat_natCast, ho])
              have HE : Hid (codeK K sc k = 6 ∧ ((atK K sc k : Nat) : Int) = 0) := ⟨hst.1, by rw [hst.2.1]; rfl⟩
              have Hst := hide hst.2.2
              simp only [bsA] at Hc
              clear hst HY3 HT3 HSp HB3 HD hO ho
              go_wp2_with fail
              refine (unhide Hc).mono ?_
              rintro e w5 ⟨rfl, hbn⟩
              have H5 : Hid (Fh w0 w5 N yb N (yb + 1) S K (stK K sc (k + 1)) (k + 1) (codesL K sc k) (atsL K sc k)) := by
                show Fh _ _ _ _ _ _ _ _ _ _ _ _
                rw [unhide Hst]
                exact ((unhide H3).below hbn).more (by omega)
              clear Hc g0 g1 H3 hbn Hst
              obtain ⟨va5, vl5, vc5, vt5, T5, P5, L5, la5, hY5, hD5, hT5, hSp5, hP5, hB5⟩ := unhide H5
              obtain ⟨ac, cc, hvc⟩ := ownsRow_slice hT5.rc
              obtain ⟨at5, ct, hvt⟩ := ownsRow_slice hT5.ra
              rw [unhide HCl] at hvc
              rw [unhide HAl] at hvt
              subst hvc hvt
              have t0 := hT5.c0
              have tf0 := hT5.fr 0
              have tlt := hT5.lt
              have hN5 : N ≤ w5.heap.size := by have := hY5.lo; have := hY5.lt; omega
              have hoN := hT5.lo
              have hrc := hT5.rc
              rw [unhide HCl] at hrc
              have HT5 := hide hT5
              have HY5 := hide hY5
              have HSp5 := hide hSp5
              have HB5 := hide hB5
              have HD5 := hide hD5
              clear hT5 hY5 hSp5 hB5 hD5 H5
              go_wp2_with (first
                | (at_builtin; refine wpList_append_own_at _ rfl _ _ 23 rfl N 28 i28 _ 1 8 Try.underlying23 hi28 hx0 hx1 hx2 rfl (by decide) _ _ _ rfl (hrc.alloc _) ⟨w5.heap.size, 0, none⟩ 1 1 [.int .i64 6] rfl rfl (cell_one_at _ _ _ _ rfl) (by simp [Value.oneCell']) (by simp only [maxLen]; omega) (by omega) (by simp; omega) ?_; go_must (intro v7 w7 hrow7 hg7 _ hat7; obtain ⟨g7, c7, hv7⟩ := ownsRow_succ hrow7; subst hv7; have hb55 : Below w5.heap.size w5 (w5.alloc (.cells #[.int .i64 6] 28)) := (Below.refl _ _).alloc (Nat.le_refl _) _; obtain ⟨hbx7, hY7, hT7⟩ := told_C (x := 6) ((unhide HY5).below hb55) ((unhide HT5).below hb55) (by rw [unhide HCl]; exact hrow7) hg7; have hq0 := cell27_0 hbx7; have hq2 := cell27_1 hbx7; have hqf := frozen_of_row w7 _ 0 _ 27 hbx7; have hq1 : yb + 1 < w7.heap.size := (Array.getElem?_eq_some_iff.1 hbx7).1; have hra := hT7.ra; rw [unhide HAl] at hra; have Hrc5 := hide hrc; have Hg7 := hide hg7; have hs7 := hg7.size; have HT7 := hide hT7; have HY7 := hide hY7; clear hT7 hY7 hrow7 hg7 hbx7 hrc hat7))
                | (at_builtin; refine wpList_append_own_at _ rfl _ _ 24 rfl N 3 i3 _ 1 8 Try.underlying24 hi3 hy0 hy1 hy2 rfl (by decide) _ _ _ rfl (hra.alloc _) ⟨w7.heap.size, 0, none⟩ 1 1 [.int .i64 0] rfl rfl (cell_one_at _ _ _ _ (by simp [World.setCell])) (by simp [Value.oneCell']) (by simp only [maxLen]; omega) (by omega) (by simp [World.setCell] at hs7 ⊢; omega) ?_; go_must (intro v9 w9 hrow9 hg9 _ hat9; obtain ⟨g9, c9, hv9⟩ := ownsRow_succ hrow9; subst hv9; have hb88 := (Below.refl (w7.setCell ⟨yb + 1, 0, none⟩ (.slice (some ⟨g7, 0, none⟩) (k + 1) c7)).heap.size (w7.setCell ⟨yb + 1, 0, none⟩ (.slice (some ⟨g7, 0, none⟩) (k + 1) c7))).alloc (Nat.le_refl _) (.cells #[.int .i64 0] 3); obtain ⟨hbx9, hY9, hT9, hSp9⟩ := told_A (x := 0) ((unhide HY7).below hb88) ((unhide HT7).below hb88) (unhide HSp5) (by rw [unhide HAl]; exact hrow9) hg9 hat9; have hu1 := cell27_1 hbx9; have huf := frozen_of_row w9 _ 1 _ 27 hbx9; have hu2 : yb + 1 < w9.heap.size := (Array.getElem?_eq_some_iff.1 hbx9).1; have Hfin : Hid (Fh w0 (w9.setCell ⟨yb + 1, 1, none⟩ (.slice (some ⟨g9, 0, none⟩) (k + 1) c9)) N yb N (yb + 1) S K (stK K sc (k + 1)) (k + 1) (codesL K sc (k + 1)) (atsL K sc (k + 1))) := ⟨_, _, _, _, _, _, _, _, hY9, unhide HD5, by rw [unhide HCs, unhide HAs, (unhide HE).1, (unhide HE).2]; exact hT9, hSp9, hP5, ((((((unhide HB5).alloc hN5 _).grown (unhide Hg7) (by simp; omega) (fun x e => ((unhide Hrc5).lt x e).1)).setCell (p := ⟨yb + 1, 0, none⟩) hoN _).alloc (by simp [World.setCell] at hs7 ⊢; omega) _).grown hg9 (by simp [World.setCell] at hs7 ⊢; omega) (fun x e => (hra.lt x e).1)).setCell (p := ⟨yb + 1, 1, none⟩) hoN _⟩; clear hT9 hY9 hrow9 hg9 hbx9 hat9 hb88)))
              go_roundw
              case rel => exact ⟨k + 1, by omega, by go_num, Hfin⟩
              case measure => simp [intOf]; omega
            | some b =>
              rw [ho] at Hc
              obtain ⟨p, z⟩ := b
              have hmb := best_mem ho
              obtain ⟨kk, qq, hbe, hMx, hll, hSS, hle⟩ := best_piece hmb.1 hmb.2
              simp only at hSS hle
              have hfr0 : (stK K sc k).tw p = false := ((bl_iff K _ p).1 ⟨(p, z), hmb.1, Nat.le_refl _, by have := hmb.2; simp only at this ⊢; omega⟩).2
              have hst := st_of (unhide Hx) (show stepS K (stK K sc k) _ = (0, p, takeS (stK K sc k) p (2 ^ lv n)) from by unfold stepS; rw [if_pos rfl, if_neg (by simp only; rw [unhide HSK]; omega)]; simp only [Int.toNat_natCast, ho])
              have HE : Hid (codeK K sc k = 0 ∧ ((atK K sc k : Nat) : Int) = (p : Nat)) := ⟨hst.1, by rw [hst.2.1]⟩
              have f2 : Yd K (takeS (stK K sc k) p (p2 (lv n))) (updB T (rowP p (p2 (lv n))) true) (P ++ [(p : Int)]) (L ++ [((p2 (lv n) : Nat) : Int)]) := (unhide HD).take (unhide hO) hSS hfr0
              have f1 : p + p2 (lv n) ≤ S := by rw [← unhide HSK]; exact hSS
              have hp0 : decide ((0 : Int) ≤ (p : Int)) = true := decide_eq_true (by omega)
              have Hst : Hid (stK K sc (k + 1) = takeS (stK K sc k) p (p2 (lv n))) := hst.2.2
              have Hf2 := hide f2
              have hPL := (unhide HD).pl
              simp only [bsA] at Hc
              clear hst f2 HD hO ho hmb hbe hMx hll hSS hle hfr0
              generalize p2 (lv n) = r at *
              go_wp2_with fail
              refine (unhide Hc).mono ?_
              rintro e w4 ⟨rfl, hbn⟩
              have hs4 := hbn.size
              have Hd := hide (ytake_c w4 N yb N va vl S T P L _ ((unhide HY3).below hbn) (by omega) p r f1 hS2 (by omega) (by omega))
              have HY4 := hide ((unhide HY3).below hbn)
              have HT4 := hide ((unhide HT3).below hbn)
              have HB4 := hide ((unhide HB3).trans (hbn.mono (by omega)))
              clear Hc g0 g1 HY3 HT3 HB3 hbn
              go_wp2_with fail
              refine (unhide Hd).mono ?_
              rintro e w5 ⟨rfl, va', vl', hYn, hfr⟩
              have H5 : Hid (Fh w0 w5 N yb N (yb + 1) S K (stK K sc (k + 1)) (k + 1) (codesL K sc k) (atsL K sc k)) := by
                show Fh _ _ _ _ _ _ _ _ _ _ _ _
                rw [unhide Hst]
                obtain ⟨hTn, hSn⟩ := told_yfr (unhide HY4) (unhide HT4) (unhide HSp) hfr
                exact ⟨_, _, _, _, _, _, _, _, hYn, unhide Hf2, hTn, hSn, by rw [List.length_append]; simp; omega, (unhide HB4).trans hfr.bel⟩
              clear Hd HY4 HT4 HSp HB4 hYn hfr Hf2 Hst H3
              obtain ⟨va5, vl5, vc5, vt5, T5, P5, L5, la5, hY5, hD5, hT5, hSp5, hP5, hB5⟩ := unhide H5
              obtain ⟨ac, cc, hvc⟩ := ownsRow_slice hT5.rc
              obtain ⟨at5, ct, hvt⟩ := ownsRow_slice hT5.ra
              rw [unhide HCl] at hvc
              rw [unhide HAl] at hvt
              subst hvc hvt
              have t0 := hT5.c0
              have tf0 := hT5.fr 0
              have tlt := hT5.lt
              have hN5 : N ≤ w5.heap.size := by have := hY5.lo; have := hY5.lt; omega
              have hoN := hT5.lo
              have hrc := hT5.rc
              rw [unhide HCl] at hrc
              have HT5 := hide hT5
              have HY5 := hide hY5
              have HSp5 := hide hSp5
              have HB5 := hide hB5
              have HD5 := hide hD5
              clear hT5 hY5 hSp5 hB5 hD5 H5
              go_wp2_with (first
                | (at_builtin; refine wpList_append_own_at _ rfl _ _ 23 rfl N 28 i28 _ 1 8 Try.underlying23 hi28 hx0 hx1 hx2 rfl (by decide) _ _ _ rfl (hrc.alloc _) ⟨w5.heap.size, 0, none⟩ 1 1 [.int .i64 0] rfl rfl (cell_one_at _ _ _ _ rfl) (by simp [Value.oneCell']) (by simp only [maxLen]; omega) (by omega) (by simp; omega) ?_; go_must (intro v7 w7 hrow7 hg7 _ hat7; obtain ⟨g7, c7, hv7⟩ := ownsRow_succ hrow7; subst hv7; have hb55 : Below w5.heap.size w5 (w5.alloc (.cells #[.int .i64 0] 28)) := (Below.refl _ _).alloc (Nat.le_refl _) _; obtain ⟨hbx7, hY7, hT7⟩ := told_C (x := 0) ((unhide HY5).below hb55) ((unhide HT5).below hb55) (by rw [unhide HCl]; exact hrow7) hg7; have hq0 := cell27_0 hbx7; have hq2 := cell27_1 hbx7; have hqf := frozen_of_row w7 _ 0 _ 27 hbx7; have hq1 : yb + 1 < w7.heap.size := (Array.getElem?_eq_some_iff.1 hbx7).1; have hra := hT7.ra; rw [unhide HAl] at hra; have Hrc5 := hide hrc; have Hg7 := hide hg7; have hs7 := hg7.size; have HT7 := hide hT7; have HY7 := hide hY7; clear hT7 hY7 hrow7 hg7 hbx7 hrc hat7))
                | (at_builtin; refine wpList_append_own_at _ rfl _ _ 24 rfl N 3 i3 _ 1 8 Try.underlying24 hi3 hy0 hy1 hy2 rfl (by decide) _ _ _ rfl (hra.alloc _) ⟨w7.heap.size, 0, none⟩ 1 1 [.int .i64 (p : Nat)] rfl rfl (cell_one_at _ _ _ _ (by simp [World.setCell])) (by simp [Value.oneCell']) (by simp only [maxLen]; omega) (by omega) (by simp [World.setCell] at hs7 ⊢; omega) ?_; go_must (intro v9 w9 hrow9 hg9 _ hat9; obtain ⟨g9, c9, hv9⟩ := ownsRow_succ hrow9; subst hv9; have hb88 := (Below.refl (w7.setCell ⟨yb + 1, 0, none⟩ (.slice (some ⟨g7, 0, none⟩) (k + 1) c7)).heap.size (w7.setCell ⟨yb + 1, 0, none⟩ (.slice (some ⟨g7, 0, none⟩) (k + 1) c7))).alloc (Nat.le_refl _) (.cells #[.int .i64 (p : Nat)] 3); obtain ⟨hbx9, hY9, hT9, hSp9⟩ := told_A (x := (p : Nat)) ((unhide HY7).below hb88) ((unhide HT7).below hb88) (unhide HSp5) (by rw [unhide HAl]; exact hrow9) hg9 hat9; have hu1 := cell27_1 hbx9; have huf := frozen_of_row w9 _ 1 _ 27 hbx9; have hu2 : yb + 1 < w9.heap.size := (Array.getElem?_eq_some_iff.1 hbx9).1; have Hfin : Hid (Fh w0 (w9.setCell ⟨yb + 1, 1, none⟩ (.slice (some ⟨g9, 0, none⟩) (k + 1) c9)) N yb N (yb + 1) S K (stK K sc (k + 1)) (k + 1) (codesL K sc (k + 1)) (atsL K sc (k + 1))) := ⟨_, _, _, _, _, _, _, _, hY9, unhide HD5, by rw [unhide HCs, unhide HAs, (unhide HE).1, (unhide HE).2]; exact hT9, hSp9, hP5, ((((((unhide HB5).alloc hN5 _).grown (unhide Hg7) (by simp; omega) (fun x e => ((unhide Hrc5).lt x e).1)).setCell (p := ⟨yb + 1, 0, none⟩) hoN _).alloc (by simp [World.setCell] at hs7 ⊢; omega) _).grown hg9 (by simp [World.setCell] at hs7 ⊢; omega) (fun x e => (hra.lt x e).1)).setCell (p := ⟨yb + 1, 1, none⟩) hoN _⟩; clear hT9 hY9 hrow9 hg9 hbx9 hat9 hb88)))
              go_roundw
              case rel => exact ⟨k + 1, by omega, by go_num, Hfin⟩
              case measure => simp [intOf]; omega
      · by_cases hq2 : q = 2
        · subst hq2
          cases htk : (stK K sc k).tk m with
          | none =>
            by_cases hm0 : 0 ≤ m
            · have hst := st_of (unhide Hx) (show stepS K (stK K sc k) _ = (2, 0, stK K sc k) from by unfold stepS; rw [if_neg (show ¬ (2 : Int) = 1 by decide), if_pos rfl]; simp only [htk])
              have HE : Hid (codeK K sc k = 2 ∧ ((atK K sc k : Nat) : Int) = 0) := ⟨hst.1, by rw [hst.2.1]; rfl⟩
              have H5' : Hid (Fh w0 W3 N yb N (yb + 1) S K (stK K sc (k + 1)) (k + 1) (codesL K sc k) (atsL K sc k)) := by show Fh _ _ _ _ _ _ _ _ _ _ _ _; rw [hst.2.2]; exact (unhide H3).more (by omega)
              have d1 : decide (0 ≤ m) = true := decide_eq_true hm0
              have Hc := hide (ygive_no W3 N yb N va vl S T P L _ (unhide HY3) (by omega) m (fun i hi => by obtain ⟨n, h1, _⟩ := (unhide HD).to i m hi hm0; rw [htk] at h1; cases h1))
              clear hst H3 HT3 HB3 HD HSp hO HY3 htk
              go_wp2_with fail
              refine (unhide Hc).mono ?_
              rintro e w5 ⟨rfl, rfl⟩
              have H5 := hide (unhide H5')
              clear Hc H5' g0 g1
              obtain ⟨va5, vl5, vc5, vt5, T5, P5, L5, la5, hY5, hD5, hT5, hSp5, hP5, hB5⟩ := unhide H5
              obtain ⟨ac, cc, hvc⟩ := ownsRow_slice hT5.rc
              obtain ⟨at5, ct, hvt⟩ := ownsRow_slice hT5.ra
              rw [unhide HCl] at hvc
              rw [unhide HAl] at hvt
              subst hvc hvt
              have t0 := hT5.c0
              have tf0 := hT5.fr 0
              have tlt := hT5.lt
              have hN5 : N ≤ w5.heap.size := by have := hY5.lo; have := hY5.lt; omega
              have hoN := hT5.lo
              have hrc := hT5.rc
              rw [unhide HCl] at hrc
              have HT5 := hide hT5
              have HY5 := hide hY5
              have HSp5 := hide hSp5
              have HB5 := hide hB5
              have HD5 := hide hD5
              clear hT5 hY5 hSp5 hB5 hD5 H5
              go_wp2_with (first
                | (at_builtin; refine wpList_append_own_at _ rfl _ _ 23 rfl N 28 i28 _ 1 8 Try.underlying23 hi28 hx0 hx1 hx2 rfl (by decide) _ _ _ rfl (hrc.alloc _) ⟨w5.heap.size, 0, none⟩ 1 1 [.int .i64 2] rfl rfl (cell_one_at _ _ _ _ rfl) (by simp [Value.oneCell']) (by simp only [maxLen]; omega) (by omega) (by simp; omega) ?_; go_must (intro v7 w7 hrow7 hg7 _ hat7; obtain ⟨g7, c7, hv7⟩ := ownsRow_succ hrow7; subst hv7; have hb55 : Below w5.heap.size w5 (w5.alloc (.cells #[.int .i64 2] 28)) := (Below.refl _ _).alloc (Nat.le_refl _) _; obtain ⟨hbx7, hY7, hT7⟩ := told_C (x := 2) ((unhide HY5).below hb55) ((unhide HT5).below hb55) (by rw [unhide HCl]; exact hrow7) hg7; have hq0 := cell27_0 hbx7; have hq2 := cell27_1 hbx7; have hqf := frozen_of_row w7 _ 0 _ 27 hbx7; have hq1 : yb + 1 < w7.heap.size := (Array.getElem?_eq_some_iff.1 hbx7).1; have hra := hT7.ra; rw [unhide HAl] at hra; have Hrc5 := hide hrc; have Hg7 := hide hg7; have hs7 := hg7.size; have HT7 := hide hT7; have HY7 := hide hY7; clear hT7 hY7 hrow7 hg7 hbx7 hrc hat7))
                | (at_builtin; refine wpList_append_own_at _ rfl _ _ 24 rfl N 3 i3 _ 1 8 Try.underlying24 hi3 hy0 hy1 hy2 rfl (by decide) _ _ _ rfl (hra.alloc _) ⟨w7.heap.size, 0, none⟩ 1 1 [.int .i64 0] rfl rfl (cell_one_at _ _ _ _ (by simp [World.setCell])) (by simp [Value.oneCell']) (by simp only [maxLen]; omega) (by omega) (by simp [World.setCell] at hs7 ⊢; omega) ?_; go_must (intro v9 w9 hrow9 hg9 _ hat9; obtain ⟨g9, c9, hv9⟩ := ownsRow_succ hrow9; subst hv9; have hb88 := (Below.refl (w7.setCell ⟨yb + 1, 0, none⟩ (.slice (some ⟨g7, 0, none⟩) (k + 1) c7)).heap.size (w7.setCell ⟨yb + 1, 0, none⟩ (.slice (some ⟨g7, 0, none⟩) (k + 1) c7))).alloc (Nat.le_refl _) (.cells #[.int .i64 0] 3); obtain ⟨hbx9, hY9, hT9, hSp9⟩ := told_A (x := 0) ((unhide HY7).below hb88) ((unhide HT7).below hb88) (unhide HSp5) (by rw [unhide HAl]; exact hrow9) hg9 hat9; have hu1 := cell27_1 hbx9; have huf := frozen_of_row w9 _ 1 _ 27 hbx9; have hu2 : yb + 1 < w9.heap.size := (Array.getElem?_eq_some_iff.1 hbx9).1; have Hfin : Hid (Fh w0 (w9.setCell ⟨yb + 1, 1, none⟩ (.slice (some ⟨g9, 0, none⟩) (k + 1) c9)) N yb N (yb + 1) S K (stK K sc (k + 1)) (k + 1) (codesL K sc (k + 1)) (atsL K sc (k + 1))) := ⟨_, _, _, _, _, _, _, _, hY9, unhide HD5, by rw [unhide HCs, unhide HAs, (unhide HE).1, (unhide HE).2]; exact hT9, hSp9, hP5, ((((((unhide HB5).alloc hN5 _).grown (unhide Hg7) (by simp; omega) (fun x e => ((unhide Hrc5).lt x e).1)).setCell (p := ⟨yb + 1, 0, none⟩) hoN _).alloc (by simp [World.setCell] at hs7 ⊢; omega) _).grown hg9 (by simp [World.setCell] at hs7 ⊢; omega) (fun x e => (hra.lt x e).1)).setCell (p := ⟨yb + 1, 1, none⟩) hoN _⟩; clear hT9 hY9 hrow9 hg9 hbx9 hat9 hb88)))
              go_roundw
              case rel => exact ⟨k + 1, by omega, by go_num, Hfin⟩
              case measure => simp [intOf]; omega
            · have hst := st_of (unhide Hx) (show stepS K (stK K sc k) _ = (2, 0, stK K sc k) from by unfold stepS; rw [if_neg (show ¬ (2 : Int) = 1 by decide), if_pos rfl]; simp only [htk])
              have HE : Hid (codeK K sc k = 2 ∧ ((atK K sc k : Nat) : Int) = 0) := ⟨hst.1, by rw [hst.2.1]; rfl⟩
              have H5 : Hid (Fh w0 W3 N yb N (yb + 1) S K (stK K sc (k + 1)) (k + 1) (codesL K sc k) (atsL K sc k)) := by show Fh _ _ _ _ _ _ _ _ _ _ _ _; rw [hst.2.2]; exact (unhide H3).more (by omega)
              have d1 : decide (0 ≤ m) = false := decide_eq_false hm0
              clear hst H3 HY3 HT3 HB3 HD HSp hO
              obtain ⟨w5, hw5⟩ : ∃ w5, w5 = W3 := ⟨W3, rfl⟩
              subst hw5
              obtain ⟨va5, vl5, vc5, vt5, T5, P5, L5, la5, hY5, hD5, hT5, hSp5, hP5, hB5⟩ := unhide H5
              obtain ⟨ac, cc, hvc⟩ := ownsRow_slice hT5.rc
              obtain ⟨at5, ct, hvt⟩ := ownsRow_slice hT5.ra
              rw [unhide HCl] at hvc
              rw [unhide HAl] at hvt
              subst hvc hvt
              have t0 := hT5.c0
              have tf0 := hT5.fr 0
              have tlt := hT5.lt
              have hN5 : N ≤ w5.heap.size := by have := hY5.lo; have := hY5.lt; omega
              have hoN := hT5.lo
              have hrc := hT5.rc
              rw [unhide HCl] at hrc
              have HT5 := hide hT5
              have HY5 := hide hY5
              have HSp5 := hide hSp5
              have HB5 := hide hB5
              have HD5 := hide hD5
              clear hT5 hY5 hSp5 hB5 hD5 H5
              go_wp2_with (first
                | (at_builtin; refine wpList_append_own_at _ rfl _ _ 23 rfl N 28 i28 _ 1 8 Try.underlying23 hi28 hx0 hx1 hx2 rfl (by decide) _ _ _ rfl (hrc.alloc _) ⟨w5.heap.size, 0, none⟩ 1 1 [.int .i64 2] rfl rfl (cell_one_at _ _ _ _ rfl) (by simp [Value.oneCell']) (by simp only [maxLen]; omega) (by omega) (by simp; omega) ?_; go_must (intro v7 w7 hrow7 hg7 _ hat7; obtain ⟨g7, c7, hv7⟩ := ownsRow_succ hrow7; subst hv7; have hb55 : Below w5.heap.size w5 (w5.alloc (.cells #[.int .i64 2] 28)) := (Below.refl _ _).alloc (Nat.le_refl _) _; obtain ⟨hbx7, hY7, hT7⟩ := told_C (x := 2) ((unhide HY5).below hb55) ((unhide HT5).below hb55) (by rw [unhide HCl]; exact hrow7) hg7; have hq0 := cell27_0 hbx7; have hq2 := cell27_1 hbx7; have hqf := frozen_of_row w7 _ 0 _ 27 hbx7; have hq1 : yb + 1 < w7.heap.size := (Array.getElem?_eq_some_iff.1 hbx7).1; have hra := hT7.ra; rw [unhide HAl] at hra; have Hrc5 := hide hrc; have Hg7 := hide hg7; have hs7 := hg7.size; have HT7 := hide hT7; have HY7 := hide hY7; clear hT7 hY7 hrow7 hg7 hbx7 hrc hat7))
                | (at_builtin; refine wpList_append_own_at _ rfl _ _ 24 rfl N 3 i3 _ 1 8 Try.underlying24 hi3 hy0 hy1 hy2 rfl (by decide) _ _ _ rfl (hra.alloc _) ⟨w7.heap.size, 0, none⟩ 1 1 [.int .i64 0] rfl rfl (cell_one_at _ _ _ _ (by simp [World.setCell])) (by simp [Value.oneCell']) (by simp only [maxLen]; omega) (by omega) (by simp [World.setCell] at hs7 ⊢; omega) ?_; go_must (intro v9 w9 hrow9 hg9 _ hat9; obtain ⟨g9, c9, hv9⟩ := ownsRow_succ hrow9; subst hv9; have hb88 := (Below.refl (w7.setCell ⟨yb + 1, 0, none⟩ (.slice (some ⟨g7, 0, none⟩) (k + 1) c7)).heap.size (w7.setCell ⟨yb + 1, 0, none⟩ (.slice (some ⟨g7, 0, none⟩) (k + 1) c7))).alloc (Nat.le_refl _) (.cells #[.int .i64 0] 3); obtain ⟨hbx9, hY9, hT9, hSp9⟩ := told_A (x := 0) ((unhide HY7).below hb88) ((unhide HT7).below hb88) (unhide HSp5) (by rw [unhide HAl]; exact hrow9) hg9 hat9; have hu1 := cell27_1 hbx9; have huf := frozen_of_row w9 _ 1 _ 27 hbx9; have hu2 : yb + 1 < w9.heap.size := (Array.getElem?_eq_some_iff.1 hbx9).1; have Hfin : Hid (Fh w0 (w9.setCell ⟨yb + 1, 1, none⟩ (.slice (some ⟨g9, 0, none⟩) (k + 1) c9)) N yb N (yb + 1) S K (stK K sc (k + 1)) (k + 1) (codesL K sc (k + 1)) (atsL K sc (k + 1))) := ⟨_, _, _, _, _, _, _, _, hY9, unhide HD5, by rw [unhide HCs, unhide HAs, (unhide HE).1, (unhide HE).2]; exact hT9, hSp9, hP5, ((((((unhide HB5).alloc hN5 _).grown (unhide Hg7) (by simp; omega) (fun x e => ((unhide Hrc5).lt x e).1)).setCell (p := ⟨yb + 1, 0, none⟩) hoN _).alloc (by simp [World.setCell] at hs7 ⊢; omega) _).grown hg9 (by simp [World.setCell] at hs7 ⊢; omega) (fun x e => (hra.lt x e).1)).setCell (p := ⟨yb + 1, 1, none⟩) hoN _⟩; clear hT9 hY9 hrow9 hg9 hbx9 hat9 hb88)))
              go_roundw
              case rel => exact ⟨k + 1, by omega, by go_num, Hfin⟩
              case measure => simp [intOf]; omega
          | some n =>
            obtain ⟨p, rfl⟩ : ∃ p : Nat, m = (p : Int) := ⟨m.toNat, by have := ((unhide hO).tk htk).1; omega⟩
            have hst := st_of (unhide Hx) (step_give htk)
            have HE : Hid (codeK K sc k = 0 ∧ ((atK K sc k : Nat) : Int) = 0) := ⟨hst.1, by rw [hst.2.1]; rfl⟩
            have d1 : decide ((0 : Int) ≤ (p : Int)) = true := decide_eq_true (by omega)
            obtain ⟨i, hi⟩ := (unhide HD).of _ _ htk
            obtain ⟨f1, f2, f3⟩ := (unhide HD).give (unhide hO) htk hi
            have Hc := hide (ygive_yes W3 N yb N va vl S T P L _ (unhide HY3) (by omega) (by omega) (unhide HD).pl hS2 p n i hi f2 (by rw [← unhide HSK]; exact f1) (fun j hj e => by have := (unhide HD).one j i _ e hi (by omega); omega))
            have Hf3 := hide f3
            have Hst := hide hst.2.2
            clear hst H3 f1 f2 f3 hi htk HD hO
            go_wp2_with fail
            refine (unhide Hc).mono ?_
            rintro e w5 ⟨rfl, hYn, hfr⟩
            have H5 : Hid (Fh w0 w5 N yb N (yb + 1) S K (stK K sc (k + 1)) (k + 1) (codesL K sc k) (atsL K sc k)) := by
              show Fh _ _ _ _ _ _ _ _ _ _ _ _
              rw [unhide Hst]
              obtain ⟨hTn, hSn⟩ := told_yfr (unhide HY3) (unhide HT3) (unhide HSp) hfr
              exact ⟨_, _, _, _, _, _, _, _, hYn, unhide Hf3, hTn, hSn, by rw [List.length_set]; omega, (unhide HB3).trans hfr.bel⟩
            clear Hc g0 g1 HY3 HT3 HSp HB3 hYn hfr Hf3 Hst
            obtain ⟨va5, vl5, vc5, vt5, T5, P5, L5, la5, hY5, hD5, hT5, hSp5, hP5, hB5⟩ := unhide H5
            obtain ⟨ac, cc, hvc⟩ := ownsRow_slice hT5.rc
            obtain ⟨at5, ct, hvt⟩ := ownsRow_slice hT5.ra
            rw [unhide HCl] at hvc
            rw [unhide HAl] at hvt
            subst hvc hvt
            have t0 := hT5.c0
            have tf0 := hT5.fr 0
            have tlt := hT5.lt
            have hN5 : N ≤ w5.heap.size := by have := hY5.lo; have := hY5.lt; omega
            have hoN := hT5.lo
            have hrc := hT5.rc
            rw [unhide HCl] at hrc
            have HT5 := hide hT5
            have HY5 := hide hY5
            have HSp5 := hide hSp5
            have HB5 := hide hB5
            have HD5 := hide hD5
            clear hT5 hY5 hSp5 hB5 hD5 H5
            go_wp2_with (first
              | (at_builtin; refine wpList_append_own_at _ rfl _ _ 23 rfl N 28 i28 _ 1 8 Try.underlying23 hi28 hx0 hx1 hx2 rfl (by decide) _ _ _ rfl (hrc.alloc _) ⟨w5.heap.size, 0, none⟩ 1 1 [.int .i64 0] rfl rfl (cell_one_at _ _ _ _ rfl) (by simp [Value.oneCell']) (by simp only [maxLen]; omega) (by omega) (by simp; omega) ?_; go_must (intro v7 w7 hrow7 hg7 _ hat7; obtain ⟨g7, c7, hv7⟩ := ownsRow_succ hrow7; subst hv7; have hb55 : Below w5.heap.size w5 (w5.alloc (.cells #[.int .i64 0] 28)) := (Below.refl _ _).alloc (Nat.le_refl _) _; obtain ⟨hbx7, hY7, hT7⟩ := told_C (x := 0) ((unhide HY5).below hb55) ((unhide HT5).below hb55) (by rw [unhide HCl]; exact hrow7) hg7; have hq0 := cell27_0 hbx7; have hq2 := cell27_1 hbx7; have hqf := frozen_of_row w7 _ 0 _ 27 hbx7; have hq1 : yb + 1 < w7.heap.size := (Array.getElem?_eq_some_iff.1 hbx7).1; have hra := hT7.ra; rw [unhide HAl] at hra; have Hrc5 := hide hrc; have Hg7 := hide hg7; have hs7 := hg7.size; have HT7 := hide hT7; have HY7 := hide hY7; clear hT7 hY7 hrow7 hg7 hbx7 hrc hat7))
              | (at_builtin; refine wpList_append_own_at _ rfl _ _ 24 rfl N 3 i3 _ 1 8 Try.underlying24 hi3 hy0 hy1 hy2 rfl (by decide) _ _ _ rfl (hra.alloc _) ⟨w7.heap.size, 0, none⟩ 1 1 [.int .i64 0] rfl rfl (cell_one_at _ _ _ _ (by simp [World.setCell])) (by simp [Value.oneCell']) (by simp only [maxLen]; omega) (by omega) (by simp [World.setCell] at hs7 ⊢; omega) ?_; go_must (intro v9 w9 hrow9 hg9 _ hat9; obtain ⟨g9, c9, hv9⟩ := ownsRow_succ hrow9; subst hv9; have hb88 := (Below.refl (w7.setCell ⟨yb + 1, 0, none⟩ (.slice (some ⟨g7, 0, none⟩) (k + 1) c7)).heap.size (w7.setCell ⟨yb + 1, 0, none⟩ (.slice (some ⟨g7, 0, none⟩) (k + 1) c7))).alloc (Nat.le_refl _) (.cells #[.int .i64 0] 3); obtain ⟨hbx9, hY9, hT9, hSp9⟩ := told_A (x := 0) ((unhide HY7).below hb88) ((unhide HT7).below hb88) (unhide HSp5) (by rw [unhide HAl]; exact hrow9) hg9 hat9; have hu1 := cell27_1 hbx9; have huf := frozen_of_row w9 _ 1 _ 27 hbx9; have hu2 : yb + 1 < w9.heap.size := (Array.getElem?_eq_some_iff.1 hbx9).1; have Hfin : Hid (Fh w0 (w9.setCell ⟨yb + 1, 1, none⟩ (.slice (some ⟨g9, 0, none⟩) (k + 1) c9)) N yb N (yb + 1) S K (stK K sc (k + 1)) (k + 1) (codesL K sc (k + 1)) (atsL K sc (k + 1))) := ⟨_, _, _, _, _, _, _, _, hY9, unhide HD5, by rw [unhide HCs, unhide HAs, (unhide HE).1, (unhide HE).2]; exact hT9, hSp9, hP5, ((((((unhide HB5).alloc hN5 _).grown (unhide Hg7) (by simp; omega) (fun x e => ((unhide Hrc5).lt x e).1)).setCell (p := ⟨yb + 1, 0, none⟩) hoN _).alloc (by simp [World.setCell] at hs7 ⊢; omega) _).grown hg9 (by simp [World.setCell] at hs7 ⊢; omega) (fun x e => (hra.lt x e).1)).setCell (p := ⟨yb + 1, 1, none⟩) hoN _⟩; clear hT9 hY9 hrow9 hg9 hbx9 hat9 hb88)))
            go_roundw
            case rel => exact ⟨k + 1, by omega, by go_num, Hfin⟩
            case measure => simp [intOf]; omega
        · have hst := st_of (unhide Hx) (show stepS K (stK K sc k) _ = (5, 0, stK K sc k) from by unfold stepS; rw [if_neg hq1, if_neg hq2])
          have HE : Hid (codeK K sc k = 5 ∧ ((atK K sc k : Nat) : Int) = 0) := ⟨hst.1, by rw [hst.2.1]; rfl⟩
          have H5 : Hid (Fh w0 W3 N yb N (yb + 1) S K (stK K sc (k + 1)) (k + 1) (codesL K sc k) (atsL K sc k)) := by show Fh _ _ _ _ _ _ _ _ _ _ _ _; rw [hst.2.2]; exact (unhide H3).more (by omega)
          have s1 : (q == 1) = false := by simp [hq1]
          have s2 : (q == 2) = false := by simp [hq2]
          clear hst H3 HY3 HT3 HB3 HD HSp hO
          obtain ⟨w5, hw5⟩ : ∃ w5, w5 = W3 := ⟨W3, rfl⟩
          subst hw5
          obtain ⟨va5, vl5, vc5, vt5, T5, P5, L5, la5, hY5, hD5, hT5, hSp5, hP5, hB5⟩ := unhide H5
          obtain ⟨ac, cc, hvc⟩ := ownsRow_slice hT5.rc
          obtain ⟨at5, ct, hvt⟩ := ownsRow_slice hT5.ra
          rw [unhide HCl] at hvc
          rw [unhide HAl] at hvt
          subst hvc hvt
          have t0 := hT5.c0
          have tf0 := hT5.fr 0
          have tlt := hT5.lt
          have hN5 : N ≤ w5.heap.size := by have := hY5.lo; have := hY5.lt; omega
          have hoN := hT5.lo
          have hrc := hT5.rc
          rw [unhide HCl] at hrc
          have HT5 := hide hT5
          have HY5 := hide hY5
          have HSp5 := hide hSp5
          have HB5 := hide hB5
          have HD5 := hide hD5
          clear hT5 hY5 hSp5 hB5 hD5 H5
          go_wp2_with (first
            | (at_builtin; refine wpList_append_own_at _ rfl _ _ 23 rfl N 28 i28 _ 1 8 Try.underlying23 hi28 hx0 hx1 hx2 rfl (by decide) _ _ _ rfl (hrc.alloc _) ⟨w5.heap.size, 0, none⟩ 1 1 [.int .i64 5] rfl rfl (cell_one_at _ _ _ _ rfl) (by simp [Value.oneCell']) (by simp only [maxLen]; omega) (by omega) (by simp; omega) ?_; go_must (intro v7 w7 hrow7 hg7 _ hat7; obtain ⟨g7, c7, hv7⟩ := ownsRow_succ hrow7; subst hv7; have hb55 : Below w5.heap.size w5 (w5.alloc (.cells #[.int .i64 5] 28)) := (Below.refl _ _).alloc (Nat.le_refl _) _; obtain ⟨hbx7, hY7, hT7⟩ := told_C (x := 5) ((unhide HY5).below hb55) ((unhide HT5).below hb55) (by rw [unhide HCl]; exact hrow7) hg7; have hq0 := cell27_0 hbx7; have hq2 := cell27_1 hbx7; have hqf := frozen_of_row w7 _ 0 _ 27 hbx7; have hq1 : yb + 1 < w7.heap.size := (Array.getElem?_eq_some_iff.1 hbx7).1; have hra := hT7.ra; rw [unhide HAl] at hra; have Hrc5 := hide hrc; have Hg7 := hide hg7; have hs7 := hg7.size; have HT7 := hide hT7; have HY7 := hide hY7; clear hT7 hY7 hrow7 hg7 hbx7 hrc hat7))
            | (at_builtin; refine wpList_append_own_at _ rfl _ _ 24 rfl N 3 i3 _ 1 8 Try.underlying24 hi3 hy0 hy1 hy2 rfl (by decide) _ _ _ rfl (hra.alloc _) ⟨w7.heap.size, 0, none⟩ 1 1 [.int .i64 0] rfl rfl (cell_one_at _ _ _ _ (by simp [World.setCell])) (by simp [Value.oneCell']) (by simp only [maxLen]; omega) (by omega) (by simp [World.setCell] at hs7 ⊢; omega) ?_; go_must (intro v9 w9 hrow9 hg9 _ hat9; obtain ⟨g9, c9, hv9⟩ := ownsRow_succ hrow9; subst hv9; have hb88 := (Below.refl (w7.setCell ⟨yb + 1, 0, none⟩ (.slice (some ⟨g7, 0, none⟩) (k + 1) c7)).heap.size (w7.setCell ⟨yb + 1, 0, none⟩ (.slice (some ⟨g7, 0, none⟩) (k + 1) c7))).alloc (Nat.le_refl _) (.cells #[.int .i64 0] 3); obtain ⟨hbx9, hY9, hT9, hSp9⟩ := told_A (x := 0) ((unhide HY7).below hb88) ((unhide HT7).below hb88) (unhide HSp5) (by rw [unhide HAl]; exact hrow9) hg9 hat9; have hu1 := cell27_1 hbx9; have huf := frozen_of_row w9 _ 1 _ 27 hbx9; have hu2 : yb + 1 < w9.heap.size := (Array.getElem?_eq_some_iff.1 hbx9).1; have Hfin : Hid (Fh w0 (w9.setCell ⟨yb + 1, 1, none⟩ (.slice (some ⟨g9, 0, none⟩) (k + 1) c9)) N yb N (yb + 1) S K (stK K sc (k + 1)) (k + 1) (codesL K sc (k + 1)) (atsL K sc (k + 1))) := ⟨_, _, _, _, _, _, _, _, hY9, unhide HD5, by rw [unhide HCs, unhide HAs, (unhide HE).1, (unhide HE).2]; exact hT9, hSp9, hP5, ((((((unhide HB5).alloc hN5 _).grown (unhide Hg7) (by simp; omega) (fun x e => ((unhide Hrc5).lt x e).1)).setCell (p := ⟨yb + 1, 0, none⟩) hoN _).alloc (by simp [World.setCell] at hs7 ⊢; omega) _).grown hg9 (by simp [World.setCell] at hs7 ⊢; omega) (fun x e => (hra.lt x e).1)).setCell (p := ⟨yb + 1, 1, none⟩) hoN _⟩; clear hT9 hY9 hrow9 hg9 hbx9 hat9 hb88)))
          go_roundw
          case rel => exact ⟨k + 1, by omega, by go_num, Hfin⟩
          case measure => simp [intOf]; omega
    · obtain rfl : k = sc.length := by omega
      obtain ⟨va, vl, vc, vt, T, P, L, la, hY, hD, hT, hSp, hP, hB⟩ := unhide HI
      have hNr : N ≤ wr.heap.size := by have := hY.lo; have := hY.lt; omega
      have Hc := hide (yblocks_c wr N yb N va vl S T P L _ hY hS2)
      have Hbl := hide hD.bl
      have hFl : ((stK K sc sc.length).bl K).length ≤ 256 := by have := bl_len K (stK K sc sc.length); have := unhide HSK; omega
      have HCl := hide (codesL_len K sc sc.length)
      have HAl := hide (atsL_len K sc sc.length)
      obtain ⟨ac, cc, hvc⟩ := ownsRow_slice hT.rc
      obtain ⟨aa, ca, hvt⟩ := ownsRow_slice hT.ra
      rw [unhide HCl] at hvc
      rw [unhide HAl] at hvt
      subst hvc hvt
      have HT := hide hT
      have HY := hide hY
      have HB := hide hB
      clear hY hD hT hSp hB HI
      go_wp2_with fail
      refine (unhide Hc).mono ?_
      rintro e w5 ⟨⟨af, cf, rfl, _, _⟩, hb5⟩
      have hs5 := hb5.size
      have hT5 := (unhide HT).below hb5
      have hY5 := (unhide HY).below hb5
      have hbe := (unhide HB).trans (hb5.mono hNr)
      have hrb5 : w5.heap[w.heap.size]? = some (.cells #[.slice none 0 0, .slice none 0 0, .slice none 0 0] 27) := by rw [hbe.block _ (by omega)]; exact unhide Hrb
      have hob : N ≤ yb + 1 := hT5.lo
      have hobl := (unhide HT).lt
      have hbw : Below w.heap.size w w5 := hb0.trans (hbe.mono (by omega))
      have u2 := hT5.c2
      have uf2 := hT5.fr 2
      have ult := hT5.lt
      generalize (blkK T S).length = nb at *
      have hY6 := hY5.keptB (j := 2) hT5.box (.slice af nb cf)
      have hbx6 := told27_2 hT5.box (.slice af nb cf)
      have hrc6 := row_set hT5.rc ⟨_, hT5.box⟩ (by decide) 2 (.slice af nb cf)
      have hra6 := row_set hT5.ra ⟨_, hT5.box⟩ (by decide) 2 (.slice af nb cf)
      have hrb6 : (w5.setCell ⟨yb + 1, 2, none⟩ (.slice af nb cf)).heap[w.heap.size]? = some (.cells #[.slice none 0 0, .slice none 0 0, .slice none 0 0] 27) := by rw [Below.heap_setCell _ _ _ _ (by simp only; omega)]; exact hrb5
      have hbw6 : Below w.heap.size w (w5.setCell ⟨yb + 1, 2, none⟩ (.slice af nb cf)) := hbw.setCell (p := ⟨yb + 1, 2, none⟩) (by simp only; omega) _
      have hs6 : (w5.setCell ⟨yb + 1, 2, none⟩ (.slice af nb cf)).heap.size = w5.heap.size := by simp [World.setCell]
      have Hc2 := hide (ypieces_c N yb N va vl S T P L la hS2 K hK _ 0 hY6 (by rw [Nat.zero_add]; exact Nat.le_of_eq (unhide HSK)))
      rw [unhide Hbl, show p2 K = S from unhide HSK] at Hc2
      have Hrc6 := hide hrc6
      have Hra6 := hide hra6
      have Hbx6 := hide hbx6
      have Hrb6 := hide hrb6
      have Hbw6 := hide hbw6
      clear hT5 hY5 hbe hrb5 Hc hb5 hY6 hrc6 hra6 hbx6 hrb6 hbw6 HT HY HB Hbl hbw
      generalize hFF : (stK K sc sc.length).bl K = F at *
      have HFF := hide hFF
      clear hFF
      go_wp2_with fail
      refine (unhide Hc2).mono ?_
      rintro e w7 ⟨v7, rfl, hr7, hb7⟩
      obtain ⟨a7, c7, hv7⟩ := ownsRow_slice hr7
      subst hv7
      have hs7 := hb7.size
      have hbx7 : w7.heap[yb + 1]? = some (.cells #[.slice ac sc.length cc, .slice aa sc.length ca, .slice af nb cf] 27) := by rw [hb7.block _ (by rw [hs6]; exact ult)]; exact unhide Hbx6
      have hrb : w7.heap[w.heap.size]? = some (.cells #[.slice none 0 0, .slice none 0 0, .slice none 0 0] 27) := by rw [hb7.block _ (by rw [hs6]; omega)]; exact unhide Hrb6
      have hrc7 := ownsRow_below (unhide Hrc6) hb7
      have hra7 := ownsRow_below (unhide Hra6) hb7
      have hbw7 : Below w.heap.size w w7 := (unhide Hbw6).trans (hb7.mono (by rw [hs6]; omega))
      have Hfin : Hid (∀ W, W = (((w7.setCell ⟨yb + 1, 2, none⟩ (.slice a7 F.length c7)).setCell ⟨w.heap.size, 0, none⟩ (.slice ac sc.length cc)).setCell ⟨w.heap.size, 1, none⟩ (.slice aa sc.length ca)).setCell ⟨w.heap.size, 2, none⟩ (.slice a7 F.length c7) →
          (∃ ac' cc' aa' ca' af' cf', Ending.returned (.agg #[.slice ac sc.length cc, .slice aa sc.length ca, .slice a7 F.length c7]) = .returned (.agg #[.slice ac' sc.length cc', .slice aa' sc.length ca', .slice af' F.length cf']) ∧ Nums W.heap.size W ac' (codesL K sc sc.length) ∧ Nums W.heap.size W aa' (atsL K sc sc.length) ∧ Blks W.heap.size W af' F) ∧ Below w.heap.size w W) := by
        intro W hW
        refine ⟨?_, by rw [hW]; exact (((hbw7.setCell (p := ⟨yb + 1, 2, none⟩) (by simp only; omega) _).setCell (p := ⟨w.heap.size, 0, none⟩) (Nat.le_refl _) _).setCell (p := ⟨w.heap.size, 1, none⟩) (Nat.le_refl _) _).setCell (p := ⟨w.heap.size, 2, none⟩) (Nat.le_refl _) _⟩
        have r1 := row_end hrc7 ⟨_, hbx7⟩ ⟨_, hrb⟩ (by decide) (.slice a7 F.length c7) (.slice ac sc.length cc) (.slice aa sc.length ca) (.slice a7 F.length c7)
        have r2 := row_end hra7 ⟨_, hbx7⟩ ⟨_, hrb⟩ (by decide) (.slice a7 F.length c7) (.slice ac sc.length cc) (.slice aa sc.length ca) (.slice a7 F.length c7)
        have r3 := row_end hr7 ⟨_, hbx7⟩ ⟨_, hrb⟩ (by decide) (.slice a7 F.length c7) (.slice ac sc.length cc) (.slice aa sc.length ca) (.slice a7 F.length c7)
        rw [← hW] at r1 r2 r3
        have hcl := unhide HCl
        have hal := unhide HAl
        obtain ⟨a1, c1, e1, n1, _⟩ := nums_of_owns r1 (by omega)
        obtain ⟨a2, c2, e2, n2, _⟩ := nums_of_owns r2 (by omega)
        obtain ⟨a3, c3, e3, n3⟩ := blks_of_row r3 (by omega)
        injection e1 with e1a _ e1c
        injection e2 with e2a _ e2c
        injection e3 with e3a _ e3c
        subst e1a e1c e2a e2c e3a e3c
        exact ⟨_, _, _, _, _, _, rfl, n1, n2, n3⟩
      have t0 := cell27_0 hbx7
      have t1 := cell27_1 hbx7
      have t2 := cell27_2 hbx7
      have tf2 := frozen_of_row w7 _ 2 _ 27 hbx7
      have tlt : yb + 1 < w7.heap.size := (Array.getElem?_eq_some_iff.1 hbx7).1
      have b0 := cell27_0 hrb
      have b1 := cell27_1 hrb
      have b2 := cell27_2 hrb
      have bf0 := frozen_of_row w7 _ 0 _ 27 hrb
      have bf1 := frozen_of_row w7 _ 1 _ 27 hrb
      have bf2 := frozen_of_row w7 _ 2 _ 27 hrb
      have hne : w.heap.size ≠ yb + 1 := by omega
      have hne' : ¬ yb + 1 = w.heap.size := by omega
      have hlw : w.heap.size < w7.heap.size := (Array.getElem?_eq_some_iff.1 hrb).1
      clear hbx7 hrb hrc7 hra7 hr7 hb7 hbw7 Hc2 Hrc6 Hra6 Hbx6 Hrb6 Hbw6 u2 uf2 ult hs6
      go_wp2
      refine bodyPost_ret (v := .agg #[.slice ac sc.length cc, .slice aa sc.length ca, .slice a7 F.length c7]) (by simp [results, Try.results10, go_sem, b0, b1, b2, hne, hne']) rfl ?_
      have hFF := unhide HFF
      subst hFF
      exact unhide Hfin _ rfl

end Go.Proofs.Ytoelnioifjeakaa

/- Play whole; a script that came in, opened. -/
namespace Go.Proofs.Ytoelnioifjeakaa
set_option linter.unusedSimpArgs false
set_option linter.unusedVariables false
open Go.RowKit Go.Joins Go.Deep Go.ChangeShapes Go.WideShapes

theorem play_c (z : Int) (a : Option Addr) (c : Nat) (sc : List (Int × Int)) (B : Nat) (w : World) (hA : Asks B w a sc) (hB : B ≤ w.heap.size) (hI : I64s sc) :
    Calls Try.prog 8 #[.int .i64 z, .slice a sc.length c] w fun e w' => PlRes z sc w.heap.size e w' ∧ Below w.heap.size w w' := by
  by_cases hE : playE z sc.length = 0
  · unfold playE at hE
    split at hE
    · cases hE
    · split at hE
      · cases hE
      · obtain ⟨L, rfl⟩ : ∃ L : Nat, z = (L : Int) := ⟨z.toNat, by omega⟩
        exact play_good L a c sc B w (by omega) (by omega) hA hB hI
  · exact play_bad z a c sc w hA.1 hE

section
variable {H : Type} {enc : TypeId × Value → H} {w : World} {base : Nat} {spare : Nat → Bool} {held : Bool}

theorem addr_plain {a : Addr} {i : Nat} {v : Value} (h : w.cell? (a.add i) = some v) (h0 : ∃ u, w.cell? a = some u) : ∃ b off, a = ⟨b, off, none⟩ ∧ w.cell? ⟨b, off + i, none⟩ = some v := by
  obtain ⟨b, off, spot⟩ := a
  obtain ⟨u, hu⟩ := h0
  have hspot : spot = none := by simpa using World.cell?_spot hu
  subst hspot
  exact ⟨b, off, rfl, by rw [← Go.WideShapes.add_plain]; exact h⟩

theorem bounds_i64 {n : Int} (h : (Lit.int .i64 n).wf = true) : -9223372036854775808 ≤ n ∧ n ≤ 9223372036854775807 := by
  simp [Lit.wf, IntKind.min, IntKind.max, IntKind.signed, IntKind.bits] at h
  omega

/-- One ask, out of its two cells. -/
theorem ask_of_trod {fuel : Nat} {cs : List Value} {x : DataW H × List MemPlace} (h : DataW.trod enc Try.prog w base spare held fuel 39 cs = some x) (hl : cs.length = 2) : ∃ r n : Int, cs = [.int .i64 r, .int .i64 n] ∧ (-9223372036854775808 ≤ r ∧ r ≤ 9223372036854775807) ∧ (-9223372036854775808 ≤ n ∧ n ≤ 9223372036854775807) := by
  obtain ⟨y0, y1, n, _, _, h0, h1⟩ := trod_struct2 Try.underlying39 h
  have e3 : Try.prog.cellsOf 3 = 1 := by kernel_rfl
  match cs, hl with
  | [c0, c1], _ =>
    simp only [e3, List.drop_zero, List.take_succ_cons, List.take_zero, List.drop_succ_cons] at h0 h1
    obtain ⟨r, hr, _, w0⟩ := DataW.trod_int Try.underlying3 h0
    obtain ⟨m, hm, _, w1⟩ := DataW.trod_int Try.underlying3 h1
    simp at hr hm
    exact ⟨r, m, by rw [hr, hm], bounds_i64 w0, bounds_i64 w1⟩

/-- A slice of asks that came in. -/
theorem asks_of_trod {fuel : Nat} {cs : List Value} {x : DataW H × List MemPlace} (h : DataW.trod enc Try.prog w base spare held fuel 22 cs = some x) : ∃ a cap l, cs = [.slice a l.length cap] ∧ Asks w.heap.size w a l ∧ I64s l ∧ l.length ≤ cap ∧ cap ≤ 9223372036854775807 := by
  rcases open_slice Try.underlying22 h with ⟨rfl, _⟩ | ⟨a, len, cap, m, n, D, Pl, rfl, hb, hl, hm, hmm, _, hx⟩
  · exact ⟨none, 0, [], rfl, ⟨by simp, fun h => absurd rfl h⟩, fun x hx => (by cases hx), by simp, by omega⟩
  · have e38 : Try.prog.cellsOf 39 = 2 := by kernel_rfl
    rw [e38] at hx
    have hle : len ≤ m := by rw [hmm]; split <;> omega
    have hex : ∀ i, i < len → ∃ v : Int × Int, w.cell? (a.add (i * 2)) = some (.int .i64 v.1) ∧ w.cell? ((a.add (i * 2)).add 1) = some (.int .i64 v.2) ∧ (-9223372036854775808 ≤ v.1 ∧ v.1 ≤ 9223372036854775807) ∧ (-9223372036854775808 ≤ v.2 ∧ v.2 ≤ 9223372036854775807) := by
      intro i hi
      obtain ⟨cs', h1, h2⟩ := hx i (by omega)
      obtain ⟨_, hlen, hc⟩ := World.cells?_some h1
      obtain ⟨r, n, rfl, b1, b2⟩ := ask_of_trod h2 hlen
      exact ⟨(r, n), by simpa [Addr.add] using hc 0 (by omega), by simpa using hc 1 (by omega), b1, b2⟩
    obtain ⟨f, hf⟩ := choose_lt (α := Int × Int) (p := fun i v => w.cell? (a.add (i * 2)) = some (.int .i64 v.1) ∧ w.cell? ((a.add (i * 2)).add 1) = some (.int .i64 v.2) ∧ (-9223372036854775808 ≤ v.1 ∧ v.1 ≤ 9223372036854775807) ∧ (-9223372036854775808 ≤ v.2 ∧ v.2 ≤ 9223372036854775807)) hex
    refine ⟨some a, cap, (List.range len).map f, by simp, ⟨by simp only [List.length_map, List.length_range]; simp only [maxLen] at hm; omega, fun hne => ?_⟩, ?_, by simpa using hl, by simp only [maxLen] at hm; omega⟩
    · have hpos : 0 < len := by
        rcases Nat.eq_zero_or_pos len with h0 | h0
        · subst h0; simp at hne
        · exact h0
      have h00 := (hf 0 hpos).1
      obtain ⟨b, off, rfl, _⟩ := addr_plain (a := a) (i := 0) (by simpa using h00) ⟨_, by simpa [Addr.add] using h00⟩
      have hplain : ∀ i, (⟨b, off, none⟩ : Addr).add i = ⟨b, off + i, none⟩ := fun i => Go.WideShapes.add_plain _ _ _
      refine ⟨b, off, rfl, World.block_lt_of_cell? w ⟨b, off + 0 * 2, none⟩ (by rw [← hplain]; exact h00), fun k v hk => ?_⟩
      have hkl : k < len := by
        have := (List.getElem?_eq_some_iff.1 hk).1
        simpa using this
      have hv : f k = v := by simpa [hkl] using hk
      have := hf k hkl
      rw [hv, hplain, Go.WideShapes.add_plain] at this
      exact ⟨this.1, this.2.1⟩
    · intro x hx
      obtain ⟨i, hi, rfl⟩ := List.mem_map.1 hx
      exact (hf i (List.mem_range.1 hi)).2.2

theorem asks_of_Trod {r : Reach} {b0 : Nat} {v : Value} {d : DataW H} {p : List MemPlace} (hv : Value.okWide Try.prog w r b0 22 v) (h : DataW.Trod enc Try.prog w base spare held 22 v d p) :
    ∃ a cap l, v = .slice a l.length cap ∧ Asks w.heap.size w a l ∧ I64s l ∧ l.length ≤ cap ∧ cap ≤ 9223372036854775807 := by
  obtain ⟨a0, len, cap, rfl⟩ := okWide_slice Try.underlying22 hv
  obtain ⟨fuel, hf⟩ := h
  obtain ⟨a, c, l, hcs, hI⟩ := asks_of_trod hf
  simp [Value.cells] at hcs
  obtain ⟨rfl, rfl, rfl⟩ := hcs
  exact ⟨_, _, l, rfl, hI⟩

end
end Go.Proofs.Ytoelnioifjeakaa

/- Walks: BuddyPlays. -/
namespace Go.Proofs.Ytoelnioifjeakaa
set_option linter.unusedSimpArgs false
set_option linter.unusedVariables false
open Go.RowKit

theorem Nums.nil (B : Nat) (w : World) (a : Option Addr) : Nums B w a [] := ⟨by simp, fun h => absurd rfl h⟩

set_option maxRecDepth 100000 in
set_option maxHeartbeats 4000000 in
theorem buddyPlays_c (z : Int) (a : Option Addr) (c : Nat) (sc : List (Int × Int)) (w : World) (hA : Asks w.heap.size w a sc) (hI : I64s sc) :
    Calls Try.prog 3 #[.int .i64 z, .slice a sc.length c] w fun e w' => e = .returned (.bool true) ∧ Below w.heap.size w w' := by
  have Hc := hide (play_c z a c sc w.heap.size w hA (Nat.le_refl _) hI)
  have hsl := hA.1
  have HA := hide hA
  clear hA hI
  go_enter Try.func3, Try.ntmps3
  go_wp2_with fail
  refine (unhide Hc).mono ?_
  rintro e w2 ⟨hR, hb2⟩
  obtain ⟨ac, cc, aa, ca, af, cf, C, A, F, rfl, nc, na, nf, hIs, hca, _⟩ := hR
  have hs2 := hb2.size
  clear Hc
  obtain ⟨W3, hW3⟩ : ∃ W3, w2.alloc (.cells #[.slice ac C.length cc, .slice aa A.length ca, .slice af F.length cf] 27) = W3 := ⟨_, rfl⟩
  have hb3 : Below w2.heap.size w2 W3 := by rw [← hW3]; exact (Below.refl _ _).alloc (Nat.le_refl _) _
  have hs3 : w2.heap.size < W3.heap.size := by rw [← hW3]; simp
  have hF3 : FBox W3 w2.heap.size ac C.length cc aa A.length ca af F.length cf := by rw [← hW3]; exact fbox_new ..
  have t0 := hF3.c0
  have t1 := hF3.c1
  have t2 := hF3.c2
  clear hF3
  have hbw : Below w.heap.size w W3 := hb2.trans (hb3.mono hs2)
  by_cases hE : playE z sc.length = 0
  · obtain ⟨h1, h2, h5⟩ := playE_ok hE
    obtain ⟨K, rfl⟩ : ∃ K : Nat, z = (K : Int) := ⟨z.toNat, by omega⟩
    obtain ⟨eC, eA, eF⟩ := (unhide hIs).2 hE
    rw [Int.toNat_natCast] at eC eA eF
    subst eC eA eF
    rw [hE]
    rw [codesL_len] at t0 hW3 ⊢
    rw [atsL_len] at t1 hW3 ⊢
    have HA3 : Hid (Asks W3.heap.size W3 a sc) := ((unhide HA).below hbw).mono (by omega)
    have Hf : Hid (∀ W, Below W3.heap.size W3 W → Calls Try.prog 10 #[.int .i64 (p2 K : Nat), .int .i64 0, .bool true, .slice a sc.length c] W fun e w' => (∃ ac cc aa ca af cf, e = .returned (.agg #[.slice ac sc.length cc, .slice aa sc.length ca, .slice af ((stK K sc sc.length).bl K).length cf]) ∧ Nums w'.heap.size w' ac (codesL K sc sc.length) ∧ Nums w'.heap.size w' aa (atsL K sc sc.length) ∧ Blks w'.heap.size w' af ((stK K sc sc.length).bl K)) ∧ Below W.heap.size W w') :=
      fun W hW => freed_c (p2 K) K rfl (by omega) 0 a c sc W h5 (((unhide HA3).below hW).mono hW.size)
    have Hs : Hid (∀ ac' aa' af' cc' ca' cf' W, Below W3.heap.size W3 W → Nums W.heap.size W ac' (codesL K sc sc.length) → Nums W.heap.size W aa' (atsL K sc sc.length) → Blks W.heap.size W af' ((stK K sc sc.length).bl K) → Calls Try.prog 9 #[.agg #[.slice ac sc.length cc, .slice aa sc.length ca, .slice af ((stK K sc sc.length).bl K).length cf], .agg #[.slice ac' sc.length cc', .slice aa' sc.length ca', .slice af' ((stK K sc sc.length).bl K).length cf']] W fun e w' => e = .returned (.bool true) ∧ Below W.heap.size W w') := fun ac' aa' af' cc' ca' cf' W hW n1 n2 n3 => by
      have := freedSame_c ac aa af ac' aa' af' cc ca cf cc' ca' cf' (codesL K sc sc.length) (atsL K sc sc.length) ((stK K sc sc.length).bl K) W.heap.size W (Nat.le_refl _) ((((nc.below hb3).mono (Nat.le_of_lt hs3)).below hW).mono hW.size) ((((na.below hb3).mono (Nat.le_of_lt hs3)).below hW).mono hW.size) ((((nf.below hb3).mono (Nat.le_of_lt hs3)).below hW).mono hW.size) n1 n2 n3
      rwa [codesL_len, atsL_len] at this
    have d1 : decide ((K : Int) < 0) = false := decide_eq_false (by omega)
    have d2 : decide ((7 : Int) < (K : Int)) = false := decide_eq_false (by omega)
    have d2' : decide (7 < K) = false := decide_eq_false (by omega)
    have H0 : Hid (p2 0 = 1) := rfl
    have d5 : decide ((100 : Int) < (sc.length : Int)) = false := decide_eq_false (by omega)
    have d0 : ((0 : Int) == 0) = true := by simp
    clear hE nc na nf hIs
    go_wp2
    go_loopw [8, 9] (fun p i wr => ∃ k : Nat, k ≤ K ∧ i = .int .i64 k ∧ p = .int .i64 (p2 k : Nat) ∧ wr = W3) (fun _ i _ => K - (intOf i).toNat)
    case atStart => exact ⟨0, Nat.zero_le _, rfl, by rw [unhide H0]; rfl, rfl⟩
    case round =>
      obtain ⟨k, hk, rfl, rfl, rfl⟩ := hrel
      have hp := p2_le (k := k) (by omega)
      by_cases hlt : k < K
      · have Hs := hide (p2_succ k)
        go_wp2
        go_roundw
        case rel => exact ⟨k + 1, hlt, by go_num, by rw [unhide Hs]; go_num, trivial⟩
        case measure => simp [intOf]; omega
      · obtain rfl : k = K := by omega
        go_wp2
        go_region_with (first
          | (go_at_call 10; go_must (refine (unhide Hf _ (by first | exact (Below.refl _ _).drew | exact (Below.refl _ _).drew.drew | exact (Below.refl _ _).drew.drew.drew | exact (Below.refl _ _).drew.drew.drew.drew)).mono ?_); go_must (rintro e w5 ⟨⟨ac', cc', aa', ca', af', cf', he, n1, n2, n3⟩, hb5⟩; subst he; have hb5' : Below wr.heap.size wr w5 := ⟨hb5.os, hb5.tape, hb5.output, hb5.size, fun k hk => hb5.block k hk⟩; have k0 := (hb5'.cell (p := ⟨w2.heap.size, 0, none⟩) hs3).trans t0; have k1 := (hb5'.cell (p := ⟨w2.heap.size, 1, none⟩) hs3).trans t1; have k2 := (hb5'.cell (p := ⟨w2.heap.size, 2, none⟩) hs3).trans t2; have Hd := hide (unhide Hs ac' aa' af' cc' ca' cf' w5 hb5' n1 n2 n3); clear n1 n2 n3 hb5))
          | (go_at_call 9; go_must (refine (unhide Hd).mono ?_); go_must (rintro e w6 ⟨he, hb6⟩; subst he; have hbf : Below w.heap.size w w6 := hbw.trans ((hb5'.trans (hb6.mono hb5'.size)).mono (by omega)))))
        all_goals
          go_wp2
          go_ret
          exact ⟨rfl, by first | exact hbf | exact hbf.drew | exact hbf.drew.drew⟩
  · obtain ⟨rfl, rfl, rfl⟩ := (unhide hIs).1 hE
    have Hd := hide (freedSame_c ac aa af none none none cc ca cf 0 0 0 [] [] [] W3.heap.size W3 (Nat.le_refl _) (Nums.nil _ _ _) (Nums.nil _ _ _) (Blks.nil _ _ _) (Nums.nil _ _ _) (Nums.nil _ _ _) (Blks.nil _ _ _))
    simp only [List.length_nil] at Hd t0 t1 t2 hW3 ⊢
    clear nc na nf hIs
    by_cases z1 : z < 0
    · have hv : playE z sc.length = 3 := by unfold playE; rw [if_pos (.inl z1)]
      have d1 : decide (z < 0) = true := decide_eq_true z1
      rw [hv]
      clear hE hv
      go_wp2_with fail
      refine (unhide Hd).mono ?_
      rintro e w5 ⟨rfl, hb5⟩
      have hbf : Below w.heap.size w w5 := hbw.trans (hb5.mono (by omega))
      go_wp2
      go_ret
      exact ⟨rfl, hbf⟩
    · have d1 : decide (z < 0) = false := decide_eq_false z1
      by_cases z2 : 7 < z
      · have hv : playE z sc.length = 3 := by unfold playE; rw [if_pos (.inr z2)]
        have d2 : decide (7 < z) = true := decide_eq_true z2
        rw [hv]
        clear hE hv
        go_wp2_with fail
        refine (unhide Hd).mono ?_
        rintro e w5 ⟨rfl, hb5⟩
        have hbf : Below w.heap.size w w5 := hbw.trans (hb5.mono (by omega))
        go_wp2
        go_ret
        exact ⟨rfl, hbf⟩
      · have d2 : decide (7 < z) = false := decide_eq_false z2
        by_cases n1 : 100 < sc.length
        · have hv : playE z sc.length = 1 := by unfold playE; rw [if_neg (by omega), if_pos n1]
          have d5 : decide (100 < sc.length) = true := decide_eq_true n1
          have d5' : decide ((100 : Int) < (sc.length : Int)) = true := decide_eq_true (by omega)
          rw [hv]
          clear hE hv
          go_wp2_with fail
          refine (unhide Hd).mono ?_
          rintro e w5 ⟨rfl, hb5⟩
          have hbf : Below w.heap.size w w5 := hbw.trans (hb5.mono (by omega))
          go_wp2
          go_ret
          exact ⟨rfl, hbf⟩
        · exact absurd (by unfold playE; rw [if_neg (by omega), if_neg n1]) hE

end Go.Proofs.Ytoelnioifjeakaa
