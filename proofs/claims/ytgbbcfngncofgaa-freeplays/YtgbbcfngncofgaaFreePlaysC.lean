/- Merged texts: Ub Uc Pc Ud Va Pf Vb Vc Vd Ve Vf. -/
import Derived.Test.YtgbbcfngncofgaaProg
import Derived.Test.YtgbbcfngncofgaaFreePlaysB
import Derived.Laws.StructEq
import Derived.OwnWalk

/- Walks: codes, Ints; FreeFront. -/
namespace Go.Proofs.Ytgbbcfngncofgaa
set_option linter.unusedSimpArgs false
set_option linter.unusedVariables false
open Go.RowKit

set_option maxRecDepth 100000 in
set_option maxHeartbeats 2000000 in
theorem codes_c (a a' : Option Addr) (c c' : Nat) (l l' : List Int) (B : Nat) (w : World) (h : Nums B w a l) (h' : Nums B w a' l') (hB : B ≤ w.heap.size) (hp : ∀ (k : Nat) (x : Int), l[k]? = some x → l'[k]? = some x) (hle : l.length ≤ l'.length) :
    Calls Try.prog 14 #[.slice a l.length c, .slice a' l'.length c'] w fun e w' => e = .returned (.bool true) ∧ Below w.heap.size w w' := by
  have hl := h.1
  have hl' := h'.1
  have d0 : decide (l'.length < l.length) = false := decide_eq_false (by omega)
  have Hp := hide hp
  clear hp
  go_enter Try.func14, Try.ntmps14
  go_wp2
  go_loopw [5] (fun i wr => ∃ k : Nat, k ≤ l.length ∧ i = .int .i64 k ∧ Below w.heap.size w wr) (fun i _ => l.length - (intOf i).toNat)
  case atStart => exact ⟨0, Nat.zero_le _, rfl, Below.refl _ _⟩
  case round =>
    obtain ⟨k, hk, rfl, hb⟩ := hrel
    have hsz := hb.size
    by_cases hlt : k < l.length
    · have hx : l[k]? = some l[k] := List.getElem?_eq_getElem hlt
      obtain ⟨b, off, rfl, hbB, x0⟩ := (h.below (hb.mono hB)).at hx
      obtain ⟨b', off', rfl, hbB', y0⟩ := (h'.below (hb.mono hB)).at (unhide Hp k _ hx)
      have hkI : (k : Int) < (l.length : Int) := by omega
      have hkI' : (k : Int) < (l'.length : Int) := by omega
      have hq : b < wr.heap.size := by omega
      have hq' : b' < wr.heap.size := by omega
      generalize l[k] = x at *
      have d1 : (x != x) = false := by simp
      clear hx
      go_wp2
      go_quiet (fail)
      have hbn := below_drewN hb nq
      clear x0 y0 hq hq'
      generalize wr.drewN nq = wq at *
      go_wp2
      go_roundw
      case rel => exact ⟨k + 1, by omega, by go_num, hbn⟩
      case measure => simp [intOf]; omega
    · obtain rfl : k = l.length := by omega
      go_wp2
      go_ret
      exact ⟨rfl, hb⟩

set_option maxRecDepth 100000 in
set_option maxHeartbeats 2000000 in
theorem ints_c (a a' : Option Addr) (c c' : Nat) (l : List Int) (B : Nat) (w : World) (h : Nums B w a l) (h' : Nums B w a' l) (hB : B ≤ w.heap.size) :
    Calls Try.prog 15 #[.slice a l.length c, .slice a' l.length c'] w fun e w' => e = .returned (.bool true) ∧ Below w.heap.size w w' := by
  have hl := h.1
  have d0 : ((l.length : Int) != (l.length : Int)) = false := by simp
  go_enter Try.func15, Try.ntmps15
  go_wp2
  go_loopw [5] (fun i wr => ∃ k : Nat, k ≤ l.length ∧ i = .int .i64 k ∧ Below w.heap.size w wr) (fun i _ => l.length - (intOf i).toNat)
  case atStart => exact ⟨0, Nat.zero_le _, rfl, Below.refl _ _⟩
  case round =>
    obtain ⟨k, hk, rfl, hb⟩ := hrel
    have hsz := hb.size
    by_cases hlt : k < l.length
    · have hx : l[k]? = some l[k] := List.getElem?_eq_getElem hlt
      obtain ⟨b, off, rfl, hbB, x0⟩ := (h.below (hb.mono hB)).at hx
      obtain ⟨b', off', rfl, hbB', y0⟩ := (h'.below (hb.mono hB)).at hx
      have hkI : (k : Int) < (l.length : Int) := by omega
      have hq : b < wr.heap.size := by omega
      have hq' : b' < wr.heap.size := by omega
      generalize l[k] = x at *
      have d1 : (x != x) = false := by simp
      clear hx
      go_wp2
      go_quiet (fail)
      have hbn := below_drewN hb nq
      clear x0 y0 hq hq'
      generalize wr.drewN nq = wq at *
      go_wp2
      go_roundw
      case rel => exact ⟨k + 1, by omega, by go_num, hbn⟩
      case measure => simp [intOf]; omega
    · obtain rfl : k = l.length := by omega
      go_wp2
      go_ret
      exact ⟨rfl, hb⟩

theorem Asks.take {B : Nat} {w : World} {a : Option Addr} {l : List (Int × Int)} (h : Asks B w a l) (n : Nat) : Asks B w a (l.take n) := by
  refine ⟨by have := h.1; simp; omega, fun hne => ?_⟩
  obtain ⟨b, off, rfl, hB, hc⟩ := h.2 (by rintro rfl; simp at hne)
  refine ⟨b, off, rfl, hB, fun k v hk => hc k v ?_⟩
  rw [List.getElem?_take] at hk
  split at hk
  · exact hk
  · cases hk
theorem Nums.take {B : Nat} {w : World} {a : Option Addr} {l : List Int} (h : Nums B w a l) (n : Nat) : Nums B w a (l.take n) := by
  refine ⟨by have := h.1; simp; omega, fun hne => ?_⟩
  obtain ⟨b, off, rfl, hB, hc⟩ := h.2 (by rintro rfl; simp at hne)
  refine ⟨b, off, rfl, hB, fun k v hk => hc k v ?_⟩
  rw [List.getElem?_take] at hk
  split at hk
  · exact hk
  · cases hk

theorem bounds_u8' {n : Int} (h : (Lit.int .u8 n).wf = true) : 0 ≤ n ∧ n ≤ 255 := by
  simp [Lit.wf, IntKind.min, IntKind.max, IntKind.signed, IntKind.bits] at h
  omega

/-- What is asked later changes nothing. -/
theorem front_same {S : Nat} {pol : Int} {sc sc' : List (Int × Int)} {n : Nat} (h : ∀ i, i < n → sc.getD i (0, 0) = sc'.getD i (0, 0)) {k : Nat} (hk : k ≤ n) : codesL S pol sc k = codesL S pol sc' k ∧ atsL S pol sc k = atsL S pol sc' k ∧ stK S pol sc k = stK S pol sc' k := by
  have hst : ∀ i, i ≤ n → stK S pol sc i = stK S pol sc' i := fun i hi => stepS_same S pol (fun j hj => h j (by omega))
  refine ⟨?_, ?_, hst k hk⟩
  · unfold codesL
    refine List.map_congr_left fun i hi => ?_
    have := List.mem_range.1 hi
    unfold codeK
    rw [hst i (by omega), h i (by omega)]
  · unfold atsL
    refine List.map_congr_left fun i hi => ?_
    have := List.mem_range.1 hi
    unfold atK
    rw [hst i (by omega), h i (by omega)]
theorem codesL_take (S : Nat) (pol : Int) (sc : List (Int × Int)) (n k : Nat) (h : k ≤ n) : (codesL S pol sc n).take k = codesL S pol sc k := by
  unfold codesL
  rw [← List.map_take, List.take_range, Nat.min_eq_left h]
theorem atsL_take (S : Nat) (pol : Int) (sc : List (Int × Int)) (n k : Nat) (h : k ≤ n) : (atsL S pol sc n).take k = atsL S pol sc k := by
  unfold atsL
  rw [← List.map_take, List.take_range, Nat.min_eq_left h]
theorem getD_take {α : Type} {l : List α} {n i : Nat} {d : α} (h : i < n) : (l.take n).getD i d = l.getD i d := by
  rw [List.getD_eq_getElem?_getD, List.getD_eq_getElem?_getD, List.getElem?_take, if_pos h]

theorem plIs_front {z pol : Int} {sc : List (Int × Int)} {n : Nat} {C A C' A' : List Int} {F F' : List (Nat × Nat)} (hn : n ≤ sc.length) (h : PlIs z pol sc C A F) (h' : PlIs z pol (sc.take n) C' A' F') (hE : playE z pol sc.length = 0) :
    playE z pol (sc.take n).length = 0 ∧ C.length = sc.length ∧ A.length = sc.length ∧ C'.length = n ∧ A'.length = n ∧ C.take n = C' ∧ A.take n = A' := by
  obtain ⟨e1, e2, e3, e4, e5⟩ := playE_ok hE
  have hE' : playE z pol (sc.take n).length = 0 := by
    unfold playE
    rw [if_neg (by omega), if_neg (by omega), if_neg (by simp; omega)]
  obtain ⟨rfl, rfl, rfl⟩ := h.2 hE
  obtain ⟨rfl, rfl, rfl⟩ := h'.2 hE'
  have hl : (sc.take n).length = n := by simp; omega
  have hf := front_same (S := z.toNat) (pol := pol) (sc := sc.take n) (sc' := sc) (n := n) (fun i hi => getD_take hi) (Nat.le_refl n)
  rw [hl]
  refine ⟨by rw [hl] at hE'; exact hE', codesL_len _ _ _ _, atsL_len _ _ _ _, codesL_len _ _ _ _, atsL_len _ _ _ _, ?_, ?_⟩
  · rw [codesL_take _ _ _ _ _ hn, hf.1]
  · rw [atsL_take _ _ _ _ _ hn, hf.2.1]

set_option maxRecDepth 100000 in
set_option maxHeartbeats 4000000 in
theorem freeFront_c (z pol : Int) (a : Option Addr) (c : Nat) (sc : List (Int × Int)) (kk : Int) (w : World) (hA : Asks w.heap.size w a sc) (hI : I64s sc) (hc : sc.length ≤ c) (hcm : c ≤ 9223372036854775807) (hk0 : 0 ≤ kk) (hk1 : kk ≤ 255) :
    Calls Try.prog 8 #[.int .i64 z, .int .i64 pol, .slice a sc.length c, .int .u8 kk] w fun e w' => e = .returned (.bool true) ∧ Below w.heap.size w w' := by
  have Hc := hide (play_c z pol a c sc w.heap.size w hA (Nat.le_refl _) hI)
  have hsl := hA.1
  obtain ⟨n, hn, hnl⟩ : ∃ n : Nat, kk % wrap64 ((sc.length : Int) + 1) = (n : Int) ∧ n ≤ sc.length := by
    by_cases h : (sc.length : Int) + 1 ≤ 9223372036854775807
    · have e : wrap64 ((sc.length : Int) + 1) = (sc.length : Int) + 1 := by unfold wrap64; omega
      rw [e]
      have h1 := Int.emod_nonneg kk (show (sc.length : Int) + 1 ≠ 0 by omega)
      have h2 := Int.emod_lt_of_pos kk (show (0 : Int) < (sc.length : Int) + 1 by omega)
      exact ⟨(kk % ((sc.length : Int) + 1)).toNat, by omega, by omega⟩
    · have e : wrap64 ((sc.length : Int) + 1) = -9223372036854775808 := by unfold wrap64; omega
      rw [e, show (-9223372036854775808 : Int) = -(9223372036854775808 : Int) from rfl, Int.emod_neg]
      exact ⟨kk.toNat, by omega, by omega⟩
  have hw0 : ¬ wrap64 ((sc.length : Int) + 1) = 0 := by unfold wrap64; omega
  have HI : Hid (I64s (sc.take n)) := fun x hx => hI x (List.mem_of_mem_take hx)
  have HA := hide (hA.take n)
  clear hA hI
  go_enter Try.func8, Try.ntmps8
  go_wp2_with fail
  refine (unhide Hc).mono ?_
  rintro e w2 ⟨hR, hb2⟩
  obtain ⟨ac, cc, aa, ca, af, cf, C, A, F, rfl, nc, na, nf, hIs, hca, _⟩ := hR
  have hs2 := hb2.size
  clear Hc
  have hln : (sc.take n).length = n := by simp; omega
  obtain ⟨W3, hW3⟩ : ∃ W3, w2.alloc (.cells #[.slice ac C.length cc, .slice aa A.length ca, .slice af F.length cf] 27) = W3 := ⟨_, rfl⟩
  have hb3 : Below w2.heap.size w2 W3 := by rw [← hW3]; exact (Below.refl _ _).alloc (Nat.le_refl _) _
  have hs3 : w2.heap.size < W3.heap.size := by rw [← hW3]; simp
  have t0 : W3.cell? ⟨w2.heap.size, 0, none⟩ = some (.slice ac C.length cc) := by rw [← hW3]; simp [go_sem]
  have t1 : W3.cell? ⟨w2.heap.size, 1, none⟩ = some (.slice aa A.length ca) := by rw [← hW3]; simp [go_sem]
  have hbw3 : Below w.heap.size w W3 := hb2.trans (hb3.mono hs2)
  have Hc2 := hide (play_c z pol a c (sc.take n) w.heap.size W3 ((unhide HA).below hbw3) (by omega) (unhide HI))
  rw [hln] at Hc2
  have Hln := hide hln
  have hnI : (n : Int) ≤ (c : Int) := by omega
  have hn0 : n ≤ c := by omega
  have nc3 := hide (nc.below hb3)
  have na3 := hide (na.below hb3)
  clear hln nc na nf
  go_wp2_with fail
  refine (unhide Hc2).mono ?_
  rintro e w4 ⟨hR, hb4⟩
  obtain ⟨ac', cc', aa', ca', af', cf', C', A', F', rfl, nc', na', nf', hIs', hca', _⟩ := hR
  have hs4 := hb4.size
  obtain ⟨W5, hW5⟩ : ∃ W5, w4.alloc (.cells #[.slice ac' C'.length cc', .slice aa' A'.length ca', .slice af' F'.length cf'] 27) = W5 := ⟨_, rfl⟩
  have hb5 : Below w4.heap.size w4 W5 := by rw [← hW5]; exact (Below.refl _ _).alloc (Nat.le_refl _) _
  have hs5 : w4.heap.size < W5.heap.size := by rw [← hW5]; simp
  have u0 : W5.cell? ⟨w4.heap.size, 0, none⟩ = some (.slice ac' C'.length cc') := by rw [← hW5]; simp [go_sem]
  have u1 : W5.cell? ⟨w4.heap.size, 1, none⟩ = some (.slice aa' A'.length ca') := by rw [← hW5]; simp [go_sem]
  have hb35 : Below W3.heap.size W3 W5 := hb4.trans (hb5.mono hs4)
  have t0' := (hb35.cell (p := ⟨w2.heap.size, 0, none⟩) hs3).trans t0
  have t1' := (hb35.cell (p := ⟨w2.heap.size, 1, none⟩) hs3).trans t1
  have hbw5 : Below w.heap.size w W5 := hbw3.trans (hb35.mono (by omega))
  have nc5 := hide ((unhide nc3).below (hb35.mono (by omega)))
  have na5 := hide ((unhide na3).below (hb35.mono (by omega)))
  have nc5' := hide (nc'.below hb5)
  have na5' := hide (na'.below hb5)
  clear Hc2 nc' na' nf' t0 t1 nc3 na3
  by_cases hE : playE z pol sc.length = 0
  · obtain ⟨p0, p1, p2, p3, p4, p5, p6⟩ := plIs_front hnl (unhide hIs) (unhide hIs') hE
    have Hco : Hid (∀ w', Below W5.heap.size W5 w' → Calls Try.prog 14 #[.slice ac' C'.length cc', .slice ac C.length cc] w' fun e w2 => e = .returned (.bool true) ∧ Below w'.heap.size w' w2) := fun w' hw' => codes_c ac' ac cc' cc C' C W5.heap.size w' (((unhide nc5').mono (by omega)).below hw') (((unhide nc5).mono (by omega)).below hw') hw'.size (fun k x hx => by
      rw [← p5, List.getElem?_take] at hx
      split at hx
      · exact hx
      · cases hx) (by omega)
    have Hin : Hid (∀ w', Below W5.heap.size W5 w' → Calls Try.prog 15 #[.slice aa' A'.length ca', .slice aa n ca] w' fun e w2 => e = .returned (.bool true) ∧ Below w'.heap.size w' w2) := fun w' hw' => by
      have h1 := ((unhide na5').mono (show w4.heap.size ≤ W5.heap.size by omega)).below hw'
      have h2 := (((unhide na5).mono (show w2.heap.size ≤ W5.heap.size by omega)).below hw').take n
      rw [p6] at h2
      have := ints_c aa' aa ca' ca A' W5.heap.size w' h1 h2 hw'.size
      rw [p4] at this ⊢
      exact this
    have d1 : ((C.length : Int) == (sc.length : Int)) = true := by simp; omega
    have d2 : ((A.length : Int) == (sc.length : Int)) = true := by simp; omega
    have d3 : ((C'.length : Int) == (n : Int)) = true := by simp; omega
    have d4 : n ≤ ca := by omega
    have G0 := cell_regrown t0'
    have G1 := cell_regrown t1'
    have G2 := cell_regrown u0
    have G3 := cell_regrown u1
    rw [hE, p0]
    clear hE p0 p1 p2 p3 p4 p5 p6 hIs hIs' nc5 na5 nc5' na5' t0' t1' u0 u1
    go_wp2
    refine wp_region_quiet_below (by kernel_rfl) (by kernel_rfl) ?_
    repeat (go_big_quiet_step (first | exact Calls.regrown_of (unhide Hco _ (below_regrown W5 _ _)) | exact Calls.regrown_of (unhide Hin _ (below_regrown W5 _ _))))
    refine wpQuiet_nil ?_
    intro _ hw'
    obtain ⟨⟨dq, osq⟩, hw''⟩ := hw'
    subst hw''
    have hbq := hbw5.trans ((below_regrown W5 dq osq).mono (by omega))
    clear G0 G1 G2 G3
    go_wp2
    go_ret
    exact ⟨rfl, hbq⟩
  · generalize playE z pol sc.length = E at *
    generalize playE z pol (sc.take n).length = E' at *
    have d0 : (E != 0) = true := by simpa using hE
    clear hE
    go_wp2
    go_ret
    exact ⟨rfl, hbw5⟩

end Go.Proofs.Ytgbbcfngncofgaa

/- Scripts that are made; Blocks. -/
namespace Go.Proofs.Ytgbbcfngncofgaa
set_option linter.unusedSimpArgs false
set_option linter.unusedVariables false
open Go.RowKit

/-- The cells of asks. -/
def cellsQ (l : List (Int × Int)) : List Value := l.flatMap fun x => [.int .i64 x.1, .int .i64 x.2]
theorem cellsQ_snoc (l : List (Int × Int)) (a n : Int) : cellsQ (l ++ [(a, n)]) = cellsQ l ++ [.int .i64 a, .int .i64 n] := by simp [cellsQ]
theorem cellsQ_len : ∀ (l : List (Int × Int)), (cellsQ l).length = l.length * 2
  | [] => rfl
  | x :: l => by have := cellsQ_len l; simp only [cellsQ, List.flatMap_cons, List.length_append, List.length_cons, List.length_nil] at *; omega
theorem cellsQ_get : ∀ (l : List (Int × Int)) (k : Nat) (x : Int × Int), l[k]? = some x → (cellsQ l)[k * 2]? = some (.int .i64 x.1) ∧ (cellsQ l)[k * 2 + 1]? = some (.int .i64 x.2)
  | [], _, _, h => by simp at h
  | x :: l, 0, v, h => by simp at h; subst h; simp [cellsQ]
  | x :: l, k + 1, v, h => by
    have := cellsQ_get l k v (by simpa using h)
    have e1 : (k + 1) * 2 = k * 2 + 1 + 1 := by omega
    rw [e1]
    simp only [cellsQ, List.flatMap_cons, List.cons_append, List.nil_append, List.getElem?_cons_succ]
    exact this
theorem cellsQ_at : ∀ (l : List (Int × Int)) (j : Nat) (u : Value), (cellsQ l)[j]? = some u → ∃ k x, l[k]? = some x ∧ ((j = k * 2 ∧ u = .int .i64 x.1) ∨ (j = k * 2 + 1 ∧ u = .int .i64 x.2))
  | [], j, u, h => by simp [cellsQ] at h
  | x :: l, 0, u, h => by
    simp [cellsQ] at h
    exact ⟨0, x, rfl, .inl ⟨rfl, h.symm⟩⟩
  | x :: l, 1, u, h => by
    simp [cellsQ] at h
    exact ⟨0, x, rfl, .inr ⟨rfl, h.symm⟩⟩
  | x :: l, j + 2, u, h => by
    simp only [cellsQ, List.flatMap_cons, List.cons_append, List.nil_append, List.getElem?_cons_succ] at h
    obtain ⟨k, y, hk, hy⟩ := cellsQ_at l j u h
    refine ⟨k + 1, y, by simpa using hk, ?_⟩
    rcases hy with ⟨h1, h2⟩ | ⟨h1, h2⟩
    · exact .inl ⟨by omega, h2⟩
    · exact .inr ⟨by omega, h2⟩
theorem cellsQ_one {u : Value} {l : List (Int × Int)} (h : u ∈ cellsQ l) : u.oneCell' = true := by
  simp only [cellsQ, List.mem_flatMap] at h
  obtain ⟨x, _, hx⟩ := h
  simp at hx
  rcases hx with rfl | rfl <;> rfl

theorem Asks.cells {B : Nat} {w : World} {a : Option Addr} {l : List (Int × Int)} (h : Asks B w a l) (hne : 0 < (cellsQ l).length) : ∃ ad, a = some ad ∧ ∀ j v, (cellsQ l)[j]? = some v → w.cell? (ad.add j) = some v := by
  obtain ⟨b, off, rfl, hB, hc⟩ := h.2 (by rintro rfl; simp [cellsQ] at hne)
  refine ⟨_, rfl, fun j v hj => ?_⟩
  obtain ⟨k, x, hk, hx⟩ := cellsQ_at l j v hj
  obtain ⟨h1, h2⟩ := hc k x hk
  rw [Addr.add_lit]
  rcases hx with ⟨rfl, rfl⟩ | ⟨rfl, rfl⟩
  · exact h1
  · rw [← Nat.add_assoc]; exact h2

theorem asks_of_owns {w : World} {base g cap : Nat} {l : List (Int × Int)} (h : w.ownsRow base 38 2 (.slice (some ⟨g, 0, none⟩) l.length cap) l.length (cellsQ l)) (hs : l.length ≤ 9223372036854775807) : Asks w.heap.size w (some ⟨g, 0, none⟩) l := by
  refine ⟨hs, fun _ => ⟨g, 0, rfl, (h.lt g rfl).2, fun k x hk => ?_⟩⟩
  have hlt := (List.getElem?_eq_some_iff.1 hk).1
  obtain ⟨h1, h2⟩ := cellsQ_get l k x hk
  exact ⟨by rw [Nat.zero_add, h.cellAt _ (by omega)]; exact h1, by rw [Nat.zero_add, h.cellAt _ (by omega)]; exact h2⟩

/-- append of a slice that may be nil to a row of the call's own. -/
theorem run_append_q (w : World) (base : Nat) (ty : TypeId) (g cap n : Nat) (xs : List Value) (hown : w.ownsRow base 38 2 (.slice (some ⟨g, 0, none⟩) n cap) n xs) (sp : Option Addr) (m c : Nat) (cs : List Value) (hl : cs.length = m * 2)
    (hpos : 0 < cs.length → ∃ ad, sp = some ad ∧ ∀ j v, cs[j]? = some v → w.cell? (ad.add j) = some v) (h1 : ∀ v ∈ cs, v.oneCell' = true) (hs : n + m ≤ 1000) (hbase : base ≤ w.heap.size) :
    ∃ v' w', (Builtin.append_ #[22, 22] ty #[.slice (some ⟨g, 0, none⟩) n cap, .slice sp m c]).run Try.prog w = .ok v' w' ∧ w'.ownsRow base 38 2 v' (n + m) (xs ++ cs) ∧ w.grownBy w' (some g) ∧ (∃ g' cap', v' = .slice (some ⟨g', 0, none⟩) (n + m) cap') := by
  obtain ⟨i0, hi0, hz0, hz1, hz2⟩ := info_parts Try.info38
  by_cases h0 : cs.length = 0
  · obtain rfl : cs = [] := List.eq_nil_of_length_eq_zero h0
    have hm : m = 0 := by simp at hl; omega
    subst hm
    have hnc : n ≤ cap := by
      rcases hown.2 with ⟨e, _⟩ | ⟨g', cap', cur, e, _, _, h3, _⟩
      · cases e
      · injection e with _ _ e; omega
    have hld : ∀ (x : Addr), (loadCells x 0).run Try.prog w = .ok #[] w := fun x => by simpa using run_loadCells_list (P := Try.prog) w x [] (by simp)
    refine ⟨_, w, ?_, by rw [List.append_nil]; exact hown, ⟨rfl, rfl, rfl, Nat.le_refl _, fun _ _ _ => rfl⟩, ⟨g, cap, rfl⟩⟩
    cases sp <;> simp [Builtin.append_, run_underlying Try.underlying22, sizeOf, typeInfo, hi0, hz1, Builtin.lenOf, hnc, Builtin.firstCells, storeCells, hld]
  · obtain ⟨ad, rfl, hsrc⟩ := hpos (by omega)
    obtain ⟨v', w', hr, h2, h3, h4⟩ := run_append_own (P := Try.prog) w base 22 ty 38 i0 _ 2 16 Try.underlying22 hi0 hz0 hz1 hz2 rfl (by decide) _ n xs hown ad m c cs hl hsrc h1 (by simp only [maxLen]; omega) (by omega) hbase
    refine ⟨v', w', hr, h2, h3, ?_⟩
    obtain ⟨k, hk⟩ : ∃ k, n + m = k + 1 := ⟨n + m - 1, by omega⟩
    rw [hk] at h2 ⊢
    exact ownsRow_succ h2

theorem eql_bin (a1 a2 n1 n2 : Int) (w : World) : (Op.equalIn 10000 36 (.agg #[.int .i64 a1, .int .i64 n1]) (.agg #[.int .i64 a2, .int .i64 n2])).run Try.prog w = .ok (a1 == a2 && n1 == n2) w := by
  have u3 := Try.underlying3
  have a3 := Try.isAgg3
  have z3 := Try.sizeOf3
  have hS : Try.prog.underlying 36 = some (.struct (Try.prog.fieldsOf 36)) := by kernel_rfl
  have hp : Try.prog.stoodInHeld 36 = false := by kernel_rfl
  rw [show (10000 : Nat) = 9999 + 1 from rfl, run_equalIn_agg w 9999 36 _ _ hS hp]
  simp only [Program.fieldsOf, Try.underlying36]
  go_simp
  by_cases h1 : a1 = a2 <;> by_cases h2 : n1 = n2 <;> simp [h1, h2]
theorem neq_b (a1 a2 n1 n2 : Int) (w : World) : (binOp .neq 36 (.agg #[.int .i64 a1, .int .i64 n1]) (.agg #[.int .i64 a2, .int .i64 n2])).run Try.prog w = .ok (.bool (!(a1 == a2 && n1 == n2))) w := by
  rw [run_neq_struct, eql_bin]; rfl

set_option maxRecDepth 100000 in
set_option maxHeartbeats 2000000 in
theorem blocks_c (a a' : Option Addr) (c c' : Nat) (l l' : List (Nat × Nat)) (B : Nat) (w : World) (h : Blks B w a l) (h' : Blks B w a' l') (hB : B ≤ w.heap.size) :
    Calls Try.prog 13 #[.slice a l.length c, .slice a' l'.length c'] w fun e w' => e = .returned (.bool (decide (l = l'))) ∧ Below w.heap.size w w' := by
  have hneq := neq_b
  have hl := h.1
  have hl' := h'.1
  by_cases hL : l.length = l'.length
  · have d0 : ((l.length : Int) != (l'.length : Int)) = false := by simp; omega
    have HL := hide hL
    have hLI : (l.length : Int) ≤ (l'.length : Int) := by omega
    clear hL
    go_enter Try.func13, Try.ntmps13
    go_wp2
    go_loopw [5] (fun i wr => ∃ k : Nat, k ≤ l.length ∧ i = .int .i64 k ∧ Below w.heap.size w wr ∧ Hid (l.take k = l'.take k)) (fun i _ => l.length - (intOf i).toNat)
    case atStart => exact ⟨0, Nat.zero_le _, rfl, Below.refl _ _, rfl⟩
    case round =>
      obtain ⟨k, hk, rfl, hb, HT⟩ := hrel
      have hsz := hb.size
      by_cases hlt : k < l.length
      · have hlt' : k < l'.length := by have := unhide HL; omega
        obtain ⟨p, n, hx⟩ : ∃ p n, l[k]? = some (p, n) := ⟨l[k].1, l[k].2, List.getElem?_eq_getElem hlt⟩
        obtain ⟨p', n', hy⟩ : ∃ p n, l'[k]? = some (p, n) := ⟨l'[k].1, l'[k].2, List.getElem?_eq_getElem hlt'⟩
        obtain ⟨b, off, rfl, hbB, hc0, hc1⟩ := (h.below (hb.mono hB)).at hx
        obtain ⟨b', off', rfl, hbB', hd0, hd1⟩ := (h'.below (hb.mono hB)).at hy
        have hkI : (k : Int) < (l.length : Int) := by omega
        have hkI' : (k : Int) < (l'.length : Int) := by omega
        have hq : b < wr.heap.size := by omega
        have hq' : b' < wr.heap.size := by omega
        by_cases heq : p = p' ∧ n = n'
        · obtain ⟨rfl, rfl⟩ := heq
          have HT2 : Hid (l.take (k + 1) = l'.take (k + 1)) := by
            show _ = _
            rw [List.take_add_one, List.take_add_one, unhide HT, hx, hy]
          have d1 : (!((p : Int) == (p : Int) && (n : Int) == (n : Int))) = false := by simp
          clear hx hy
          go_wp2
          go_quiet (fail)
          have hbn := below_drewN hb nq
          clear hc0 hc1 hd0 hd1 hq hq'
          generalize wr.drewN nq = wq at *
          go_wp2
          go_roundw
          case rel => exact ⟨k + 1, by omega, by go_num, hbn, HT2⟩
          case measure => simp [intOf]; omega
        · have Hne : Hid (decide (l = l') = false) := by
            show _ = _
            refine decide_eq_false fun e => heq ?_
            subst e
            rw [hx] at hy
            simpa using hy
          have d1 : (!((p : Int) == (p' : Int) && (n : Int) == (n' : Int))) = true := by
            simp
            omega
          clear hx hy heq
          go_wp2
          go_quiet (fail)
          have hbn := below_drewN hb nq
          clear hc0 hc1 hd0 hd1 hq hq'
          generalize wr.drewN nq = wq at *
          go_wp2
          go_ret
          exact ⟨by rw [unhide Hne]; rfl, hbn⟩
      · obtain rfl : k = l.length := by omega
        have Heq : Hid (decide (l = l') = true) := by
          show _ = _
          refine decide_eq_true ?_
          have := unhide HT
          rw [List.take_of_length_le (Nat.le_refl _), List.take_of_length_le (by have := unhide HL; omega)] at this
          exact this
        go_wp2
        go_ret
        exact ⟨by rw [unhide Heq]; rfl, hb⟩
  · have d0 : ((l.length : Int) != (l'.length : Int)) = true := by simp; omega
    have Hne : Hid (decide (l = l') = false) := by
      show _ = _
      refine decide_eq_false fun e => hL ?_
      rw [e]
    clear hL
    go_enter Try.func13, Try.ntmps13
    go_wp2
    go_ret
    exact ⟨by rw [unhide Hne]; rfl, Below.refl _ _⟩

end Go.Proofs.Ytgbbcfngncofgaa

/- Plain: words that are taken and given back at once; one ask more. -/
namespace Go.Proofs.Ytgbbcfngncofgaa
set_option linter.unusedSimpArgs false
set_option linter.unusedVariables false

theorem getD_append_left {α : Type} {l r : List α} {i : Nat} {d : α} (h : i < l.length) : (l ++ r).getD i d = l.getD i d := by
  rw [List.getD_eq_getElem?_getD, List.getD_eq_getElem?_getD, List.getElem?_append_left h]
theorem getD_append_len {α : Type} {l : List α} {x d : α} : (l ++ [x]).getD l.length d = x := by
  rw [List.getD_eq_getElem?_getD, List.getElem?_append_right (Nat.le_refl _), Nat.sub_self]; rfl

/-- One ask more. -/
theorem stK_snoc (S : Nat) (pol : Int) (sc : List (Int × Int)) (x : Int × Int) : stK S pol (sc ++ [x]) sc.length = stK S pol sc sc.length ∧ stK S pol (sc ++ [x]) (sc.length + 1) = (stepS S pol (stK S pol sc sc.length) x).2.2 ∧
    codeK S pol (sc ++ [x]) sc.length = (stepS S pol (stK S pol sc sc.length) x).1 ∧ atK S pol (sc ++ [x]) sc.length = (stepS S pol (stK S pol sc sc.length) x).2.1 := by
  have h := stepS_same S pol (sc := sc ++ [x]) (sc' := sc) (k := sc.length) (fun i hi => getD_append_left hi)
  refine ⟨h, ?_, ?_, ?_⟩
  · rw [stK, h, getD_append_len]
  · rw [codeK, h, getD_append_len]
  · rw [atK, h, getD_append_len]

/-- What a take comes to: refused, with all as it was, or taken. -/
theorem step_take {S : Nat} (pol : Int) {s : St} (hO : Ok S s) (n : Int) :
    ((stepS S pol s (1, n)).1 ≠ 0 ∧ (stepS S pol s (1, n)).2.2 = s) ∨
    ∃ (i k : Nat) (b : Nat × Nat), n = (k : Int) ∧ 1 ≤ k ∧ s.bl[i]? = some b ∧ k ≤ b.2 ∧ findK (pref pol s.en) k s.bl s.bl.length = some i ∧ stepS S pol s (1, n) = (0, b.1, ⟨cutB s.bl i k, updT s.tk (b.1 : Nat) (some k), b.1 + k⟩) := by
  unfold stepS
  rw [if_pos rfl]
  by_cases h : n < 1 ∨ (S : Int) < n
  · rw [if_pos h]; exact .inl ⟨by simp, rfl⟩
  · rw [if_neg h]
    obtain ⟨k, rfl⟩ : ∃ k : Nat, n = (k : Int) := ⟨n.toNat, by omega⟩
    simp only [Int.toNat_natCast]
    cases hf : findK (pref pol s.en) k s.bl s.bl.length with
    | none => exact .inl ⟨by simp, rfl⟩
    | some i =>
      obtain ⟨h1, h2⟩ := findK_some hf
      exact .inr ⟨i, k, _, rfl, by omega, getD_some h1, h2, hf, rfl⟩

theorem step_give {S : Nat} {pol : Int} {s : St} {p k : Nat} (h : s.tk (p : Int) = some k) : stepS S pol s (2, (p : Int)) = (0, 0, ⟨freeB s.bl (p, k), updT s.tk (p : Int) none, s.en⟩) := by
  unfold stepS
  rw [if_neg (show ¬ (2 : Int) = 1 by decide), if_pos rfl]
  simp only [h, Int.toNat_natCast]

/-- Cut off and put back: as before. -/
theorem cut_free {S : Nat} {l : List (Nat × Nat)} {i k : Nat} {b : Nat × Nat} (ha : Apart S l) (hi : l[i]? = some b) (h1 : 1 ≤ k) (hk : k ≤ b.2) : freeB (cutB l i k) (b.1, k) = l ∧ cutB l i k ≠ l := by
  obtain ⟨c1, c2⟩ := cut_ok hi ha h1 hk
  have hbm := List.mem_of_getElem? hi
  have hb := ha.1 b hbm
  obtain ⟨f1, f2⟩ := free_ok (b := (b.1, k)) c1 h1 (by simp only; omega) (fun j hj hjb => ((c2 j).1 hj).2 hjb)
  refine ⟨apart_uniq f1 ha fun j => ?_, fun e => ?_⟩
  · rw [f2 j, c2 j]
    simp only
    constructor
    · rintro (h | h)
      · exact h.1
      · exact ⟨b, hbm, by omega⟩
    · intro h
      by_cases hj : b.1 ≤ j ∧ j < b.1 + k
      · exact .inr hj
      · exact .inl ⟨h, hj⟩
  · have : inB l b.1 := ⟨b, hbm, by omega⟩
    have h2 := (c2 b.1).1 (by rw [e]; exact this)
    exact h2.2 (by omega)

end Go.Proofs.Ytgbbcfngncofgaa

/- Walks: FreeBack. -/
namespace Go.Proofs.Ytgbbcfngncofgaa
set_option linter.unusedSimpArgs false
set_option linter.unusedVariables false
open Go.RowKit

/-- What was told, in a box. -/
structure FBox (W : World) (fb : Nat) (ac : Option Addr) (nc cc : Nat) (aa : Option Addr) (na ca : Nat) (af : Option Addr) (nf cf : Nat) : Prop where
  c0 : W.cell? ⟨fb, 0, none⟩ = some (.slice ac nc cc)
  c1 : W.cell? ⟨fb, 1, none⟩ = some (.slice aa na ca)
  c2 : W.cell? ⟨fb, 2, none⟩ = some (.slice af nf cf)
theorem FBox.lt {W : World} {fb : Nat} {ac : Option Addr} {nc cc : Nat} {aa : Option Addr} {na ca : Nat} {af : Option Addr} {nf cf : Nat} (h : FBox W fb ac nc cc aa na ca af nf cf) : fb < W.heap.size := World.block_lt_of_cell? W _ h.c0
theorem FBox.below {W W' : World} {fb : Nat} {ac : Option Addr} {nc cc : Nat} {aa : Option Addr} {na ca : Nat} {af : Option Addr} {nf cf : Nat} (h : FBox W fb ac nc cc aa na ca af nf cf) {B : Nat} (hb : Below B W W') (hB : fb < B) : FBox W' fb ac nc cc aa na ca af nf cf :=
  ⟨(hb.cell (p := ⟨fb, 0, none⟩) hB).trans h.c0, (hb.cell (p := ⟨fb, 1, none⟩) hB).trans h.c1, (hb.cell (p := ⟨fb, 2, none⟩) hB).trans h.c2⟩
theorem fbox_new (w2 : World) (ac : Option Addr) (nc cc : Nat) (aa : Option Addr) (na ca : Nat) (af : Option Addr) (nf cf : Nat) : FBox (w2.alloc (.cells #[.slice ac nc cc, .slice aa na ca, .slice af nf cf] 27)) w2.heap.size ac nc cc aa na ca af nf cf :=
  ⟨by simp [go_sem], by simp [go_sem], by simp [go_sem]⟩

theorem Blks.kept {B : Nat} {w w' : World} {a : Option Addr} {l : List (Nat × Nat)} (h : Blks B w a l) (hk : ∀ x : Addr, a = some x → w'.heap[x.block]? = w.heap[x.block]?) : Blks B w' a l := by
  refine ⟨h.1, fun hne => ?_⟩
  obtain ⟨b, off, rfl, hB, hc⟩ := h.2 hne
  have hb := hk _ rfl
  refine ⟨b, off, rfl, hB, fun k v hv => ?_⟩
  rw [World.cell?_of_block (a := ⟨b, off + k * 2, none⟩) hb, World.cell?_of_block (a := ⟨b, off + k * 2 + 1, none⟩) hb]
  exact hc k v hv
theorem Blks.lt {B : Nat} {w : World} {l : List (Nat × Nat)} {x : Addr} (h : Blks B w (some x) l) (hne : l ≠ []) : x.block < B := by
  obtain ⟨b, off, e, hB, _⟩ := h.2 hne
  injection e with e
  subst e
  exact hB

/-- What is told of one ask more. -/
theorem plIs_more {z pol : Int} {sc : List (Int × Int)} {x : Int × Int} {C A C' A' : List Int} {F F' : List (Nat × Nat)} (h : PlIs z pol sc C A F) (h' : PlIs z pol (sc ++ [x]) C' A' F') (hE : playE z pol sc.length = 0) (hE' : playE z pol (sc ++ [x]).length = 0) :
    C'.length = sc.length + 1 ∧ A'.length = sc.length + 1 ∧ F = (stK z.toNat pol sc sc.length).bl ∧ F' = (stepS z.toNat pol (stK z.toNat pol sc sc.length) x).2.2.bl ∧
    C'[sc.length]? = some (stepS z.toNat pol (stK z.toNat pol sc sc.length) x).1 ∧ A'[sc.length]? = some (((stepS z.toNat pol (stK z.toNat pol sc sc.length) x).2.1 : Nat) : Int) := by
  obtain ⟨rfl, rfl, rfl⟩ := h.2 hE
  obtain ⟨rfl, rfl, rfl⟩ := h'.2 hE'
  obtain ⟨k1, k2, k3, k4⟩ := stK_snoc z.toNat pol sc x
  have hl : (sc ++ [x]).length = sc.length + 1 := by simp
  rw [hl]
  refine ⟨codesL_len _ _ _ _, atsL_len _ _ _ _, rfl, by rw [k2], ?_, ?_⟩
  · rw [codesL_succ, List.getElem?_append_right (by rw [codesL_len]; omega), codesL_len, Nat.sub_self, k3]; rfl
  · rw [atsL_succ, List.getElem?_append_right (by rw [atsL_len]; omega), atsL_len, Nat.sub_self, k4]; rfl

theorem playE_len {z pol : Int} {n m : Nat} (hn : n ≤ 100) (hm : m ≤ 100) : playE z pol n = playE z pol m := by
  unfold playE
  split
  · rfl
  · split
    · rfl
    · rw [if_neg (by omega), if_neg (by omega)]

set_option maxRecDepth 100000 in
set_option maxHeartbeats 4000000 in
theorem freeBack_c (z pol : Int) (a : Option Addr) (c : Nat) (sc : List (Int × Int)) (n : Int) (w : World) (hA : Asks w.heap.size w a sc) (hI : I64s sc) (hre : sc.length ≤ 9000000000000000000) (hn1 : -9223372036854775808 ≤ n) (hn2 : n ≤ 9223372036854775807) :
    Calls Try.prog 7 #[.int .i64 z, .int .i64 pol, .slice a sc.length c, .int .i64 n] w fun e w' => e = .returned (.bool true) ∧ Below w.heap.size w w' := by
  by_cases hlen : sc.length ≤ 98
  · have Hc := hide (play_c z pol a c sc w.heap.size w hA (Nat.le_refl _) hI)
    have HA := hide hA
    have HI := hide hI
    clear hA hI
    go_enter Try.func7, Try.ntmps7
    go_wp2_with fail
    refine (unhide Hc).mono ?_
    rintro e w2 ⟨hR, hb2⟩
    obtain ⟨ac, cc, aa, ca, af, cf, C, A, F, rfl, nc, na, nf, hIs, hca, _⟩ := hR
    have hs2 := hb2.size
    obtain ⟨W3, hW3⟩ : ∃ W3, w2.alloc (.cells #[.slice ac C.length cc, .slice aa A.length ca, .slice af F.length cf] 27) = W3 := ⟨_, rfl⟩
    have hb3 : Below w2.heap.size w2 W3 := by rw [← hW3]; exact (Below.refl _ _).alloc (Nat.le_refl _) _
    have hs3 : w2.heap.size < W3.heap.size := by rw [← hW3]; simp
    have hF3 : FBox W3 w2.heap.size ac C.length cc aa A.length ca af F.length cf := by rw [← hW3]; exact fbox_new ..
    clear Hc
    -- the script with one take more
    have hown4 : (W3.alloc (.cells #[] 38)).ownsRow W3.heap.size 38 2 (.slice (some ⟨W3.heap.size, 0, none⟩) 0 0) 0 [] := ⟨rfl, .inr ⟨W3.heap.size, 0, #[], rfl, Nat.le_refl _, heap_alloc_new _ _, Nat.le_refl _, by omega, rfl, rfl⟩⟩
    have hb4 : Below W3.heap.size W3 (W3.alloc (.cells #[] 38)) := (Below.refl _ _).alloc (Nat.le_refl _) _
    have hA4 : Asks w.heap.size (W3.alloc (.cells #[] 38)) a sc := (unhide HA).below ((hb2.trans (hb3.mono hs2)).trans (hb4.mono (by omega)))
    obtain ⟨v5, w5, hr5, hown5, hg5, g5, c5, rfl⟩ := run_append_q (W3.alloc (.cells #[] 38)) W3.heap.size 22 W3.heap.size 0 0 [] hown4 a sc.length c (cellsQ sc) (cellsQ_len sc) (fun h => hA4.cells h) (fun v hv => cellsQ_one hv) (by omega) (by simp)
    simp only [Nat.zero_add, List.nil_append] at hown5 hr5
    have hb5 : Below W3.heap.size W3 w5 := hb4.grown hg5 (by simp) (fun k e => by injection e with e; omega)
    have hs5 := hb5.size
    obtain ⟨v7, w7, hr7, hown7, hg7, g7, c7, rfl⟩ := run_append_q (w5.alloc (.cells #[.int .i64 1, .int .i64 n] 38)) W3.heap.size 22 g5 c5 sc.length (cellsQ sc) (hown5.alloc _) (some ⟨w5.heap.size, 0, none⟩) 1 1 [.int .i64 1, .int .i64 n] rfl (fun h => ⟨_, rfl, cell_two_at _ _ _ _ _ rfl⟩) (by simp [Value.oneCell']) (by omega) (by simp; omega)
    have hb7 : Below W3.heap.size W3 w7 := (hb5.alloc hs5 _).grown hg7 (by simp; omega) (fun k e => ((hown5.alloc (.cells #[.int .i64 1, .int .i64 n] 38)).lt k e).1)
    have hs7 := hb7.size
    have hl1 : (sc ++ [((1 : Int), n)]).length = sc.length + 1 := by simp
    rw [← cellsQ_snoc, ← hl1] at hown7
    have hA7 := asks_of_owns hown7 (by omega)
    have HI7 : Hid (I64s (sc ++ [((1 : Int), n)])) := fun x hx => by
      rcases List.mem_append.1 hx with hx | hx
      · exact unhide HI x hx
      · simp at hx; subst hx; exact ⟨by simp, hn1, hn2⟩
    have Hc7 := hide (play_c z pol (some ⟨g7, 0, none⟩) c7 (sc ++ [((1 : Int), n)]) w7.heap.size w7 hA7 (Nat.le_refl _) (unhide HI7))
    rw [hl1] at Hc7 hown7
    have H5 := hide hr5
    have H7 := hide hr7
    have Hown7 := hide hown7
    have HEE : Hid (playE z pol (sc ++ [((1 : Int), n)]).length = playE z pol sc.length) := playE_len (by rw [hl1]; omega) (by omega)
    have HF3 := hide hF3
    have Nf := hide nf
    clear hown4 hA4 hr5 hown5 hg5 hr7 hown7 hg7 hA7 hF3 nc na nf hl1 hb4
    go_wp2_with (first
      | (at_builtin; refine Lib.wpList_append_run _ rfl _ _ 22 22 rfl _ _ rfl rfl _ _ (unhide H5) ?_)
      | (at_builtin; refine Lib.wpList_append_run _ rfl _ _ 22 22 rfl _ _ rfl rfl _ _ (unhide H7) ?_))
    refine (unhide Hc7).mono ?_
    rintro e w8 ⟨hR, hb8⟩
    obtain ⟨ac', cc', aa', ca', af', cf', C', A', F', rfl, nc', na', nf', hIs', hca', hnw'⟩ := hR
    have hs8 := hb8.size
    rw [unhide HEE]
    obtain ⟨W9, hW9⟩ : ∃ W9, w8.alloc (.cells #[.slice ac' C'.length cc', .slice aa' A'.length ca', .slice af' F'.length cf'] 27) = W9 := ⟨_, rfl⟩
    have hb9 : Below w8.heap.size w8 W9 := by rw [← hW9]; exact (Below.refl _ _).alloc (Nat.le_refl _) _
    have hs9 : w8.heap.size < W9.heap.size := by rw [← hW9]; simp
    have hF9 : FBox W9 w8.heap.size ac' C'.length cc' aa' A'.length ca' af' F'.length cf' := by rw [← hW9]; exact fbox_new ..
    have hb39 : Below W3.heap.size W3 W9 := hb7.trans ((hb8.mono hs7).trans (hb9.mono (by omega)))
    have hbw9 : Below w.heap.size w W9 := (hb2.trans (hb3.mono hs2)).trans (hb39.mono (by omega))
    clear Hc7
    by_cases hE : playE z pol sc.length = 0
    · have hE' : playE z pol (sc ++ [((1 : Int), n)]).length = 0 := (unhide HEE).trans hE
      obtain ⟨m1, m2, m3, m4, m5, m6⟩ := plIs_more (unhide hIs) (unhide hIs') hE hE'
      have hz1 := playE_ok hE
      have hO := ok_stK (S := z.toNat) (by omega) pol sc sc.length
      obtain ⟨bC, oC, hac, hbC, yC⟩ := nc'.at m5
      obtain ⟨bA, oA, haa, hbA, yA⟩ := na'.at m6
      subst hac haa
      have yC9 := (hb9.cell (p := ⟨bC, oC + sc.length, none⟩) hbC).trans yC
      have yA9 := (hb9.cell (p := ⟨bA, oA + sc.length, none⟩) hbA).trans yA
      have hbC9 : bC < W9.heap.size := by omega
      have hbA9 : bA < W9.heap.size := by omega
      have hFf : FBox W9 w2.heap.size ac C.length cc aa A.length ca af F.length cf := (unhide HF3).below hb39 hs3
      have t2 := hFf.c2
      have tl := hFf.lt
      have u0 := hF9.c0
      have u1 := hF9.c1
      have u2 := hF9.c2
      have Nf9 : Hid (Blks W9.heap.size W9 af F) := (((unhide Nf).below hb3).mono (by omega)).below hb39 |>.mono (by omega)
      have Nf9' : Hid (Blks W9.heap.size W9 af' F') := (nf'.below hb9).mono (by omega)
      have d1 : ((C'.length : Int) != (sc.length : Int) + 1) = false := by simp; omega
      have d2 : ((A'.length : Int) != (sc.length : Int) + 1) = false := by simp; omega
      have i1 : (sc.length : Int) < (C'.length : Int) := by omega
      have i2 : (sc.length : Int) < (A'.length : Int) := by omega
      rw [hE]
      rcases step_take pol hO n with ⟨c1, c2⟩ | ⟨i, k, b, hnk, hk1, hbi, hkb, _, hst⟩
      · have hFF : F = F' := by rw [m3, m4, c2]
        have Hbl := hide (blocks_c af af' cf cf' F F' W9.heap.size W9 (unhide Nf9) (unhide Nf9') (Nat.le_refl _))
        rw [decide_eq_true hFF] at Hbl
        clear hFF m1 m2 m3 m4 m5 m6 yC yA hO c2 hIs hIs' nc' na' nf' hE hE' HEE hz1
        generalize (stepS z.toNat pol (stK z.toNat pol sc sc.length) (1, n)).1 = cd at *
        have d3 : (cd != 0) = true := by simpa using c1
        clear c1
        go_wp2_with (go_at_call 13; go_must (refine (unhide Hbl).mono ?_); go_must (rintro e w10 ⟨he, hb10⟩; subst he))
        go_ret
        exact ⟨rfl, hbw9.trans (hb10.mono (by omega))⟩
      · obtain ⟨q1, q2⟩ := cut_free hO.ap hbi hk1 hkb
        have hF'e : F' = cutB (stK z.toNat pol sc sc.length).bl i k := by rw [m4, hst]
        have hFne : ¬ F = F' := by rw [hF'e, m3]; exact fun e => q2 e.symm
        rw [hst] at yC9 yA9
        simp only at yC9 yA9
        have hp256 := (hO.ap.1 b (List.mem_of_getElem? hbi)).2
        -- the script with a give more
        have hl2 : ((sc ++ [((1 : Int), n)]) ++ [((2 : Int), ((b.1 : Nat) : Int))]).length = sc.length + 1 + 1 := by simp
        have hown9 : W9.ownsRow W3.heap.size 38 2 (.slice (some ⟨g7, 0, none⟩) (sc.length + 1) c7) (sc.length + 1) (cellsQ (sc ++ [((1 : Int), n)])) := ownsRow_below (ownsRow_below (unhide Hown7) hb8) hb9
        obtain ⟨v11, w11, hr11, hown11, hg11, g11, c11, rfl⟩ := run_append_q (W9.alloc (.cells #[.int .i64 2, .int .i64 ((b.1 : Nat) : Int)] 38)) W3.heap.size 22 g7 c7 (sc.length + 1) _ (hown9.alloc _) (some ⟨W9.heap.size, 0, none⟩) 1 1 [.int .i64 2, .int .i64 ((b.1 : Nat) : Int)] rfl (fun h => ⟨_, rfl, cell_two_at _ _ _ _ _ rfl⟩) (by simp [Value.oneCell']) (by omega) (by simp; omega)
        have hb11 : Below W3.heap.size W3 w11 := (hb39.alloc (by omega) _).grown hg11 (by simp; omega) (fun k e => ((hown9.alloc (.cells #[.int .i64 2, .int .i64 ((b.1 : Nat) : Int)] 38)).lt k e).1)
        have hs11 := hb11.size
        have hg711 : ∀ k, k < W9.heap.size → k ≠ g7 → w11.heap[k]? = W9.heap[k]? := fun k hk hne => by
          rw [hg11.block k (by simp; omega) (by simpa using hne), Below.heap_alloc _ _ _ hk]
        have hg7r : ∃ cs, W9.heap[g7]? = some (.cells cs 38) := by
          rcases hown9.2 with ⟨e, _⟩ | ⟨g', cap', cur, e, _, h2, _⟩
          · cases e
          · injection e with e1; injection e1 with e1; injection e1 with e1; subst e1; exact ⟨cur, h2⟩
        have hg7lt : g7 < w7.heap.size := ((unhide Hown7).lt g7 rfl).2
        rw [Nat.add_assoc, ← cellsQ_snoc, show sc.length + (1 + 1) = sc.length + 1 + 1 from rfl, ← hl2] at hown11
        have hA11 := asks_of_owns hown11 (by omega)
        have HI11 : Hid (I64s ((sc ++ [((1 : Int), n)]) ++ [((2 : Int), ((b.1 : Nat) : Int))])) := fun x hx => by
          rcases List.mem_append.1 hx with hx | hx
          · exact unhide HI7 x hx
          · simp at hx; subst hx; exact ⟨by simp, by simp only; omega, by simp only; omega⟩
        have Hc11 := hide (play_c z pol (some ⟨g11, 0, none⟩) c11 _ w11.heap.size w11 hA11 (Nat.le_refl _) (unhide HI11))
        rw [hl2] at Hc11
        have hE2 : playE z pol ((sc ++ [((1 : Int), n)]) ++ [((2 : Int), ((b.1 : Nat) : Int))]).length = 0 := by rw [← hE]; exact playE_len (by rw [hl2]; omega) (by omega)
        have v2 : w11.cell? ⟨w2.heap.size, 2, none⟩ = some (.slice af F.length cf) := (hb11.cell (p := ⟨w2.heap.size, 2, none⟩) hs3).trans (unhide HF3).c2
        have hgb : w11.heap[w8.heap.size]? = W9.heap[w8.heap.size]? := hg711 _ hs9 (by omega)
        have v3 : w11.cell? ⟨w8.heap.size, 2, none⟩ = some (.slice af' F'.length cf') := (World.cell?_of_block (a := ⟨w8.heap.size, 2, none⟩) hgb).trans hF9.c2
        have Nf11 : Hid (Blks w11.heap.size w11 af F) := ((((unhide Nf).below hb3).mono (by omega)).below hb11).mono (by omega)
        have Nf11' : Hid (Blks w11.heap.size w11 af' F') := by
          by_cases hne : F' = []
          · rw [hne]; exact blks_nil _ _ _
          · refine (Blks.kept (unhide Nf9') fun x hx => ?_).mono (by have := hg11.size; simp at this; omega)
            subst hx
            have h1 := unhide hnw' x (.inr (.inr rfl))
            have h2 := (unhide Nf9').lt hne
            exact hg711 _ h2 (by omega)
        have hs9' : W9.heap.size ≤ w11.heap.size := by have := hg11.size; simp at this; omega
        have hl11 : w2.heap.size < w11.heap.size := by omega
        have hl12 : w8.heap.size < w11.heap.size := by omega
        have H11 := hide hr11
        have hbw11 : Below w.heap.size w w11 := (hb2.trans (hb3.mono hs2)).trans (hb11.mono (by omega))
        have HFF : Hid (∀ C'' A'' F'', PlIs z pol ((sc ++ [((1 : Int), n)]) ++ [((2 : Int), ((b.1 : Nat) : Int))]) C'' A'' F'' → F = F'') := by
          intro C'' A'' F'' h
          obtain ⟨_, _, _, k4, _⟩ := plIs_more (unhide hIs') h hE' hE2
          have hst2 : stK z.toNat pol (sc ++ [((1 : Int), n)]) (sc ++ [((1 : Int), n)]).length = ⟨cutB (stK z.toNat pol sc sc.length).bl i k, updT (stK z.toNat pol sc sc.length).tk (b.1 : Nat) (some k), b.1 + k⟩ := by
            have := (stK_snoc z.toNat pol sc ((1 : Int), n)).2.1
            rw [show (sc ++ [((1 : Int), n)]).length = sc.length + 1 by simp, this, hst]
          rw [k4, hst2, step_give (p := b.1) (k := k) (updT_same _ _ _), m3]
          exact q1.symm
        have HFne := hide hFne
        have HE2 := hide hE2
        clear hown9 hown11 hg11 hg711 hg7r hr11 hA11 m1 m2 m3 m4 m5 m6 yC yA hO hIs hIs' nc' na' nf' hE hE' hst q1 q2 hbi hF'e hFne t2 hE2 hgb
        have d3 : ((0 : Int) != 0) = false := by simp
        go_wp2_with (first
          | (at_builtin; refine Lib.wpList_append_run _ rfl _ _ 22 22 rfl _ _ rfl rfl _ _ (unhide H11) ?_))
        refine (unhide Hc11).mono ?_
        rintro e w12 ⟨hR, hb12⟩
        obtain ⟨ac2, cc2, aa2, ca2, af2, cf2, C2, A2, F2, rfl, nc2, na2, nf2, hIs2, hca2, _⟩ := hR
        have hs12 := hb12.size
        rw [unhide HE2]
        obtain ⟨W13, hW13⟩ : ∃ W13, w12.alloc (.cells #[.slice ac2 C2.length cc2, .slice aa2 A2.length ca2, .slice af2 F2.length cf2] 27) = W13 := ⟨_, rfl⟩
        have hb13 : Below w12.heap.size w12 W13 := by rw [← hW13]; exact (Below.refl _ _).alloc (Nat.le_refl _) _
        have hs13 : w12.heap.size < W13.heap.size := by rw [← hW13]; simp
        have x2 : W13.cell? ⟨w12.heap.size, 2, none⟩ = some (.slice af2 F2.length cf2) := by rw [← hW13]; simp [go_sem]
        have hbb : Below w11.heap.size w11 W13 := hb12.trans (hb13.mono hs12)
        have y2 := (hbb.cell (p := ⟨w2.heap.size, 2, none⟩) hl11).trans v2
        have y3 := (hbb.cell (p := ⟨w8.heap.size, 2, none⟩) hl12).trans v3
        have e1 : F = F2 := unhide HFF _ _ _ (unhide hIs2)
        have Hb1 : Hid (Calls Try.prog 13 #[.slice af F.length cf, .slice af2 F2.length cf2] W13 fun e w' => e = .returned (.bool true) ∧ Below W13.heap.size W13 w') := by
          have := blocks_c af af2 cf cf2 F F2 W13.heap.size W13 (((unhide Nf11).below hbb).mono (by omega)) ((nf2.below hb13).mono (by omega)) (Nat.le_refl _)
          rw [decide_eq_true e1] at this
          exact this
        have Hb2 : Hid (∀ w', Below W13.heap.size W13 w' → Calls Try.prog 13 #[.slice af F.length cf, .slice af' F'.length cf'] w' fun e w'' => e = .returned (.bool false) ∧ Below w'.heap.size w' w'') := fun w' hw' => by
          have := blocks_c af af' cf cf' F F' W13.heap.size w' ((((unhide Nf11).below hbb).mono (by omega)).below hw') ((((unhide Nf11').below hbb).mono (by omega)).below hw') hw'.size
          rw [decide_eq_false (unhide HFne)] at this
          exact this
        have hbw13 : Below w.heap.size w W13 := hbw11.trans (hbb.mono (by omega))
        have k1 : w2.heap.size < W13.heap.size := by omega
        have k2 : w8.heap.size < W13.heap.size := by omega
        clear nc2 na2 nf2 e1 v2 v3 Hc11
        go_wp2_with fail
        refine (unhide Hb1).mono ?_
        rintro e w14 ⟨rfl, hb14⟩
        have z2 := (hb14.cell (p := ⟨w2.heap.size, 2, none⟩) k1).trans y2
        have z3 := (hb14.cell (p := ⟨w8.heap.size, 2, none⟩) k2).trans y3
        have k3 : w2.heap.size < w14.heap.size := by have := hb14.size; omega
        have k4 : w8.heap.size < w14.heap.size := by have := hb14.size; omega
        clear y2 y3 x2
        go_wp2_with fail
        refine (unhide Hb2 _ hb14).mono ?_
        rintro e w15 ⟨rfl, hb15⟩
        go_wp2
        go_ret
        exact ⟨rfl, (hbw13.trans (hb14.mono (by omega))).trans (hb15.mono (by have := hb14.size; omega))⟩
    · generalize playE z pol sc.length = E at *
      have d0 : (E != 0) = true := by simpa using hE
      have d1 : (E == E) = true := by simp
      clear hE
      go_wp2
      go_ret
      exact ⟨rfl, hbw9⟩
  · clear hA hI
    have d0 : decide ((100 : Int) < (sc.length : Int) + 2) = true := decide_eq_true (by omega)
    go_enter Try.func7, Try.ntmps7
    go_wp2
    go_ret
    exact ⟨rfl, Below.refl _ _⟩

end Go.Proofs.Ytgbbcfngncofgaa

/- Walks: FreedSame. -/
namespace Go.Proofs.Ytgbbcfngncofgaa
set_option linter.unusedSimpArgs false
set_option linter.unusedVariables false
open Go.RowKit

set_option maxRecDepth 100000 in
set_option maxHeartbeats 2000000 in
theorem freedSame_c (ac aa af ac' aa' af' : Option Addr) (cc ca cf cc' ca' cf' : Nat) (C A : List Int) (F : List (Nat × Nat)) (B : Nat) (w : World) (hB : B ≤ w.heap.size) (h1 : Nums B w ac C) (h2 : Nums B w aa A) (h3 : Blks B w af F) (h1' : Nums B w ac' C) (h2' : Nums B w aa' A) (h3' : Blks B w af' F) :
    Calls Try.prog 10 #[.agg #[.slice ac C.length cc, .slice aa A.length ca, .slice af F.length cf], .agg #[.slice ac' C.length cc', .slice aa' A.length ca', .slice af' F.length cf']] w fun e w' => e = .returned (.bool true) ∧ Below w.heap.size w w' := by
  have hl := h1.1
  obtain ⟨W1, hW1⟩ : ∃ W1, w.alloc (.cells #[.slice ac C.length cc, .slice aa A.length ca, .slice af F.length cf] 27) = W1 := ⟨_, rfl⟩
  have hb1 : Below w.heap.size w W1 := by rw [← hW1]; exact (Below.refl _ _).alloc (Nat.le_refl _) _
  have hs1 : w.heap.size < W1.heap.size := by rw [← hW1]; simp
  have hF1 : FBox W1 w.heap.size ac C.length cc aa A.length ca af F.length cf := by rw [← hW1]; exact fbox_new ..
  obtain ⟨W2, hW2⟩ : ∃ W2, W1.alloc (.cells #[.slice ac' C.length cc', .slice aa' A.length ca', .slice af' F.length cf'] 27) = W2 := ⟨_, rfl⟩
  have hb2 : Below W1.heap.size W1 W2 := by rw [← hW2]; exact (Below.refl _ _).alloc (Nat.le_refl _) _
  have hs2 : W1.heap.size < W2.heap.size := by rw [← hW2]; simp
  have hF2 : FBox W2 W1.heap.size ac' C.length cc' aa' A.length ca' af' F.length cf' := by rw [← hW2]; exact fbox_new ..
  have hF1' := hF1.below hb2 hs1
  have hbw : Below w.heap.size w W2 := hb1.trans (hb2.mono (by omega))
  have HF1 := hide hF1'
  have HF2 := hide hF2
  have t0 := hF1'.c0
  have u0 := hF2.c0
  have n1 := h1.below (hbw.mono hB)
  have n1' := h1'.below (hbw.mono hB)
  have H2 : Hid (Nums B W2 aa A) := h2.below (hbw.mono hB)
  have H2' : Hid (Nums B W2 aa' A) := h2'.below (hbw.mono hB)
  have H3 : Hid (Blks B W2 af F) := h3.below (hbw.mono hB)
  have H3' : Hid (Blks B W2 af' F) := h3'.below (hbw.mono hB)
  have d0 : ((C.length : Int) != (C.length : Int)) = false := by simp
  clear hF1 hF2 hF1' h1 h2 h3 h1' h2' h3'
  go_enter Try.func10, Try.ntmps10
  go_wp2
  go_loopw [5] (fun i wr => ∃ k : Nat, k ≤ C.length ∧ i = .int .i64 k ∧ Hid (Below W2.heap.size W2 wr)) (fun i _ => C.length - (intOf i).toNat)
  case atStart => exact ⟨0, Nat.zero_le _, rfl, Below.refl _ _⟩
  case round =>
    clear t0 u0
    obtain ⟨k, hk, rfl, Hb⟩ := hrel
    have hb := unhide Hb
    have hsz := hb.size
    have hf1 := (unhide HF1).below hb (by omega)
    have hf2 := (unhide HF2).below hb (by omega)
    have t0 := hf1.c0
    have u0 := hf2.c0
    have tl := hf1.lt
    have ul := hf2.lt
    by_cases hlt : k < C.length
    · have hx : C[k]? = some C[k] := List.getElem?_eq_getElem hlt
      obtain ⟨b, off, rfl, hbB, x0⟩ := (n1.below (hb.mono (by omega))).at hx
      obtain ⟨b', off', rfl, hbB', y0⟩ := (n1'.below (hb.mono (by omega))).at hx
      have hkI : (k : Int) < (C.length : Int) := by omega
      have hq : b < wr.heap.size := by omega
      have hq' : b' < wr.heap.size := by omega
      generalize C[k] = x at *
      have d1 : (x != x) = false := by simp
      clear hx hf1 hf2 n1 n1'
      go_wp2
      go_quiet (fail)
      have hbn := hide (below_drewN hb nq)
      clear x0 y0 hq hq' t0 u0 tl ul
      generalize wr.drewN nq = wq at *
      go_wp2
      go_roundw
      case rel => exact ⟨k + 1, by omega, by go_num, hbn⟩
      case measure => simp [intOf]; omega
    · obtain rfl : k = C.length := by omega
      have t1 := hf1.c1
      have u1 := hf2.c1
      have Hc := hide (ints_c aa aa' ca ca' A B wr ((unhide H2).below (hb.mono (by omega))) ((unhide H2').below (hb.mono (by omega))) (by omega))
      clear hf1 hf2 n1 n1'
      go_wp2_with fail
      refine (unhide Hc).mono ?_
      rintro e w5 ⟨rfl, hb5⟩
      have hs5 := hb5.size
      have hbb : Below W2.heap.size W2 w5 := hb.trans (hb5.mono hsz)
      have hg1 := (unhide HF1).below hbb (by omega)
      have hg2 := (unhide HF2).below hbb (by omega)
      have t2 := hg1.c2
      have u2 := hg2.c2
      have tl5 := hg1.lt
      have ul5 := hg2.lt
      have Hd := hide (blocks_c af af' cf cf' F F B w5 ((unhide H3).below (hbb.mono (by omega))) ((unhide H3').below (hbb.mono (by omega))) (by omega))
      clear hg1 hg2 tl ul t1 u1 Hc
      go_wp2_with fail
      refine (unhide Hd).mono ?_
      rintro e w6 ⟨rfl, hb6⟩
      have hbf : Below w.heap.size w w6 := hbw.trans ((hbb.trans (hb6.mono (by omega))).mono (by omega))
      go_wp2
      go_ret
      exact ⟨by simp, hbf⟩

end Go.Proofs.Ytgbbcfngncofgaa

/- Plain: the other way's yard. -/
namespace Go.Proofs.Ytgbbcfngncofgaa
set_option linter.unusedSimpArgs false
set_option linter.unusedVariables false

/-- One free word more. -/
def addW (l : List (Nat × Nat)) (i : Nat) : List (Nat × Nat) :=
  if 0 < l.length ∧ (l.getD (l.length - 1) (0, 0)).1 + (l.getD (l.length - 1) (0, 0)).2 = i then l.set (l.length - 1) ((l.getD (l.length - 1) (0, 0)).1, (l.getD (l.length - 1) (0, 0)).2 + 1) else l ++ [(i, 1)]

/-- The rows of free words among the first k. -/
def blkK (T : List Bool) : Nat → List (Nat × Nat)
  | 0 => []
  | k + 1 => if T.getD k true = true then blkK T k else addW (blkK T k) k

theorem apart_more {S S' : Nat} {l : List (Nat × Nat)} (h : Apart S l) (hs : S ≤ S') : Apart S' l := ⟨fun x hx => by have := h.1 x hx; omega, h.2⟩

theorem addW_ok {k : Nat} {l : List (Nat × Nat)} (ha : Apart k l) : Apart (k + 1) (addW l k) ∧ ∀ j, inB (addW l k) j ↔ inB l j ∨ j = k := by
  rcases List.eq_nil_or_concat l with rfl | ⟨L, x, rfl⟩
  · refine ⟨by simp [addW, Apart], fun j => ?_⟩
    simp only [addW, List.length_nil, Nat.lt_irrefl, false_and, if_false, List.nil_append, inB_cons]
    constructor
    · rintro (h | h)
      · exact .inr (by omega)
      · exact absurd h (inB_nil j)
    · rintro (h | h)
      · exact absurd h (inB_nil j)
      · exact .inl (by omega)
  · rw [List.concat_eq_append] at *
    have hg : (L ++ [x]).getD ((L ++ [x]).length - 1) (0, 0) = x := by simp [List.getD_eq_getElem?_getD]
    obtain ⟨hl, hx0, hlx⟩ := apart_append.1 ha
    have hx1 := (apart_cons.1 hx0).1
    unfold addW
    rw [hg]
    by_cases hc : x.1 + x.2 = k
    · rw [if_pos ⟨by simp, hc⟩]
      have e : (L ++ [x]).set ((L ++ [x]).length - 1) (x.1, x.2 + 1) = L ++ [(x.1, x.2 + 1)] := by
        rw [List.length_append, List.length_singleton, Nat.add_sub_cancel, List.set_append_right _ _ (Nat.le_refl _), Nat.sub_self]; rfl
      rw [e]
      refine ⟨apart_append.2 ⟨apart_more hl (by omega), by simp [Apart]; omega, fun y hy z hz => ?_⟩, fun j => ?_⟩
      · simp at hz; subst hz; exact hlx y hy x (by simp)
      · rw [inB_append, inB_append, inB_cons, inB_cons]
        constructor
        · rintro (h | h | h)
          · exact .inl (.inl h)
          · simp only at h
            by_cases e : j = k
            · exact .inr e
            · exact .inl (.inr (.inl (by omega)))
          · exact absurd h (inB_nil j)
        · rintro ((h | h | h) | h)
          · exact .inl h
          · exact .inr (.inl (by simp only; omega))
          · exact absurd h (inB_nil j)
          · exact .inr (.inl (by simp only; omega))
    · rw [if_neg (fun h => hc h.2)]
      refine ⟨apart_append.2 ⟨apart_more ha (by omega), by simp [Apart], fun y hy z hz => ?_⟩, fun j => ?_⟩
      · simp at hz
        subst hz
        simp only
        rcases List.mem_append.1 hy with hy | hy
        · have := hlx y hy x (by simp); omega
        · simp at hy; subst hy; omega
      · rw [inB_append (L ++ [x]), inB_cons]
        constructor
        · rintro (h | h | h)
          · exact .inl h
          · exact .inr (by simp only at h; omega)
          · exact absurd h (inB_nil j)
        · rintro (h | h)
          · exact .inl h
          · exact .inr (.inl (by simp only; omega))

theorem blkK_ok (T : List Bool) : ∀ k, Apart k (blkK T k) ∧ ∀ j, inB (blkK T k) j ↔ j < k ∧ T.getD j true = false
  | 0 => ⟨by simp [blkK, Apart], fun j => ⟨fun h => absurd h (inB_nil j), fun h => by omega⟩⟩
  | k + 1 => by
    obtain ⟨h1, h2⟩ := blkK_ok T k
    unfold blkK
    by_cases ht : T.getD k true = true
    · rw [if_pos ht]
      refine ⟨apart_more h1 (by omega), fun j => ?_⟩
      rw [h2]
      constructor
      · rintro ⟨a, b⟩; exact ⟨by omega, b⟩
      · rintro ⟨a, b⟩
        refine ⟨?_, b⟩
        have : j ≠ k := by rintro rfl; rw [ht] at b; cases b
        omega
    · rw [if_neg ht]
      obtain ⟨h3, h4⟩ := addW_ok h1
      refine ⟨h3, fun j => ?_⟩
      rw [h4, h2]
      constructor
      · rintro (⟨a, b⟩ | rfl)
        · exact ⟨by omega, b⟩
        · exact ⟨by omega, by simpa using ht⟩
      · rintro ⟨a, b⟩
        by_cases e : j = k
        · exact .inr e
        · exact .inl ⟨by omega, b⟩

/-- Which words are taken, what was taken where, and where the last words end: as the state says. -/
structure Yd (S : Nat) (s : St) (T : List Bool) (P L : List Int) : Prop where
  len : T.length = S
  tk : ∀ j, j < S → (T.getD j true = false ↔ inB s.bl j)
  pl : P.length = L.length
  to : ∀ (i : Nat) (a : Int), P[i]? = some a → 0 ≤ a → ∃ n : Nat, s.tk a = some n ∧ L[i]? = some (n : Int)
  of : ∀ a n, s.tk a = some n → ∃ i : Nat, P[i]? = some a
  one : ∀ (i j : Nat) (a : Int), P[i]? = some a → P[j]? = some a → 0 ≤ a → i = j

theorem Yd.bl {S : Nat} {s : St} {T : List Bool} {P L : List Int} (h : Yd S s T P L) (hO : Ok S s) : blkK T S = s.bl := by
  obtain ⟨h1, h2⟩ := blkK_ok T S
  refine apart_uniq h1 hO.ap fun j => ?_
  rw [h2]
  constructor
  · rintro ⟨a, b⟩; exact (h.tk j a).1 b
  · intro hj
    have := inB_lt hO.ap hj
    exact ⟨this, (h.tk j this).2 hj⟩

theorem yd_start {S : Nat} : Yd S (startS S) (List.replicate S false) [] [] where
  len := by simp
  tk := fun j hj => by
    refine ⟨fun _ => ⟨(0, S), by simp [startS], by simp, by simp; exact hj⟩, fun _ => ?_⟩
    rw [List.getD_eq_getElem?_getD, List.getElem?_replicate, if_pos hj]; rfl
  pl := rfl
  to := fun i a h => by simp at h
  of := fun a n h => by cases h
  one := fun i j a h => by simp at h

/-- Some places of a list of truths. -/
def updB (l : List Bool) (p : Nat → Bool) (x : Bool) : List Bool := l.mapIdx fun j y => if p j then x else y
theorem updB_len (l : List Bool) (p : Nat → Bool) (x : Bool) : (updB l p x).length = l.length := by simp [updB]
theorem updB_get (l : List Bool) (p : Nat → Bool) (x : Bool) (j : Nat) : (updB l p x)[j]? = (l[j]?).map fun y => if p j then x else y := by simp [updB, List.getElem?_mapIdx]
theorem updB_none (l : List Bool) (p : Nat → Bool) (x : Bool) (h : ∀ j, j < l.length → p j = false) : updB l p x = l := by
  apply List.ext_getElem?
  intro j
  rw [updB_get]
  cases hj : l[j]? with
  | none => rfl
  | some y => rw [Option.map_some, h j (List.getElem?_eq_some_iff.1 hj).1]; rfl
theorem updB_set (l : List Bool) {p q : Nat → Bool} (x : Bool) (t : Nat) (h : ∀ j, j < l.length → q j = (p j || j == t)) : (updB l p x).set t x = updB l q x := by
  apply List.ext_getElem?
  intro j
  rw [List.getElem?_set, updB_get, updB_get, updB_len]
  by_cases e : t = j
  · subst e
    rw [if_pos rfl]
    by_cases hl : t < l.length
    · rw [if_pos hl, List.getElem?_eq_getElem hl, Option.map_some, h t hl]; simp
    · rw [if_neg hl, List.getElem?_eq_none (by omega)]; rfl
  · rw [if_neg e]
    cases hj : l[j]? with
    | none => rfl
    | some y =>
      rw [Option.map_some, Option.map_some, h j (List.getElem?_eq_some_iff.1 hj).1]
      have : (j == t) = false := by simpa using fun e' => e e'.symm
      rw [this, Bool.or_false]
theorem updB_getD (l : List Bool) (p : Nat → Bool) (x : Bool) {j : Nat} (hj : j < l.length) : (updB l p x).getD j true = if p j then x else l.getD j true := by
  rw [List.getD_eq_getElem?_getD, updB_get, List.getElem?_eq_getElem hj]
  simp [List.getD_eq_getElem?_getD, List.getElem?_eq_getElem hj]

/-- The words of a row. -/
def rowP (p n : Nat) (j : Nat) : Bool := decide (p ≤ j) && decide (j < p + n)

/-- Behind a take. -/
theorem Yd.take {S : Nat} {s : St} {T : List Bool} {P L : List Int} (h : Yd S s T P L) (hO : Ok S s) {i n : Nat} {b : Nat × Nat} (hb : s.bl[i]? = some b) (h1n : 1 ≤ n) (hn : n ≤ b.2) (e : Nat) :
    b.1 + n ≤ S ∧ Yd S ⟨cutB s.bl i n, updT s.tk (b.1 : Nat) (some n), e⟩ (updB T (rowP b.1 n) true) (P ++ [(b.1 : Int)]) (L ++ [(n : Int)]) := by
  have hbm := List.mem_of_getElem? hb
  have hbS := hO.ap.1 b hbm
  obtain ⟨_, c2⟩ := cut_ok hb hO.ap h1n hn
  have hfree : ∀ j, b.1 ≤ j → j < b.1 + n → inB s.bl j := fun j j1 j2 => ⟨b, hbm, by omega, by omega⟩
  have hbt : s.tk (b.1 : Nat) = none := by
    cases ht : s.tk (b.1 : Nat) with
    | none => rfl
    | some m =>
      have := hO.tk _ _ ht
      exact absurd ⟨_, _, ht, Int.le_refl _, by omega⟩ ((hO.cv b.1 (by omega)).1 (hfree b.1 (Nat.le_refl _) (by omega)))
  have hne : ∀ (k : Nat) (a : Int), P[k]? = some a → 0 ≤ a → a ≠ (b.1 : Int) := fun k a hk ha e => by
    subst e
    obtain ⟨m, hm, _⟩ := h.to k _ hk ha
    rw [hbt] at hm; cases hm
  refine ⟨by omega, by rw [updB_len]; exact h.len, fun j hj => ?_, by simp [h.pl], fun k a hk ha => ?_, fun a m ha => ?_, fun k k' a hk hk' ha => ?_⟩
  · rw [updB_getD _ _ _ (by rw [h.len]; exact hj)]
    simp only
    rw [c2 j]
    by_cases hp : rowP b.1 n j = true
    · rw [if_pos hp]
      simp [rowP] at hp
      constructor
      · intro h; cases h
      · rintro ⟨_, h⟩; omega
    · rw [if_neg hp, h.tk j hj]
      simp [rowP] at hp
      constructor
      · intro h; exact ⟨h, by omega⟩
      · exact fun h => h.1
  · rw [List.getElem?_append] at hk
    split at hk
    · obtain ⟨m, h1, h2⟩ := h.to k a hk ha
      refine ⟨m, by simp only; rw [updT_other (hne k a hk ha)]; exact h1, ?_⟩
      rw [List.getElem?_append, if_pos (List.getElem?_eq_some_iff.1 h2).1]; exact h2
    · rename_i hkl
      have hk0 : k - P.length = 0 := by have := (List.getElem?_eq_some_iff.1 hk).1; simp at this; omega
      rw [hk0] at hk
      simp at hk
      subst hk
      refine ⟨n, by simp only; rw [updT_same], ?_⟩
      rw [List.getElem?_append, if_neg (by rw [← h.pl]; omega), ← h.pl, hk0]; rfl
  · simp only at ha
    by_cases ea : a = (b.1 : Nat)
    · subst ea
      exact ⟨P.length, by simp⟩
    · rw [updT_other ea] at ha
      obtain ⟨k, hk⟩ := h.of a m ha
      exact ⟨k, by rw [List.getElem?_append, if_pos (List.getElem?_eq_some_iff.1 hk).1]; exact hk⟩
  · have hlt : ∀ k a, (P ++ [(b.1 : Int)])[k]? = some a → 0 ≤ a → (P[k]? = some a ∧ a ≠ (b.1 : Int)) ∨ (k = P.length ∧ a = (b.1 : Int)) := fun k a hk ha => by
      rw [List.getElem?_append] at hk
      split at hk
      · exact .inl ⟨hk, hne k a hk ha⟩
      · have := (List.getElem?_eq_some_iff.1 hk).1
        simp at this
        have hk0 : k - P.length = 0 := by omega
        rw [hk0] at hk
        simp at hk
        exact .inr ⟨by omega, hk.symm⟩
    rcases hlt k a hk ha with ⟨h1, h2⟩ | ⟨h1, h2⟩ <;> rcases hlt k' a hk' ha with ⟨h3, h4⟩ | ⟨h3, h4⟩
    · exact h.one k k' a h1 h3 ha
    · exact absurd h4 h2
    · exact absurd h2 h4
    · omega

/-- Behind a give. -/
theorem Yd.give {S : Nat} {s : St} {T : List Bool} {P L : List Int} (h : Yd S s T P L) (hO : Ok S s) {i p m : Nat} (ht : s.tk (p : Int) = some m) (hi : P[i]? = some (p : Int)) (e : Nat) :
    p + m ≤ S ∧ L[i]? = some (m : Int) ∧ Yd S ⟨freeB s.bl (p, m), updT s.tk (p : Int) none, e⟩ (updB T (rowP p m) false) (P.set i (-1)) L := by
  obtain ⟨h0, hm, hS⟩ := hO.tk _ _ ht
  have hd : ∀ j, inB s.bl j → ¬ (p ≤ j ∧ j < p + m) := fun j hj hjb => (hO.cv j (inB_lt hO.ap hj)).1 hj ⟨p, m, ht, by omega, by omega⟩
  obtain ⟨_, f2⟩ := free_ok (b := (p, m)) hO.ap hm (by simp only; omega) hd
  obtain ⟨m', h1, h2⟩ := h.to i _ hi (by omega)
  rw [ht] at h1
  injection h1 with h1
  subst h1
  have hset : ∀ (k : Nat) (a : Int), (P.set i (-1))[k]? = some a → 0 ≤ a → P[k]? = some a ∧ k ≠ i := fun k a hk ha => by
    rw [List.getElem?_set] at hk
    split at hk
    · split at hk
      · injection hk with hk; omega
      · cases hk
    · rename_i hne; exact ⟨hk, fun e => hne e.symm⟩
  refine ⟨by omega, h2, by rw [updB_len]; exact h.len, fun j hj => ?_, by simp [h.pl], fun k a hk ha => ?_, fun a n ha => ?_, fun k k' a hk hk' ha => ?_⟩
  · rw [updB_getD _ _ _ (by rw [h.len]; exact hj)]
    simp only
    rw [f2 j]
    by_cases hp : rowP p m j = true
    · rw [if_pos hp]
      simp [rowP] at hp
      exact ⟨fun _ => .inr hp, fun _ => rfl⟩
    · rw [if_neg hp, h.tk j hj]
      simp [rowP] at hp
      constructor
      · exact .inl
      · rintro (h | h)
        · exact h
        · simp only at h; omega
  · obtain ⟨h3, h4⟩ := hset k a hk ha
    obtain ⟨n, h5, h6⟩ := h.to k a h3 ha
    refine ⟨n, ?_, h6⟩
    simp only
    rw [updT_other (fun e => h4 (h.one k i a h3 (by rw [e]; exact hi) ha))]
    exact h5
  · simp only at ha
    have hne : a ≠ (p : Int) := by rintro rfl; rw [updT_same] at ha; cases ha
    rw [updT_other hne] at ha
    obtain ⟨k, hk⟩ := h.of a n ha
    refine ⟨k, ?_⟩
    rw [List.getElem?_set, if_neg (fun e => hne (by rw [← e, hi] at hk; injection hk with hk; exact hk.symm))]
    exact hk
  · exact h.one k k' a (hset k a hk ha).1 (hset k' a hk' ha).1 ha

end Go.Proofs.Ytgbbcfngncofgaa

/- The yard in memory; walks: set, blocks. -/
namespace Go.Proofs.Ytgbbcfngncofgaa
set_option linter.unusedSimpArgs false
set_option linter.unusedVariables false
open Go.RowKit

def boolsV (l : List Bool) : List Value := l.map .bool
theorem boolsV_len (l : List Bool) : (boolsV l).length = l.length := by simp [boolsV]
theorem boolsV_get {l : List Bool} {k : Nat} {x : Bool} (h : l[k]? = some x) : (boolsV l)[k]? = some (.bool x) := by simp [boolsV, h]

/-- A yard: its four cells, and its three rows. -/
structure Ym (W : World) (N yb tb : Nat) (va vl : Value) (S : Nat) (T : List Bool) (P L : List Int) (la : Nat) : Prop where
  box : W.heap[yb]? = some (.cells #[.slice (some ⟨tb, 0, none⟩) S S, va, vl, .int .i64 (la : Nat)] 57)
  rt : W.ownsRow N 4 1 (.slice (some ⟨tb, 0, none⟩) S S) S (boolsV T)
  ra : W.ownsRow N 3 1 va P.length (intsV P)
  rl : W.ownsRow N 3 1 vl L.length (intsV L)
  dj : ∀ k, va.ownBlock = some k → vl.ownBlock ≠ some k
  lo : N ≤ yb

section
variable {W : World} {N yb tb : Nat} {va vl : Value} {S : Nat} {T : List Bool} {P L : List Int} {la : Nat}
theorem Ym.lt (h : Ym W N yb tb va vl S T P L la) : yb < W.heap.size := (Array.getElem?_eq_some_iff.1 h.box).1
theorem Ym.c0 (h : Ym W N yb tb va vl S T P L la) : W.cell? ⟨yb, 0, none⟩ = some (.slice (some ⟨tb, 0, none⟩) S S) := by rw [cell_of_row W yb 0 _ 57 (0, 0) h.box]; rfl
theorem Ym.c1 (h : Ym W N yb tb va vl S T P L la) : W.cell? ⟨yb, 1, none⟩ = some va := by rw [cell_of_row W yb 1 _ 57 (0, 0) h.box]; rfl
theorem Ym.c2 (h : Ym W N yb tb va vl S T P L la) : W.cell? ⟨yb, 2, none⟩ = some vl := by rw [cell_of_row W yb 2 _ 57 (0, 0) h.box]; rfl
theorem Ym.c3 (h : Ym W N yb tb va vl S T P L la) : W.cell? ⟨yb, 3, none⟩ = some (.int .i64 (la : Nat)) := by rw [cell_of_row W yb 3 _ 57 (0, 0) h.box]; rfl
theorem Ym.fr (h : Ym W N yb tb va vl S T P L la) (j : Nat) : W.frozen? ⟨yb, j, none⟩ = false := frozen_of_row W yb j _ 57 h.box
theorem Ym.tlt (h : Ym W N yb tb va vl S T P L la) : N ≤ tb ∧ tb < W.heap.size := h.rt.lt tb rfl
theorem Ym.tlen (h : Ym W N yb tb va vl S T P L la) : T.length = S := by have := h.rt.1; rw [boolsV_len] at this; omega
theorem Ym.tcell (h : Ym W N yb tb va vl S T P L la) {j : Nat} {x : Bool} (hx : T[j]? = some x) : W.cell? ⟨tb, j, none⟩ = some (.bool x) := by
  have := (List.getElem?_eq_some_iff.1 hx).1
  rw [h.rt.cellAt j (by rw [h.tlen] at this; omega)]
  exact boolsV_get hx
theorem Ym.tfr (h : Ym W N yb tb va vl S T P L la) (j : Nat) : W.frozen? ⟨tb, j, none⟩ = false := h.rt.frozenAt j
theorem Ym.ty (h : Ym W N yb tb va vl S T P L la) : tb ≠ yb := by
  have := row_ne h.rt h.box (by decide)
  simpa [Value.ownBlock] using this
theorem Ym.below {W' : World} (h : Ym W N yb tb va vl S T P L la) (hb : Below W.heap.size W W') : Ym W' N yb tb va vl S T P L la :=
  ⟨by rw [hb.block _ h.lt]; exact h.box, ownsRow_below h.rt hb, ownsRow_below h.ra hb, ownsRow_below h.rl hb, h.dj, h.lo⟩
theorem Ym.tat (h : Ym W N yb tb va vl S T P L la) : ∃ cs, W.heap[tb]? = some (.cells cs 4) := by
  rcases h.rt.2 with ⟨e, _⟩ | ⟨g, cap, cur, e, _, hg, _⟩
  · cases e
  · injection e with e; injection e with e; injection e with e; subst e; exact ⟨_, hg⟩
theorem Ym.setT (h : Ym W N yb tb va vl S T P L la) (j : Nat) (x : Bool) : Ym (W.setCell ⟨tb, j, none⟩ (.bool x)) N yb tb va vl S (T.set j x) P L la := by
  obtain ⟨cs, ht⟩ := h.tat
  have h1 := h.rt.stored j (.bool x)
  rw [show (boolsV T).set j (.bool x) = boolsV (T.set j x) by simp [boolsV, List.map_set]] at h1
  have hg := grown_set W tb j (.bool x)
  exact ⟨by rw [hg.block yb h.lt (by simpa using fun e => h.ty e.symm)]; exact h.box, h1.1, h.ra.kept hg (.inr (row_ne h.ra ht (by decide))), h.rl.kept hg (.inr (row_ne h.rl ht (by decide))), h.dj, h.lo⟩
end

set_option maxRecDepth 100000 in
set_option maxHeartbeats 2000000 in
theorem set_c (W : World) (N yb tb : Nat) (va vl : Value) (S : Nat) (T : List Bool) (P L : List Int) (la : Nat) (h : Ym W N yb tb va vl S T P L la) (p n : Nat) (x : Bool) (hp : p + n ≤ S) (hS : S ≤ 256) :
    Calls Try.prog 32 #[.pointer (some ⟨yb, 0, none⟩), .int .i64 (p : Nat), .int .i64 (n : Nat), .bool x] W fun e w' => e = .returned (.tuple #[]) ∧ Ym w' N yb tb va vl S (updB T (rowP p n) x) P L la ∧ W.grownBy w' (some tb) := by
  have HY : Hid (Ym W N yb tb va vl S (updB T (fun t => decide (p ≤ t) && decide (t < p)) x) P L la ∧ W.grownBy W (some tb)) := by
    show _ ∧ _
    rw [updB_none _ _ _ (fun j hj => by simp)]
    exact ⟨h, World.grownBy.refl _ _⟩
  clear h
  go_enter Try.func32, Try.ntmps32
  go_wp2
  go_loopw [8] (fun i wr => ∃ j : Nat, p ≤ j ∧ j ≤ p + n ∧ i = .int .i64 j ∧ Hid (Ym wr N yb tb va vl S (updB T (fun t => decide (p ≤ t) && decide (t < j)) x) P L la ∧ W.grownBy wr (some tb))) (fun i _ => p + n - (intOf i).toNat)
  case atStart => exact ⟨p, Nat.le_refl _, by omega, rfl, HY⟩
  case round =>
    obtain ⟨j, hj1, hj2, rfl, H2⟩ := hrel
    obtain ⟨hY, hg⟩ := unhide H2
    by_cases hjn : j < p + n
    · have t0 := hY.c0
      have tl := hY.lt
      have ul := hY.tlt.2
      have uf := hY.tfr j
      obtain ⟨y, hy⟩ : ∃ y, (updB T (fun t => decide (p ≤ t) && decide (t < j)) x)[j]? = some y := ⟨_, List.getElem?_eq_getElem (by have := hY.tlen; omega)⟩
      have u0 := hY.tcell hy
      have hjI : (j : Int) < (S : Int) := by omega
      have HR : Hid (Ym (wr.setCell ⟨tb, j, none⟩ (.bool x)) N yb tb va vl S (updB T (fun t => decide (p ≤ t) && decide (t < j + 1)) x) P L la ∧ W.grownBy (wr.setCell ⟨tb, j, none⟩ (.bool x)) (some tb)) := by
        have := hY.setT j x
        rw [updB_set T (p := fun t => decide (p ≤ t) && decide (t < j)) (q := fun t => decide (p ≤ t) && decide (t < j + 1)) x j (fun z hz => by
          by_cases e : z = j
          · subst e; simp [hj1]
          · have e1 : decide (z < j + 1) = decide (z < j) := by by_cases h : z < j <;> simp [h] <;> omega
            simp only [e1]; simp [e])] at this
        exact ⟨this, grown_trans hg (grown_set wr tb j _)⟩
      clear hY hg hy
      go_wp2
      go_roundw
      case rel => exact ⟨j + 1, by omega, by omega, by go_num, HR⟩
      case measure => simp [intOf]; omega
    · obtain rfl : j = p + n := by omega
      clear hY hg
      go_wp2
      go_end0
      exact ⟨rfl, unhide H2⟩

theorem blkK_len (T : List Bool) (k : Nat) : (blkK T k).length ≤ k := by
  have := apart_len (blkK_ok T k).1 0 (fun _ _ => Nat.zero_le _) (Nat.zero_le _)
  omega

theorem cellsB_set1 {l : List (Nat × Nat)} {i : Nat} {x : Nat × Nat} (hx : l[i]? = some x) (y : Nat) : (cellsB l).set (i * 2 + 1) (.int .i64 (y : Nat)) = cellsB (l.set i (x.1, y)) := by
  rw [← cellsB_set (List.getElem?_eq_some_iff.1 hx).1 (x.1, y)]
  congr 1
  apply List.ext_getElem?
  intro j
  rw [List.getElem?_set]
  split
  · rename_i e
    subst e
    obtain ⟨h1, _⟩ := cellsB_get l i x hx
    rw [if_pos (List.getElem?_eq_some_iff.1 h1).1]
    exact h1
  · rfl

theorem Blks.nil (B : Nat) (w : World) (a : Option Addr) : Blks B w a [] := ⟨by simp, fun h => absurd rfl h⟩
theorem blks_of_own {w : World} {base : Nat} {v : Value} {l : List (Nat × Nat)} (h : w.ownsRow base 36 2 v l.length (cellsB l)) (hs : l.length ≤ 9223372036854775807) :
    ∃ a cap, v = .slice a l.length cap ∧ Blks w.heap.size w a l ∧ (∀ x : Addr, a = some x → base ≤ x.block) := by
  rcases h.2 with ⟨rfl, h0⟩ | ⟨g, cap, cur, hv, hg, _⟩
  · have hl : l = [] := List.eq_nil_of_length_eq_zero (by have := h.1; rw [cellsB_len] at this; omega)
    subst hl
    exact ⟨none, 0, rfl, Blks.nil _ _ _, fun x h => by cases h⟩
  · subst hv
    exact ⟨_, cap, rfl, blks_of_owns h hs, fun x hx => by injection hx with hx; subst hx; exact hg⟩

set_option maxRecDepth 100000 in
set_option maxHeartbeats 4000000 in
theorem yblocks_c (W : World) (N yb tb : Nat) (va vl : Value) (S : Nat) (T : List Bool) (P L : List Int) (la : Nat) (h : Ym W N yb tb va vl S T P L la) (hS : S ≤ 256) :
    Calls Try.prog 23 #[.pointer (some ⟨yb, 0, none⟩)] W fun e w' => (∃ a cap, e = .returned (.slice a (blkK T S).length cap) ∧ Blks w'.heap.size w' a (blkK T S) ∧ (∀ x : Addr, a = some x → W.heap.size ≤ x.block)) ∧ Below W.heap.size W w' := by
  obtain ⟨i36, hi36, hx0, hx1, hx2⟩ := info_parts Try.info36
  have HY := hide h
  have hTl := h.tlen
  clear h
  go_enter Try.func23, Try.ntmps23
  go_wp2
  go_loopw [3, 4] (fun v i wr => ∃ k : Nat, k ≤ S ∧ i = .int .i64 k ∧ Hid (wr.ownsRow W.heap.size 36 2 v (blkK T k).length (cellsB (blkK T k))) ∧ Hid (Below W.heap.size W wr)) (fun _ i _ => S - (intOf i).toNat)
  case atStart => exact ⟨0, Nat.zero_le _, rfl, World.ownsRow_nil _ _ _ _, Below.refl _ _⟩
  case round =>
    obtain ⟨k, hk, rfl, HR, Hb⟩ := hrel
    have hY := (unhide HY).below (unhide Hb)
    have t0 := hY.c0
    have tl := hY.lt
    by_cases hlt : k < S
    · obtain ⟨x, hx⟩ : ∃ x, T[k]? = some x := ⟨_, List.getElem?_eq_getElem (by omega)⟩
      have hxd : T.getD k true = x := by rw [List.getD_eq_getElem?_getD, hx]; rfl
      have u0 := hY.tcell hx
      have ul := hY.tlt.2
      have hkI : (k : Int) < (S : Int) := by omega
      have hbl := blkK_len T k
      obtain ⟨a3, c3, hv3⟩ := ownsRow_slice (unhide HR)
      subst hv3
      cases x with
      | true =>
        have HR2 : Hid (wr.ownsRow W.heap.size 36 2 (.slice a3 (blkK T k).length c3) (blkK T (k + 1)).length (cellsB (blkK T (k + 1)))) := by
          have e : blkK T (k + 1) = blkK T k := by rw [blkK, if_pos hxd]
          show World.ownsRow _ _ _ _ _ _ _
          rw [e]
          exact unhide HR
        generalize (blkK T k).length = m at *
        clear hY hx hxd
        go_wp2
        go_roundw
        case rel => exact ⟨k + 1, by omega, by go_num, HR2, Hb⟩
        case measure => simp [intOf]; omega
      | false =>
        have hE : blkK T (k + 1) = addW (blkK T k) k := by rw [blkK, if_neg (by rw [hxd]; simp)]
        have HE := hide hE
        clear hE
        generalize hl : blkK T k = l at *
        by_cases h0 : l.length = 0
        · have hl0 : l = [] := List.eq_nil_of_length_eq_zero h0
          subst hl0
          have HE2 : Hid (blkK T (k + 1) = [(k, 1)]) := by
            show _ = _
            rw [unhide HE]
            simp [addW]
          simp only [List.length_nil] at HR ⊢
          clear hY hx hxd HE hl
          go_wp2
          go_quiet (fail)
          have HRq : Hid ((wr.drewN nq).ownsRow W.heap.size 36 2 (.slice a3 0 c3) 0 (cellsB [])) := unhide HR
          have Hbq : Hid (Below W.heap.size W (wr.drewN nq)) := below_drewN (unhide Hb) nq
          clear t0 tl u0 ul HR Hb
          generalize wr.drewN nq = wq at *
          have hsq := (unhide Hbq).size
          go_wp2_with (at_builtin; refine wpList_append_own_at _ rfl _ _ 25 rfl W.heap.size 36 i36 _ 2 16 Try.underlying25 hi36 hx0 hx1 hx2 rfl (by decide) _ _ _ rfl ((unhide HRq).alloc _) ⟨wq.heap.size, 0, none⟩ 1 1 [.int .i64 (k : Nat), .int .i64 1] rfl rfl (cell_two_at _ _ _ _ _ rfl) (by simp [Value.oneCell']) (by simp only [maxLen]; omega) (by omega) (by simp; omega) ?_; go_must (intro v7 w7 hrow7 hg7 _ hat7))
          have HR2 : Hid (w7.ownsRow W.heap.size 36 2 v7 (blkK T (k + 1)).length (cellsB (blkK T (k + 1)))) := by
            show World.ownsRow _ _ _ _ _ _ _
            rw [unhide HE2]
            exact hrow7
          have Hb2 : Hid (Below W.heap.size W w7) := ((unhide Hbq).alloc hsq _).grown hg7 (by simp; omega) (fun x e => ((unhide HRq).lt x e).1)
          clear hrow7 hg7 hat7
          go_wp2
          go_roundw
          case rel => exact ⟨k + 1, by omega, by go_num, HR2, Hb2⟩
          case measure => simp [intOf]; omega
        · obtain ⟨m, hm⟩ : ∃ m, l.length = m + 1 := ⟨l.length - 1, by omega⟩
          obtain ⟨p, q, hlast⟩ : ∃ p q, l[m]? = some (p, q) := ⟨l[m].1, l[m].2, List.getElem?_eq_getElem (by omega)⟩
          have hgd : l.getD (l.length - 1) (0, 0) = (p, q) := by rw [hm, Nat.add_sub_cancel, List.getD_eq_getElem?_getD, hlast]; rfl
          have hown := unhide HR
          rw [hm] at hown
          obtain ⟨g, c3', hv⟩ := ownsRow_succ hown
          injection hv with hv1 _ hv2
          subst hv1 hv2
          obtain ⟨z0, z1⟩ := cellsB_get l m _ hlast
          have y0 : wr.cell? ⟨g, m * 2, none⟩ = some (.int .i64 (p : Nat)) := by rw [hown.cellAt _ (by omega)]; exact z0
          have y1 : wr.cell? ⟨g, m * 2 + 1, none⟩ = some (.int .i64 (q : Nat)) := by rw [hown.cellAt _ (by omega)]; exact z1
          have yf := hown.frozenAt (m * 2 + 1)
          have yl := (hown.lt g rfl).2
          have hpq : p + q ≤ k := by have := ((blkK_ok T k).1.1 (p, q) (by rw [hl]; exact List.mem_of_getElem? hlast)).2; exact this
          have e0 : decide ((0 : Int) < (m : Int) + 1) = true := decide_eq_true (by omega)
          have hmk : m + 1 ≤ k := by omega
          have hmI : (m : Int) < (m : Int) + 1 := by omega
          have HO := hide hown
          have Hlast := hide hlast
          have Hm := hide hm
          by_cases hc : p + q = k
          · have HE2 : Hid (blkK T (k + 1) = l.set m (p, q + 1)) := by
              show _ = _
              rw [unhide HE]
              unfold addW
              rw [hgd, if_pos ⟨by omega, hc⟩, hm]
              rfl
            have e1 : ((p : Int) + (q : Int) == (k : Int)) = true := by simp; omega
            rw [hm]
            clear hY hx hxd HE hl hown HR hgd z0 z1 hlast h0 hm hc
            go_wp2
            go_quiet (fail)
            have HRq : Hid ((wr.drewN nq).ownsRow W.heap.size 36 2 (.slice (some ⟨g, 0, none⟩) (m + 1) c3) (m + 1) (cellsB l)) := unhide HO
            have Hbq : Hid (Below W.heap.size W (wr.drewN nq)) := below_drewN (unhide Hb) nq
            have y1q : (wr.drewN nq).cell? ⟨g, m * 2 + 1, none⟩ = some (.int .i64 (q : Nat)) := y1
            have yfq : (wr.drewN nq).frozen? ⟨g, m * 2 + 1, none⟩ = false := yf
            have ylq : g < (wr.drewN nq).heap.size := yl
            clear t0 tl u0 ul HO Hb y0 y1 yf yl
            generalize wr.drewN nq = wq at *
            have hgN := ((unhide HRq).lt g rfl).1
            have HR2 : Hid ((wq.setCell ⟨g, m * 2 + 1, none⟩ (.int .i64 ((q : Int) + 1))).ownsRow W.heap.size 36 2 (.slice (some ⟨g, 0, none⟩) (m + 1) c3) (blkK T (k + 1)).length (cellsB (blkK T (k + 1)))) := by
              show World.ownsRow _ _ _ _ _ _ _
              have := ((unhide HRq).stored (m * 2 + 1) (.int .i64 ((q + 1 : Nat) : Int))).1
              rw [cellsB_set1 (unhide Hlast)] at this
              rw [unhide HE2, List.length_set, unhide Hm]
              exact this
            have Hb2 : Hid (Below W.heap.size W (wq.setCell ⟨g, m * 2 + 1, none⟩ (.int .i64 ((q : Int) + 1)))) := (unhide Hbq).setCell (p := ⟨g, m * 2 + 1, none⟩) hgN _
            go_wp2
            go_roundw
            case rel => exact ⟨k + 1, by omega, by go_num, HR2, Hb2⟩
            case measure => simp [intOf]; omega
          · have HE2 : Hid (blkK T (k + 1) = l ++ [(k, 1)]) := by
              show _ = _
              rw [unhide HE]
              unfold addW
              rw [hgd, if_neg (fun h => hc h.2)]
            have e1 : ((p : Int) + (q : Int) == (k : Int)) = false := by simp; omega
            rw [hm]
            clear hY hx hxd HE hl hown HR hgd z0 z1 hlast h0 hc
            go_wp2
            go_quiet (fail)
            have HRq : Hid ((wr.drewN nq).ownsRow W.heap.size 36 2 (.slice (some ⟨g, 0, none⟩) (m + 1) c3) (m + 1) (cellsB l)) := unhide HO
            have Hbq : Hid (Below W.heap.size W (wr.drewN nq)) := below_drewN (unhide Hb) nq
            clear t0 tl u0 ul HO Hb y0 y1 yf yl
            generalize wr.drewN nq = wq at *
            have hsq := (unhide Hbq).size
            go_wp2_with (at_builtin; refine wpList_append_own_at _ rfl _ _ 25 rfl W.heap.size 36 i36 _ 2 16 Try.underlying25 hi36 hx0 hx1 hx2 rfl (by decide) _ _ _ rfl ((unhide HRq).alloc _) ⟨wq.heap.size, 0, none⟩ 1 1 [.int .i64 (k : Nat), .int .i64 1] rfl rfl (cell_two_at _ _ _ _ _ rfl) (by simp [Value.oneCell']) (by simp only [maxLen]; omega) (by omega) (by simp; omega) ?_; go_must (intro v7 w7 hrow7 hg7 _ hat7))
            have HR2 : Hid (w7.ownsRow W.heap.size 36 2 v7 (blkK T (k + 1)).length (cellsB (blkK T (k + 1)))) := by
              show World.ownsRow _ _ _ _ _ _ _
              rw [unhide HE2, List.length_append, unhide Hm, cellsB_append]
              exact hrow7
            have Hb2 : Hid (Below W.heap.size W w7) := ((unhide Hbq).alloc hsq _).grown hg7 (by simp; omega) (fun x e => ((unhide HRq).lt x e).1)
            clear hrow7 hg7 hat7
            go_wp2
            go_roundw
            case rel => exact ⟨k + 1, by omega, by go_num, HR2, Hb2⟩
            case measure => simp [intOf]; omega
    · obtain rfl : k = S := by omega
      have hbl := blkK_len T k
      obtain ⟨a, cap, hv, hB, hn⟩ := blks_of_own (unhide HR) (by omega)
      subst hv
      clear hY
      go_wp2
      go_ret
      exact ⟨⟨a, cap, rfl, hB, hn⟩, unhide Hb⟩

end Go.Proofs.Ytgbbcfngncofgaa

/- Walks: choose. -/
namespace Go.Proofs.Ytgbbcfngncofgaa
set_option linter.unusedSimpArgs false
set_option linter.unusedVariables false
open Go.RowKit

/-- The best one so far. -/
def bsA (F : List (Nat × Nat)) (o : Option Nat) : Int := match o with | none => -1 | some i => (((F.getD i (0, 0)).1 : Nat) : Int)
def bsL (F : List (Nat × Nat)) (o : Option Nat) : Nat := match o with | none => 0 | some i => (F.getD i (0, 0)).2

/-- The best one's box, and all else as it was. -/
structure Bst (W W2 wr : World) (a : Int) (m : Nat) : Prop where
  box : wr.heap[W.heap.size]? = some (.cells #[.int .i64 a, .int .i64 (m : Nat)] 36)
  gr : W2.grownBy wr (some W.heap.size)

section
variable {W W2 wr : World} {a : Int} {m : Nat}
theorem Bst.lt (h : Bst W W2 wr a m) : W.heap.size < wr.heap.size := (Array.getElem?_eq_some_iff.1 h.box).1
theorem Bst.c0 (h : Bst W W2 wr a m) : wr.cell? ⟨W.heap.size, 0, none⟩ = some (.int .i64 a) := by rw [cell_of_row wr _ 0 _ 36 (0, 0) h.box]; rfl
theorem Bst.c1 (h : Bst W W2 wr a m) : wr.cell? ⟨W.heap.size, 1, none⟩ = some (.int .i64 (m : Nat)) := by rw [cell_of_row wr _ 1 _ 36 (0, 0) h.box]; rfl
theorem Bst.fr (h : Bst W W2 wr a m) (j : Nat) : wr.frozen? ⟨W.heap.size, j, none⟩ = false := frozen_of_row wr _ j _ 36 h.box
theorem Bst.alloc (h : Bst W W2 wr a m) (o : Obj) : Bst W W2 (wr.alloc o) a m :=
  ⟨by rw [Below.heap_alloc _ _ _ h.lt]; exact h.box, grown_trans h.gr (grown_of_below ((Below.refl _ _).alloc (Nat.le_refl _) _))⟩
theorem Bst.drewN (h : Bst W W2 wr a m) (n : Nat) : Bst W W2 (wr.drewN n) a m := ⟨h.box, grown_drewN h.gr n⟩
theorem Bst.set (h : Bst W W2 wr a m) (a' : Int) (m' : Nat) : Bst W W2 ((wr.setCell ⟨W.heap.size, 0, none⟩ (.int .i64 a')).setCell ⟨W.heap.size, 1, none⟩ (.int .i64 (m' : Nat))) a' m' :=
  ⟨box_two h.box _ _, grown_trans (grown_trans h.gr (grown_set _ _ _ _)) (grown_set _ _ _ _)⟩
end

set_option maxRecDepth 100000 in
set_option maxHeartbeats 8000000 in
theorem choose_c (W : World) (N yb tb : Nat) (va vl : Value) (S : Nat) (T : List Bool) (P L : List Int) (la : Nat) (h : Ym W N yb tb va vl S T P L la) (hS : S ≤ 256) (n : Nat) (hn : 1 ≤ n) (pol : Int) :
    Calls Try.prog 20 #[.pointer (some ⟨yb, 0, none⟩), .int .i64 (n : Nat), .int .i64 pol] W fun e w' => e = .returned (.int .i64 (bsA (blkK T S) (findK (pref pol la) n (blkK T S) (blkK T S).length))) ∧ Below W.heap.size W w' := by
  obtain ⟨W1, hW1⟩ : ∃ W1, W.alloc (.cells #[.int .i64 (-1), .int .i64 0] 36) = W1 := ⟨_, rfl⟩
  have hb1 : Below W.heap.size W W1 := by rw [← hW1]; exact (Below.refl _ _).alloc (Nat.le_refl _) _
  have hs1 : W.heap.size < W1.heap.size := by rw [← hW1]; simp
  have hx1 : W1.heap[W.heap.size]? = some (.cells #[.int .i64 (-1), .int .i64 0] 36) := by rw [← hW1]; exact heap_alloc_new _ _
  have Hc := hide (yblocks_c W1 N yb tb va vl S T P L la (h.below hb1) hS)
  have HY := hide h
  have hFl := blkK_len T S
  have HAp := hide (blkK_ok T S).1
  clear h
  subst hW1
  go_enter Try.func20, Try.ntmps20
  go_wp2_with fail
  refine (unhide Hc).mono ?_
  clear Hc
  generalize W.alloc (.cells #[.int .i64 (-1), .int .i64 0] 36) = W1 at *
  rintro e W2 ⟨⟨a, cap, rfl, hB, hnew⟩, hb2⟩
  generalize hF : blkK T S = F at *
  have HF := hide hF
  clear hF
  have hs2 := hb2.size
  have HB := hide hB
  have Hnew := hide hnew
  have HBst : Hid (Bst W W2 W2 (bsA F (findK (pref pol la) n F 0)) (bsL F (findK (pref pol la) n F 0))) := ⟨by rw [hb2.block _ hs1]; exact hx1, World.grownBy.refl _ _⟩
  have hbW : Below W.heap.size W W2 := hb1.trans (hb2.mono (by omega))
  clear hB hnew hx1
  go_wp2
  go_loopw [15] (fun i wr => ∃ k : Nat, k ≤ F.length ∧ i = .int .i64 k ∧ Hid (Bst W W2 wr (bsA F (findK (pref pol la) n F k)) (bsL F (findK (pref pol la) n F k)))) (fun i _ => F.length - (intOf i).toNat)
  case atStart => exact ⟨0, Nat.zero_le _, rfl, HBst⟩
  case round =>
    clear HBst
    obtain ⟨k, hk, rfl, HR⟩ := hrel
    have hR := unhide HR
    have hsz := hR.gr.size
    have hbw : Below W.heap.size W wr := hbW.grown hR.gr (by omega) (fun x e => by injection e with e; omega)
    by_cases hlt : k < F.length
    · obtain ⟨p, m, hx⟩ : ∃ p m, F[k]? = some (p, m) := ⟨F[k].1, F[k].2, List.getElem?_eq_getElem hlt⟩
      obtain ⟨b, off, rfl, hbB, x0, x1⟩ := ((unhide HB).kept (w' := wr) (fun x hx => hR.gr.block _ (by obtain ⟨b, off, e, hlt, _⟩ := (unhide HB).2 (by intro e; subst e; simp at hlt); rw [e] at hx; injection hx with hx; subst hx; exact hlt) (by have := unhide Hnew x hx; simp; omega))).at hx
      have hbl : b < wr.heap.size := by omega
      have hkI : (k : Int) < (F.length : Int) := by omega
      have hpm := (unhide HAp).1 (p, m) (List.mem_of_getElem? hx)
      simp only at hpm
      obtain ⟨W4, hW4⟩ : ∃ W4, wr.alloc (.cells #[.int .i64 (p : Nat), .int .i64 (m : Nat)] 36) = W4 := ⟨_, rfl⟩
      have hs4 : wr.heap.size < W4.heap.size := by rw [← hW4]; simp
      have y0 : W4.cell? ⟨wr.heap.size, 0, none⟩ = some (.int .i64 (p : Nat)) := by rw [← hW4]; simp [go_sem]
      have y1 : W4.cell? ⟨wr.heap.size, 1, none⟩ = some (.int .i64 (m : Nat)) := by rw [← hW4]; simp [go_sem]
      have H4 : Hid (Bst W W2 W4 (bsA F (findK (pref pol la) n F k)) (bsL F (findK (pref pol la) n F k))) := by rw [← hW4]; exact hR.alloc _
      have hb4 : Below W.heap.size W W4 := by rw [← hW4]; exact hbw.alloc (by omega) _
      have hY4 := (unhide HY).below hb4
      have l3 := hY4.c3
      have ll := hY4.lt
      have g0 := (unhide H4).c0
      have g1 := (unhide H4).c1
      have gl := (unhide H4).lt
      have hne : ¬ wr.heap.size = W.heap.size := by omega
      by_cases hnm : n ≤ m
      · have dm : decide (m < n) = false := decide_eq_false (by omega)
        cases ho : findK (pref pol la) n F k with
        | none =>
          have Hnext := hide (findK_first (x := (p, m)) hx hnm ho)
          simp only [ho, bsA, bsL] at g0 g1 H4
          have HN : Hid (bsA F (findK (pref pol la) n F (k + 1)) = (p : Nat) ∧ bsL F (findK (pref pol la) n F (k + 1)) = m) := by
            show _ ∧ _
            rw [unhide Hnext]
            simp only [bsA, bsL, List.getD_eq_getElem?_getD, hx, Option.getD_some, and_self]
          clear hY4 hx ho hR HR
          by_cases hp : pol = 2
          · have s2 : (pol == 2) = true := by simp [hp]
            have s3 : (pol == 3) = false := by simp [hp]
            have s4 : (pol == 4) = false := by simp [hp]
            have r1 : decide ((m : Int) < 0) = false := decide_eq_false (by omega)
            go_wp2
            go_quiet (fail)
            have Hq := hide ((unhide H4).drewN nq)
            have z0 : (W4.drewN nq).cell? ⟨wr.heap.size, 0, none⟩ = some (.int .i64 (p : Nat)) := y0
            have z1 : (W4.drewN nq).cell? ⟨wr.heap.size, 1, none⟩ = some (.int .i64 (m : Nat)) := y1
            have hsq : wr.heap.size < (W4.drewN nq).heap.size := hs4
            clear g0 g1 l3 ll y0 y1 hW4 hs4 gl
            generalize W4.drewN nq = wq at *
            have q0 := (unhide Hq).c0
            have q1 := (unhide Hq).c1
            have qf0 := (unhide Hq).fr 0
            have qf1 := (unhide Hq).fr 1
            have ql := (unhide Hq).lt
            have Hend := hide ((unhide Hq).set (p : Nat) m)
            have Hfin : Hid (∀ X, X = (wq.setCell ⟨W.heap.size, 0, none⟩ (.int .i64 (p : Nat))).setCell ⟨W.heap.size, 1, none⟩ (.int .i64 (m : Nat)) → Bst W W2 X (bsA F (findK (pref pol la) n F (k + 1))) (bsL F (findK (pref pol la) n F (k + 1)))) := fun X hX => by rw [(unhide HN).1, (unhide HN).2, hX]; exact unhide Hend
            go_wp2
            go_roundw
            case rel => exact ⟨k + 1, by omega, by go_num, unhide Hfin _ rfl⟩
            case measure => simp [intOf]; omega
          · have hp2 := hp
            clear hp
            by_cases hp : pol = 3
            · have s2 : (pol == 2) = false := by simp [hp]
              have s3 : (pol == 3) = true := by simp [hp]
              have s4 : (pol == 4) = false := by simp [hp]
              go_wp2
              go_quiet (fail)
              have Hq := hide ((unhide H4).drewN nq)
              have z0 : (W4.drewN nq).cell? ⟨wr.heap.size, 0, none⟩ = some (.int .i64 (p : Nat)) := y0
              have z1 : (W4.drewN nq).cell? ⟨wr.heap.size, 1, none⟩ = some (.int .i64 (m : Nat)) := y1
              have hsq : wr.heap.size < (W4.drewN nq).heap.size := hs4
              clear g0 g1 l3 ll y0 y1 hW4 hs4 gl
              generalize W4.drewN nq = wq at *
              have q0 := (unhide Hq).c0
              have q1 := (unhide Hq).c1
              have qf0 := (unhide Hq).fr 0
              have qf1 := (unhide Hq).fr 1
              have ql := (unhide Hq).lt
              have Hend := hide ((unhide Hq).set (p : Nat) m)
              have Hfin : Hid (∀ X, X = (wq.setCell ⟨W.heap.size, 0, none⟩ (.int .i64 (p : Nat))).setCell ⟨W.heap.size, 1, none⟩ (.int .i64 (m : Nat)) → Bst W W2 X (bsA F (findK (pref pol la) n F (k + 1))) (bsL F (findK (pref pol la) n F (k + 1)))) := fun X hX => by rw [(unhide HN).1, (unhide HN).2, hX]; exact unhide Hend
              go_wp2
              go_roundw
              case rel => exact ⟨k + 1, by omega, by go_num, unhide Hfin _ rfl⟩
              case measure => simp [intOf]; omega
            · have hp3 := hp
              clear hp
              by_cases hp : pol = 4
              · have s2 : (pol == 2) = false := by simp [hp]
                have s3 : (pol == 3) = false := by simp [hp]
                have s4 : (pol == 4) = true := by simp [hp]
                have r1 : decide ((0 : Int) < (m : Int)) = true := decide_eq_true (by omega)
                go_wp2
                go_quiet (fail)
                have Hq := hide ((unhide H4).drewN nq)
                have z0 : (W4.drewN nq).cell? ⟨wr.heap.size, 0, none⟩ = some (.int .i64 (p : Nat)) := y0
                have z1 : (W4.drewN nq).cell? ⟨wr.heap.size, 1, none⟩ = some (.int .i64 (m : Nat)) := y1
                have hsq : wr.heap.size < (W4.drewN nq).heap.size := hs4
                clear g0 g1 l3 ll y0 y1 hW4 hs4 gl
                generalize W4.drewN nq = wq at *
                have q0 := (unhide Hq).c0
                have q1 := (unhide Hq).c1
                have qf0 := (unhide Hq).fr 0
                have qf1 := (unhide Hq).fr 1
                have ql := (unhide Hq).lt
                have Hend := hide ((unhide Hq).set (p : Nat) m)
                have Hfin : Hid (∀ X, X = (wq.setCell ⟨W.heap.size, 0, none⟩ (.int .i64 (p : Nat))).setCell ⟨W.heap.size, 1, none⟩ (.int .i64 (m : Nat)) → Bst W W2 X (bsA F (findK (pref pol la) n F (k + 1))) (bsL F (findK (pref pol la) n F (k + 1)))) := fun X hX => by rw [(unhide HN).1, (unhide HN).2, hX]; exact unhide Hend
                go_wp2
                go_roundw
                case rel => exact ⟨k + 1, by omega, by go_num, unhide Hfin _ rfl⟩
                case measure => simp [intOf]; omega
              · have hp4 := hp
                clear hp
                have s2 : (pol == 2) = false := by simp [hp2]
                have s3 : (pol == 3) = false := by simp [hp3]
                have s4 : (pol == 4) = false := by simp [hp4]
                go_wp2
                go_quiet (fail)
                have Hq := hide ((unhide H4).drewN nq)
                have z0 : (W4.drewN nq).cell? ⟨wr.heap.size, 0, none⟩ = some (.int .i64 (p : Nat)) := y0
                have z1 : (W4.drewN nq).cell? ⟨wr.heap.size, 1, none⟩ = some (.int .i64 (m : Nat)) := y1
                have hsq : wr.heap.size < (W4.drewN nq).heap.size := hs4
                clear g0 g1 l3 ll y0 y1 hW4 hs4 gl
                generalize W4.drewN nq = wq at *
                have q0 := (unhide Hq).c0
                have q1 := (unhide Hq).c1
                have qf0 := (unhide Hq).fr 0
                have qf1 := (unhide Hq).fr 1
                have ql := (unhide Hq).lt
                have Hend := hide ((unhide Hq).set (p : Nat) m)
                have Hfin : Hid (∀ X, X = (wq.setCell ⟨W.heap.size, 0, none⟩ (.int .i64 (p : Nat))).setCell ⟨W.heap.size, 1, none⟩ (.int .i64 (m : Nat)) → Bst W W2 X (bsA F (findK (pref pol la) n F (k + 1))) (bsL F (findK (pref pol la) n F (k + 1)))) := fun X hX => by rw [(unhide HN).1, (unhide HN).2, hX]; exact unhide Hend
                go_wp2
                go_roundw
                case rel => exact ⟨k + 1, by omega, by go_num, unhide Hfin _ rfl⟩
                case measure => simp [intOf]; omega
        | some f =>
          obtain ⟨hf1, hf2⟩ := findK_some ho
          obtain ⟨fp, fm, hfx⟩ : ∃ fp fm, F[f]? = some (fp, fm) := ⟨F[f].1, F[f].2, List.getElem?_eq_getElem (by omega)⟩
          have hgf : F.getD f (0, 0) = (fp, fm) := by rw [List.getD_eq_getElem?_getD, hfx]; rfl
          have Hnext := hide (findK_more (x := (p, m)) (y := (fp, fm)) hx hfx hnm ho)
          have hfpm := (unhide HAp).1 (fp, fm) (List.mem_of_getElem? hfx)
          simp only at hfpm
          simp only [ho, bsA, bsL, hgf] at g0 g1 H4
          have HY2 : pref pol la (p, m) (fp, fm) = true → bsA F (findK (pref pol la) n F (k + 1)) = (p : Nat) ∧ bsL F (findK (pref pol la) n F (k + 1)) = m := fun hp => by
            rw [unhide Hnext, if_pos hp]
            simp only [bsA, bsL, List.getD_eq_getElem?_getD, hx, Option.getD_some, and_self]
          have HN2 : pref pol la (p, m) (fp, fm) = false → bsA F (findK (pref pol la) n F (k + 1)) = (fp : Nat) ∧ bsL F (findK (pref pol la) n F (k + 1)) = fm := fun hp => by
            rw [unhide Hnext, if_neg (by rw [hp]; simp)]
            simp only [bsA, bsL, hgf, and_self]
          clear hY4 hx ho hR HR hfx hgf Hnext hf2
          have f0 : decide ((fp : Int) < 0) = false := decide_eq_false (by omega)
          by_cases hp : pol = 2
          · by_cases hc : m < fm
            · have Hpr : Hid (pref pol la (p, m) (fp, fm) = true) := by show _ = _; simp [pref, hp]; omega
              have s2 : (pol == 2) = true := by simp [hp]
              have s3 : (pol == 3) = false := by simp [hp]
              have s4 : (pol == 4) = false := by simp [hp]
              have r1 : decide (m < fm) = true := decide_eq_true hc
              go_wp2
              go_quiet (fail)
              have Hq := hide ((unhide H4).drewN nq)
              have z0 : (W4.drewN nq).cell? ⟨wr.heap.size, 0, none⟩ = some (.int .i64 (p : Nat)) := y0
              have z1 : (W4.drewN nq).cell? ⟨wr.heap.size, 1, none⟩ = some (.int .i64 (m : Nat)) := y1
              have hsq : wr.heap.size < (W4.drewN nq).heap.size := hs4
              clear g0 g1 l3 ll y0 y1 hW4 hs4 gl
              generalize W4.drewN nq = wq at *
              have q0 := (unhide Hq).c0
              have q1 := (unhide Hq).c1
              have qf0 := (unhide Hq).fr 0
              have qf1 := (unhide Hq).fr 1
              have ql := (unhide Hq).lt
              have Hend := hide ((unhide Hq).set (p : Nat) m)
              have Hfin : Hid (∀ X, X = (wq.setCell ⟨W.heap.size, 0, none⟩ (.int .i64 (p : Nat))).setCell ⟨W.heap.size, 1, none⟩ (.int .i64 (m : Nat)) → Bst W W2 X (bsA F (findK (pref pol la) n F (k + 1))) (bsL F (findK (pref pol la) n F (k + 1)))) := fun X hX => by rw [(HY2 (unhide Hpr)).1, (HY2 (unhide Hpr)).2, hX]; exact unhide Hend
              go_wp2
              go_roundw
              case rel => exact ⟨k + 1, by omega, by go_num, unhide Hfin _ rfl⟩
              case measure => simp [intOf]; omega
            · have Hpr : Hid (pref pol la (p, m) (fp, fm) = false) := by show _ = _; simp [pref, hp]; omega
              have s2 : (pol == 2) = true := by simp [hp]
              have s3 : (pol == 3) = false := by simp [hp]
              have s4 : (pol == 4) = false := by simp [hp]
              have r1 : decide (m < fm) = false := decide_eq_false hc
              go_wp2
              go_quiet (fail)
              have Hq := hide ((unhide H4).drewN nq)
              clear g0 g1 l3 ll y0 y1 hW4 hs4 gl
              generalize W4.drewN nq = wq at *
              have Hfin : Hid (Bst W W2 wq (bsA F (findK (pref pol la) n F (k + 1))) (bsL F (findK (pref pol la) n F (k + 1)))) := by rw [(HN2 (unhide Hpr)).1, (HN2 (unhide Hpr)).2]; exact unhide Hq
              go_wp2
              go_roundw
              case rel => exact ⟨k + 1, by omega, by go_num, Hfin⟩
              case measure => simp [intOf]; omega
          · have hp2 := hp
            clear hp
            by_cases hp : pol = 3
            · by_cases hA : fp < la
              · have ra : decide (fp < la) = true := decide_eq_true hA
                by_cases hc : la ≤ p
                · have Hpr : Hid (pref pol la (p, m) (fp, fm) = true) := by show _ = _; simp [pref, hp]; omega
                  have s2 : (pol == 2) = false := by simp [hp]
                  have s3 : (pol == 3) = true := by simp [hp]
                  have s4 : (pol == 4) = false := by simp [hp]
                  have r1 : decide (la ≤ p) = true := decide_eq_true hc
                  go_wp2
                  go_quiet (fail)
                  have Hq := hide ((unhide H4).drewN nq)
                  have z0 : (W4.drewN nq).cell? ⟨wr.heap.size, 0, none⟩ = some (.int .i64 (p : Nat)) := y0
                  have z1 : (W4.drewN nq).cell? ⟨wr.heap.size, 1, none⟩ = some (.int .i64 (m : Nat)) := y1
                  have hsq : wr.heap.size < (W4.drewN nq).heap.size := hs4
                  clear g0 g1 l3 ll y0 y1 hW4 hs4 gl
                  generalize W4.drewN nq = wq at *
                  have q0 := (unhide Hq).c0
                  have q1 := (unhide Hq).c1
                  have qf0 := (unhide Hq).fr 0
                  have qf1 := (unhide Hq).fr 1
                  have ql := (unhide Hq).lt
                  have Hend := hide ((unhide Hq).set (p : Nat) m)
                  have Hfin : Hid (∀ X, X = (wq.setCell ⟨W.heap.size, 0, none⟩ (.int .i64 (p : Nat))).setCell ⟨W.heap.size, 1, none⟩ (.int .i64 (m : Nat)) → Bst W W2 X (bsA F (findK (pref pol la) n F (k + 1))) (bsL F (findK (pref pol la) n F (k + 1)))) := fun X hX => by rw [(HY2 (unhide Hpr)).1, (HY2 (unhide Hpr)).2, hX]; exact unhide Hend
                  go_wp2
                  go_roundw
                  case rel => exact ⟨k + 1, by omega, by go_num, unhide Hfin _ rfl⟩
                  case measure => simp [intOf]; omega
                · have Hpr : Hid (pref pol la (p, m) (fp, fm) = false) := by show _ = _; simp [pref, hp]; omega
                  have s2 : (pol == 2) = false := by simp [hp]
                  have s3 : (pol == 3) = true := by simp [hp]
                  have s4 : (pol == 4) = false := by simp [hp]
                  have r1 : decide (la ≤ p) = false := decide_eq_false hc
                  go_wp2
                  go_quiet (fail)
                  have Hq := hide ((unhide H4).drewN nq)
                  clear g0 g1 l3 ll y0 y1 hW4 hs4 gl
                  generalize W4.drewN nq = wq at *
                  have Hfin : Hid (Bst W W2 wq (bsA F (findK (pref pol la) n F (k + 1))) (bsL F (findK (pref pol la) n F (k + 1)))) := by rw [(HN2 (unhide Hpr)).1, (HN2 (unhide Hpr)).2]; exact unhide Hq
                  go_wp2
                  go_roundw
                  case rel => exact ⟨k + 1, by omega, by go_num, Hfin⟩
                  case measure => simp [intOf]; omega
              · have ra : decide (fp < la) = false := decide_eq_false hA
                have Hpr : Hid (pref pol la (p, m) (fp, fm) = false) := by show _ = _; simp [pref, hp]; omega
                have s2 : (pol == 2) = false := by simp [hp]
                have s3 : (pol == 3) = true := by simp [hp]
                have s4 : (pol == 4) = false := by simp [hp]
                go_wp2
                go_quiet (fail)
                have Hq := hide ((unhide H4).drewN nq)
                clear g0 g1 l3 ll y0 y1 hW4 hs4 gl
                generalize W4.drewN nq = wq at *
                have Hfin : Hid (Bst W W2 wq (bsA F (findK (pref pol la) n F (k + 1))) (bsL F (findK (pref pol la) n F (k + 1)))) := by rw [(HN2 (unhide Hpr)).1, (HN2 (unhide Hpr)).2]; exact unhide Hq
                go_wp2
                go_roundw
                case rel => exact ⟨k + 1, by omega, by go_num, Hfin⟩
                case measure => simp [intOf]; omega
            · have hp3 := hp
              clear hp
              by_cases hp : pol = 4
              · by_cases hc : fm < m
                · have Hpr : Hid (pref pol la (p, m) (fp, fm) = true) := by show _ = _; simp [pref, hp]; omega
                  have s2 : (pol == 2) = false := by simp [hp]
                  have s3 : (pol == 3) = false := by simp [hp]
                  have s4 : (pol == 4) = true := by simp [hp]
                  have r1 : decide (fm < m) = true := decide_eq_true hc
                  go_wp2
                  go_quiet (fail)
                  have Hq := hide ((unhide H4).drewN nq)
                  have z0 : (W4.drewN nq).cell? ⟨wr.heap.size, 0, none⟩ = some (.int .i64 (p : Nat)) := y0
                  have z1 : (W4.drewN nq).cell? ⟨wr.heap.size, 1, none⟩ = some (.int .i64 (m : Nat)) := y1
                  have hsq : wr.heap.size < (W4.drewN nq).heap.size := hs4
                  clear g0 g1 l3 ll y0 y1 hW4 hs4 gl
                  generalize W4.drewN nq = wq at *
                  have q0 := (unhide Hq).c0
                  have q1 := (unhide Hq).c1
                  have qf0 := (unhide Hq).fr 0
                  have qf1 := (unhide Hq).fr 1
                  have ql := (unhide Hq).lt
                  have Hend := hide ((unhide Hq).set (p : Nat) m)
                  have Hfin : Hid (∀ X, X = (wq.setCell ⟨W.heap.size, 0, none⟩ (.int .i64 (p : Nat))).setCell ⟨W.heap.size, 1, none⟩ (.int .i64 (m : Nat)) → Bst W W2 X (bsA F (findK (pref pol la) n F (k + 1))) (bsL F (findK (pref pol la) n F (k + 1)))) := fun X hX => by rw [(HY2 (unhide Hpr)).1, (HY2 (unhide Hpr)).2, hX]; exact unhide Hend
                  go_wp2
                  go_roundw
                  case rel => exact ⟨k + 1, by omega, by go_num, unhide Hfin _ rfl⟩
                  case measure => simp [intOf]; omega
                · have Hpr : Hid (pref pol la (p, m) (fp, fm) = false) := by show _ = _; simp [pref, hp]; omega
                  have s2 : (pol == 2) = false := by simp [hp]
                  have s3 : (pol == 3) = false := by simp [hp]
                  have s4 : (pol == 4) = true := by simp [hp]
                  have r1 : decide (fm < m) = false := decide_eq_false hc
                  go_wp2
                  go_quiet (fail)
                  have Hq := hide ((unhide H4).drewN nq)
                  clear g0 g1 l3 ll y0 y1 hW4 hs4 gl
                  generalize W4.drewN nq = wq at *
                  have Hfin : Hid (Bst W W2 wq (bsA F (findK (pref pol la) n F (k + 1))) (bsL F (findK (pref pol la) n F (k + 1)))) := by rw [(HN2 (unhide Hpr)).1, (HN2 (unhide Hpr)).2]; exact unhide Hq
                  go_wp2
                  go_roundw
                  case rel => exact ⟨k + 1, by omega, by go_num, Hfin⟩
                  case measure => simp [intOf]; omega
              · have hp4 := hp
                clear hp
                have Hpr : Hid (pref pol la (p, m) (fp, fm) = false) := by show _ = _; simp [pref, hp2, hp3, hp4]
                have s2 : (pol == 2) = false := by simp [hp2]
                have s3 : (pol == 3) = false := by simp [hp3]
                have s4 : (pol == 4) = false := by simp [hp4]
                go_wp2
                go_quiet (fail)
                have Hq := hide ((unhide H4).drewN nq)
                clear g0 g1 l3 ll y0 y1 hW4 hs4 gl
                generalize W4.drewN nq = wq at *
                have Hfin : Hid (Bst W W2 wq (bsA F (findK (pref pol la) n F (k + 1))) (bsL F (findK (pref pol la) n F (k + 1)))) := by rw [(HN2 (unhide Hpr)).1, (HN2 (unhide Hpr)).2]; exact unhide Hq
                go_wp2
                go_roundw
                case rel => exact ⟨k + 1, by omega, by go_num, Hfin⟩
                case measure => simp [intOf]; omega
      · have dm : decide (m < n) = true := decide_eq_true (by omega)
        have e := findK_skip (pr := pref pol la) (x := (p, m)) hx hnm
        rw [← e] at H4
        clear e hY4 hx g0 g1 l3 hR HR
        go_wp2
        go_roundw
        case rel => exact ⟨k + 1, by omega, by go_num, H4⟩
        case measure => simp [intOf]; omega
    · obtain rfl : k = F.length := by omega
      have g0 := hR.c0
      have gl := hR.lt
      clear hR HR
      generalize hres : bsA F (findK (pref pol la) n F F.length) = res at *
      have Hres := hide hres
      clear hres
      go_wp2
      go_ret
      exact ⟨by rw [unhide HF, unhide Hres]; rfl, hbw⟩

end Go.Proofs.Ytgbbcfngncofgaa

/- Walks: the yard's take, give. -/
namespace Go.Proofs.Ytgbbcfngncofgaa
set_option linter.unusedSimpArgs false
set_option linter.unusedVariables false
open Go.RowKit

/-- What a turn of the yard leaves alone. -/
structure Yfr (W W' : World) (N yb tb : Nat) (va vl va' vl' : Value) : Prop where
  bel : Below N W W'
  rest : ∀ k, k < W.heap.size → k ≠ yb → k ≠ tb → va.ownBlock ≠ some k → vl.ownBlock ≠ some k → W'.heap[k]? = W.heap[k]?
  na : va'.ownBlock = va.ownBlock ∨ ∃ k, va'.ownBlock = some k ∧ W.heap.size ≤ k
  nl : vl'.ownBlock = vl.ownBlock ∨ ∃ k, vl'.ownBlock = some k ∧ W.heap.size ≤ k

theorem box57_1 {W : World} {b : Nat} {x y z u : Value} (h : W.heap[b]? = some (.cells #[x, y, z, u] 57)) (v : Value) : (W.setCell ⟨b, 1, none⟩ v).heap[b]? = some (.cells #[x, v, z, u] 57) := by
  rw [heap_setCell_same W b 1 _ 57 v h]; rfl
theorem box57_2 {W : World} {b : Nat} {x y z u : Value} (h : W.heap[b]? = some (.cells #[x, y, z, u] 57)) (v : Value) : (W.setCell ⟨b, 2, none⟩ v).heap[b]? = some (.cells #[x, y, v, u] 57) := by
  rw [heap_setCell_same W b 2 _ 57 v h]; rfl
theorem box57_3 {W : World} {b : Nat} {x y z u : Value} (h : W.heap[b]? = some (.cells #[x, y, z, u] 57)) (v : Value) : (W.setCell ⟨b, 3, none⟩ v).heap[b]? = some (.cells #[x, y, z, v] 57) := by
  rw [heap_setCell_same W b 3 _ 57 v h]; rfl

section
variable {W : World} {N yb tb : Nat} {va vl : Value} {S : Nat} {T : List Bool} {P L : List Int} {la : Nat}
/-- Behind an append to what was taken where. -/
theorem Ym.pushA {W' : World} {v : Value} {x : Int} (h : Ym W N yb tb va vl S T P L la) (hr : W'.ownsRow N 3 1 v (P.length + 1) (intsV P ++ [.int .i64 x])) (hg : W.grownBy W' va.ownBlock) (hat : v.ownBlock = va.ownBlock ∨ v.ownBlock = some W.heap.size) :
    W'.heap[yb]? = some (.cells #[.slice (some ⟨tb, 0, none⟩) S S, va, vl, .int .i64 (la : Nat)] 57) ∧ Ym (W'.setCell ⟨yb, 1, none⟩ v) N yb tb v vl S T (P ++ [x]) L la := by
  have hya := row_ne h.ra h.box (by decide)
  have hbx : W'.heap[yb]? = some (.cells #[.slice (some ⟨tb, 0, none⟩) S S, va, vl, .int .i64 (la : Nat)] 57) := by rw [hg.block yb h.lt (fun e => hya e.symm)]; exact h.box
  have hgs := grown_set W' yb 1 v
  have hvl := h.rl.kept hg (by cases hv : vl.ownBlock with
    | none => exact .inl rfl
    | some k => exact .inr (fun e => h.dj k e.symm hv))
  have hvt := h.rt.kept hg (.inr (by
    obtain ⟨cs, ht⟩ := h.tat
    exact fun e => row_ne h.ra ht (by decide) (by rw [← e]; rfl)))
  have hr' : W'.ownsRow N 3 1 v (P ++ [x]).length (intsV (P ++ [x])) := by rw [intsV_snoc, List.length_append]; exact hr
  refine ⟨hbx, box57_1 hbx v, hvt.kept hgs (.inr (row_ne hvt hbx (by decide))), hr'.kept hgs (.inr (row_ne hr' hbx (by decide))), hvl.kept hgs (.inr (row_ne hvl hbx (by decide))), fun k hk e => ?_, h.lo⟩
  rcases hat with h1 | h1
  · exact h.dj k (by rw [← h1]; exact hk) e
  · rw [h1] at hk
    injection hk with hk
    have := (h.rl.lt k e).2
    omega
/-- Behind an append to how long each is. -/
theorem Ym.pushL {W' : World} {v : Value} {x : Int} (h : Ym W N yb tb va vl S T P L la) (hr : W'.ownsRow N 3 1 v (L.length + 1) (intsV L ++ [.int .i64 x])) (hg : W.grownBy W' vl.ownBlock) (hat : v.ownBlock = vl.ownBlock ∨ v.ownBlock = some W.heap.size) :
    W'.heap[yb]? = some (.cells #[.slice (some ⟨tb, 0, none⟩) S S, va, vl, .int .i64 (la : Nat)] 57) ∧ Ym (W'.setCell ⟨yb, 2, none⟩ v) N yb tb va v S T P (L ++ [x]) la := by
  have hya := row_ne h.rl h.box (by decide)
  have hbx : W'.heap[yb]? = some (.cells #[.slice (some ⟨tb, 0, none⟩) S S, va, vl, .int .i64 (la : Nat)] 57) := by rw [hg.block yb h.lt (fun e => hya e.symm)]; exact h.box
  have hgs := grown_set W' yb 2 v
  have hva := h.ra.kept hg (by cases hv : va.ownBlock with
    | none => exact .inl rfl
    | some k => exact .inr (fun e => h.dj k hv e.symm))
  have hvt := h.rt.kept hg (.inr (by
    obtain ⟨cs, ht⟩ := h.tat
    exact fun e => row_ne h.rl ht (by decide) (by rw [← e]; rfl)))
  have hr' : W'.ownsRow N 3 1 v (L ++ [x]).length (intsV (L ++ [x])) := by rw [intsV_snoc, List.length_append]; exact hr
  refine ⟨hbx, box57_2 hbx v, hvt.kept hgs (.inr (row_ne hvt hbx (by decide))), hva.kept hgs (.inr (row_ne hva hbx (by decide))), hr'.kept hgs (.inr (row_ne hr' hbx (by decide))), fun k hk e => ?_, h.lo⟩
  rcases hat with h1 | h1
  · exact h.dj k hk (by rw [← h1]; exact e)
  · rw [h1] at e
    injection e with e
    have := (h.ra.lt k hk).2
    omega
theorem Ym.setE (h : Ym W N yb tb va vl S T P L la) (la' : Nat) : Ym (W.setCell ⟨yb, 3, none⟩ (.int .i64 (la' : Nat))) N yb tb va vl S T P L la' := by
  have hgs := grown_set W yb 3 (.int .i64 (la' : Nat))
  exact ⟨box57_3 h.box _, h.rt.kept hgs (.inr (row_ne h.rt h.box (by decide))), h.ra.kept hgs (.inr (row_ne h.ra h.box (by decide))), h.rl.kept hgs (.inr (row_ne h.rl h.box (by decide))), h.dj, h.lo⟩
end

set_option maxRecDepth 100000 in
set_option maxHeartbeats 2000000 in
theorem ytake_c (W : World) (N yb tb : Nat) (va vl : Value) (S : Nat) (T : List Bool) (P L : List Int) (la : Nat) (h : Ym W N yb tb va vl S T P L la) (hN : N ≤ W.heap.size) (p n : Nat) (hp : p + n ≤ S) (hS : S ≤ 256) (hP : P.length ≤ 100) (hL : L.length ≤ 100) :
    Calls Try.prog 21 #[.pointer (some ⟨yb, 0, none⟩), .int .i64 (p : Nat), .int .i64 (n : Nat)] W fun e w' => e = .returned (.tuple #[]) ∧ ∃ va' vl', Ym w' N yb tb va' vl' S (updB T (rowP p n) true) (P ++ [(p : Int)]) (L ++ [(n : Int)]) (p + n) ∧ Yfr W w' N yb tb va vl va' vl' := by
  obtain ⟨i3, hi3, hy0, hy1, hy2⟩ := info_parts Try.info3
  have Hc := hide (set_c W N yb tb va vl S T P L la h p n true hp hS)
  have HY := hide h
  clear h
  go_enter Try.func21, Try.ntmps21
  go_wp2_with fail
  refine (unhide Hc).mono ?_
  rintro e w1 ⟨rfl, h1, hg1⟩
  have hs1 := hg1.size
  have hb11 : Below w1.heap.size w1 (w1.alloc (.cells #[.int .i64 (p : Nat)] 3)) := (Below.refl _ _).alloc (Nat.le_refl _) _
  have c1 := h1.c1
  have l1 := h1.lt
  have H1 := hide h1
  have Hg1 := hide hg1
  have hra := h1.ra
  clear h1 hg1 Hc
  go_wp2_with (first
    | (at_builtin; refine wpList_append_own_at _ rfl _ _ 24 rfl N 3 i3 _ 1 8 Try.underlying24 hi3 hy0 hy1 hy2 rfl (by decide) va _ _ rfl (hra.alloc _) ⟨w1.heap.size, 0, none⟩ 1 1 [.int .i64 (p : Nat)] rfl rfl (cell_one_at _ _ _ _ rfl) (by simp [Value.oneCell']) (by simp only [maxLen]; omega) (by omega) (by simp; omega) ?_; go_must (intro v7 w7 hrow7 hg7 _ hat7; obtain ⟨g7, c7, hv7⟩ := ownsRow_succ hrow7; subst hv7; obtain ⟨hbx7, hY7⟩ := ((unhide H1).below hb11).pushA hrow7 hg7 hat7; have hq1 : w7.cell? ⟨yb, 1, none⟩ = some va := (by rw [cell_of_row w7 yb 1 _ 57 (0, 0) hbx7]; rfl); have hqf := frozen_of_row w7 yb 1 _ 57 hbx7; have hql : yb < w7.heap.size := (Array.getElem?_eq_some_iff.1 hbx7).1; have hd2 := hY7.c2; have hdl := hY7.lt; have H7 := hide hY7; have Hg7 := hide hg7; have Hat7 := hide hat7; have hs7 := hg7.size; have hb77 := (Below.refl (w7.setCell ⟨yb, 1, none⟩ (.slice (some ⟨g7, 0, none⟩) (P.length + 1) c7)).heap.size (w7.setCell ⟨yb, 1, none⟩ (.slice (some ⟨g7, 0, none⟩) (P.length + 1) c7))).alloc (Nat.le_refl _) (.cells #[.int .i64 (n : Nat)] 3); have hrl := hY7.rl; clear hrow7 hg7 hat7 hbx7 hY7 hra c1))
    | (at_builtin; refine wpList_append_own_at _ rfl _ _ 24 rfl N 3 i3 _ 1 8 Try.underlying24 hi3 hy0 hy1 hy2 rfl (by decide) vl _ _ rfl (hrl.alloc _) ⟨w7.heap.size, 0, none⟩ 1 1 [.int .i64 (n : Nat)] rfl rfl (cell_one_at _ _ _ _ (by simp [World.setCell])) (by simp [Value.oneCell']) (by simp only [maxLen]; omega) (by omega) (by simp [World.setCell] at hs7 ⊢; omega) ?_; go_must (intro v9 w9 hrow9 hg9 _ hat9; obtain ⟨g9, c9, hv9⟩ := ownsRow_succ hrow9; subst hv9; obtain ⟨hbx9, hY9⟩ := ((unhide H7).below hb77).pushL hrow9 hg9 hat9; have hu1 : w9.cell? ⟨yb, 2, none⟩ = some vl := (by rw [cell_of_row w9 yb 2 _ 57 (0, 0) hbx9]; rfl); have huf := frozen_of_row w9 yb 2 _ 57 hbx9; have hul : yb < w9.heap.size := (Array.getElem?_eq_some_iff.1 hbx9).1; have he3 := hY9.c3; have hef := hY9.fr 3; have hel := hY9.lt; have H9 := hide (hY9.setE (p + n)); have Hg9 := hide hg9; have Hat9 := hide hat9; have hs9 := hg9.size; clear hrow9 hg9 hat9 hbx9 hY9 hrl hd2)))
  go_end0
  refine ⟨rfl, _, _, unhide H9, ?_⟩
  have hyN := (unhide HY).lo
  have htN := (unhide HY).tlt.1
  have hyl := (unhide HY).lt
  have hs7' : w1.heap.size + 1 ≤ w7.heap.size := by simpa using hs7
  have hs9' : w7.heap.size + 1 ≤ w9.heap.size := by simpa [World.setCell] using hs9
  refine ⟨?_, fun k hk k1 k2 k3 k4 => ?_, ?_, ?_⟩
  · exact ((((((((Below.refl N W).grown (unhide Hg1) hN (fun x e => by injection e with e; omega)).alloc (by omega) _).grown (unhide Hg7) (by simp; omega) (fun x e => ((unhide H1).ra.lt x e).1)).setCell (p := ⟨yb, 1, none⟩) hyN _).alloc (by simp [World.setCell]; omega) _).grown (unhide Hg9) (by simp [World.setCell]; omega) (fun x e => ((unhide H7).rl.lt x e).1)).setCell (p := ⟨yb, 2, none⟩) hyN _).setCell (p := ⟨yb, 3, none⟩) hyN _
  · rw [Below.heap_setCell _ _ _ _ k1, Below.heap_setCell _ _ _ _ k1, (unhide Hg9).block k (by simp [World.setCell]; omega) (fun e => k4 e.symm), Below.heap_alloc _ _ _ (by simp [World.setCell]; omega), Below.heap_setCell _ _ _ _ k1, (unhide Hg7).block k (by simp; omega) (fun e => k3 e.symm), Below.heap_alloc _ _ _ (by omega), (unhide Hg1).block k hk (by simpa using k2)]
  · rcases unhide Hat7 with e | e
    · exact .inl e
    · exact .inr ⟨_, e, by simp; omega⟩
  · rcases unhide Hat9 with e | e
    · exact .inl e
    · exact .inr ⟨_, e, by simp [World.setCell]; omega⟩

end Go.Proofs.Ytgbbcfngncofgaa

/- Walks: the yard's give. -/
namespace Go.Proofs.Ytgbbcfngncofgaa
set_option linter.unusedSimpArgs false
set_option linter.unusedVariables false
open Go.RowKit

section
variable {W : World} {N yb tb : Nat} {va vl : Value} {S : Nat} {T : List Bool} {P L : List Int} {la : Nat}
theorem Ym.setP {g n cap : Nat} (h : Ym W N yb tb (.slice (some ⟨g, 0, none⟩) n cap) vl S T P L la) (j : Nat) (x : Int) : Ym (W.setCell ⟨g, j, none⟩ (.int .i64 x)) N yb tb (.slice (some ⟨g, 0, none⟩) n cap) vl S T (P.set j x) L la := by
  have hn : n = P.length := by obtain ⟨a, c, e⟩ := ownsRow_slice h.ra; injection e
  subst hn
  have h1 := h.ra.stored j (.int .i64 x)
  rw [show (intsV P).set j (.int .i64 x) = intsV (P.set j x) by simp [intsV, List.map_set]] at h1
  have hg := grown_set W g j (.int .i64 x)
  obtain ⟨cs, ht⟩ := h.tat
  have hya := row_ne h.ra h.box (by decide)
  have hta := row_ne h.ra ht (by decide)
  refine ⟨by rw [hg.block yb h.lt (fun e => hya (by rw [Value.ownBlock, e]))]; exact h.box, h.rt.kept hg (.inr (fun e => hta (by have e' : some tb = some g := e; injection e' with e'; subst e'; rfl))), by rw [List.length_set]; exact h1.1, h.rl.kept hg (.inr (h.dj g rfl)), h.dj, h.lo⟩
end

set_option maxRecDepth 100000 in
set_option maxHeartbeats 2000000 in
theorem ygive_no (W : World) (N yb tb : Nat) (va vl : Value) (S : Nat) (T : List Bool) (P L : List Int) (la : Nat) (h : Ym W N yb tb va vl S T P L la) (hP : P.length ≤ 100) (q : Int) (hq : ∀ i : Nat, P[i]? ≠ some q) :
    Calls Try.prog 22 #[.pointer (some ⟨yb, 0, none⟩), .int .i64 q] W fun e w' => e = .returned (.bool false) ∧ w' = W := by
  obtain ⟨a, c, e⟩ := ownsRow_slice h.ra
  subst e
  have t1 := h.c1
  have tl := h.lt
  have HY := hide h
  have Hq := hide hq
  clear h hq
  go_enter Try.func22, Try.ntmps22
  go_wp2
  go_loopw [5] (fun i wr => ∃ k : Nat, k ≤ P.length ∧ i = .int .i64 k ∧ wr = W) (fun i _ => P.length - (intOf i).toNat)
  case atStart => exact ⟨0, Nat.zero_le _, rfl, rfl⟩
  case round =>
    obtain ⟨k, hk, rfl, rfl⟩ := hrel
    by_cases hlt : k < P.length
    · obtain ⟨x, hx⟩ : ∃ x, P[k]? = some x := ⟨_, List.getElem?_eq_getElem hlt⟩
      obtain ⟨a', c', e', hN, _⟩ := nums_of_owns (unhide HY).ra (by omega)
      injection e' with e1 _ _
      subst e1
      obtain ⟨b, off, rfl, hbB, y0⟩ := hN.at hx
      have hkI : (k : Int) < (P.length : Int) := by omega
      have hne : (x == q) = false := by
        have := unhide Hq k
        rw [hx] at this
        simpa using this
      clear hx hN
      go_wp2
      go_roundw
      case rel => exact ⟨k + 1, by omega, by go_num, trivial⟩
      case measure => simp [intOf]; omega
    · obtain rfl : k = P.length := by omega
      go_wp2
      go_ret
      exact ⟨rfl, rfl⟩

set_option maxRecDepth 100000 in
set_option maxHeartbeats 2000000 in
theorem ygive_yes (W : World) (N yb tb : Nat) (va vl : Value) (S : Nat) (T : List Bool) (P L : List Int) (la : Nat) (h : Ym W N yb tb va vl S T P L la) (hN : N ≤ W.heap.size) (hP : P.length ≤ 100) (hPL : P.length = L.length) (hS : S ≤ 256) (p m i : Nat) (hi : P[i]? = some (p : Int)) (hL : L[i]? = some (m : Int)) (hpm : p + m ≤ S) (hun : ∀ j, j < i → P[j]? ≠ some (p : Int)) :
    Calls Try.prog 22 #[.pointer (some ⟨yb, 0, none⟩), .int .i64 (p : Nat)] W fun e w' => e = .returned (.bool true) ∧ Ym w' N yb tb va vl S (updB T (rowP p m) false) (P.set i (-1)) L la ∧ Yfr W w' N yb tb va vl va vl := by
  have hil := (List.getElem?_eq_some_iff.1 hi).1
  obtain ⟨n1, hn1⟩ : ∃ n1, P.length = n1 + 1 := ⟨P.length - 1, by omega⟩
  have hra := h.ra
  rw [hn1] at hra
  obtain ⟨g, c, e⟩ := ownsRow_succ hra
  subst e
  have hrl := h.rl
  rw [← hPL, hn1] at hrl
  obtain ⟨g', c', e⟩ := ownsRow_succ hrl
  subst e
  rw [← hn1] at *
  have t1 := h.c1
  have t2 := h.c2
  have tl := h.lt
  have hgl := (h.ra.lt g rfl).2
  have hgl' := (h.rl.lt g' rfl).2
  have HY := hide h
  have Hun := hide hun
  have HC := hide (set_c W N yb tb _ _ S T P L la h p m false hpm hS)
  have Hi := hide hi
  have HL := hide hL
  clear h hun hra hrl hi hL
  go_enter Try.func22, Try.ntmps22
  go_wp2
  go_loopw [5] (fun j wr => ∃ k : Nat, k ≤ i ∧ j = .int .i64 k ∧ wr = W) (fun j _ => P.length - (intOf j).toNat)
  case atStart => exact ⟨0, Nat.zero_le _, rfl, rfl⟩
  case round =>
    obtain ⟨k, hk, rfl, rfl⟩ := hrel
    have hkI : (k : Int) < (P.length : Int) := by omega
    by_cases hlt : k < i
    · obtain ⟨x, hx⟩ : ∃ x, P[k]? = some x := ⟨_, List.getElem?_eq_getElem (by omega)⟩
      have y0 : wr.cell? ⟨g, k, none⟩ = some (.int .i64 x) := by rw [(unhide HY).ra.cellAt k (by omega)]; exact intsV_get hx
      have hne : (x == (p : Int)) = false := by
        have := unhide Hun k hlt
        rw [hx] at this
        simpa using this
      clear hx
      go_wp2
      go_roundw
      case rel => exact ⟨k + 1, by omega, by go_num, trivial⟩
      case measure => simp [intOf]; omega
    · obtain rfl : k = i := by omega
      have y0 : wr.cell? ⟨g, k, none⟩ = some (.int .i64 (p : Nat)) := by rw [(unhide HY).ra.cellAt k (by omega)]; exact intsV_get (unhide Hi)
      have y1 : wr.cell? ⟨g', k, none⟩ = some (.int .i64 (m : Nat)) := by
        have hrl := (unhide HY).rl
        rw [← hPL] at hrl
        rw [hrl.cellAt k (by omega)]; exact intsV_get (unhide HL)
      have hkL : (k : Int) < (L.length : Int) := by omega
      have hpp : ((p : Int) == (p : Int)) = true := by simp
      go_wp2_with fail
      refine (unhide HC).mono ?_
      rintro e w1 ⟨rfl, h1, hg1⟩
      have u1 := h1.c1
      have ul := h1.lt
      have ugl := (h1.ra.lt g rfl).2
      have ugN := (h1.ra.lt g rfl).1
      have uf := h1.ra.frozenAt k
      have z0 : w1.cell? ⟨g, k, none⟩ = some (.int .i64 (p : Nat)) := by rw [h1.ra.cellAt k (by omega)]; exact intsV_get (unhide Hi)
      have H2 := hide (h1.setP k (-1))
      have HF : Hid (Yfr wr (w1.setCell ⟨g, k, none⟩ (.int .i64 (-1))) N yb tb (.slice (some ⟨g, 0, none⟩) P.length c) (.slice (some ⟨g', 0, none⟩) P.length c') (.slice (some ⟨g, 0, none⟩) P.length c) (.slice (some ⟨g', 0, none⟩) P.length c')) := by
        refine ⟨((Below.refl N wr).grown hg1 hN (fun x e => by injection e with e; have := (unhide HY).tlt.1; omega)).setCell (p := ⟨g, k, none⟩) ugN _, fun j hj k1 k2 k3 k4 => ?_, .inl rfl, .inl rfl⟩
        rw [Below.heap_setCell _ _ _ _ (by simpa [Value.ownBlock, eq_comm] using k3), hg1.block j hj (by simpa using k2)]
      clear h1 hg1 HC y0 y1 t1 t2 tl hgl hgl'
      go_wp2
      go_ret
      exact ⟨rfl, unhide H2, unhide HF⟩

end Go.Proofs.Ytgbbcfngncofgaa

/- What the other way holds behind some asks, in memory. -/
namespace Go.Proofs.Ytgbbcfngncofgaa
set_option linter.unusedSimpArgs false
set_option linter.unusedVariables false
open Go.RowKit

section
variable {W : World} {N yb tb : Nat} {va vl : Value} {S : Nat} {T : List Bool} {P L : List Int} {la : Nat}
theorem Ym.kept {W' : World} {r : Option Nat} (h : Ym W N yb tb va vl S T P L la) (hg : W.grownBy W' r) (h1 : some yb ≠ r) (h2 : some tb ≠ r) (h3 : va.ownBlock = none ∨ va.ownBlock ≠ r) (h4 : vl.ownBlock = none ∨ vl.ownBlock ≠ r) : Ym W' N yb tb va vl S T P L la :=
  ⟨by rw [hg.block yb h.lt h1]; exact h.box, h.rt.kept hg (.inr h2), h.ra.kept hg h3, h.rl.kept hg h4, h.dj, h.lo⟩
/-- Behind a turn of a row of another type. -/
theorem Ym.keptR {W' : World} {base : Nat} {e : TypeId} {size : Nat} {v : Value} {n : Nat} {xs : List Value} (h : Ym W N yb tb va vl S T P L la) (hr : W.ownsRow base e size v n xs) (hg : W.grownBy W' v.ownBlock) (e1 : e ≠ 57) (e2 : e ≠ 4) (e3 : e ≠ 3) : Ym W' N yb tb va vl S T P L la := by
  obtain ⟨cs, ht⟩ := h.tat
  exact h.kept hg (fun e => row_ne hr h.box e1 e.symm) (fun e => row_ne hr ht e2 e.symm) (row_ne_row h.ra hr (fun e => e3 e.symm)) (row_ne_row h.rl hr (fun e => e3 e.symm))
/-- Behind a store in a box of another type. -/
theorem Ym.keptB {b j : Nat} {cs : Array Value} (h : Ym W N yb tb va vl S T P L la) (hb : W.heap[b]? = some (.cells cs 27)) (u : Value) : Ym (W.setCell ⟨b, j, none⟩ u) N yb tb va vl S T P L la := by
  have hne : ∀ {x : Nat} {ds : Array Value} {t : TypeId}, W.heap[x]? = some (.cells ds t) → t ≠ 27 → some x ≠ some b := fun hx ht e => by
    injection e with e
    subst e
    rw [hx] at hb
    injection hb with hb
    injection hb with _ hb
    exact ht hb
  obtain ⟨ds, ht⟩ := h.tat
  exact h.kept (grown_set W b j u) (hne h.box (by decide)) (hne ht (by decide)) (.inr (row_ne h.ra hb (by decide))) (.inr (row_ne h.rl hb (by decide)))
end

theorem told27_0 {W : World} {b : Nat} {x y z : Value} (h : W.heap[b]? = some (.cells #[x, y, z] 27)) (v : Value) : (W.setCell ⟨b, 0, none⟩ v).heap[b]? = some (.cells #[v, y, z] 27) := by
  rw [heap_setCell_same W b 0 _ 27 v h]; rfl
theorem told27_1 {W : World} {b : Nat} {x y z : Value} (h : W.heap[b]? = some (.cells #[x, y, z] 27)) (v : Value) : (W.setCell ⟨b, 1, none⟩ v).heap[b]? = some (.cells #[x, v, z] 27) := by
  rw [heap_setCell_same W b 1 _ 27 v h]; rfl
theorem told27_2 {W : World} {b : Nat} {x y z : Value} (h : W.heap[b]? = some (.cells #[x, y, z] 27)) (v : Value) : (W.setCell ⟨b, 2, none⟩ v).heap[b]? = some (.cells #[x, y, v] 27) := by
  rw [heap_setCell_same W b 2 _ 27 v h]; rfl

/-- The yard and what was told lie apart. -/
def Sep (vt va vl : Value) : Prop := ∀ j, vt.ownBlock = some j → va.ownBlock ≠ some j ∧ vl.ownBlock ≠ some j

theorem told_C {W W' : World} {N yb tb ob : Nat} {va vl vc vt v : Value} {S : Nat} {T : List Bool} {P L C A : List Int} {la : Nat} {x : Int} (h : Ym W N yb tb va vl S T P L la) (ht : Told W N ob vc vt C A)
    (hr : W'.ownsRow N 28 1 v (C.length + 1) (intsV C ++ [.int .i64 x])) (hg : W.grownBy W' vc.ownBlock) :
    W'.heap[ob]? = some (.cells #[vc, vt, .slice none 0 0] 27) ∧ Ym (W'.setCell ⟨ob, 0, none⟩ v) N yb tb va vl S T P L la ∧ Told (W'.setCell ⟨ob, 0, none⟩ v) N ob v vt (C ++ [x]) A := by
  have hbx : W'.heap[ob]? = some (.cells #[vc, vt, .slice none 0 0] 27) := by rw [hg.block ob ht.lt (fun e => row_ne ht.rc ht.box (by decide) e.symm)]; exact ht.box
  have hY := h.keptR ht.rc hg (by decide) (by decide) (by decide)
  have hra := ht.ra.kept hg (row_ne_row ht.ra ht.rc (by decide))
  have hr' : W'.ownsRow N 28 1 v (C ++ [x]).length (intsV (C ++ [x])) := by rw [intsV_snoc, List.length_append]; exact hr
  have hgs := grown_set W' ob 0 v
  exact ⟨hbx, hY.keptB hbx v, told27_0 hbx v, hr'.kept hgs (.inr (row_ne hr' hbx (by decide))), hra.kept hgs (.inr (row_ne hra hbx (by decide))), ht.lo⟩

theorem told_A {W W' : World} {N yb tb ob : Nat} {va vl vc vt v : Value} {S : Nat} {T : List Bool} {P L C A : List Int} {la : Nat} {x : Int} (h : Ym W N yb tb va vl S T P L la) (ht : Told W N ob vc vt C A) (hs : Sep vt va vl)
    (hr : W'.ownsRow N 3 1 v (A.length + 1) (intsV A ++ [.int .i64 x])) (hg : W.grownBy W' vt.ownBlock) (hat : v.ownBlock = vt.ownBlock ∨ v.ownBlock = some W.heap.size) :
    W'.heap[ob]? = some (.cells #[vc, vt, .slice none 0 0] 27) ∧ Ym (W'.setCell ⟨ob, 1, none⟩ v) N yb tb va vl S T P L la ∧ Told (W'.setCell ⟨ob, 1, none⟩ v) N ob vc v C (A ++ [x]) ∧ Sep v va vl := by
  have hbx : W'.heap[ob]? = some (.cells #[vc, vt, .slice none 0 0] 27) := by rw [hg.block ob ht.lt (fun e => row_ne ht.ra ht.box (by decide) e.symm)]; exact ht.box
  obtain ⟨cs, htt⟩ := h.tat
  have hY := h.kept hg (fun e => row_ne ht.ra h.box (by decide) e.symm) (fun e => row_ne ht.ra htt (by decide) e.symm)
    (by cases hv : va.ownBlock with
      | none => exact .inl rfl
      | some k => exact .inr (fun e => (hs k e.symm).1 hv))
    (by cases hv : vl.ownBlock with
      | none => exact .inl rfl
      | some k => exact .inr (fun e => (hs k e.symm).2 hv))
  have hrc := ht.rc.kept hg (row_ne_row ht.rc ht.ra (by decide))
  have hr' : W'.ownsRow N 3 1 v (A ++ [x]).length (intsV (A ++ [x])) := by rw [intsV_snoc, List.length_append]; exact hr
  have hgs := grown_set W' ob 1 v
  refine ⟨hbx, hY.keptB hbx v, ⟨told27_1 hbx v, hrc.kept hgs (.inr (row_ne hrc hbx (by decide))), hr'.kept hgs (.inr (row_ne hr' hbx (by decide))), ht.lo⟩, fun j hj => ?_⟩
  rcases hat with e | e
  · exact hs j (by rw [← e]; exact hj)
  · rw [e] at hj
    injection hj with hj
    exact ⟨fun e' => by have := (h.ra.lt j e').2; omega, fun e' => by have := (h.rl.lt j e').2; omega⟩

theorem row_same {W W' : World} {base : Nat} {e : TypeId} {size : Nat} {v : Value} {n : Nat} {xs : List Value} (h : W.ownsRow base e size v n xs) (hk : ∀ k, v.ownBlock = some k → W'.heap[k]? = W.heap[k]?) : W'.ownsRow base e size v n xs := by
  refine ⟨h.1, ?_⟩
  rcases h.2 with h | ⟨g, cap, cur, hv, hb, hg, h3⟩
  · exact .inl h
  · exact .inr ⟨g, cap, cur, hv, hb, by rw [hk g (by rw [hv]; rfl)]; exact hg, h3⟩

/-- What was told stays, behind a turn of the yard. -/
theorem told_yfr {W W' : World} {N yb tb ob : Nat} {va vl va' vl' vc vt : Value} {S : Nat} {T : List Bool} {P L C A : List Int} {la : Nat} (h : Ym W N yb tb va vl S T P L la) (ht : Told W N ob vc vt C A) (hs : Sep vt va vl) (hf : Yfr W W' N yb tb va vl va' vl') :
    Told W' N ob vc vt C A ∧ Sep vt va' vl' := by
  obtain ⟨cs, htt⟩ := h.tat
  have hne : ∀ {x y : Nat} {ds es : Array Value} {t u : TypeId}, W.heap[x]? = some (.cells ds t) → W.heap[y]? = some (.cells es u) → t ≠ u → x ≠ y := fun hx hy ht e => by
    subst e
    rw [hx] at hy
    injection hy with hy
    injection hy with _ hy
    exact ht hy
  refine ⟨⟨by rw [hf.rest ob ht.lt (hne ht.box h.box (by decide)) (hne ht.box htt (by decide)) (row_ne h.ra ht.box (by decide)) (row_ne h.rl ht.box (by decide))]; exact ht.box, row_same ht.rc fun k hk => ?_, row_same ht.ra fun k hk => ?_, ht.lo⟩, fun j hj => ?_⟩
  · have hl := (ht.rc.lt k hk).2
    refine hf.rest k hl (fun e => row_ne ht.rc h.box (by decide) (by rw [hk, e])) (fun e => row_ne ht.rc htt (by decide) (by rw [hk, e])) (fun e => ?_) (fun e => ?_)
    · rcases row_ne_row h.ra ht.rc (by decide) with e' | e'
      · rw [e'] at e; cases e
      · exact e' (by rw [e, hk])
    · rcases row_ne_row h.rl ht.rc (by decide) with e' | e'
      · rw [e'] at e; cases e
      · exact e' (by rw [e, hk])
  · have hl := (ht.ra.lt k hk).2
    exact hf.rest k hl (fun e => row_ne ht.ra h.box (by decide) (by rw [hk, e])) (fun e => row_ne ht.ra htt (by decide) (by rw [hk, e])) (hs k hk).1 (hs k hk).2
  · have hl := (ht.ra.lt j hj).2
    refine ⟨?_, ?_⟩
    · rcases hf.na with e | ⟨k, e, hk⟩
      · rw [e]; exact (hs j hj).1
      · rw [e]; simp; omega
    · rcases hf.nl with e | ⟨k, e, hk⟩
      · rw [e]; exact (hs j hj).2
      · rw [e]; simp; omega

/-- All of it. -/
def Fh (w0 wr : World) (N yb tb ob S : Nat) (s : St) (n : Nat) (C A : List Int) : Prop :=
  ∃ va vl vc vt T P L, Ym wr N yb tb va vl S T P L s.en ∧ Yd S s T P L ∧ Told wr N ob vc vt C A ∧ Sep vt va vl ∧ P.length ≤ n ∧ Below N w0 wr

theorem Fh.below {w0 W W' : World} {N yb tb ob S : Nat} {s : St} {n : Nat} {C A : List Int} (h : Fh w0 W N yb tb ob S s n C A) (hb : Below W.heap.size W W') : Fh w0 W' N yb tb ob S s n C A := by
  obtain ⟨va, vl, vc, vt, T, P, L, h1, h2, h3, h4, h5, h6⟩ := h
  exact ⟨va, vl, vc, vt, T, P, L, h1.below hb, h2, h3.below hb, h4, h5, h6.trans (hb.mono (by have := h1.lo; have := h1.lt; omega))⟩
theorem Fh.more {w0 W : World} {N yb tb ob S : Nat} {s : St} {n n' : Nat} {C A : List Int} (h : Fh w0 W N yb tb ob S s n C A) (hn : n ≤ n') : Fh w0 W N yb tb ob S s n' C A := by
  obtain ⟨va, vl, vc, vt, T, P, L, h1, h2, h3, h4, h5, h6⟩ := h
  exact ⟨va, vl, vc, vt, T, P, L, h1, h2, h3, h4, by omega, h6⟩

end Go.Proofs.Ytgbbcfngncofgaa
