/- Merged texts: Ub Uc Pc Ud Pd Uf Uh. -/
import Derived.Test.YtgbbcfngncofgaaProg
import Derived.Test.YtgbbcfngncofgaaFreeChoosesB
import Derived.Laws.StructEq

/- Walks: codes, Ints; FreeFront. -/
namespace Go.Proofs.Ytgbbcfngncofgaa
set_option linter.unusedSimpArgs false
set_option linter.unusedVariables false
open Go.RowKit

set_option maxRecDepth 100000 in
set_option maxHeartbeats 2000000 in
theorem codes_c (a a' : Option Addr) (c c' : Nat) (l l' : List Int) (B : Nat) (w : World) (h : Nums B w a l) (h' : Nums B w a' l') (hB : B ≤ w.heap.size) (hp : ∀ (k : Nat) (x : Int), l[k]? = some x → l'[k]? = some x) (hle : l.length ≤ l'.length) :
    Calls Try.prog 14 #[.slice a l.length c, .slice a' l'.length c'] w fun e w' => e = .returned (.bool true) ∧ Below w.heap.size w w' := by
  have hl := h.1
  have hl' := h'.1
  have d0 : decide (l'.length < l.length) = false := decide_eq_false (by omega)
  have Hp := hide hp
  clear hp
  go_enter Try.func14, Try.ntmps14
  go_wp2
  go_loopw [5] (fun i wr => ∃ k : Nat, k ≤ l.length ∧ i = .int .i64 k ∧ Below w.heap.size w wr) (fun i _ => l.length - (intOf i).toNat)
  case atStart => exact ⟨0, Nat.zero_le _, rfl, Below.refl _ _⟩
  case round =>
    obtain ⟨k, hk, rfl, hb⟩ := hrel
    have hsz := hb.size
    by_cases hlt : k < l.length
    · have hx : l[k]? = some l[k] := List.getElem?_eq_getElem hlt
      obtain ⟨b, off, rfl, hbB, x0⟩ := (h.below (hb.mono hB)).at hx
      obtain ⟨b', off', rfl, hbB', y0⟩ := (h'.below (hb.mono hB)).at (unhide Hp k _ hx)
      have hkI : (k : Int) < (l.length : Int) := by omega
      have hkI' : (k : Int) < (l'.length : Int) := by omega
      have hq : b < wr.heap.size := by omega
      have hq' : b' < wr.heap.size := by omega
      generalize l[k] = x at *
      have d1 : (x != x) = false := by simp
      clear hx
      go_wp2
      go_quiet (fail)
      have hbn := below_drewN hb nq
      clear x0 y0 hq hq'
      generalize wr.drewN nq = wq at *
      go_wp2
      go_roundw
      case rel => exact ⟨k + 1, by omega, by go_num, hbn⟩
      case measure => simp [intOf]; omega
    · obtain rfl : k = l.length := by omega
      go_wp2
      go_ret
      exact ⟨rfl, hb⟩

set_option maxRecDepth 100000 in
set_option maxHeartbeats 2000000 in
theorem ints_c (a a' : Option Addr) (c c' : Nat) (l : List Int) (B : Nat) (w : World) (h : Nums B w a l) (h' : Nums B w a' l) (hB : B ≤ w.heap.size) :
    Calls Try.prog 15 #[.slice a l.length c, .slice a' l.length c'] w fun e w' => e = .returned (.bool true) ∧ Below w.heap.size w w' := by
  have hl := h.1
  have d0 : ((l.length : Int) != (l.length : Int)) = false := by simp
  go_enter Try.func15, Try.ntmps15
  go_wp2
  go_loopw [5] (fun i wr => ∃ k : Nat, k ≤ l.length ∧ i = .int .i64 k ∧ Below w.heap.size w wr) (fun i _ => l.length - (intOf i).toNat)
  case atStart => exact ⟨0, Nat.zero_le _, rfl, Below.refl _ _⟩
  case round =>
    obtain ⟨k, hk, rfl, hb⟩ := hrel
    have hsz := hb.size
    by_cases hlt : k < l.length
    · have hx : l[k]? = some l[k] := List.getElem?_eq_getElem hlt
      obtain ⟨b, off, rfl, hbB, x0⟩ := (h.below (hb.mono hB)).at hx
      obtain ⟨b', off', rfl, hbB', y0⟩ := (h'.below (hb.mono hB)).at hx
      have hkI : (k : Int) < (l.length : Int) := by omega
      have hq : b < wr.heap.size := by omega
      have hq' : b' < wr.heap.size := by omega
      generalize l[k] = x at *
      have d1 : (x != x) = false := by simp
      clear hx
      go_wp2
      go_quiet (fail)
      have hbn := below_drewN hb nq
      clear x0 y0 hq hq'
      generalize wr.drewN nq = wq at *
      go_wp2
      go_roundw
      case rel => exact ⟨k + 1, by omega, by go_num, hbn⟩
      case measure => simp [intOf]; omega
    · obtain rfl : k = l.length := by omega
      go_wp2
      go_ret
      exact ⟨rfl, hb⟩

theorem Asks.take {B : Nat} {w : World} {a : Option Addr} {l : List (Int × Int)} (h : Asks B w a l) (n : Nat) : Asks B w a (l.take n) := by
  refine ⟨by have := h.1; simp; omega, fun hne => ?_⟩
  obtain ⟨b, off, rfl, hB, hc⟩ := h.2 (by rintro rfl; simp at hne)
  refine ⟨b, off, rfl, hB, fun k v hk => hc k v ?_⟩
  rw [List.getElem?_take] at hk
  split at hk
  · exact hk
  · cases hk
theorem Nums.take {B : Nat} {w : World} {a : Option Addr} {l : List Int} (h : Nums B w a l) (n : Nat) : Nums B w a (l.take n) := by
  refine ⟨by have := h.1; simp; omega, fun hne => ?_⟩
  obtain ⟨b, off, rfl, hB, hc⟩ := h.2 (by rintro rfl; simp at hne)
  refine ⟨b, off, rfl, hB, fun k v hk => hc k v ?_⟩
  rw [List.getElem?_take] at hk
  split at hk
  · exact hk
  · cases hk

theorem bounds_u8' {n : Int} (h : (Lit.int .u8 n).wf = true) : 0 ≤ n ∧ n ≤ 255 := by
  simp [Lit.wf, IntKind.min, IntKind.max, IntKind.signed, IntKind.bits] at h
  omega

/-- What is asked later changes nothing. -/
theorem front_same {S : Nat} {pol : Int} {sc sc' : List (Int × Int)} {n : Nat} (h : ∀ i, i < n → sc.getD i (0, 0) = sc'.getD i (0, 0)) {k : Nat} (hk : k ≤ n) : codesL S pol sc k = codesL S pol sc' k ∧ atsL S pol sc k = atsL S pol sc' k ∧ stK S pol sc k = stK S pol sc' k := by
  have hst : ∀ i, i ≤ n → stK S pol sc i = stK S pol sc' i := fun i hi => stepS_same S pol (fun j hj => h j (by omega))
  refine ⟨?_, ?_, hst k hk⟩
  · unfold codesL
    refine List.map_congr_left fun i hi => ?_
    have := List.mem_range.1 hi
    unfold codeK
    rw [hst i (by omega), h i (by omega)]
  · unfold atsL
    refine List.map_congr_left fun i hi => ?_
    have := List.mem_range.1 hi
    unfold atK
    rw [hst i (by omega), h i (by omega)]
theorem codesL_take (S : Nat) (pol : Int) (sc : List (Int × Int)) (n k : Nat) (h : k ≤ n) : (codesL S pol sc n).take k = codesL S pol sc k := by
  unfold codesL
  rw [← List.map_take, List.take_range, Nat.min_eq_left h]
theorem atsL_take (S : Nat) (pol : Int) (sc : List (Int × Int)) (n k : Nat) (h : k ≤ n) : (atsL S pol sc n).take k = atsL S pol sc k := by
  unfold atsL
  rw [← List.map_take, List.take_range, Nat.min_eq_left h]
theorem getD_take {α : Type} {l : List α} {n i : Nat} {d : α} (h : i < n) : (l.take n).getD i d = l.getD i d := by
  rw [List.getD_eq_getElem?_getD, List.getD_eq_getElem?_getD, List.getElem?_take, if_pos h]

theorem plIs_front {z pol : Int} {sc : List (Int × Int)} {n : Nat} {C A C' A' : List Int} {F F' : List (Nat × Nat)} (hn : n ≤ sc.length) (h : PlIs z pol sc C A F) (h' : PlIs z pol (sc.take n) C' A' F') (hE : playE z pol sc.length = 0) :
    playE z pol (sc.take n).length = 0 ∧ C.length = sc.length ∧ A.length = sc.length ∧ C'.length = n ∧ A'.length = n ∧ C.take n = C' ∧ A.take n = A' := by
  obtain ⟨e1, e2, e3, e4, e5⟩ := playE_ok hE
  have hE' : playE z pol (sc.take n).length = 0 := by
    unfold playE
    rw [if_neg (by omega), if_neg (by omega), if_neg (by simp; omega)]
  obtain ⟨rfl, rfl, rfl⟩ := h.2 hE
  obtain ⟨rfl, rfl, rfl⟩ := h'.2 hE'
  have hl : (sc.take n).length = n := by simp; omega
  have hf := front_same (S := z.toNat) (pol := pol) (sc := sc.take n) (sc' := sc) (n := n) (fun i hi => getD_take hi) (Nat.le_refl n)
  rw [hl]
  refine ⟨by rw [hl] at hE'; exact hE', codesL_len _ _ _ _, atsL_len _ _ _ _, codesL_len _ _ _ _, atsL_len _ _ _ _, ?_, ?_⟩
  · rw [codesL_take _ _ _ _ _ hn, hf.1]
  · rw [atsL_take _ _ _ _ _ hn, hf.2.1]

set_option maxRecDepth 100000 in
set_option maxHeartbeats 4000000 in
theorem freeFront_c (z pol : Int) (a : Option Addr) (c : Nat) (sc : List (Int × Int)) (kk : Int) (w : World) (hA : Asks w.heap.size w a sc) (hI : I64s sc) (hc : sc.length ≤ c) (hcm : c ≤ 9223372036854775807) (hk0 : 0 ≤ kk) (hk1 : kk ≤ 255) :
    Calls Try.prog 8 #[.int .i64 z, .int .i64 pol, .slice a sc.length c, .int .u8 kk] w fun e w' => e = .returned (.bool true) ∧ Below w.heap.size w w' := by
  have Hc := hide (play_c z pol a c sc w.heap.size w hA (Nat.le_refl _) hI)
  have hsl := hA.1
  obtain ⟨n, hn, hnl⟩ : ∃ n : Nat, kk % wrap64 ((sc.length : Int) + 1) = (n : Int) ∧ n ≤ sc.length := by
    by_cases h : (sc.length : Int) + 1 ≤ 9223372036854775807
    · have e : wrap64 ((sc.length : Int) + 1) = (sc.length : Int) + 1 := by unfold wrap64; omega
      rw [e]
      have h1 := Int.emod_nonneg kk (show (sc.length : Int) + 1 ≠ 0 by omega)
      have h2 := Int.emod_lt_of_pos kk (show (0 : Int) < (sc.length : Int) + 1 by omega)
      exact ⟨(kk % ((sc.length : Int) + 1)).toNat, by omega, by omega⟩
    · have e : wrap64 ((sc.length : Int) + 1) = -9223372036854775808 := by unfold wrap64; omega
      rw [e, show (-9223372036854775808 : Int) = -(9223372036854775808 : Int) from rfl, Int.emod_neg]
      exact ⟨kk.toNat, by omega, by omega⟩
  have hw0 : ¬ wrap64 ((sc.length : Int) + 1) = 0 := by unfold wrap64; omega
  have HI : Hid (I64s (sc.take n)) := fun x hx => hI x (List.mem_of_mem_take hx)
  have HA := hide (hA.take n)
  clear hA hI
  go_enter Try.func8, Try.ntmps8
  go_wp2_with fail
  refine (unhide Hc).mono ?_
  rintro e w2 ⟨hR, hb2⟩
  obtain ⟨ac, cc, aa, ca, af, cf, C, A, F, rfl, nc, na, nf, hIs, hca, _⟩ := hR
  have hs2 := hb2.size
  clear Hc
  have hln : (sc.take n).length = n := by simp; omega
  obtain ⟨W3, hW3⟩ : ∃ W3, w2.alloc (.cells #[.slice ac C.length cc, .slice aa A.length ca, .slice af F.length cf] 27) = W3 := ⟨_, rfl⟩
  have hb3 : Below w2.heap.size w2 W3 := by rw [← hW3]; exact (Below.refl _ _).alloc (Nat.le_refl _) _
  have hs3 : w2.heap.size < W3.heap.size := by rw [← hW3]; simp
  have t0 : W3.cell? ⟨w2.heap.size, 0, none⟩ = some (.slice ac C.length cc) := by rw [← hW3]; simp [go_sem]
  have t1 : W3.cell? ⟨w2.heap.size, 1, none⟩ = some (.slice aa A.length ca) := by rw [← hW3]; simp [go_sem]
  have hbw3 : Below w.heap.size w W3 := hb2.trans (hb3.mono hs2)
  have Hc2 := hide (play_c z pol a c (sc.take n) w.heap.size W3 ((unhide HA).below hbw3) (by omega) (unhide HI))
  rw [hln] at Hc2
  have Hln := hide hln
  have hnI : (n : Int) ≤ (c : Int) := by omega
  have hn0 : n ≤ c := by omega
  have nc3 := hide (nc.below hb3)
  have na3 := hide (na.below hb3)
  clear hln nc na nf
  go_wp2_with fail
  refine (unhide Hc2).mono ?_
  rintro e w4 ⟨hR, hb4⟩
  obtain ⟨ac', cc', aa', ca', af', cf', C', A', F', rfl, nc', na', nf', hIs', hca', _⟩ := hR
  have hs4 := hb4.size
  obtain ⟨W5, hW5⟩ : ∃ W5, w4.alloc (.cells #[.slice ac' C'.length cc', .slice aa' A'.length ca', .slice af' F'.length cf'] 27) = W5 := ⟨_, rfl⟩
  have hb5 : Below w4.heap.size w4 W5 := by rw [← hW5]; exact (Below.refl _ _).alloc (Nat.le_refl _) _
  have hs5 : w4.heap.size < W5.heap.size := by rw [← hW5]; simp
  have u0 : W5.cell? ⟨w4.heap.size, 0, none⟩ = some (.slice ac' C'.length cc') := by rw [← hW5]; simp [go_sem]
  have u1 : W5.cell? ⟨w4.heap.size, 1, none⟩ = some (.slice aa' A'.length ca') := by rw [← hW5]; simp [go_sem]
  have hb35 : Below W3.heap.size W3 W5 := hb4.trans (hb5.mono hs4)
  have t0' := (hb35.cell (p := ⟨w2.heap.size, 0, none⟩) hs3).trans t0
  have t1' := (hb35.cell (p := ⟨w2.heap.size, 1, none⟩) hs3).trans t1
  have hbw5 : Below w.heap.size w W5 := hbw3.trans (hb35.mono (by omega))
  have nc5 := hide ((unhide nc3).below (hb35.mono (by omega)))
  have na5 := hide ((unhide na3).below (hb35.mono (by omega)))
  have nc5' := hide (nc'.below hb5)
  have na5' := hide (na'.below hb5)
  clear Hc2 nc' na' nf' t0 t1 nc3 na3
  by_cases hE : playE z pol sc.length = 0
  · obtain ⟨p0, p1, p2, p3, p4, p5, p6⟩ := plIs_front hnl (unhide hIs) (unhide hIs') hE
    have Hco : Hid (∀ w', Below W5.heap.size W5 w' → Calls Try.prog 14 #[.slice ac' C'.length cc', .slice ac C.length cc] w' fun e w2 => e = .returned (.bool true) ∧ Below w'.heap.size w' w2) := fun w' hw' => codes_c ac' ac cc' cc C' C W5.heap.size w' (((unhide nc5').mono (by omega)).below hw') (((unhide nc5).mono (by omega)).below hw') hw'.size (fun k x hx => by
      rw [← p5, List.getElem?_take] at hx
      split at hx
      · exact hx
      · cases hx) (by omega)
    have Hin : Hid (∀ w', Below W5.heap.size W5 w' → Calls Try.prog 15 #[.slice aa' A'.length ca', .slice aa n ca] w' fun e w2 => e = .returned (.bool true) ∧ Below w'.heap.size w' w2) := fun w' hw' => by
      have h1 := ((unhide na5').mono (show w4.heap.size ≤ W5.heap.size by omega)).below hw'
      have h2 := (((unhide na5).mono (show w2.heap.size ≤ W5.heap.size by omega)).below hw').take n
      rw [p6] at h2
      have := ints_c aa' aa ca' ca A' W5.heap.size w' h1 h2 hw'.size
      rw [p4] at this ⊢
      exact this
    have d1 : ((C.length : Int) == (sc.length : Int)) = true := by simp; omega
    have d2 : ((A.length : Int) == (sc.length : Int)) = true := by simp; omega
    have d3 : ((C'.length : Int) == (n : Int)) = true := by simp; omega
    have d4 : n ≤ ca := by omega
    have G0 := cell_regrown t0'
    have G1 := cell_regrown t1'
    have G2 := cell_regrown u0
    have G3 := cell_regrown u1
    rw [hE, p0]
    clear hE p0 p1 p2 p3 p4 p5 p6 hIs hIs' nc5 na5 nc5' na5' t0' t1' u0 u1
    go_wp2
    refine wp_region_quiet_below (by kernel_rfl) (by kernel_rfl) ?_
    repeat (go_big_quiet_step (first | exact Calls.regrown_of (unhide Hco _ (below_regrown W5 _ _)) | exact Calls.regrown_of (unhide Hin _ (below_regrown W5 _ _))))
    refine wpQuiet_nil ?_
    intro _ hw'
    obtain ⟨⟨dq, osq⟩, hw''⟩ := hw'
    subst hw''
    have hbq := hbw5.trans ((below_regrown W5 dq osq).mono (by omega))
    clear G0 G1 G2 G3
    go_wp2
    go_ret
    exact ⟨rfl, hbq⟩
  · generalize playE z pol sc.length = E at *
    generalize playE z pol (sc.take n).length = E' at *
    have d0 : (E != 0) = true := by simpa using hE
    clear hE
    go_wp2
    go_ret
    exact ⟨rfl, hbw5⟩

end Go.Proofs.Ytgbbcfngncofgaa

/- Scripts that are made; Blocks. -/
namespace Go.Proofs.Ytgbbcfngncofgaa
set_option linter.unusedSimpArgs false
set_option linter.unusedVariables false
open Go.RowKit

/-- The cells of asks. -/
def cellsQ (l : List (Int × Int)) : List Value := l.flatMap fun x => [.int .i64 x.1, .int .i64 x.2]
theorem cellsQ_snoc (l : List (Int × Int)) (a n : Int) : cellsQ (l ++ [(a, n)]) = cellsQ l ++ [.int .i64 a, .int .i64 n] := by simp [cellsQ]
theorem cellsQ_len : ∀ (l : List (Int × Int)), (cellsQ l).length = l.length * 2
  | [] => rfl
  | x :: l => by have := cellsQ_len l; simp only [cellsQ, List.flatMap_cons, List.length_append, List.length_cons, List.length_nil] at *; omega
theorem cellsQ_get : ∀ (l : List (Int × Int)) (k : Nat) (x : Int × Int), l[k]? = some x → (cellsQ l)[k * 2]? = some (.int .i64 x.1) ∧ (cellsQ l)[k * 2 + 1]? = some (.int .i64 x.2)
  | [], _, _, h => by simp at h
  | x :: l, 0, v, h => by simp at h; subst h; simp [cellsQ]
  | x :: l, k + 1, v, h => by
    have := cellsQ_get l k v (by simpa using h)
    have e1 : (k + 1) * 2 = k * 2 + 1 + 1 := by omega
    rw [e1]
    simp only [cellsQ, List.flatMap_cons, List.cons_append, List.nil_append, List.getElem?_cons_succ]
    exact this
theorem cellsQ_at : ∀ (l : List (Int × Int)) (j : Nat) (u : Value), (cellsQ l)[j]? = some u → ∃ k x, l[k]? = some x ∧ ((j = k * 2 ∧ u = .int .i64 x.1) ∨ (j = k * 2 + 1 ∧ u = .int .i64 x.2))
  | [], j, u, h => by simp [cellsQ] at h
  | x :: l, 0, u, h => by
    simp [cellsQ] at h
    exact ⟨0, x, rfl, .inl ⟨rfl, h.symm⟩⟩
  | x :: l, 1, u, h => by
    simp [cellsQ] at h
    exact ⟨0, x, rfl, .inr ⟨rfl, h.symm⟩⟩
  | x :: l, j + 2, u, h => by
    simp only [cellsQ, List.flatMap_cons, List.cons_append, List.nil_append, List.getElem?_cons_succ] at h
    obtain ⟨k, y, hk, hy⟩ := cellsQ_at l j u h
    refine ⟨k + 1, y, by simpa using hk, ?_⟩
    rcases hy with ⟨h1, h2⟩ | ⟨h1, h2⟩
    · exact .inl ⟨by omega, h2⟩
    · exact .inr ⟨by omega, h2⟩
theorem cellsQ_one {u : Value} {l : List (Int × Int)} (h : u ∈ cellsQ l) : u.oneCell' = true := by
  simp only [cellsQ, List.mem_flatMap] at h
  obtain ⟨x, _, hx⟩ := h
  simp at hx
  rcases hx with rfl | rfl <;> rfl

theorem Asks.cells {B : Nat} {w : World} {a : Option Addr} {l : List (Int × Int)} (h : Asks B w a l) (hne : 0 < (cellsQ l).length) : ∃ ad, a = some ad ∧ ∀ j v, (cellsQ l)[j]? = some v → w.cell? (ad.add j) = some v := by
  obtain ⟨b, off, rfl, hB, hc⟩ := h.2 (by rintro rfl; simp [cellsQ] at hne)
  refine ⟨_, rfl, fun j v hj => ?_⟩
  obtain ⟨k, x, hk, hx⟩ := cellsQ_at l j v hj
  obtain ⟨h1, h2⟩ := hc k x hk
  rw [Addr.add_lit]
  rcases hx with ⟨rfl, rfl⟩ | ⟨rfl, rfl⟩
  · exact h1
  · rw [← Nat.add_assoc]; exact h2

theorem asks_of_owns {w : World} {base g cap : Nat} {l : List (Int × Int)} (h : w.ownsRow base 38 2 (.slice (some ⟨g, 0, none⟩) l.length cap) l.length (cellsQ l)) (hs : l.length ≤ 9223372036854775807) : Asks w.heap.size w (some ⟨g, 0, none⟩) l := by
  refine ⟨hs, fun _ => ⟨g, 0, rfl, (h.lt g rfl).2, fun k x hk => ?_⟩⟩
  have hlt := (List.getElem?_eq_some_iff.1 hk).1
  obtain ⟨h1, h2⟩ := cellsQ_get l k x hk
  exact ⟨by rw [Nat.zero_add, h.cellAt _ (by omega)]; exact h1, by rw [Nat.zero_add, h.cellAt _ (by omega)]; exact h2⟩

/-- append of a slice that may be nil to a row of the call's own. -/
theorem run_append_q (w : World) (base : Nat) (ty : TypeId) (g cap n : Nat) (xs : List Value) (hown : w.ownsRow base 38 2 (.slice (some ⟨g, 0, none⟩) n cap) n xs) (sp : Option Addr) (m c : Nat) (cs : List Value) (hl : cs.length = m * 2)
    (hpos : 0 < cs.length → ∃ ad, sp = some ad ∧ ∀ j v, cs[j]? = some v → w.cell? (ad.add j) = some v) (h1 : ∀ v ∈ cs, v.oneCell' = true) (hs : n + m ≤ 1000) (hbase : base ≤ w.heap.size) :
    ∃ v' w', (Builtin.append_ #[22, 22] ty #[.slice (some ⟨g, 0, none⟩) n cap, .slice sp m c]).run Try.prog w = .ok v' w' ∧ w'.ownsRow base 38 2 v' (n + m) (xs ++ cs) ∧ w.grownBy w' (some g) ∧ (∃ g' cap', v' = .slice (some ⟨g', 0, none⟩) (n + m) cap') := by
  obtain ⟨i0, hi0, hz0, hz1, hz2⟩ := info_parts Try.info38
  by_cases h0 : cs.length = 0
  · obtain rfl : cs = [] := List.eq_nil_of_length_eq_zero h0
    have hm : m = 0 := by simp at hl; omega
    subst hm
    have hnc : n ≤ cap := by
      rcases hown.2 with ⟨e, _⟩ | ⟨g', cap', cur, e, _, _, h3, _⟩
      · cases e
      · injection e with _ _ e; omega
    have hld : ∀ (x : Addr), (loadCells x 0).run Try.prog w = .ok #[] w := fun x => by simpa using run_loadCells_list (P := Try.prog) w x [] (by simp)
    refine ⟨_, w, ?_, by rw [List.append_nil]; exact hown, ⟨rfl, rfl, rfl, Nat.le_refl _, fun _ _ _ => rfl⟩, ⟨g, cap, rfl⟩⟩
    cases sp <;> simp [Builtin.append_, run_underlying Try.underlying22, sizeOf, typeInfo, hi0, hz1, Builtin.lenOf, hnc, Builtin.firstCells, storeCells, hld]
  · obtain ⟨ad, rfl, hsrc⟩ := hpos (by omega)
    obtain ⟨v', w', hr, h2, h3, h4⟩ := run_append_own (P := Try.prog) w base 22 ty 38 i0 _ 2 16 Try.underlying22 hi0 hz0 hz1 hz2 rfl (by decide) _ n xs hown ad m c cs hl hsrc h1 (by simp only [maxLen]; omega) (by omega) hbase
    refine ⟨v', w', hr, h2, h3, ?_⟩
    obtain ⟨k, hk⟩ : ∃ k, n + m = k + 1 := ⟨n + m - 1, by omega⟩
    rw [hk] at h2 ⊢
    exact ownsRow_succ h2

theorem eql_bin (a1 a2 n1 n2 : Int) (w : World) : (Op.equalIn 10000 36 (.agg #[.int .i64 a1, .int .i64 n1]) (.agg #[.int .i64 a2, .int .i64 n2])).run Try.prog w = .ok (a1 == a2 && n1 == n2) w := by
  have u3 := Try.underlying3
  have a3 := Try.isAgg3
  have z3 := Try.sizeOf3
  have hS : Try.prog.underlying 36 = some (.struct (Try.prog.fieldsOf 36)) := by kernel_rfl
  have hp : Try.prog.stoodInHeld 36 = false := by kernel_rfl
  rw [show (10000 : Nat) = 9999 + 1 from rfl, run_equalIn_agg w 9999 36 _ _ hS hp]
  simp only [Program.fieldsOf, Try.underlying36]
  go_simp
  by_cases h1 : a1 = a2 <;> by_cases h2 : n1 = n2 <;> simp [h1, h2]
theorem neq_b (a1 a2 n1 n2 : Int) (w : World) : (binOp .neq 36 (.agg #[.int .i64 a1, .int .i64 n1]) (.agg #[.int .i64 a2, .int .i64 n2])).run Try.prog w = .ok (.bool (!(a1 == a2 && n1 == n2))) w := by
  rw [run_neq_struct, eql_bin]; rfl

set_option maxRecDepth 100000 in
set_option maxHeartbeats 2000000 in
theorem blocks_c (a a' : Option Addr) (c c' : Nat) (l l' : List (Nat × Nat)) (B : Nat) (w : World) (h : Blks B w a l) (h' : Blks B w a' l') (hB : B ≤ w.heap.size) :
    Calls Try.prog 13 #[.slice a l.length c, .slice a' l'.length c'] w fun e w' => e = .returned (.bool (decide (l = l'))) ∧ Below w.heap.size w w' := by
  have hneq := neq_b
  have hl := h.1
  have hl' := h'.1
  by_cases hL : l.length = l'.length
  · have d0 : ((l.length : Int) != (l'.length : Int)) = false := by simp; omega
    have HL := hide hL
    have hLI : (l.length : Int) ≤ (l'.length : Int) := by omega
    clear hL
    go_enter Try.func13, Try.ntmps13
    go_wp2
    go_loopw [5] (fun i wr => ∃ k : Nat, k ≤ l.length ∧ i = .int .i64 k ∧ Below w.heap.size w wr ∧ Hid (l.take k = l'.take k)) (fun i _ => l.length - (intOf i).toNat)
    case atStart => exact ⟨0, Nat.zero_le _, rfl, Below.refl _ _, rfl⟩
    case round =>
      obtain ⟨k, hk, rfl, hb, HT⟩ := hrel
      have hsz := hb.size
      by_cases hlt : k < l.length
      · have hlt' : k < l'.length := by have := unhide HL; omega
        obtain ⟨p, n, hx⟩ : ∃ p n, l[k]? = some (p, n) := ⟨l[k].1, l[k].2, List.getElem?_eq_getElem hlt⟩
        obtain ⟨p', n', hy⟩ : ∃ p n, l'[k]? = some (p, n) := ⟨l'[k].1, l'[k].2, List.getElem?_eq_getElem hlt'⟩
        obtain ⟨b, off, rfl, hbB, hc0, hc1⟩ := (h.below (hb.mono hB)).at hx
        obtain ⟨b', off', rfl, hbB', hd0, hd1⟩ := (h'.below (hb.mono hB)).at hy
        have hkI : (k : Int) < (l.length : Int) := by omega
        have hkI' : (k : Int) < (l'.length : Int) := by omega
        have hq : b < wr.heap.size := by omega
        have hq' : b' < wr.heap.size := by omega
        by_cases heq : p = p' ∧ n = n'
        · obtain ⟨rfl, rfl⟩ := heq
          have HT2 : Hid (l.take (k + 1) = l'.take (k + 1)) := by
            show _ = _
            rw [List.take_add_one, List.take_add_one, unhide HT, hx, hy]
          have d1 : (!((p : Int) == (p : Int) && (n : Int) == (n : Int))) = false := by simp
          clear hx hy
          go_wp2
          go_quiet (fail)
          have hbn := below_drewN hb nq
          clear hc0 hc1 hd0 hd1 hq hq'
          generalize wr.drewN nq = wq at *
          go_wp2
          go_roundw
          case rel => exact ⟨k + 1, by omega, by go_num, hbn, HT2⟩
          case measure => simp [intOf]; omega
        · have Hne : Hid (decide (l = l') = false) := by
            show _ = _
            refine decide_eq_false fun e => heq ?_
            subst e
            rw [hx] at hy
            simpa using hy
          have d1 : (!((p : Int) == (p' : Int) && (n : Int) == (n' : Int))) = true := by
            simp
            omega
          clear hx hy heq
          go_wp2
          go_quiet (fail)
          have hbn := below_drewN hb nq
          clear hc0 hc1 hd0 hd1 hq hq'
          generalize wr.drewN nq = wq at *
          go_wp2
          go_ret
          exact ⟨by rw [unhide Hne]; rfl, hbn⟩
      · obtain rfl : k = l.length := by omega
        have Heq : Hid (decide (l = l') = true) := by
          show _ = _
          refine decide_eq_true ?_
          have := unhide HT
          rw [List.take_of_length_le (Nat.le_refl _), List.take_of_length_le (by have := unhide HL; omega)] at this
          exact this
        go_wp2
        go_ret
        exact ⟨by rw [unhide Heq]; rfl, hb⟩
  · have d0 : ((l.length : Int) != (l'.length : Int)) = true := by simp; omega
    have Hne : Hid (decide (l = l') = false) := by
      show _ = _
      refine decide_eq_false fun e => hL ?_
      rw [e]
    clear hL
    go_enter Try.func13, Try.ntmps13
    go_wp2
    go_ret
    exact ⟨by rw [unhide Hne]; rfl, Below.refl _ _⟩

end Go.Proofs.Ytgbbcfngncofgaa

/- Plain: words that are taken and given back at once; one ask more. -/
namespace Go.Proofs.Ytgbbcfngncofgaa
set_option linter.unusedSimpArgs false
set_option linter.unusedVariables false

theorem getD_append_left {α : Type} {l r : List α} {i : Nat} {d : α} (h : i < l.length) : (l ++ r).getD i d = l.getD i d := by
  rw [List.getD_eq_getElem?_getD, List.getD_eq_getElem?_getD, List.getElem?_append_left h]
theorem getD_append_len {α : Type} {l : List α} {x d : α} : (l ++ [x]).getD l.length d = x := by
  rw [List.getD_eq_getElem?_getD, List.getElem?_append_right (Nat.le_refl _), Nat.sub_self]; rfl

/-- One ask more. -/
theorem stK_snoc (S : Nat) (pol : Int) (sc : List (Int × Int)) (x : Int × Int) : stK S pol (sc ++ [x]) sc.length = stK S pol sc sc.length ∧ stK S pol (sc ++ [x]) (sc.length + 1) = (stepS S pol (stK S pol sc sc.length) x).2.2 ∧
    codeK S pol (sc ++ [x]) sc.length = (stepS S pol (stK S pol sc sc.length) x).1 ∧ atK S pol (sc ++ [x]) sc.length = (stepS S pol (stK S pol sc sc.length) x).2.1 := by
  have h := stepS_same S pol (sc := sc ++ [x]) (sc' := sc) (k := sc.length) (fun i hi => getD_append_left hi)
  refine ⟨h, ?_, ?_, ?_⟩
  · rw [stK, h, getD_append_len]
  · rw [codeK, h, getD_append_len]
  · rw [atK, h, getD_append_len]

/-- What a take comes to: refused, with all as it was, or taken. -/
theorem step_take {S : Nat} (pol : Int) {s : St} (hO : Ok S s) (n : Int) :
    ((stepS S pol s (1, n)).1 ≠ 0 ∧ (stepS S pol s (1, n)).2.2 = s) ∨
    ∃ (i k : Nat) (b : Nat × Nat), n = (k : Int) ∧ 1 ≤ k ∧ s.bl[i]? = some b ∧ k ≤ b.2 ∧ findK (pref pol s.en) k s.bl s.bl.length = some i ∧ stepS S pol s (1, n) = (0, b.1, ⟨cutB s.bl i k, updT s.tk (b.1 : Nat) (some k), b.1 + k⟩) := by
  unfold stepS
  rw [if_pos rfl]
  by_cases h : n < 1 ∨ (S : Int) < n
  · rw [if_pos h]; exact .inl ⟨by simp, rfl⟩
  · rw [if_neg h]
    obtain ⟨k, rfl⟩ : ∃ k : Nat, n = (k : Int) := ⟨n.toNat, by omega⟩
    simp only [Int.toNat_natCast]
    cases hf : findK (pref pol s.en) k s.bl s.bl.length with
    | none => exact .inl ⟨by simp, rfl⟩
    | some i =>
      obtain ⟨h1, h2⟩ := findK_some hf
      exact .inr ⟨i, k, _, rfl, by omega, getD_some h1, h2, hf, rfl⟩

theorem step_give {S : Nat} {pol : Int} {s : St} {p k : Nat} (h : s.tk (p : Int) = some k) : stepS S pol s (2, (p : Int)) = (0, 0, ⟨freeB s.bl (p, k), updT s.tk (p : Int) none, s.en⟩) := by
  unfold stepS
  rw [if_neg (show ¬ (2 : Int) = 1 by decide), if_pos rfl]
  simp only [h, Int.toNat_natCast]

/-- Cut off and put back: as before. -/
theorem cut_free {S : Nat} {l : List (Nat × Nat)} {i k : Nat} {b : Nat × Nat} (ha : Apart S l) (hi : l[i]? = some b) (h1 : 1 ≤ k) (hk : k ≤ b.2) : freeB (cutB l i k) (b.1, k) = l ∧ cutB l i k ≠ l := by
  obtain ⟨c1, c2⟩ := cut_ok hi ha h1 hk
  have hbm := List.mem_of_getElem? hi
  have hb := ha.1 b hbm
  obtain ⟨f1, f2⟩ := free_ok (b := (b.1, k)) c1 h1 (by simp only; omega) (fun j hj hjb => ((c2 j).1 hj).2 hjb)
  refine ⟨apart_uniq f1 ha fun j => ?_, fun e => ?_⟩
  · rw [f2 j, c2 j]
    simp only
    constructor
    · rintro (h | h)
      · exact h.1
      · exact ⟨b, hbm, by omega⟩
    · intro h
      by_cases hj : b.1 ≤ j ∧ j < b.1 + k
      · exact .inr hj
      · exact .inl ⟨h, hj⟩
  · have : inB l b.1 := ⟨b, hbm, by omega⟩
    have h2 := (c2 b.1).1 (by rw [e]; exact this)
    exact h2.2 (by omega)

end Go.Proofs.Ytgbbcfngncofgaa

/- Walks: FreeBack. -/
namespace Go.Proofs.Ytgbbcfngncofgaa
set_option linter.unusedSimpArgs false
set_option linter.unusedVariables false
open Go.RowKit

/-- What was told, in a box. -/
structure FBox (W : World) (fb : Nat) (ac : Option Addr) (nc cc : Nat) (aa : Option Addr) (na ca : Nat) (af : Option Addr) (nf cf : Nat) : Prop where
  c0 : W.cell? ⟨fb, 0, none⟩ = some (.slice ac nc cc)
  c1 : W.cell? ⟨fb, 1, none⟩ = some (.slice aa na ca)
  c2 : W.cell? ⟨fb, 2, none⟩ = some (.slice af nf cf)
theorem FBox.lt {W : World} {fb : Nat} {ac : Option Addr} {nc cc : Nat} {aa : Option Addr} {na ca : Nat} {af : Option Addr} {nf cf : Nat} (h : FBox W fb ac nc cc aa na ca af nf cf) : fb < W.heap.size := World.block_lt_of_cell? W _ h.c0
theorem FBox.below {W W' : World} {fb : Nat} {ac : Option Addr} {nc cc : Nat} {aa : Option Addr} {na ca : Nat} {af : Option Addr} {nf cf : Nat} (h : FBox W fb ac nc cc aa na ca af nf cf) {B : Nat} (hb : Below B W W') (hB : fb < B) : FBox W' fb ac nc cc aa na ca af nf cf :=
  ⟨(hb.cell (p := ⟨fb, 0, none⟩) hB).trans h.c0, (hb.cell (p := ⟨fb, 1, none⟩) hB).trans h.c1, (hb.cell (p := ⟨fb, 2, none⟩) hB).trans h.c2⟩
theorem fbox_new (w2 : World) (ac : Option Addr) (nc cc : Nat) (aa : Option Addr) (na ca : Nat) (af : Option Addr) (nf cf : Nat) : FBox (w2.alloc (.cells #[.slice ac nc cc, .slice aa na ca, .slice af nf cf] 27)) w2.heap.size ac nc cc aa na ca af nf cf :=
  ⟨by simp [go_sem], by simp [go_sem], by simp [go_sem]⟩

theorem Blks.kept {B : Nat} {w w' : World} {a : Option Addr} {l : List (Nat × Nat)} (h : Blks B w a l) (hk : ∀ x : Addr, a = some x → w'.heap[x.block]? = w.heap[x.block]?) : Blks B w' a l := by
  refine ⟨h.1, fun hne => ?_⟩
  obtain ⟨b, off, rfl, hB, hc⟩ := h.2 hne
  have hb := hk _ rfl
  refine ⟨b, off, rfl, hB, fun k v hv => ?_⟩
  rw [World.cell?_of_block (a := ⟨b, off + k * 2, none⟩) hb, World.cell?_of_block (a := ⟨b, off + k * 2 + 1, none⟩) hb]
  exact hc k v hv
theorem Blks.lt {B : Nat} {w : World} {l : List (Nat × Nat)} {x : Addr} (h : Blks B w (some x) l) (hne : l ≠ []) : x.block < B := by
  obtain ⟨b, off, e, hB, _⟩ := h.2 hne
  injection e with e
  subst e
  exact hB

/-- What is told of one ask more. -/
theorem plIs_more {z pol : Int} {sc : List (Int × Int)} {x : Int × Int} {C A C' A' : List Int} {F F' : List (Nat × Nat)} (h : PlIs z pol sc C A F) (h' : PlIs z pol (sc ++ [x]) C' A' F') (hE : playE z pol sc.length = 0) (hE' : playE z pol (sc ++ [x]).length = 0) :
    C'.length = sc.length + 1 ∧ A'.length = sc.length + 1 ∧ F = (stK z.toNat pol sc sc.length).bl ∧ F' = (stepS z.toNat pol (stK z.toNat pol sc sc.length) x).2.2.bl ∧
    C'[sc.length]? = some (stepS z.toNat pol (stK z.toNat pol sc sc.length) x).1 ∧ A'[sc.length]? = some (((stepS z.toNat pol (stK z.toNat pol sc sc.length) x).2.1 : Nat) : Int) := by
  obtain ⟨rfl, rfl, rfl⟩ := h.2 hE
  obtain ⟨rfl, rfl, rfl⟩ := h'.2 hE'
  obtain ⟨k1, k2, k3, k4⟩ := stK_snoc z.toNat pol sc x
  have hl : (sc ++ [x]).length = sc.length + 1 := by simp
  rw [hl]
  refine ⟨codesL_len _ _ _ _, atsL_len _ _ _ _, rfl, by rw [k2], ?_, ?_⟩
  · rw [codesL_succ, List.getElem?_append_right (by rw [codesL_len]; omega), codesL_len, Nat.sub_self, k3]; rfl
  · rw [atsL_succ, List.getElem?_append_right (by rw [atsL_len]; omega), atsL_len, Nat.sub_self, k4]; rfl

theorem playE_len {z pol : Int} {n m : Nat} (hn : n ≤ 100) (hm : m ≤ 100) : playE z pol n = playE z pol m := by
  unfold playE
  split
  · rfl
  · split
    · rfl
    · rw [if_neg (by omega), if_neg (by omega)]

set_option maxRecDepth 100000 in
set_option maxHeartbeats 4000000 in
theorem freeBack_c (z pol : Int) (a : Option Addr) (c : Nat) (sc : List (Int × Int)) (n : Int) (w : World) (hA : Asks w.heap.size w a sc) (hI : I64s sc) (hre : sc.length ≤ 9000000000000000000) (hn1 : -9223372036854775808 ≤ n) (hn2 : n ≤ 9223372036854775807) :
    Calls Try.prog 7 #[.int .i64 z, .int .i64 pol, .slice a sc.length c, .int .i64 n] w fun e w' => e = .returned (.bool true) ∧ Below w.heap.size w w' := by
  by_cases hlen : sc.length ≤ 98
  · have Hc := hide (play_c z pol a c sc w.heap.size w hA (Nat.le_refl _) hI)
    have HA := hide hA
    have HI := hide hI
    clear hA hI
    go_enter Try.func7, Try.ntmps7
    go_wp2_with fail
    refine (unhide Hc).mono ?_
    rintro e w2 ⟨hR, hb2⟩
    obtain ⟨ac, cc, aa, ca, af, cf, C, A, F, rfl, nc, na, nf, hIs, hca, _⟩ := hR
    have hs2 := hb2.size
    obtain ⟨W3, hW3⟩ : ∃ W3, w2.alloc (.cells #[.slice ac C.length cc, .slice aa A.length ca, .slice af F.length cf] 27) = W3 := ⟨_, rfl⟩
    have hb3 : Below w2.heap.size w2 W3 := by rw [← hW3]; exact (Below.refl _ _).alloc (Nat.le_refl _) _
    have hs3 : w2.heap.size < W3.heap.size := by rw [← hW3]; simp
    have hF3 : FBox W3 w2.heap.size ac C.length cc aa A.length ca af F.length cf := by rw [← hW3]; exact fbox_new ..
    clear Hc
    -- the script with one take more
    have hown4 : (W3.alloc (.cells #[] 38)).ownsRow W3.heap.size 38 2 (.slice (some ⟨W3.heap.size, 0, none⟩) 0 0) 0 [] := ⟨rfl, .inr ⟨W3.heap.size, 0, #[], rfl, Nat.le_refl _, heap_alloc_new _ _, Nat.le_refl _, by omega, rfl, rfl⟩⟩
    have hb4 : Below W3.heap.size W3 (W3.alloc (.cells #[] 38)) := (Below.refl _ _).alloc (Nat.le_refl _) _
    have hA4 : Asks w.heap.size (W3.alloc (.cells #[] 38)) a sc := (unhide HA).below ((hb2.trans (hb3.mono hs2)).trans (hb4.mono (by omega)))
    obtain ⟨v5, w5, hr5, hown5, hg5, g5, c5, rfl⟩ := run_append_q (W3.alloc (.cells #[] 38)) W3.heap.size 22 W3.heap.size 0 0 [] hown4 a sc.length c (cellsQ sc) (cellsQ_len sc) (fun h => hA4.cells h) (fun v hv => cellsQ_one hv) (by omega) (by simp)
    simp only [Nat.zero_add, List.nil_append] at hown5 hr5
    have hb5 : Below W3.heap.size W3 w5 := hb4.grown hg5 (by simp) (fun k e => by injection e with e; omega)
    have hs5 := hb5.size
    obtain ⟨v7, w7, hr7, hown7, hg7, g7, c7, rfl⟩ := run_append_q (w5.alloc (.cells #[.int .i64 1, .int .i64 n] 38)) W3.heap.size 22 g5 c5 sc.length (cellsQ sc) (hown5.alloc _) (some ⟨w5.heap.size, 0, none⟩) 1 1 [.int .i64 1, .int .i64 n] rfl (fun h => ⟨_, rfl, cell_two_at _ _ _ _ _ rfl⟩) (by simp [Value.oneCell']) (by omega) (by simp; omega)
    have hb7 : Below W3.heap.size W3 w7 := (hb5.alloc hs5 _).grown hg7 (by simp; omega) (fun k e => ((hown5.alloc (.cells #[.int .i64 1, .int .i64 n] 38)).lt k e).1)
    have hs7 := hb7.size
    have hl1 : (sc ++ [((1 : Int), n)]).length = sc.length + 1 := by simp
    rw [← cellsQ_snoc, ← hl1] at hown7
    have hA7 := asks_of_owns hown7 (by omega)
    have HI7 : Hid (I64s (sc ++ [((1 : Int), n)])) := fun x hx => by
      rcases List.mem_append.1 hx with hx | hx
      · exact unhide HI x hx
      · simp at hx; subst hx; exact ⟨by simp, hn1, hn2⟩
    have Hc7 := hide (play_c z pol (some ⟨g7, 0, none⟩) c7 (sc ++ [((1 : Int), n)]) w7.heap.size w7 hA7 (Nat.le_refl _) (unhide HI7))
    rw [hl1] at Hc7 hown7
    have H5 := hide hr5
    have H7 := hide hr7
    have Hown7 := hide hown7
    have HEE : Hid (playE z pol (sc ++ [((1 : Int), n)]).length = playE z pol sc.length) := playE_len (by rw [hl1]; omega) (by omega)
    have HF3 := hide hF3
    have Nf := hide nf
    clear hown4 hA4 hr5 hown5 hg5 hr7 hown7 hg7 hA7 hF3 nc na nf hl1 hb4
    go_wp2_with (first
      | (at_builtin; refine Lib.wpList_append_run _ rfl _ _ 22 22 rfl _ _ rfl rfl _ _ (unhide H5) ?_)
      | (at_builtin; refine Lib.wpList_append_run _ rfl _ _ 22 22 rfl _ _ rfl rfl _ _ (unhide H7) ?_))
    refine (unhide Hc7).mono ?_
    rintro e w8 ⟨hR, hb8⟩
    obtain ⟨ac', cc', aa', ca', af', cf', C', A', F', rfl, nc', na', nf', hIs', hca', hnw'⟩ := hR
    have hs8 := hb8.size
    rw [unhide HEE]
    obtain ⟨W9, hW9⟩ : ∃ W9, w8.alloc (.cells #[.slice ac' C'.length cc', .slice aa' A'.length ca', .slice af' F'.length cf'] 27) = W9 := ⟨_, rfl⟩
    have hb9 : Below w8.heap.size w8 W9 := by rw [← hW9]; exact (Below.refl _ _).alloc (Nat.le_refl _) _
    have hs9 : w8.heap.size < W9.heap.size := by rw [← hW9]; simp
    have hF9 : FBox W9 w8.heap.size ac' C'.length cc' aa' A'.length ca' af' F'.length cf' := by rw [← hW9]; exact fbox_new ..
    have hb39 : Below W3.heap.size W3 W9 := hb7.trans ((hb8.mono hs7).trans (hb9.mono (by omega)))
    have hbw9 : Below w.heap.size w W9 := (hb2.trans (hb3.mono hs2)).trans (hb39.mono (by omega))
    clear Hc7
    by_cases hE : playE z pol sc.length = 0
    · have hE' : playE z pol (sc ++ [((1 : Int), n)]).length = 0 := (unhide HEE).trans hE
      obtain ⟨m1, m2, m3, m4, m5, m6⟩ := plIs_more (unhide hIs) (unhide hIs') hE hE'
      have hz1 := playE_ok hE
      have hO := ok_stK (S := z.toNat) (by omega) pol sc sc.length
      obtain ⟨bC, oC, hac, hbC, yC⟩ := nc'.at m5
      obtain ⟨bA, oA, haa, hbA, yA⟩ := na'.at m6
      subst hac haa
      have yC9 := (hb9.cell (p := ⟨bC, oC + sc.length, none⟩) hbC).trans yC
      have yA9 := (hb9.cell (p := ⟨bA, oA + sc.length, none⟩) hbA).trans yA
      have hbC9 : bC < W9.heap.size := by omega
      have hbA9 : bA < W9.heap.size := by omega
      have hFf : FBox W9 w2.heap.size ac C.length cc aa A.length ca af F.length cf := (unhide HF3).below hb39 hs3
      have t2 := hFf.c2
      have tl := hFf.lt
      have u0 := hF9.c0
      have u1 := hF9.c1
      have u2 := hF9.c2
      have Nf9 : Hid (Blks W9.heap.size W9 af F) := (((unhide Nf).below hb3).mono (by omega)).below hb39 |>.mono (by omega)
      have Nf9' : Hid (Blks W9.heap.size W9 af' F') := (nf'.below hb9).mono (by omega)
      have d1 : ((C'.length : Int) != (sc.length : Int) + 1) = false := by simp; omega
      have d2 : ((A'.length : Int) != (sc.length : Int) + 1) = false := by simp; omega
      have i1 : (sc.length : Int) < (C'.length : Int) := by omega
      have i2 : (sc.length : Int) < (A'.length : Int) := by omega
      rw [hE]
      rcases step_take pol hO n with ⟨c1, c2⟩ | ⟨i, k, b, hnk, hk1, hbi, hkb, _, hst⟩
      · have hFF : F = F' := by rw [m3, m4, c2]
        have Hbl := hide (blocks_c af af' cf cf' F F' W9.heap.size W9 (unhide Nf9) (unhide Nf9') (Nat.le_refl _))
        rw [decide_eq_true hFF] at Hbl
        clear hFF m1 m2 m3 m4 m5 m6 yC yA hO c2 hIs hIs' nc' na' nf' hE hE' HEE hz1
        generalize (stepS z.toNat pol (stK z.toNat pol sc sc.length) (1, n)).1 = cd at *
        have d3 : (cd != 0) = true := by simpa using c1
        clear c1
        go_wp2_with (go_at_call 13; go_must (refine (unhide Hbl).mono ?_); go_must (rintro e w10 ⟨he, hb10⟩; subst he))
        go_ret
        exact ⟨rfl, hbw9.trans (hb10.mono (by omega))⟩
      · obtain ⟨q1, q2⟩ := cut_free hO.ap hbi hk1 hkb
        have hF'e : F' = cutB (stK z.toNat pol sc sc.length).bl i k := by rw [m4, hst]
        have hFne : ¬ F = F' := by rw [hF'e, m3]; exact fun e => q2 e.symm
        rw [hst] at yC9 yA9
        simp only at yC9 yA9
        have hp256 := (hO.ap.1 b (List.mem_of_getElem? hbi)).2
        -- the script with a give more
        have hl2 : ((sc ++ [((1 : Int), n)]) ++ [((2 : Int), ((b.1 : Nat) : Int))]).length = sc.length + 1 + 1 := by simp
        have hown9 : W9.ownsRow W3.heap.size 38 2 (.slice (some ⟨g7, 0, none⟩) (sc.length + 1) c7) (sc.length + 1) (cellsQ (sc ++ [((1 : Int), n)])) := ownsRow_below (ownsRow_below (unhide Hown7) hb8) hb9
        obtain ⟨v11, w11, hr11, hown11, hg11, g11, c11, rfl⟩ := run_append_q (W9.alloc (.cells #[.int .i64 2, .int .i64 ((b.1 : Nat) : Int)] 38)) W3.heap.size 22 g7 c7 (sc.length + 1) _ (hown9.alloc _) (some ⟨W9.heap.size, 0, none⟩) 1 1 [.int .i64 2, .int .i64 ((b.1 : Nat) : Int)] rfl (fun h => ⟨_, rfl, cell_two_at _ _ _ _ _ rfl⟩) (by simp [Value.oneCell']) (by omega) (by simp; omega)
        have hb11 : Below W3.heap.size W3 w11 := (hb39.alloc (by omega) _).grown hg11 (by simp; omega) (fun k e => ((hown9.alloc (.cells #[.int .i64 2, .int .i64 ((b.1 : Nat) : Int)] 38)).lt k e).1)
        have hs11 := hb11.size
        have hg711 : ∀ k, k < W9.heap.size → k ≠ g7 → w11.heap[k]? = W9.heap[k]? := fun k hk hne => by
          rw [hg11.block k (by simp; omega) (by simpa using hne), Below.heap_alloc _ _ _ hk]
        have hg7r : ∃ cs, W9.heap[g7]? = some (.cells cs 38) := by
          rcases hown9.2 with ⟨e, _⟩ | ⟨g', cap', cur, e, _, h2, _⟩
          · cases e
          · injection e with e1; injection e1 with e1; injection e1 with e1; subst e1; exact ⟨cur, h2⟩
        have hg7lt : g7 < w7.heap.size := ((unhide Hown7).lt g7 rfl).2
        rw [Nat.add_assoc, ← cellsQ_snoc, show sc.length + (1 + 1) = sc.length + 1 + 1 from rfl, ← hl2] at hown11
        have hA11 := asks_of_owns hown11 (by omega)
        have HI11 : Hid (I64s ((sc ++ [((1 : Int), n)]) ++ [((2 : Int), ((b.1 : Nat) : Int))])) := fun x hx => by
          rcases List.mem_append.1 hx with hx | hx
          · exact unhide HI7 x hx
          · simp at hx; subst hx; exact ⟨by simp, by simp only; omega, by simp only; omega⟩
        have Hc11 := hide (play_c z pol (some ⟨g11, 0, none⟩) c11 _ w11.heap.size w11 hA11 (Nat.le_refl _) (unhide HI11))
        rw [hl2] at Hc11
        have hE2 : playE z pol ((sc ++ [((1 : Int), n)]) ++ [((2 : Int), ((b.1 : Nat) : Int))]).length = 0 := by rw [← hE]; exact playE_len (by rw [hl2]; omega) (by omega)
        have v2 : w11.cell? ⟨w2.heap.size, 2, none⟩ = some (.slice af F.length cf) := (hb11.cell (p := ⟨w2.heap.size, 2, none⟩) hs3).trans (unhide HF3).c2
        have hgb : w11.heap[w8.heap.size]? = W9.heap[w8.heap.size]? := hg711 _ hs9 (by omega)
        have v3 : w11.cell? ⟨w8.heap.size, 2, none⟩ = some (.slice af' F'.length cf') := (World.cell?_of_block (a := ⟨w8.heap.size, 2, none⟩) hgb).trans hF9.c2
        have Nf11 : Hid (Blks w11.heap.size w11 af F) := ((((unhide Nf).below hb3).mono (by omega)).below hb11).mono (by omega)
        have Nf11' : Hid (Blks w11.heap.size w11 af' F') := by
          by_cases hne : F' = []
          · rw [hne]; exact blks_nil _ _ _
          · refine (Blks.kept (unhide Nf9') fun x hx => ?_).mono (by have := hg11.size; simp at this; omega)
            subst hx
            have h1 := unhide hnw' x (.inr (.inr rfl))
            have h2 := (unhide Nf9').lt hne
            exact hg711 _ h2 (by omega)
        have hs9' : W9.heap.size ≤ w11.heap.size := by have := hg11.size; simp at this; omega
        have hl11 : w2.heap.size < w11.heap.size := by omega
        have hl12 : w8.heap.size < w11.heap.size := by omega
        have H11 := hide hr11
        have hbw11 : Below w.heap.size w w11 := (hb2.trans (hb3.mono hs2)).trans (hb11.mono (by omega))
        have HFF : Hid (∀ C'' A'' F'', PlIs z pol ((sc ++ [((1 : Int), n)]) ++ [((2 : Int), ((b.1 : Nat) : Int))]) C'' A'' F'' → F = F'') := by
          intro C'' A'' F'' h
          obtain ⟨_, _, _, k4, _⟩ := plIs_more (unhide hIs') h hE' hE2
          have hst2 : stK z.toNat pol (sc ++ [((1 : Int), n)]) (sc ++ [((1 : Int), n)]).length = ⟨cutB (stK z.toNat pol sc sc.length).bl i k, updT (stK z.toNat pol sc sc.length).tk (b.1 : Nat) (some k), b.1 + k⟩ := by
            have := (stK_snoc z.toNat pol sc ((1 : Int), n)).2.1
            rw [show (sc ++ [((1 : Int), n)]).length = sc.length + 1 by simp, this, hst]
          rw [k4, hst2, step_give (p := b.1) (k := k) (updT_same _ _ _), m3]
          exact q1.symm
        have HFne := hide hFne
        have HE2 := hide hE2
        clear hown9 hown11 hg11 hg711 hg7r hr11 hA11 m1 m2 m3 m4 m5 m6 yC yA hO hIs hIs' nc' na' nf' hE hE' hst q1 q2 hbi hF'e hFne t2 hE2 hgb
        have d3 : ((0 : Int) != 0) = false := by simp
        go_wp2_with (first
          | (at_builtin; refine Lib.wpList_append_run _ rfl _ _ 22 22 rfl _ _ rfl rfl _ _ (unhide H11) ?_))
        refine (unhide Hc11).mono ?_
        rintro e w12 ⟨hR, hb12⟩
        obtain ⟨ac2, cc2, aa2, ca2, af2, cf2, C2, A2, F2, rfl, nc2, na2, nf2, hIs2, hca2, _⟩ := hR
        have hs12 := hb12.size
        rw [unhide HE2]
        obtain ⟨W13, hW13⟩ : ∃ W13, w12.alloc (.cells #[.slice ac2 C2.length cc2, .slice aa2 A2.length ca2, .slice af2 F2.length cf2] 27) = W13 := ⟨_, rfl⟩
        have hb13 : Below w12.heap.size w12 W13 := by rw [← hW13]; exact (Below.refl _ _).alloc (Nat.le_refl _) _
        have hs13 : w12.heap.size < W13.heap.size := by rw [← hW13]; simp
        have x2 : W13.cell? ⟨w12.heap.size, 2, none⟩ = some (.slice af2 F2.length cf2) := by rw [← hW13]; simp [go_sem]
        have hbb : Below w11.heap.size w11 W13 := hb12.trans (hb13.mono hs12)
        have y2 := (hbb.cell (p := ⟨w2.heap.size, 2, none⟩) hl11).trans v2
        have y3 := (hbb.cell (p := ⟨w8.heap.size, 2, none⟩) hl12).trans v3
        have e1 : F = F2 := unhide HFF _ _ _ (unhide hIs2)
        have Hb1 : Hid (Calls Try.prog 13 #[.slice af F.length cf, .slice af2 F2.length cf2] W13 fun e w' => e = .returned (.bool true) ∧ Below W13.heap.size W13 w') := by
          have := blocks_c af af2 cf cf2 F F2 W13.heap.size W13 (((unhide Nf11).below hbb).mono (by omega)) ((nf2.below hb13).mono (by omega)) (Nat.le_refl _)
          rw [decide_eq_true e1] at this
          exact this
        have Hb2 : Hid (∀ w', Below W13.heap.size W13 w' → Calls Try.prog 13 #[.slice af F.length cf, .slice af' F'.length cf'] w' fun e w'' => e = .returned (.bool false) ∧ Below w'.heap.size w' w'') := fun w' hw' => by
          have := blocks_c af af' cf cf' F F' W13.heap.size w' ((((unhide Nf11).below hbb).mono (by omega)).below hw') ((((unhide Nf11').below hbb).mono (by omega)).below hw') hw'.size
          rw [decide_eq_false (unhide HFne)] at this
          exact this
        have hbw13 : Below w.heap.size w W13 := hbw11.trans (hbb.mono (by omega))
        have k1 : w2.heap.size < W13.heap.size := by omega
        have k2 : w8.heap.size < W13.heap.size := by omega
        clear nc2 na2 nf2 e1 v2 v3 Hc11
        go_wp2_with fail
        refine (unhide Hb1).mono ?_
        rintro e w14 ⟨rfl, hb14⟩
        have z2 := (hb14.cell (p := ⟨w2.heap.size, 2, none⟩) k1).trans y2
        have z3 := (hb14.cell (p := ⟨w8.heap.size, 2, none⟩) k2).trans y3
        have k3 : w2.heap.size < w14.heap.size := by have := hb14.size; omega
        have k4 : w8.heap.size < w14.heap.size := by have := hb14.size; omega
        clear y2 y3 x2
        go_wp2_with fail
        refine (unhide Hb2 _ hb14).mono ?_
        rintro e w15 ⟨rfl, hb15⟩
        go_wp2
        go_ret
        exact ⟨rfl, (hbw13.trans (hb14.mono (by omega))).trans (hb15.mono (by have := hb14.size; omega))⟩
    · generalize playE z pol sc.length = E at *
      have d0 : (E != 0) = true := by simpa using hE
      have d1 : (E == E) = true := by simp
      clear hE
      go_wp2
      go_ret
      exact ⟨rfl, hbw9⟩
  · clear hA hI
    have d0 : decide ((100 : Int) < (sc.length : Int) + 2) = true := decide_eq_true (by omega)
    go_enter Try.func7, Try.ntmps7
    go_wp2
    go_ret
    exact ⟨rfl, Below.refl _ _⟩

end Go.Proofs.Ytgbbcfngncofgaa

/- Plain: which block is taken from. -/
namespace Go.Proofs.Ytgbbcfngncofgaa
set_option linter.unusedSimpArgs false
set_option linter.unusedVariables false

/-- What is found is better, by a test, than all that have as many. -/
theorem findK_best {pr : Nat × Nat → Nat × Nat → Bool} {n : Nat} {l : List (Nat × Nat)} (R : Nat → Nat → Prop) (hrefl : ∀ i, R i i) (htrans : ∀ i j k, R i j → R j k → R i k)
    (hno : ∀ i j, i < j → pr (l.getD j (0, 0)) (l.getD i (0, 0)) = false → R i j) (hyes : ∀ i j, i < j → pr (l.getD j (0, 0)) (l.getD i (0, 0)) = true → R j i) :
    ∀ {k f : Nat}, findK pr n l k = some f → ∀ j, j < k → n ≤ (l.getD j (0, 0)).2 → R f j
  | 0, f, h, j, hj, _ => by omega
  | k + 1, f, h, j, hj, hn => by
    unfold findK at h
    cases hf : findK pr n l k with
    | none =>
      rw [hf] at h
      simp only at h
      by_cases c : n ≤ (l.getD k (0, 0)).2
      · rw [if_pos c] at h
        injection h with h
        subst h
        by_cases e : j = k
        · rw [e]; exact hrefl _
        · have := findK_none hf j (by omega)
          omega
      · rw [if_neg c] at h; cases h
    | some g =>
      rw [hf] at h
      simp only at h
      have ih := findK_best R hrefl htrans hno hyes hf
      have hg := (findK_some hf).1
      by_cases c : n ≤ (l.getD k (0, 0)).2 ∧ pr (l.getD k (0, 0)) (l.getD g (0, 0)) = true
      · rw [if_pos c] at h
        injection h with h
        subst h
        by_cases e : j = k
        · rw [e]; exact hrefl _
        · exact htrans _ _ _ (hyes g k hg c.2) (ih j (by omega) hn)
      · rw [if_neg c] at h
        injection h with h
        subst h
        by_cases e : j = k
        · subst e
          refine hno g j hg ?_
          cases hp : pr (l.getD j (0, 0)) (l.getD g (0, 0)) with
          | false => rfl
          | true => exact absurd ⟨hn, hp⟩ c
        · exact ih j (by omega) hn

theorem choose_facts {S : Nat} {pol : Int} {E n i : Nat} {l : List (Nat × Nat)} {b : Nat × Nat} (ha : Apart S l) (hf : findK (pref pol E) n l l.length = some i) (hb : l[i]? = some b) {j : Nat} {x : Nat × Nat} (hx : l[j]? = some x) (hn : n ≤ x.2) :
    (pol = 1 → b.1 ≤ x.1) ∧ (pol = 2 → b.2 ≤ x.2) ∧ (pol = 4 → x.2 ≤ b.2) ∧ (pol = 1 ∨ pol = 2 ∨ pol = 4 → x.2 = b.2 → b.1 ≤ x.1) := by
  have hjl := (List.getElem?_eq_some_iff.1 hx).1
  have hgx : l.getD j (0, 0) = x := by simp [List.getD_eq_getElem?_getD, hx]
  have hgb : l.getD i (0, 0) = b := by simp [List.getD_eq_getElem?_getD, hb]
  have key1 : pol = 1 → i ≤ j := by
    rintro rfl
    exact findK_best (fun i j => i ≤ j) (fun i => Nat.le_refl i) (fun i j k => Nat.le_trans) (fun i j h _ => by omega) (fun i j _ h => by simp [pref] at h) hf j hjl (by rw [hgx]; exact hn)
  have key2 : pol = 2 → b.2 ≤ x.2 ∧ (x.2 = b.2 → i ≤ j) := by
    rintro rfl
    have := findK_best (fun i j => (l.getD i (0, 0)).2 ≤ (l.getD j (0, 0)).2 ∧ ((l.getD j (0, 0)).2 = (l.getD i (0, 0)).2 → i ≤ j)) (fun i => ⟨Nat.le_refl _, fun _ => Nat.le_refl i⟩)
      (fun i j k h1 h2 => ⟨Nat.le_trans h1.1 h2.1, fun e => Nat.le_trans (h1.2 (by omega)) (h2.2 (by omega))⟩)
      (fun i j h hp => ⟨by simp [pref] at hp; simpa using hp, fun _ => by omega⟩) (fun i j h hp => ⟨by simp [pref] at hp; simp; omega, fun e => by simp [pref] at hp; simp at e; omega⟩) hf j hjl (by rw [hgx]; exact hn)
    rw [hgx, hgb] at this
    exact this
  have key4 : pol = 4 → x.2 ≤ b.2 ∧ (x.2 = b.2 → i ≤ j) := by
    rintro rfl
    have := findK_best (fun i j => (l.getD j (0, 0)).2 ≤ (l.getD i (0, 0)).2 ∧ ((l.getD j (0, 0)).2 = (l.getD i (0, 0)).2 → i ≤ j)) (fun i => ⟨Nat.le_refl _, fun _ => Nat.le_refl i⟩)
      (fun i j k h1 h2 => ⟨Nat.le_trans h2.1 h1.1, fun e => Nat.le_trans (h1.2 (by omega)) (h2.2 (by omega))⟩)
      (fun i j h hp => ⟨by simp [pref] at hp; simpa using hp, fun _ => by omega⟩) (fun i j h hp => ⟨by simp [pref] at hp; simp; omega, fun e => by simp [pref] at hp; simp at e; omega⟩) hf j hjl (by rw [hgx]; exact hn)
    rw [hgx, hgb] at this
    exact this
  refine ⟨fun h => apart_mono ha hb hx (key1 h), fun h => (key2 h).1, fun h => (key4 h).1, fun h e => ?_⟩
  rcases h with h | h | h
  · exact apart_mono ha hb hx (key1 h)
  · exact apart_mono ha hb hx ((key2 h).2 e)
  · exact apart_mono ha hb hx ((key4 h).2 e)

theorem apart_inj {S : Nat} {l : List (Nat × Nat)} (ha : Apart S l) {i j : Nat} {x y : Nat × Nat} (hi : l[i]? = some x) (hj : l[j]? = some y) (h : x.1 = y.1) : i = j := by
  have hi' := (List.getElem?_eq_some_iff.1 hi).1
  have hj' := (List.getElem?_eq_some_iff.1 hj).1
  have hp := List.pairwise_iff_getElem.1 ha.2
  have hx := ha.1 x (List.mem_of_getElem? hi)
  have hy := ha.1 y (List.mem_of_getElem? hj)
  rcases Nat.lt_trichotomy i j with h1 | h1 | h1
  · have := hp i j hi' hj' h1
    rw [(List.getElem?_eq_some_iff.1 hi).2, (List.getElem?_eq_some_iff.1 hj).2] at this
    omega
  · exact h1
  · have := hp j i hj' hi' h1
    rw [(List.getElem?_eq_some_iff.1 hi).2, (List.getElem?_eq_some_iff.1 hj).2] at this
    omega

/-- The block that is found, by place, among the first k. -/
def fndB (l : List (Nat × Nat)) (o : Option Nat) (k : Nat) : Nat × Nat := match o with
  | some i => if i < k then l.getD i (0, 0) else (0, 0)
  | none => (0, 0)

/-- Has one of the first k as many? -/
def someB (l : List (Nat × Nat)) (n k : Nat) : Bool := (l.take k).any fun x => decide (n ≤ x.2)
theorem someB_succ {l : List (Nat × Nat)} {n k : Nat} {x : Nat × Nat} (hx : l[k]? = some x) : someB l n (k + 1) = (someB l n k || decide (n ≤ x.2)) := by
  unfold someB
  rw [List.take_add_one, hx]
  simp
theorem someB_find {pr : Nat × Nat → Nat × Nat → Bool} {n : Nat} {l : List (Nat × Nat)} : someB l n l.length = (findK pr n l l.length).isSome := by
  unfold someB
  rw [List.take_of_length_le (Nat.le_refl _)]
  cases hf : findK pr n l l.length with
  | none =>
    rw [Option.isSome_none, List.any_eq_false]
    intro x hx
    obtain ⟨i, hi⟩ := List.getElem?_of_mem hx
    have := findK_none hf i (List.getElem?_eq_some_iff.1 hi).1
    simp only [List.getD_eq_getElem?_getD, hi, Option.getD_some] at this
    simp
    omega
  | some i =>
    rw [Option.isSome_some, List.any_eq_true]
    obtain ⟨h1, h2⟩ := findK_some hf
    exact ⟨_, List.mem_of_getElem? (getD_some (d := ((0, 0) : Nat × Nat)) h1), by simpa using h2⟩

def cdOf (o : Option Nat) : Int := if o.isSome then 0 else 6
def atOf (l : List (Nat × Nat)) (o : Option Nat) : Nat := (o.map fun i => (l.getD i (0, 0)).1).getD 0

/-- What an ask to take so many words comes to. -/
theorem step_takeK {S : Nat} (pol : Int) {s : St} {k : Nat} (h1 : 1 ≤ k) (hk : k ≤ S) :
    (stepS S pol s (1, (k : Int))).1 = cdOf (findK (pref pol s.en) k s.bl s.bl.length) ∧ (stepS S pol s (1, (k : Int))).2.1 = atOf s.bl (findK (pref pol s.en) k s.bl s.bl.length) := by
  unfold stepS
  rw [if_pos rfl, if_neg (by simp only; omega)]
  simp only [Int.toNat_natCast]
  cases findK (pref pol s.en) k s.bl s.bl.length <;> exact ⟨rfl, rfl⟩

end Go.Proofs.Ytgbbcfngncofgaa

/- Walks: FreeChooses. -/
namespace Go.Proofs.Ytgbbcfngncofgaa
set_option linter.unusedSimpArgs false
set_option linter.unusedVariables false
open Go.RowKit

set_option maxRecDepth 100000 in
set_option maxHeartbeats 4000000 in
theorem freeChooses_early (z pol : Int) (a : Option Addr) (c : Nat) (sc : List (Int × Int)) (n : Int) (w : World) (hA : Asks w.heap.size w a sc) (hI : I64s sc) (hx : ¬ (playE z pol sc.length = 0 ∧ sc.length ≤ 99 ∧ 1 ≤ n ∧ n ≤ z)) :
    Calls Try.prog 6 #[.int .i64 z, .int .i64 pol, .slice a sc.length c, .int .i64 n] w fun e w' => e = .returned (.bool true) ∧ Below w.heap.size w w' := by
  have Hc := hide (play_c z pol a c sc w.heap.size w hA (Nat.le_refl _) hI)
  have hsl := hA.1
  clear hA hI
  go_enter Try.func6, Try.ntmps6
  go_wp2_with fail
  refine (unhide Hc).mono ?_
  rintro e w2 ⟨hR, hb2⟩
  obtain ⟨ac, cc, aa, ca, af, cf, C, A, F, rfl, nc, na, nf, hIs, hca, _⟩ := hR
  have hs2 := hb2.size
  clear Hc
  by_cases hE : playE z pol sc.length = 0
  · obtain ⟨m1, _⟩ := (unhide hIs).good hE
    have h5 := (playE_ok hE).2.2.2.2
    have d1 : ((C.length : Int) == (sc.length : Int)) = true := by simp; omega
    rw [hE]
    by_cases h100 : sc.length = 100
    · have d2 : ((sc.length : Int) == 100) = true := by simp; omega
      clear hx hE m1 h100 hIs nc na nf
      go_wp2
      go_ret
      exact ⟨rfl, hb2.alloc hs2 _⟩
    · have d2 : ((sc.length : Int) == 100) = false := by simp; omega
      by_cases hn1 : n < 1
      · have d3 : decide (n < 1) = true := decide_eq_true hn1
        clear hx hE m1 h100 hIs nc na nf hn1
        go_wp2
        go_ret
        exact ⟨rfl, hb2.alloc hs2 _⟩
      · have d3 : decide (n < 1) = false := decide_eq_false hn1
        have d4 : decide (z < n) = true := decide_eq_true (by omega)
        have d4' : decide (n > z) = true := decide_eq_true (by omega)
        clear hx hE m1 h100 hIs nc na nf hn1
        go_wp2
        go_ret
        exact ⟨rfl, hb2.alloc hs2 _⟩
  · generalize playE z pol sc.length = E at *
    have d0 : (E != 0) = true := by simpa using hE
    clear hE hx
    go_wp2
    go_ret
    exact ⟨rfl, hb2.alloc hs2 _⟩

theorem fnd_yes {S : Nat} {pr : Nat × Nat → Nat × Nat → Bool} {F : List (Nat × Nat)} {o : Option Nat} {n k p m : Nat} (ha : Apart S F) (ho : findK pr n F F.length = o) (hx : F[k]? = some (p, m)) (hp : p = atOf F o) (hm : n ≤ m) : fndB F o (k + 1) = (p, m) := by
  have hk := (List.getElem?_eq_some_iff.1 hx).1
  have hgx : F.getD k (0, 0) = (p, m) := by simp [List.getD_eq_getElem?_getD, hx]
  cases o with
  | none =>
    have := findK_none ho k hk
    rw [hgx] at this
    simp only at this
    omega
  | some i =>
    obtain ⟨h1, h2⟩ := findK_some ho
    have hi := getD_some (d := ((0, 0) : Nat × Nat)) h1
    have e : i = k := apart_inj ha hi hx (by simp only; rw [hp]; simp [atOf])
    subst e
    unfold fndB
    simp only [hgx]
    rw [if_pos (by omega)]
theorem fnd_no {pr : Nat × Nat → Nat × Nat → Bool} {F : List (Nat × Nat)} {o : Option Nat} {n k p m : Nat} (ho : findK pr n F F.length = o) (hx : F[k]? = some (p, m)) (hp : ¬ (p = atOf F o ∧ n ≤ m)) : fndB F o (k + 1) = fndB F o k := by
  have hgx : F.getD k (0, 0) = (p, m) := by simp [List.getD_eq_getElem?_getD, hx]
  cases o with
  | none => rfl
  | some i =>
    have hne : i ≠ k := by
      rintro rfl
      obtain ⟨h1, h2⟩ := findK_some ho
      rw [hgx] at h2
      exact hp ⟨by simp [atOf, hx], h2⟩
    unfold fndB
    simp only
    by_cases h : i < k
    · rw [if_pos h, if_pos (by omega)]
    · rw [if_neg h, if_neg (by omega)]

/-- What holds of what is found, behind all. -/
theorem fnd_end {S : Nat} {pol : Int} {E n : Nat} {F : List (Nat × Nat)} {o : Option Nat} (ha : Apart S F) (ho : findK (pref pol E) n F F.length = o) :
    (∀ (k p m : Nat), F[k]? = some (p, m) → n ≤ m → o.isSome = true ∧ (pol = 1 → (fndB F o F.length).1 ≤ p) ∧ (pol = 2 → (fndB F o F.length).2 ≤ m) ∧ (pol = 4 → m ≤ (fndB F o F.length).2) ∧ (pol = 1 ∨ pol = 2 ∨ pol = 4 → m = (fndB F o F.length).2 → (fndB F o F.length).1 ≤ p)) ∧ (o.isSome = true → n ≤ (fndB F o F.length).2) := by
  cases o with
  | none =>
    refine ⟨fun k p m hx hm => ?_, fun h => by cases h⟩
    have := findK_none ho k (List.getElem?_eq_some_iff.1 hx).1
    simp only [List.getD_eq_getElem?_getD, hx, Option.getD_some] at this
    omega
  | some i =>
    obtain ⟨h1, h2⟩ := findK_some ho
    have hi := getD_some (d := ((0, 0) : Nat × Nat)) h1
    have e : fndB F (some i) F.length = F.getD i (0, 0) := by unfold fndB; simp only; rw [if_pos h1]
    rw [e]
    refine ⟨fun k p m hx hm => ?_, fun _ => h2⟩
    obtain ⟨c1, c2, c3, c4⟩ := choose_facts ha ho hi hx hm
    exact ⟨rfl, c1, c2, c3, c4⟩

set_option maxRecDepth 100000 in
set_option maxHeartbeats 8000000 in
theorem freeChooses_main (z pol : Int) (a : Option Addr) (c : Nat) (sc : List (Int × Int)) (n : Nat) (w : World) (hA : Asks w.heap.size w a sc) (hI : I64s sc) (hE : playE z pol sc.length = 0) (hlen : sc.length ≤ 99) (hn1 : 1 ≤ n) (hnz : (n : Int) ≤ z) :
    Calls Try.prog 6 #[.int .i64 z, .int .i64 pol, .slice a sc.length c, .int .i64 (n : Nat)] w fun e w' => e = .returned (.bool true) ∧ Below w.heap.size w w' := by
  have hz1 := playE_ok hE
  have Hc := hide (play_c z pol a c sc w.heap.size w hA (Nat.le_refl _) hI)
  have HA := hide hA
  have HI := hide hI
  clear hA hI
  go_enter Try.func6, Try.ntmps6
  go_wp2_with fail
  refine (unhide Hc).mono ?_
  rintro e w2 ⟨hR, hb2⟩
  obtain ⟨ac, cc, aa, ca, af, cf, C, A, F, rfl, nc, na, nf, hIs, hca, _⟩ := hR
  have hs2 := hb2.size
  obtain ⟨W3, hW3⟩ : ∃ W3, w2.alloc (.cells #[.slice ac C.length cc, .slice aa A.length ca, .slice af F.length cf] 27) = W3 := ⟨_, rfl⟩
  have hb3 : Below w2.heap.size w2 W3 := by rw [← hW3]; exact (Below.refl _ _).alloc (Nat.le_refl _) _
  have hs3 : w2.heap.size < W3.heap.size := by rw [← hW3]; simp
  have hF3 : FBox W3 w2.heap.size ac C.length cc aa A.length ca af F.length cf := by rw [← hW3]; exact fbox_new ..
  clear Hc
  have hown4 : (W3.alloc (.cells #[] 38)).ownsRow W3.heap.size 38 2 (.slice (some ⟨W3.heap.size, 0, none⟩) 0 0) 0 [] := ⟨rfl, .inr ⟨W3.heap.size, 0, #[], rfl, Nat.le_refl _, heap_alloc_new _ _, Nat.le_refl _, by omega, rfl, rfl⟩⟩
  have hb4 : Below W3.heap.size W3 (W3.alloc (.cells #[] 38)) := (Below.refl _ _).alloc (Nat.le_refl _) _
  have hA4 : Asks w.heap.size (W3.alloc (.cells #[] 38)) a sc := (unhide HA).below ((hb2.trans (hb3.mono hs2)).trans (hb4.mono (by omega)))
  obtain ⟨v5, w5, hr5, hown5, hg5, g5, c5, rfl⟩ := run_append_q (W3.alloc (.cells #[] 38)) W3.heap.size 22 W3.heap.size 0 0 [] hown4 a sc.length c (cellsQ sc) (cellsQ_len sc) (fun h => hA4.cells h) (fun v hv => cellsQ_one hv) (by omega) (by simp)
  simp only [Nat.zero_add, List.nil_append] at hown5 hr5
  have hb5 : Below W3.heap.size W3 w5 := hb4.grown hg5 (by simp) (fun k e => by injection e with e; omega)
  have hs5 := hb5.size
  obtain ⟨v7, w7, hr7, hown7, hg7, g7, c7, rfl⟩ := run_append_q (w5.alloc (.cells #[.int .i64 1, .int .i64 (n : Nat)] 38)) W3.heap.size 22 g5 c5 sc.length (cellsQ sc) (hown5.alloc _) (some ⟨w5.heap.size, 0, none⟩) 1 1 [.int .i64 1, .int .i64 (n : Nat)] rfl (fun h => ⟨_, rfl, cell_two_at _ _ _ _ _ rfl⟩) (by simp [Value.oneCell']) (by omega) (by simp; omega)
  have hb7 : Below W3.heap.size W3 w7 := (hb5.alloc hs5 _).grown hg7 (by simp; omega) (fun k e => ((hown5.alloc (.cells #[.int .i64 1, .int .i64 (n : Nat)] 38)).lt k e).1)
  have hs7 := hb7.size
  have hl1 : (sc ++ [((1 : Int), (n : Int))]).length = sc.length + 1 := by simp
  rw [← cellsQ_snoc, ← hl1] at hown7
  have hA7 := asks_of_owns hown7 (by omega)
  have HI7 : Hid (I64s (sc ++ [((1 : Int), (n : Int))])) := fun x hx => by
    rcases List.mem_append.1 hx with hx | hx
    · exact unhide HI x hx
    · simp at hx; subst hx; exact ⟨by simp, by simp only; omega, by simp only; omega⟩
  have Hc7 := hide (play_c z pol (some ⟨g7, 0, none⟩) c7 (sc ++ [((1 : Int), (n : Int))]) w7.heap.size w7 hA7 (Nat.le_refl _) (unhide HI7))
  rw [hl1] at Hc7 hown7
  have H5 := hide hr5
  have H7 := hide hr7
  have hE' : playE z pol (sc ++ [((1 : Int), (n : Int))]).length = 0 := by rw [← hE]; exact playE_len (by rw [hl1]; omega) (by omega)
  have HE' := hide hE'
  have HE := hide hE
  have HF3 := hide hF3
  have Nf := hide nf
  rw [hE]
  have d00 : ((0 : Int) != 0) = false := by simp
  have d2 : ((sc.length : Int) == 100) = false := by simp; omega
  have d3 : decide (n < 1) = false := decide_eq_false (by omega)
  have d4 : decide (z < (n : Int)) = false := decide_eq_false (by omega)
  clear hown4 hA4 hr5 hown5 hg5 hr7 hown7 hg7 hA7 hF3 nc na nf hl1 hb4 hE hE'
  go_wp2_with (first
    | (at_builtin; refine Lib.wpList_append_run _ rfl _ _ 22 22 rfl _ _ rfl rfl _ _ (unhide H5) ?_)
    | (at_builtin; refine Lib.wpList_append_run _ rfl _ _ 22 22 rfl _ _ rfl rfl _ _ (unhide H7) ?_))
  refine (unhide Hc7).mono ?_
  rintro e w8 ⟨hR, hb8⟩
  obtain ⟨ac', cc', aa', ca', af', cf', C', A', F', rfl, nc', na', nf', hIs', hca', _⟩ := hR
  have hs8 := hb8.size
  rw [unhide HE']
  obtain ⟨m1, m2, m3, m4, m5, m6⟩ := plIs_more (unhide hIs) (unhide hIs') (unhide HE) (unhide HE')
  have hO := ok_stK (S := z.toNat) (by omega) pol sc sc.length
  obtain ⟨f1, f2⟩ := step_takeK (S := z.toNat) pol (s := stK z.toNat pol sc sc.length) hn1 (by omega)
  rw [f1] at m5
  rw [f2] at m6
  rw [← m3] at m5 m6
  have hap := hO.ap
  rw [← m3] at hap
  have hFl := ok_len hO
  rw [← m3] at hFl
  obtain ⟨o, ho⟩ : ∃ o, findK (pref pol (stK z.toNat pol sc sc.length).en) n F F.length = o := ⟨_, rfl⟩
  rw [ho] at m5 m6
  generalize (stK z.toNat pol sc sc.length).en = En at *
  obtain ⟨bC, oC, hac, hbC, yC⟩ := nc'.at m5
  obtain ⟨bA, oA, haa, hbA, yA⟩ := na'.at m6
  subst hac haa
  obtain ⟨W9, hW9⟩ : ∃ W9, w8.alloc (.cells #[.slice (some ⟨bC, oC, none⟩) C'.length cc', .slice (some ⟨bA, oA, none⟩) A'.length ca', .slice af' F'.length cf'] 27) = W9 := ⟨_, rfl⟩
  have hb9 : Below w8.heap.size w8 W9 := by rw [← hW9]; exact (Below.refl _ _).alloc (Nat.le_refl _) _
  have hs9 : w8.heap.size < W9.heap.size := by rw [← hW9]; simp
  have hF9 : FBox W9 w8.heap.size (some ⟨bC, oC, none⟩) C'.length cc' (some ⟨bA, oA, none⟩) A'.length ca' af' F'.length cf' := by rw [← hW9]; exact fbox_new ..
  have hb39 : Below W3.heap.size W3 W9 := hb7.trans ((hb8.mono hs7).trans (hb9.mono (by omega)))
  have hbw9 : Below w.heap.size w W9 := (hb2.trans (hb3.mono hs2)).trans (hb39.mono (by omega))
  have yC9 := (hb9.cell (p := ⟨bC, oC + sc.length, none⟩) hbC).trans yC
  have yA9 := (hb9.cell (p := ⟨bA, oA + sc.length, none⟩) hbA).trans yA
  have hbC9 : bC < W9.heap.size := by omega
  have hbA9 : bA < W9.heap.size := by omega
  have hFf : FBox W9 w2.heap.size ac C.length cc aa A.length ca af F.length cf := (unhide HF3).below hb39 hs3
  have t2 := hFf.c2
  have tl := hFf.lt
  have u0 := hF9.c0
  have u1 := hF9.c1
  have Nf9 : Hid (Blks W9.heap.size W9 af F) := (((unhide Nf).below hb3).mono (by omega)).below hb39 |>.mono (by omega)
  have d5 : ((C'.length : Int) != (sc.length : Int) + 1) = false := by simp; omega
  have d6 : ((A'.length : Int) != (sc.length : Int) + 1) = false := by simp; omega
  have i1 : (sc.length : Int) < (C'.length : Int) := by omega
  have i2 : (sc.length : Int) < (A'.length : Int) := by omega
  have Hap := hide hap
  have Ho := hide ho
  clear Hc7 m1 m2 m3 m4 m5 m6 yC yA hO hap ho hIs hIs' nc' na' nf' f1 f2 hFf hF9 HF3 Nf
  generalize hcd : cdOf o = cd at *
  generalize hat : atOf F o = at' at *
  have Hcd := hide hcd
  have Hat := hide hat
  clear hcd hat
  go_wp2
  have hbx0 : Below W9.heap.size W9 (W9.alloc (.cells #[.int .i64 0, .int .i64 0] 36)) := (Below.refl _ _).alloc (Nat.le_refl _) _
  have hbx1 : (W9.alloc (.cells #[.int .i64 0, .int .i64 0] 36)).heap[W9.heap.size]? = some (.cells #[.int .i64 0, .int .i64 0] 36) := heap_alloc_new _ _
  have t2x := (hbx0.cell (p := ⟨w2.heap.size, 2, none⟩) tl).trans t2
  have Hx : Hid (Below W9.heap.size W9 (W9.alloc (.cells #[.int .i64 0, .int .i64 0] 36)) ∧ (W9.alloc (.cells #[.int .i64 0, .int .i64 0] 36)).heap[W9.heap.size]? = some (.cells #[.int .i64 (((fndB F o 0).1 : Nat) : Int), .int .i64 (((fndB F o 0).2 : Nat) : Int)] 36)) := by
    refine ⟨hbx0, ?_⟩
    have e : fndB F o 0 = (0, 0) := by unfold fndB; cases o <;> simp
    rw [e]
    exact hbx1
  clear u0 u1 yC9 yA9 hbC9 hbA9 t2 hbx1 H5 H7 HA HI HI7
  go_loopw [103] (fun i wr => ∃ k : Nat, k ≤ F.length ∧ i = .int .i64 k ∧ Hid (Below W9.heap.size W9 wr ∧ wr.heap[W9.heap.size]? = some (.cells #[.int .i64 (((fndB F o k).1 : Nat) : Int), .int .i64 (((fndB F o k).2 : Nat) : Int)] 36))) (fun i _ => F.length - (intOf i).toNat)
  case atStart => exact ⟨0, Nat.zero_le _, rfl, Hx⟩
  case round =>
    obtain ⟨k, hk, rfl, HB⟩ := hrel
    obtain ⟨hbr, hxr⟩ := unhide HB
    have hszr := hbr.size
    have hxl : W9.heap.size < wr.heap.size := (Array.getElem?_eq_some_iff.1 hxr).1
    by_cases hlt : k < F.length
    · obtain ⟨p, m, hx⟩ : ∃ p m, F[k]? = some (p, m) := ⟨F[k].1, F[k].2, List.getElem?_eq_getElem hlt⟩
      obtain ⟨b, off, rfl, hbB, x0, x1⟩ := ((unhide Nf9).below hbr).at hx
      have hbl : b < wr.heap.size := by omega
      have hkI : (k : Int) < (F.length : Int) := by omega
      have g0 : wr.cell? ⟨W9.heap.size, 0, none⟩ = some (.int .i64 (((fndB F o k).1 : Nat) : Int)) := by rw [cell_of_row wr _ 0 _ 36 (0, 0) hxr]; rfl
      have g1 : wr.cell? ⟨W9.heap.size, 1, none⟩ = some (.int .i64 (((fndB F o k).2 : Nat) : Int)) := by rw [cell_of_row wr _ 1 _ 36 (0, 0) hxr]; rfl
      have gf0 := frozen_of_row wr _ 0 _ 36 hxr
      have gf1 := frozen_of_row wr _ 1 _ 36 hxr
      by_cases hpm : p = at' ∧ n ≤ m
      · have Hy := hide (fnd_yes (unhide Hap) (unhide Ho) hx (by rw [unhide Hat]; exact hpm.1) hpm.2)
        have e1 : ((p : Int) == (at' : Int)) = true := by simp; omega
        have e2 : decide (n ≤ m) = true := decide_eq_true hpm.2
        have Hend : Hid (∀ W, W = ((wr.setCell ⟨W9.heap.size, 0, none⟩ (.int .i64 (p : Nat))).setCell ⟨W9.heap.size, 1, none⟩ (.int .i64 (m : Nat))).alloc (.cells #[.int .i64 (p : Nat), .int .i64 (m : Nat)] 36) → Below W9.heap.size W9 W ∧ W.heap[W9.heap.size]? = some (.cells #[.int .i64 (((fndB F o (k + 1)).1 : Nat) : Int), .int .i64 (((fndB F o (k + 1)).2 : Nat) : Int)] 36)) := by
          rintro W rfl
          rw [unhide Hy]
          refine ⟨((hbr.setCell (p := ⟨W9.heap.size, 0, none⟩) (Nat.le_refl _) _).setCell (p := ⟨W9.heap.size, 1, none⟩) (Nat.le_refl _) _).alloc (by simp [World.setCell]; omega) _, ?_⟩
          rw [Below.heap_alloc _ _ _ (by simp [World.setCell]; omega)]
          exact box_two hxr _ _
        clear hx hpm hxr
        go_wp2
        go_roundw
        case rel => exact ⟨k + 1, by omega, by go_num, unhide Hend _ rfl⟩
        case measure => simp [intOf]; omega
      · have Hy := hide (fnd_no (unhide Ho) hx (by rw [unhide Hat]; exact hpm))
        have Hend : Hid (Below W9.heap.size W9 (wr.alloc (.cells #[.int .i64 (p : Nat), .int .i64 (m : Nat)] 36)) ∧ (wr.alloc (.cells #[.int .i64 (p : Nat), .int .i64 (m : Nat)] 36)).heap[W9.heap.size]? = some (.cells #[.int .i64 (((fndB F o (k + 1)).1 : Nat) : Int), .int .i64 (((fndB F o (k + 1)).2 : Nat) : Int)] 36)) := by
          show _ ∧ _
          rw [unhide Hy]
          exact ⟨hbr.alloc hszr _, by rw [Below.heap_alloc _ _ _ hxl]; exact hxr⟩
        by_cases hp : p = at'
        · have e1 : ((p : Int) == (at' : Int)) = true := by simp; omega
          have e2 : decide (n ≤ m) = false := decide_eq_false (fun h => hpm ⟨hp, h⟩)
          clear hx hpm hxr hp
          go_wp2
          go_roundw
          case rel => exact ⟨k + 1, by omega, by go_num, Hend⟩
          case measure => simp [intOf]; omega
        · have e1 : ((p : Int) == (at' : Int)) = false := by simp; omega
          clear hx hpm hxr hp
          go_wp2
          go_roundw
          case rel => exact ⟨k + 1, by omega, by go_num, Hend⟩
          case measure => simp [intOf]; omega
    · obtain rfl : k = F.length := by omega
      have t2r := (hbr.cell (p := ⟨w2.heap.size, 2, none⟩) tl).trans ((hbx0.cell (p := ⟨w2.heap.size, 2, none⟩) tl).symm.trans t2x)
      obtain ⟨fe1, fe2⟩ := fnd_end (unhide Hap) (unhide Ho)
      have Hfe1 := hide fe1
      have Hfe2 := hide fe2
      have Hsm := hide (someB_find (pr := pref pol En) (n := n) (l := F))
      rw [unhide Ho] at Hsm
      generalize hfb : fndB F o F.length = fb at *
      obtain ⟨fp, fm⟩ := fb
      have HB2 : Hid (Below W9.heap.size W9 wr ∧ wr.heap[W9.heap.size]? = some (.cells #[.int .i64 (fp : Nat), .int .i64 (fm : Nat)] 36)) := ⟨hbr, hxr⟩
      have t2l : w2.heap.size < wr.heap.size := by omega
      clear hfb fe1 fe2 hxr
      go_wp2
      obtain ⟨WR, hWR⟩ : ∃ WR, WR = wr := ⟨wr, rfl⟩
      subst hWR
      go_loopw [15, 122] (fun sm i wr => ∃ k : Nat, k ≤ F.length ∧ i = .int .i64 k ∧ sm = .bool (someB F n k) ∧ Hid (Below W9.heap.size W9 wr ∧ wr.heap[W9.heap.size]? = some (.cells #[.int .i64 (fp : Nat), .int .i64 (fm : Nat)] 36))) (fun _ i _ => F.length - (intOf i).toNat)
      case atStart => exact ⟨0, Nat.zero_le _, rfl, rfl, HB2⟩
      case round =>
        obtain ⟨k, hk, rfl, rfl, HB3⟩ := hrel
        obtain ⟨hbr3, hxr3⟩ := unhide HB3
        have hszr3 := hbr3.size
        have hxl3 : W9.heap.size < wr.heap.size := (Array.getElem?_eq_some_iff.1 hxr3).1
        have g0 : wr.cell? ⟨W9.heap.size, 0, none⟩ = some (.int .i64 (fp : Nat)) := by rw [cell_of_row wr _ 0 _ 36 (0, 0) hxr3]; rfl
        have g1 : wr.cell? ⟨W9.heap.size, 1, none⟩ = some (.int .i64 (fm : Nat)) := by rw [cell_of_row wr _ 1 _ 36 (0, 0) hxr3]; rfl
        by_cases hlt : k < F.length
        · obtain ⟨p, m, hx⟩ : ∃ p m, F[k]? = some (p, m) := ⟨F[k].1, F[k].2, List.getElem?_eq_getElem hlt⟩
          obtain ⟨b, off, rfl, hbB, x0, x1⟩ := ((unhide Nf9).below hbr3).at hx
          have hbl : b < wr.heap.size := by omega
          have hkI : (k : Int) < (F.length : Int) := by omega
          have Hend : Hid (Below W9.heap.size W9 (wr.alloc (.cells #[.int .i64 (p : Nat), .int .i64 (m : Nat)] 36)) ∧ (wr.alloc (.cells #[.int .i64 (p : Nat), .int .i64 (m : Nat)] 36)).heap[W9.heap.size]? = some (.cells #[.int .i64 (fp : Nat), .int .i64 (fm : Nat)] 36)) := ⟨hbr3.alloc hszr3 _, by rw [Below.heap_alloc _ _ _ hxl3]; exact hxr3⟩
          have Hsk := hide (someB_succ (n := n) hx)
          by_cases hm : n ≤ m
          · obtain ⟨_, c1, c2, c3, c4⟩ := unhide Hfe1 k p m hx hm
            have Hsk2 : Hid (someB F n (k + 1) = true) := by show _ = _; rw [unhide Hsk]; simp [hm]
            have dm : decide (m < n) = false := decide_eq_false (by omega)
            by_cases hp1 : pol = 1
            · have s1 : (pol == 1) = true := by simp [hp1]
              have s2 : (pol == 2) = false := by simp [hp1]
              have s4 : (pol == 4) = false := by simp [hp1]
              have s3 : (pol != 3) = true := by simp [hp1]
              have k1 := c1 hp1
              have k4 := c4 (.inl hp1)
              have r1 : decide (p < fp) = false := decide_eq_false (by omega)
              by_cases hmm : m = fm
              · have r3 : ((m : Int) == (fm : Int)) = true := by simp; omega
                clear c1 c2 c3 c4 hp1 hx hxr3 k4 hmm
                go_wp2
                all_goals
                  go_roundw
                  case rel => exact ⟨k + 1, by omega, by go_num, by rw [unhide Hsk2], Hend⟩
                  case measure => simp [intOf]; omega
              · have r3 : ((m : Int) == (fm : Int)) = false := by simp; omega
                clear c1 c2 c3 c4 hp1 hx hxr3 k4 hmm
                go_wp2
                all_goals
                  go_roundw
                  case rel => exact ⟨k + 1, by omega, by go_num, by rw [unhide Hsk2], Hend⟩
                  case measure => simp [intOf]; omega
            · by_cases hp2 : pol = 2
              · have s1 : (pol == 1) = false := by simp [hp2]
                have s2 : (pol == 2) = true := by simp [hp2]
                have s4 : (pol == 4) = false := by simp [hp2]
                have s3 : (pol != 3) = true := by simp [hp2]
                have k2 := c2 hp2
                have k4 := c4 (.inr (.inl hp2))
                have r1 : decide (m < fm) = false := decide_eq_false (by omega)
                by_cases hmm : m = fm
                · have r2 : decide (p < fp) = false := decide_eq_false (by have := k4 hmm; omega)
                  have r3 : ((m : Int) == (fm : Int)) = true := by simp; omega
                  clear c1 c2 c3 c4 hp1 hp2 hx hxr3 k4 hmm
                  go_wp2
                  all_goals
                    go_roundw
                    case rel => exact ⟨k + 1, by omega, by go_num, by rw [unhide Hsk2], Hend⟩
                    case measure => simp [intOf]; omega
                · have r3 : ((m : Int) == (fm : Int)) = false := by simp; omega
                  clear c1 c2 c3 c4 hp1 hp2 hx hxr3 k4 hmm
                  go_wp2
                  all_goals
                    go_roundw
                    case rel => exact ⟨k + 1, by omega, by go_num, by rw [unhide Hsk2], Hend⟩
                    case measure => simp [intOf]; omega
              · by_cases hp4 : pol = 4
                · have s1 : (pol == 1) = false := by simp [hp4]
                  have s2 : (pol == 2) = false := by simp [hp4]
                  have s4 : (pol == 4) = true := by simp [hp4]
                  have s3 : (pol != 3) = true := by simp [hp4]
                  have k3 := c3 hp4
                  have k4 := c4 (.inr (.inr hp4))
                  have r1 : decide (fm < m) = false := decide_eq_false (by omega)
                  by_cases hmm : m = fm
                  · have r2 : decide (p < fp) = false := decide_eq_false (by have := k4 hmm; omega)
                    have r3 : ((m : Int) == (fm : Int)) = true := by simp; omega
                    clear c1 c2 c3 c4 hp1 hp2 hp4 hx hxr3 k4 hmm
                    go_wp2
                    all_goals
                      go_roundw
                      case rel => exact ⟨k + 1, by omega, by go_num, by rw [unhide Hsk2], Hend⟩
                      case measure => simp [intOf]; omega
                  · have r3 : ((m : Int) == (fm : Int)) = false := by simp; omega
                    clear c1 c2 c3 c4 hp1 hp2 hp4 hx hxr3 k4 hmm
                    go_wp2
                    all_goals
                      go_roundw
                      case rel => exact ⟨k + 1, by omega, by go_num, by rw [unhide Hsk2], Hend⟩
                      case measure => simp [intOf]; omega
                · have s1 : (pol == 1) = false := by simp [hp1]
                  have s2 : (pol == 2) = false := by simp [hp2]
                  have s4 : (pol == 4) = false := by simp [hp4]
                  have s3 : (pol != 3) = false := by simp; omega
                  clear c1 c2 c3 c4 hp1 hp2 hp4 hx hxr3
                  go_wp2
                  all_goals
                    go_roundw
                    case rel => exact ⟨k + 1, by omega, by go_num, by rw [unhide Hsk2], Hend⟩
                    case measure => simp [intOf]; omega
          · have Hsk2 : Hid (someB F n (k + 1) = someB F n k) := by show _ = _; rw [unhide Hsk]; simp [hm]
            have dm : decide (m < n) = true := decide_eq_true (by omega)
            clear hx hxr3 hm
            go_wp2
            go_roundw
            case rel => exact ⟨k + 1, by omega, by go_num, by rw [unhide Hsk2], Hend⟩
            case measure => simp [intOf]; omega
        · obtain rfl : k = F.length := by omega
          have hbf : Below w.heap.size w wr := hbw9.trans (hbr3.mono (by omega))
          rw [unhide Hsm]
          have hcd := unhide Hcd
          cases o with
          | none =>
            have hc6 : cd = 6 := hcd.symm
            subst hc6
            clear hxr3 Hsm Hfe1 Hfe2 hcd
            go_wp2
            go_ret
            exact ⟨rfl, hbf⟩
          | some i =>
            have hc0 : cd = 0 := hcd.symm
            subst hc0
            have hfm := unhide Hfe2 rfl
            have r1 : decide (n ≤ fm) = true := decide_eq_true hfm
            clear hxr3 Hsm Hfe1 Hfe2 hcd
            go_wp2
            go_ret
            exact ⟨rfl, hbf⟩

end Go.Proofs.Ytgbbcfngncofgaa

/- FreeChooses, at every input. -/
namespace Go.Proofs.Ytgbbcfngncofgaa
set_option linter.unusedSimpArgs false
set_option linter.unusedVariables false
open Go.RowKit

theorem freeChooses_c (z pol : Int) (a : Option Addr) (c : Nat) (sc : List (Int × Int)) (n : Int) (w : World) (hA : Asks w.heap.size w a sc) (hI : I64s sc) :
    Calls Try.prog 6 #[.int .i64 z, .int .i64 pol, .slice a sc.length c, .int .i64 n] w fun e w' => e = .returned (.bool true) ∧ Below w.heap.size w w' := by
  by_cases hx : playE z pol sc.length = 0 ∧ sc.length ≤ 99 ∧ 1 ≤ n ∧ n ≤ z
  · obtain ⟨m, rfl⟩ : ∃ m : Nat, n = (m : Int) := ⟨n.toNat, by omega⟩
    exact freeChooses_main z pol a c sc m w hA hI hx.1 hx.2.1 (by omega) hx.2.2.2
  · exact freeChooses_early z pol a c sc n w hA hI hx

end Go.Proofs.Ytgbbcfngncofgaa
