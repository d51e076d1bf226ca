/- Merged texts: Ub. -/
import Derived.Test.YtgbbcfngncofgaaProg
import Derived.Test.YtgbbcfngncofgaaFreeFrontB

/- Walks: codes, Ints; FreeFront. -/
namespace Go.Proofs.Ytgbbcfngncofgaa
set_option linter.unusedSimpArgs false
set_option linter.unusedVariables false
open Go.RowKit

set_option maxRecDepth 100000 in
set_option maxHeartbeats 2000000 in
theorem codes_c (a a' : Option Addr) (c c' : Nat) (l l' : List Int) (B : Nat) (w : World) (h : Nums B w a l) (h' : Nums B w a' l') (hB : B ≤ w.heap.size) (hp : ∀ (k : Nat) (x : Int), l[k]? = some x → l'[k]? = some x) (hle : l.length ≤ l'.length) :
    Calls Try.prog 14 #[.slice a l.length c, .slice a' l'.length c'] w fun e w' => e = .returned (.bool true) ∧ Below w.heap.size w w' := by
  have hl := h.1
  have hl' := h'.1
  have d0 : decide (l'.length < l.length) = false := decide_eq_false (by omega)
  have Hp := hide hp
  clear hp
  go_enter Try.func14, Try.ntmps14
  go_wp2
  go_loopw [5] (fun i wr => ∃ k : Nat, k ≤ l.length ∧ i = .int .i64 k ∧ Below w.heap.size w wr) (fun i _ => l.length - (intOf i).toNat)
  case atStart => exact ⟨0, Nat.zero_le _, rfl, Below.refl _ _⟩
  case round =>
    obtain ⟨k, hk, rfl, hb⟩ := hrel
    have hsz := hb.size
    by_cases hlt : k < l.length
    · have hx : l[k]? = some l[k] := List.getElem?_eq_getElem hlt
      obtain ⟨b, off, rfl, hbB, x0⟩ := (h.below (hb.mono hB)).at hx
      obtain ⟨b', off', rfl, hbB', y0⟩ := (h'.below (hb.mono hB)).at (unhide Hp k _ hx)
      have hkI : (k : Int) < (l.length : Int) := by omega
      have hkI' : (k : Int) < (l'.length : Int) := by omega
      have hq : b < wr.heap.size := by omega
      have hq' : b' < wr.heap.size := by omega
      generalize l[k] = x at *
      have d1 : (x != x) = false := by simp
      clear hx
      go_wp2
      go_quiet (fail)
      have hbn := below_drewN hb nq
      clear x0 y0 hq hq'
      generalize wr.drewN nq = wq at *
      go_wp2
      go_roundw
      case rel => exact ⟨k + 1, by omega, by go_num, hbn⟩
      case measure => simp [intOf]; omega
    · obtain rfl : k = l.length := by omega
      go_wp2
      go_ret
      exact ⟨rfl, hb⟩

set_option maxRecDepth 100000 in
set_option maxHeartbeats 2000000 in
theorem ints_c (a a' : Option Addr) (c c' : Nat) (l : List Int) (B : Nat) (w : World) (h : Nums B w a l) (h' : Nums B w a' l) (hB : B ≤ w.heap.size) :
    Calls Try.prog 15 #[.slice a l.length c, .slice a' l.length c'] w fun e w' => e = .returned (.bool true) ∧ Below w.heap.size w w' := by
  have hl := h.1
  have d0 : ((l.length : Int) != (l.length : Int)) = false := by simp
  go_enter Try.func15, Try.ntmps15
  go_wp2
  go_loopw [5] (fun i wr => ∃ k : Nat, k ≤ l.length ∧ i = .int .i64 k ∧ Below w.heap.size w wr) (fun i _ => l.length - (intOf i).toNat)
  case atStart => exact ⟨0, Nat.zero_le _, rfl, Below.refl _ _⟩
  case round =>
    obtain ⟨k, hk, rfl, hb⟩ := hrel
    have hsz := hb.size
    by_cases hlt : k < l.length
    · have hx : l[k]? = some l[k] := List.getElem?_eq_getElem hlt
      obtain ⟨b, off, rfl, hbB, x0⟩ := (h.below (hb.mono hB)).at hx
      obtain ⟨b', off', rfl, hbB', y0⟩ := (h'.below (hb.mono hB)).at hx
      have hkI : (k : Int) < (l.length : Int) := by omega
      have hq : b < wr.heap.size := by omega
      have hq' : b' < wr.heap.size := by omega
      generalize l[k] = x at *
      have d1 : (x != x) = false := by simp
      clear hx
      go_wp2
      go_quiet (fail)
      have hbn := below_drewN hb nq
      clear x0 y0 hq hq'
      generalize wr.drewN nq = wq at *
      go_wp2
      go_roundw
      case rel => exact ⟨k + 1, by omega, by go_num, hbn⟩
      case measure => simp [intOf]; omega
    · obtain rfl : k = l.length := by omega
      go_wp2
      go_ret
      exact ⟨rfl, hb⟩

theorem Asks.take {B : Nat} {w : World} {a : Option Addr} {l : List (Int × Int)} (h : Asks B w a l) (n : Nat) : Asks B w a (l.take n) := by
  refine ⟨by have := h.1; simp; omega, fun hne => ?_⟩
  obtain ⟨b, off, rfl, hB, hc⟩ := h.2 (by rintro rfl; simp at hne)
  refine ⟨b, off, rfl, hB, fun k v hk => hc k v ?_⟩
  rw [List.getElem?_take] at hk
  split at hk
  · exact hk
  · cases hk
theorem Nums.take {B : Nat} {w : World} {a : Option Addr} {l : List Int} (h : Nums B w a l) (n : Nat) : Nums B w a (l.take n) := by
  refine ⟨by have := h.1; simp; omega, fun hne => ?_⟩
  obtain ⟨b, off, rfl, hB, hc⟩ := h.2 (by rintro rfl; simp at hne)
  refine ⟨b, off, rfl, hB, fun k v hk => hc k v ?_⟩
  rw [List.getElem?_take] at hk
  split at hk
  · exact hk
  · cases hk

theorem bounds_u8' {n : Int} (h : (Lit.int .u8 n).wf = true) : 0 ≤ n ∧ n ≤ 255 := by
  simp [Lit.wf, IntKind.min, IntKind.max, IntKind.signed, IntKind.bits] at h
  omega

/-- What is asked later changes nothing. -/
theorem front_same {S : Nat} {pol : Int} {sc sc' : List (Int × Int)} {n : Nat} (h : ∀ i, i < n → sc.getD i (0, 0) = sc'.getD i (0, 0)) {k : Nat} (hk : k ≤ n) : codesL S pol sc k = codesL S pol sc' k ∧ atsL S pol sc k = atsL S pol sc' k ∧ stK S pol sc k = stK S pol sc' k := by
  have hst : ∀ i, i ≤ n → stK S pol sc i = stK S pol sc' i := fun i hi => stepS_same S pol (fun j hj => h j (by omega))
  refine ⟨?_, ?_, hst k hk⟩
  · unfold codesL
    refine List.map_congr_left fun i hi => ?_
    have := List.mem_range.1 hi
    unfold codeK
    rw [hst i (by omega), h i (by omega)]
  · unfold atsL
    refine List.map_congr_left fun i hi => ?_
    have := List.mem_range.1 hi
    unfold atK
    rw [hst i (by omega), h i (by omega)]
theorem codesL_take (S : Nat) (pol : Int) (sc : List (Int × Int)) (n k : Nat) (h : k ≤ n) : (codesL S pol sc n).take k = codesL S pol sc k := by
  unfold codesL
  rw [← List.map_take, List.take_range, Nat.min_eq_left h]
theorem atsL_take (S : Nat) (pol : Int) (sc : List (Int × Int)) (n k : Nat) (h : k ≤ n) : (atsL S pol sc n).take k = atsL S pol sc k := by
  unfold atsL
  rw [← List.map_take, List.take_range, Nat.min_eq_left h]
theorem getD_take {α : Type} {l : List α} {n i : Nat} {d : α} (h : i < n) : (l.take n).getD i d = l.getD i d := by
  rw [List.getD_eq_getElem?_getD, List.getD_eq_getElem?_getD, List.getElem?_take, if_pos h]

theorem plIs_front {z pol : Int} {sc : List (Int × Int)} {n : Nat} {C A C' A' : List Int} {F F' : List (Nat × Nat)} (hn : n ≤ sc.length) (h : PlIs z pol sc C A F) (h' : PlIs z pol (sc.take n) C' A' F') (hE : playE z pol sc.length = 0) :
    playE z pol (sc.take n).length = 0 ∧ C.length = sc.length ∧ A.length = sc.length ∧ C'.length = n ∧ A'.length = n ∧ C.take n = C' ∧ A.take n = A' := by
  obtain ⟨e1, e2, e3, e4, e5⟩ := playE_ok hE
  have hE' : playE z pol (sc.take n).length = 0 := by
    unfold playE
    rw [if_neg (by omega), if_neg (by omega), if_neg (by simp; omega)]
  obtain ⟨rfl, rfl, rfl⟩ := h.2 hE
  obtain ⟨rfl, rfl, rfl⟩ := h'.2 hE'
  have hl : (sc.take n).length = n := by simp; omega
  have hf := front_same (S := z.toNat) (pol := pol) (sc := sc.take n) (sc' := sc) (n := n) (fun i hi => getD_take hi) (Nat.le_refl n)
  rw [hl]
  refine ⟨by rw [hl] at hE'; exact hE', codesL_len _ _ _ _, atsL_len _ _ _ _, codesL_len _ _ _ _, atsL_len _ _ _ _, ?_, ?_⟩
  · rw [codesL_take _ _ _ _ _ hn, hf.1]
  · rw [atsL_take _ _ _ _ _ hn, hf.2.1]

set_option maxRecDepth 100000 in
set_option maxHeartbeats 4000000 in
theorem freeFront_c (z pol : Int) (a : Option Addr) (c : Nat) (sc : List (Int × Int)) (kk : Int) (w : World) (hA : Asks w.heap.size w a sc) (hI : I64s sc) (hc : sc.length ≤ c) (hcm : c ≤ 9223372036854775807) (hk0 : 0 ≤ kk) (hk1 : kk ≤ 255) :
    Calls Try.prog 8 #[.int .i64 z, .int .i64 pol, .slice a sc.length c, .int .u8 kk] w fun e w' => e = .returned (.bool true) ∧ Below w.heap.size w w' := by
  have Hc := hide (play_c z pol a c sc w.heap.size w hA (Nat.le_refl _) hI)
  have hsl := hA.1
  obtain ⟨n, hn, hnl⟩ : ∃ n : Nat, kk % wrap64 ((sc.length : Int) + 1) = (n : Int) ∧ n ≤ sc.length := by
    by_cases h : (sc.length : Int) + 1 ≤ 9223372036854775807
    · have e : wrap64 ((sc.length : Int) + 1) = (sc.length : Int) + 1 := by unfold wrap64; omega
      rw [e]
      have h1 := Int.emod_nonneg kk (show (sc.length : Int) + 1 ≠ 0 by omega)
      have h2 := Int.emod_lt_of_pos kk (show (0 : Int) < (sc.length : Int) + 1 by omega)
      exact ⟨(kk % ((sc.length : Int) + 1)).toNat, by omega, by omega⟩
    · have e : wrap64 ((sc.length : Int) + 1) = -9223372036854775808 := by unfold wrap64; omega
      rw [e, show (-9223372036854775808 : Int) = -(9223372036854775808 : Int) from rfl, Int.emod_neg]
      exact ⟨kk.toNat, by omega, by omega⟩
  have hw0 : ¬ wrap64 ((sc.length : Int) + 1) = 0 := by unfold wrap64; omega
  have HI : Hid (I64s (sc.take n)) := fun x hx => hI x (List.mem_of_mem_take hx)
  have HA := hide (hA.take n)
  clear hA hI
  go_enter Try.func8, Try.ntmps8
  go_wp2_with fail
  refine (unhide Hc).mono ?_
  rintro e w2 ⟨hR, hb2⟩
  obtain ⟨ac, cc, aa, ca, af, cf, C, A, F, rfl, nc, na, nf, hIs, hca⟩ := hR
  have hs2 := hb2.size
  clear Hc
  have hln : (sc.take n).length = n := by simp; omega
  obtain ⟨W3, hW3⟩ : ∃ W3, w2.alloc (.cells #[.slice ac C.length cc, .slice aa A.length ca, .slice af F.length cf] 27) = W3 := ⟨_, rfl⟩
  have hb3 : Below w2.heap.size w2 W3 := by rw [← hW3]; exact (Below.refl _ _).alloc (Nat.le_refl _) _
  have hs3 : w2.heap.size < W3.heap.size := by rw [← hW3]; simp
  have t0 : W3.cell? ⟨w2.heap.size, 0, none⟩ = some (.slice ac C.length cc) := by rw [← hW3]; simp [go_sem]
  have t1 : W3.cell? ⟨w2.heap.size, 1, none⟩ = some (.slice aa A.length ca) := by rw [← hW3]; simp [go_sem]
  have hbw3 : Below w.heap.size w W3 := hb2.trans (hb3.mono hs2)
  have Hc2 := hide (play_c z pol a c (sc.take n) w.heap.size W3 ((unhide HA).below hbw3) (by omega) (unhide HI))
  rw [hln] at Hc2
  have Hln := hide hln
  have hnI : (n : Int) ≤ (c : Int) := by omega
  have hn0 : n ≤ c := by omega
  have nc3 := hide (nc.below hb3)
  have na3 := hide (na.below hb3)
  clear hln nc na nf
  go_wp2_with fail
  refine (unhide Hc2).mono ?_
  rintro e w4 ⟨hR, hb4⟩
  obtain ⟨ac', cc', aa', ca', af', cf', C', A', F', rfl, nc', na', nf', hIs', hca'⟩ := hR
  have hs4 := hb4.size
  obtain ⟨W5, hW5⟩ : ∃ W5, w4.alloc (.cells #[.slice ac' C'.length cc', .slice aa' A'.length ca', .slice af' F'.length cf'] 27) = W5 := ⟨_, rfl⟩
  have hb5 : Below w4.heap.size w4 W5 := by rw [← hW5]; exact (Below.refl _ _).alloc (Nat.le_refl _) _
  have hs5 : w4.heap.size < W5.heap.size := by rw [← hW5]; simp
  have u0 : W5.cell? ⟨w4.heap.size, 0, none⟩ = some (.slice ac' C'.length cc') := by rw [← hW5]; simp [go_sem]
  have u1 : W5.cell? ⟨w4.heap.size, 1, none⟩ = some (.slice aa' A'.length ca') := by rw [← hW5]; simp [go_sem]
  have hb35 : Below W3.heap.size W3 W5 := hb4.trans (hb5.mono hs4)
  have t0' := (hb35.cell (p := ⟨w2.heap.size, 0, none⟩) hs3).trans t0
  have t1' := (hb35.cell (p := ⟨w2.heap.size, 1, none⟩) hs3).trans t1
  have hbw5 : Below w.heap.size w W5 := hbw3.trans (hb35.mono (by omega))
  have nc5 := hide ((unhide nc3).below (hb35.mono (by omega)))
  have na5 := hide ((unhide na3).below (hb35.mono (by omega)))
  have nc5' := hide (nc'.below hb5)
  have na5' := hide (na'.below hb5)
  clear Hc2 nc' na' nf' t0 t1 nc3 na3
  by_cases hE : playE z pol sc.length = 0
  · obtain ⟨p0, p1, p2, p3, p4, p5, p6⟩ := plIs_front hnl (unhide hIs) (unhide hIs') hE
    have Hco : Hid (∀ w', Below W5.heap.size W5 w' → Calls Try.prog 14 #[.slice ac' C'.length cc', .slice ac C.length cc] w' fun e w2 => e = .returned (.bool true) ∧ Below w'.heap.size w' w2) := fun w' hw' => codes_c ac' ac cc' cc C' C W5.heap.size w' (((unhide nc5').mono (by omega)).below hw') (((unhide nc5).mono (by omega)).below hw') hw'.size (fun k x hx => by
      rw [← p5, List.getElem?_take] at hx
      split at hx
      · exact hx
      · cases hx) (by omega)
    have Hin : Hid (∀ w', Below W5.heap.size W5 w' → Calls Try.prog 15 #[.slice aa' A'.length ca', .slice aa n ca] w' fun e w2 => e = .returned (.bool true) ∧ Below w'.heap.size w' w2) := fun w' hw' => by
      have h1 := ((unhide na5').mono (show w4.heap.size ≤ W5.heap.size by omega)).below hw'
      have h2 := (((unhide na5).mono (show w2.heap.size ≤ W5.heap.size by omega)).below hw').take n
      rw [p6] at h2
      have := ints_c aa' aa ca' ca A' W5.heap.size w' h1 h2 hw'.size
      rw [p4] at this ⊢
      exact this
    have d1 : ((C.length : Int) == (sc.length : Int)) = true := by simp; omega
    have d2 : ((A.length : Int) == (sc.length : Int)) = true := by simp; omega
    have d3 : ((C'.length : Int) == (n : Int)) = true := by simp; omega
    have d4 : n ≤ ca := by omega
    have G0 := cell_regrown t0'
    have G1 := cell_regrown t1'
    have G2 := cell_regrown u0
    have G3 := cell_regrown u1
    rw [hE, p0]
    clear hE p0 p1 p2 p3 p4 p5 p6 hIs hIs' nc5 na5 nc5' na5' t0' t1' u0 u1
    go_wp2
    refine wp_region_quiet_below (by kernel_rfl) (by kernel_rfl) ?_
    repeat (go_big_quiet_step (first | exact Calls.regrown_of (unhide Hco _ (below_regrown W5 _ _)) | exact Calls.regrown_of (unhide Hin _ (below_regrown W5 _ _))))
    refine wpQuiet_nil ?_
    intro _ hw'
    obtain ⟨⟨dq, osq⟩, hw''⟩ := hw'
    subst hw''
    have hbq := hbw5.trans ((below_regrown W5 dq osq).mono (by omega))
    clear G0 G1 G2 G3
    go_wp2
    go_ret
    exact ⟨rfl, hbq⟩
  · generalize playE z pol sc.length = E at *
    generalize playE z pol (sc.take n).length = E' at *
    have d0 : (E != 0) = true := by simpa using hE
    clear hE
    go_wp2
    go_ret
    exact ⟨rfl, hbw5⟩

end Go.Proofs.Ytgbbcfngncofgaa
