/- Merged texts: Sm Wa Wb Uc Ux Va Pe Pf Pg Vb Si Sj Sk Sn Vc. -/
import Derived.Test.YtoelnioifjeakaaProg
import Derived.Test.YtoelnioifjeakaaBuddyPlaysA
import Derived.Deep.QuietTactic
import Derived.Laws.StructEq
import Derived.OwnWalk
import Derived.Shelf.SlSortCmp.WholeK
import Derived.Shelf.SlSortCmp.NoneTotal
import Derived.Shelf.Small.Bits
import Derived.Ground.SlsfProg

/- Walks: Play, where something is wrong. -/
namespace Go.Proofs.Ytoelnioifjeakaa
set_option linter.unusedSimpArgs false
set_option linter.unusedVariables false
open Go.RowKit

/-- Which error Play tells. -/
def playE (z : Int) (n : Nat) : Int := if z < 0 ∨ 7 < z then 3 else if 100 < n then 1 else 0

def codesL (L : Nat) (sc : List (Int × Int)) (k : Nat) : List Int := (List.range k).map (codeK L sc)
def atsL (L : Nat) (sc : List (Int × Int)) (k : Nat) : List Int := (List.range k).map fun i => ((atK L sc i : Nat) : Int)
theorem codesL_succ (L : Nat) (sc : List (Int × Int)) (k : Nat) : codesL L sc (k + 1) = codesL L sc k ++ [codeK L sc k] := by simp [codesL, List.range_succ]
theorem atsL_succ (L : Nat) (sc : List (Int × Int)) (k : Nat) : atsL L sc (k + 1) = atsL L sc k ++ [((atK L sc k : Nat) : Int)] := by simp [atsL, List.range_succ]
theorem codesL_len (L : Nat) (sc : List (Int × Int)) (k : Nat) : (codesL L sc k).length = k := by simp [codesL]
theorem atsL_len (L : Nat) (sc : List (Int × Int)) (k : Nat) : (atsL L sc k).length = k := by simp [atsL]

/-- What Play tells, plainly. -/
def PlIs (z : Int) (sc : List (Int × Int)) (C A : List Int) (F : List (Nat × Nat)) : Prop :=
  (playE z sc.length ≠ 0 → C = [] ∧ A = [] ∧ F = []) ∧ (playE z sc.length = 0 → C = codesL z.toNat sc sc.length ∧ A = atsL z.toNat sc sc.length ∧ F = (stK z.toNat sc sc.length).bl z.toNat)

/-- What Play tells, in memory. -/
def PlRes (z : Int) (sc : List (Int × Int)) (B0 : Nat) (e : Ending) (W : World) : Prop :=
  ∃ ac cc aa ca af cf C A F, e = .returned (.tuple #[.agg #[.slice ac C.length cc, .slice aa A.length ca, .slice af F.length cf], .int .i64 (playE z sc.length)]) ∧ Nums W.heap.size W ac C ∧ Nums W.heap.size W aa A ∧ Blks W.heap.size W af F ∧ Hid (PlIs z sc C A F) ∧ A.length ≤ ca ∧ Hid (∀ x : Addr, (ac = some x ∨ aa = some x ∨ af = some x) → B0 ≤ x.block)

theorem plRes_bad {z : Int} {sc : List (Int × Int)} {B0 : Nat} {W : World} {E : Int} (h : playE z sc.length = E) (hE : E ≠ 0) : PlRes z sc B0 (.returned (.tuple #[.agg #[.slice none 0 0, .slice none 0 0, .slice none 0 0], .int .i64 E])) W :=
  ⟨none, 0, none, 0, none, 0, [], [], [], by rw [h]; rfl, nums_nil _ _ _, nums_nil _ _ _, blks_nil _ _ _, ⟨fun _ => ⟨rfl, rfl, rfl⟩, fun h0 => absurd (h.symm.trans h0) hE⟩, Nat.le_refl _, fun x hx => (by rcases hx with hx | hx | hx <;> cases hx)⟩

theorem ownsRow_succ {W : World} {base : Nat} {e : TypeId} {size : Nat} {v : Value} {k : Nat} {xs : List Value} (h : W.ownsRow base e size v (k + 1) xs) : ∃ g cap, v = .slice (some ⟨g, 0, none⟩) (k + 1) cap := by
  rcases h.2 with ⟨_, h⟩ | ⟨g, cap, cur, rfl, _⟩
  · omega
  · exact ⟨g, cap, rfl⟩

theorem cell27_0 {W : World} {tb : Nat} {x y z : Value} (h : W.heap[tb]? = some (.cells #[x, y, z] 27)) : W.cell? ⟨tb, 0, none⟩ = some x := by rw [cell_of_row W tb 0 _ 27 (0, 0) h]; rfl
theorem cell27_1 {W : World} {tb : Nat} {x y z : Value} (h : W.heap[tb]? = some (.cells #[x, y, z] 27)) : W.cell? ⟨tb, 1, none⟩ = some y := by rw [cell_of_row W tb 1 _ 27 (0, 0) h]; rfl
theorem cell27_2 {W : World} {tb : Nat} {x y z : Value} (h : W.heap[tb]? = some (.cells #[x, y, z] 27)) : W.cell? ⟨tb, 2, none⟩ = some z := by rw [cell_of_row W tb 2 _ 27 (0, 0) h]; rfl

set_option maxRecDepth 100000 in
set_option maxHeartbeats 2000000 in
theorem play_bad (z : Int) (a : Option Addr) (c : Nat) (sc : List (Int × Int)) (w : World) (hl : sc.length ≤ 9223372036854775807) (hE : playE z sc.length ≠ 0) :
    Calls Try.prog 8 #[.int .i64 z, .slice a sc.length c] w fun e w' => PlRes z sc w.heap.size e w' ∧ Below w.heap.size w w' := by
  have hbz : Below w.heap.size w (w.alloc (.cells #[.slice none 0 0, .slice none 0 0, .slice none 0 0] 27)) := (Below.refl _ _).alloc (Nat.le_refl _) _
  by_cases hz : z < 0 ∨ 7 < z
  · have HE : Hid (playE z sc.length = 3) := by show _ = _; simp [playE, hz]
    by_cases hz1 : z < 0
    · have d0 : decide (z < 0) = true := decide_eq_true hz1
      clear hz1 hz
      go_enter Try.func8, Try.ntmps8
      go_wp2
      refine bodyPost_ret (v := .tuple #[.agg #[.slice none 0 0, .slice none 0 0, .slice none 0 0], .int .i64 3]) (by simp [results, Try.results8, go_sem]) rfl ⟨plRes_bad (unhide HE) (by decide), ?_⟩
      first | exact hbz | exact ((hbz.setCell (p := ⟨w.heap.size, 0, none⟩) (Nat.le_refl _) _).setCell (p := ⟨w.heap.size, 1, none⟩) (Nat.le_refl _) _).setCell (p := ⟨w.heap.size, 2, none⟩) (Nat.le_refl _) _
    · have d0 : decide (z < 0) = false := decide_eq_false hz1
      have d1' : decide (7 < z) = true := decide_eq_true (by omega)
      clear hz1 hz
      go_enter Try.func8, Try.ntmps8
      go_wp2
      refine bodyPost_ret (v := .tuple #[.agg #[.slice none 0 0, .slice none 0 0, .slice none 0 0], .int .i64 3]) (by simp [results, Try.results8, go_sem]) rfl ⟨plRes_bad (unhide HE) (by decide), ?_⟩
      first | exact hbz | exact ((hbz.setCell (p := ⟨w.heap.size, 0, none⟩) (Nat.le_refl _) _).setCell (p := ⟨w.heap.size, 1, none⟩) (Nat.le_refl _) _).setCell (p := ⟨w.heap.size, 2, none⟩) (Nat.le_refl _) _
  · have d0 : decide (z < 0) = false := decide_eq_false (by omega)
    have d1' : decide (7 < z) = false := decide_eq_false (by omega)
    have hn : 100 < sc.length := by
      refine Classical.byContradiction fun h => hE ?_
      unfold playE
      rw [if_neg hz, if_neg h]
    have HE : Hid (playE z sc.length = 1) := by
      show _ = _
      unfold playE
      rw [if_neg hz, if_pos hn]
    have d2 : decide (100 < sc.length) = true := decide_eq_true hn
    clear hz hE
    go_enter Try.func8, Try.ntmps8
    go_wp2
    refine bodyPost_ret (v := .tuple #[.agg #[.slice none 0 0, .slice none 0 0, .slice none 0 0], .int .i64 1]) (by simp [results, Try.results8, go_sem]) rfl ⟨plRes_bad (unhide HE) (by decide), ?_⟩
    first | exact hbz | exact ((hbz.setCell (p := ⟨w.heap.size, 0, none⟩) (Nat.le_refl _) _).setCell (p := ⟨w.heap.size, 1, none⟩) (Nat.le_refl _) _).setCell (p := ⟨w.heap.size, 2, none⟩) (Nat.le_refl _) _

end Go.Proofs.Ytoelnioifjeakaa

/- Walks: power, twice; what a free piece is. -/
namespace Go.Proofs.Ytoelnioifjeakaa
set_option linter.unusedSimpArgs false
set_option linter.unusedVariables false
open Go.RowKit

theorem p2_succ (k : Nat) : p2 (k + 1) = p2 k + p2 k := by unfold p2; rw [Nat.pow_succ]; omega
theorem p2_lv {n k : Nat} (h : k < lv n) : p2 k < n := by
  have h1 := lv_least (n := n) (by omega)
  have h2 : 2 ^ k ≤ 2 ^ (lv n - 1) := Nat.pow_le_pow_right (by decide) (by omega)
  unfold p2; omega
theorem lv_p2 (k : Nat) : lv (2 ^ k) = k := by
  have h1 := lv_le (n := 2 ^ k) (k := k) (Nat.le_refl _)
  have h2 := lv_ge (2 ^ k)
  refine Nat.le_antisymm h1 (Classical.byContradiction fun h => ?_)
  have := Nat.pow_lt_pow_right (a := 2) (by decide) (show lv (2 ^ k) < k by omega)
  omega

set_option maxHeartbeats 1000000 in
/-- power tells the least power of two. -/
theorem power_c (n : Nat) (h1 : 1 ≤ n) (hn : n ≤ 256) (w : World) : Calls Try.prog 13 #[.int .i64 (n : Nat)] w fun e w' => e = .returned (.int .i64 (p2 (lv n) : Nat)) ∧ w' = w := by
  have hlv : lv n ≤ 8 := lv_le (k := 8) hn
  have Hge := hide (show n ≤ p2 (lv n) from lv_ge n)
  have Hlt : Hid (∀ k, k < lv n → p2 k < n) := fun k h => p2_lv h
  have H0 : Hid (p2 0 = 1) := rfl
  go_enter Try.func13, Try.ntmps13
  go_wp2
  go_loop [3] (fun p => ∃ k : Nat, k ≤ lv n ∧ p = .int .i64 (p2 k : Nat)) (fun p => 512 - (intOf p).toNat)
  case atStart => exact ⟨0, Nat.zero_le _, by rw [unhide H0]; rfl⟩
  case round =>
    obtain ⟨k, hk, rfl⟩ := hrel
    have hp := p2_le (k := k) (by omega)
    have hpos := p2_pos k
    by_cases hlt : k < lv n
    · have h3 := unhide Hlt k hlt
      have Hs := hide (p2_succ k)
      have d1 : decide (p2 k < n) = true := decide_eq_true h3
      have d2 : decide (p2 k ≤ 256) = true := decide_eq_true hp
      go_wp2
      go_round
      case rel => exact ⟨k + 1, hlt, by rw [unhide Hs]; go_num⟩
      case measure => simp [intOf]; omega
    · obtain rfl : k = lv n := by omega
      have h3 := unhide Hge
      have d1 : decide (p2 (lv n) < n) = false := decide_eq_false (by omega)
      go_wp2
      go_ret
      exact ⟨rfl, rfl⟩

set_option maxHeartbeats 1000000 in
/-- twice tells a power of two. -/
theorem twice_c (n : Nat) (hn : n ≤ 8) (w : World) : Calls Try.prog 12 #[.int .i64 (n : Nat)] w fun e w' => e = .returned (.int .i64 (p2 n : Nat)) ∧ w' = w := by
  have H0 : Hid (p2 0 = 1) := rfl
  go_enter Try.func12, Try.ntmps12
  go_wp2
  go_loop [3, 4] (fun p i => ∃ k : Nat, k ≤ n ∧ i = .int .i64 k ∧ p = .int .i64 (p2 k : Nat)) (fun _ i => n - (intOf i).toNat)
  case atStart => exact ⟨0, Nat.zero_le _, rfl, by rw [unhide H0]; rfl⟩
  case round =>
    obtain ⟨k, hk, rfl, rfl⟩ := hrel
    have hp := p2_le (k := k) (by omega)
    by_cases hlt : k < n
    · have Hs := hide (p2_succ k)
      go_wp2
      go_round
      case rel => exact ⟨k + 1, hlt, by go_num, by rw [unhide Hs]; go_num⟩
      case measure => simp [intOf]; omega
    · obtain rfl : k = n := by omega
      go_wp2
      go_ret
      exact ⟨rfl, rfl⟩

/-- Two buddies are not both free. -/
theorem mx_two {T : Nat → Bool} {L k p : Nat} (h : Mx T L k p) (h' : Mx T L k (bud p)) : False := by
  by_cases hk : k < L
  · obtain ⟨w, hw, hT⟩ := h.2.2.2 hk
    rw [dv1] at hw
    rcases bud_two hw with e | e
    · rw [h.2.2.1 w e] at hT; cases hT
    · rw [h'.2.2.1 w e] at hT; cases hT
  · obtain rfl : k = L := by have := h.1; omega
    have h1 := h.2.1
    have h2 := h'.2.1
    simp at h1 h2
    have := bud_ne p
    omega

/-- What a free piece is. -/
structure PieceOk (F : List (Nat × Nat)) (P m : Nat) (t : Int) : Prop where
  pos : 1 ≤ m
  le : P + m ≤ 256
  pw : p2 (lv m) = m
  rem : P % m = 0
  par : (P / m % 2 = 1 ∧ m ≤ P ∧ t = (P : Int) - (m : Int)) ∨ (P / m % 2 = 0 ∧ t = (P : Int) + (m : Int))
  twin : ∀ c ∈ F, c.2 = m → (c.1 : Int) ≠ t

theorem piece_ok {L : Nat} (hL : L ≤ 7) (T : Nat → Bool) {P m : Nat} (h : (P, m) ∈ pcs T L 0) : ∃ t, PieceOk (pcs T L 0) P m t := by
  obtain ⟨k, p, rfl, rfl, hM⟩ := (mem_iff T L P m).1 h
  have h1 := hM.lt
  have h2 : 2 ^ L ≤ 256 := p2_le (k := L) (by omega)
  have h0 := two_pos k
  have hd : p * 2 ^ k / 2 ^ k = p := piece_first k p
  have hno : ∀ c ∈ pcs T L 0, c.2 = 2 ^ k → c.1 ≠ bud p * 2 ^ k := fun c hc e e' => by
    refine mx_two hM ((mem_at T L k (bud p)).1 ?_)
    have e2 : c = (bud p * 2 ^ k, 2 ^ k) := Prod.ext e' e
    rw [e2] at hc; exact hc
  refine ⟨((bud p * 2 ^ k : Nat) : Int), h0, by omega, ?_, Nat.mul_mod_left _ _, ?_, fun c hc e e' => hno c hc e (by omega)⟩
  · rw [lv_p2]; rfl
  · rw [hd]
    unfold bud
    by_cases hp : p % 2 = 0
    · rw [if_pos hp, Nat.succ_mul]
      exact .inr ⟨hp, by omega⟩
    · rw [if_neg hp]
      have e : p = p - 1 + 1 := by omega
      have e2 : p * 2 ^ k = (p - 1) * 2 ^ k + 2 ^ k := by conv => lhs; rw [e, Nat.succ_mul]
      exact .inl ⟨by omega, by omega, by omega⟩

end Go.Proofs.Ytoelnioifjeakaa

/- Walks: codes, Ints; what Play tells of a shorter script. -/
namespace Go.Proofs.Ytoelnioifjeakaa
set_option linter.unusedSimpArgs false
set_option linter.unusedVariables false
open Go.RowKit

theorem playE_ok {z : Int} {n : Nat} (h : playE z n = 0) : 0 ≤ z ∧ z ≤ 7 ∧ n ≤ 100 := by
  unfold playE at h
  split at h
  · cases h
  · split at h
    · cases h
    · omega

/-- What is told of a play that may be. -/
theorem PlIs.good {z : Int} {sc : List (Int × Int)} {C A : List Int} {F : List (Nat × Nat)} (h : PlIs z sc C A F) (hE : playE z sc.length = 0) :
    C.length = sc.length ∧ A.length = sc.length ∧ F = (stK z.toNat sc sc.length).bl z.toNat ∧ F.length ≤ 256 ∧ ∀ x ∈ F, x.1 + x.2 ≤ 256 := by
  obtain ⟨h1, h2, h3⟩ := playE_ok hE
  obtain ⟨rfl, rfl, rfl⟩ := h.2 hE
  have hO := ok_stK z.toNat sc sc.length
  have hl := bl_len z.toNat (stK z.toNat sc sc.length)
  have h4 : 2 ^ z.toNat ≤ 256 := p2_le (k := z.toNat) (by omega)
  exact ⟨codesL_len _ _ _, atsL_len _ _ _, rfl, by omega, fun x hx => by have := (hO.ap.1 x hx).2; omega⟩

set_option maxRecDepth 100000 in
set_option maxHeartbeats 2000000 in
theorem codes_c (a a' : Option Addr) (c c' : Nat) (l l' : List Int) (B : Nat) (w : World) (h : Nums B w a l) (h' : Nums B w a' l') (hB : B ≤ w.heap.size) (hp : ∀ (k : Nat) (x : Int), l[k]? = some x → l'[k]? = some x) (hle : l.length ≤ l'.length) :
    Calls Try.prog 15 #[.slice a l.length c, .slice a' l'.length c'] w fun e w' => e = .returned (.bool true) ∧ Below w.heap.size w w' := by
  have hl := h.1
  have hl' := h'.1
  have d0 : decide (l'.length < l.length) = false := decide_eq_false (by omega)
  have Hp := hide hp
  clear hp
  go_enter Try.func15, Try.ntmps15
  go_wp2
  go_loopw [5] (fun i wr => ∃ k : Nat, k ≤ l.length ∧ i = .int .i64 k ∧ Below w.heap.size w wr) (fun i _ => l.length - (intOf i).toNat)
  case atStart => exact ⟨0, Nat.zero_le _, rfl, Below.refl _ _⟩
  case round =>
    obtain ⟨k, hk, rfl, hb⟩ := hrel
    have hsz := hb.size
    by_cases hlt : k < l.length
    · have hx : l[k]? = some l[k] := List.getElem?_eq_getElem hlt
      obtain ⟨b, off, rfl, hbB, x0⟩ := (h.below (hb.mono hB)).at hx
      obtain ⟨b', off', rfl, hbB', y0⟩ := (h'.below (hb.mono hB)).at (unhide Hp k _ hx)
      have hkI : (k : Int) < (l.length : Int) := by omega
      have hkI' : (k : Int) < (l'.length : Int) := by omega
      have hq : b < wr.heap.size := by omega
      have hq' : b' < wr.heap.size := by omega
      generalize l[k] = x at *
      have d1 : (x != x) = false := by simp
      clear hx
      go_wp2
      go_quiet (fail)
      have hbn := below_drewN hb nq
      clear x0 y0 hq hq'
      generalize wr.drewN nq = wq at *
      go_wp2
      go_roundw
      case rel => exact ⟨k + 1, by omega, by go_num, hbn⟩
      case measure => simp [intOf]; omega
    · obtain rfl : k = l.length := by omega
      go_wp2
      go_ret
      exact ⟨rfl, hb⟩

set_option maxRecDepth 100000 in
set_option maxHeartbeats 2000000 in
theorem ints_c (a a' : Option Addr) (c c' : Nat) (l : List Int) (B : Nat) (w : World) (h : Nums B w a l) (h' : Nums B w a' l) (hB : B ≤ w.heap.size) :
    Calls Try.prog 16 #[.slice a l.length c, .slice a' l.length c'] w fun e w' => e = .returned (.bool true) ∧ Below w.heap.size w w' := by
  have hl := h.1
  have d0 : ((l.length : Int) != (l.length : Int)) = false := by simp
  go_enter Try.func16, Try.ntmps16
  go_wp2
  go_loopw [5] (fun i wr => ∃ k : Nat, k ≤ l.length ∧ i = .int .i64 k ∧ Below w.heap.size w wr) (fun i _ => l.length - (intOf i).toNat)
  case atStart => exact ⟨0, Nat.zero_le _, rfl, Below.refl _ _⟩
  case round =>
    obtain ⟨k, hk, rfl, hb⟩ := hrel
    have hsz := hb.size
    by_cases hlt : k < l.length
    · have hx : l[k]? = some l[k] := List.getElem?_eq_getElem hlt
      obtain ⟨b, off, rfl, hbB, x0⟩ := (h.below (hb.mono hB)).at hx
      obtain ⟨b', off', rfl, hbB', y0⟩ := (h'.below (hb.mono hB)).at hx
      have hkI : (k : Int) < (l.length : Int) := by omega
      have hq : b < wr.heap.size := by omega
      have hq' : b' < wr.heap.size := by omega
      generalize l[k] = x at *
      have d1 : (x != x) = false := by simp
      clear hx
      go_wp2
      go_quiet (fail)
      have hbn := below_drewN hb nq
      clear x0 y0 hq hq'
      generalize wr.drewN nq = wq at *
      go_wp2
      go_roundw
      case rel => exact ⟨k + 1, by omega, by go_num, hbn⟩
      case measure => simp [intOf]; omega
    · obtain rfl : k = l.length := by omega
      go_wp2
      go_ret
      exact ⟨rfl, hb⟩

theorem Asks.take {B : Nat} {w : World} {a : Option Addr} {l : List (Int × Int)} (h : Asks B w a l) (n : Nat) : Asks B w a (l.take n) := by
  refine ⟨by have := h.1; simp; omega, fun hne => ?_⟩
  obtain ⟨b, off, rfl, hB, hc⟩ := h.2 (by rintro rfl; simp at hne)
  refine ⟨b, off, rfl, hB, fun k v hk => hc k v ?_⟩
  rw [List.getElem?_take] at hk
  split at hk
  · exact hk
  · cases hk
theorem Nums.take {B : Nat} {w : World} {a : Option Addr} {l : List Int} (h : Nums B w a l) (n : Nat) : Nums B w a (l.take n) := by
  refine ⟨by have := h.1; simp; omega, fun hne => ?_⟩
  obtain ⟨b, off, rfl, hB, hc⟩ := h.2 (by rintro rfl; simp at hne)
  refine ⟨b, off, rfl, hB, fun k v hk => hc k v ?_⟩
  rw [List.getElem?_take] at hk
  split at hk
  · exact hk
  · cases hk

theorem bounds_u8' {n : Int} (h : (Lit.int .u8 n).wf = true) : 0 ≤ n ∧ n ≤ 255 := by
  simp [Lit.wf, IntKind.min, IntKind.max, IntKind.signed, IntKind.bits] at h
  omega

/-- What is asked later changes nothing. -/
theorem front_same {L : Nat} {sc sc' : List (Int × Int)} {n : Nat} (h : ∀ i, i < n → sc.getD i (0, 0) = sc'.getD i (0, 0)) {k : Nat} (hk : k ≤ n) : codesL L sc k = codesL L sc' k ∧ atsL L sc k = atsL L sc' k ∧ stK L sc k = stK L sc' k := by
  have hst : ∀ i, i ≤ n → stK L sc i = stK L sc' i := fun i hi => stepS_same L (fun j hj => h j (by omega))
  refine ⟨?_, ?_, hst k hk⟩
  · unfold codesL
    refine List.map_congr_left fun i hi => ?_
    have := List.mem_range.1 hi
    unfold codeK
    rw [hst i (by omega), h i (by omega)]
  · unfold atsL
    refine List.map_congr_left fun i hi => ?_
    have := List.mem_range.1 hi
    unfold atK
    rw [hst i (by omega), h i (by omega)]
theorem codesL_take (L : Nat) (sc : List (Int × Int)) (n k : Nat) (h : k ≤ n) : (codesL L sc n).take k = codesL L sc k := by
  unfold codesL
  rw [← List.map_take, List.take_range, Nat.min_eq_left h]
theorem atsL_take (L : Nat) (sc : List (Int × Int)) (n k : Nat) (h : k ≤ n) : (atsL L sc n).take k = atsL L sc k := by
  unfold atsL
  rw [← List.map_take, List.take_range, Nat.min_eq_left h]
theorem getD_take {α : Type} {l : List α} {n i : Nat} {d : α} (h : i < n) : (l.take n).getD i d = l.getD i d := by
  rw [List.getD_eq_getElem?_getD, List.getD_eq_getElem?_getD, List.getElem?_take, if_pos h]

theorem plIs_front {z : Int} {sc : List (Int × Int)} {n : Nat} {C A C' A' : List Int} {F F' : List (Nat × Nat)} (hn : n ≤ sc.length) (h : PlIs z sc C A F) (h' : PlIs z (sc.take n) C' A' F') (hE : playE z sc.length = 0) :
    playE z (sc.take n).length = 0 ∧ C.length = sc.length ∧ A.length = sc.length ∧ C'.length = n ∧ A'.length = n ∧ C.take n = C' ∧ A.take n = A' := by
  obtain ⟨e1, e2, e3⟩ := playE_ok hE
  have hE' : playE z (sc.take n).length = 0 := by
    unfold playE
    rw [if_neg (by omega), if_neg (by simp; omega)]
  obtain ⟨rfl, rfl, rfl⟩ := h.2 hE
  obtain ⟨rfl, rfl, rfl⟩ := h'.2 hE'
  have hl : (sc.take n).length = n := by simp; omega
  have hf := front_same (L := z.toNat) (sc := sc.take n) (sc' := sc) (n := n) (fun i hi => getD_take hi) (Nat.le_refl n)
  rw [hl]
  refine ⟨by rw [hl] at hE'; exact hE', codesL_len _ _ _, atsL_len _ _ _, codesL_len _ _ _, atsL_len _ _ _, ?_, ?_⟩
  · rw [codesL_take _ _ _ _ hn, hf.1]
  · rw [atsL_take _ _ _ _ hn, hf.2.1]

end Go.Proofs.Ytoelnioifjeakaa

/- Scripts that are made; Blocks. -/
namespace Go.Proofs.Ytoelnioifjeakaa
set_option linter.unusedSimpArgs false
set_option linter.unusedVariables false
open Go.RowKit

/-- The cells of asks. -/
def cellsQ (l : List (Int × Int)) : List Value := l.flatMap fun x => [.int .i64 x.1, .int .i64 x.2]
theorem cellsQ_snoc (l : List (Int × Int)) (a n : Int) : cellsQ (l ++ [(a, n)]) = cellsQ l ++ [.int .i64 a, .int .i64 n] := by simp [cellsQ]
theorem cellsQ_len : ∀ (l : List (Int × Int)), (cellsQ l).length = l.length * 2
  | [] => rfl
  | x :: l => by have := cellsQ_len l; simp only [cellsQ, List.flatMap_cons, List.length_append, List.length_cons, List.length_nil] at *; omega
theorem cellsQ_get : ∀ (l : List (Int × Int)) (k : Nat) (x : Int × Int), l[k]? = some x → (cellsQ l)[k * 2]? = some (.int .i64 x.1) ∧ (cellsQ l)[k * 2 + 1]? = some (.int .i64 x.2)
  | [], _, _, h => by simp at h
  | x :: l, 0, v, h => by simp at h; subst h; simp [cellsQ]
  | x :: l, k + 1, v, h => by
    have := cellsQ_get l k v (by simpa using h)
    have e1 : (k + 1) * 2 = k * 2 + 1 + 1 := by omega
    rw [e1]
    simp only [cellsQ, List.flatMap_cons, List.cons_append, List.nil_append, List.getElem?_cons_succ]
    exact this
theorem cellsQ_at : ∀ (l : List (Int × Int)) (j : Nat) (u : Value), (cellsQ l)[j]? = some u → ∃ k x, l[k]? = some x ∧ ((j = k * 2 ∧ u = .int .i64 x.1) ∨ (j = k * 2 + 1 ∧ u = .int .i64 x.2))
  | [], j, u, h => by simp [cellsQ] at h
  | x :: l, 0, u, h => by
    simp [cellsQ] at h
    exact ⟨0, x, rfl, .inl ⟨rfl, h.symm⟩⟩
  | x :: l, 1, u, h => by
    simp [cellsQ] at h
    exact ⟨0, x, rfl, .inr ⟨rfl, h.symm⟩⟩
  | x :: l, j + 2, u, h => by
    simp only [cellsQ, List.flatMap_cons, List.cons_append, List.nil_append, List.getElem?_cons_succ] at h
    obtain ⟨k, y, hk, hy⟩ := cellsQ_at l j u h
    refine ⟨k + 1, y, by simpa using hk, ?_⟩
    rcases hy with ⟨h1, h2⟩ | ⟨h1, h2⟩
    · exact .inl ⟨by omega, h2⟩
    · exact .inr ⟨by omega, h2⟩
theorem cellsQ_one {u : Value} {l : List (Int × Int)} (h : u ∈ cellsQ l) : u.oneCell' = true := by
  simp only [cellsQ, List.mem_flatMap] at h
  obtain ⟨x, _, hx⟩ := h
  simp at hx
  rcases hx with rfl | rfl <;> rfl

theorem Asks.cells {B : Nat} {w : World} {a : Option Addr} {l : List (Int × Int)} (h : Asks B w a l) (hne : 0 < (cellsQ l).length) : ∃ ad, a = some ad ∧ ∀ j v, (cellsQ l)[j]? = some v → w.cell? (ad.add j) = some v := by
  obtain ⟨b, off, rfl, hB, hc⟩ := h.2 (by rintro rfl; simp [cellsQ] at hne)
  refine ⟨_, rfl, fun j v hj => ?_⟩
  obtain ⟨k, x, hk, hx⟩ := cellsQ_at l j v hj
  obtain ⟨h1, h2⟩ := hc k x hk
  rw [Addr.add_lit]
  rcases hx with ⟨rfl, rfl⟩ | ⟨rfl, rfl⟩
  · exact h1
  · rw [← Nat.add_assoc]; exact h2

theorem asks_of_owns {w : World} {base g cap : Nat} {l : List (Int × Int)} (h : w.ownsRow base 39 2 (.slice (some ⟨g, 0, none⟩) l.length cap) l.length (cellsQ l)) (hs : l.length ≤ 9223372036854775807) : Asks w.heap.size w (some ⟨g, 0, none⟩) l := by
  refine ⟨hs, fun _ => ⟨g, 0, rfl, (h.lt g rfl).2, fun k x hk => ?_⟩⟩
  have hlt := (List.getElem?_eq_some_iff.1 hk).1
  obtain ⟨h1, h2⟩ := cellsQ_get l k x hk
  exact ⟨by rw [Nat.zero_add, h.cellAt _ (by omega)]; exact h1, by rw [Nat.zero_add, h.cellAt _ (by omega)]; exact h2⟩

/-- append of a slice that may be nil to a row of the call's own. -/
theorem run_append_q (w : World) (base : Nat) (ty : TypeId) (g cap n : Nat) (xs : List Value) (hown : w.ownsRow base 39 2 (.slice (some ⟨g, 0, none⟩) n cap) n xs) (sp : Option Addr) (m c : Nat) (cs : List Value) (hl : cs.length = m * 2)
    (hpos : 0 < cs.length → ∃ ad, sp = some ad ∧ ∀ j v, cs[j]? = some v → w.cell? (ad.add j) = some v) (h1 : ∀ v ∈ cs, v.oneCell' = true) (hs : n + m ≤ 1000) (hbase : base ≤ w.heap.size) :
    ∃ v' w', (Builtin.append_ #[22, 22] ty #[.slice (some ⟨g, 0, none⟩) n cap, .slice sp m c]).run Try.prog w = .ok v' w' ∧ w'.ownsRow base 39 2 v' (n + m) (xs ++ cs) ∧ w.grownBy w' (some g) ∧ (∃ g' cap', v' = .slice (some ⟨g', 0, none⟩) (n + m) cap') := by
  obtain ⟨i0, hi0, hz0, hz1, hz2⟩ := info_parts Try.info39
  by_cases h0 : cs.length = 0
  · obtain rfl : cs = [] := List.eq_nil_of_length_eq_zero h0
    have hm : m = 0 := by simp at hl; omega
    subst hm
    have hnc : n ≤ cap := by
      rcases hown.2 with ⟨e, _⟩ | ⟨g', cap', cur, e, _, _, h3, _⟩
      · cases e
      · injection e with _ _ e; omega
    have hld : ∀ (x : Addr), (loadCells x 0).run Try.prog w = .ok #[] w := fun x => by simpa using run_loadCells_list (P := Try.prog) w x [] (by simp)
    refine ⟨_, w, ?_, by rw [List.append_nil]; exact hown, ⟨rfl, rfl, rfl, Nat.le_refl _, fun _ _ _ => rfl⟩, ⟨g, cap, rfl⟩⟩
    cases sp <;> simp [Builtin.append_, run_underlying Try.underlying22, sizeOf, typeInfo, hi0, hz1, Builtin.lenOf, hnc, Builtin.firstCells, storeCells, hld]
  · obtain ⟨ad, rfl, hsrc⟩ := hpos (by omega)
    obtain ⟨v', w', hr, h2, h3, h4⟩ := run_append_own (P := Try.prog) w base 22 ty 39 i0 _ 2 16 Try.underlying22 hi0 hz0 hz1 hz2 rfl (by decide) _ n xs hown ad m c cs hl hsrc h1 (by simp only [maxLen]; omega) (by omega) hbase
    refine ⟨v', w', hr, h2, h3, ?_⟩
    obtain ⟨k, hk⟩ : ∃ k, n + m = k + 1 := ⟨n + m - 1, by omega⟩
    rw [hk] at h2 ⊢
    exact ownsRow_succ h2

theorem eql_bin (a1 a2 n1 n2 : Int) (w : World) : (Op.equalIn 10000 37 (.agg #[.int .i64 a1, .int .i64 n1]) (.agg #[.int .i64 a2, .int .i64 n2])).run Try.prog w = .ok (a1 == a2 && n1 == n2) w := by
  have u3 := Try.underlying3
  have a3 := Try.isAgg3
  have z3 := Try.sizeOf3
  have hS : Try.prog.underlying 37 = some (.struct (Try.prog.fieldsOf 37)) := by kernel_rfl
  have hp : Try.prog.stoodInHeld 37 = false := by kernel_rfl
  rw [show (10000 : Nat) = 9999 + 1 from rfl, run_equalIn_agg w 9999 37 _ _ hS hp]
  simp only [Program.fieldsOf, Try.underlying37]
  go_simp
  by_cases h1 : a1 = a2 <;> by_cases h2 : n1 = n2 <;> simp [h1, h2]
theorem neq_b (a1 a2 n1 n2 : Int) (w : World) : (binOp .neq 37 (.agg #[.int .i64 a1, .int .i64 n1]) (.agg #[.int .i64 a2, .int .i64 n2])).run Try.prog w = .ok (.bool (!(a1 == a2 && n1 == n2))) w := by
  rw [run_neq_struct, eql_bin]; rfl

set_option maxRecDepth 100000 in
set_option maxHeartbeats 2000000 in
theorem blocks_c (a a' : Option Addr) (c c' : Nat) (l l' : List (Nat × Nat)) (B : Nat) (w : World) (h : Blks B w a l) (h' : Blks B w a' l') (hB : B ≤ w.heap.size) :
    Calls Try.prog 14 #[.slice a l.length c, .slice a' l'.length c'] w fun e w' => e = .returned (.bool (decide (l = l'))) ∧ Below w.heap.size w w' := by
  have hneq := neq_b
  have hl := h.1
  have hl' := h'.1
  by_cases hL : l.length = l'.length
  · have d0 : ((l.length : Int) != (l'.length : Int)) = false := by simp; omega
    have HL := hide hL
    have hLI : (l.length : Int) ≤ (l'.length : Int) := by omega
    clear hL
    go_enter Try.func14, Try.ntmps14
    go_wp2
    go_loopw [5] (fun i wr => ∃ k : Nat, k ≤ l.length ∧ i = .int .i64 k ∧ Below w.heap.size w wr ∧ Hid (l.take k = l'.take k)) (fun i _ => l.length - (intOf i).toNat)
    case atStart => exact ⟨0, Nat.zero_le _, rfl, Below.refl _ _, rfl⟩
    case round =>
      obtain ⟨k, hk, rfl, hb, HT⟩ := hrel
      have hsz := hb.size
      by_cases hlt : k < l.length
      · have hlt' : k < l'.length := by have := unhide HL; omega
        obtain ⟨p, n, hx⟩ : ∃ p n, l[k]? = some (p, n) := ⟨l[k].1, l[k].2, List.getElem?_eq_getElem hlt⟩
        obtain ⟨p', n', hy⟩ : ∃ p n, l'[k]? = some (p, n) := ⟨l'[k].1, l'[k].2, List.getElem?_eq_getElem hlt'⟩
        obtain ⟨b, off, rfl, hbB, hc0, hc1⟩ := (h.below (hb.mono hB)).at hx
        obtain ⟨b', off', rfl, hbB', hd0, hd1⟩ := (h'.below (hb.mono hB)).at hy
        have hkI : (k : Int) < (l.length : Int) := by omega
        have hkI' : (k : Int) < (l'.length : Int) := by omega
        have hq : b < wr.heap.size := by omega
        have hq' : b' < wr.heap.size := by omega
        by_cases heq : p = p' ∧ n = n'
        · obtain ⟨rfl, rfl⟩ := heq
          have HT2 : Hid (l.take (k + 1) = l'.take (k + 1)) := by
            show _ = _
            rw [List.take_add_one, List.take_add_one, unhide HT, hx, hy]
          have d1 : (!((p : Int) == (p : Int) && (n : Int) == (n : Int))) = false := by simp
          clear hx hy
          go_wp2
          go_quiet (fail)
          have hbn := below_drewN hb nq
          clear hc0 hc1 hd0 hd1 hq hq'
          generalize wr.drewN nq = wq at *
          go_wp2
          go_roundw
          case rel => exact ⟨k + 1, by omega, by go_num, hbn, HT2⟩
          case measure => simp [intOf]; omega
        · have Hne : Hid (decide (l = l') = false) := by
            show _ = _
            refine decide_eq_false fun e => heq ?_
            subst e
            rw [hx] at hy
            simpa using hy
          have d1 : (!((p : Int) == (p' : Int) && (n : Int) == (n' : Int))) = true := by
            simp
            omega
          clear hx hy heq
          go_wp2
          go_quiet (fail)
          have hbn := below_drewN hb nq
          clear hc0 hc1 hd0 hd1 hq hq'
          generalize wr.drewN nq = wq at *
          go_wp2
          go_ret
          exact ⟨by rw [unhide Hne]; rfl, hbn⟩
      · obtain rfl : k = l.length := by omega
        have Heq : Hid (decide (l = l') = true) := by
          show _ = _
          refine decide_eq_true ?_
          have := unhide HT
          rw [List.take_of_length_le (Nat.le_refl _), List.take_of_length_le (by have := unhide HL; omega)] at this
          exact this
        go_wp2
        go_ret
        exact ⟨by rw [unhide Heq]; rfl, hb⟩
  · have d0 : ((l.length : Int) != (l'.length : Int)) = true := by simp; omega
    have Hne : Hid (decide (l = l') = false) := by
      show _ = _
      refine decide_eq_false fun e => hL ?_
      rw [e]
    clear hL
    go_enter Try.func14, Try.ntmps14
    go_wp2
    go_ret
    exact ⟨by rw [unhide Hne]; rfl, Below.refl _ _⟩

end Go.Proofs.Ytoelnioifjeakaa

/- What was told, in a box. -/
namespace Go.Proofs.Ytoelnioifjeakaa
set_option linter.unusedSimpArgs false
set_option linter.unusedVariables false
open Go.RowKit

/-- What was told, in a box. -/
structure FBox (W : World) (fb : Nat) (ac : Option Addr) (nc cc : Nat) (aa : Option Addr) (na ca : Nat) (af : Option Addr) (nf cf : Nat) : Prop where
  c0 : W.cell? ⟨fb, 0, none⟩ = some (.slice ac nc cc)
  c1 : W.cell? ⟨fb, 1, none⟩ = some (.slice aa na ca)
  c2 : W.cell? ⟨fb, 2, none⟩ = some (.slice af nf cf)
theorem FBox.lt {W : World} {fb : Nat} {ac : Option Addr} {nc cc : Nat} {aa : Option Addr} {na ca : Nat} {af : Option Addr} {nf cf : Nat} (h : FBox W fb ac nc cc aa na ca af nf cf) : fb < W.heap.size := World.block_lt_of_cell? W _ h.c0
theorem FBox.below {W W' : World} {fb : Nat} {ac : Option Addr} {nc cc : Nat} {aa : Option Addr} {na ca : Nat} {af : Option Addr} {nf cf : Nat} (h : FBox W fb ac nc cc aa na ca af nf cf) {B : Nat} (hb : Below B W W') (hB : fb < B) : FBox W' fb ac nc cc aa na ca af nf cf :=
  ⟨(hb.cell (p := ⟨fb, 0, none⟩) hB).trans h.c0, (hb.cell (p := ⟨fb, 1, none⟩) hB).trans h.c1, (hb.cell (p := ⟨fb, 2, none⟩) hB).trans h.c2⟩
theorem fbox_new (w2 : World) (ac : Option Addr) (nc cc : Nat) (aa : Option Addr) (na ca : Nat) (af : Option Addr) (nf cf : Nat) : FBox (w2.alloc (.cells #[.slice ac nc cc, .slice aa na ca, .slice af nf cf] 27)) w2.heap.size ac nc cc aa na ca af nf cf :=
  ⟨by simp [go_sem], by simp [go_sem], by simp [go_sem]⟩

theorem Blks.kept {B : Nat} {w w' : World} {a : Option Addr} {l : List (Nat × Nat)} (h : Blks B w a l) (hk : ∀ x : Addr, a = some x → w'.heap[x.block]? = w.heap[x.block]?) : Blks B w' a l := by
  refine ⟨h.1, fun hne => ?_⟩
  obtain ⟨b, off, rfl, hB, hc⟩ := h.2 hne
  have hb := hk _ rfl
  refine ⟨b, off, rfl, hB, fun k v hv => ?_⟩
  rw [World.cell?_of_block (a := ⟨b, off + k * 2, none⟩) hb, World.cell?_of_block (a := ⟨b, off + k * 2 + 1, none⟩) hb]
  exact hc k v hv
theorem Blks.lt {B : Nat} {w : World} {l : List (Nat × Nat)} {x : Addr} (h : Blks B w (some x) l) (hne : l ≠ []) : x.block < B := by
  obtain ⟨b, off, e, hB, _⟩ := h.2 hne
  injection e with e
  subst e
  exact hB

end Go.Proofs.Ytoelnioifjeakaa

/- Walks: FreedSame. -/
namespace Go.Proofs.Ytoelnioifjeakaa
set_option linter.unusedSimpArgs false
set_option linter.unusedVariables false
open Go.RowKit

set_option maxRecDepth 100000 in
set_option maxHeartbeats 2000000 in
theorem freedSame_c (ac aa af ac' aa' af' : Option Addr) (cc ca cf cc' ca' cf' : Nat) (C A : List Int) (F : List (Nat × Nat)) (B : Nat) (w : World) (hB : B ≤ w.heap.size) (h1 : Nums B w ac C) (h2 : Nums B w aa A) (h3 : Blks B w af F) (h1' : Nums B w ac' C) (h2' : Nums B w aa' A) (h3' : Blks B w af' F) :
    Calls Try.prog 9 #[.agg #[.slice ac C.length cc, .slice aa A.length ca, .slice af F.length cf], .agg #[.slice ac' C.length cc', .slice aa' A.length ca', .slice af' F.length cf']] w fun e w' => e = .returned (.bool true) ∧ Below w.heap.size w w' := by
  have hl := h1.1
  obtain ⟨W1, hW1⟩ : ∃ W1, w.alloc (.cells #[.slice ac C.length cc, .slice aa A.length ca, .slice af F.length cf] 27) = W1 := ⟨_, rfl⟩
  have hb1 : Below w.heap.size w W1 := by rw [← hW1]; exact (Below.refl _ _).alloc (Nat.le_refl _) _
  have hs1 : w.heap.size < W1.heap.size := by rw [← hW1]; simp
  have hF1 : FBox W1 w.heap.size ac C.length cc aa A.length ca af F.length cf := by rw [← hW1]; exact fbox_new ..
  obtain ⟨W2, hW2⟩ : ∃ W2, W1.alloc (.cells #[.slice ac' C.length cc', .slice aa' A.length ca', .slice af' F.length cf'] 27) = W2 := ⟨_, rfl⟩
  have hb2 : Below W1.heap.size W1 W2 := by rw [← hW2]; exact (Below.refl _ _).alloc (Nat.le_refl _) _
  have hs2 : W1.heap.size < W2.heap.size := by rw [← hW2]; simp
  have hF2 : FBox W2 W1.heap.size ac' C.length cc' aa' A.length ca' af' F.length cf' := by rw [← hW2]; exact fbox_new ..
  have hF1' := hF1.below hb2 hs1
  have hbw : Below w.heap.size w W2 := hb1.trans (hb2.mono (by omega))
  have HF1 := hide hF1'
  have HF2 := hide hF2
  have t0 := hF1'.c0
  have u0 := hF2.c0
  have n1 := h1.below (hbw.mono hB)
  have n1' := h1'.below (hbw.mono hB)
  have H2 : Hid (Nums B W2 aa A) := h2.below (hbw.mono hB)
  have H2' : Hid (Nums B W2 aa' A) := h2'.below (hbw.mono hB)
  have H3 : Hid (Blks B W2 af F) := h3.below (hbw.mono hB)
  have H3' : Hid (Blks B W2 af' F) := h3'.below (hbw.mono hB)
  have d0 : ((C.length : Int) != (C.length : Int)) = false := by simp
  clear hF1 hF2 hF1' h1 h2 h3 h1' h2' h3'
  go_enter Try.func9, Try.ntmps9
  go_wp2
  go_loopw [5] (fun i wr => ∃ k : Nat, k ≤ C.length ∧ i = .int .i64 k ∧ Hid (Below W2.heap.size W2 wr)) (fun i _ => C.length - (intOf i).toNat)
  case atStart => exact ⟨0, Nat.zero_le _, rfl, Below.refl _ _⟩
  case round =>
    clear t0 u0
    obtain ⟨k, hk, rfl, Hb⟩ := hrel
    have hb := unhide Hb
    have hsz := hb.size
    have hf1 := (unhide HF1).below hb (by omega)
    have hf2 := (unhide HF2).below hb (by omega)
    have t0 := hf1.c0
    have u0 := hf2.c0
    have tl := hf1.lt
    have ul := hf2.lt
    by_cases hlt : k < C.length
    · have hx : C[k]? = some C[k] := List.getElem?_eq_getElem hlt
      obtain ⟨b, off, rfl, hbB, x0⟩ := (n1.below (hb.mono (by omega))).at hx
      obtain ⟨b', off', rfl, hbB', y0⟩ := (n1'.below (hb.mono (by omega))).at hx
      have hkI : (k : Int) < (C.length : Int) := by omega
      have hq : b < wr.heap.size := by omega
      have hq' : b' < wr.heap.size := by omega
      generalize C[k] = x at *
      have d1 : (x != x) = false := by simp
      clear hx hf1 hf2 n1 n1'
      go_wp2
      go_quiet (fail)
      have hbn := hide (below_drewN hb nq)
      clear x0 y0 hq hq' t0 u0 tl ul
      generalize wr.drewN nq = wq at *
      go_wp2
      go_roundw
      case rel => exact ⟨k + 1, by omega, by go_num, hbn⟩
      case measure => simp [intOf]; omega
    · obtain rfl : k = C.length := by omega
      have t1 := hf1.c1
      have u1 := hf2.c1
      have Hc := hide (ints_c aa aa' ca ca' A B wr ((unhide H2).below (hb.mono (by omega))) ((unhide H2').below (hb.mono (by omega))) (by omega))
      clear hf1 hf2 n1 n1'
      go_wp2_with fail
      refine (unhide Hc).mono ?_
      rintro e w5 ⟨rfl, hb5⟩
      have hs5 := hb5.size
      have hbb : Below W2.heap.size W2 w5 := hb.trans (hb5.mono hsz)
      have hg1 := (unhide HF1).below hbb (by omega)
      have hg2 := (unhide HF2).below hbb (by omega)
      have t2 := hg1.c2
      have u2 := hg2.c2
      have tl5 := hg1.lt
      have ul5 := hg2.lt
      have Hd := hide (blocks_c af af' cf cf' F F B w5 ((unhide H3).below (hbb.mono (by omega))) ((unhide H3').below (hbb.mono (by omega))) (by omega))
      clear hg1 hg2 tl ul t1 u1 Hc
      go_wp2_with fail
      refine (unhide Hd).mono ?_
      rintro e w6 ⟨rfl, hb6⟩
      have hbf : Below w.heap.size w w6 := hbw.trans ((hbb.trans (hb6.mono (by omega))).mono (by omega))
      go_wp2
      go_ret
      exact ⟨by simp, hbf⟩

end Go.Proofs.Ytoelnioifjeakaa

/- Plain: words that are taken and given back at once; one ask more. -/
namespace Go.Proofs.Ytoelnioifjeakaa
set_option linter.unusedSimpArgs false
set_option linter.unusedVariables false

theorem getD_append_left {α : Type} {l r : List α} {i : Nat} {d : α} (h : i < l.length) : (l ++ r).getD i d = l.getD i d := by
  rw [List.getD_eq_getElem?_getD, List.getD_eq_getElem?_getD, List.getElem?_append_left h]
theorem getD_append_len {α : Type} {l : List α} {x d : α} : (l ++ [x]).getD l.length d = x := by
  rw [List.getD_eq_getElem?_getD, List.getElem?_append_right (Nat.le_refl _), Nat.sub_self]; rfl

/-- One ask more. -/
theorem stK_snoc (L : Nat) (sc : List (Int × Int)) (x : Int × Int) : stK L (sc ++ [x]) sc.length = stK L sc sc.length ∧ stK L (sc ++ [x]) (sc.length + 1) = (stepS L (stK L sc sc.length) x).2.2 ∧
    codeK L (sc ++ [x]) sc.length = (stepS L (stK L sc sc.length) x).1 ∧ atK L (sc ++ [x]) sc.length = (stepS L (stK L sc sc.length) x).2.1 := by
  have h := stepS_same L (sc := sc ++ [x]) (sc' := sc) (k := sc.length) (fun i hi => getD_append_left hi)
  refine ⟨h, ?_, ?_, ?_⟩
  · rw [stK, h, getD_append_len]
  · rw [codeK, h, getD_append_len]
  · rw [atK, h, getD_append_len]

/-- What a take comes to: refused, with all as it was, or taken. -/
theorem step_take {L : Nat} {s : St} (hO : Ok L s) (n : Int) :
    ((stepS L s (1, n)).1 ≠ 0 ∧ (stepS L s (1, n)).2.2 = s) ∨
    ∃ (k : Nat) (b : Nat × Nat), n = (k : Int) ∧ 1 ≤ k ∧ b ∈ s.bl L ∧ k ≤ b.2 ∧ stepS L s (1, n) = (0, b.1, takeS s b.1 (2 ^ lv k)) := by
  rcases step_cases hO (1, n) with ⟨_, _, e⟩ | ⟨_, k, _, _, _, _, e⟩ | ⟨_, k, b, h1, h2, _, hb, e⟩ | ⟨h, _⟩ | ⟨h, _⟩ | ⟨h, _⟩
  · rw [e]; exact .inl ⟨by simp, rfl⟩
  · rw [e]; exact .inl ⟨by simp, rfl⟩
  · exact .inr ⟨k, b, h1, h2, (best_mem hb).1, (best_mem hb).2, e⟩
  · exact absurd h (show ¬ (1 : Int) = 2 by decide)
  · exact absurd h (show ¬ (1 : Int) = 2 by decide)
  · exact absurd rfl h

theorem step_give {L : Nat} {s : St} {p k : Nat} (h : s.tk (p : Int) = some k) : stepS L s (2, (p : Int)) = (0, 0, giveS s p k) := by
  unfold stepS
  rw [if_neg (show ¬ (2 : Int) = 1 by decide), if_pos rfl]
  simp only [h, Int.toNat_natCast]

/-- Taken and given back: as before. -/
theorem take_give {L n : Nat} {s : St} {b : Nat × Nat} (hb : b ∈ s.bl L) (hn : n ≤ b.2) : (giveS (takeS s b.1 (2 ^ lv n)) b.1 (2 ^ lv n)).bl L = s.bl L ∧ (takeS s b.1 (2 ^ lv n)).bl L ≠ s.bl L := by
  obtain ⟨k, q, rfl, hM, hl, hS, hle⟩ := best_piece hb hn
  simp only at hS hle
  have hfree : ∀ i, q * 2 ^ k ≤ i → i < q * 2 ^ k + 2 ^ lv n → s.tw i = false := fun i h1 h2 => hM.2.2.1 i ((piece_iff k q i).2 ⟨h1, by omega⟩)
  have hpos := two_pos (lv n)
  refine ⟨?_, fun e => ?_⟩
  · have : twGive (twTake s.tw (q * 2 ^ k) (2 ^ lv n)) (q * 2 ^ k) (2 ^ lv n) = s.tw := by
      funext i
      simp only [twGive, twTake]
      by_cases h : q * 2 ^ k ≤ i ∧ i < q * 2 ^ k + 2 ^ lv n
      · rw [hfree i h.1 h.2]; simp [h.1, h.2]
      · by_cases h1 : q * 2 ^ k ≤ i
        · have h2 : ¬ i < q * 2 ^ k + 2 ^ lv n := fun h2 => h ⟨h1, h2⟩
          simp [h2]
        · simp [h1]
    show pcs (twGive (twTake s.tw (q * 2 ^ k) (2 ^ lv n)) (q * 2 ^ k) (2 ^ lv n)) L 0 = pcs s.tw L 0
    rw [this]
  · have h1 : inB (s.bl L) (q * 2 ^ k) := (bl_iff L s _).2 ⟨by omega, hfree _ (Nat.le_refl _) (by omega)⟩
    rw [← e] at h1
    exact ((take_inB L s _ _ _).1 h1).2 ⟨Nat.le_refl _, by simp only; omega⟩

end Go.Proofs.Ytoelnioifjeakaa

/- Plain: whose each word is. -/
namespace Go.Proofs.Ytoelnioifjeakaa
set_option linter.unusedSimpArgs false
set_option linter.unusedVariables false

/-- Some places of a list hold x. -/
def updP (l : List Int) (p : Nat → Bool) (x : Int) : List Int := l.mapIdx fun j y => if p j then x else y
theorem updP_len (l : List Int) (p : Nat → Bool) (x : Int) : (updP l p x).length = l.length := by simp [updP]
theorem updP_get (l : List Int) (p : Nat → Bool) (x : Int) (j : Nat) : (updP l p x)[j]? = (l[j]?).map fun y => if p j then x else y := by simp [updP, List.getElem?_mapIdx]
theorem updP_none (l : List Int) (p : Nat → Bool) (x : Int) (h : ∀ j, j < l.length → p j = false) : updP l p x = l := by
  apply List.ext_getElem?
  intro j
  rw [updP_get]
  cases hj : l[j]? with
  | none => rfl
  | some y => rw [Option.map_some, h j (List.getElem?_eq_some_iff.1 hj).1]; rfl
theorem updP_congr (l : List Int) {p q : Nat → Bool} (x : Int) (h : ∀ j, j < l.length → p j = q j) : updP l p x = updP l q x := by
  apply List.ext_getElem?
  intro j
  rw [updP_get, updP_get]
  cases hj : l[j]? with
  | none => rfl
  | some y => rw [Option.map_some, Option.map_some, h j (List.getElem?_eq_some_iff.1 hj).1]
theorem updP_set (l : List Int) {p q : Nat → Bool} (x : Int) (t : Nat) (h : ∀ j, j < l.length → q j = (p j || j == t)) : (updP l p x).set t x = updP l q x := by
  apply List.ext_getElem?
  intro j
  rw [List.getElem?_set, updP_get, updP_get, updP_len]
  by_cases e : t = j
  · subst e
    rw [if_pos rfl]
    by_cases hl : t < l.length
    · rw [if_pos hl, List.getElem?_eq_getElem hl, Option.map_some, h t hl]; simp
    · rw [if_neg hl, List.getElem?_eq_none (by omega)]; rfl
  · rw [if_neg e]
    cases hj : l[j]? with
    | none => rfl
    | some y =>
      rw [Option.map_some, Option.map_some, h j (List.getElem?_eq_some_iff.1 hj).1]
      have : (j == t) = false := by simpa using fun e' => e e'.symm
      rw [this, Bool.or_false]

/-- Each taken word bears its owner's number, which no other one bears; a free one 0. -/
def WhOk (L : Nat) (s : St) (k : Nat) (Wh : List Int) : Prop :=
  Wh.length = 2 ^ L ∧ ∃ id : Int → Int, (∀ a m, s.tk a = some m → (1 ≤ id a ∧ id a ≤ k) ∧ ∀ j : Nat, a ≤ j → (j : Int) < a + m → Wh[j]? = some (id a)) ∧
    (∀ a m b m', s.tk a = some m → s.tk b = some m' → a ≠ b → id a ≠ id b) ∧ (∀ j, inB (s.bl L) j → Wh[j]? = some 0)

theorem whOk_start {L : Nat} : WhOk L startS 0 (List.replicate (2 ^ L) 0) := by
  refine ⟨by simp, fun _ => 0, fun a m h => (by cases h), fun a m b m' h => (by cases h), fun j hj => ?_⟩
  have := ((bl_iff L _ j).1 hj).1
  rw [List.getElem?_replicate, if_pos this]
theorem WhOk.mono {L : Nat} {s : St} {k k' : Nat} {Wh : List Int} (h : WhOk L s k Wh) (hk : k ≤ k') : WhOk L s k' Wh := by
  obtain ⟨h1, id, h2, h3, h4⟩ := h
  exact ⟨h1, id, fun a m ha => ⟨⟨(h2 a m ha).1.1, by have := (h2 a m ha).1.2; omega⟩, (h2 a m ha).2⟩, h3, h4⟩

/-- Behind a give. -/
theorem whOk_give {L : Nat} {s : St} {k p m : Nat} {Wh : List Int} (hO : Ok L s) (h : WhOk L s k Wh) (ht : s.tk (p : Int) = some m) :
    ∃ mine : Int, Wh[p]? = some mine ∧ mine ≠ 0 ∧ p < 2 ^ L ∧ WhOk L (giveS s p m) k (updP Wh (fun j => Wh.getD j 0 == mine) 0) := by
  obtain ⟨h1, id, h2, h3, h4⟩ := h
  obtain ⟨h0, hm, hS⟩ := hO.tk ht
  obtain ⟨⟨i1, i2⟩, i3⟩ := h2 _ _ ht
  have hp := i3 p (by omega) (by omega)
  have hS' : p + m ≤ 2 ^ L := by omega
  refine ⟨id p, hp, by omega, by omega, by rw [updP_len]; exact h1, id, fun a n ha => ?_, fun a n b n' ha hb hne => ?_, fun j hj => ?_⟩
  · simp only [giveS] at ha
    have hne : a ≠ (p : Int) := by rintro rfl; rw [updT_same] at ha; cases ha
    rw [updT_other hne] at ha
    refine ⟨(h2 a n ha).1, fun j j1 j2 => ?_⟩
    have hj := (h2 a n ha).2 j j1 j2
    rw [updP_get, hj, Option.map_some]
    have hn := h3 a n p m ha ht hne
    simp only [List.getD_eq_getElem?_getD, hj, Option.getD_some]
    rw [if_neg (by simpa using hn)]
  · simp only [giveS] at ha hb
    have hna : a ≠ (p : Int) := by rintro rfl; rw [updT_same] at ha; cases ha
    have hnb : b ≠ (p : Int) := by rintro rfl; rw [updT_same] at hb; cases hb
    rw [updT_other hna] at ha
    rw [updT_other hnb] at hb
    exact h3 a n b n' ha hb hne
  · rcases (give_inB s hS' j).1 hj with hj | hj
    · have := h4 j hj
      rw [updP_get, this, Option.map_some]
      split <;> rfl
    · have := i3 j (by omega) (by omega)
      rw [updP_get, this, Option.map_some]
      simp only [List.getD_eq_getElem?_getD, this, Option.getD_some]
      rw [if_pos (by simp)]

/-- Behind a take. -/
theorem whOk_take {L : Nat} {s : St} {k p n : Nat} {Wh : List Int} (hO : Ok L s) (h : WhOk L s k Wh) (hpn : p + n ≤ 2 ^ L) (h1n : 1 ≤ n) (hfree : ∀ j, p ≤ j → j < p + n → inB (s.bl L) j) :
    (∀ j, p ≤ j → j < p + n → Wh[j]? = some 0) ∧ WhOk L (takeS s p n) (k + 1) (updP Wh (fun j => decide (p ≤ j) && decide (j < p + n)) ((k : Int) + 1)) := by
  obtain ⟨h1, id, h2, h3, h4⟩ := h
  have hout : ∀ a m, s.tk a = some m → ∀ j : Nat, a ≤ j → (j : Int) < a + m → ¬ (p ≤ j ∧ j < p + n) := fun a m ha j j1 j2 hj => by
    have := hO.tk ha
    exact (hO.cv j (by omega)).1 (hfree j hj.1 hj.2) ⟨a, m, ha, j1, j2⟩
  have hbt : s.tk (p : Nat) = none := by
    cases ht : s.tk (p : Nat) with
    | none => rfl
    | some m => exact absurd ⟨Nat.le_refl _, by omega⟩ (hout _ _ ht p (by omega) (by have := (hO.tk ht).2.1; omega))
  obtain ⟨id', hid1, hid2⟩ : ∃ id' : Int → Int, id' (p : Nat) = (k : Int) + 1 ∧ ∀ a : Int, a ≠ (p : Nat) → id' a = id a := ⟨fun a => if a = (p : Nat) then (k : Int) + 1 else id a, if_pos rfl, fun a ha => if_neg ha⟩
  refine ⟨fun j j1 j2 => h4 j (hfree j j1 j2), by rw [updP_len]; exact h1, id', fun a m ha => ?_, fun a m c m' ha hc hne => ?_, fun j hj => ?_⟩
  · simp only [takeS] at ha
    by_cases ea : a = (p : Nat)
    · subst ea
      rw [updT_same] at ha
      injection ha with ha
      subst ha
      rw [hid1]
      refine ⟨by omega, fun j j1 j2 => ?_⟩
      rw [updP_get, h4 j (hfree j (by omega) (by omega)), Option.map_some, if_pos (by simp; omega)]
    · rw [updT_other ea] at ha
      rw [hid2 a ea]
      refine ⟨⟨(h2 a m ha).1.1, by have := (h2 a m ha).1.2; omega⟩, fun j j1 j2 => ?_⟩
      have := hout a m ha j j1 j2
      rw [updP_get, (h2 a m ha).2 j j1 j2, Option.map_some, if_neg (by simp; omega)]
  · simp only [takeS] at ha hc
    by_cases ea : a = (p : Nat)
    · have ec : c ≠ (p : Nat) := fun ec => hne (ea.trans ec.symm)
      rw [updT_other ec] at hc
      rw [ea, hid1, hid2 c ec]
      have := (h2 c m' hc).1.2
      omega
    · rw [updT_other ea] at ha
      rw [hid2 a ea]
      by_cases ec : c = (p : Nat)
      · rw [ec, hid1]
        have := (h2 a m ha).1.2
        omega
      · rw [updT_other ec] at hc
        rw [hid2 c ec]
        exact h3 a m c m' ha hc hne
  · obtain ⟨j1, j2⟩ := (take_inB L s p n j).1 hj
    rw [updP_get, h4 j j1, Option.map_some, if_neg (by simp; omega)]

/-- Is a word one of the blocks'? -/
def inBb (l : List (Nat × Nat)) (j : Nat) : Bool := l.any fun x => decide (x.1 ≤ j) && decide (j < x.1 + x.2)
theorem inBb_iff (l : List (Nat × Nat)) (j : Nat) : inBb l j = true ↔ inB l j := by
  unfold inBb inB
  rw [List.any_eq_true]
  constructor
  · rintro ⟨x, hx, h⟩; simp at h; exact ⟨x, hx, h⟩
  · rintro ⟨x, hx, h⟩; exact ⟨x, hx, by simpa using h⟩
theorem inBb_take {l : List (Nat × Nat)} {k : Nat} {x : Nat × Nat} (hx : l[k]? = some x) (j : Nat) : inBb (l.take (k + 1)) j = (inBb (l.take k) j || (decide (x.1 ≤ j) && decide (j < x.1 + x.2))) := by
  unfold inBb
  rw [List.take_add_one, hx]
  simp

/-- A word of a block is not one of those ahead of it. -/
theorem inBb_fresh {S : Nat} {l : List (Nat × Nat)} (ha : Apart S l) {k : Nat} {x : Nat × Nat} (hx : l[k]? = some x) {j : Nat} (h1 : x.1 ≤ j) (h2 : j < x.1 + x.2) : inBb (l.take k) j = false := by
  cases h : inBb (l.take k) j with
  | false => rfl
  | true =>
    obtain ⟨y, hy, y1, y2⟩ := (inBb_iff _ _).1 h
    obtain ⟨i, hi⟩ := List.getElem?_of_mem hy
    rw [List.getElem?_take] at hi
    split at hi
    · have hi' := (List.getElem?_eq_some_iff.1 hi).1
      have hk' := (List.getElem?_eq_some_iff.1 hx).1
      have := List.pairwise_iff_getElem.1 ha.2 i k hi' hk' (by assumption)
      rw [(List.getElem?_eq_some_iff.1 hi).2, (List.getElem?_eq_some_iff.1 hx).2] at this
      omega
    · cases hi

/-- In the end each word is somebody's. -/
theorem whOk_all {L : Nat} {s : St} {k : Nat} {Wh : List Int} (hO : Ok L s) (h : WhOk L s k Wh) {j : Nat} {x : Int} (hx : (updP Wh (inBb (s.bl L)) (-1))[j]? = some x) : x ≠ 0 := by
  obtain ⟨h1, id, h2, h3, h4⟩ := h
  have hl := (List.getElem?_eq_some_iff.1 hx).1
  rw [updP_len, h1] at hl
  rw [updP_get] at hx
  cases hj : inBb (s.bl L) j with
  | true =>
    rw [h4 j ((inBb_iff _ _).1 hj), Option.map_some, hj] at hx
    injection hx with hx
    rw [← hx]
    decide
  | false =>
    have hn : ¬ inB (s.bl L) j := fun h => by rw [(inBb_iff _ _).2 h] at hj; cases hj
    have : ∃ a n, s.tk a = some n ∧ a ≤ j ∧ (j : Int) < a + n := Classical.byContradiction fun hc => hn ((hO.cv j hl).2 hc)
    obtain ⟨a, m, ha, a1, a2⟩ := this
    rw [(h2 a m ha).2 j a1 a2, Option.map_some, hj] at hx
    injection hx with hx
    rw [← hx]
    have := (h2 a m ha).1.1
    simp
    omega

end Go.Proofs.Ytoelnioifjeakaa

/- Plain: the other way's yard. -/
namespace Go.Proofs.Ytoelnioifjeakaa
set_option linter.unusedSimpArgs false
set_option linter.unusedVariables false

theorem apart_append {S : Nat} {l r : List (Nat × Nat)} : Apart S (l ++ r) ↔ Apart S l ∧ Apart S r ∧ ∀ x ∈ l, ∀ y ∈ r, x.1 + x.2 ≤ y.1 := by
  simp only [Apart, List.mem_append, List.pairwise_append]
  constructor
  · rintro ⟨h1, h2, h3, h4⟩
    exact ⟨⟨fun x hx => h1 x (.inl hx), h2⟩, ⟨fun x hx => h1 x (.inr hx), h3⟩, h4⟩
  · rintro ⟨⟨h1, h2⟩, ⟨h3, h4⟩, h5⟩
    refine ⟨fun x hx => ?_, h2, h4, h5⟩
    rcases hx with hx | hx
    · exact h1 x hx
    · exact h3 x hx


/-- One free word more. -/
def addW (l : List (Nat × Nat)) (i : Nat) : List (Nat × Nat) :=
  if 0 < l.length ∧ (l.getD (l.length - 1) (0, 0)).1 + (l.getD (l.length - 1) (0, 0)).2 = i then l.set (l.length - 1) ((l.getD (l.length - 1) (0, 0)).1, (l.getD (l.length - 1) (0, 0)).2 + 1) else l ++ [(i, 1)]

/-- The rows of free words among the first k. -/
def blkK (T : List Bool) : Nat → List (Nat × Nat)
  | 0 => []
  | k + 1 => if T.getD k true = true then blkK T k else addW (blkK T k) k

theorem apart_more {S S' : Nat} {l : List (Nat × Nat)} (h : Apart S l) (hs : S ≤ S') : Apart S' l := ⟨fun x hx => by have := h.1 x hx; omega, h.2⟩

theorem addW_ok {k : Nat} {l : List (Nat × Nat)} (ha : Apart k l) : Apart (k + 1) (addW l k) ∧ ∀ j, inB (addW l k) j ↔ inB l j ∨ j = k := by
  rcases List.eq_nil_or_concat l with rfl | ⟨L, x, rfl⟩
  · refine ⟨by simp [addW, Apart], fun j => ?_⟩
    simp only [addW, List.length_nil, Nat.lt_irrefl, false_and, if_false, List.nil_append, inB_cons]
    constructor
    · rintro (h | h)
      · exact .inr (by omega)
      · exact absurd h (inB_nil j)
    · rintro (h | h)
      · exact absurd h (inB_nil j)
      · exact .inl (by omega)
  · rw [List.concat_eq_append] at *
    have hg : (L ++ [x]).getD ((L ++ [x]).length - 1) (0, 0) = x := by simp [List.getD_eq_getElem?_getD]
    obtain ⟨hl, hx0, hlx⟩ := apart_append.1 ha
    have hx1 := (apart_cons.1 hx0).1
    unfold addW
    rw [hg]
    by_cases hc : x.1 + x.2 = k
    · rw [if_pos ⟨by simp, hc⟩]
      have e : (L ++ [x]).set ((L ++ [x]).length - 1) (x.1, x.2 + 1) = L ++ [(x.1, x.2 + 1)] := by
        rw [List.length_append, List.length_singleton, Nat.add_sub_cancel, List.set_append_right _ _ (Nat.le_refl _), Nat.sub_self]; rfl
      rw [e]
      refine ⟨apart_append.2 ⟨apart_more hl (by omega), by simp [Apart]; omega, fun y hy z hz => ?_⟩, fun j => ?_⟩
      · simp at hz; subst hz; exact hlx y hy x (by simp)
      · rw [inB_append, inB_append, inB_cons, inB_cons]
        constructor
        · rintro (h | h | h)
          · exact .inl (.inl h)
          · simp only at h
            by_cases e : j = k
            · exact .inr e
            · exact .inl (.inr (.inl (by omega)))
          · exact absurd h (inB_nil j)
        · rintro ((h | h | h) | h)
          · exact .inl h
          · exact .inr (.inl (by simp only; omega))
          · exact absurd h (inB_nil j)
          · exact .inr (.inl (by simp only; omega))
    · rw [if_neg (fun h => hc h.2)]
      refine ⟨apart_append.2 ⟨apart_more ha (by omega), by simp [Apart], fun y hy z hz => ?_⟩, fun j => ?_⟩
      · simp at hz
        subst hz
        simp only
        rcases List.mem_append.1 hy with hy | hy
        · have := hlx y hy x (by simp); omega
        · simp at hy; subst hy; omega
      · rw [inB_append (L ++ [x]), inB_cons]
        constructor
        · rintro (h | h | h)
          · exact .inl h
          · exact .inr (by simp only at h; omega)
          · exact absurd h (inB_nil j)
        · rintro (h | h)
          · exact .inl h
          · exact .inr (.inl (by simp only; omega))

theorem blkK_ok (T : List Bool) : ∀ k, Apart k (blkK T k) ∧ ∀ j, inB (blkK T k) j ↔ j < k ∧ T.getD j true = false
  | 0 => ⟨by simp [blkK, Apart], fun j => ⟨fun h => absurd h (inB_nil j), fun h => by omega⟩⟩
  | k + 1 => by
    obtain ⟨h1, h2⟩ := blkK_ok T k
    unfold blkK
    by_cases ht : T.getD k true = true
    · rw [if_pos ht]
      refine ⟨apart_more h1 (by omega), fun j => ?_⟩
      rw [h2]
      constructor
      · rintro ⟨a, b⟩; exact ⟨by omega, b⟩
      · rintro ⟨a, b⟩
        refine ⟨?_, b⟩
        have : j ≠ k := by rintro rfl; rw [ht] at b; cases b
        omega
    · rw [if_neg ht]
      obtain ⟨h3, h4⟩ := addW_ok h1
      refine ⟨h3, fun j => ?_⟩
      rw [h4, h2]
      constructor
      · rintro (⟨a, b⟩ | rfl)
        · exact ⟨by omega, b⟩
        · exact ⟨by omega, by simpa using ht⟩
      · rintro ⟨a, b⟩
        by_cases e : j = k
        · exact .inr e
        · exact .inl ⟨by omega, b⟩

/-- Words of a list of truths. -/
def tF (T : List Bool) : Nat → Bool := fun j => T.getD j true

theorem clr_congr {T T' : Nat → Bool} {a n : Nat} (h : ∀ j, a ≤ j → j < a + n → T j = T' j) : clr T a n = clr T' a n := by
  rw [Bool.eq_iff_iff, clr_iff, clr_iff]
  exact ⟨fun h1 w h2 h3 => by rw [← h w h2 h3]; exact h1 w h2 h3, fun h1 w h2 h3 => by rw [h w h2 h3]; exact h1 w h2 h3⟩
theorem pcs_congr {T T' : Nat → Bool} : ∀ {k a : Nat}, (∀ j, a ≤ j → j < a + 2 ^ k → T j = T' j) → pcs T k a = pcs T' k a
  | 0, a, h => by unfold pcs; rw [clr_congr h]
  | k + 1, a, h => by
    have e : 2 ^ (k + 1) = 2 ^ k + 2 ^ k := by rw [Nat.pow_succ]; omega
    unfold pcs
    rw [clr_congr h, pcs_congr (k := k) (a := a) (fun j h1 h2 => h j h1 (by omega)), pcs_congr (k := k) (a := a + 2 ^ k) (fun j h1 h2 => h j (by omega) (by omega))]

/-- Which words are taken, and what was taken where: as the state says. -/
structure Yd (L : Nat) (s : St) (T : List Bool) (P Ln : List Int) : Prop where
  len : T.length = 2 ^ L
  tw : ∀ j, j < 2 ^ L → tF T j = s.tw j
  pl : P.length = Ln.length
  to : ∀ (i : Nat) (a : Int), P[i]? = some a → 0 ≤ a → ∃ n : Nat, s.tk a = some n ∧ Ln[i]? = some (n : Int)
  of : ∀ a n, s.tk a = some n → ∃ i : Nat, P[i]? = some a
  one : ∀ (i j : Nat) (a : Int), P[i]? = some a → P[j]? = some a → 0 ≤ a → i = j

theorem Yd.bl {L : Nat} {s : St} {T : List Bool} {P Ln : List Int} (h : Yd L s T P Ln) : pcs (tF T) L 0 = s.bl L :=
  pcs_congr fun j _ hj => h.tw j (by omega)

theorem yd_start {L : Nat} : Yd L startS (List.replicate (2 ^ L) false) [] [] where
  len := by simp
  tw := fun j hj => by
    unfold tF
    rw [List.getD_eq_getElem?_getD, List.getElem?_replicate, if_pos hj]; rfl
  pl := rfl
  to := fun i a h => by simp at h
  of := fun a n h => by cases h
  one := fun i j a h => by simp at h

/-- Some places of a list of truths. -/
def updB (l : List Bool) (p : Nat → Bool) (x : Bool) : List Bool := l.mapIdx fun j y => if p j then x else y
theorem updB_len (l : List Bool) (p : Nat → Bool) (x : Bool) : (updB l p x).length = l.length := by simp [updB]
theorem updB_get (l : List Bool) (p : Nat → Bool) (x : Bool) (j : Nat) : (updB l p x)[j]? = (l[j]?).map fun y => if p j then x else y := by simp [updB, List.getElem?_mapIdx]
theorem updB_none (l : List Bool) (p : Nat → Bool) (x : Bool) (h : ∀ j, j < l.length → p j = false) : updB l p x = l := by
  apply List.ext_getElem?
  intro j
  rw [updB_get]
  cases hj : l[j]? with
  | none => rfl
  | some y => rw [Option.map_some, h j (List.getElem?_eq_some_iff.1 hj).1]; rfl
theorem updB_set (l : List Bool) {p q : Nat → Bool} (x : Bool) (t : Nat) (h : ∀ j, j < l.length → q j = (p j || j == t)) : (updB l p x).set t x = updB l q x := by
  apply List.ext_getElem?
  intro j
  rw [List.getElem?_set, updB_get, updB_get, updB_len]
  by_cases e : t = j
  · subst e
    rw [if_pos rfl]
    by_cases hl : t < l.length
    · rw [if_pos hl, List.getElem?_eq_getElem hl, Option.map_some, h t hl]; simp
    · rw [if_neg hl, List.getElem?_eq_none (by omega)]; rfl
  · rw [if_neg e]
    cases hj : l[j]? with
    | none => rfl
    | some y =>
      rw [Option.map_some, Option.map_some, h j (List.getElem?_eq_some_iff.1 hj).1]
      have : (j == t) = false := by simpa using fun e' => e e'.symm
      rw [this, Bool.or_false]
theorem updB_getD (l : List Bool) (p : Nat → Bool) (x : Bool) {j : Nat} (hj : j < l.length) : (updB l p x).getD j true = if p j then x else l.getD j true := by
  rw [List.getD_eq_getElem?_getD, updB_get, List.getElem?_eq_getElem hj]
  simp [List.getD_eq_getElem?_getD, List.getElem?_eq_getElem hj]

/-- The words of a row. -/
def rowP (p n : Nat) (j : Nat) : Bool := decide (p ≤ j) && decide (j < p + n)

/-- Behind a take. -/
theorem Yd.take {L : Nat} {s : St} {T : List Bool} {P Ln : List Int} (h : Yd L s T P Ln) (hO : Ok L s) {p n : Nat} (hpn : p + n ≤ 2 ^ L) (hf : s.tw p = false) :
    Yd L (takeS s p n) (updB T (rowP p n) true) (P ++ [(p : Int)]) (Ln ++ [(n : Int)]) := by
  have hbt : s.tk (p : Nat) = none := by
    cases ht : s.tk (p : Nat) with
    | none => rfl
    | some m =>
      have h1 := hO.tk ht
      have := (hO.tw p).2 ⟨_, _, ht, by omega, by omega⟩
      rw [hf] at this; cases this
  have hne : ∀ (k : Nat) (a : Int), P[k]? = some a → 0 ≤ a → a ≠ (p : Int) := fun k a hk ha e => by
    subst e
    obtain ⟨m, hm, _⟩ := h.to k _ hk ha
    rw [hbt] at hm; cases hm
  refine ⟨by rw [updB_len]; exact h.len, fun j hj => ?_, by simp [h.pl], fun k a hk ha => ?_, fun a m ha => ?_, fun k k' a hk hk' ha => ?_⟩
  · unfold tF
    rw [updB_getD _ _ _ (by rw [h.len]; exact hj)]
    have h1 := h.tw j hj
    unfold tF at h1
    rw [h1]
    show _ = (s.tw j || rowP p n j)
    cases rowP p n j <;> simp
  · rw [List.getElem?_append] at hk
    split at hk
    · obtain ⟨m, h1, h2⟩ := h.to k a hk ha
      refine ⟨m, by simp only [takeS]; rw [updT_other (hne k a hk ha)]; exact h1, ?_⟩
      rw [List.getElem?_append, if_pos (List.getElem?_eq_some_iff.1 h2).1]; exact h2
    · rename_i hkl
      have hk0 : k - P.length = 0 := by have := (List.getElem?_eq_some_iff.1 hk).1; simp at this; omega
      rw [hk0] at hk
      simp at hk
      subst hk
      refine ⟨n, by simp only [takeS]; rw [updT_same], ?_⟩
      rw [List.getElem?_append, if_neg (by rw [← h.pl]; omega), ← h.pl, hk0]; rfl
  · simp only [takeS] at ha
    by_cases ea : a = (p : Nat)
    · subst ea
      exact ⟨P.length, by simp⟩
    · rw [updT_other ea] at ha
      obtain ⟨k, hk⟩ := h.of a m ha
      exact ⟨k, by rw [List.getElem?_append, if_pos (List.getElem?_eq_some_iff.1 hk).1]; exact hk⟩
  · have hlt : ∀ k a, (P ++ [(p : Int)])[k]? = some a → 0 ≤ a → (P[k]? = some a ∧ a ≠ (p : Int)) ∨ (k = P.length ∧ a = (p : Int)) := fun k a hk ha => by
      rw [List.getElem?_append] at hk
      split at hk
      · exact .inl ⟨hk, hne k a hk ha⟩
      · have := (List.getElem?_eq_some_iff.1 hk).1
        simp at this
        have hk0 : k - P.length = 0 := by omega
        rw [hk0] at hk
        simp at hk
        exact .inr ⟨by omega, hk.symm⟩
    rcases hlt k a hk ha with ⟨h1, h2⟩ | ⟨h1, h2⟩ <;> rcases hlt k' a hk' ha with ⟨h3, h4⟩ | ⟨h3, h4⟩
    · exact h.one k k' a h1 h3 ha
    · exact absurd h4 h2
    · exact absurd h2 h4
    · omega

/-- Behind a give. -/
theorem Yd.give {L : Nat} {s : St} {T : List Bool} {P Ln : List Int} (h : Yd L s T P Ln) (hO : Ok L s) {i p m : Nat} (ht : s.tk (p : Int) = some m) (hi : P[i]? = some (p : Int)) :
    p + m ≤ 2 ^ L ∧ Ln[i]? = some (m : Int) ∧ Yd L (giveS s p m) (updB T (rowP p m) false) (P.set i (-1)) Ln := by
  obtain ⟨h0, hm, hS⟩ := hO.tk ht
  obtain ⟨m', h1, h2⟩ := h.to i _ hi (by omega)
  rw [ht] at h1
  injection h1 with h1
  subst h1
  have hset : ∀ (k : Nat) (a : Int), (P.set i (-1))[k]? = some a → 0 ≤ a → P[k]? = some a ∧ k ≠ i := fun k a hk ha => by
    rw [List.getElem?_set] at hk
    split at hk
    · split at hk
      · injection hk with hk; omega
      · cases hk
    · rename_i hne; exact ⟨hk, fun e => hne e.symm⟩
  refine ⟨by omega, h2, by rw [updB_len]; exact h.len, fun j hj => ?_, by simp [h.pl], fun k a hk ha => ?_, fun a n ha => ?_, fun k k' a hk hk' ha => ?_⟩
  · unfold tF
    rw [updB_getD _ _ _ (by rw [h.len]; exact hj)]
    have h1 := h.tw j hj
    unfold tF at h1
    rw [h1]
    show _ = (s.tw j && !rowP p m j)
    cases rowP p m j <;> simp
  · obtain ⟨h3, h4⟩ := hset k a hk ha
    obtain ⟨n, h5, h6⟩ := h.to k a h3 ha
    refine ⟨n, ?_, h6⟩
    simp only [giveS]
    rw [updT_other (fun e => h4 (h.one k i a h3 (by rw [e]; exact hi) ha))]
    exact h5
  · simp only [giveS] at ha
    have hne : a ≠ (p : Int) := by rintro rfl; rw [updT_same] at ha; cases ha
    rw [updT_other hne] at ha
    obtain ⟨k, hk⟩ := h.of a n ha
    refine ⟨k, ?_⟩
    rw [List.getElem?_set, if_neg (fun e => hne (by rw [← e, hi] at hk; injection hk with hk; exact hk.symm))]
    exact hk
  · exact h.one k k' a (hset k a hk ha).1 (hset k' a hk' ha).1 ha

end Go.Proofs.Ytoelnioifjeakaa

/- The yard in memory; walks: set, blocks. -/
namespace Go.Proofs.Ytoelnioifjeakaa
set_option linter.unusedSimpArgs false
set_option linter.unusedVariables false
open Go.RowKit

def boolsV (l : List Bool) : List Value := l.map .bool
theorem boolsV_len (l : List Bool) : (boolsV l).length = l.length := by simp [boolsV]
theorem boolsV_get {l : List Bool} {k : Nat} {x : Bool} (h : l[k]? = some x) : (boolsV l)[k]? = some (.bool x) := by simp [boolsV, h]

/-- A yard: its four cells, and its three rows. -/
structure Ym (W : World) (N yb tb : Nat) (va vl : Value) (S : Nat) (T : List Bool) (P L : List Int) (la : Nat) : Prop where
  box : W.heap[yb]? = some (.cells #[.slice (some ⟨tb, 0, none⟩) S S, va, vl, .int .i64 (la : Nat)] 53)
  rt : W.ownsRow N 4 1 (.slice (some ⟨tb, 0, none⟩) S S) S (boolsV T)
  ra : W.ownsRow N 3 1 va P.length (intsV P)
  rl : W.ownsRow N 3 1 vl L.length (intsV L)
  dj : ∀ k, va.ownBlock = some k → vl.ownBlock ≠ some k
  lo : N ≤ yb

section
variable {W : World} {N yb tb : Nat} {va vl : Value} {S : Nat} {T : List Bool} {P L : List Int} {la : Nat}
theorem Ym.lt (h : Ym W N yb tb va vl S T P L la) : yb < W.heap.size := (Array.getElem?_eq_some_iff.1 h.box).1
theorem Ym.c0 (h : Ym W N yb tb va vl S T P L la) : W.cell? ⟨yb, 0, none⟩ = some (.slice (some ⟨tb, 0, none⟩) S S) := by rw [cell_of_row W yb 0 _ 53 (0, 0) h.box]; rfl
theorem Ym.c1 (h : Ym W N yb tb va vl S T P L la) : W.cell? ⟨yb, 1, none⟩ = some va := by rw [cell_of_row W yb 1 _ 53 (0, 0) h.box]; rfl
theorem Ym.c2 (h : Ym W N yb tb va vl S T P L la) : W.cell? ⟨yb, 2, none⟩ = some vl := by rw [cell_of_row W yb 2 _ 53 (0, 0) h.box]; rfl
theorem Ym.c3 (h : Ym W N yb tb va vl S T P L la) : W.cell? ⟨yb, 3, none⟩ = some (.int .i64 (la : Nat)) := by rw [cell_of_row W yb 3 _ 53 (0, 0) h.box]; rfl
theorem Ym.fr (h : Ym W N yb tb va vl S T P L la) (j : Nat) : W.frozen? ⟨yb, j, none⟩ = false := frozen_of_row W yb j _ 53 h.box
theorem Ym.tlt (h : Ym W N yb tb va vl S T P L la) : N ≤ tb ∧ tb < W.heap.size := h.rt.lt tb rfl
theorem Ym.tlen (h : Ym W N yb tb va vl S T P L la) : T.length = S := by have := h.rt.1; rw [boolsV_len] at this; omega
theorem Ym.tcell (h : Ym W N yb tb va vl S T P L la) {j : Nat} {x : Bool} (hx : T[j]? = some x) : W.cell? ⟨tb, j, none⟩ = some (.bool x) := by
  have := (List.getElem?_eq_some_iff.1 hx).1
  rw [h.rt.cellAt j (by rw [h.tlen] at this; omega)]
  exact boolsV_get hx
theorem Ym.tfr (h : Ym W N yb tb va vl S T P L la) (j : Nat) : W.frozen? ⟨tb, j, none⟩ = false := h.rt.frozenAt j
theorem Ym.ty (h : Ym W N yb tb va vl S T P L la) : tb ≠ yb := by
  have := row_ne h.rt h.box (by decide)
  simpa [Value.ownBlock] using this
theorem Ym.below {W' : World} (h : Ym W N yb tb va vl S T P L la) (hb : Below W.heap.size W W') : Ym W' N yb tb va vl S T P L la :=
  ⟨by rw [hb.block _ h.lt]; exact h.box, ownsRow_below h.rt hb, ownsRow_below h.ra hb, ownsRow_below h.rl hb, h.dj, h.lo⟩
theorem Ym.tat (h : Ym W N yb tb va vl S T P L la) : ∃ cs, W.heap[tb]? = some (.cells cs 4) := by
  rcases h.rt.2 with ⟨e, _⟩ | ⟨g, cap, cur, e, _, hg, _⟩
  · cases e
  · injection e with e; injection e with e; injection e with e; subst e; exact ⟨_, hg⟩
theorem Ym.setT (h : Ym W N yb tb va vl S T P L la) (j : Nat) (x : Bool) : Ym (W.setCell ⟨tb, j, none⟩ (.bool x)) N yb tb va vl S (T.set j x) P L la := by
  obtain ⟨cs, ht⟩ := h.tat
  have h1 := h.rt.stored j (.bool x)
  rw [show (boolsV T).set j (.bool x) = boolsV (T.set j x) by simp [boolsV, List.map_set]] at h1
  have hg := grown_set W tb j (.bool x)
  exact ⟨by rw [hg.block yb h.lt (by simpa using fun e => h.ty e.symm)]; exact h.box, h1.1, h.ra.kept hg (.inr (row_ne h.ra ht (by decide))), h.rl.kept hg (.inr (row_ne h.rl ht (by decide))), h.dj, h.lo⟩
end

set_option maxRecDepth 100000 in
set_option maxHeartbeats 2000000 in
theorem set_c (W : World) (N yb tb : Nat) (va vl : Value) (S : Nat) (T : List Bool) (P L : List Int) (la : Nat) (h : Ym W N yb tb va vl S T P L la) (p n : Nat) (x : Bool) (hp : p + n ≤ S) (hS : S ≤ 256) :
    Calls Try.prog 31 #[.pointer (some ⟨yb, 0, none⟩), .int .i64 (p : Nat), .int .i64 (n : Nat), .bool x] W fun e w' => e = .returned (.tuple #[]) ∧ Ym w' N yb tb va vl S (updB T (rowP p n) x) P L la ∧ W.grownBy w' (some tb) := by
  have HY : Hid (Ym W N yb tb va vl S (updB T (fun t => decide (p ≤ t) && decide (t < p)) x) P L la ∧ W.grownBy W (some tb)) := by
    show _ ∧ _
    rw [updB_none _ _ _ (fun j hj => by simp)]
    exact ⟨h, World.grownBy.refl _ _⟩
  clear h
  go_enter Try.func31, Try.ntmps31
  go_wp2
  go_loopw [8] (fun i wr => ∃ j : Nat, p ≤ j ∧ j ≤ p + n ∧ i = .int .i64 j ∧ Hid (Ym wr N yb tb va vl S (updB T (fun t => decide (p ≤ t) && decide (t < j)) x) P L la ∧ W.grownBy wr (some tb))) (fun i _ => p + n - (intOf i).toNat)
  case atStart => exact ⟨p, Nat.le_refl _, by omega, rfl, HY⟩
  case round =>
    obtain ⟨j, hj1, hj2, rfl, H2⟩ := hrel
    obtain ⟨hY, hg⟩ := unhide H2
    by_cases hjn : j < p + n
    · have t0 := hY.c0
      have tl := hY.lt
      have ul := hY.tlt.2
      have uf := hY.tfr j
      obtain ⟨y, hy⟩ : ∃ y, (updB T (fun t => decide (p ≤ t) && decide (t < j)) x)[j]? = some y := ⟨_, List.getElem?_eq_getElem (by have := hY.tlen; omega)⟩
      have u0 := hY.tcell hy
      have hjI : (j : Int) < (S : Int) := by omega
      have HR : Hid (Ym (wr.setCell ⟨tb, j, none⟩ (.bool x)) N yb tb va vl S (updB T (fun t => decide (p ≤ t) && decide (t < j + 1)) x) P L la ∧ W.grownBy (wr.setCell ⟨tb, j, none⟩ (.bool x)) (some tb)) := by
        have := hY.setT j x
        rw [updB_set T (p := fun t => decide (p ≤ t) && decide (t < j)) (q := fun t => decide (p ≤ t) && decide (t < j + 1)) x j (fun z hz => by
          by_cases e : z = j
          · subst e; simp [hj1]
          · have e1 : decide (z < j + 1) = decide (z < j) := by by_cases h : z < j <;> simp [h] <;> omega
            simp only [e1]; simp [e])] at this
        exact ⟨this, grown_trans hg (grown_set wr tb j _)⟩
      clear hY hg hy
      go_wp2
      go_roundw
      case rel => exact ⟨j + 1, by omega, by omega, by go_num, HR⟩
      case measure => simp [intOf]; omega
    · obtain rfl : j = p + n := by omega
      clear hY hg
      go_wp2
      go_end0
      exact ⟨rfl, unhide H2⟩

theorem blkK_len (T : List Bool) (k : Nat) : (blkK T k).length ≤ k := by
  have := apart_len (blkK_ok T k).1 0 (fun _ _ => Nat.zero_le _) (Nat.zero_le _)
  omega

theorem split_at {l : List (Nat × Nat)} {i : Nat} {b : Nat × Nat} (h : l[i]? = some b) : ∃ L R, l = L ++ b :: R ∧ L.length = i := by
  obtain ⟨hi, hb⟩ := List.getElem?_eq_some_iff.1 h
  exact ⟨l.take i, l.drop (i + 1), by rw [← hb, List.getElem_cons_drop, List.take_append_drop], by simp; omega⟩
theorem cellsB_set {l : List (Nat × Nat)} {i : Nat} (hi : i < l.length) (x : Nat × Nat) : ((cellsB l).set (i * 2) (.int .i64 (x.1 : Nat))).set (i * 2 + 1) (.int .i64 (x.2 : Nat)) = cellsB (l.set i x) := by
  obtain ⟨y, hy⟩ : ∃ y, l[i]? = some y := ⟨_, List.getElem?_eq_getElem hi⟩
  obtain ⟨L, R, rfl, hL⟩ := split_at hy
  subst hL
  rw [List.set_append_right _ _ (Nat.le_refl _), Nat.sub_self, cellsB_append, cellsB_append, List.set_append_right _ _ (by rw [cellsB_len]; omega), List.set_append_right _ _ (by rw [cellsB_len]; omega), cellsB_len, Nat.sub_self, show L.length * 2 + 1 - L.length * 2 = 1 by omega]
  rfl
theorem cellsB_set1 {l : List (Nat × Nat)} {i : Nat} {x : Nat × Nat} (hx : l[i]? = some x) (y : Nat) : (cellsB l).set (i * 2 + 1) (.int .i64 (y : Nat)) = cellsB (l.set i (x.1, y)) := by
  rw [← cellsB_set (List.getElem?_eq_some_iff.1 hx).1 (x.1, y)]
  congr 1
  apply List.ext_getElem?
  intro j
  rw [List.getElem?_set]
  split
  · rename_i e
    subst e
    obtain ⟨h1, _⟩ := cellsB_get l i x hx
    rw [if_pos (List.getElem?_eq_some_iff.1 h1).1]
    exact h1
  · rfl

theorem Blks.nil (B : Nat) (w : World) (a : Option Addr) : Blks B w a [] := ⟨by simp, fun h => absurd rfl h⟩
theorem blks_of_own {w : World} {base : Nat} {v : Value} {l : List (Nat × Nat)} (h : w.ownsRow base 37 2 v l.length (cellsB l)) (hs : l.length ≤ 9223372036854775807) :
    ∃ a cap, v = .slice a l.length cap ∧ Blks w.heap.size w a l ∧ (∀ x : Addr, a = some x → base ≤ x.block) := by
  rcases h.2 with ⟨rfl, h0⟩ | ⟨g, cap, cur, hv, hg, _⟩
  · have hl : l = [] := List.eq_nil_of_length_eq_zero (by have := h.1; rw [cellsB_len] at this; omega)
    subst hl
    exact ⟨none, 0, rfl, Blks.nil _ _ _, fun x h => by cases h⟩
  · subst hv
    exact ⟨_, cap, rfl, blks_of_owns h hs, fun x hx => by injection hx with hx; subst hx; exact hg⟩

set_option maxRecDepth 100000 in
set_option maxHeartbeats 4000000 in
theorem yblocks_c (W : World) (N yb tb : Nat) (va vl : Value) (S : Nat) (T : List Bool) (P L : List Int) (la : Nat) (h : Ym W N yb tb va vl S T P L la) (hS : S ≤ 256) :
    Calls Try.prog 24 #[.pointer (some ⟨yb, 0, none⟩)] W fun e w' => (∃ a cap, e = .returned (.slice a (blkK T S).length cap) ∧ Blks w'.heap.size w' a (blkK T S) ∧ (∀ x : Addr, a = some x → W.heap.size ≤ x.block)) ∧ Below W.heap.size W w' := by
  obtain ⟨i36, hi36, hx0, hx1, hx2⟩ := info_parts Try.info37
  have HY := hide h
  have hTl := h.tlen
  clear h
  go_enter Try.func24, Try.ntmps24
  go_wp2
  go_loopw [3, 4] (fun v i wr => ∃ k : Nat, k ≤ S ∧ i = .int .i64 k ∧ Hid (wr.ownsRow W.heap.size 37 2 v (blkK T k).length (cellsB (blkK T k))) ∧ Hid (Below W.heap.size W wr)) (fun _ i _ => S - (intOf i).toNat)
  case atStart => exact ⟨0, Nat.zero_le _, rfl, World.ownsRow_nil _ _ _ _, Below.refl _ _⟩
  case round =>
    obtain ⟨k, hk, rfl, HR, Hb⟩ := hrel
    have hY := (unhide HY).below (unhide Hb)
    have t0 := hY.c0
    have tl := hY.lt
    by_cases hlt : k < S
    · obtain ⟨x, hx⟩ : ∃ x, T[k]? = some x := ⟨_, List.getElem?_eq_getElem (by omega)⟩
      have hxd : T.getD k true = x := by rw [List.getD_eq_getElem?_getD, hx]; rfl
      have u0 := hY.tcell hx
      have ul := hY.tlt.2
      have hkI : (k : Int) < (S : Int) := by omega
      have hbl := blkK_len T k
      obtain ⟨a3, c3, hv3⟩ := ownsRow_slice (unhide HR)
      subst hv3
      cases x with
      | true =>
        have HR2 : Hid (wr.ownsRow W.heap.size 37 2 (.slice a3 (blkK T k).length c3) (blkK T (k + 1)).length (cellsB (blkK T (k + 1)))) := by
          have e : blkK T (k + 1) = blkK T k := by rw [blkK, if_pos hxd]
          show World.ownsRow _ _ _ _ _ _ _
          rw [e]
          exact unhide HR
        generalize (blkK T k).length = m at *
        clear hY hx hxd
        go_wp2
        go_roundw
        case rel => exact ⟨k + 1, by omega, by go_num, HR2, Hb⟩
        case measure => simp [intOf]; omega
      | false =>
        have hE : blkK T (k + 1) = addW (blkK T k) k := by rw [blkK, if_neg (by rw [hxd]; simp)]
        have HE := hide hE
        clear hE
        generalize hl : blkK T k = l at *
        by_cases h0 : l.length = 0
        · have hl0 : l = [] := List.eq_nil_of_length_eq_zero h0
          subst hl0
          have HE2 : Hid (blkK T (k + 1) = [(k, 1)]) := by
            show _ = _
            rw [unhide HE]
            simp [addW]
          simp only [List.length_nil] at HR ⊢
          clear hY hx hxd HE hl
          go_wp2
          go_quiet (fail)
          have HRq : Hid ((wr.drewN nq).ownsRow W.heap.size 37 2 (.slice a3 0 c3) 0 (cellsB [])) := unhide HR
          have Hbq : Hid (Below W.heap.size W (wr.drewN nq)) := below_drewN (unhide Hb) nq
          clear t0 tl u0 ul HR Hb
          generalize wr.drewN nq = wq at *
          have hsq := (unhide Hbq).size
          go_wp2_with (at_builtin; refine wpList_append_own_at _ rfl _ _ 25 rfl W.heap.size 37 i36 _ 2 16 Try.underlying25 hi36 hx0 hx1 hx2 rfl (by decide) _ _ _ rfl ((unhide HRq).alloc _) ⟨wq.heap.size, 0, none⟩ 1 1 [.int .i64 (k : Nat), .int .i64 1] rfl rfl (cell_two_at _ _ _ _ _ rfl) (by simp [Value.oneCell']) (by simp only [maxLen]; omega) (by omega) (by simp; omega) ?_; go_must (intro v7 w7 hrow7 hg7 _ hat7))
          have HR2 : Hid (w7.ownsRow W.heap.size 37 2 v7 (blkK T (k + 1)).length (cellsB (blkK T (k + 1)))) := by
            show World.ownsRow _ _ _ _ _ _ _
            rw [unhide HE2]
            exact hrow7
          have Hb2 : Hid (Below W.heap.size W w7) := ((unhide Hbq).alloc hsq _).grown hg7 (by simp; omega) (fun x e => ((unhide HRq).lt x e).1)
          clear hrow7 hg7 hat7
          go_wp2
          go_roundw
          case rel => exact ⟨k + 1, by omega, by go_num, HR2, Hb2⟩
          case measure => simp [intOf]; omega
        · obtain ⟨m, hm⟩ : ∃ m, l.length = m + 1 := ⟨l.length - 1, by omega⟩
          obtain ⟨p, q, hlast⟩ : ∃ p q, l[m]? = some (p, q) := ⟨l[m].1, l[m].2, List.getElem?_eq_getElem (by omega)⟩
          have hgd : l.getD (l.length - 1) (0, 0) = (p, q) := by rw [hm, Nat.add_sub_cancel, List.getD_eq_getElem?_getD, hlast]; rfl
          have hown := unhide HR
          rw [hm] at hown
          obtain ⟨g, c3', hv⟩ := ownsRow_succ hown
          injection hv with hv1 _ hv2
          subst hv1 hv2
          obtain ⟨z0, z1⟩ := cellsB_get l m _ hlast
          have y0 : wr.cell? ⟨g, m * 2, none⟩ = some (.int .i64 (p : Nat)) := by rw [hown.cellAt _ (by omega)]; exact z0
          have y1 : wr.cell? ⟨g, m * 2 + 1, none⟩ = some (.int .i64 (q : Nat)) := by rw [hown.cellAt _ (by omega)]; exact z1
          have yf := hown.frozenAt (m * 2 + 1)
          have yl := (hown.lt g rfl).2
          have hpq : p + q ≤ k := by have := ((blkK_ok T k).1.1 (p, q) (by rw [hl]; exact List.mem_of_getElem? hlast)).2; exact this
          have e0 : decide ((0 : Int) < (m : Int) + 1) = true := decide_eq_true (by omega)
          have hmk : m + 1 ≤ k := by omega
          have hmI : (m : Int) < (m : Int) + 1 := by omega
          have HO := hide hown
          have Hlast := hide hlast
          have Hm := hide hm
          by_cases hc : p + q = k
          · have HE2 : Hid (blkK T (k + 1) = l.set m (p, q + 1)) := by
              show _ = _
              rw [unhide HE]
              unfold addW
              rw [hgd, if_pos ⟨by omega, hc⟩, hm]
              rfl
            have e1 : ((p : Int) + (q : Int) == (k : Int)) = true := by simp; omega
            rw [hm]
            clear hY hx hxd HE hl hown HR hgd z0 z1 hlast h0 hm hc
            go_wp2
            go_quiet (fail)
            have HRq : Hid ((wr.drewN nq).ownsRow W.heap.size 37 2 (.slice (some ⟨g, 0, none⟩) (m + 1) c3) (m + 1) (cellsB l)) := unhide HO
            have Hbq : Hid (Below W.heap.size W (wr.drewN nq)) := below_drewN (unhide Hb) nq
            have y1q : (wr.drewN nq).cell? ⟨g, m * 2 + 1, none⟩ = some (.int .i64 (q : Nat)) := y1
            have yfq : (wr.drewN nq).frozen? ⟨g, m * 2 + 1, none⟩ = false := yf
            have ylq : g < (wr.drewN nq).heap.size := yl
            clear t0 tl u0 ul HO Hb y0 y1 yf yl
            generalize wr.drewN nq = wq at *
            have hgN := ((unhide HRq).lt g rfl).1
            have HR2 : Hid ((wq.setCell ⟨g, m * 2 + 1, none⟩ (.int .i64 ((q : Int) + 1))).ownsRow W.heap.size 37 2 (.slice (some ⟨g, 0, none⟩) (m + 1) c3) (blkK T (k + 1)).length (cellsB (blkK T (k + 1)))) := by
              show World.ownsRow _ _ _ _ _ _ _
              have := ((unhide HRq).stored (m * 2 + 1) (.int .i64 ((q + 1 : Nat) : Int))).1
              rw [cellsB_set1 (unhide Hlast)] at this
              rw [unhide HE2, List.length_set, unhide Hm]
              exact this
            have Hb2 : Hid (Below W.heap.size W (wq.setCell ⟨g, m * 2 + 1, none⟩ (.int .i64 ((q : Int) + 1)))) := (unhide Hbq).setCell (p := ⟨g, m * 2 + 1, none⟩) hgN _
            go_wp2
            go_roundw
            case rel => exact ⟨k + 1, by omega, by go_num, HR2, Hb2⟩
            case measure => simp [intOf]; omega
          · have HE2 : Hid (blkK T (k + 1) = l ++ [(k, 1)]) := by
              show _ = _
              rw [unhide HE]
              unfold addW
              rw [hgd, if_neg (fun h => hc h.2)]
            have e1 : ((p : Int) + (q : Int) == (k : Int)) = false := by simp; omega
            rw [hm]
            clear hY hx hxd HE hl hown HR hgd z0 z1 hlast h0 hc
            go_wp2
            go_quiet (fail)
            have HRq : Hid ((wr.drewN nq).ownsRow W.heap.size 37 2 (.slice (some ⟨g, 0, none⟩) (m + 1) c3) (m + 1) (cellsB l)) := unhide HO
            have Hbq : Hid (Below W.heap.size W (wr.drewN nq)) := below_drewN (unhide Hb) nq
            clear t0 tl u0 ul HO Hb y0 y1 yf yl
            generalize wr.drewN nq = wq at *
            have hsq := (unhide Hbq).size
            go_wp2_with (at_builtin; refine wpList_append_own_at _ rfl _ _ 25 rfl W.heap.size 37 i36 _ 2 16 Try.underlying25 hi36 hx0 hx1 hx2 rfl (by decide) _ _ _ rfl ((unhide HRq).alloc _) ⟨wq.heap.size, 0, none⟩ 1 1 [.int .i64 (k : Nat), .int .i64 1] rfl rfl (cell_two_at _ _ _ _ _ rfl) (by simp [Value.oneCell']) (by simp only [maxLen]; omega) (by omega) (by simp; omega) ?_; go_must (intro v7 w7 hrow7 hg7 _ hat7))
            have HR2 : Hid (w7.ownsRow W.heap.size 37 2 v7 (blkK T (k + 1)).length (cellsB (blkK T (k + 1)))) := by
              show World.ownsRow _ _ _ _ _ _ _
              rw [unhide HE2, List.length_append, unhide Hm, cellsB_append]
              exact hrow7
            have Hb2 : Hid (Below W.heap.size W w7) := ((unhide Hbq).alloc hsq _).grown hg7 (by simp; omega) (fun x e => ((unhide HRq).lt x e).1)
            clear hrow7 hg7 hat7
            go_wp2
            go_roundw
            case rel => exact ⟨k + 1, by omega, by go_num, HR2, Hb2⟩
            case measure => simp [intOf]; omega
    · obtain rfl : k = S := by omega
      have hbl := blkK_len T k
      obtain ⟨a, cap, hv, hB, hn⟩ := blks_of_own (unhide HR) (by omega)
      subst hv
      clear hY
      go_wp2
      go_ret
      exact ⟨⟨a, cap, rfl, hB, hn⟩, unhide Hb⟩

end Go.Proofs.Ytoelnioifjeakaa

/- slices.SortFunc at blocks, by place. -/
namespace Go.Proofs.Ytoelnioifjeakaa
open Go.Shelf
def Try.sortB_ren : Go.Shelf.Ren := ⟨fun | 6 => 29 | 15 => 37 | 14 => 36 | 28 => 47 | 29 => 48 | 20 => 39 | 21 => 40 | 22 => 41 | 23 => 42 | 24 => 43 | 25 => 44 | 26 => 45 | 27 => 46 | 46 => 49 | 47 => 50 | 48 => 51 | 49 => 52 | 50 => 53 | 57 => 54 | n => n, fun | 22 => 25 | 24 => 37 | 25 => 67 | 3 => 3 | 39 => 75 | 0 => 0 | 53 => 85 | 55 => 87 | 4 => 4 | 46 => 79 | 45 => 78 | 50 => 71 | 5 => 5 | 9 => 9 | 66 => 88 | 70 => 92 | 76 => 94 | 77 => 54 | n => n, fun | n => n⟩
theorem Try.sortB : Go.Proofs.SlLaysF0.n6 Try.prog Try.sortB_ren := {
  mixed := by kernel_rfl
  f6 := ⟨Try.f29.name, by decide, Try.func29.trans (congrArg some (by kernel_rfl))⟩
  f14 := ⟨Try.f36.name, by decide, Try.func36.trans (congrArg some (by kernel_rfl))⟩
  f15 := Try.func37.trans (congrArg some (by kernel_rfl))
  f20 := ⟨Try.f39.name, by decide, Try.func39.trans (congrArg some (by kernel_rfl))⟩
  f21 := ⟨Try.f40.name, by decide, Try.func40.trans (congrArg some (by kernel_rfl))⟩
  f22 := ⟨Try.f41.name, by decide, Try.func41.trans (congrArg some (by kernel_rfl))⟩
  f23 := ⟨Try.f42.name, by decide, Try.func42.trans (congrArg some (by kernel_rfl))⟩
  f24 := ⟨Try.f43.name, by decide, Try.func43.trans (congrArg some (by kernel_rfl))⟩
  f25 := ⟨Try.f44.name, by decide, Try.func44.trans (congrArg some (by kernel_rfl))⟩
  f26 := ⟨Try.f45.name, by decide, Try.func45.trans (congrArg some (by kernel_rfl))⟩
  f27 := ⟨Try.f46.name, by decide, Try.func46.trans (congrArg some (by kernel_rfl))⟩
  f28 := Try.func47.trans (congrArg some (by kernel_rfl))
  f29 := Try.func48.trans (congrArg some (by kernel_rfl))
  f46 := ⟨Try.f49.name, by decide, Try.func49.trans (congrArg some (by kernel_rfl))⟩
  f47 := Try.func50.trans (congrArg some (by kernel_rfl))
  f48 := Try.func51.trans (congrArg some (by kernel_rfl))
  f49 := ⟨Try.f52.name, by decide, Try.func52.trans (congrArg some (by kernel_rfl))⟩
  f50 := ⟨Try.f53.name, by decide, Try.func53.trans (congrArg some (by kernel_rfl))⟩
  f57 := ⟨Try.f54.name, by decide, Try.func54.trans (congrArg some (by kernel_rfl))⟩
  t0 := Try.underlying0
  a0 := Try.isAgg0
  z0 := Try.sizeOf0
  v0 := Try.zeroValue0
  t3 := Try.underlying3
  a3 := Try.isAgg3
  z3 := Try.sizeOf3
  v3 := Try.zeroValue3
  t4 := Try.underlying4
  a4 := Try.isAgg4
  z4 := Try.sizeOf4
  v4 := Try.zeroValue4
  t5 := Try.underlying5
  a5 := Try.isAgg5
  z5 := Try.sizeOf5
  v5 := Try.zeroValue5
  t9 := Try.underlying9
  a9 := Try.isAgg9
  z9 := Try.sizeOf9
  v9 := Try.zeroValue9
  t22 := Try.underlying25
  a22 := Try.isAgg25
  z22 := Try.sizeOf25
  v22 := Try.zeroValue25
  t25 := Try.underlying67
  a25 := Try.isAgg67
  z25 := Try.sizeOf67
  v25 := Try.zeroValue67
  t39 := Try.underlying75
  a39 := Try.isAgg75
  z39 := Try.sizeOf75
  v39 := Try.zeroValue75
  t45 := Try.underlying78
  a45 := Try.isAgg78
  z45 := Try.sizeOf78
  v45 := Try.zeroValue78
  t46 := Try.underlying79
  a46 := Try.isAgg79
  z46 := Try.sizeOf79
  v46 := Try.zeroValue79
  t50 := Try.underlying71
  a50 := Try.isAgg71
  z50 := Try.sizeOf71
  v50 := Try.zeroValue71
  t53 := Try.underlying85
  a53 := Try.isAgg85
  z53 := Try.sizeOf85
  v53 := Try.zeroValue85
  t55 := Try.underlying87
  a55 := Try.isAgg87
  z55 := Try.sizeOf87
  v55 := Try.zeroValue87
  t66 := Try.underlying88
  a66 := Try.isAgg88
  z66 := Try.sizeOf88
  v66 := Try.zeroValue88
  t70 := Try.underlying92
  a70 := Try.isAgg92
  z70 := Try.sizeOf92
  v70 := Try.zeroValue92
  t76 := Try.underlying94
  a76 := Try.isAgg94
  z76 := Try.sizeOf94
  v76 := Try.zeroValue94
  t77 := Try.underlying54
  a77 := Try.isAgg54
  z77 := Try.sizeOf54
  v77 := Try.zeroValue54 }
end Go.Proofs.Ytoelnioifjeakaa
namespace Go.Proofs.Ytoelnioifjeakaa
set_option linter.unusedSimpArgs false
set_option linter.unusedVariables false
open Go.RowKit Go.Sort Go.Lib Go.Shelf

/-- A block whose place is small. -/
abbrev Bk := Fin 4096 × Nat
def bkOf (x : Nat × Nat) : Bk := (⟨x.1 % 4096, Nat.mod_lt _ (by decide)⟩, x.2)
def bkTo (x : Bk) : Nat × Nat := (x.1.val, x.2)
theorem bk_back {x : Nat × Nat} (h : x.1 < 4096) : bkTo (bkOf x) = x := by
  unfold bkTo bkOf; simp only [Nat.mod_eq_of_lt h]
def encB (x : Bk) : List Value := [.int .i64 (x.1.val : Int), .int .i64 (x.2 : Int)]
def cfB (x y : Bk) : Int := (x.1.val : Int) - (y.1.val : Int)

theorem ltB (x y : Bk) : ltOf cfB x y = decide (x.1.val < y.1.val) := by
  unfold ltOf cfB
  by_cases h : x.1.val < y.1.val
  · rw [decide_eq_true h, decide_eq_true (by omega)]
  · rw [decide_eq_false h, decide_eq_false (by omega)]
theorem swoB : SWO (ltOf cfB) where
  irrefl x := by rw [ltB]; simp
  trans x y z h1 h2 := by rw [ltB] at *; simp only [decide_eq_true_eq] at *; omega
  ntrans x y z h1 h2 := by rw [ltB] at *; simp only [decide_eq_false_iff_not] at *; omega

set_option maxHeartbeats 1000000 in
/-- The closure: by place. -/
theorem cmp_c (x y : Bk) (W : World) : Calls Try.prog 30 #[.agg #[.int .i64 (x.1.val : Int), .int .i64 (x.2 : Int)], .agg #[.int .i64 (y.1.val : Int), .int .i64 (y.2 : Int)]] W fun e w' => e = .returned (.int .i64 (cfB x y)) ∧ ∃ q os', w' = grow (W.drewN q) os' := by
  have Hc : Hid (cfB x y = (x.1.val : Int) - (y.1.val : Int)) := rfl
  have h1 := x.1.isLt
  have h2 := y.1.isLt
  generalize x.1.val = a at *
  generalize y.1.val = b at *
  generalize x.2 = c at *
  generalize y.2 = d at *
  rw [unhide Hc]
  go_enter Try.func30, Try.ntmps30
  go_wp2
  go_ret
  exact ⟨rfl, 0, _, by rw [alloc_eq_grow, alloc_eq_grow, grow_grow]; rfl⟩

theorem cmpB (blk off size : Nat) (w : World) : CmpLays Try.prog 30 #[] encB 2 cfB blk off size w := fun _ _ _ _ x y => cmp_c x y _

end Go.Proofs.Ytoelnioifjeakaa

/- slices.SortFunc at a row of blocks that the call owns. -/
namespace Go.Proofs.Ytoelnioifjeakaa
set_option linter.unusedSimpArgs false
set_option linter.unusedVariables false
open Go.RowKit Go.Sort Go.Lib Go.Shelf

theorem flat_cells (d : Array Bk) : (flatK encB 2 d).toList = cellsB (d.toList.map bkTo) := by
  apply List.ext_getElem?
  intro t
  by_cases ht : t < d.size * 2
  · have hs : t < (flatK encB 2 d).size := by simp [ht]
    have hk : t / 2 < d.size := by omega
    have h1 : (flatK encB 2 d).toList[t]? = some ((encB d[t / 2]!)[t % 2]!) := by
      rw [Array.getElem?_toList, Array.getElem?_eq_getElem hs, ← getElem!_pos _ t hs, get_flatK _ _ _ _ ht]
    have h2 : (d.toList.map bkTo)[t / 2]? = some (bkTo d[t / 2]!) := by
      rw [List.getElem?_map, Array.getElem?_toList, Array.getElem?_eq_getElem hk, getElem!_pos d (t / 2) hk]; rfl
    obtain ⟨c1, c2⟩ := cellsB_get _ _ _ h2
    rw [h1]
    by_cases hm : t % 2 = 0
    · rw [hm]
      rw [show t / 2 * 2 = t by omega] at c1
      rw [c1]; rfl
    · rw [show t % 2 = 1 by omega]
      rw [show t / 2 * 2 + 1 = t by omega] at c2
      rw [c2]; rfl
  · rw [List.getElem?_eq_none (by simp; omega), List.getElem?_eq_none (by rw [cellsB_len]; simp; omega)]

theorem heap_sortedB {w : World} {g n : Nat} {os : Array Obj} {cur : Array Value} {e : TypeId} {fr : Nat × Nat} (d : Array Bk) (hb : w.heap[g]? = some (.cells cur e fr)) :
    (sortWorldK encB 2 w g 0 n d os).heap[g]? = some (.cells (putCells id 0 (flatK encB 2 d) cur) e fr) := by
  have hg : g < w.heap.size := (Array.getElem?_eq_some_iff.1 hb).1
  unfold sortWorldK putRowK
  rw [heap_grow_old _ _ (by simpa using hg)]
  simp [putRow, mapBlock, Sort.ahead, Array.getElem?_modify, hb, onCells]
theorem grownBy_sortedB {w : World} {g n : Nat} {os : Array Obj} (d : Array Bk) : w.grownBy (sortWorldK encB 2 w g 0 n d os) (some g) := by
  unfold sortWorldK putRowK
  refine ⟨rfl, rfl, rfl, by simp, fun k hk hne => ?_⟩
  rw [heap_grow_old _ _ (by simpa using hk)]
  have : g ≠ k := fun e => hne (by rw [e])
  simp [putRow, mapBlock, Sort.ahead, Array.getElem?_modify, this]
theorem take_putCellsB (cur : Array Value) (F : Array Value) (h : F.size ≤ cur.size) : (putCells id 0 F cur).toList.take F.size = F.toList := by
  apply List.ext_getElem?
  intro j
  by_cases hj : j < F.size
  · rw [List.getElem?_take_of_lt hj, Array.getElem?_toList, Array.getElem?_toList]
    simp [putCells, hj, show j < cur.size by omega]
  · rw [List.getElem?_take_eq_none (by omega), List.getElem?_eq_none (by simp; omega)]

theorem holds_of_row {w : World} {base g cap : Nat} {l : List (Nat × Nat)} {cur : Array Value} {e : TypeId} (hb : w.heap[g]? = some (.cells cur e (0, 0))) (ht : cur.toList.take (l.length * 2) = cellsB l) (hl : ∀ x ∈ l, x.1 < 4096) : HoldsK encB 2 w g 0 (l.map bkOf).toArray := by
  have hfl : (flatK encB 2 (l.map bkOf).toArray).toList = cellsB l := by
    rw [flat_cells]
    congr 1
    simp only [List.map_map]
    conv => rhs; rw [← List.map_id l]
    exact List.map_congr_left fun x hx => bk_back (hl x hx)
  intro j hj
  have hj' : j < l.length * 2 := by simpa using hj
  refine ⟨?_, by simp [World.frozen?, hb]⟩
  have h1 : (cur.toList.take (l.length * 2))[j]? = (cellsB l)[j]? := by rw [ht]
  rw [List.getElem?_take_of_lt hj', ← hfl] at h1
  simp only [World.cell?, hb, Nat.zero_add]
  simp only [Option.isSome_none, Bool.false_eq_true, if_false]
  rw [← Array.getElem?_toList, h1, Array.getElem?_toList, Array.getElem?_eq_getElem hj, getElem!_pos _ j hj]
  rfl

/-- What the sort leaves. -/
def SrtRes (base g cap : Nat) (l : List (Nat × Nat)) (w W : World) : Prop :=
  ∃ l' : List (Nat × Nat), l'.Perm l ∧ l'.Pairwise (fun x y => x.1 ≤ y.1) ∧ W.ownsRow base 37 2 (.slice (some ⟨g, 0, none⟩) l'.length cap) l'.length (cellsB l') ∧ w.grownBy W (some g)

set_option maxHeartbeats 1000000 in
theorem sort_c (base g cap : Nat) (l : List (Nat × Nat)) (w : World) (hR : w.ownsRow base 37 2 (.slice (some ⟨g, 0, none⟩) l.length cap) l.length (cellsB l)) (hl : ∀ x ∈ l, x.1 < 4096) (hlen : l.length ≤ 1000000) :
    Calls Try.prog 29 #[.slice (some ⟨g, 0, none⟩) l.length cap, .func (.func 30) #[] #[]] w fun e w' => e = .returned (.tuple #[]) ∧ SrtRes base g cap l w w' := by
  rcases hR.2 with ⟨hv, _⟩ | ⟨g', cap', cur, hv, hb1, hb2, hc1, hc2, hc3, htk⟩
  · cases hv
  · injection hv with e1 e2 e3
    injection e1 with e1
    injection e1 with e1
    subst e1 e3
    have hH := holds_of_row (base := base) (cap := cap) hb2 htk hl
    have eg : ∀ args w, (callFunc 30 args).run Try.prog w = .ok (.enter 30 args) w := enters_of Try.func30 (by kernel_rfl) rfl
    have hcon := AnyQ.slices_SortFunc Try.sortB 2 Try.isAgg37 Try.sizeOf37 encB (fun _ => rfl) (fun x v hv => by simp [encB] at hv; rcases hv with rfl | rfl <;> rfl) cfB swoB 30 #[] g 0 cap (l.map bkOf).toArray w eg (cmpB g 0 _ w) hH (Array.getElem?_eq_some_iff.1 hb2).1 (by simp; omega)
    change Calls Try.prog 29 _ _ _ at hcon
    have es : (l.map bkOf).toArray.size = l.length := by simp
    rw [es] at hcon
    refine hcon.mono ?_
    rintro e w' ⟨rfl, d', n, os, hp, hs, rfl⟩
    refine ⟨rfl, d'.toList.map bkTo, ?_, ?_, ?_, grownBy_sortedB d'⟩
    · obtain ⟨h1, _, h3⟩ := hp
      have e1 : d'.extract 0 l.length = d' := by rw [← es, ← h1]; exact Array.extract_size
      have e2 : (l.map bkOf).toArray.extract 0 l.length = (l.map bkOf).toArray := by
        have : (l.map bkOf).toArray.extract 0 (l.map bkOf).toArray.size = (l.map bkOf).toArray := Array.extract_size
        rwa [es] at this
      rw [e1, e2] at h3
      have h4 := h3.map bkTo
      have e3 : (l.map bkOf).toArray.toList.map bkTo = l := by
        simp only [List.map_map]
        conv => rhs; rw [← List.map_id l]
        exact List.map_congr_left fun x hx => bk_back (hl x hx)
      rwa [e3] at h4
    · have hsz : d'.size = l.length := by rw [hp.1, es]
      rw [List.pairwise_iff_getElem]
      intro i j hi hj hij
      simp only [List.length_map, Array.length_toList] at hi hj
      have := hs i j (Nat.zero_le _) hij (by omega)
      rw [ltB, decide_eq_false_iff_not, getElem!_pos d' i hi, getElem!_pos d' j hj] at this
      simp only [List.getElem_map, Array.getElem_toList, bkTo]
      omega
    · have hsz : d'.size = l.length := by rw [hp.1, es]
      have hl' : (d'.toList.map bkTo).length = l.length := by simp [hsz]
      rw [hl']
      refine ⟨by rw [cellsB_len, hl'], .inr ⟨g, cap, _, rfl, hb1, heap_sortedB d' hb2, hc1, hc2, by simp [putCells, hc3], ?_⟩⟩
      have hfs : (flatK encB 2 d').size = l.length * 2 := by simp [hsz]
      rw [← hfs, take_putCellsB cur _ (by rw [hfs, hc3]; omega), flat_cells]

theorem sort_none_c (p : Option Addr) (cap : Nat) (w : World) : Calls Try.prog 29 #[.slice p 0 cap, .func (.func 30) #[] #[]] w fun e w' => e = .returned (.tuple #[]) ∧ w' = w := by
  have hcon := AnyF.slices_SortFunc_none (P := Try.prog) (ρ := Try.sortB_ren) { Try.sortB with } p cap (.func (.func 30) #[] #[]) w
  change Calls Try.prog 29 _ _ _ at hcon
  exact hcon

end Go.Proofs.Ytoelnioifjeakaa

/- Walks: pieces. -/
namespace Go.Proofs.Ytoelnioifjeakaa
set_option linter.unusedSimpArgs false
set_option linter.unusedVariables false
open Go.RowKit

/-- The pieces of the levels below k; and those of level k that have come. -/
def PcO (fr : Nat → Nat → Bool) (k : Nat) (l : List (Nat × Nat)) : Prop := l.Nodup ∧ ∀ x, x ∈ l ↔ ∃ i, i < k ∧ x.2 = 2 ^ i ∧ fr i x.1 = true
structure PcI (fr : Nat → Nat → Bool) (k : Nat) (left : Lit → Bool) (l : List (Nat × Nat)) : Prop where
  nd : l.Nodup
  mem : ∀ x, x ∈ l ↔ (∃ i, i < k ∧ x.2 = 2 ^ i ∧ fr i x.1 = true) ∨ (x.2 = 2 ^ k ∧ fr k x.1 = true ∧ left (.int .i64 (x.1 : Int)) = false)
  lf : ∀ x : Int, left (.int .i64 x) = true → 0 ≤ x ∧ fr k x.toNat = true

theorem PcO.inner {fr : Nat → Nat → Bool} {k : Nat} {l : List (Nat × Nat)} {M : DataW Unit} {s : Nat} (h : PcO fr k l) (hT : TkD M (frT (fr k) s)) : PcI fr k (Maps.has M) l := by
  refine ⟨h.1, fun x => ?_, fun x hx => (tkD_has hT x).1 hx⟩
  rw [h.2 x]
  constructor
  · exact .inl
  · rintro (h1 | ⟨_, h2, h3⟩)
    · exact h1
    · rw [(tkD_has hT x.1).2 ⟨by omega, by simpa using h2⟩] at h3; cases h3
theorem PcI.step {fr : Nat → Nat → Bool} {k : Nat} {left : Lit → Bool} {l : List (Nat × Nat)} {X : Nat} (h : PcI fr k left l) (hl : left (.int .i64 (X : Int)) = true) : PcI fr k (fun z => left z && !z.sameKey (.int .i64 (X : Int))) (l ++ [(X, 2 ^ k)]) := by
  obtain ⟨_, hX⟩ := h.lf X hl
  rw [Int.toNat_natCast] at hX
  have hn : (X, 2 ^ k) ∉ l := by
    rw [h.mem]
    rintro (⟨i, hi, e, _⟩ | ⟨_, _, e⟩)
    · have := two_inj e; omega
    · simp only at e; rw [hl] at e; cases e
  refine ⟨?_, fun x => ?_, fun x hx => h.lf x ((strike_int left X x).1 hx).1⟩
  · rw [List.nodup_append]
    refine ⟨h.nd, by simp, fun a ha b hb => ?_⟩
    simp at hb; subst hb
    rintro rfl; exact hn ha
  · rw [List.mem_append, h.mem x, List.mem_singleton]
    have hst := strike_int left X (x.1 : Int)
    constructor
    · rintro ((h1 | ⟨h1, h2, h3⟩) | rfl)
      · exact .inl h1
      · refine .inr ⟨h1, h2, ?_⟩
        simp only [h3, Bool.false_and]
      · refine .inr ⟨rfl, hX, ?_⟩
        cases hc : (left (.int .i64 (X : Int)) && !(Lit.int .i64 (X : Int)).sameKey (.int .i64 (X : Int))) with
        | false => rfl
        | true => exact absurd rfl (hst.1 hc).2
    · rintro (h1 | ⟨h1, h2, h3⟩)
      · exact .inl (.inl h1)
      · by_cases e : x.1 = X
        · exact .inr (Prod.ext e h1)
        · refine .inl (.inr ⟨h1, h2, ?_⟩)
          cases hc : left (.int .i64 (x.1 : Int)) with
          | false => rfl
          | true =>
            have := hst.2 ⟨hc, by omega⟩
            rw [this] at h3; cases h3
theorem PcI.done {fr : Nat → Nat → Bool} {k : Nat} {left : Lit → Bool} {l : List (Nat × Nat)} (h : PcI fr k left l) (hl : ∀ kl, left kl = false) : PcO fr (k + 1) l := by
  refine ⟨h.nd, fun x => ?_⟩
  rw [h.mem]
  constructor
  · rintro (⟨i, h1, h2⟩ | ⟨h1, h2, _⟩)
    · exact ⟨i, by omega, h2⟩
    · exact ⟨k, by omega, h1, h2⟩
  · rintro ⟨i, h1, h2, h3⟩
    by_cases e : i = k
    · subst e; exact .inr ⟨h2, h3, hl _⟩
    · exact .inl ⟨i, by omega, h2, h3⟩

/-- Sorted, they are the free pieces by place. -/
theorem pcO_sorted {T : Nat → Bool} {L : Nat} {fr : Nat → Nat → Bool} {l l' : List (Nat × Nat)} (hF : FrOk T L fr) (hL : L ≤ 7) (h : PcO fr 8 l) (hp : l'.Perm l) (hs : l'.Pairwise (fun x y => x.1 ≤ y.1)) : l' = pcs T L 0 := by
  have hm : ∀ x, x ∈ l ↔ x ∈ pcs T L 0 := fun x => by
    rw [h.2 x]
    constructor
    · rintro ⟨i, _, h1, h2⟩
      have := (hF i x.1).1 h2
      rwa [← h1] at this
    · intro hx
      obtain ⟨i, p, h1, h2, hM⟩ := (mem_iff T L x.1 x.2).1 hx
      exact ⟨i, by have := hM.1; omega, h2, (hF i x.1).2 (by rw [← h2]; exact hx)⟩
  have hr := pcs_rise T L
  have hnd : l'.Nodup := hp.nodup_iff.2 h.1
  have hm' : ∀ x, x ∈ l' ↔ x ∈ pcs T L 0 := fun x => hp.mem_iff.trans (hm x)
  have hinj : ∀ x ∈ pcs T L 0, ∀ y ∈ pcs T L 0, x.1 = y.1 → x = y := by
    intro x hx y hy e
    obtain ⟨i, hi⟩ := List.getElem?_of_mem hx
    obtain ⟨j, hj⟩ := List.getElem?_of_mem hy
    obtain ⟨hi', hi2⟩ := List.getElem?_eq_some_iff.1 hi
    obtain ⟨hj', hj2⟩ := List.getElem?_eq_some_iff.1 hj
    rcases Nat.lt_trichotomy i j with h1 | h1 | h1
    · have := List.pairwise_iff_getElem.1 hr i j hi' hj' h1; rw [hi2, hj2] at this; omega
    · subst h1; rw [← hi2, ← hj2]
    · have := List.pairwise_iff_getElem.1 hr j i hj' hi' h1; rw [hi2, hj2] at this; omega
  refine sorted_uniq ?_ hr hm'
  rw [List.pairwise_iff_getElem] at hs ⊢
  intro i j hi hj hij
  have h1 := hs i j hi hj hij
  refine Nat.lt_of_le_of_ne h1 fun e => ?_
  have := hinj _ ((hm' _).1 (List.getElem_mem hi)) _ ((hm' _).1 (List.getElem_mem hj)) e
  exact absurd this (List.pairwise_iff_getElem.1 hnd i j hi hj hij)

/-- A row lies apart from what is none. -/
theorem row_ne_obj {W : World} {base : Nat} {e : TypeId} {size : Nat} {v : Value} {n : Nat} {xs : List Value} {k : Nat} {o : Obj} (h : W.ownsRow base e size v n xs) (hb : W.heap[k]? = some o) (ho : ∀ cs t z, o ≠ .cells cs t z) : some k ≠ v.ownBlock := by
  rcases h.2 with ⟨rfl, _⟩ | ⟨g, cap, cur, rfl, _, hg, _⟩
  · simp [Value.ownBlock]
  · intro e'
    obtain rfl : k = g := by simpa [Value.ownBlock] using e'
    rw [hg] at hb
    injection hb with hb
    exact ho _ _ _ hb.symm
theorem ranges_row {W W' : World} {b r n : Nat} {D : DataW Unit} {left : Lit → Bool} {cnt base : Nat} {e : TypeId} {size : Nat} {v : Value} {m : Nat} {xs : List Value} (h : W.ranges Try.prog 3 (plainElem Try.prog 3) b r n D left cnt) (hr : W.ownsRow base e size v m xs) (hg : W.grownBy W' v.ownBlock) : W'.ranges Try.prog 3 (plainElem Try.prog 3) b r n D left cnt := by
  have h0 := h
  obtain ⟨es, clock, since, seen, c0, hb, _, _, _, hr', _⟩ := h0
  exact h.kept hg (row_ne_obj hr hb (fun _ _ _ e => by cases e)) (row_ne_obj hr hr' (fun _ _ _ e => by cases e))

theorem below_row {N : Nat} {w W W' : World} {e : TypeId} {size : Nat} {v : Value} {m : Nat} {xs : List Value} (h : Below N w W) (hN : N ≤ w.heap.size) (hr : W.ownsRow w.heap.size e size v m xs) (hg : W.grownBy W' v.ownBlock) : Below N w W' :=
  h.grown hg (by have := h.size; omega) (fun k e => by have := (hr.lt k e).1; omega)

set_option maxRecDepth 100000 in
set_option maxHeartbeats 8000000 in
theorem pieces_c (N sb L n : Nat) (s : St) (w : World) (hS : SpS w N sb L s n) (hL : L ≤ 7) (hn : n ≤ 10000) :
    Calls Try.prog 19 #[.pointer (some ⟨sb, 0, none⟩)] w fun e w' => ∃ v, e = .returned v ∧ w'.ownsRow w.heap.size 37 2 v (s.bl L).length (cellsB (s.bl L)) ∧ Below w.heap.size w w' := by
  obtain ⟨fr, hFr, fb, mb, Ms, M, hP, hF, hT⟩ := hS
  have q1 : w.cell? ⟨sb, 1, none⟩ = some (.map (some (fb 0))) := hP.cf (k := 0) (by omega)
  have q2 : w.cell? ⟨sb, 2, none⟩ = some (.map (some (fb 1))) := hP.cf (k := 1) (by omega)
  have q3 : w.cell? ⟨sb, 3, none⟩ = some (.map (some (fb 2))) := hP.cf (k := 2) (by omega)
  have q4 : w.cell? ⟨sb, 4, none⟩ = some (.map (some (fb 3))) := hP.cf (k := 3) (by omega)
  have q5 : w.cell? ⟨sb, 5, none⟩ = some (.map (some (fb 4))) := hP.cf (k := 4) (by omega)
  have q6 : w.cell? ⟨sb, 6, none⟩ = some (.map (some (fb 5))) := hP.cf (k := 5) (by omega)
  have q7 : w.cell? ⟨sb, 7, none⟩ = some (.map (some (fb 6))) := hP.cf (k := 6) (by omega)
  have q8 : w.cell? ⟨sb, 8, none⟩ = some (.map (some (fb 7))) := hP.cf (k := 7) (by omega)
  obtain ⟨i37, hi37, hx0, hx1, hx2⟩ := info_parts Try.info37
  have hlt := hP.lt
  have HP := hide hP
  have HF := hide hF
  have HFr := hide hFr
  clear hP hF hT hFr
  go_enter Try.func19, Try.ntmps19
  go_wp2
  clear q1 q2 q3 q4 q5 q6 q7 q8
  go_loopw [2, 11] (fun v i wr => ∃ (k : Nat) (acc : List (Nat × Nat)), k ≤ 8 ∧ i = .int .i64 k ∧ acc.length ≤ k * 10000 ∧ Hid (PcO fr k acc) ∧ Hid (wr.ownsRow w.heap.size 37 2 v acc.length (cellsB acc)) ∧ Hid (Below w.heap.size w wr)) (fun _ i _ => 8 - (intOf i).toNat)
  case atStart => exact ⟨0, [], by omega, rfl, by simp, ⟨.nil, fun x => ⟨fun h => (by cases h), fun ⟨i, hi, _⟩ => absurd hi (by omega)⟩⟩, ⟨rfl, .inl ⟨rfl, rfl⟩⟩, Below.refl _ _⟩
  case round =>
    obtain ⟨k, acc, hk, rfl, hacc, HO, HR, Hb⟩ := hrel
    obtain ⟨a, cap, hv⟩ := ownsRow_slice (unhide HR)
    subst hv
    by_cases hk8 : k < 8
    · have hix := index61 fb k hk8
      have hkI : (k : Int) < 8 := by omega
      have hmp := ((unhide HP).below (unhide Hb)).fm k hk8
      have hms := hmp.size_le
      have HTk := hide (unhide HF k hk8)
      obtain ⟨WR, hWR⟩ : ∃ WR, WR = wr := ⟨wr, rfl⟩
      subst hWR
      go_wp2_with (first
        | (at_range; refine wpList_range_own _ rfl _ 60 rfl 3 3 (Maps.int_keyed Try.underlying3) Try.underlying60 _ (fb k) n _ rfl hmp ?_; intro w0 hrg0 hg0 hs0)
        | go_in)
      go_frame
      have Hrg0 := hide hrg0
      have Hb0 := hide ((unhide Hb).grown hg0 (unhide Hb).size (fun j hj => by cases hj))
      have HR0 := hide ((unhide HR).kept hg0 (by cases hv : (Value.slice a acc.length cap).ownBlock <;> simp))
      have HI0 := hide ((unhide HO).inner (unhide HTk))
      have hsz0 := (unhide Hb).size
      clear hrg0 hg0 hs0 hmp
      go_loopw [2] (fun v wr => ∃ (left : Lit → Bool) (cnt : Nat) (acc : List (Nat × Nat)), acc.length + cnt ≤ (k + 1) * 10000 ∧ Hid (PcI fr k left acc) ∧ Hid (wr.ownsRow w.heap.size 37 2 v acc.length (cellsB acc)) ∧ Hid (wr.ranges Try.prog 3 (plainElem Try.prog 3) (fb k) WR.heap.size n (Ms k) left cnt) ∧ Hid (Below w.heap.size w wr)) (fun _ wr => wr.rangeLeft (fb k) WR.heap.size)
      case atStart => exact ⟨_, _, acc, by omega, HI0, HR0, Hrg0, Hb0⟩
      case round =>
        clear Hrg0 Hb0 HR0 HI0 HO HR Hb hacc
        obtain ⟨left, cnt, acc', hcnt, HI, HR, Hrg, Hb⟩ := hrel
        obtain ⟨a', cap', hv⟩ := ownsRow_slice (unhide HR)
        subst hv
        go_wp2_with (first
          | (at_next; refine wpList_next_ranges_ii _ rfl _ rfl 3 3 .i64 .i64 (Maps.int_keyed Try.underlying3) Try.underlying3 Try.underlying3 (fb k) WR.heap.size n _ _ _ rfl (unhide Hrg) ?_ ?_)
          | go_in)
        · intro _ hl0
          have Hd := hide ((unhide HI).done hl0)
          clear hl0
          go_wp2
          go_roundw
          case rel => exact ⟨k + 1, acc', by omega, by go_num, by omega, Hd, HR, Hb⟩
          case measure => simp [intOf]; omega
        · intro x c w1 cnt1 hwx hwc hlx hat hrg1 hlt1 hg1 hs1 hen
          obtain ⟨hx0', hxF⟩ := (unhide HI).lf x hlx
          obtain ⟨X, rfl⟩ : ∃ X : Nat, x = (X : Int) := ⟨x.toNat, by omega⟩
          have hc : c = ((p2 k : Nat) : Int) := by
            have h1 := ((unhide HTk) (X : Int)).2 (2 ^ k) (by unfold frT; rw [if_pos ⟨hx0', hxF⟩])
            have h2 := h1.symm.trans (hat _)
            injection h2 with h2
            injection h2 with _ h2
            exact h2.symm
          subst hc
          have HI1 := hide ((unhide HI).step hlx)
          have hrr := unhide Hrg
          have hR1 := (unhide HR).kept hg1 (.inr (by
            obtain ⟨es, clock, since, seen, c0, hb, _, _, _, hr', _⟩ := hrr
            exact fun e => row_ne_obj (unhide HR) hr' (fun _ _ _ e => by cases e) e.symm))
          have Hb1 := hide ((unhide Hb).grown hg1 (unhide Hb).size (fun j hj => by cases hj; exact hsz0))
          have Hm := hide (show w1.rangeLeft (fb k) WR.heap.size < wr.rangeLeft (fb k) WR.heap.size by rw [hrg1.left_eq, (unhide Hrg).left_eq]; exact hlt1)
          have Hrg1 := hide hrg1
          have hszw := (unhide Hb1).size
          clear hwx hwc hat hrg1 hg1 hs1 hlx hxF hx0' hrr
          go_wp2_with (first
            | (at_builtin; refine wpList_append_own_at _ rfl _ _ 25 rfl w.heap.size 37 i37 _ 2 16 Try.underlying25 hi37 hx0 hx1 hx2 rfl (by decide) _ _ _ rfl (hR1.alloc _) ⟨w1.heap.size, 0, none⟩ 1 1 [.int .i64 (X : Int), .int .i64 ((p2 k : Nat) : Int)] rfl rfl (cell_two_at _ _ _ _ _ rfl) (by simp [Value.oneCell']) (by simp only [maxLen]; omega) (by omega) (by simp; omega) ?_; intro v7 w7 hrow7 hg7 _ hat7; go_frame)
            | go_in)
          have hrg7 := ranges_row ((unhide Hrg1).alloc _) (hR1.alloc (.cells #[.int .i64 (X : Int), .int .i64 ((p2 k : Nat) : Int)] 37)) hg7
          go_roundw
          case rel =>
            refine ⟨_, cnt1, acc' ++ [(X, p2 k)], by simp only [List.length_append, List.length_singleton]; omega, HI1, ?_, hrg7, below_row ((unhide Hb1).alloc hszw _) (Nat.le_refl _) (hR1.alloc _) hg7⟩
            show World.ownsRow _ _ _ _ _ _ _
            rw [List.length_append, cellsB_snoc]
            exact hrow7
          case measure =>
            have := unhide Hm
            rw [(unhide Hrg1).left_eq] at this
            rw [hrg7.left_eq]
            exact this
    · obtain rfl : k = 8 := by omega
      have Hfin : Hid (∀ l', l'.Perm acc → l'.Pairwise (fun x y => x.1 ≤ y.1) → l' = s.bl L) := fun l' h1 h2 => pcO_sorted (unhide HFr) hL (unhide HO) h1 h2
      have hsmall : ∀ x ∈ acc, x.1 < 4096 := by
        intro x hx
        obtain ⟨i, _, _, h1⟩ := ((unhide HO).2 x).1 hx
        have h2 := (unhide HFr).lt h1
        have h3 := two_pos i
        have h4 : 2 ^ L ≤ 256 := p2_le (k := L) (by omega)
        omega
      by_cases h0 : acc.length = 0
      · have hnil : acc = [] := List.eq_nil_of_length_eq_zero h0
        have hc := sort_none_c a cap
        rw [h0] at *
        have he := unhide Hfin [] (by rw [hnil]) .nil
        have HR2 := unhide HR
        rw [hnil] at HR2
        clear hsmall
        go_wp2_with (go_at_call 29; go_must (refine (hc _).mono ?_); go_must (rintro e w' ⟨he, hw⟩; subst he; have hw := hw.symm; subst hw))
        go_ret
        refine ⟨.slice a 0 cap, rfl, ?_, unhide Hb⟩
        rw [← he]
        exact HR2
      · obtain ⟨g, cap2, hv⟩ : ∃ g cap2, Value.slice a acc.length cap = .slice (some ⟨g, 0, none⟩) acc.length cap2 := by
          rcases (unhide HR).2 with ⟨hv, hz⟩ | ⟨g, cap2, cur, hv, _⟩
          · exact absurd hz h0
          · exact ⟨g, cap2, hv⟩
        injection hv with hv1 _ hv2
        subst hv1 hv2
        have Hc := hide (sort_c w.heap.size g cap acc wr (unhide HR) hsmall (by omega))
        clear hsmall
        go_wp2_with (go_at_call 29; go_must (refine (unhide Hc).mono ?_); go_must (rintro e w7 ⟨he, h7⟩; subst he))
        go_ret
        obtain ⟨l', p1, p2', p3, p4⟩ := h7
        have he := unhide Hfin l' p1 p2'
        have hlen := p1.length_eq
        refine ⟨.slice (some ⟨g, 0, none⟩) acc.length cap, rfl, ?_, (unhide Hb).grown p4 (unhide Hb).size (fun j e => by injection e with e; have := ((unhide HR).lt g rfl).1; omega)⟩
        rw [← he]
        rw [hlen] at p3 ⊢
        exact p3

end Go.Proofs.Ytoelnioifjeakaa

/- Walks: Play, where nothing is wrong. -/
namespace Go.Proofs.Ytoelnioifjeakaa
set_option linter.unusedSimpArgs false
set_option linter.unusedVariables false
open Go.RowKit

/-- All asks are numbers of 64 bits. -/
def I64s (sc : List (Int × Int)) : Prop := ∀ x ∈ sc, (-9223372036854775808 ≤ x.1 ∧ x.1 ≤ 9223372036854775807) ∧ (-9223372036854775808 ≤ x.2 ∧ x.2 ≤ 9223372036854775807)

theorem blks_of_row {w : World} {base : Nat} {v : Value} {l : List (Nat × Nat)} (h : w.ownsRow base 37 2 v l.length (cellsB l)) (hs : l.length ≤ 9223372036854775807) : ∃ a cap, v = .slice a l.length cap ∧ Blks w.heap.size w a l := by
  rcases h.2 with ⟨rfl, h0⟩ | ⟨g, cap, cur, rfl, _⟩
  · obtain rfl : l = [] := List.eq_nil_of_length_eq_zero h0
    exact ⟨none, 0, rfl, blks_nil _ _ _⟩
  · exact ⟨_, cap, rfl, blks_of_owns h hs⟩

/-- A row of another type, behind a store in a box of what was told. -/
theorem row_set {W : World} {base : Nat} {e : TypeId} {size : Nat} {v : Value} {n : Nat} {xs : List Value} {tb : Nat} (h : W.ownsRow base e size v n xs) (hb : ∃ cs, W.heap[tb]? = some (.cells cs 27)) (he : e ≠ 27) (j : Nat) (u : Value) : (W.setCell ⟨tb, j, none⟩ u).ownsRow base e size v n xs := by
  obtain ⟨cs, hb⟩ := hb
  exact h.kept (grown_set W tb j u) (.inr (row_ne h hb he))
theorem ty_set {W : World} {tb rb : Nat} (h : ∃ cs, W.heap[rb]? = some (.cells cs 27)) (j : Nat) (u : Value) : ∃ cs, (W.setCell ⟨tb, j, none⟩ u).heap[rb]? = some (.cells cs 27) := by
  obtain ⟨cs, h⟩ := h
  by_cases e : rb = tb
  · subst e
    exact ⟨_, heap_setCell_same W rb j cs 27 u h⟩
  · exact ⟨cs, by rw [Below.heap_setCell _ _ _ _ e]; exact h⟩
theorem row_end {W : World} {base : Nat} {e : TypeId} {size : Nat} {v : Value} {n : Nat} {xs : List Value} {tb rb : Nat} (h : W.ownsRow base e size v n xs) (h1 : ∃ cs, W.heap[tb]? = some (.cells cs 27)) (h2 : ∃ cs, W.heap[rb]? = some (.cells cs 27)) (he : e ≠ 27) (u0 u1 u2 u3 : Value) :
    ((((W.setCell ⟨tb, 2, none⟩ u0).setCell ⟨rb, 0, none⟩ u1).setCell ⟨rb, 1, none⟩ u2).setCell ⟨rb, 2, none⟩ u3).ownsRow base e size v n xs :=
  row_set (row_set (row_set (row_set h h1 he 2 u0) (ty_set h2 2 u0) he 0 u1) (ty_set (ty_set h2 2 u0) 0 u1) he 1 u2) (ty_set (ty_set (ty_set h2 2 u0) 0 u1) 1 u2) he 2 u3

/-- What holds behind k asks. -/
structure PI (w0 wr : World) (N sb tb L : Nat) (sc : List (Int × Int)) (k : Nat) : Prop where
  sp : SpS wr N sb L (stK L sc k) (1 + k * 9)
  told : ∃ vc va, Told wr N tb vc va (codesL L sc k) (atsL L sc k)
  bel : Below N w0 wr

theorem PI.size {w0 wr : World} {N sb tb L : Nat} {sc : List (Int × Int)} {k : Nat} (h : PI w0 wr N sb tb L sc k) : N ≤ wr.heap.size := h.sp.le

set_option maxRecDepth 100000 in
set_option maxHeartbeats 4000000 in
theorem play_good (L : Nat) (a : Option Addr) (c : Nat) (sc : List (Int × Int)) (B : Nat) (w : World) (hL : L ≤ 7) (hn : sc.length ≤ 100) (hA : Asks B w a sc) (hB : B ≤ w.heap.size) (hI : I64s sc) :
    Calls Try.prog 8 #[.int .i64 (L : Nat), .slice a sc.length c] w fun e w' => PlRes (L : Nat) sc w.heap.size e w' ∧ Below w.heap.size w w' := by
  obtain ⟨i28, hi28, hx0, hx1, hx2⟩ := info_parts Try.info28
  obtain ⟨i3, hi3, hy0, hy1, hy2⟩ := info_parts Try.info3
  obtain ⟨W1, hW1⟩ : ∃ W1, W1 = w.alloc (.cells #[.slice none 0 0, .slice none 0 0, .slice none 0 0] 27) := ⟨_, rfl⟩
  have hs1 : W1.heap.size = w.heap.size + 1 := by rw [hW1]; simp
  have hb1 : Below w.heap.size w W1 := by rw [hW1]; exact (Below.refl _ _).alloc (Nat.le_refl _) _
  have hr1 : W1.heap[w.heap.size]? = some (.cells #[.slice none 0 0, .slice none 0 0, .slice none 0 0] 27) := by rw [hW1]; exact heap_alloc_new _ _
  have Hn := hide (newSpace_c L (w.alloc (.cells #[.slice none 0 0, .slice none 0 0, .slice none 0 0] 27)) hL)
  rw [← hW1, hs1] at Hn
  have HW1 := hide hW1
  have d0 : decide ((L : Int) < 0) = false := decide_eq_false (by omega)
  have d1 : decide (7 < (L : Int)) = false := decide_eq_false (by omega)
  have d1' : decide (7 < L) = false := decide_eq_false (by omega)
  have d2 : decide (100 < sc.length) = false := decide_eq_false (by omega)
  have HE : Hid (playE (L : Nat) sc.length = 0) := by
    show _ = _
    unfold playE
    rw [if_neg (by omega), if_neg (by omega)]
  have Hr1 := hide hr1
  have Hs1 := hide hs1
  clear hW1 hr1 hs1
  go_enter Try.func8, Try.ntmps8
  go_wp2_with (first
    | (go_at_call 17; go_must (rw [← unhide HW1]; refine (unhide Hn).mono ?_); go_must (rintro e w6 ⟨he, hS6, hb6⟩; subst he)))
  have Hsz6 := hide hb6.size
  have hwN : w.heap.size + 1 ≤ w6.heap.size := by have := hb6.size; have := unhide Hs1; omega
  have hbw6 : Below w.heap.size w w6 := hb1.trans (hb6.mono (by omega))
  have Hr6 : Hid (w6.heap[w.heap.size]? = some (.cells #[.slice none 0 0, .slice none 0 0, .slice none 0 0] 27)) := (hb6.block _ (by omega)).trans (unhide Hr1)
  have hPI : PI w6 (w6.alloc (.cells #[.slice none 0 0, .slice none 0 0, .slice none 0 0] 27)) (w.heap.size + 1) (w.heap.size + 1 + 1) w6.heap.size L sc 0 := by
    have hb : Below w6.heap.size w6 (w6.alloc (.cells #[.slice none 0 0, .slice none 0 0, .slice none 0 0] 27)) := (Below.refl _ _).alloc (Nat.le_refl _) _
    exact ⟨hS6.below hb, ⟨_, _, heap_alloc_new _ _, World.ownsRow_nil _ _ _ _, World.ownsRow_nil _ _ _ _, hwN⟩, hb.mono hwN⟩
  have HPI := hide hPI
  clear hPI hS6 hb6 Hr1 Hs1 HW1 Hn hb1 Hsz6
  generalize hsbe : w.heap.size + 1 + 1 = sb at *
  clear hsbe
  go_loopw [29] (fun i wr => ∃ k : Nat, k ≤ sc.length ∧ i = .int .i64 k ∧ Hid (PI w6 wr (w.heap.size + 1) sb w6.heap.size L sc k)) (fun i _ => sc.length - (intOf i).toNat)
  case atStart => exact ⟨0, Nat.zero_le _, rfl, HPI⟩
  case round =>
    obtain ⟨k, hk, rfl, HI⟩ := hrel
    by_cases hlt : k < sc.length
    · obtain ⟨q, m, hx⟩ : ∃ q m, sc[k]? = some (q, m) := ⟨sc[k].1, sc[k].2, List.getElem?_eq_getElem hlt⟩
      have hi := hI _ (List.mem_of_getElem? hx)
      simp only at hi
      have hgx : sc.getD k (0, 0) = (q, m) := by simp [List.getD_eq_getElem?_getD, hx]
      have hO := ok_stK L sc k
      have hbw : Below w.heap.size w wr := hbw6.trans ((unhide HI).bel.mono (by omega))
      have hNr := (unhide HI).size
      obtain ⟨b, off, rfl, hbB, y0, y1⟩ := (hA.below (hbw.mono hB)).at hx
      have hbr : b < wr.heap.size := by omega
      have hkI : (k : Int) < (sc.length : Int) := by omega
      obtain ⟨W3, hW3⟩ : ∃ W3, wr.alloc (.cells #[.int .i64 q, .int .i64 m] 39) = W3 := ⟨_, rfl⟩
      have hb3 : Below wr.heap.size wr W3 := by rw [← hW3]; exact (Below.refl _ _).alloc (Nat.le_refl _) _
      have Hc := hide (answer_c q m (w.heap.size + 1) sb L (1 + k * 9) (stK L sc k) W3 ((unhide HI).sp.below hb3) hO hL (by omega) hi.2.1 hi.2.2)
      have Hst : Hid ((stepS L (stK L sc k) (q, m)).2.2 = stK L sc (k + 1) ∧ (stepS L (stK L sc k) (q, m)).1 = codeK L sc k ∧ (stepS L (stK L sc k) (q, m)).2.1 = atK L sc k) := by
        rw [← hgx]; exact ⟨rfl, rfl, rfl⟩
      rw [(unhide Hst).1, (unhide Hst).2.1, (unhide Hst).2.2] at Hc
      have HCs := hide (codesL_succ L sc k)
      have HAs := hide (atsL_succ L sc k)
      have HCl := hide (codesL_len L sc k)
      have HAl := hide (atsL_len L sc k)
      obtain ⟨vc, va, hT⟩ := (unhide HI).told
      have HT3 := hide (hT.below hb3)
      have hm1 : wr.heap.size < W3.heap.size := by rw [← hW3]; simp
      have g0 : W3.cell? ⟨wr.heap.size, 0, none⟩ = some (.int .i64 q) := by rw [← hW3]; simp [go_sem]
      have g1 : W3.cell? ⟨wr.heap.size, 1, none⟩ = some (.int .i64 m) := by rw [← hW3]; simp [go_sem]
      clear hT hx hgx hO Hst
      generalize codeK L sc k = ck at *
      generalize atK L sc k = ak at *
      go_wp2_with fail
      refine (unhide Hc).mono ?_
      rintro e w5 ⟨rfl, hsp5, hb5, hk5⟩
      have hT5 := (unhide HT3).keepM hk5
      obtain ⟨ac, cc, hvc⟩ := ownsRow_slice hT5.rc
      obtain ⟨aa, ca, hva⟩ := ownsRow_slice hT5.ra
      rw [unhide HCl] at hvc
      rw [unhide HAl] at hva
      subst hvc hva
      have t0 := hT5.c0
      have tf0 := hT5.fr 0
      have tlt := hT5.lt
      have hN5 := hsp5.le
      have hrc := hT5.rc
      rw [unhide HCl] at hrc
      have HT5 := hide hT5
      have HS5 := hide hsp5
      have Hb5 := hide ((unhide HI).bel.trans ((hb3.mono hNr).trans hb5))
      clear hT5 hsp5 Hc hW3 g0 g1 hb5 hk5 hm1
      go_wp2_with (first
        | (at_builtin; refine wpList_append_own_at _ rfl _ _ 23 rfl (w.heap.size + 1) 28 i28 _ 1 8 Try.underlying23 hi28 hx0 hx1 hx2 rfl (by decide) _ _ _ rfl (hrc.alloc _) ⟨w5.heap.size, 0, none⟩ 1 1 [.int .i64 ck] rfl rfl (cell_one_at _ _ _ _ rfl) (by simp [Value.oneCell']) (by simp only [maxLen]; omega) (by omega) (by simp; omega) ?_; go_must (intro v7 w7 hrow7 hg7 _ hat7; obtain ⟨g7, c7, hv7⟩ := ownsRow_succ hrow7; subst hv7; have hb55 : Below w5.heap.size w5 (w5.alloc (.cells #[.int .i64 ck] 28)) := (Below.refl _ _).alloc (Nat.le_refl _) _; obtain ⟨hbx7, hT7, hS7⟩ := ((unhide HT5).below hb55).pushC (x := ck) ((unhide HS5).below hb55) (by rw [unhide HCl]; exact hrow7) hg7; have hq0 := cell27_0 hbx7; have hq2 := cell27_1 hbx7; have hqf := frozen_of_row w7 _ 0 _ 27 hbx7; have hq1 : w6.heap.size < w7.heap.size := (Array.getElem?_eq_some_iff.1 hbx7).1; have hra := hT7.ra; rw [unhide HAl] at hra; have Hrc5 := hide hrc; have Hg7 := hide hg7; have hs7 := hg7.size; have Hbx7 := hide hbx7; have HT7 := hide hT7; have HS7 := hide hS7; clear hT7 hS7 hrow7 hg7 hbx7 hrc hat7))
        | (at_builtin; refine wpList_append_own_at _ rfl _ _ 24 rfl (w.heap.size + 1) 3 i3 _ 1 8 Try.underlying24 hi3 hy0 hy1 hy2 rfl (by decide) _ _ _ rfl (hra.alloc _) ⟨w7.heap.size, 0, none⟩ 1 1 [.int .i64 (ak : Nat)] rfl rfl (cell_one_at _ _ _ _ (by simp [World.setCell])) (by simp [Value.oneCell']) (by simp only [maxLen]; omega) (by omega) (by simp [World.setCell] at hs7 ⊢; omega) ?_; go_must (intro v9 w9 hrow9 hg9 _ hat9; obtain ⟨g9, c9, hv9⟩ := ownsRow_succ hrow9; subst hv9; have hb88 := (Below.refl (w7.setCell ⟨w6.heap.size, 0, none⟩ (.slice (some ⟨g7, 0, none⟩) (k + 1) c7)).heap.size (w7.setCell ⟨w6.heap.size, 0, none⟩ (.slice (some ⟨g7, 0, none⟩) (k + 1) c7))).alloc (Nat.le_refl _) (.cells #[.int .i64 (ak : Nat)] 3); obtain ⟨hbx9, hT9, hS9⟩ := ((unhide HT7).below hb88).pushA (x := ((ak : Nat) : Int)) ((unhide HS7).below hb88) (by rw [unhide HAl]; exact hrow9) hg9; have hu1 := cell27_1 hbx9; have huf := frozen_of_row w9 _ 1 _ 27 hbx9; have hu2 : w6.heap.size < w9.heap.size := (Array.getElem?_eq_some_iff.1 hbx9).1; have Hfin : Hid (PI w6 (w9.setCell ⟨w6.heap.size, 1, none⟩ (.slice (some ⟨g9, 0, none⟩) (k + 1) c9)) (w.heap.size + 1) sb w6.heap.size L sc (k + 1)) := ⟨hS9.mono (by omega), ⟨_, _, by rw [unhide HCs, unhide HAs]; exact hT9⟩, ((((((unhide Hb5).alloc hN5 _).grown (unhide Hg7) (by simp; omega) (fun x e => ((unhide Hrc5).lt x e).1)).setCell (p := ⟨w6.heap.size, 0, none⟩) hwN _).alloc (by simp [World.setCell] at hs7 ⊢; omega) _).grown hg9 (by simp [World.setCell] at hs7 ⊢; omega) (fun x e => (hra.lt x e).1)).setCell (p := ⟨w6.heap.size, 1, none⟩) hwN _⟩; clear hT9 hS9 hrow9 hg9 hbx9 hat9 hb88)))
      go_roundw
      case rel => exact ⟨k + 1, by omega, by go_num, Hfin⟩
      case measure => simp [intOf]; omega
    · obtain rfl : k = sc.length := by omega
      have hsp := (unhide HI).sp
      obtain ⟨vc, va, hT⟩ := (unhide HI).told
      have hbel := (unhide HI).bel
      have hNr := (unhide HI).size
      have Hpc := hide (pieces_c (w.heap.size + 1) sb L _ _ wr hsp hL (by omega))
      have hlb := bl_len L (stK L sc sc.length)
      have h256 : 2 ^ L ≤ 256 := p2_le (k := L) (by omega)
      have HIs : Hid (PlIs (L : Nat) sc (codesL L sc sc.length) (atsL L sc sc.length) ((stK L sc sc.length).bl L)) := ⟨fun h => absurd (unhide HE) h, fun _ => ⟨rfl, rfl, rfl⟩⟩
      have HCl := hide (codesL_len L sc sc.length)
      have HAl := hide (atsL_len L sc sc.length)
      have Hlb := hide (Nat.le_trans hlb h256)
      clear hsp hlb h256 HI
      generalize codesL L sc sc.length = C at *
      generalize atsL L sc sc.length = A at *
      generalize (stK L sc sc.length).bl L = F at *
      obtain ⟨ac, cc, hvc⟩ := ownsRow_slice hT.rc
      obtain ⟨aa, ca, hva⟩ := ownsRow_slice hT.ra
      subst hvc hva
      go_wp2_with fail
      refine (unhide Hpc).mono ?_
      rintro e w7 ⟨v7, rfl, hrow7, hb7⟩
      obtain ⟨g7, c7, hv7⟩ := ownsRow_slice hrow7
      subst hv7
      have hT7 := hT.below hb7
      have hrb : w7.heap[w.heap.size]? = some (.cells #[.slice none 0 0, .slice none 0 0, .slice none 0 0] 27) := by rw [hb7.block _ (by omega), hbel.block _ (by omega)]; exact unhide Hr6
      have Hfin : Hid (∀ W, W = (((w7.setCell ⟨w6.heap.size, 2, none⟩ (.slice g7 F.length c7)).setCell ⟨w.heap.size, 0, none⟩ (.slice ac C.length cc)).setCell ⟨w.heap.size, 1, none⟩ (.slice aa A.length ca)).setCell ⟨w.heap.size, 2, none⟩ (.slice g7 F.length c7) → PlRes (L : Nat) sc w.heap.size (.returned (.tuple #[.agg #[.slice ac C.length cc, .slice aa A.length ca, .slice g7 F.length c7], .int .i64 0])) W ∧ Below w.heap.size w W) := by
        intro W hW
        have hw6 : w.heap.size ≤ w6.heap.size := by omega
        refine ⟨?_, by rw [hW]; exact (((((hbw6.trans (hbel.mono (by omega))).trans (hb7.mono (by omega))).setCell (p := ⟨w6.heap.size, 2, none⟩) hw6 _).setCell (p := ⟨w.heap.size, 0, none⟩) (Nat.le_refl _) _).setCell (p := ⟨w.heap.size, 1, none⟩) (Nat.le_refl _) _).setCell (p := ⟨w.heap.size, 2, none⟩) (Nat.le_refl _) _⟩
        have r1 := row_end hT7.rc ⟨_, hT7.box⟩ ⟨_, hrb⟩ (by decide) (.slice g7 F.length c7) (.slice ac C.length cc) (.slice aa A.length ca) (.slice g7 F.length c7)
        have r2 := row_end hT7.ra ⟨_, hT7.box⟩ ⟨_, hrb⟩ (by decide) (.slice g7 F.length c7) (.slice ac C.length cc) (.slice aa A.length ca) (.slice g7 F.length c7)
        have r3 := row_end hrow7 ⟨_, hT7.box⟩ ⟨_, hrb⟩ (by decide) (.slice g7 F.length c7) (.slice ac C.length cc) (.slice aa A.length ca) (.slice g7 F.length c7)
        rw [← hW] at r1 r2 r3
        have hcl := unhide HCl
        have hal := unhide HAl
        have hfl := unhide Hlb
        obtain ⟨a1, c1, e1, n1, _⟩ := nums_of_owns r1 (by omega)
        obtain ⟨a2, c2, e2, n2, l2⟩ := nums_of_owns r2 (by omega)
        obtain ⟨a3, c3, e3, n3⟩ := blks_of_row r3 (by omega)
        injection e1 with e1a _ e1c
        injection e2 with e2a _ e2c
        injection e3 with e3a _ e3c
        subst e1a e1c e2a e2c e3a e3c
        exact ⟨ac, cc, aa, ca, g7, c7, C, A, F, by rw [unhide HE], n1, n2, n3, HIs, l2, fun x hx => (by
          rcases hx with hx | hx | hx
          · have := (r1.lt x.block (by rw [hx]; rfl)).1; omega
          · have := (r2.lt x.block (by rw [hx]; rfl)).1; omega
          · have := (r3.lt x.block (by rw [hx]; rfl)).1; omega)⟩
      have t0 := hT7.c0
      have t1 := hT7.c1
      have t2 := hT7.c2
      have tf2 := hT7.fr 2
      have tlt := hT7.lt
      have b0 := cell27_0 hrb
      have b1 := cell27_1 hrb
      have b2 := cell27_2 hrb
      have bf0 := frozen_of_row w7 _ 0 _ 27 hrb
      have bf1 := frozen_of_row w7 _ 1 _ 27 hrb
      have bf2 := frozen_of_row w7 _ 2 _ 27 hrb
      have hne : w.heap.size ≠ w6.heap.size := by omega
      have hne' : ¬ w6.heap.size = w.heap.size := by omega
      have hlw : w.heap.size < w7.heap.size := by omega
      clear hT hT7 hrb hbel hrow7 hb7 Hpc
      go_wp2
      refine bodyPost_ret (v := .tuple #[.agg #[.slice ac C.length cc, .slice aa A.length ca, .slice g7 F.length c7], .int .i64 0]) (by simp [results, Try.results8, go_sem, b0, b1, b2, hne, hne']) rfl ?_
      exact unhide Hfin _ rfl

end Go.Proofs.Ytoelnioifjeakaa

/- Walks: the yard's pieces. -/
namespace Go.Proofs.Ytoelnioifjeakaa
set_option linter.unusedSimpArgs false
set_option linter.unusedVariables false
open Go.RowKit

theorem clr_zero (T : Nat → Bool) (a : Nat) : clr T a 0 = true := by simp [clr]
theorem clr_succ (T : Nat → Bool) (a t : Nat) : clr T a (t + 1) = (clr T a t && !T (a + t)) := by simp [clr, List.range_succ]
theorem pcs_len (T : Nat → Bool) : ∀ k a, (pcs T k a).length ≤ 2 ^ k
  | 0, a => by unfold pcs; split <;> simp
  | k + 1, a => by
    have h1 := pcs_len T k a
    have h2 := pcs_len T k (a + 2 ^ k)
    have := two_pos (k + 1)
    unfold pcs
    split
    · simp; omega
    · rw [List.length_append, Nat.pow_succ]; omega

/-- What pieces tells. -/
def PcC (N yb tb : Nat) (va vl : Value) (S : Nat) (T : List Bool) (P L : List Int) (la k : Nat) : Prop :=
  ∀ (W : World) (a : Nat), Ym W N yb tb va vl S T P L la → a + p2 k ≤ S → Calls Try.prog 25 #[.pointer (some ⟨yb, 0, none⟩), .int .i64 (a : Nat), .int .i64 (p2 k : Nat)] W fun e w' =>
    ∃ v, e = .returned v ∧ w'.ownsRow W.heap.size 37 2 v (pcs (tF T) k a).length (cellsB (pcs (tF T) k a)) ∧ Below W.heap.size W w'

/-- Two rows while one is put behind the other. -/
structure AP (W0 w : World) (B2 : Nat) (v v2 : Value) (l l2 : List (Nat × Nat)) : Prop where
  r1 : w.ownsRow W0.heap.size 37 2 v l.length (cellsB l)
  r2 : w.ownsRow B2 37 2 v2 l2.length (cellsB l2)
  sep : ∀ k, v2.ownBlock = some k → v.ownBlock ≠ some k
  bel : Below W0.heap.size W0 w

theorem AP.alloc {W0 w : World} {B2 : Nat} {v v2 : Value} {l l2 : List (Nat × Nat)} (h : AP W0 w B2 v v2 l l2) (o : Obj) : AP W0 (w.alloc o) B2 v v2 l l2 :=
  ⟨h.r1.alloc o, h.r2.alloc o, h.sep, h.bel.alloc h.bel.size o⟩
theorem AP.push {W0 w w' : World} {B2 : Nat} {v v2 v' : Value} {l l2 : List (Nat × Nat)} {x : Nat × Nat} (h : AP W0 w B2 v v2 l l2) (hr : w'.ownsRow W0.heap.size 37 2 v' (l.length + 1) (cellsB l ++ [.int .i64 (x.1 : Nat), .int .i64 (x.2 : Nat)])) (hg : w.grownBy w' v.ownBlock) (hat : v'.ownBlock = v.ownBlock ∨ v'.ownBlock = some w.heap.size) :
    AP W0 w' B2 v' v2 (l ++ [x]) l2 := by
  refine ⟨by rw [List.length_append, cellsB_snoc]; exact hr, h.r2.kept hg ?_, fun k hk e => ?_, h.bel.grown hg h.bel.size (fun k e => (h.r1.lt k e).1)⟩
  · cases hv : v2.ownBlock with
    | none => exact .inl rfl
    | some k => exact .inr (fun e => h.sep k hv e.symm)
  · rcases hat with e' | e'
    · exact h.sep k hk (by rw [← e']; exact e)
    · rw [e'] at e
      injection e with e
      have := (h.r2.lt k hk).2
      omega

set_option maxRecDepth 100000 in
set_option maxHeartbeats 4000000 in
theorem ypieces_step (N yb tb : Nat) (va vl : Value) (S : Nat) (T : List Bool) (P L : List Int) (la : Nat) (hS : S ≤ 256) (k : Nat) (hk7 : k ≤ 7) (ih : ∀ k', k = k' + 1 → PcC N yb tb va vl S T P L la k') : PcC N yb tb va vl S T P L la k := by
  intro W a hY ha
  obtain ⟨i37, hi37, hx0, hx1, hx2⟩ := info_parts Try.info37
  have hTl := hY.tlen
  have hpos := p2_pos k
  have Hpc : Hid (clr (tF T) a (p2 k) = true → pcs (tF T) k a = [(a, p2 k)]) := fun h => pcs_clr h
  have Hp0 : Hid (clr (tF T) a (p2 k) = false → k = 0 → pcs (tF T) k a = []) := fun h e => by subst e; exact pcs_zero h
  have Hps : Hid (clr (tF T) a (p2 k) = false → ∀ k', k = k' + 1 → pcs (tF T) k a = pcs (tF T) k' a ++ pcs (tF T) k' (a + p2 k')) := fun h k' e => by subst e; exact pcs_succ h
  have H1 : Hid (k = 0 → p2 k = 1) := fun e => by subst e; rfl
  have H2 : Hid (∀ k', k = k' + 1 → p2 k = p2 k' + p2 k') := fun k' e => by subst e; exact p2_succ k'
  have HY := hide hY
  have Ih := hide ih
  clear hY ih
  generalize hn : p2 k = n at *
  have Hn := hide hn
  clear hn
  go_enter Try.func25, Try.ntmps25
  go_wp2
  go_loopw [7, 8] (fun f i wr => ∃ j : Nat, a ≤ j ∧ j ≤ a + n ∧ f = .bool (clr (tF T) a (j - a)) ∧ i = .int .i64 j ∧ wr = W) (fun _ i _ => a + n - (intOf i).toNat)
  case atStart => exact ⟨a, Nat.le_refl _, by omega, by rw [Nat.sub_self, clr_zero], rfl, rfl⟩
  case round =>
    obtain ⟨j, hj1, hj2, rfl, rfl, rfl⟩ := hrel
    have t0 := (unhide HY).c0
    have tl := (unhide HY).lt
    by_cases hlt : j < a + n
    · obtain ⟨x, hx⟩ : ∃ x, T[j]? = some x := ⟨_, List.getElem?_eq_getElem (by omega)⟩
      have u0 := (unhide HY).tcell hx
      have ul := (unhide HY).tlt.2
      have hjS : (j : Int) < (S : Int) := by omega
      have hxd : tF T j = x := by unfold tF; rw [List.getD_eq_getElem?_getD, hx]; rfl
      have Hs := hide (clr_succ (tF T) a (j - a))
      rw [show a + (j - a) = j by omega, hxd, show j - a + 1 = j + 1 - a by omega] at Hs
      clear hx hxd
      cases x with
      | true =>
        go_wp2
        go_roundw
        case rel => exact ⟨j + 1, by omega, by omega, by rw [unhide Hs]; simp, by go_num, trivial⟩
        case measure => simp [intOf]; omega
      | false =>
        go_wp2
        go_roundw
        case rel => exact ⟨j + 1, by omega, by omega, by rw [unhide Hs]; simp, by go_num, trivial⟩
        case measure => simp [intOf]; omega
    · obtain rfl : j = a + n := by omega
      rw [show a + n - a = n by omega]
      cases hc : clr (tF T) a n with
      | true =>
        have Hl := hide (unhide Hpc hc)
        have hbl : Below wr.heap.size wr (wr.alloc (.cells #[.int .i64 (a : Nat), .int .i64 (n : Nat)] 37)) := (Below.refl _ _).alloc (Nat.le_refl _) _
        have Hrow : Hid ((wr.alloc (.cells #[.int .i64 (a : Nat), .int .i64 (n : Nat)] 37)).ownsRow wr.heap.size 37 2 (.slice (some ⟨wr.heap.size, 0, none⟩) 1 1) 1 (cellsB [(a, n)])) := ⟨rfl, .inr ⟨wr.heap.size, 1, _, rfl, Nat.le_refl _, heap_alloc_new _ _, Nat.le_refl _, by first | omega | (simp only [maxLen]; omega) | decide, rfl, rfl⟩⟩
        go_wp2
        go_ret
        refine ⟨.slice (some ⟨wr.heap.size, 0, none⟩) 1 1, rfl, ?_, hbl⟩
        rw [unhide Hl]
        exact unhide Hrow
      | false =>
        by_cases hk0 : k = 0
        · have Hl := hide (unhide Hp0 hc hk0)
          have hn1 := unhide H1 hk0
          subst hn1
          clear H1 H2 hk0 hlt
          go_wp2
          go_ret
          refine ⟨.slice none 0 0, rfl, ?_, Below.refl _ _⟩
          rw [unhide Hl]
          exact World.ownsRow_nil _ _ _ _
        · obtain ⟨k', hk'⟩ : ∃ k', k = k' + 1 := ⟨k - 1, by omega⟩
          have h2 := unhide H2 k' hk'
          have Hl := hide (unhide Hps hc k' hk')
          have hpos' := p2_pos k'
          have hl1 := pcs_len (tF T) k' a
          have hl2 := pcs_len (tF T) k' (a + p2 k')
          have hp128 : p2 k' ≤ 128 := by
            have : p2 k' ≤ p2 7 := Nat.pow_le_pow_right (by decide) (by omega)
            exact this
          have hl1' : (pcs (tF T) k' a).length ≤ 128 := Nat.le_trans hl1 hp128
          have hl2' : (pcs (tF T) k' (a + p2 k')).length ≤ 128 := Nat.le_trans hl2 hp128
          have C1 := hide (unhide Ih k' hk' wr a (unhide HY) (by omega))
          have C2 : Hid (∀ W', Below wr.heap.size wr W' → Calls Try.prog 25 #[.pointer (some ⟨yb, 0, none⟩), .int .i64 ((a + p2 k' : Nat) : Int), .int .i64 (p2 k' : Nat)] W' fun e w' =>
              ∃ v, e = .returned v ∧ w'.ownsRow W'.heap.size 37 2 v (pcs (tF T) k' (a + p2 k')).length (cellsB (pcs (tF T) k' (a + p2 k'))) ∧ Below W'.heap.size W' w') := fun W' hb => unhide Ih k' hk' W' (a + p2 k') ((unhide HY).below hb) (by omega)
          have hhalf : (n : Int) / 2 = ((p2 k' : Nat) : Int) := by omega
          have hne1 : ((n : Int) == 1) = false := by simp; omega
          have hn256 : n ≤ 256 := by omega
          clear hl1 hl2 H1 H2 Hpc Hp0 Hps Hn t0 tl hc hlt hk' hk0 h2 hj1 hj2
          generalize p2 k' = m at *
          generalize pcs (tF T) k' a = l1 at *
          generalize pcs (tF T) k' (a + m) = l2 at *
          go_wp2_with fail
          refine (unhide C1).mono ?_
          rintro e w1 ⟨v1, rfl, hr1, hb1⟩
          have C2' := hide (unhide C2 w1 hb1)
          have Hr1 := hide hr1
          have Hb1 := hide hb1
          clear hr1 hb1 C1 C2
          go_wp2_with fail
          refine (unhide C2').mono ?_
          rintro e w2 ⟨v2, rfl, hr2, hb2⟩
          obtain ⟨a2, c2, hv2⟩ := ownsRow_slice hr2
          subst hv2
          have hAP : AP wr w2 w1.heap.size v1 (.slice a2 l2.length c2) l1 l2 := by
            refine ⟨ownsRow_below (unhide Hr1) hb2, hr2, fun k h1 h2 => ?_, (unhide Hb1).trans (hb2.mono (unhide Hb1).size)⟩
            have e1 := (hr2.lt k h1).1
            have e2 := ((unhide Hr1).lt k h2).2
            omega
          have HAP := hide hAP
          clear hAP hr2 hb2 Hr1 Hb1 C2' HY Ih
          go_wp2
          obtain ⟨WR, hWR⟩ : ∃ WR, WR = wr := ⟨wr, rfl⟩
          subst hWR
          go_loopw [9, 48] (fun v i wr => ∃ j : Nat, j ≤ l2.length ∧ i = .int .i64 j ∧ Hid (AP WR wr w1.heap.size v (.slice a2 l2.length c2) (l1 ++ l2.take j) l2)) (fun _ i _ => l2.length - (intOf i).toNat)
          case atStart => exact ⟨0, Nat.zero_le _, rfl, by rw [List.take_zero, List.append_nil]; exact HAP⟩
          case round =>
            clear HAP
            obtain ⟨j, hj, rfl, HAP⟩ := hrel
            obtain ⟨av, cv, hv⟩ := ownsRow_slice (unhide HAP).r1
            subst hv
            by_cases hlt : j < l2.length
            · obtain ⟨p, q, hx⟩ : ∃ p q, l2[j]? = some (p, q) := ⟨l2[j].1, l2[j].2, List.getElem?_eq_getElem hlt⟩
              obtain ⟨a3, c3, hv3, hB⟩ := blks_of_row (unhide HAP).r2 (by omega)
              injection hv3 with e3 _ e4
              subst e3 e4
              obtain ⟨b, off, rfl, hbB, y0, y1⟩ := hB.at hx
              have hjI : (j : Int) < (l2.length : Int) := by omega
              have Ht : Hid (l2.take (j + 1) = l2.take j ++ [(p, q)]) := by
                show _ = _
                rw [List.take_add_one, hx]; rfl
              have hll : (l1 ++ l2.take j).length = l1.length + j := by rw [List.length_append, List.length_take]; omega
              have hAP1 := (unhide HAP).alloc (.cells #[.int .i64 (p : Nat), .int .i64 (q : Nat)] 37)
              have hAP2 := hAP1.alloc (.cells #[.int .i64 (p : Nat), .int .i64 (q : Nat)] 37)
              rw [hll] at hAP2
              have HAP2 := hide hAP2
              have hsW := (unhide HAP).bel.size
              have hr1 := (unhide HAP2).r1
              rw [hll] at hr1
              have Hll := hide hll
              rw [hll]
              clear hAP1 hAP2 hB hx hll HAP
              go_wp2_with (first
                | (at_builtin; refine wpList_append_own_at _ rfl _ _ 25 rfl WR.heap.size 37 i37 _ 2 16 Try.underlying25 hi37 hx0 hx1 hx2 rfl (by decide) _ _ _ rfl hr1 ⟨wr.heap.size + 1, 0, none⟩ 1 1 [.int .i64 (p : Nat), .int .i64 (q : Nat)] rfl rfl (cell_two_at _ _ _ _ _ (by simp)) (by simp [Value.oneCell']) (by simp only [maxLen]; omega) (by omega) (by simp; omega) ?_; go_must (intro v7 w7 hrow7 hg7 _ hat7)))
              have H7 := hide ((unhide HAP2).push (x := (p, q)) (by rw [unhide Hll]; exact hrow7) hg7 hat7)
              clear hrow7 hg7 hat7 hr1 HAP2
              go_wp2
              go_roundw
              case rel => exact ⟨j + 1, by omega, by go_num, by rw [unhide Ht, ← List.append_assoc]; exact H7⟩
              case measure => simp [intOf]; omega
            · obtain rfl : j = l2.length := by omega
              have hAP := unhide HAP
              rw [List.take_length] at hAP ⊢
              go_wp2
              go_ret
              refine ⟨_, rfl, ?_, hAP.bel⟩
              rw [unhide Hl]
              exact hAP.r1

theorem ypieces_c (N yb tb : Nat) (va vl : Value) (S : Nat) (T : List Bool) (P L : List Int) (la : Nat) (hS : S ≤ 256) : ∀ k, k ≤ 7 → PcC N yb tb va vl S T P L la k
  | 0, h => ypieces_step N yb tb va vl S T P L la hS 0 h (fun k' e => absurd e (by omega))
  | k + 1, h => ypieces_step N yb tb va vl S T P L la hS (k + 1) h (fun k' e => by
    have : k' = k := by omega
    subst this
    exact ypieces_c N yb tb va vl S T P L la hS k' (by omega))

end Go.Proofs.Ytoelnioifjeakaa
