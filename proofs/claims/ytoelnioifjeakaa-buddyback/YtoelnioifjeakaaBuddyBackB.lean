/- Merged texts: Sm Wa Wb Uc Ux Pe Si Sj Sk Sn Ta Ud Ue. -/
import Derived.Test.YtoelnioifjeakaaProg
import Derived.Test.YtoelnioifjeakaaBuddyBackA
import Derived.Deep.QuietTactic
import Derived.Laws.StructEq
import Derived.Shelf.SlSortCmp.WholeK
import Derived.Shelf.SlSortCmp.NoneTotal
import Derived.Shelf.Small.Bits
import Derived.Ground.SlsfProg
import Derived.ProofKit
import Derived.OpenShut
import Derived.Lib.SmallJoins
import Derived.Deep.Slices
import Derived.Lib.AppendZerosOnto
import Derived.SizedLaws

/- Walks: Play, where something is wrong. -/
namespace Go.Proofs.Ytoelnioifjeakaa
set_option linter.unusedSimpArgs false
set_option linter.unusedVariables false
open Go.RowKit

/-- Which error Play tells. -/
def playE (z : Int) (n : Nat) : Int := if z < 0 ∨ 7 < z then 3 else if 100 < n then 1 else 0

def codesL (L : Nat) (sc : List (Int × Int)) (k : Nat) : List Int := (List.range k).map (codeK L sc)
def atsL (L : Nat) (sc : List (Int × Int)) (k : Nat) : List Int := (List.range k).map fun i => ((atK L sc i : Nat) : Int)
theorem codesL_succ (L : Nat) (sc : List (Int × Int)) (k : Nat) : codesL L sc (k + 1) = codesL L sc k ++ [codeK L sc k] := by simp [codesL, List.range_succ]
theorem atsL_succ (L : Nat) (sc : List (Int × Int)) (k : Nat) : atsL L sc (k + 1) = atsL L sc k ++ [((atK L sc k : Nat) : Int)] := by simp [atsL, List.range_succ]
theorem codesL_len (L : Nat) (sc : List (Int × Int)) (k : Nat) : (codesL L sc k).length = k := by simp [codesL]
theorem atsL_len (L : Nat) (sc : List (Int × Int)) (k : Nat) : (atsL L sc k).length = k := by simp [atsL]

/-- What Play tells, plainly. -/
def PlIs (z : Int) (sc : List (Int × Int)) (C A : List Int) (F : List (Nat × Nat)) : Prop :=
  (playE z sc.length ≠ 0 → C = [] ∧ A = [] ∧ F = []) ∧ (playE z sc.length = 0 → C = codesL z.toNat sc sc.length ∧ A = atsL z.toNat sc sc.length ∧ F = (stK z.toNat sc sc.length).bl z.toNat)

/-- What Play tells, in memory. -/
def PlRes (z : Int) (sc : List (Int × Int)) (B0 : Nat) (e : Ending) (W : World) : Prop :=
  ∃ ac cc aa ca af cf C A F, e = .returned (.tuple #[.agg #[.slice ac C.length cc, .slice aa A.length ca, .slice af F.length cf], .int .i64 (playE z sc.length)]) ∧ Nums W.heap.size W ac C ∧ Nums W.heap.size W aa A ∧ Blks W.heap.size W af F ∧ Hid (PlIs z sc C A F) ∧ A.length ≤ ca ∧ Hid (∀ x : Addr, (ac = some x ∨ aa = some x ∨ af = some x) → B0 ≤ x.block)

theorem plRes_bad {z : Int} {sc : List (Int × Int)} {B0 : Nat} {W : World} {E : Int} (h : playE z sc.length = E) (hE : E ≠ 0) : PlRes z sc B0 (.returned (.tuple #[.agg #[.slice none 0 0, .slice none 0 0, .slice none 0 0], .int .i64 E])) W :=
  ⟨none, 0, none, 0, none, 0, [], [], [], by rw [h]; rfl, nums_nil _ _ _, nums_nil _ _ _, blks_nil _ _ _, ⟨fun _ => ⟨rfl, rfl, rfl⟩, fun h0 => absurd (h.symm.trans h0) hE⟩, Nat.le_refl _, fun x hx => (by rcases hx with hx | hx | hx <;> cases hx)⟩

theorem ownsRow_succ {W : World} {base : Nat} {e : TypeId} {size : Nat} {v : Value} {k : Nat} {xs : List Value} (h : W.ownsRow base e size v (k + 1) xs) : ∃ g cap, v = .slice (some ⟨g, 0, none⟩) (k + 1) cap := by
  rcases h.2 with ⟨_, h⟩ | ⟨g, cap, cur, rfl, _⟩
  · omega
  · exact ⟨g, cap, rfl⟩

theorem cell27_0 {W : World} {tb : Nat} {x y z : Value} (h : W.heap[tb]? = some (.cells #[x, y, z] 27)) : W.cell? ⟨tb, 0, none⟩ = some x := by rw [cell_of_row W tb 0 _ 27 (0, 0) h]; rfl
theorem cell27_1 {W : World} {tb : Nat} {x y z : Value} (h : W.heap[tb]? = some (.cells #[x, y, z] 27)) : W.cell? ⟨tb, 1, none⟩ = some y := by rw [cell_of_row W tb 1 _ 27 (0, 0) h]; rfl
theorem cell27_2 {W : World} {tb : Nat} {x y z : Value} (h : W.heap[tb]? = some (.cells #[x, y, z] 27)) : W.cell? ⟨tb, 2, none⟩ = some z := by rw [cell_of_row W tb 2 _ 27 (0, 0) h]; rfl

set_option maxRecDepth 100000 in
set_option maxHeartbeats 2000000 in
theorem play_bad (z : Int) (a : Option Addr) (c : Nat) (sc : List (Int × Int)) (w : World) (hl : sc.length ≤ 9223372036854775807) (hE : playE z sc.length ≠ 0) :
    Calls Try.prog 8 #[.int .i64 z, .slice a sc.length c] w fun e w' => PlRes z sc w.heap.size e w' ∧ Below w.heap.size w w' := by
  have hbz : Below w.heap.size w (w.alloc (.cells #[.slice none 0 0, .slice none 0 0, .slice none 0 0] 27)) := (Below.refl _ _).alloc (Nat.le_refl _) _
  by_cases hz : z < 0 ∨ 7 < z
  · have HE : Hid (playE z sc.length = 3) := by show _ = _; simp [playE, hz]
    by_cases hz1 : z < 0
    · have d0 : decide (z < 0) = true := decide_eq_true hz1
      clear hz1 hz
      go_enter Try.func8, Try.ntmps8
      go_wp2
      refine bodyPost_ret (v := .tuple #[.agg #[.slice none 0 0, .slice none 0 0, .slice none 0 0], .int .i64 3]) (by simp [results, Try.results8, go_sem]) rfl ⟨plRes_bad (unhide HE) (by decide), ?_⟩
      first | exact hbz | exact ((hbz.setCell (p := ⟨w.heap.size, 0, none⟩) (Nat.le_refl _) _).setCell (p := ⟨w.heap.size, 1, none⟩) (Nat.le_refl _) _).setCell (p := ⟨w.heap.size, 2, none⟩) (Nat.le_refl _) _
    · have d0 : decide (z < 0) = false := decide_eq_false hz1
      have d1' : decide (7 < z) = true := decide_eq_true (by omega)
      clear hz1 hz
      go_enter Try.func8, Try.ntmps8
      go_wp2
      refine bodyPost_ret (v := .tuple #[.agg #[.slice none 0 0, .slice none 0 0, .slice none 0 0], .int .i64 3]) (by simp [results, Try.results8, go_sem]) rfl ⟨plRes_bad (unhide HE) (by decide), ?_⟩
      first | exact hbz | exact ((hbz.setCell (p := ⟨w.heap.size, 0, none⟩) (Nat.le_refl _) _).setCell (p := ⟨w.heap.size, 1, none⟩) (Nat.le_refl _) _).setCell (p := ⟨w.heap.size, 2, none⟩) (Nat.le_refl _) _
  · have d0 : decide (z < 0) = false := decide_eq_false (by omega)
    have d1' : decide (7 < z) = false := decide_eq_false (by omega)
    have hn : 100 < sc.length := by
      refine Classical.byContradiction fun h => hE ?_
      unfold playE
      rw [if_neg hz, if_neg h]
    have HE : Hid (playE z sc.length = 1) := by
      show _ = _
      unfold playE
      rw [if_neg hz, if_pos hn]
    have d2 : decide (100 < sc.length) = true := decide_eq_true hn
    clear hz hE
    go_enter Try.func8, Try.ntmps8
    go_wp2
    refine bodyPost_ret (v := .tuple #[.agg #[.slice none 0 0, .slice none 0 0, .slice none 0 0], .int .i64 1]) (by simp [results, Try.results8, go_sem]) rfl ⟨plRes_bad (unhide HE) (by decide), ?_⟩
    first | exact hbz | exact ((hbz.setCell (p := ⟨w.heap.size, 0, none⟩) (Nat.le_refl _) _).setCell (p := ⟨w.heap.size, 1, none⟩) (Nat.le_refl _) _).setCell (p := ⟨w.heap.size, 2, none⟩) (Nat.le_refl _) _

end Go.Proofs.Ytoelnioifjeakaa

/- Walks: power, twice; what a free piece is. -/
namespace Go.Proofs.Ytoelnioifjeakaa
set_option linter.unusedSimpArgs false
set_option linter.unusedVariables false
open Go.RowKit

theorem p2_succ (k : Nat) : p2 (k + 1) = p2 k + p2 k := by unfold p2; rw [Nat.pow_succ]; omega
theorem p2_lv {n k : Nat} (h : k < lv n) : p2 k < n := by
  have h1 := lv_least (n := n) (by omega)
  have h2 : 2 ^ k ≤ 2 ^ (lv n - 1) := Nat.pow_le_pow_right (by decide) (by omega)
  unfold p2; omega
theorem lv_p2 (k : Nat) : lv (2 ^ k) = k := by
  have h1 := lv_le (n := 2 ^ k) (k := k) (Nat.le_refl _)
  have h2 := lv_ge (2 ^ k)
  refine Nat.le_antisymm h1 (Classical.byContradiction fun h => ?_)
  have := Nat.pow_lt_pow_right (a := 2) (by decide) (show lv (2 ^ k) < k by omega)
  omega

set_option maxHeartbeats 1000000 in
/-- power tells the least power of two. -/
theorem power_c (n : Nat) (h1 : 1 ≤ n) (hn : n ≤ 256) (w : World) : Calls Try.prog 13 #[.int .i64 (n : Nat)] w fun e w' => e = .returned (.int .i64 (p2 (lv n) : Nat)) ∧ w' = w := by
  have hlv : lv n ≤ 8 := lv_le (k := 8) hn
  have Hge := hide (show n ≤ p2 (lv n) from lv_ge n)
  have Hlt : Hid (∀ k, k < lv n → p2 k < n) := fun k h => p2_lv h
  have H0 : Hid (p2 0 = 1) := rfl
  go_enter Try.func13, Try.ntmps13
  go_wp2
  go_loop [3] (fun p => ∃ k : Nat, k ≤ lv n ∧ p = .int .i64 (p2 k : Nat)) (fun p => 512 - (intOf p).toNat)
  case atStart => exact ⟨0, Nat.zero_le _, by rw [unhide H0]; rfl⟩
  case round =>
    obtain ⟨k, hk, rfl⟩ := hrel
    have hp := p2_le (k := k) (by omega)
    have hpos := p2_pos k
    by_cases hlt : k < lv n
    · have h3 := unhide Hlt k hlt
      have Hs := hide (p2_succ k)
      have d1 : decide (p2 k < n) = true := decide_eq_true h3
      have d2 : decide (p2 k ≤ 256) = true := decide_eq_true hp
      go_wp2
      go_round
      case rel => exact ⟨k + 1, hlt, by rw [unhide Hs]; go_num⟩
      case measure => simp [intOf]; omega
    · obtain rfl : k = lv n := by omega
      have h3 := unhide Hge
      have d1 : decide (p2 (lv n) < n) = false := decide_eq_false (by omega)
      go_wp2
      go_ret
      exact ⟨rfl, rfl⟩

set_option maxHeartbeats 1000000 in
/-- twice tells a power of two. -/
theorem twice_c (n : Nat) (hn : n ≤ 8) (w : World) : Calls Try.prog 12 #[.int .i64 (n : Nat)] w fun e w' => e = .returned (.int .i64 (p2 n : Nat)) ∧ w' = w := by
  have H0 : Hid (p2 0 = 1) := rfl
  go_enter Try.func12, Try.ntmps12
  go_wp2
  go_loop [3, 4] (fun p i => ∃ k : Nat, k ≤ n ∧ i = .int .i64 k ∧ p = .int .i64 (p2 k : Nat)) (fun _ i => n - (intOf i).toNat)
  case atStart => exact ⟨0, Nat.zero_le _, rfl, by rw [unhide H0]; rfl⟩
  case round =>
    obtain ⟨k, hk, rfl, rfl⟩ := hrel
    have hp := p2_le (k := k) (by omega)
    by_cases hlt : k < n
    · have Hs := hide (p2_succ k)
      go_wp2
      go_round
      case rel => exact ⟨k + 1, hlt, by go_num, by rw [unhide Hs]; go_num⟩
      case measure => simp [intOf]; omega
    · obtain rfl : k = n := by omega
      go_wp2
      go_ret
      exact ⟨rfl, rfl⟩

/-- Two buddies are not both free. -/
theorem mx_two {T : Nat → Bool} {L k p : Nat} (h : Mx T L k p) (h' : Mx T L k (bud p)) : False := by
  by_cases hk : k < L
  · obtain ⟨w, hw, hT⟩ := h.2.2.2 hk
    rw [dv1] at hw
    rcases bud_two hw with e | e
    · rw [h.2.2.1 w e] at hT; cases hT
    · rw [h'.2.2.1 w e] at hT; cases hT
  · obtain rfl : k = L := by have := h.1; omega
    have h1 := h.2.1
    have h2 := h'.2.1
    simp at h1 h2
    have := bud_ne p
    omega

/-- What a free piece is. -/
structure PieceOk (F : List (Nat × Nat)) (P m : Nat) (t : Int) : Prop where
  pos : 1 ≤ m
  le : P + m ≤ 256
  pw : p2 (lv m) = m
  rem : P % m = 0
  par : (P / m % 2 = 1 ∧ m ≤ P ∧ t = (P : Int) - (m : Int)) ∨ (P / m % 2 = 0 ∧ t = (P : Int) + (m : Int))
  twin : ∀ c ∈ F, c.2 = m → (c.1 : Int) ≠ t

theorem piece_ok {L : Nat} (hL : L ≤ 7) (T : Nat → Bool) {P m : Nat} (h : (P, m) ∈ pcs T L 0) : ∃ t, PieceOk (pcs T L 0) P m t := by
  obtain ⟨k, p, rfl, rfl, hM⟩ := (mem_iff T L P m).1 h
  have h1 := hM.lt
  have h2 : 2 ^ L ≤ 256 := p2_le (k := L) (by omega)
  have h0 := two_pos k
  have hd : p * 2 ^ k / 2 ^ k = p := piece_first k p
  have hno : ∀ c ∈ pcs T L 0, c.2 = 2 ^ k → c.1 ≠ bud p * 2 ^ k := fun c hc e e' => by
    refine mx_two hM ((mem_at T L k (bud p)).1 ?_)
    have e2 : c = (bud p * 2 ^ k, 2 ^ k) := Prod.ext e' e
    rw [e2] at hc; exact hc
  refine ⟨((bud p * 2 ^ k : Nat) : Int), h0, by omega, ?_, Nat.mul_mod_left _ _, ?_, fun c hc e e' => hno c hc e (by omega)⟩
  · rw [lv_p2]; rfl
  · rw [hd]
    unfold bud
    by_cases hp : p % 2 = 0
    · rw [if_pos hp, Nat.succ_mul]
      exact .inr ⟨hp, by omega⟩
    · rw [if_neg hp]
      have e : p = p - 1 + 1 := by omega
      have e2 : p * 2 ^ k = (p - 1) * 2 ^ k + 2 ^ k := by conv => lhs; rw [e, Nat.succ_mul]
      exact .inl ⟨by omega, by omega, by omega⟩

end Go.Proofs.Ytoelnioifjeakaa

/- Walks: codes, Ints; what Play tells of a shorter script. -/
namespace Go.Proofs.Ytoelnioifjeakaa
set_option linter.unusedSimpArgs false
set_option linter.unusedVariables false
open Go.RowKit

theorem playE_ok {z : Int} {n : Nat} (h : playE z n = 0) : 0 ≤ z ∧ z ≤ 7 ∧ n ≤ 100 := by
  unfold playE at h
  split at h
  · cases h
  · split at h
    · cases h
    · omega

/-- What is told of a play that may be. -/
theorem PlIs.good {z : Int} {sc : List (Int × Int)} {C A : List Int} {F : List (Nat × Nat)} (h : PlIs z sc C A F) (hE : playE z sc.length = 0) :
    C.length = sc.length ∧ A.length = sc.length ∧ F = (stK z.toNat sc sc.length).bl z.toNat ∧ F.length ≤ 256 ∧ ∀ x ∈ F, x.1 + x.2 ≤ 256 := by
  obtain ⟨h1, h2, h3⟩ := playE_ok hE
  obtain ⟨rfl, rfl, rfl⟩ := h.2 hE
  have hO := ok_stK z.toNat sc sc.length
  have hl := bl_len z.toNat (stK z.toNat sc sc.length)
  have h4 : 2 ^ z.toNat ≤ 256 := p2_le (k := z.toNat) (by omega)
  exact ⟨codesL_len _ _ _, atsL_len _ _ _, rfl, by omega, fun x hx => by have := (hO.ap.1 x hx).2; omega⟩

set_option maxRecDepth 100000 in
set_option maxHeartbeats 2000000 in
theorem codes_c (a a' : Option Addr) (c c' : Nat) (l l' : List Int) (B : Nat) (w : World) (h : Nums B w a l) (h' : Nums B w a' l') (hB : B ≤ w.heap.size) (hp : ∀ (k : Nat) (x : Int), l[k]? = some x → l'[k]? = some x) (hle : l.length ≤ l'.length) :
    Calls Try.prog 15 #[.slice a l.length c, .slice a' l'.length c'] w fun e w' => e = .returned (.bool true) ∧ Below w.heap.size w w' := by
  have hl := h.1
  have hl' := h'.1
  have d0 : decide (l'.length < l.length) = false := decide_eq_false (by omega)
  have Hp := hide hp
  clear hp
  go_enter Try.func15, Try.ntmps15
  go_wp2
  go_loopw [5] (fun i wr => ∃ k : Nat, k ≤ l.length ∧ i = .int .i64 k ∧ Below w.heap.size w wr) (fun i _ => l.length - (intOf i).toNat)
  case atStart => exact ⟨0, Nat.zero_le _, rfl, Below.refl _ _⟩
  case round =>
    obtain ⟨k, hk, rfl, hb⟩ := hrel
    have hsz := hb.size
    by_cases hlt : k < l.length
    · have hx : l[k]? = some l[k] := List.getElem?_eq_getElem hlt
      obtain ⟨b, off, rfl, hbB, x0⟩ := (h.below (hb.mono hB)).at hx
      obtain ⟨b', off', rfl, hbB', y0⟩ := (h'.below (hb.mono hB)).at (unhide Hp k _ hx)
      have hkI : (k : Int) < (l.length : Int) := by omega
      have hkI' : (k : Int) < (l'.length : Int) := by omega
      have hq : b < wr.heap.size := by omega
      have hq' : b' < wr.heap.size := by omega
      generalize l[k] = x at *
      have d1 : (x != x) = false := by simp
      clear hx
      go_wp2
      go_quiet (fail)
      have hbn := below_drewN hb nq
      clear x0 y0 hq hq'
      generalize wr.drewN nq = wq at *
      go_wp2
      go_roundw
      case rel => exact ⟨k + 1, by omega, by go_num, hbn⟩
      case measure => simp [intOf]; omega
    · obtain rfl : k = l.length := by omega
      go_wp2
      go_ret
      exact ⟨rfl, hb⟩

set_option maxRecDepth 100000 in
set_option maxHeartbeats 2000000 in
theorem ints_c (a a' : Option Addr) (c c' : Nat) (l : List Int) (B : Nat) (w : World) (h : Nums B w a l) (h' : Nums B w a' l) (hB : B ≤ w.heap.size) :
    Calls Try.prog 16 #[.slice a l.length c, .slice a' l.length c'] w fun e w' => e = .returned (.bool true) ∧ Below w.heap.size w w' := by
  have hl := h.1
  have d0 : ((l.length : Int) != (l.length : Int)) = false := by simp
  go_enter Try.func16, Try.ntmps16
  go_wp2
  go_loopw [5] (fun i wr => ∃ k : Nat, k ≤ l.length ∧ i = .int .i64 k ∧ Below w.heap.size w wr) (fun i _ => l.length - (intOf i).toNat)
  case atStart => exact ⟨0, Nat.zero_le _, rfl, Below.refl _ _⟩
  case round =>
    obtain ⟨k, hk, rfl, hb⟩ := hrel
    have hsz := hb.size
    by_cases hlt : k < l.length
    · have hx : l[k]? = some l[k] := List.getElem?_eq_getElem hlt
      obtain ⟨b, off, rfl, hbB, x0⟩ := (h.below (hb.mono hB)).at hx
      obtain ⟨b', off', rfl, hbB', y0⟩ := (h'.below (hb.mono hB)).at hx
      have hkI : (k : Int) < (l.length : Int) := by omega
      have hq : b < wr.heap.size := by omega
      have hq' : b' < wr.heap.size := by omega
      generalize l[k] = x at *
      have d1 : (x != x) = false := by simp
      clear hx
      go_wp2
      go_quiet (fail)
      have hbn := below_drewN hb nq
      clear x0 y0 hq hq'
      generalize wr.drewN nq = wq at *
      go_wp2
      go_roundw
      case rel => exact ⟨k + 1, by omega, by go_num, hbn⟩
      case measure => simp [intOf]; omega
    · obtain rfl : k = l.length := by omega
      go_wp2
      go_ret
      exact ⟨rfl, hb⟩

theorem Asks.take {B : Nat} {w : World} {a : Option Addr} {l : List (Int × Int)} (h : Asks B w a l) (n : Nat) : Asks B w a (l.take n) := by
  refine ⟨by have := h.1; simp; omega, fun hne => ?_⟩
  obtain ⟨b, off, rfl, hB, hc⟩ := h.2 (by rintro rfl; simp at hne)
  refine ⟨b, off, rfl, hB, fun k v hk => hc k v ?_⟩
  rw [List.getElem?_take] at hk
  split at hk
  · exact hk
  · cases hk
theorem Nums.take {B : Nat} {w : World} {a : Option Addr} {l : List Int} (h : Nums B w a l) (n : Nat) : Nums B w a (l.take n) := by
  refine ⟨by have := h.1; simp; omega, fun hne => ?_⟩
  obtain ⟨b, off, rfl, hB, hc⟩ := h.2 (by rintro rfl; simp at hne)
  refine ⟨b, off, rfl, hB, fun k v hk => hc k v ?_⟩
  rw [List.getElem?_take] at hk
  split at hk
  · exact hk
  · cases hk

theorem bounds_u8' {n : Int} (h : (Lit.int .u8 n).wf = true) : 0 ≤ n ∧ n ≤ 255 := by
  simp [Lit.wf, IntKind.min, IntKind.max, IntKind.signed, IntKind.bits] at h
  omega

/-- What is asked later changes nothing. -/
theorem front_same {L : Nat} {sc sc' : List (Int × Int)} {n : Nat} (h : ∀ i, i < n → sc.getD i (0, 0) = sc'.getD i (0, 0)) {k : Nat} (hk : k ≤ n) : codesL L sc k = codesL L sc' k ∧ atsL L sc k = atsL L sc' k ∧ stK L sc k = stK L sc' k := by
  have hst : ∀ i, i ≤ n → stK L sc i = stK L sc' i := fun i hi => stepS_same L (fun j hj => h j (by omega))
  refine ⟨?_, ?_, hst k hk⟩
  · unfold codesL
    refine List.map_congr_left fun i hi => ?_
    have := List.mem_range.1 hi
    unfold codeK
    rw [hst i (by omega), h i (by omega)]
  · unfold atsL
    refine List.map_congr_left fun i hi => ?_
    have := List.mem_range.1 hi
    unfold atK
    rw [hst i (by omega), h i (by omega)]
theorem codesL_take (L : Nat) (sc : List (Int × Int)) (n k : Nat) (h : k ≤ n) : (codesL L sc n).take k = codesL L sc k := by
  unfold codesL
  rw [← List.map_take, List.take_range, Nat.min_eq_left h]
theorem atsL_take (L : Nat) (sc : List (Int × Int)) (n k : Nat) (h : k ≤ n) : (atsL L sc n).take k = atsL L sc k := by
  unfold atsL
  rw [← List.map_take, List.take_range, Nat.min_eq_left h]
theorem getD_take {α : Type} {l : List α} {n i : Nat} {d : α} (h : i < n) : (l.take n).getD i d = l.getD i d := by
  rw [List.getD_eq_getElem?_getD, List.getD_eq_getElem?_getD, List.getElem?_take, if_pos h]

theorem plIs_front {z : Int} {sc : List (Int × Int)} {n : Nat} {C A C' A' : List Int} {F F' : List (Nat × Nat)} (hn : n ≤ sc.length) (h : PlIs z sc C A F) (h' : PlIs z (sc.take n) C' A' F') (hE : playE z sc.length = 0) :
    playE z (sc.take n).length = 0 ∧ C.length = sc.length ∧ A.length = sc.length ∧ C'.length = n ∧ A'.length = n ∧ C.take n = C' ∧ A.take n = A' := by
  obtain ⟨e1, e2, e3⟩ := playE_ok hE
  have hE' : playE z (sc.take n).length = 0 := by
    unfold playE
    rw [if_neg (by omega), if_neg (by simp; omega)]
  obtain ⟨rfl, rfl, rfl⟩ := h.2 hE
  obtain ⟨rfl, rfl, rfl⟩ := h'.2 hE'
  have hl : (sc.take n).length = n := by simp; omega
  have hf := front_same (L := z.toNat) (sc := sc.take n) (sc' := sc) (n := n) (fun i hi => getD_take hi) (Nat.le_refl n)
  rw [hl]
  refine ⟨by rw [hl] at hE'; exact hE', codesL_len _ _ _, atsL_len _ _ _, codesL_len _ _ _, atsL_len _ _ _, ?_, ?_⟩
  · rw [codesL_take _ _ _ _ hn, hf.1]
  · rw [atsL_take _ _ _ _ hn, hf.2.1]

end Go.Proofs.Ytoelnioifjeakaa

/- Scripts that are made; Blocks. -/
namespace Go.Proofs.Ytoelnioifjeakaa
set_option linter.unusedSimpArgs false
set_option linter.unusedVariables false
open Go.RowKit

/-- The cells of asks. -/
def cellsQ (l : List (Int × Int)) : List Value := l.flatMap fun x => [.int .i64 x.1, .int .i64 x.2]
theorem cellsQ_snoc (l : List (Int × Int)) (a n : Int) : cellsQ (l ++ [(a, n)]) = cellsQ l ++ [.int .i64 a, .int .i64 n] := by simp [cellsQ]
theorem cellsQ_len : ∀ (l : List (Int × Int)), (cellsQ l).length = l.length * 2
  | [] => rfl
  | x :: l => by have := cellsQ_len l; simp only [cellsQ, List.flatMap_cons, List.length_append, List.length_cons, List.length_nil] at *; omega
theorem cellsQ_get : ∀ (l : List (Int × Int)) (k : Nat) (x : Int × Int), l[k]? = some x → (cellsQ l)[k * 2]? = some (.int .i64 x.1) ∧ (cellsQ l)[k * 2 + 1]? = some (.int .i64 x.2)
  | [], _, _, h => by simp at h
  | x :: l, 0, v, h => by simp at h; subst h; simp [cellsQ]
  | x :: l, k + 1, v, h => by
    have := cellsQ_get l k v (by simpa using h)
    have e1 : (k + 1) * 2 = k * 2 + 1 + 1 := by omega
    rw [e1]
    simp only [cellsQ, List.flatMap_cons, List.cons_append, List.nil_append, List.getElem?_cons_succ]
    exact this
theorem cellsQ_at : ∀ (l : List (Int × Int)) (j : Nat) (u : Value), (cellsQ l)[j]? = some u → ∃ k x, l[k]? = some x ∧ ((j = k * 2 ∧ u = .int .i64 x.1) ∨ (j = k * 2 + 1 ∧ u = .int .i64 x.2))
  | [], j, u, h => by simp [cellsQ] at h
  | x :: l, 0, u, h => by
    simp [cellsQ] at h
    exact ⟨0, x, rfl, .inl ⟨rfl, h.symm⟩⟩
  | x :: l, 1, u, h => by
    simp [cellsQ] at h
    exact ⟨0, x, rfl, .inr ⟨rfl, h.symm⟩⟩
  | x :: l, j + 2, u, h => by
    simp only [cellsQ, List.flatMap_cons, List.cons_append, List.nil_append, List.getElem?_cons_succ] at h
    obtain ⟨k, y, hk, hy⟩ := cellsQ_at l j u h
    refine ⟨k + 1, y, by simpa using hk, ?_⟩
    rcases hy with ⟨h1, h2⟩ | ⟨h1, h2⟩
    · exact .inl ⟨by omega, h2⟩
    · exact .inr ⟨by omega, h2⟩
theorem cellsQ_one {u : Value} {l : List (Int × Int)} (h : u ∈ cellsQ l) : u.oneCell' = true := by
  simp only [cellsQ, List.mem_flatMap] at h
  obtain ⟨x, _, hx⟩ := h
  simp at hx
  rcases hx with rfl | rfl <;> rfl

theorem Asks.cells {B : Nat} {w : World} {a : Option Addr} {l : List (Int × Int)} (h : Asks B w a l) (hne : 0 < (cellsQ l).length) : ∃ ad, a = some ad ∧ ∀ j v, (cellsQ l)[j]? = some v → w.cell? (ad.add j) = some v := by
  obtain ⟨b, off, rfl, hB, hc⟩ := h.2 (by rintro rfl; simp [cellsQ] at hne)
  refine ⟨_, rfl, fun j v hj => ?_⟩
  obtain ⟨k, x, hk, hx⟩ := cellsQ_at l j v hj
  obtain ⟨h1, h2⟩ := hc k x hk
  rw [Addr.add_lit]
  rcases hx with ⟨rfl, rfl⟩ | ⟨rfl, rfl⟩
  · exact h1
  · rw [← Nat.add_assoc]; exact h2

theorem asks_of_owns {w : World} {base g cap : Nat} {l : List (Int × Int)} (h : w.ownsRow base 39 2 (.slice (some ⟨g, 0, none⟩) l.length cap) l.length (cellsQ l)) (hs : l.length ≤ 9223372036854775807) : Asks w.heap.size w (some ⟨g, 0, none⟩) l := by
  refine ⟨hs, fun _ => ⟨g, 0, rfl, (h.lt g rfl).2, fun k x hk => ?_⟩⟩
  have hlt := (List.getElem?_eq_some_iff.1 hk).1
  obtain ⟨h1, h2⟩ := cellsQ_get l k x hk
  exact ⟨by rw [Nat.zero_add, h.cellAt _ (by omega)]; exact h1, by rw [Nat.zero_add, h.cellAt _ (by omega)]; exact h2⟩

/-- append of a slice that may be nil to a row of the call's own. -/
theorem run_append_q (w : World) (base : Nat) (ty : TypeId) (g cap n : Nat) (xs : List Value) (hown : w.ownsRow base 39 2 (.slice (some ⟨g, 0, none⟩) n cap) n xs) (sp : Option Addr) (m c : Nat) (cs : List Value) (hl : cs.length = m * 2)
    (hpos : 0 < cs.length → ∃ ad, sp = some ad ∧ ∀ j v, cs[j]? = some v → w.cell? (ad.add j) = some v) (h1 : ∀ v ∈ cs, v.oneCell' = true) (hs : n + m ≤ 1000) (hbase : base ≤ w.heap.size) :
    ∃ v' w', (Builtin.append_ #[22, 22] ty #[.slice (some ⟨g, 0, none⟩) n cap, .slice sp m c]).run Try.prog w = .ok v' w' ∧ w'.ownsRow base 39 2 v' (n + m) (xs ++ cs) ∧ w.grownBy w' (some g) ∧ (∃ g' cap', v' = .slice (some ⟨g', 0, none⟩) (n + m) cap') := by
  obtain ⟨i0, hi0, hz0, hz1, hz2⟩ := info_parts Try.info39
  by_cases h0 : cs.length = 0
  · obtain rfl : cs = [] := List.eq_nil_of_length_eq_zero h0
    have hm : m = 0 := by simp at hl; omega
    subst hm
    have hnc : n ≤ cap := by
      rcases hown.2 with ⟨e, _⟩ | ⟨g', cap', cur, e, _, _, h3, _⟩
      · cases e
      · injection e with _ _ e; omega
    have hld : ∀ (x : Addr), (loadCells x 0).run Try.prog w = .ok #[] w := fun x => by simpa using run_loadCells_list (P := Try.prog) w x [] (by simp)
    refine ⟨_, w, ?_, by rw [List.append_nil]; exact hown, ⟨rfl, rfl, rfl, Nat.le_refl _, fun _ _ _ => rfl⟩, ⟨g, cap, rfl⟩⟩
    cases sp <;> simp [Builtin.append_, run_underlying Try.underlying22, sizeOf, typeInfo, hi0, hz1, Builtin.lenOf, hnc, Builtin.firstCells, storeCells, hld]
  · obtain ⟨ad, rfl, hsrc⟩ := hpos (by omega)
    obtain ⟨v', w', hr, h2, h3, h4⟩ := run_append_own (P := Try.prog) w base 22 ty 39 i0 _ 2 16 Try.underlying22 hi0 hz0 hz1 hz2 rfl (by decide) _ n xs hown ad m c cs hl hsrc h1 (by simp only [maxLen]; omega) (by omega) hbase
    refine ⟨v', w', hr, h2, h3, ?_⟩
    obtain ⟨k, hk⟩ : ∃ k, n + m = k + 1 := ⟨n + m - 1, by omega⟩
    rw [hk] at h2 ⊢
    exact ownsRow_succ h2

theorem eql_bin (a1 a2 n1 n2 : Int) (w : World) : (Op.equalIn 10000 37 (.agg #[.int .i64 a1, .int .i64 n1]) (.agg #[.int .i64 a2, .int .i64 n2])).run Try.prog w = .ok (a1 == a2 && n1 == n2) w := by
  have u3 := Try.underlying3
  have a3 := Try.isAgg3
  have z3 := Try.sizeOf3
  have hS : Try.prog.underlying 37 = some (.struct (Try.prog.fieldsOf 37)) := by kernel_rfl
  have hp : Try.prog.stoodInHeld 37 = false := by kernel_rfl
  rw [show (10000 : Nat) = 9999 + 1 from rfl, run_equalIn_agg w 9999 37 _ _ hS hp]
  simp only [Program.fieldsOf, Try.underlying37]
  go_simp
  by_cases h1 : a1 = a2 <;> by_cases h2 : n1 = n2 <;> simp [h1, h2]
theorem neq_b (a1 a2 n1 n2 : Int) (w : World) : (binOp .neq 37 (.agg #[.int .i64 a1, .int .i64 n1]) (.agg #[.int .i64 a2, .int .i64 n2])).run Try.prog w = .ok (.bool (!(a1 == a2 && n1 == n2))) w := by
  rw [run_neq_struct, eql_bin]; rfl

set_option maxRecDepth 100000 in
set_option maxHeartbeats 2000000 in
theorem blocks_c (a a' : Option Addr) (c c' : Nat) (l l' : List (Nat × Nat)) (B : Nat) (w : World) (h : Blks B w a l) (h' : Blks B w a' l') (hB : B ≤ w.heap.size) :
    Calls Try.prog 14 #[.slice a l.length c, .slice a' l'.length c'] w fun e w' => e = .returned (.bool (decide (l = l'))) ∧ Below w.heap.size w w' := by
  have hneq := neq_b
  have hl := h.1
  have hl' := h'.1
  by_cases hL : l.length = l'.length
  · have d0 : ((l.length : Int) != (l'.length : Int)) = false := by simp; omega
    have HL := hide hL
    have hLI : (l.length : Int) ≤ (l'.length : Int) := by omega
    clear hL
    go_enter Try.func14, Try.ntmps14
    go_wp2
    go_loopw [5] (fun i wr => ∃ k : Nat, k ≤ l.length ∧ i = .int .i64 k ∧ Below w.heap.size w wr ∧ Hid (l.take k = l'.take k)) (fun i _ => l.length - (intOf i).toNat)
    case atStart => exact ⟨0, Nat.zero_le _, rfl, Below.refl _ _, rfl⟩
    case round =>
      obtain ⟨k, hk, rfl, hb, HT⟩ := hrel
      have hsz := hb.size
      by_cases hlt : k < l.length
      · have hlt' : k < l'.length := by have := unhide HL; omega
        obtain ⟨p, n, hx⟩ : ∃ p n, l[k]? = some (p, n) := ⟨l[k].1, l[k].2, List.getElem?_eq_getElem hlt⟩
        obtain ⟨p', n', hy⟩ : ∃ p n, l'[k]? = some (p, n) := ⟨l'[k].1, l'[k].2, List.getElem?_eq_getElem hlt'⟩
        obtain ⟨b, off, rfl, hbB, hc0, hc1⟩ := (h.below (hb.mono hB)).at hx
        obtain ⟨b', off', rfl, hbB', hd0, hd1⟩ := (h'.below (hb.mono hB)).at hy
        have hkI : (k : Int) < (l.length : Int) := by omega
        have hkI' : (k : Int) < (l'.length : Int) := by omega
        have hq : b < wr.heap.size := by omega
        have hq' : b' < wr.heap.size := by omega
        by_cases heq : p = p' ∧ n = n'
        · obtain ⟨rfl, rfl⟩ := heq
          have HT2 : Hid (l.take (k + 1) = l'.take (k + 1)) := by
            show _ = _
            rw [List.take_add_one, List.take_add_one, unhide HT, hx, hy]
          have d1 : (!((p : Int) == (p : Int) && (n : Int) == (n : Int))) = false := by simp
          clear hx hy
          go_wp2
          go_quiet (fail)
          have hbn := below_drewN hb nq
          clear hc0 hc1 hd0 hd1 hq hq'
          generalize wr.drewN nq = wq at *
          go_wp2
          go_roundw
          case rel => exact ⟨k + 1, by omega, by go_num, hbn, HT2⟩
          case measure => simp [intOf]; omega
        · have Hne : Hid (decide (l = l') = false) := by
            show _ = _
            refine decide_eq_false fun e => heq ?_
            subst e
            rw [hx] at hy
            simpa using hy
          have d1 : (!((p : Int) == (p' : Int) && (n : Int) == (n' : Int))) = true := by
            simp
            omega
          clear hx hy heq
          go_wp2
          go_quiet (fail)
          have hbn := below_drewN hb nq
          clear hc0 hc1 hd0 hd1 hq hq'
          generalize wr.drewN nq = wq at *
          go_wp2
          go_ret
          exact ⟨by rw [unhide Hne]; rfl, hbn⟩
      · obtain rfl : k = l.length := by omega
        have Heq : Hid (decide (l = l') = true) := by
          show _ = _
          refine decide_eq_true ?_
          have := unhide HT
          rw [List.take_of_length_le (Nat.le_refl _), List.take_of_length_le (by have := unhide HL; omega)] at this
          exact this
        go_wp2
        go_ret
        exact ⟨by rw [unhide Heq]; rfl, hb⟩
  · have d0 : ((l.length : Int) != (l'.length : Int)) = true := by simp; omega
    have Hne : Hid (decide (l = l') = false) := by
      show _ = _
      refine decide_eq_false fun e => hL ?_
      rw [e]
    clear hL
    go_enter Try.func14, Try.ntmps14
    go_wp2
    go_ret
    exact ⟨by rw [unhide Hne]; rfl, Below.refl _ _⟩

end Go.Proofs.Ytoelnioifjeakaa

/- What was told, in a box. -/
namespace Go.Proofs.Ytoelnioifjeakaa
set_option linter.unusedSimpArgs false
set_option linter.unusedVariables false
open Go.RowKit

/-- What was told, in a box. -/
structure FBox (W : World) (fb : Nat) (ac : Option Addr) (nc cc : Nat) (aa : Option Addr) (na ca : Nat) (af : Option Addr) (nf cf : Nat) : Prop where
  c0 : W.cell? ⟨fb, 0, none⟩ = some (.slice ac nc cc)
  c1 : W.cell? ⟨fb, 1, none⟩ = some (.slice aa na ca)
  c2 : W.cell? ⟨fb, 2, none⟩ = some (.slice af nf cf)
theorem FBox.lt {W : World} {fb : Nat} {ac : Option Addr} {nc cc : Nat} {aa : Option Addr} {na ca : Nat} {af : Option Addr} {nf cf : Nat} (h : FBox W fb ac nc cc aa na ca af nf cf) : fb < W.heap.size := World.block_lt_of_cell? W _ h.c0
theorem FBox.below {W W' : World} {fb : Nat} {ac : Option Addr} {nc cc : Nat} {aa : Option Addr} {na ca : Nat} {af : Option Addr} {nf cf : Nat} (h : FBox W fb ac nc cc aa na ca af nf cf) {B : Nat} (hb : Below B W W') (hB : fb < B) : FBox W' fb ac nc cc aa na ca af nf cf :=
  ⟨(hb.cell (p := ⟨fb, 0, none⟩) hB).trans h.c0, (hb.cell (p := ⟨fb, 1, none⟩) hB).trans h.c1, (hb.cell (p := ⟨fb, 2, none⟩) hB).trans h.c2⟩
theorem fbox_new (w2 : World) (ac : Option Addr) (nc cc : Nat) (aa : Option Addr) (na ca : Nat) (af : Option Addr) (nf cf : Nat) : FBox (w2.alloc (.cells #[.slice ac nc cc, .slice aa na ca, .slice af nf cf] 27)) w2.heap.size ac nc cc aa na ca af nf cf :=
  ⟨by simp [go_sem], by simp [go_sem], by simp [go_sem]⟩

theorem Blks.kept {B : Nat} {w w' : World} {a : Option Addr} {l : List (Nat × Nat)} (h : Blks B w a l) (hk : ∀ x : Addr, a = some x → w'.heap[x.block]? = w.heap[x.block]?) : Blks B w' a l := by
  refine ⟨h.1, fun hne => ?_⟩
  obtain ⟨b, off, rfl, hB, hc⟩ := h.2 hne
  have hb := hk _ rfl
  refine ⟨b, off, rfl, hB, fun k v hv => ?_⟩
  rw [World.cell?_of_block (a := ⟨b, off + k * 2, none⟩) hb, World.cell?_of_block (a := ⟨b, off + k * 2 + 1, none⟩) hb]
  exact hc k v hv
theorem Blks.lt {B : Nat} {w : World} {l : List (Nat × Nat)} {x : Addr} (h : Blks B w (some x) l) (hne : l ≠ []) : x.block < B := by
  obtain ⟨b, off, e, hB, _⟩ := h.2 hne
  injection e with e
  subst e
  exact hB

end Go.Proofs.Ytoelnioifjeakaa

/- Plain: words that are taken and given back at once; one ask more. -/
namespace Go.Proofs.Ytoelnioifjeakaa
set_option linter.unusedSimpArgs false
set_option linter.unusedVariables false

theorem getD_append_left {α : Type} {l r : List α} {i : Nat} {d : α} (h : i < l.length) : (l ++ r).getD i d = l.getD i d := by
  rw [List.getD_eq_getElem?_getD, List.getD_eq_getElem?_getD, List.getElem?_append_left h]
theorem getD_append_len {α : Type} {l : List α} {x d : α} : (l ++ [x]).getD l.length d = x := by
  rw [List.getD_eq_getElem?_getD, List.getElem?_append_right (Nat.le_refl _), Nat.sub_self]; rfl

/-- One ask more. -/
theorem stK_snoc (L : Nat) (sc : List (Int × Int)) (x : Int × Int) : stK L (sc ++ [x]) sc.length = stK L sc sc.length ∧ stK L (sc ++ [x]) (sc.length + 1) = (stepS L (stK L sc sc.length) x).2.2 ∧
    codeK L (sc ++ [x]) sc.length = (stepS L (stK L sc sc.length) x).1 ∧ atK L (sc ++ [x]) sc.length = (stepS L (stK L sc sc.length) x).2.1 := by
  have h := stepS_same L (sc := sc ++ [x]) (sc' := sc) (k := sc.length) (fun i hi => getD_append_left hi)
  refine ⟨h, ?_, ?_, ?_⟩
  · rw [stK, h, getD_append_len]
  · rw [codeK, h, getD_append_len]
  · rw [atK, h, getD_append_len]

/-- What a take comes to: refused, with all as it was, or taken. -/
theorem step_take {L : Nat} {s : St} (hO : Ok L s) (n : Int) :
    ((stepS L s (1, n)).1 ≠ 0 ∧ (stepS L s (1, n)).2.2 = s) ∨
    ∃ (k : Nat) (b : Nat × Nat), n = (k : Int) ∧ 1 ≤ k ∧ b ∈ s.bl L ∧ k ≤ b.2 ∧ stepS L s (1, n) = (0, b.1, takeS s b.1 (2 ^ lv k)) := by
  rcases step_cases hO (1, n) with ⟨_, _, e⟩ | ⟨_, k, _, _, _, _, e⟩ | ⟨_, k, b, h1, h2, _, hb, e⟩ | ⟨h, _⟩ | ⟨h, _⟩ | ⟨h, _⟩
  · rw [e]; exact .inl ⟨by simp, rfl⟩
  · rw [e]; exact .inl ⟨by simp, rfl⟩
  · exact .inr ⟨k, b, h1, h2, (best_mem hb).1, (best_mem hb).2, e⟩
  · exact absurd h (show ¬ (1 : Int) = 2 by decide)
  · exact absurd h (show ¬ (1 : Int) = 2 by decide)
  · exact absurd rfl h

theorem step_give {L : Nat} {s : St} {p k : Nat} (h : s.tk (p : Int) = some k) : stepS L s (2, (p : Int)) = (0, 0, giveS s p k) := by
  unfold stepS
  rw [if_neg (show ¬ (2 : Int) = 1 by decide), if_pos rfl]
  simp only [h, Int.toNat_natCast]

/-- Taken and given back: as before. -/
theorem take_give {L n : Nat} {s : St} {b : Nat × Nat} (hb : b ∈ s.bl L) (hn : n ≤ b.2) : (giveS (takeS s b.1 (2 ^ lv n)) b.1 (2 ^ lv n)).bl L = s.bl L ∧ (takeS s b.1 (2 ^ lv n)).bl L ≠ s.bl L := by
  obtain ⟨k, q, rfl, hM, hl, hS, hle⟩ := best_piece hb hn
  simp only at hS hle
  have hfree : ∀ i, q * 2 ^ k ≤ i → i < q * 2 ^ k + 2 ^ lv n → s.tw i = false := fun i h1 h2 => hM.2.2.1 i ((piece_iff k q i).2 ⟨h1, by omega⟩)
  have hpos := two_pos (lv n)
  refine ⟨?_, fun e => ?_⟩
  · have : twGive (twTake s.tw (q * 2 ^ k) (2 ^ lv n)) (q * 2 ^ k) (2 ^ lv n) = s.tw := by
      funext i
      simp only [twGive, twTake]
      by_cases h : q * 2 ^ k ≤ i ∧ i < q * 2 ^ k + 2 ^ lv n
      · rw [hfree i h.1 h.2]; simp [h.1, h.2]
      · by_cases h1 : q * 2 ^ k ≤ i
        · have h2 : ¬ i < q * 2 ^ k + 2 ^ lv n := fun h2 => h ⟨h1, h2⟩
          simp [h2]
        · simp [h1]
    show pcs (twGive (twTake s.tw (q * 2 ^ k) (2 ^ lv n)) (q * 2 ^ k) (2 ^ lv n)) L 0 = pcs s.tw L 0
    rw [this]
  · have h1 : inB (s.bl L) (q * 2 ^ k) := (bl_iff L s _).2 ⟨by omega, hfree _ (Nat.le_refl _) (by omega)⟩
    rw [← e] at h1
    exact ((take_inB L s _ _ _).1 h1).2 ⟨Nat.le_refl _, by simp only; omega⟩

end Go.Proofs.Ytoelnioifjeakaa

/- slices.SortFunc at blocks, by place. -/
namespace Go.Proofs.Ytoelnioifjeakaa
open Go.Shelf
def Try.sortB_ren : Go.Shelf.Ren := ⟨fun | 6 => 29 | 15 => 37 | 14 => 36 | 28 => 47 | 29 => 48 | 20 => 39 | 21 => 40 | 22 => 41 | 23 => 42 | 24 => 43 | 25 => 44 | 26 => 45 | 27 => 46 | 46 => 49 | 47 => 50 | 48 => 51 | 49 => 52 | 50 => 53 | 57 => 54 | n => n, fun | 22 => 25 | 24 => 37 | 25 => 67 | 3 => 3 | 39 => 75 | 0 => 0 | 53 => 85 | 55 => 87 | 4 => 4 | 46 => 79 | 45 => 78 | 50 => 71 | 5 => 5 | 9 => 9 | 66 => 88 | 70 => 92 | 76 => 94 | 77 => 54 | n => n, fun | n => n⟩
theorem Try.sortB : Go.Proofs.SlLaysF0.n6 Try.prog Try.sortB_ren := {
  mixed := by kernel_rfl
  f6 := ⟨Try.f29.name, by decide, Try.func29.trans (congrArg some (by kernel_rfl))⟩
  f14 := ⟨Try.f36.name, by decide, Try.func36.trans (congrArg some (by kernel_rfl))⟩
  f15 := Try.func37.trans (congrArg some (by kernel_rfl))
  f20 := ⟨Try.f39.name, by decide, Try.func39.trans (congrArg some (by kernel_rfl))⟩
  f21 := ⟨Try.f40.name, by decide, Try.func40.trans (congrArg some (by kernel_rfl))⟩
  f22 := ⟨Try.f41.name, by decide, Try.func41.trans (congrArg some (by kernel_rfl))⟩
  f23 := ⟨Try.f42.name, by decide, Try.func42.trans (congrArg some (by kernel_rfl))⟩
  f24 := ⟨Try.f43.name, by decide, Try.func43.trans (congrArg some (by kernel_rfl))⟩
  f25 := ⟨Try.f44.name, by decide, Try.func44.trans (congrArg some (by kernel_rfl))⟩
  f26 := ⟨Try.f45.name, by decide, Try.func45.trans (congrArg some (by kernel_rfl))⟩
  f27 := ⟨Try.f46.name, by decide, Try.func46.trans (congrArg some (by kernel_rfl))⟩
  f28 := Try.func47.trans (congrArg some (by kernel_rfl))
  f29 := Try.func48.trans (congrArg some (by kernel_rfl))
  f46 := ⟨Try.f49.name, by decide, Try.func49.trans (congrArg some (by kernel_rfl))⟩
  f47 := Try.func50.trans (congrArg some (by kernel_rfl))
  f48 := Try.func51.trans (congrArg some (by kernel_rfl))
  f49 := ⟨Try.f52.name, by decide, Try.func52.trans (congrArg some (by kernel_rfl))⟩
  f50 := ⟨Try.f53.name, by decide, Try.func53.trans (congrArg some (by kernel_rfl))⟩
  f57 := ⟨Try.f54.name, by decide, Try.func54.trans (congrArg some (by kernel_rfl))⟩
  t0 := Try.underlying0
  a0 := Try.isAgg0
  z0 := Try.sizeOf0
  v0 := Try.zeroValue0
  t3 := Try.underlying3
  a3 := Try.isAgg3
  z3 := Try.sizeOf3
  v3 := Try.zeroValue3
  t4 := Try.underlying4
  a4 := Try.isAgg4
  z4 := Try.sizeOf4
  v4 := Try.zeroValue4
  t5 := Try.underlying5
  a5 := Try.isAgg5
  z5 := Try.sizeOf5
  v5 := Try.zeroValue5
  t9 := Try.underlying9
  a9 := Try.isAgg9
  z9 := Try.sizeOf9
  v9 := Try.zeroValue9
  t22 := Try.underlying25
  a22 := Try.isAgg25
  z22 := Try.sizeOf25
  v22 := Try.zeroValue25
  t25 := Try.underlying67
  a25 := Try.isAgg67
  z25 := Try.sizeOf67
  v25 := Try.zeroValue67
  t39 := Try.underlying75
  a39 := Try.isAgg75
  z39 := Try.sizeOf75
  v39 := Try.zeroValue75
  t45 := Try.underlying78
  a45 := Try.isAgg78
  z45 := Try.sizeOf78
  v45 := Try.zeroValue78
  t46 := Try.underlying79
  a46 := Try.isAgg79
  z46 := Try.sizeOf79
  v46 := Try.zeroValue79
  t50 := Try.underlying71
  a50 := Try.isAgg71
  z50 := Try.sizeOf71
  v50 := Try.zeroValue71
  t53 := Try.underlying85
  a53 := Try.isAgg85
  z53 := Try.sizeOf85
  v53 := Try.zeroValue85
  t55 := Try.underlying87
  a55 := Try.isAgg87
  z55 := Try.sizeOf87
  v55 := Try.zeroValue87
  t66 := Try.underlying88
  a66 := Try.isAgg88
  z66 := Try.sizeOf88
  v66 := Try.zeroValue88
  t70 := Try.underlying92
  a70 := Try.isAgg92
  z70 := Try.sizeOf92
  v70 := Try.zeroValue92
  t76 := Try.underlying94
  a76 := Try.isAgg94
  z76 := Try.sizeOf94
  v76 := Try.zeroValue94
  t77 := Try.underlying54
  a77 := Try.isAgg54
  z77 := Try.sizeOf54
  v77 := Try.zeroValue54 }
end Go.Proofs.Ytoelnioifjeakaa
namespace Go.Proofs.Ytoelnioifjeakaa
set_option linter.unusedSimpArgs false
set_option linter.unusedVariables false
open Go.RowKit Go.Sort Go.Lib Go.Shelf

/-- A block whose place is small. -/
abbrev Bk := Fin 4096 × Nat
def bkOf (x : Nat × Nat) : Bk := (⟨x.1 % 4096, Nat.mod_lt _ (by decide)⟩, x.2)
def bkTo (x : Bk) : Nat × Nat := (x.1.val, x.2)
theorem bk_back {x : Nat × Nat} (h : x.1 < 4096) : bkTo (bkOf x) = x := by
  unfold bkTo bkOf; simp only [Nat.mod_eq_of_lt h]
def encB (x : Bk) : List Value := [.int .i64 (x.1.val : Int), .int .i64 (x.2 : Int)]
def cfB (x y : Bk) : Int := (x.1.val : Int) - (y.1.val : Int)

theorem ltB (x y : Bk) : ltOf cfB x y = decide (x.1.val < y.1.val) := by
  unfold ltOf cfB
  by_cases h : x.1.val < y.1.val
  · rw [decide_eq_true h, decide_eq_true (by omega)]
  · rw [decide_eq_false h, decide_eq_false (by omega)]
theorem swoB : SWO (ltOf cfB) where
  irrefl x := by rw [ltB]; simp
  trans x y z h1 h2 := by rw [ltB] at *; simp only [decide_eq_true_eq] at *; omega
  ntrans x y z h1 h2 := by rw [ltB] at *; simp only [decide_eq_false_iff_not] at *; omega

set_option maxHeartbeats 1000000 in
/-- The closure: by place. -/
theorem cmp_c (x y : Bk) (W : World) : Calls Try.prog 30 #[.agg #[.int .i64 (x.1.val : Int), .int .i64 (x.2 : Int)], .agg #[.int .i64 (y.1.val : Int), .int .i64 (y.2 : Int)]] W fun e w' => e = .returned (.int .i64 (cfB x y)) ∧ ∃ q os', w' = grow (W.drewN q) os' := by
  have Hc : Hid (cfB x y = (x.1.val : Int) - (y.1.val : Int)) := rfl
  have h1 := x.1.isLt
  have h2 := y.1.isLt
  generalize x.1.val = a at *
  generalize y.1.val = b at *
  generalize x.2 = c at *
  generalize y.2 = d at *
  rw [unhide Hc]
  go_enter Try.func30, Try.ntmps30
  go_wp2
  go_ret
  exact ⟨rfl, 0, _, by rw [alloc_eq_grow, alloc_eq_grow, grow_grow]; rfl⟩

theorem cmpB (blk off size : Nat) (w : World) : CmpLays Try.prog 30 #[] encB 2 cfB blk off size w := fun _ _ _ _ x y => cmp_c x y _

end Go.Proofs.Ytoelnioifjeakaa

/- slices.SortFunc at a row of blocks that the call owns. -/
namespace Go.Proofs.Ytoelnioifjeakaa
set_option linter.unusedSimpArgs false
set_option linter.unusedVariables false
open Go.RowKit Go.Sort Go.Lib Go.Shelf

theorem flat_cells (d : Array Bk) : (flatK encB 2 d).toList = cellsB (d.toList.map bkTo) := by
  apply List.ext_getElem?
  intro t
  by_cases ht : t < d.size * 2
  · have hs : t < (flatK encB 2 d).size := by simp [ht]
    have hk : t / 2 < d.size := by omega
    have h1 : (flatK encB 2 d).toList[t]? = some ((encB d[t / 2]!)[t % 2]!) := by
      rw [Array.getElem?_toList, Array.getElem?_eq_getElem hs, ← getElem!_pos _ t hs, get_flatK _ _ _ _ ht]
    have h2 : (d.toList.map bkTo)[t / 2]? = some (bkTo d[t / 2]!) := by
      rw [List.getElem?_map, Array.getElem?_toList, Array.getElem?_eq_getElem hk, getElem!_pos d (t / 2) hk]; rfl
    obtain ⟨c1, c2⟩ := cellsB_get _ _ _ h2
    rw [h1]
    by_cases hm : t % 2 = 0
    · rw [hm]
      rw [show t / 2 * 2 = t by omega] at c1
      rw [c1]; rfl
    · rw [show t % 2 = 1 by omega]
      rw [show t / 2 * 2 + 1 = t by omega] at c2
      rw [c2]; rfl
  · rw [List.getElem?_eq_none (by simp; omega), List.getElem?_eq_none (by rw [cellsB_len]; simp; omega)]

theorem heap_sortedB {w : World} {g n : Nat} {os : Array Obj} {cur : Array Value} {e : TypeId} {fr : Nat × Nat} (d : Array Bk) (hb : w.heap[g]? = some (.cells cur e fr)) :
    (sortWorldK encB 2 w g 0 n d os).heap[g]? = some (.cells (putCells id 0 (flatK encB 2 d) cur) e fr) := by
  have hg : g < w.heap.size := (Array.getElem?_eq_some_iff.1 hb).1
  unfold sortWorldK putRowK
  rw [heap_grow_old _ _ (by simpa using hg)]
  simp [putRow, mapBlock, Sort.ahead, Array.getElem?_modify, hb, onCells]
theorem grownBy_sortedB {w : World} {g n : Nat} {os : Array Obj} (d : Array Bk) : w.grownBy (sortWorldK encB 2 w g 0 n d os) (some g) := by
  unfold sortWorldK putRowK
  refine ⟨rfl, rfl, rfl, by simp, fun k hk hne => ?_⟩
  rw [heap_grow_old _ _ (by simpa using hk)]
  have : g ≠ k := fun e => hne (by rw [e])
  simp [putRow, mapBlock, Sort.ahead, Array.getElem?_modify, this]
theorem take_putCellsB (cur : Array Value) (F : Array Value) (h : F.size ≤ cur.size) : (putCells id 0 F cur).toList.take F.size = F.toList := by
  apply List.ext_getElem?
  intro j
  by_cases hj : j < F.size
  · rw [List.getElem?_take_of_lt hj, Array.getElem?_toList, Array.getElem?_toList]
    simp [putCells, hj, show j < cur.size by omega]
  · rw [List.getElem?_take_eq_none (by omega), List.getElem?_eq_none (by simp; omega)]

theorem holds_of_row {w : World} {base g cap : Nat} {l : List (Nat × Nat)} {cur : Array Value} {e : TypeId} (hb : w.heap[g]? = some (.cells cur e (0, 0))) (ht : cur.toList.take (l.length * 2) = cellsB l) (hl : ∀ x ∈ l, x.1 < 4096) : HoldsK encB 2 w g 0 (l.map bkOf).toArray := by
  have hfl : (flatK encB 2 (l.map bkOf).toArray).toList = cellsB l := by
    rw [flat_cells]
    congr 1
    simp only [List.map_map]
    conv => rhs; rw [← List.map_id l]
    exact List.map_congr_left fun x hx => bk_back (hl x hx)
  intro j hj
  have hj' : j < l.length * 2 := by simpa using hj
  refine ⟨?_, by simp [World.frozen?, hb]⟩
  have h1 : (cur.toList.take (l.length * 2))[j]? = (cellsB l)[j]? := by rw [ht]
  rw [List.getElem?_take_of_lt hj', ← hfl] at h1
  simp only [World.cell?, hb, Nat.zero_add]
  simp only [Option.isSome_none, Bool.false_eq_true, if_false]
  rw [← Array.getElem?_toList, h1, Array.getElem?_toList, Array.getElem?_eq_getElem hj, getElem!_pos _ j hj]
  rfl

/-- What the sort leaves. -/
def SrtRes (base g cap : Nat) (l : List (Nat × Nat)) (w W : World) : Prop :=
  ∃ l' : List (Nat × Nat), l'.Perm l ∧ l'.Pairwise (fun x y => x.1 ≤ y.1) ∧ W.ownsRow base 37 2 (.slice (some ⟨g, 0, none⟩) l'.length cap) l'.length (cellsB l') ∧ w.grownBy W (some g)

set_option maxHeartbeats 1000000 in
theorem sort_c (base g cap : Nat) (l : List (Nat × Nat)) (w : World) (hR : w.ownsRow base 37 2 (.slice (some ⟨g, 0, none⟩) l.length cap) l.length (cellsB l)) (hl : ∀ x ∈ l, x.1 < 4096) (hlen : l.length ≤ 1000000) :
    Calls Try.prog 29 #[.slice (some ⟨g, 0, none⟩) l.length cap, .func (.func 30) #[] #[]] w fun e w' => e = .returned (.tuple #[]) ∧ SrtRes base g cap l w w' := by
  rcases hR.2 with ⟨hv, _⟩ | ⟨g', cap', cur, hv, hb1, hb2, hc1, hc2, hc3, htk⟩
  · cases hv
  · injection hv with e1 e2 e3
    injection e1 with e1
    injection e1 with e1
    subst e1 e3
    have hH := holds_of_row (base := base) (cap := cap) hb2 htk hl
    have eg : ∀ args w, (callFunc 30 args).run Try.prog w = .ok (.enter 30 args) w := enters_of Try.func30 (by kernel_rfl) rfl
    have hcon := AnyQ.slices_SortFunc Try.sortB 2 Try.isAgg37 Try.sizeOf37 encB (fun _ => rfl) (fun x v hv => by simp [encB] at hv; rcases hv with rfl | rfl <;> rfl) cfB swoB 30 #[] g 0 cap (l.map bkOf).toArray w eg (cmpB g 0 _ w) hH (Array.getElem?_eq_some_iff.1 hb2).1 (by simp; omega)
    change Calls Try.prog 29 _ _ _ at hcon
    have es : (l.map bkOf).toArray.size = l.length := by simp
    rw [es] at hcon
    refine hcon.mono ?_
    rintro e w' ⟨rfl, d', n, os, hp, hs, rfl⟩
    refine ⟨rfl, d'.toList.map bkTo, ?_, ?_, ?_, grownBy_sortedB d'⟩
    · obtain ⟨h1, _, h3⟩ := hp
      have e1 : d'.extract 0 l.length = d' := by rw [← es, ← h1]; exact Array.extract_size
      have e2 : (l.map bkOf).toArray.extract 0 l.length = (l.map bkOf).toArray := by
        have : (l.map bkOf).toArray.extract 0 (l.map bkOf).toArray.size = (l.map bkOf).toArray := Array.extract_size
        rwa [es] at this
      rw [e1, e2] at h3
      have h4 := h3.map bkTo
      have e3 : (l.map bkOf).toArray.toList.map bkTo = l := by
        simp only [List.map_map]
        conv => rhs; rw [← List.map_id l]
        exact List.map_congr_left fun x hx => bk_back (hl x hx)
      rwa [e3] at h4
    · have hsz : d'.size = l.length := by rw [hp.1, es]
      rw [List.pairwise_iff_getElem]
      intro i j hi hj hij
      simp only [List.length_map, Array.length_toList] at hi hj
      have := hs i j (Nat.zero_le _) hij (by omega)
      rw [ltB, decide_eq_false_iff_not, getElem!_pos d' i hi, getElem!_pos d' j hj] at this
      simp only [List.getElem_map, Array.getElem_toList, bkTo]
      omega
    · have hsz : d'.size = l.length := by rw [hp.1, es]
      have hl' : (d'.toList.map bkTo).length = l.length := by simp [hsz]
      rw [hl']
      refine ⟨by rw [cellsB_len, hl'], .inr ⟨g, cap, _, rfl, hb1, heap_sortedB d' hb2, hc1, hc2, by simp [putCells, hc3], ?_⟩⟩
      have hfs : (flatK encB 2 d').size = l.length * 2 := by simp [hsz]
      rw [← hfs, take_putCellsB cur _ (by rw [hfs, hc3]; omega), flat_cells]

theorem sort_none_c (p : Option Addr) (cap : Nat) (w : World) : Calls Try.prog 29 #[.slice p 0 cap, .func (.func 30) #[] #[]] w fun e w' => e = .returned (.tuple #[]) ∧ w' = w := by
  have hcon := AnyF.slices_SortFunc_none (P := Try.prog) (ρ := Try.sortB_ren) { Try.sortB with } p cap (.func (.func 30) #[] #[]) w
  change Calls Try.prog 29 _ _ _ at hcon
  exact hcon

end Go.Proofs.Ytoelnioifjeakaa

/- Walks: pieces. -/
namespace Go.Proofs.Ytoelnioifjeakaa
set_option linter.unusedSimpArgs false
set_option linter.unusedVariables false
open Go.RowKit

/-- The pieces of the levels below k; and those of level k that have come. -/
def PcO (fr : Nat → Nat → Bool) (k : Nat) (l : List (Nat × Nat)) : Prop := l.Nodup ∧ ∀ x, x ∈ l ↔ ∃ i, i < k ∧ x.2 = 2 ^ i ∧ fr i x.1 = true
structure PcI (fr : Nat → Nat → Bool) (k : Nat) (left : Lit → Bool) (l : List (Nat × Nat)) : Prop where
  nd : l.Nodup
  mem : ∀ x, x ∈ l ↔ (∃ i, i < k ∧ x.2 = 2 ^ i ∧ fr i x.1 = true) ∨ (x.2 = 2 ^ k ∧ fr k x.1 = true ∧ left (.int .i64 (x.1 : Int)) = false)
  lf : ∀ x : Int, left (.int .i64 x) = true → 0 ≤ x ∧ fr k x.toNat = true

theorem PcO.inner {fr : Nat → Nat → Bool} {k : Nat} {l : List (Nat × Nat)} {M : DataW Unit} {s : Nat} (h : PcO fr k l) (hT : TkD M (frT (fr k) s)) : PcI fr k (Maps.has M) l := by
  refine ⟨h.1, fun x => ?_, fun x hx => (tkD_has hT x).1 hx⟩
  rw [h.2 x]
  constructor
  · exact .inl
  · rintro (h1 | ⟨_, h2, h3⟩)
    · exact h1
    · rw [(tkD_has hT x.1).2 ⟨by omega, by simpa using h2⟩] at h3; cases h3
theorem PcI.step {fr : Nat → Nat → Bool} {k : Nat} {left : Lit → Bool} {l : List (Nat × Nat)} {X : Nat} (h : PcI fr k left l) (hl : left (.int .i64 (X : Int)) = true) : PcI fr k (fun z => left z && !z.sameKey (.int .i64 (X : Int))) (l ++ [(X, 2 ^ k)]) := by
  obtain ⟨_, hX⟩ := h.lf X hl
  rw [Int.toNat_natCast] at hX
  have hn : (X, 2 ^ k) ∉ l := by
    rw [h.mem]
    rintro (⟨i, hi, e, _⟩ | ⟨_, _, e⟩)
    · have := two_inj e; omega
    · simp only at e; rw [hl] at e; cases e
  refine ⟨?_, fun x => ?_, fun x hx => h.lf x ((strike_int left X x).1 hx).1⟩
  · rw [List.nodup_append]
    refine ⟨h.nd, by simp, fun a ha b hb => ?_⟩
    simp at hb; subst hb
    rintro rfl; exact hn ha
  · rw [List.mem_append, h.mem x, List.mem_singleton]
    have hst := strike_int left X (x.1 : Int)
    constructor
    · rintro ((h1 | ⟨h1, h2, h3⟩) | rfl)
      · exact .inl h1
      · refine .inr ⟨h1, h2, ?_⟩
        simp only [h3, Bool.false_and]
      · refine .inr ⟨rfl, hX, ?_⟩
        cases hc : (left (.int .i64 (X : Int)) && !(Lit.int .i64 (X : Int)).sameKey (.int .i64 (X : Int))) with
        | false => rfl
        | true => exact absurd rfl (hst.1 hc).2
    · rintro (h1 | ⟨h1, h2, h3⟩)
      · exact .inl (.inl h1)
      · by_cases e : x.1 = X
        · exact .inr (Prod.ext e h1)
        · refine .inl (.inr ⟨h1, h2, ?_⟩)
          cases hc : left (.int .i64 (x.1 : Int)) with
          | false => rfl
          | true =>
            have := hst.2 ⟨hc, by omega⟩
            rw [this] at h3; cases h3
theorem PcI.done {fr : Nat → Nat → Bool} {k : Nat} {left : Lit → Bool} {l : List (Nat × Nat)} (h : PcI fr k left l) (hl : ∀ kl, left kl = false) : PcO fr (k + 1) l := by
  refine ⟨h.nd, fun x => ?_⟩
  rw [h.mem]
  constructor
  · rintro (⟨i, h1, h2⟩ | ⟨h1, h2, _⟩)
    · exact ⟨i, by omega, h2⟩
    · exact ⟨k, by omega, h1, h2⟩
  · rintro ⟨i, h1, h2, h3⟩
    by_cases e : i = k
    · subst e; exact .inr ⟨h2, h3, hl _⟩
    · exact .inl ⟨i, by omega, h2, h3⟩

/-- Sorted, they are the free pieces by place. -/
theorem pcO_sorted {T : Nat → Bool} {L : Nat} {fr : Nat → Nat → Bool} {l l' : List (Nat × Nat)} (hF : FrOk T L fr) (hL : L ≤ 7) (h : PcO fr 8 l) (hp : l'.Perm l) (hs : l'.Pairwise (fun x y => x.1 ≤ y.1)) : l' = pcs T L 0 := by
  have hm : ∀ x, x ∈ l ↔ x ∈ pcs T L 0 := fun x => by
    rw [h.2 x]
    constructor
    · rintro ⟨i, _, h1, h2⟩
      have := (hF i x.1).1 h2
      rwa [← h1] at this
    · intro hx
      obtain ⟨i, p, h1, h2, hM⟩ := (mem_iff T L x.1 x.2).1 hx
      exact ⟨i, by have := hM.1; omega, h2, (hF i x.1).2 (by rw [← h2]; exact hx)⟩
  have hr := pcs_rise T L
  have hnd : l'.Nodup := hp.nodup_iff.2 h.1
  have hm' : ∀ x, x ∈ l' ↔ x ∈ pcs T L 0 := fun x => hp.mem_iff.trans (hm x)
  have hinj : ∀ x ∈ pcs T L 0, ∀ y ∈ pcs T L 0, x.1 = y.1 → x = y := by
    intro x hx y hy e
    obtain ⟨i, hi⟩ := List.getElem?_of_mem hx
    obtain ⟨j, hj⟩ := List.getElem?_of_mem hy
    obtain ⟨hi', hi2⟩ := List.getElem?_eq_some_iff.1 hi
    obtain ⟨hj', hj2⟩ := List.getElem?_eq_some_iff.1 hj
    rcases Nat.lt_trichotomy i j with h1 | h1 | h1
    · have := List.pairwise_iff_getElem.1 hr i j hi' hj' h1; rw [hi2, hj2] at this; omega
    · subst h1; rw [← hi2, ← hj2]
    · have := List.pairwise_iff_getElem.1 hr j i hj' hi' h1; rw [hi2, hj2] at this; omega
  refine sorted_uniq ?_ hr hm'
  rw [List.pairwise_iff_getElem] at hs ⊢
  intro i j hi hj hij
  have h1 := hs i j hi hj hij
  refine Nat.lt_of_le_of_ne h1 fun e => ?_
  have := hinj _ ((hm' _).1 (List.getElem_mem hi)) _ ((hm' _).1 (List.getElem_mem hj)) e
  exact absurd this (List.pairwise_iff_getElem.1 hnd i j hi hj hij)

/-- A row lies apart from what is none. -/
theorem row_ne_obj {W : World} {base : Nat} {e : TypeId} {size : Nat} {v : Value} {n : Nat} {xs : List Value} {k : Nat} {o : Obj} (h : W.ownsRow base e size v n xs) (hb : W.heap[k]? = some o) (ho : ∀ cs t z, o ≠ .cells cs t z) : some k ≠ v.ownBlock := by
  rcases h.2 with ⟨rfl, _⟩ | ⟨g, cap, cur, rfl, _, hg, _⟩
  · simp [Value.ownBlock]
  · intro e'
    obtain rfl : k = g := by simpa [Value.ownBlock] using e'
    rw [hg] at hb
    injection hb with hb
    exact ho _ _ _ hb.symm
theorem ranges_row {W W' : World} {b r n : Nat} {D : DataW Unit} {left : Lit → Bool} {cnt base : Nat} {e : TypeId} {size : Nat} {v : Value} {m : Nat} {xs : List Value} (h : W.ranges Try.prog 3 (plainElem Try.prog 3) b r n D left cnt) (hr : W.ownsRow base e size v m xs) (hg : W.grownBy W' v.ownBlock) : W'.ranges Try.prog 3 (plainElem Try.prog 3) b r n D left cnt := by
  have h0 := h
  obtain ⟨es, clock, since, seen, c0, hb, _, _, _, hr', _⟩ := h0
  exact h.kept hg (row_ne_obj hr hb (fun _ _ _ e => by cases e)) (row_ne_obj hr hr' (fun _ _ _ e => by cases e))

theorem below_row {N : Nat} {w W W' : World} {e : TypeId} {size : Nat} {v : Value} {m : Nat} {xs : List Value} (h : Below N w W) (hN : N ≤ w.heap.size) (hr : W.ownsRow w.heap.size e size v m xs) (hg : W.grownBy W' v.ownBlock) : Below N w W' :=
  h.grown hg (by have := h.size; omega) (fun k e => by have := (hr.lt k e).1; omega)

set_option maxRecDepth 100000 in
set_option maxHeartbeats 8000000 in
theorem pieces_c (N sb L n : Nat) (s : St) (w : World) (hS : SpS w N sb L s n) (hL : L ≤ 7) (hn : n ≤ 10000) :
    Calls Try.prog 19 #[.pointer (some ⟨sb, 0, none⟩)] w fun e w' => ∃ v, e = .returned v ∧ w'.ownsRow w.heap.size 37 2 v (s.bl L).length (cellsB (s.bl L)) ∧ Below w.heap.size w w' := by
  obtain ⟨fr, hFr, fb, mb, Ms, M, hP, hF, hT⟩ := hS
  have q1 : w.cell? ⟨sb, 1, none⟩ = some (.map (some (fb 0))) := hP.cf (k := 0) (by omega)
  have q2 : w.cell? ⟨sb, 2, none⟩ = some (.map (some (fb 1))) := hP.cf (k := 1) (by omega)
  have q3 : w.cell? ⟨sb, 3, none⟩ = some (.map (some (fb 2))) := hP.cf (k := 2) (by omega)
  have q4 : w.cell? ⟨sb, 4, none⟩ = some (.map (some (fb 3))) := hP.cf (k := 3) (by omega)
  have q5 : w.cell? ⟨sb, 5, none⟩ = some (.map (some (fb 4))) := hP.cf (k := 4) (by omega)
  have q6 : w.cell? ⟨sb, 6, none⟩ = some (.map (some (fb 5))) := hP.cf (k := 5) (by omega)
  have q7 : w.cell? ⟨sb, 7, none⟩ = some (.map (some (fb 6))) := hP.cf (k := 6) (by omega)
  have q8 : w.cell? ⟨sb, 8, none⟩ = some (.map (some (fb 7))) := hP.cf (k := 7) (by omega)
  obtain ⟨i37, hi37, hx0, hx1, hx2⟩ := info_parts Try.info37
  have hlt := hP.lt
  have HP := hide hP
  have HF := hide hF
  have HFr := hide hFr
  clear hP hF hT hFr
  go_enter Try.func19, Try.ntmps19
  go_wp2
  clear q1 q2 q3 q4 q5 q6 q7 q8
  go_loopw [2, 11] (fun v i wr => ∃ (k : Nat) (acc : List (Nat × Nat)), k ≤ 8 ∧ i = .int .i64 k ∧ acc.length ≤ k * 10000 ∧ Hid (PcO fr k acc) ∧ Hid (wr.ownsRow w.heap.size 37 2 v acc.length (cellsB acc)) ∧ Hid (Below w.heap.size w wr)) (fun _ i _ => 8 - (intOf i).toNat)
  case atStart => exact ⟨0, [], by omega, rfl, by simp, ⟨.nil, fun x => ⟨fun h => (by cases h), fun ⟨i, hi, _⟩ => absurd hi (by omega)⟩⟩, ⟨rfl, .inl ⟨rfl, rfl⟩⟩, Below.refl _ _⟩
  case round =>
    obtain ⟨k, acc, hk, rfl, hacc, HO, HR, Hb⟩ := hrel
    obtain ⟨a, cap, hv⟩ := ownsRow_slice (unhide HR)
    subst hv
    by_cases hk8 : k < 8
    · have hix := index61 fb k hk8
      have hkI : (k : Int) < 8 := by omega
      have hmp := ((unhide HP).below (unhide Hb)).fm k hk8
      have hms := hmp.size_le
      have HTk := hide (unhide HF k hk8)
      obtain ⟨WR, hWR⟩ : ∃ WR, WR = wr := ⟨wr, rfl⟩
      subst hWR
      go_wp2_with (first
        | (at_range; refine wpList_range_own _ rfl _ 60 rfl 3 3 (Maps.int_keyed Try.underlying3) Try.underlying60 _ (fb k) n _ rfl hmp ?_; intro w0 hrg0 hg0 hs0)
        | go_in)
      go_frame
      have Hrg0 := hide hrg0
      have Hb0 := hide ((unhide Hb).grown hg0 (unhide Hb).size (fun j hj => by cases hj))
      have HR0 := hide ((unhide HR).kept hg0 (by cases hv : (Value.slice a acc.length cap).ownBlock <;> simp))
      have HI0 := hide ((unhide HO).inner (unhide HTk))
      have hsz0 := (unhide Hb).size
      clear hrg0 hg0 hs0 hmp
      go_loopw [2] (fun v wr => ∃ (left : Lit → Bool) (cnt : Nat) (acc : List (Nat × Nat)), acc.length + cnt ≤ (k + 1) * 10000 ∧ Hid (PcI fr k left acc) ∧ Hid (wr.ownsRow w.heap.size 37 2 v acc.length (cellsB acc)) ∧ Hid (wr.ranges Try.prog 3 (plainElem Try.prog 3) (fb k) WR.heap.size n (Ms k) left cnt) ∧ Hid (Below w.heap.size w wr)) (fun _ wr => wr.rangeLeft (fb k) WR.heap.size)
      case atStart => exact ⟨_, _, acc, by omega, HI0, HR0, Hrg0, Hb0⟩
      case round =>
        clear Hrg0 Hb0 HR0 HI0 HO HR Hb hacc
        obtain ⟨left, cnt, acc', hcnt, HI, HR, Hrg, Hb⟩ := hrel
        obtain ⟨a', cap', hv⟩ := ownsRow_slice (unhide HR)
        subst hv
        go_wp2_with (first
          | (at_next; refine wpList_next_ranges_ii _ rfl _ rfl 3 3 .i64 .i64 (Maps.int_keyed Try.underlying3) Try.underlying3 Try.underlying3 (fb k) WR.heap.size n _ _ _ rfl (unhide Hrg) ?_ ?_)
          | go_in)
        · intro _ hl0
          have Hd := hide ((unhide HI).done hl0)
          clear hl0
          go_wp2
          go_roundw
          case rel => exact ⟨k + 1, acc', by omega, by go_num, by omega, Hd, HR, Hb⟩
          case measure => simp [intOf]; omega
        · intro x c w1 cnt1 hwx hwc hlx hat hrg1 hlt1 hg1 hs1 hen
          obtain ⟨hx0', hxF⟩ := (unhide HI).lf x hlx
          obtain ⟨X, rfl⟩ : ∃ X : Nat, x = (X : Int) := ⟨x.toNat, by omega⟩
          have hc : c = ((p2 k : Nat) : Int) := by
            have h1 := ((unhide HTk) (X : Int)).2 (2 ^ k) (by unfold frT; rw [if_pos ⟨hx0', hxF⟩])
            have h2 := h1.symm.trans (hat _)
            injection h2 with h2
            injection h2 with _ h2
            exact h2.symm
          subst hc
          have HI1 := hide ((unhide HI).step hlx)
          have hrr := unhide Hrg
          have hR1 := (unhide HR).kept hg1 (.inr (by
            obtain ⟨es, clock, since, seen, c0, hb, _, _, _, hr', _⟩ := hrr
            exact fun e => row_ne_obj (unhide HR) hr' (fun _ _ _ e => by cases e) e.symm))
          have Hb1 := hide ((unhide Hb).grown hg1 (unhide Hb).size (fun j hj => by cases hj; exact hsz0))
          have Hm := hide (show w1.rangeLeft (fb k) WR.heap.size < wr.rangeLeft (fb k) WR.heap.size by rw [hrg1.left_eq, (unhide Hrg).left_eq]; exact hlt1)
          have Hrg1 := hide hrg1
          have hszw := (unhide Hb1).size
          clear hwx hwc hat hrg1 hg1 hs1 hlx hxF hx0' hrr
          go_wp2_with (first
            | (at_builtin; refine wpList_append_own_at _ rfl _ _ 25 rfl w.heap.size 37 i37 _ 2 16 Try.underlying25 hi37 hx0 hx1 hx2 rfl (by decide) _ _ _ rfl (hR1.alloc _) ⟨w1.heap.size, 0, none⟩ 1 1 [.int .i64 (X : Int), .int .i64 ((p2 k : Nat) : Int)] rfl rfl (cell_two_at _ _ _ _ _ rfl) (by simp [Value.oneCell']) (by simp only [maxLen]; omega) (by omega) (by simp; omega) ?_; intro v7 w7 hrow7 hg7 _ hat7; go_frame)
            | go_in)
          have hrg7 := ranges_row ((unhide Hrg1).alloc _) (hR1.alloc (.cells #[.int .i64 (X : Int), .int .i64 ((p2 k : Nat) : Int)] 37)) hg7
          go_roundw
          case rel =>
            refine ⟨_, cnt1, acc' ++ [(X, p2 k)], by simp only [List.length_append, List.length_singleton]; omega, HI1, ?_, hrg7, below_row ((unhide Hb1).alloc hszw _) (Nat.le_refl _) (hR1.alloc _) hg7⟩
            show World.ownsRow _ _ _ _ _ _ _
            rw [List.length_append, cellsB_snoc]
            exact hrow7
          case measure =>
            have := unhide Hm
            rw [(unhide Hrg1).left_eq] at this
            rw [hrg7.left_eq]
            exact this
    · obtain rfl : k = 8 := by omega
      have Hfin : Hid (∀ l', l'.Perm acc → l'.Pairwise (fun x y => x.1 ≤ y.1) → l' = s.bl L) := fun l' h1 h2 => pcO_sorted (unhide HFr) hL (unhide HO) h1 h2
      have hsmall : ∀ x ∈ acc, x.1 < 4096 := by
        intro x hx
        obtain ⟨i, _, _, h1⟩ := ((unhide HO).2 x).1 hx
        have h2 := (unhide HFr).lt h1
        have h3 := two_pos i
        have h4 : 2 ^ L ≤ 256 := p2_le (k := L) (by omega)
        omega
      by_cases h0 : acc.length = 0
      · have hnil : acc = [] := List.eq_nil_of_length_eq_zero h0
        have hc := sort_none_c a cap
        rw [h0] at *
        have he := unhide Hfin [] (by rw [hnil]) .nil
        have HR2 := unhide HR
        rw [hnil] at HR2
        clear hsmall
        go_wp2_with (go_at_call 29; go_must (refine (hc _).mono ?_); go_must (rintro e w' ⟨he, hw⟩; subst he; have hw := hw.symm; subst hw))
        go_ret
        refine ⟨.slice a 0 cap, rfl, ?_, unhide Hb⟩
        rw [← he]
        exact HR2
      · obtain ⟨g, cap2, hv⟩ : ∃ g cap2, Value.slice a acc.length cap = .slice (some ⟨g, 0, none⟩) acc.length cap2 := by
          rcases (unhide HR).2 with ⟨hv, hz⟩ | ⟨g, cap2, cur, hv, _⟩
          · exact absurd hz h0
          · exact ⟨g, cap2, hv⟩
        injection hv with hv1 _ hv2
        subst hv1 hv2
        have Hc := hide (sort_c w.heap.size g cap acc wr (unhide HR) hsmall (by omega))
        clear hsmall
        go_wp2_with (go_at_call 29; go_must (refine (unhide Hc).mono ?_); go_must (rintro e w7 ⟨he, h7⟩; subst he))
        go_ret
        obtain ⟨l', p1, p2', p3, p4⟩ := h7
        have he := unhide Hfin l' p1 p2'
        have hlen := p1.length_eq
        refine ⟨.slice (some ⟨g, 0, none⟩) acc.length cap, rfl, ?_, (unhide Hb).grown p4 (unhide Hb).size (fun j e => by injection e with e; have := ((unhide HR).lt g rfl).1; omega)⟩
        rw [← he]
        rw [hlen] at p3 ⊢
        exact p3

end Go.Proofs.Ytoelnioifjeakaa

/- Walks: Play, where nothing is wrong. -/
namespace Go.Proofs.Ytoelnioifjeakaa
set_option linter.unusedSimpArgs false
set_option linter.unusedVariables false
open Go.RowKit

/-- All asks are numbers of 64 bits. -/
def I64s (sc : List (Int × Int)) : Prop := ∀ x ∈ sc, (-9223372036854775808 ≤ x.1 ∧ x.1 ≤ 9223372036854775807) ∧ (-9223372036854775808 ≤ x.2 ∧ x.2 ≤ 9223372036854775807)

theorem blks_of_row {w : World} {base : Nat} {v : Value} {l : List (Nat × Nat)} (h : w.ownsRow base 37 2 v l.length (cellsB l)) (hs : l.length ≤ 9223372036854775807) : ∃ a cap, v = .slice a l.length cap ∧ Blks w.heap.size w a l := by
  rcases h.2 with ⟨rfl, h0⟩ | ⟨g, cap, cur, rfl, _⟩
  · obtain rfl : l = [] := List.eq_nil_of_length_eq_zero h0
    exact ⟨none, 0, rfl, blks_nil _ _ _⟩
  · exact ⟨_, cap, rfl, blks_of_owns h hs⟩

/-- A row of another type, behind a store in a box of what was told. -/
theorem row_set {W : World} {base : Nat} {e : TypeId} {size : Nat} {v : Value} {n : Nat} {xs : List Value} {tb : Nat} (h : W.ownsRow base e size v n xs) (hb : ∃ cs, W.heap[tb]? = some (.cells cs 27)) (he : e ≠ 27) (j : Nat) (u : Value) : (W.setCell ⟨tb, j, none⟩ u).ownsRow base e size v n xs := by
  obtain ⟨cs, hb⟩ := hb
  exact h.kept (grown_set W tb j u) (.inr (row_ne h hb he))
theorem ty_set {W : World} {tb rb : Nat} (h : ∃ cs, W.heap[rb]? = some (.cells cs 27)) (j : Nat) (u : Value) : ∃ cs, (W.setCell ⟨tb, j, none⟩ u).heap[rb]? = some (.cells cs 27) := by
  obtain ⟨cs, h⟩ := h
  by_cases e : rb = tb
  · subst e
    exact ⟨_, heap_setCell_same W rb j cs 27 u h⟩
  · exact ⟨cs, by rw [Below.heap_setCell _ _ _ _ e]; exact h⟩
theorem row_end {W : World} {base : Nat} {e : TypeId} {size : Nat} {v : Value} {n : Nat} {xs : List Value} {tb rb : Nat} (h : W.ownsRow base e size v n xs) (h1 : ∃ cs, W.heap[tb]? = some (.cells cs 27)) (h2 : ∃ cs, W.heap[rb]? = some (.cells cs 27)) (he : e ≠ 27) (u0 u1 u2 u3 : Value) :
    ((((W.setCell ⟨tb, 2, none⟩ u0).setCell ⟨rb, 0, none⟩ u1).setCell ⟨rb, 1, none⟩ u2).setCell ⟨rb, 2, none⟩ u3).ownsRow base e size v n xs :=
  row_set (row_set (row_set (row_set h h1 he 2 u0) (ty_set h2 2 u0) he 0 u1) (ty_set (ty_set h2 2 u0) 0 u1) he 1 u2) (ty_set (ty_set (ty_set h2 2 u0) 0 u1) 1 u2) he 2 u3

/-- What holds behind k asks. -/
structure PI (w0 wr : World) (N sb tb L : Nat) (sc : List (Int × Int)) (k : Nat) : Prop where
  sp : SpS wr N sb L (stK L sc k) (1 + k * 9)
  told : ∃ vc va, Told wr N tb vc va (codesL L sc k) (atsL L sc k)
  bel : Below N w0 wr

theorem PI.size {w0 wr : World} {N sb tb L : Nat} {sc : List (Int × Int)} {k : Nat} (h : PI w0 wr N sb tb L sc k) : N ≤ wr.heap.size := h.sp.le

set_option maxRecDepth 100000 in
set_option maxHeartbeats 4000000 in
theorem play_good (L : Nat) (a : Option Addr) (c : Nat) (sc : List (Int × Int)) (B : Nat) (w : World) (hL : L ≤ 7) (hn : sc.length ≤ 100) (hA : Asks B w a sc) (hB : B ≤ w.heap.size) (hI : I64s sc) :
    Calls Try.prog 8 #[.int .i64 (L : Nat), .slice a sc.length c] w fun e w' => PlRes (L : Nat) sc w.heap.size e w' ∧ Below w.heap.size w w' := by
  obtain ⟨i28, hi28, hx0, hx1, hx2⟩ := info_parts Try.info28
  obtain ⟨i3, hi3, hy0, hy1, hy2⟩ := info_parts Try.info3
  obtain ⟨W1, hW1⟩ : ∃ W1, W1 = w.alloc (.cells #[.slice none 0 0, .slice none 0 0, .slice none 0 0] 27) := ⟨_, rfl⟩
  have hs1 : W1.heap.size = w.heap.size + 1 := by rw [hW1]; simp
  have hb1 : Below w.heap.size w W1 := by rw [hW1]; exact (Below.refl _ _).alloc (Nat.le_refl _) _
  have hr1 : W1.heap[w.heap.size]? = some (.cells #[.slice none 0 0, .slice none 0 0, .slice none 0 0] 27) := by rw [hW1]; exact heap_alloc_new _ _
  have Hn := hide (newSpace_c L (w.alloc (.cells #[.slice none 0 0, .slice none 0 0, .slice none 0 0] 27)) hL)
  rw [← hW1, hs1] at Hn
  have HW1 := hide hW1
  have d0 : decide ((L : Int) < 0) = false := decide_eq_false (by omega)
  have d1 : decide (7 < (L : Int)) = false := decide_eq_false (by omega)
  have d1' : decide (7 < L) = false := decide_eq_false (by omega)
  have d2 : decide (100 < sc.length) = false := decide_eq_false (by omega)
  have HE : Hid (playE (L : Nat) sc.length = 0) := by
    show _ = _
    unfold playE
    rw [if_neg (by omega), if_neg (by omega)]
  have Hr1 := hide hr1
  have Hs1 := hide hs1
  clear hW1 hr1 hs1
  go_enter Try.func8, Try.ntmps8
  go_wp2_with (first
    | (go_at_call 17; go_must (rw [← unhide HW1]; refine (unhide Hn).mono ?_); go_must (rintro e w6 ⟨he, hS6, hb6⟩; subst he)))
  have Hsz6 := hide hb6.size
  have hwN : w.heap.size + 1 ≤ w6.heap.size := by have := hb6.size; have := unhide Hs1; omega
  have hbw6 : Below w.heap.size w w6 := hb1.trans (hb6.mono (by omega))
  have Hr6 : Hid (w6.heap[w.heap.size]? = some (.cells #[.slice none 0 0, .slice none 0 0, .slice none 0 0] 27)) := (hb6.block _ (by omega)).trans (unhide Hr1)
  have hPI : PI w6 (w6.alloc (.cells #[.slice none 0 0, .slice none 0 0, .slice none 0 0] 27)) (w.heap.size + 1) (w.heap.size + 1 + 1) w6.heap.size L sc 0 := by
    have hb : Below w6.heap.size w6 (w6.alloc (.cells #[.slice none 0 0, .slice none 0 0, .slice none 0 0] 27)) := (Below.refl _ _).alloc (Nat.le_refl _) _
    exact ⟨hS6.below hb, ⟨_, _, heap_alloc_new _ _, World.ownsRow_nil _ _ _ _, World.ownsRow_nil _ _ _ _, hwN⟩, hb.mono hwN⟩
  have HPI := hide hPI
  clear hPI hS6 hb6 Hr1 Hs1 HW1 Hn hb1 Hsz6
  generalize hsbe : w.heap.size + 1 + 1 = sb at *
  clear hsbe
  go_loopw [29] (fun i wr => ∃ k : Nat, k ≤ sc.length ∧ i = .int .i64 k ∧ Hid (PI w6 wr (w.heap.size + 1) sb w6.heap.size L sc k)) (fun i _ => sc.length - (intOf i).toNat)
  case atStart => exact ⟨0, Nat.zero_le _, rfl, HPI⟩
  case round =>
    obtain ⟨k, hk, rfl, HI⟩ := hrel
    by_cases hlt : k < sc.length
    · obtain ⟨q, m, hx⟩ : ∃ q m, sc[k]? = some (q, m) := ⟨sc[k].1, sc[k].2, List.getElem?_eq_getElem hlt⟩
      have hi := hI _ (List.mem_of_getElem? hx)
      simp only at hi
      have hgx : sc.getD k (0, 0) = (q, m) := by simp [List.getD_eq_getElem?_getD, hx]
      have hO := ok_stK L sc k
      have hbw : Below w.heap.size w wr := hbw6.trans ((unhide HI).bel.mono (by omega))
      have hNr := (unhide HI).size
      obtain ⟨b, off, rfl, hbB, y0, y1⟩ := (hA.below (hbw.mono hB)).at hx
      have hbr : b < wr.heap.size := by omega
      have hkI : (k : Int) < (sc.length : Int) := by omega
      obtain ⟨W3, hW3⟩ : ∃ W3, wr.alloc (.cells #[.int .i64 q, .int .i64 m] 39) = W3 := ⟨_, rfl⟩
      have hb3 : Below wr.heap.size wr W3 := by rw [← hW3]; exact (Below.refl _ _).alloc (Nat.le_refl _) _
      have Hc := hide (answer_c q m (w.heap.size + 1) sb L (1 + k * 9) (stK L sc k) W3 ((unhide HI).sp.below hb3) hO hL (by omega) hi.2.1 hi.2.2)
      have Hst : Hid ((stepS L (stK L sc k) (q, m)).2.2 = stK L sc (k + 1) ∧ (stepS L (stK L sc k) (q, m)).1 = codeK L sc k ∧ (stepS L (stK L sc k) (q, m)).2.1 = atK L sc k) := by
        rw [← hgx]; exact ⟨rfl, rfl, rfl⟩
      rw [(unhide Hst).1, (unhide Hst).2.1, (unhide Hst).2.2] at Hc
      have HCs := hide (codesL_succ L sc k)
      have HAs := hide (atsL_succ L sc k)
      have HCl := hide (codesL_len L sc k)
      have HAl := hide (atsL_len L sc k)
      obtain ⟨vc, va, hT⟩ := (unhide HI).told
      have HT3 := hide (hT.below hb3)
      have hm1 : wr.heap.size < W3.heap.size := by rw [← hW3]; simp
      have g0 : W3.cell? ⟨wr.heap.size, 0, none⟩ = some (.int .i64 q) := by rw [← hW3]; simp [go_sem]
      have g1 : W3.cell? ⟨wr.heap.size, 1, none⟩ = some (.int .i64 m) := by rw [← hW3]; simp [go_sem]
      clear hT hx hgx hO Hst
      generalize codeK L sc k = ck at *
      generalize atK L sc k = ak at *
      go_wp2_with fail
      refine (unhide Hc).mono ?_
      rintro e w5 ⟨rfl, hsp5, hb5, hk5⟩
      have hT5 := (unhide HT3).keepM hk5
      obtain ⟨ac, cc, hvc⟩ := ownsRow_slice hT5.rc
      obtain ⟨aa, ca, hva⟩ := ownsRow_slice hT5.ra
      rw [unhide HCl] at hvc
      rw [unhide HAl] at hva
      subst hvc hva
      have t0 := hT5.c0
      have tf0 := hT5.fr 0
      have tlt := hT5.lt
      have hN5 := hsp5.le
      have hrc := hT5.rc
      rw [unhide HCl] at hrc
      have HT5 := hide hT5
      have HS5 := hide hsp5
      have Hb5 := hide ((unhide HI).bel.trans ((hb3.mono hNr).trans hb5))
      clear hT5 hsp5 Hc hW3 g0 g1 hb5 hk5 hm1
      go_wp2_with (first
        | (at_builtin; refine wpList_append_own_at _ rfl _ _ 23 rfl (w.heap.size + 1) 28 i28 _ 1 8 Try.underlying23 hi28 hx0 hx1 hx2 rfl (by decide) _ _ _ rfl (hrc.alloc _) ⟨w5.heap.size, 0, none⟩ 1 1 [.int .i64 ck] rfl rfl (cell_one_at _ _ _ _ rfl) (by simp [Value.oneCell']) (by simp only [maxLen]; omega) (by omega) (by simp; omega) ?_; go_must (intro v7 w7 hrow7 hg7 _ hat7; obtain ⟨g7, c7, hv7⟩ := ownsRow_succ hrow7; subst hv7; have hb55 : Below w5.heap.size w5 (w5.alloc (.cells #[.int .i64 ck] 28)) := (Below.refl _ _).alloc (Nat.le_refl _) _; obtain ⟨hbx7, hT7, hS7⟩ := ((unhide HT5).below hb55).pushC (x := ck) ((unhide HS5).below hb55) (by rw [unhide HCl]; exact hrow7) hg7; have hq0 := cell27_0 hbx7; have hq2 := cell27_1 hbx7; have hqf := frozen_of_row w7 _ 0 _ 27 hbx7; have hq1 : w6.heap.size < w7.heap.size := (Array.getElem?_eq_some_iff.1 hbx7).1; have hra := hT7.ra; rw [unhide HAl] at hra; have Hrc5 := hide hrc; have Hg7 := hide hg7; have hs7 := hg7.size; have Hbx7 := hide hbx7; have HT7 := hide hT7; have HS7 := hide hS7; clear hT7 hS7 hrow7 hg7 hbx7 hrc hat7))
        | (at_builtin; refine wpList_append_own_at _ rfl _ _ 24 rfl (w.heap.size + 1) 3 i3 _ 1 8 Try.underlying24 hi3 hy0 hy1 hy2 rfl (by decide) _ _ _ rfl (hra.alloc _) ⟨w7.heap.size, 0, none⟩ 1 1 [.int .i64 (ak : Nat)] rfl rfl (cell_one_at _ _ _ _ (by simp [World.setCell])) (by simp [Value.oneCell']) (by simp only [maxLen]; omega) (by omega) (by simp [World.setCell] at hs7 ⊢; omega) ?_; go_must (intro v9 w9 hrow9 hg9 _ hat9; obtain ⟨g9, c9, hv9⟩ := ownsRow_succ hrow9; subst hv9; have hb88 := (Below.refl (w7.setCell ⟨w6.heap.size, 0, none⟩ (.slice (some ⟨g7, 0, none⟩) (k + 1) c7)).heap.size (w7.setCell ⟨w6.heap.size, 0, none⟩ (.slice (some ⟨g7, 0, none⟩) (k + 1) c7))).alloc (Nat.le_refl _) (.cells #[.int .i64 (ak : Nat)] 3); obtain ⟨hbx9, hT9, hS9⟩ := ((unhide HT7).below hb88).pushA (x := ((ak : Nat) : Int)) ((unhide HS7).below hb88) (by rw [unhide HAl]; exact hrow9) hg9; have hu1 := cell27_1 hbx9; have huf := frozen_of_row w9 _ 1 _ 27 hbx9; have hu2 : w6.heap.size < w9.heap.size := (Array.getElem?_eq_some_iff.1 hbx9).1; have Hfin : Hid (PI w6 (w9.setCell ⟨w6.heap.size, 1, none⟩ (.slice (some ⟨g9, 0, none⟩) (k + 1) c9)) (w.heap.size + 1) sb w6.heap.size L sc (k + 1)) := ⟨hS9.mono (by omega), ⟨_, _, by rw [unhide HCs, unhide HAs]; exact hT9⟩, ((((((unhide Hb5).alloc hN5 _).grown (unhide Hg7) (by simp; omega) (fun x e => ((unhide Hrc5).lt x e).1)).setCell (p := ⟨w6.heap.size, 0, none⟩) hwN _).alloc (by simp [World.setCell] at hs7 ⊢; omega) _).grown hg9 (by simp [World.setCell] at hs7 ⊢; omega) (fun x e => (hra.lt x e).1)).setCell (p := ⟨w6.heap.size, 1, none⟩) hwN _⟩; clear hT9 hS9 hrow9 hg9 hbx9 hat9 hb88)))
      go_roundw
      case rel => exact ⟨k + 1, by omega, by go_num, Hfin⟩
      case measure => simp [intOf]; omega
    · obtain rfl : k = sc.length := by omega
      have hsp := (unhide HI).sp
      obtain ⟨vc, va, hT⟩ := (unhide HI).told
      have hbel := (unhide HI).bel
      have hNr := (unhide HI).size
      have Hpc := hide (pieces_c (w.heap.size + 1) sb L _ _ wr hsp hL (by omega))
      have hlb := bl_len L (stK L sc sc.length)
      have h256 : 2 ^ L ≤ 256 := p2_le (k := L) (by omega)
      have HIs : Hid (PlIs (L : Nat) sc (codesL L sc sc.length) (atsL L sc sc.length) ((stK L sc sc.length).bl L)) := ⟨fun h => absurd (unhide HE) h, fun _ => ⟨rfl, rfl, rfl⟩⟩
      have HCl := hide (codesL_len L sc sc.length)
      have HAl := hide (atsL_len L sc sc.length)
      have Hlb := hide (Nat.le_trans hlb h256)
      clear hsp hlb h256 HI
      generalize codesL L sc sc.length = C at *
      generalize atsL L sc sc.length = A at *
      generalize (stK L sc sc.length).bl L = F at *
      obtain ⟨ac, cc, hvc⟩ := ownsRow_slice hT.rc
      obtain ⟨aa, ca, hva⟩ := ownsRow_slice hT.ra
      subst hvc hva
      go_wp2_with fail
      refine (unhide Hpc).mono ?_
      rintro e w7 ⟨v7, rfl, hrow7, hb7⟩
      obtain ⟨g7, c7, hv7⟩ := ownsRow_slice hrow7
      subst hv7
      have hT7 := hT.below hb7
      have hrb : w7.heap[w.heap.size]? = some (.cells #[.slice none 0 0, .slice none 0 0, .slice none 0 0] 27) := by rw [hb7.block _ (by omega), hbel.block _ (by omega)]; exact unhide Hr6
      have Hfin : Hid (∀ W, W = (((w7.setCell ⟨w6.heap.size, 2, none⟩ (.slice g7 F.length c7)).setCell ⟨w.heap.size, 0, none⟩ (.slice ac C.length cc)).setCell ⟨w.heap.size, 1, none⟩ (.slice aa A.length ca)).setCell ⟨w.heap.size, 2, none⟩ (.slice g7 F.length c7) → PlRes (L : Nat) sc w.heap.size (.returned (.tuple #[.agg #[.slice ac C.length cc, .slice aa A.length ca, .slice g7 F.length c7], .int .i64 0])) W ∧ Below w.heap.size w W) := by
        intro W hW
        have hw6 : w.heap.size ≤ w6.heap.size := by omega
        refine ⟨?_, by rw [hW]; exact (((((hbw6.trans (hbel.mono (by omega))).trans (hb7.mono (by omega))).setCell (p := ⟨w6.heap.size, 2, none⟩) hw6 _).setCell (p := ⟨w.heap.size, 0, none⟩) (Nat.le_refl _) _).setCell (p := ⟨w.heap.size, 1, none⟩) (Nat.le_refl _) _).setCell (p := ⟨w.heap.size, 2, none⟩) (Nat.le_refl _) _⟩
        have r1 := row_end hT7.rc ⟨_, hT7.box⟩ ⟨_, hrb⟩ (by decide) (.slice g7 F.length c7) (.slice ac C.length cc) (.slice aa A.length ca) (.slice g7 F.length c7)
        have r2 := row_end hT7.ra ⟨_, hT7.box⟩ ⟨_, hrb⟩ (by decide) (.slice g7 F.length c7) (.slice ac C.length cc) (.slice aa A.length ca) (.slice g7 F.length c7)
        have r3 := row_end hrow7 ⟨_, hT7.box⟩ ⟨_, hrb⟩ (by decide) (.slice g7 F.length c7) (.slice ac C.length cc) (.slice aa A.length ca) (.slice g7 F.length c7)
        rw [← hW] at r1 r2 r3
        have hcl := unhide HCl
        have hal := unhide HAl
        have hfl := unhide Hlb
        obtain ⟨a1, c1, e1, n1, _⟩ := nums_of_owns r1 (by omega)
        obtain ⟨a2, c2, e2, n2, l2⟩ := nums_of_owns r2 (by omega)
        obtain ⟨a3, c3, e3, n3⟩ := blks_of_row r3 (by omega)
        injection e1 with e1a _ e1c
        injection e2 with e2a _ e2c
        injection e3 with e3a _ e3c
        subst e1a e1c e2a e2c e3a e3c
        exact ⟨ac, cc, aa, ca, g7, c7, C, A, F, by rw [unhide HE], n1, n2, n3, HIs, l2, fun x hx => (by
          rcases hx with hx | hx | hx
          · have := (r1.lt x.block (by rw [hx]; rfl)).1; omega
          · have := (r2.lt x.block (by rw [hx]; rfl)).1; omega
          · have := (r3.lt x.block (by rw [hx]; rfl)).1; omega)⟩
      have t0 := hT7.c0
      have t1 := hT7.c1
      have t2 := hT7.c2
      have tf2 := hT7.fr 2
      have tlt := hT7.lt
      have b0 := cell27_0 hrb
      have b1 := cell27_1 hrb
      have b2 := cell27_2 hrb
      have bf0 := frozen_of_row w7 _ 0 _ 27 hrb
      have bf1 := frozen_of_row w7 _ 1 _ 27 hrb
      have bf2 := frozen_of_row w7 _ 2 _ 27 hrb
      have hne : w.heap.size ≠ w6.heap.size := by omega
      have hne' : ¬ w6.heap.size = w.heap.size := by omega
      have hlw : w.heap.size < w7.heap.size := by omega
      clear hT hT7 hrb hbel hrow7 hb7 Hpc
      go_wp2
      refine bodyPost_ret (v := .tuple #[.agg #[.slice ac C.length cc, .slice aa A.length ca, .slice g7 F.length c7], .int .i64 0]) (by simp [results, Try.results8, go_sem, b0, b1, b2, hne, hne']) rfl ?_
      exact unhide Hfin _ rfl

end Go.Proofs.Ytoelnioifjeakaa

/- Play whole; a script that came in, opened. -/
namespace Go.Proofs.Ytoelnioifjeakaa
set_option linter.unusedSimpArgs false
set_option linter.unusedVariables false
open Go.RowKit Go.Joins Go.Deep Go.ChangeShapes Go.WideShapes

theorem play_c (z : Int) (a : Option Addr) (c : Nat) (sc : List (Int × Int)) (B : Nat) (w : World) (hA : Asks B w a sc) (hB : B ≤ w.heap.size) (hI : I64s sc) :
    Calls Try.prog 8 #[.int .i64 z, .slice a sc.length c] w fun e w' => PlRes z sc w.heap.size e w' ∧ Below w.heap.size w w' := by
  by_cases hE : playE z sc.length = 0
  · unfold playE at hE
    split at hE
    · cases hE
    · split at hE
      · cases hE
      · obtain ⟨L, rfl⟩ : ∃ L : Nat, z = (L : Int) := ⟨z.toNat, by omega⟩
        exact play_good L a c sc B w (by omega) (by omega) hA hB hI
  · exact play_bad z a c sc w hA.1 hE

section
variable {H : Type} {enc : TypeId × Value → H} {w : World} {base : Nat} {spare : Nat → Bool} {held : Bool}

theorem addr_plain {a : Addr} {i : Nat} {v : Value} (h : w.cell? (a.add i) = some v) (h0 : ∃ u, w.cell? a = some u) : ∃ b off, a = ⟨b, off, none⟩ ∧ w.cell? ⟨b, off + i, none⟩ = some v := by
  obtain ⟨b, off, spot⟩ := a
  obtain ⟨u, hu⟩ := h0
  have hspot : spot = none := by simpa using World.cell?_spot hu
  subst hspot
  exact ⟨b, off, rfl, by rw [← Go.WideShapes.add_plain]; exact h⟩

theorem bounds_i64 {n : Int} (h : (Lit.int .i64 n).wf = true) : -9223372036854775808 ≤ n ∧ n ≤ 9223372036854775807 := by
  simp [Lit.wf, IntKind.min, IntKind.max, IntKind.signed, IntKind.bits] at h
  omega

/-- One ask, out of its two cells. -/
theorem ask_of_trod {fuel : Nat} {cs : List Value} {x : DataW H × List MemPlace} (h : DataW.trod enc Try.prog w base spare held fuel 39 cs = some x) (hl : cs.length = 2) : ∃ r n : Int, cs = [.int .i64 r, .int .i64 n] ∧ (-9223372036854775808 ≤ r ∧ r ≤ 9223372036854775807) ∧ (-9223372036854775808 ≤ n ∧ n ≤ 9223372036854775807) := by
  obtain ⟨y0, y1, n, _, _, h0, h1⟩ := trod_struct2 Try.underlying39 h
  have e3 : Try.prog.cellsOf 3 = 1 := by kernel_rfl
  match cs, hl with
  | [c0, c1], _ =>
    simp only [e3, List.drop_zero, List.take_succ_cons, List.take_zero, List.drop_succ_cons] at h0 h1
    obtain ⟨r, hr, _, w0⟩ := DataW.trod_int Try.underlying3 h0
    obtain ⟨m, hm, _, w1⟩ := DataW.trod_int Try.underlying3 h1
    simp at hr hm
    exact ⟨r, m, by rw [hr, hm], bounds_i64 w0, bounds_i64 w1⟩

/-- A slice of asks that came in. -/
theorem asks_of_trod {fuel : Nat} {cs : List Value} {x : DataW H × List MemPlace} (h : DataW.trod enc Try.prog w base spare held fuel 22 cs = some x) : ∃ a cap l, cs = [.slice a l.length cap] ∧ Asks w.heap.size w a l ∧ I64s l ∧ l.length ≤ cap ∧ cap ≤ 9223372036854775807 := by
  rcases open_slice Try.underlying22 h with ⟨rfl, _⟩ | ⟨a, len, cap, m, n, D, Pl, rfl, hb, hl, hm, hmm, _, hx⟩
  · exact ⟨none, 0, [], rfl, ⟨by simp, fun h => absurd rfl h⟩, fun x hx => (by cases hx), by simp, by omega⟩
  · have e38 : Try.prog.cellsOf 39 = 2 := by kernel_rfl
    rw [e38] at hx
    have hle : len ≤ m := by rw [hmm]; split <;> omega
    have hex : ∀ i, i < len → ∃ v : Int × Int, w.cell? (a.add (i * 2)) = some (.int .i64 v.1) ∧ w.cell? ((a.add (i * 2)).add 1) = some (.int .i64 v.2) ∧ (-9223372036854775808 ≤ v.1 ∧ v.1 ≤ 9223372036854775807) ∧ (-9223372036854775808 ≤ v.2 ∧ v.2 ≤ 9223372036854775807) := by
      intro i hi
      obtain ⟨cs', h1, h2⟩ := hx i (by omega)
      obtain ⟨_, hlen, hc⟩ := World.cells?_some h1
      obtain ⟨r, n, rfl, b1, b2⟩ := ask_of_trod h2 hlen
      exact ⟨(r, n), by simpa [Addr.add] using hc 0 (by omega), by simpa using hc 1 (by omega), b1, b2⟩
    obtain ⟨f, hf⟩ := choose_lt (α := Int × Int) (p := fun i v => w.cell? (a.add (i * 2)) = some (.int .i64 v.1) ∧ w.cell? ((a.add (i * 2)).add 1) = some (.int .i64 v.2) ∧ (-9223372036854775808 ≤ v.1 ∧ v.1 ≤ 9223372036854775807) ∧ (-9223372036854775808 ≤ v.2 ∧ v.2 ≤ 9223372036854775807)) hex
    refine ⟨some a, cap, (List.range len).map f, by simp, ⟨by simp only [List.length_map, List.length_range]; simp only [maxLen] at hm; omega, fun hne => ?_⟩, ?_, by simpa using hl, by simp only [maxLen] at hm; omega⟩
    · have hpos : 0 < len := by
        rcases Nat.eq_zero_or_pos len with h0 | h0
        · subst h0; simp at hne
        · exact h0
      have h00 := (hf 0 hpos).1
      obtain ⟨b, off, rfl, _⟩ := addr_plain (a := a) (i := 0) (by simpa using h00) ⟨_, by simpa [Addr.add] using h00⟩
      have hplain : ∀ i, (⟨b, off, none⟩ : Addr).add i = ⟨b, off + i, none⟩ := fun i => Go.WideShapes.add_plain _ _ _
      refine ⟨b, off, rfl, World.block_lt_of_cell? w ⟨b, off + 0 * 2, none⟩ (by rw [← hplain]; exact h00), fun k v hk => ?_⟩
      have hkl : k < len := by
        have := (List.getElem?_eq_some_iff.1 hk).1
        simpa using this
      have hv : f k = v := by simpa [hkl] using hk
      have := hf k hkl
      rw [hv, hplain, Go.WideShapes.add_plain] at this
      exact ⟨this.1, this.2.1⟩
    · intro x hx
      obtain ⟨i, hi, rfl⟩ := List.mem_map.1 hx
      exact (hf i (List.mem_range.1 hi)).2.2

theorem asks_of_Trod {r : Reach} {b0 : Nat} {v : Value} {d : DataW H} {p : List MemPlace} (hv : Value.okWide Try.prog w r b0 22 v) (h : DataW.Trod enc Try.prog w base spare held 22 v d p) :
    ∃ a cap l, v = .slice a l.length cap ∧ Asks w.heap.size w a l ∧ I64s l ∧ l.length ≤ cap ∧ cap ≤ 9223372036854775807 := by
  obtain ⟨a0, len, cap, rfl⟩ := okWide_slice Try.underlying22 hv
  obtain ⟨fuel, hf⟩ := h
  obtain ⟨a, c, l, hcs, hI⟩ := asks_of_trod hf
  simp [Value.cells] at hcs
  obtain ⟨rfl, rfl, rfl⟩ := hcs
  exact ⟨_, _, l, rfl, hI⟩

end
end Go.Proofs.Ytoelnioifjeakaa

/- Walks: BuddyBack. -/
namespace Go.Proofs.Ytoelnioifjeakaa
set_option linter.unusedSimpArgs false
set_option linter.unusedVariables false
open Go.RowKit

/-- What is told of one ask more. -/
theorem plIs_more {z : Int} {sc : List (Int × Int)} {x : Int × Int} {C A C' A' : List Int} {F F' : List (Nat × Nat)} (h : PlIs z sc C A F) (h' : PlIs z (sc ++ [x]) C' A' F') (hE : playE z sc.length = 0) (hE' : playE z (sc ++ [x]).length = 0) :
    C'.length = sc.length + 1 ∧ A'.length = sc.length + 1 ∧ F = (stK z.toNat sc sc.length).bl z.toNat ∧ F' = (stepS z.toNat (stK z.toNat sc sc.length) x).2.2.bl z.toNat ∧
    C'[sc.length]? = some (stepS z.toNat (stK z.toNat sc sc.length) x).1 ∧ A'[sc.length]? = some (((stepS z.toNat (stK z.toNat sc sc.length) x).2.1 : Nat) : Int) := by
  obtain ⟨rfl, rfl, rfl⟩ := h.2 hE
  obtain ⟨rfl, rfl, rfl⟩ := h'.2 hE'
  obtain ⟨k1, k2, k3, k4⟩ := stK_snoc z.toNat sc x
  have hl : (sc ++ [x]).length = sc.length + 1 := by simp
  rw [hl]
  refine ⟨codesL_len _ _ _, atsL_len _ _ _, rfl, by rw [k2], ?_, ?_⟩
  · rw [codesL_succ, List.getElem?_append_right (by rw [codesL_len]; omega), codesL_len, Nat.sub_self, k3]; rfl
  · rw [atsL_succ, List.getElem?_append_right (by rw [atsL_len]; omega), atsL_len, Nat.sub_self, k4]; rfl

theorem playE_len {z : Int} {n m : Nat} (hn : n ≤ 100) (hm : m ≤ 100) : playE z n = playE z m := by
  unfold playE
  split
  · rfl
  · rw [if_neg (by omega), if_neg (by omega)]

set_option maxRecDepth 100000 in
set_option maxHeartbeats 4000000 in
theorem buddyBack_c (z : Int) (a : Option Addr) (c : Nat) (sc : List (Int × Int)) (n : Int) (w : World) (hA : Asks w.heap.size w a sc) (hI : I64s sc) (hre : sc.length ≤ 9000000000000000000) (hn1 : -9223372036854775808 ≤ n) (hn2 : n ≤ 9223372036854775807) :
    Calls Try.prog 6 #[.int .i64 z, .slice a sc.length c, .int .i64 n] w fun e w' => e = .returned (.bool true) ∧ Below w.heap.size w w' := by
  by_cases hlen : sc.length ≤ 98
  · have Hc := hide (play_c z a c sc w.heap.size w hA (Nat.le_refl _) hI)
    have HA := hide hA
    have HI := hide hI
    clear hA hI
    go_enter Try.func6, Try.ntmps6
    go_wp2_with fail
    refine (unhide Hc).mono ?_
    rintro e w2 ⟨hR, hb2⟩
    obtain ⟨ac, cc, aa, ca, af, cf, C, A, F, rfl, nc, na, nf, hIs, hca, _⟩ := hR
    have hs2 := hb2.size
    obtain ⟨W3, hW3⟩ : ∃ W3, w2.alloc (.cells #[.slice ac C.length cc, .slice aa A.length ca, .slice af F.length cf] 27) = W3 := ⟨_, rfl⟩
    have hb3 : Below w2.heap.size w2 W3 := by rw [← hW3]; exact (Below.refl _ _).alloc (Nat.le_refl _) _
    have hs3 : w2.heap.size < W3.heap.size := by rw [← hW3]; simp
    have hF3 : FBox W3 w2.heap.size ac C.length cc aa A.length ca af F.length cf := by rw [← hW3]; exact fbox_new ..
    clear Hc
    -- the script with one take more
    have hown4 : (W3.alloc (.cells #[] 39)).ownsRow W3.heap.size 39 2 (.slice (some ⟨W3.heap.size, 0, none⟩) 0 0) 0 [] := ⟨rfl, .inr ⟨W3.heap.size, 0, #[], rfl, Nat.le_refl _, heap_alloc_new _ _, Nat.le_refl _, by omega, rfl, rfl⟩⟩
    have hb4 : Below W3.heap.size W3 (W3.alloc (.cells #[] 39)) := (Below.refl _ _).alloc (Nat.le_refl _) _
    have hA4 : Asks w.heap.size (W3.alloc (.cells #[] 39)) a sc := (unhide HA).below ((hb2.trans (hb3.mono hs2)).trans (hb4.mono (by omega)))
    obtain ⟨v5, w5, hr5, hown5, hg5, g5, c5, rfl⟩ := run_append_q (W3.alloc (.cells #[] 39)) W3.heap.size 22 W3.heap.size 0 0 [] hown4 a sc.length c (cellsQ sc) (cellsQ_len sc) (fun h => hA4.cells h) (fun v hv => cellsQ_one hv) (by omega) (by simp)
    simp only [Nat.zero_add, List.nil_append] at hown5 hr5
    have hb5 : Below W3.heap.size W3 w5 := hb4.grown hg5 (by simp) (fun k e => by injection e with e; omega)
    have hs5 := hb5.size
    obtain ⟨v7, w7, hr7, hown7, hg7, g7, c7, rfl⟩ := run_append_q (w5.alloc (.cells #[.int .i64 1, .int .i64 n] 39)) W3.heap.size 22 g5 c5 sc.length (cellsQ sc) (hown5.alloc _) (some ⟨w5.heap.size, 0, none⟩) 1 1 [.int .i64 1, .int .i64 n] rfl (fun h => ⟨_, rfl, cell_two_at _ _ _ _ _ rfl⟩) (by simp [Value.oneCell']) (by omega) (by simp; omega)
    have hb7 : Below W3.heap.size W3 w7 := (hb5.alloc hs5 _).grown hg7 (by simp; omega) (fun k e => ((hown5.alloc (.cells #[.int .i64 1, .int .i64 n] 39)).lt k e).1)
    have hs7 := hb7.size
    have hl1 : (sc ++ [((1 : Int), n)]).length = sc.length + 1 := by simp
    rw [← cellsQ_snoc, ← hl1] at hown7
    have hA7 := asks_of_owns hown7 (by omega)
    have HI7 : Hid (I64s (sc ++ [((1 : Int), n)])) := fun x hx => by
      rcases List.mem_append.1 hx with hx | hx
      · exact unhide HI x hx
      · simp at hx; subst hx; exact ⟨by simp, hn1, hn2⟩
    have Hc7 := hide (play_c z (some ⟨g7, 0, none⟩) c7 (sc ++ [((1 : Int), n)]) w7.heap.size w7 hA7 (Nat.le_refl _) (unhide HI7))
    rw [hl1] at Hc7 hown7
    have H5 := hide hr5
    have H7 := hide hr7
    have Hown7 := hide hown7
    have HEE : Hid (playE z (sc ++ [((1 : Int), n)]).length = playE z sc.length) := playE_len (by rw [hl1]; omega) (by omega)
    have HF3 := hide hF3
    have Nf := hide nf
    clear hown4 hA4 hr5 hown5 hg5 hr7 hown7 hg7 hA7 hF3 nc na nf hl1 hb4
    go_wp2_with (first
      | (at_builtin; refine Lib.wpList_append_run _ rfl _ _ 22 22 rfl _ _ rfl rfl _ _ (unhide H5) ?_)
      | (at_builtin; refine Lib.wpList_append_run _ rfl _ _ 22 22 rfl _ _ rfl rfl _ _ (unhide H7) ?_))
    refine (unhide Hc7).mono ?_
    rintro e w8 ⟨hR, hb8⟩
    obtain ⟨ac', cc', aa', ca', af', cf', C', A', F', rfl, nc', na', nf', hIs', hca', hnw'⟩ := hR
    have hs8 := hb8.size
    rw [unhide HEE]
    obtain ⟨W9, hW9⟩ : ∃ W9, w8.alloc (.cells #[.slice ac' C'.length cc', .slice aa' A'.length ca', .slice af' F'.length cf'] 27) = W9 := ⟨_, rfl⟩
    have hb9 : Below w8.heap.size w8 W9 := by rw [← hW9]; exact (Below.refl _ _).alloc (Nat.le_refl _) _
    have hs9 : w8.heap.size < W9.heap.size := by rw [← hW9]; simp
    have hF9 : FBox W9 w8.heap.size ac' C'.length cc' aa' A'.length ca' af' F'.length cf' := by rw [← hW9]; exact fbox_new ..
    have hb39 : Below W3.heap.size W3 W9 := hb7.trans ((hb8.mono hs7).trans (hb9.mono (by omega)))
    have hbw9 : Below w.heap.size w W9 := (hb2.trans (hb3.mono hs2)).trans (hb39.mono (by omega))
    clear Hc7
    by_cases hE : playE z sc.length = 0
    · have hE' : playE z (sc ++ [((1 : Int), n)]).length = 0 := (unhide HEE).trans hE
      obtain ⟨m1, m2, m3, m4, m5, m6⟩ := plIs_more (unhide hIs) (unhide hIs') hE hE'
      have hz1 := playE_ok hE
      have hO := ok_stK z.toNat sc sc.length
      obtain ⟨bC, oC, hac, hbC, yC⟩ := nc'.at m5
      obtain ⟨bA, oA, haa, hbA, yA⟩ := na'.at m6
      subst hac haa
      have yC9 := (hb9.cell (p := ⟨bC, oC + sc.length, none⟩) hbC).trans yC
      have yA9 := (hb9.cell (p := ⟨bA, oA + sc.length, none⟩) hbA).trans yA
      have hbC9 : bC < W9.heap.size := by omega
      have hbA9 : bA < W9.heap.size := by omega
      have hFf : FBox W9 w2.heap.size ac C.length cc aa A.length ca af F.length cf := (unhide HF3).below hb39 hs3
      have t2 := hFf.c2
      have tl := hFf.lt
      have u0 := hF9.c0
      have u1 := hF9.c1
      have u2 := hF9.c2
      have Nf9 : Hid (Blks W9.heap.size W9 af F) := (((unhide Nf).below hb3).mono (by omega)).below hb39 |>.mono (by omega)
      have Nf9' : Hid (Blks W9.heap.size W9 af' F') := (nf'.below hb9).mono (by omega)
      have d1 : ((C'.length : Int) != (sc.length : Int) + 1) = false := by simp; omega
      have d2 : ((A'.length : Int) != (sc.length : Int) + 1) = false := by simp; omega
      have i1 : (sc.length : Int) < (C'.length : Int) := by omega
      have i2 : (sc.length : Int) < (A'.length : Int) := by omega
      rw [hE]
      rcases step_take hO n with ⟨c1, c2⟩ | ⟨k, b, hnk, hk1, hbi, hkb, hst⟩
      · have hFF : F = F' := by rw [m3, m4, c2]
        have Hbl := hide (blocks_c af af' cf cf' F F' W9.heap.size W9 (unhide Nf9) (unhide Nf9') (Nat.le_refl _))
        rw [decide_eq_true hFF] at Hbl
        clear hFF m1 m2 m3 m4 m5 m6 yC yA hO c2 hIs hIs' nc' na' nf' hE hE' HEE hz1
        generalize (stepS z.toNat (stK z.toNat sc sc.length) (1, n)).1 = cd at *
        have d3 : (cd != 0) = true := by simpa using c1
        clear c1
        go_wp2_with (go_at_call 14; go_must (refine (unhide Hbl).mono ?_); go_must (rintro e w10 ⟨he, hb10⟩; subst he))
        go_ret
        exact ⟨rfl, hbw9.trans (hb10.mono (by omega))⟩
      · obtain ⟨q1, q2⟩ := take_give hbi hkb
        have hF'e : F' = (takeS (stK z.toNat sc sc.length) b.1 (2 ^ lv k)).bl z.toNat := by rw [m4, hst]
        have hFne : ¬ F = F' := by rw [hF'e, m3]; exact fun e => q2 e.symm
        rw [hst] at yC9 yA9
        simp only at yC9 yA9
        have hp256 := (hO.ap.1 b hbi).2
        have h256 : 2 ^ z.toNat ≤ 256 := p2_le (k := z.toNat) (by omega)
        -- the script with a give more
        have hl2 : ((sc ++ [((1 : Int), n)]) ++ [((2 : Int), ((b.1 : Nat) : Int))]).length = sc.length + 1 + 1 := by simp
        have hown9 : W9.ownsRow W3.heap.size 39 2 (.slice (some ⟨g7, 0, none⟩) (sc.length + 1) c7) (sc.length + 1) (cellsQ (sc ++ [((1 : Int), n)])) := ownsRow_below (ownsRow_below (unhide Hown7) hb8) hb9
        obtain ⟨v11, w11, hr11, hown11, hg11, g11, c11, rfl⟩ := run_append_q (W9.alloc (.cells #[.int .i64 2, .int .i64 ((b.1 : Nat) : Int)] 39)) W3.heap.size 22 g7 c7 (sc.length + 1) _ (hown9.alloc _) (some ⟨W9.heap.size, 0, none⟩) 1 1 [.int .i64 2, .int .i64 ((b.1 : Nat) : Int)] rfl (fun h => ⟨_, rfl, cell_two_at _ _ _ _ _ rfl⟩) (by simp [Value.oneCell']) (by omega) (by simp; omega)
        have hb11 : Below W3.heap.size W3 w11 := (hb39.alloc (by omega) _).grown hg11 (by simp; omega) (fun k e => ((hown9.alloc (.cells #[.int .i64 2, .int .i64 ((b.1 : Nat) : Int)] 39)).lt k e).1)
        have hs11 := hb11.size
        have hg711 : ∀ k, k < W9.heap.size → k ≠ g7 → w11.heap[k]? = W9.heap[k]? := fun k hk hne => by
          rw [hg11.block k (by simp; omega) (by simpa using hne), Below.heap_alloc _ _ _ hk]
        have hg7r : ∃ cs, W9.heap[g7]? = some (.cells cs 39) := by
          rcases hown9.2 with ⟨e, _⟩ | ⟨g', cap', cur, e, _, h2, _⟩
          · cases e
          · injection e with e1; injection e1 with e1; injection e1 with e1; subst e1; exact ⟨cur, h2⟩
        have hg7lt : g7 < w7.heap.size := ((unhide Hown7).lt g7 rfl).2
        rw [Nat.add_assoc, ← cellsQ_snoc, show sc.length + (1 + 1) = sc.length + 1 + 1 from rfl, ← hl2] at hown11
        have hA11 := asks_of_owns hown11 (by omega)
        have HI11 : Hid (I64s ((sc ++ [((1 : Int), n)]) ++ [((2 : Int), ((b.1 : Nat) : Int))])) := fun x hx => by
          rcases List.mem_append.1 hx with hx | hx
          · exact unhide HI7 x hx
          · simp at hx; subst hx; exact ⟨by simp, by simp only; omega, by simp only; omega⟩
        have Hc11 := hide (play_c z (some ⟨g11, 0, none⟩) c11 _ w11.heap.size w11 hA11 (Nat.le_refl _) (unhide HI11))
        rw [hl2] at Hc11
        have hE2 : playE z ((sc ++ [((1 : Int), n)]) ++ [((2 : Int), ((b.1 : Nat) : Int))]).length = 0 := by rw [← hE]; exact playE_len (by rw [hl2]; omega) (by omega)
        have v2 : w11.cell? ⟨w2.heap.size, 2, none⟩ = some (.slice af F.length cf) := (hb11.cell (p := ⟨w2.heap.size, 2, none⟩) hs3).trans (unhide HF3).c2
        have hgb : w11.heap[w8.heap.size]? = W9.heap[w8.heap.size]? := hg711 _ hs9 (by omega)
        have v3 : w11.cell? ⟨w8.heap.size, 2, none⟩ = some (.slice af' F'.length cf') := (World.cell?_of_block (a := ⟨w8.heap.size, 2, none⟩) hgb).trans hF9.c2
        have Nf11 : Hid (Blks w11.heap.size w11 af F) := ((((unhide Nf).below hb3).mono (by omega)).below hb11).mono (by omega)
        have Nf11' : Hid (Blks w11.heap.size w11 af' F') := by
          by_cases hne : F' = []
          · rw [hne]; exact blks_nil _ _ _
          · refine (Blks.kept (unhide Nf9') fun x hx => ?_).mono (by have := hg11.size; simp at this; omega)
            subst hx
            have h1 := unhide hnw' x (.inr (.inr rfl))
            have h2 := (unhide Nf9').lt hne
            exact hg711 _ h2 (by omega)
        have hs9' : W9.heap.size ≤ w11.heap.size := by have := hg11.size; simp at this; omega
        have hl11 : w2.heap.size < w11.heap.size := by omega
        have hl12 : w8.heap.size < w11.heap.size := by omega
        have H11 := hide hr11
        have hbw11 : Below w.heap.size w w11 := (hb2.trans (hb3.mono hs2)).trans (hb11.mono (by omega))
        have HFF : Hid (∀ C'' A'' F'', PlIs z ((sc ++ [((1 : Int), n)]) ++ [((2 : Int), ((b.1 : Nat) : Int))]) C'' A'' F'' → F = F'') := by
          intro C'' A'' F'' h
          obtain ⟨_, _, _, k4, _⟩ := plIs_more (unhide hIs') h hE' hE2
          have hst2 : stK z.toNat (sc ++ [((1 : Int), n)]) (sc ++ [((1 : Int), n)]).length = takeS (stK z.toNat sc sc.length) b.1 (2 ^ lv k) := by
            have := (stK_snoc z.toNat sc ((1 : Int), n)).2.1
            rw [show (sc ++ [((1 : Int), n)]).length = sc.length + 1 by simp, this, hst]
          rw [k4, hst2, step_give (p := b.1) (k := 2 ^ lv k) (updT_same _ _ _), m3]
          exact q1.symm
        have HFne := hide hFne
        have HE2 := hide hE2
        clear hown9 hown11 hg11 hg711 hg7r hr11 hA11 m1 m2 m3 m4 m5 m6 yC yA hO hIs hIs' nc' na' nf' hE hE' hst q1 q2 hbi hF'e hFne t2 hE2 hgb
        have d3 : ((0 : Int) != 0) = false := by simp
        go_wp2_with (first
          | (at_builtin; refine Lib.wpList_append_run _ rfl _ _ 22 22 rfl _ _ rfl rfl _ _ (unhide H11) ?_))
        refine (unhide Hc11).mono ?_
        rintro e w12 ⟨hR, hb12⟩
        obtain ⟨ac2, cc2, aa2, ca2, af2, cf2, C2, A2, F2, rfl, nc2, na2, nf2, hIs2, hca2, _⟩ := hR
        have hs12 := hb12.size
        rw [unhide HE2]
        obtain ⟨W13, hW13⟩ : ∃ W13, w12.alloc (.cells #[.slice ac2 C2.length cc2, .slice aa2 A2.length ca2, .slice af2 F2.length cf2] 27) = W13 := ⟨_, rfl⟩
        have hb13 : Below w12.heap.size w12 W13 := by rw [← hW13]; exact (Below.refl _ _).alloc (Nat.le_refl _) _
        have hs13 : w12.heap.size < W13.heap.size := by rw [← hW13]; simp
        have x2 : W13.cell? ⟨w12.heap.size, 2, none⟩ = some (.slice af2 F2.length cf2) := by rw [← hW13]; simp [go_sem]
        have hbb : Below w11.heap.size w11 W13 := hb12.trans (hb13.mono hs12)
        have y2 := (hbb.cell (p := ⟨w2.heap.size, 2, none⟩) hl11).trans v2
        have y3 := (hbb.cell (p := ⟨w8.heap.size, 2, none⟩) hl12).trans v3
        have e1 : F = F2 := unhide HFF _ _ _ (unhide hIs2)
        have Hb1 : Hid (Calls Try.prog 14 #[.slice af F.length cf, .slice af2 F2.length cf2] W13 fun e w' => e = .returned (.bool true) ∧ Below W13.heap.size W13 w') := by
          have := blocks_c af af2 cf cf2 F F2 W13.heap.size W13 (((unhide Nf11).below hbb).mono (by omega)) ((nf2.below hb13).mono (by omega)) (Nat.le_refl _)
          rw [decide_eq_true e1] at this
          exact this
        have Hb2 : Hid (∀ w', Below W13.heap.size W13 w' → Calls Try.prog 14 #[.slice af F.length cf, .slice af' F'.length cf'] w' fun e w'' => e = .returned (.bool false) ∧ Below w'.heap.size w' w'') := fun w' hw' => by
          have := blocks_c af af' cf cf' F F' W13.heap.size w' ((((unhide Nf11).below hbb).mono (by omega)).below hw') ((((unhide Nf11').below hbb).mono (by omega)).below hw') hw'.size
          rw [decide_eq_false (unhide HFne)] at this
          exact this
        have hbw13 : Below w.heap.size w W13 := hbw11.trans (hbb.mono (by omega))
        have k1 : w2.heap.size < W13.heap.size := by omega
        have k2 : w8.heap.size < W13.heap.size := by omega
        clear nc2 na2 nf2 e1 v2 v3 Hc11
        go_wp2_with fail
        refine (unhide Hb1).mono ?_
        rintro e w14 ⟨rfl, hb14⟩
        have z2 := (hb14.cell (p := ⟨w2.heap.size, 2, none⟩) k1).trans y2
        have z3 := (hb14.cell (p := ⟨w8.heap.size, 2, none⟩) k2).trans y3
        have k3 : w2.heap.size < w14.heap.size := by have := hb14.size; omega
        have k4 : w8.heap.size < w14.heap.size := by have := hb14.size; omega
        clear y2 y3 x2
        go_wp2_with fail
        refine (unhide Hb2 _ hb14).mono ?_
        rintro e w15 ⟨rfl, hb15⟩
        go_wp2
        go_ret
        exact ⟨rfl, (hbw13.trans (hb14.mono (by omega))).trans (hb15.mono (by have := hb14.size; omega))⟩
    · generalize playE z sc.length = E at *
      have d0 : (E != 0) = true := by simpa using hE
      have d1 : (E == E) = true := by simp
      clear hE
      go_wp2
      go_ret
      exact ⟨rfl, hbw9⟩
  · clear hA hI
    have d0 : decide ((100 : Int) < (sc.length : Int) + 2) = true := decide_eq_true (by omega)
    go_enter Try.func6, Try.ntmps6
    go_wp2
    go_ret
    exact ⟨rfl, Below.refl _ _⟩

end Go.Proofs.Ytoelnioifjeakaa

/- A script that came in: as long as its datum. -/
namespace Go.Proofs.Ytoelnioifjeakaa
set_option linter.unusedSimpArgs false
set_option linter.unusedVariables false
open Go.RowKit Go.Joins Go.Deep Go.ChangeShapes Go.WideShapes

theorem Try.bytes39 : Try.prog.bytesOf 39 = 16 := by kernel_rfl

theorem asks_datum {H : Type} {enc : TypeId × Value → H} {w : World} {base : Nat} {spare : Nat → Bool} {held : Bool} {a : Option Addr} {n cap : Nat} {d : DataW H} {p : List MemPlace} (h : DataW.Trod enc Try.prog w base spare held 22 (.slice a n cap) d p) :
    n = 0 ∨ ∃ es sp, d = .slice es sp ∧ es.length = n := by
  obtain ⟨fuel, hf⟩ := h
  rcases open_slice Try.underlying22 hf with ⟨hcs, _⟩ | ⟨a', len, cap', m, n', D, Pl, hcs, _, _, _, _, hx, _⟩
  · simp [Value.cells] at hcs
    exact .inl hcs.2.1
  · simp [Value.cells] at hcs
    injection hx with hx _
    exact .inr ⟨_, _, hx, by simp [hcs.2.1]⟩

end Go.Proofs.Ytoelnioifjeakaa
