/- Merged texts: Sm Wa Wb Pe Pf Ug Ux Ui Si Sj Sk Sn Ta Uj. -/
import Derived.Test.YtoelnioifjeakaaProg
import Derived.Test.YtoelnioifjeakaaBuddyApartA
import Derived.Deep.QuietTactic
import Derived.OwnWalk
import Derived.Shelf.SlSortCmp.WholeK
import Derived.Shelf.SlSortCmp.NoneTotal
import Derived.Shelf.Small.Bits
import Derived.Ground.SlsfProg
import Derived.ProofKit
import Derived.OpenShut
import Derived.Lib.SmallJoins
import Derived.Deep.Slices
import Derived.Lib.QuietBelow

/- Walks: Play, where something is wrong. -/
namespace Go.Proofs.Ytoelnioifjeakaa
set_option linter.unusedSimpArgs false
set_option linter.unusedVariables false
open Go.RowKit

/-- Which error Play tells. -/
def playE (z : Int) (n : Nat) : Int := if z < 0 ∨ 7 < z then 3 else if 100 < n then 1 else 0

def codesL (L : Nat) (sc : List (Int × Int)) (k : Nat) : List Int := (List.range k).map (codeK L sc)
def atsL (L : Nat) (sc : List (Int × Int)) (k : Nat) : List Int := (List.range k).map fun i => ((atK L sc i : Nat) : Int)
theorem codesL_succ (L : Nat) (sc : List (Int × Int)) (k : Nat) : codesL L sc (k + 1) = codesL L sc k ++ [codeK L sc k] := by simp [codesL, List.range_succ]
theorem atsL_succ (L : Nat) (sc : List (Int × Int)) (k : Nat) : atsL L sc (k + 1) = atsL L sc k ++ [((atK L sc k : Nat) : Int)] := by simp [atsL, List.range_succ]
theorem codesL_len (L : Nat) (sc : List (Int × Int)) (k : Nat) : (codesL L sc k).length = k := by simp [codesL]
theorem atsL_len (L : Nat) (sc : List (Int × Int)) (k : Nat) : (atsL L sc k).length = k := by simp [atsL]

/-- What Play tells, plainly. -/
def PlIs (z : Int) (sc : List (Int × Int)) (C A : List Int) (F : List (Nat × Nat)) : Prop :=
  (playE z sc.length ≠ 0 → C = [] ∧ A = [] ∧ F = []) ∧ (playE z sc.length = 0 → C = codesL z.toNat sc sc.length ∧ A = atsL z.toNat sc sc.length ∧ F = (stK z.toNat sc sc.length).bl z.toNat)

/-- What Play tells, in memory. -/
def PlRes (z : Int) (sc : List (Int × Int)) (B0 : Nat) (e : Ending) (W : World) : Prop :=
  ∃ ac cc aa ca af cf C A F, e = .returned (.tuple #[.agg #[.slice ac C.length cc, .slice aa A.length ca, .slice af F.length cf], .int .i64 (playE z sc.length)]) ∧ Nums W.heap.size W ac C ∧ Nums W.heap.size W aa A ∧ Blks W.heap.size W af F ∧ Hid (PlIs z sc C A F) ∧ A.length ≤ ca ∧ Hid (∀ x : Addr, (ac = some x ∨ aa = some x ∨ af = some x) → B0 ≤ x.block)

theorem plRes_bad {z : Int} {sc : List (Int × Int)} {B0 : Nat} {W : World} {E : Int} (h : playE z sc.length = E) (hE : E ≠ 0) : PlRes z sc B0 (.returned (.tuple #[.agg #[.slice none 0 0, .slice none 0 0, .slice none 0 0], .int .i64 E])) W :=
  ⟨none, 0, none, 0, none, 0, [], [], [], by rw [h]; rfl, nums_nil _ _ _, nums_nil _ _ _, blks_nil _ _ _, ⟨fun _ => ⟨rfl, rfl, rfl⟩, fun h0 => absurd (h.symm.trans h0) hE⟩, Nat.le_refl _, fun x hx => (by rcases hx with hx | hx | hx <;> cases hx)⟩

theorem ownsRow_succ {W : World} {base : Nat} {e : TypeId} {size : Nat} {v : Value} {k : Nat} {xs : List Value} (h : W.ownsRow base e size v (k + 1) xs) : ∃ g cap, v = .slice (some ⟨g, 0, none⟩) (k + 1) cap := by
  rcases h.2 with ⟨_, h⟩ | ⟨g, cap, cur, rfl, _⟩
  · omega
  · exact ⟨g, cap, rfl⟩

theorem cell27_0 {W : World} {tb : Nat} {x y z : Value} (h : W.heap[tb]? = some (.cells #[x, y, z] 27)) : W.cell? ⟨tb, 0, none⟩ = some x := by rw [cell_of_row W tb 0 _ 27 (0, 0) h]; rfl
theorem cell27_1 {W : World} {tb : Nat} {x y z : Value} (h : W.heap[tb]? = some (.cells #[x, y, z] 27)) : W.cell? ⟨tb, 1, none⟩ = some y := by rw [cell_of_row W tb 1 _ 27 (0, 0) h]; rfl
theorem cell27_2 {W : World} {tb : Nat} {x y z : Value} (h : W.heap[tb]? = some (.cells #[x, y, z] 27)) : W.cell? ⟨tb, 2, none⟩ = some z := by rw [cell_of_row W tb 2 _ 27 (0, 0) h]; rfl

set_option maxRecDepth 100000 in
set_option maxHeartbeats 2000000 in
theorem play_bad (z : Int) (a : Option Addr) (c : Nat) (sc : List (Int × Int)) (w : World) (hl : sc.length ≤ 9223372036854775807) (hE : playE z sc.length ≠ 0) :
    Calls Try.prog 8 #[.int .i64 z, .slice a sc.length c] w fun e w' => PlRes z sc w.heap.size e w' ∧ Below w.heap.size w w' := by
  have hbz : Below w.heap.size w (w.alloc (.cells #[.slice none 0 0, .slice none 0 0, .slice none 0 0] 27)) := (Below.refl _ _).alloc (Nat.le_refl _) _
  by_cases hz : z < 0 ∨ 7 < z
  · have HE : Hid (playE z sc.length = 3) := by show _ = _; simp [playE, hz]
    by_cases hz1 : z < 0
    · have d0 : decide (z < 0) = true := decide_eq_true hz1
      clear hz1 hz
      go_enter Try.func8, Try.ntmps8
      go_wp2
      refine bodyPost_ret (v := .tuple #[.agg #[.slice none 0 0, .slice none 0 0, .slice none 0 0], .int .i64 3]) (by simp [results, Try.results8, go_sem]) rfl ⟨plRes_bad (unhide HE) (by decide), ?_⟩
      first | exact hbz | exact ((hbz.setCell (p := ⟨w.heap.size, 0, none⟩) (Nat.le_refl _) _).setCell (p := ⟨w.heap.size, 1, none⟩) (Nat.le_refl _) _).setCell (p := ⟨w.heap.size, 2, none⟩) (Nat.le_refl _) _
    · have d0 : decide (z < 0) = false := decide_eq_false hz1
      have d1' : decide (7 < z) = true := decide_eq_true (by omega)
      clear hz1 hz
      go_enter Try.func8, Try.ntmps8
      go_wp2
      refine bodyPost_ret (v := .tuple #[.agg #[.slice none 0 0, .slice none 0 0, .slice none 0 0], .int .i64 3]) (by simp [results, Try.results8, go_sem]) rfl ⟨plRes_bad (unhide HE) (by decide), ?_⟩
      first | exact hbz | exact ((hbz.setCell (p := ⟨w.heap.size, 0, none⟩) (Nat.le_refl _) _).setCell (p := ⟨w.heap.size, 1, none⟩) (Nat.le_refl _) _).setCell (p := ⟨w.heap.size, 2, none⟩) (Nat.le_refl _) _
  · have d0 : decide (z < 0) = false := decide_eq_false (by omega)
    have d1' : decide (7 < z) = false := decide_eq_false (by omega)
    have hn : 100 < sc.length := by
      refine Classical.byContradiction fun h => hE ?_
      unfold playE
      rw [if_neg hz, if_neg h]
    have HE : Hid (playE z sc.length = 1) := by
      show _ = _
      unfold playE
      rw [if_neg hz, if_pos hn]
    have d2 : decide (100 < sc.length) = true := decide_eq_true hn
    clear hz hE
    go_enter Try.func8, Try.ntmps8
    go_wp2
    refine bodyPost_ret (v := .tuple #[.agg #[.slice none 0 0, .slice none 0 0, .slice none 0 0], .int .i64 1]) (by simp [results, Try.results8, go_sem]) rfl ⟨plRes_bad (unhide HE) (by decide), ?_⟩
    first | exact hbz | exact ((hbz.setCell (p := ⟨w.heap.size, 0, none⟩) (Nat.le_refl _) _).setCell (p := ⟨w.heap.size, 1, none⟩) (Nat.le_refl _) _).setCell (p := ⟨w.heap.size, 2, none⟩) (Nat.le_refl _) _

end Go.Proofs.Ytoelnioifjeakaa

/- Walks: power, twice; what a free piece is. -/
namespace Go.Proofs.Ytoelnioifjeakaa
set_option linter.unusedSimpArgs false
set_option linter.unusedVariables false
open Go.RowKit

theorem p2_succ (k : Nat) : p2 (k + 1) = p2 k + p2 k := by unfold p2; rw [Nat.pow_succ]; omega
theorem p2_lv {n k : Nat} (h : k < lv n) : p2 k < n := by
  have h1 := lv_least (n := n) (by omega)
  have h2 : 2 ^ k ≤ 2 ^ (lv n - 1) := Nat.pow_le_pow_right (by decide) (by omega)
  unfold p2; omega
theorem lv_p2 (k : Nat) : lv (2 ^ k) = k := by
  have h1 := lv_le (n := 2 ^ k) (k := k) (Nat.le_refl _)
  have h2 := lv_ge (2 ^ k)
  refine Nat.le_antisymm h1 (Classical.byContradiction fun h => ?_)
  have := Nat.pow_lt_pow_right (a := 2) (by decide) (show lv (2 ^ k) < k by omega)
  omega

set_option maxHeartbeats 1000000 in
/-- power tells the least power of two. -/
theorem power_c (n : Nat) (h1 : 1 ≤ n) (hn : n ≤ 256) (w : World) : Calls Try.prog 13 #[.int .i64 (n : Nat)] w fun e w' => e = .returned (.int .i64 (p2 (lv n) : Nat)) ∧ w' = w := by
  have hlv : lv n ≤ 8 := lv_le (k := 8) hn
  have Hge := hide (show n ≤ p2 (lv n) from lv_ge n)
  have Hlt : Hid (∀ k, k < lv n → p2 k < n) := fun k h => p2_lv h
  have H0 : Hid (p2 0 = 1) := rfl
  go_enter Try.func13, Try.ntmps13
  go_wp2
  go_loop [3] (fun p => ∃ k : Nat, k ≤ lv n ∧ p = .int .i64 (p2 k : Nat)) (fun p => 512 - (intOf p).toNat)
  case atStart => exact ⟨0, Nat.zero_le _, by rw [unhide H0]; rfl⟩
  case round =>
    obtain ⟨k, hk, rfl⟩ := hrel
    have hp := p2_le (k := k) (by omega)
    have hpos := p2_pos k
    by_cases hlt : k < lv n
    · have h3 := unhide Hlt k hlt
      have Hs := hide (p2_succ k)
      have d1 : decide (p2 k < n) = true := decide_eq_true h3
      have d2 : decide (p2 k ≤ 256) = true := decide_eq_true hp
      go_wp2
      go_round
      case rel => exact ⟨k + 1, hlt, by rw [unhide Hs]; go_num⟩
      case measure => simp [intOf]; omega
    · obtain rfl : k = lv n := by omega
      have h3 := unhide Hge
      have d1 : decide (p2 (lv n) < n) = false := decide_eq_false (by omega)
      go_wp2
      go_ret
      exact ⟨rfl, rfl⟩

set_option maxHeartbeats 1000000 in
/-- twice tells a power of two. -/
theorem twice_c (n : Nat) (hn : n ≤ 8) (w : World) : Calls Try.prog 12 #[.int .i64 (n : Nat)] w fun e w' => e = .returned (.int .i64 (p2 n : Nat)) ∧ w' = w := by
  have H0 : Hid (p2 0 = 1) := rfl
  go_enter Try.func12, Try.ntmps12
  go_wp2
  go_loop [3, 4] (fun p i => ∃ k : Nat, k ≤ n ∧ i = .int .i64 k ∧ p = .int .i64 (p2 k : Nat)) (fun _ i => n - (intOf i).toNat)
  case atStart => exact ⟨0, Nat.zero_le _, rfl, by rw [unhide H0]; rfl⟩
  case round =>
    obtain ⟨k, hk, rfl, rfl⟩ := hrel
    have hp := p2_le (k := k) (by omega)
    by_cases hlt : k < n
    · have Hs := hide (p2_succ k)
      go_wp2
      go_round
      case rel => exact ⟨k + 1, hlt, by go_num, by rw [unhide Hs]; go_num⟩
      case measure => simp [intOf]; omega
    · obtain rfl : k = n := by omega
      go_wp2
      go_ret
      exact ⟨rfl, rfl⟩

/-- Two buddies are not both free. -/
theorem mx_two {T : Nat → Bool} {L k p : Nat} (h : Mx T L k p) (h' : Mx T L k (bud p)) : False := by
  by_cases hk : k < L
  · obtain ⟨w, hw, hT⟩ := h.2.2.2 hk
    rw [dv1] at hw
    rcases bud_two hw with e | e
    · rw [h.2.2.1 w e] at hT; cases hT
    · rw [h'.2.2.1 w e] at hT; cases hT
  · obtain rfl : k = L := by have := h.1; omega
    have h1 := h.2.1
    have h2 := h'.2.1
    simp at h1 h2
    have := bud_ne p
    omega

/-- What a free piece is. -/
structure PieceOk (F : List (Nat × Nat)) (P m : Nat) (t : Int) : Prop where
  pos : 1 ≤ m
  le : P + m ≤ 256
  pw : p2 (lv m) = m
  rem : P % m = 0
  par : (P / m % 2 = 1 ∧ m ≤ P ∧ t = (P : Int) - (m : Int)) ∨ (P / m % 2 = 0 ∧ t = (P : Int) + (m : Int))
  twin : ∀ c ∈ F, c.2 = m → (c.1 : Int) ≠ t

theorem piece_ok {L : Nat} (hL : L ≤ 7) (T : Nat → Bool) {P m : Nat} (h : (P, m) ∈ pcs T L 0) : ∃ t, PieceOk (pcs T L 0) P m t := by
  obtain ⟨k, p, rfl, rfl, hM⟩ := (mem_iff T L P m).1 h
  have h1 := hM.lt
  have h2 : 2 ^ L ≤ 256 := p2_le (k := L) (by omega)
  have h0 := two_pos k
  have hd : p * 2 ^ k / 2 ^ k = p := piece_first k p
  have hno : ∀ c ∈ pcs T L 0, c.2 = 2 ^ k → c.1 ≠ bud p * 2 ^ k := fun c hc e e' => by
    refine mx_two hM ((mem_at T L k (bud p)).1 ?_)
    have e2 : c = (bud p * 2 ^ k, 2 ^ k) := Prod.ext e' e
    rw [e2] at hc; exact hc
  refine ⟨((bud p * 2 ^ k : Nat) : Int), h0, by omega, ?_, Nat.mul_mod_left _ _, ?_, fun c hc e e' => hno c hc e (by omega)⟩
  · rw [lv_p2]; rfl
  · rw [hd]
    unfold bud
    by_cases hp : p % 2 = 0
    · rw [if_pos hp, Nat.succ_mul]
      exact .inr ⟨hp, by omega⟩
    · rw [if_neg hp]
      have e : p = p - 1 + 1 := by omega
      have e2 : p * 2 ^ k = (p - 1) * 2 ^ k + 2 ^ k := by conv => lhs; rw [e, Nat.succ_mul]
      exact .inl ⟨by omega, by omega, by omega⟩

end Go.Proofs.Ytoelnioifjeakaa

/- Walks: codes, Ints; what Play tells of a shorter script. -/
namespace Go.Proofs.Ytoelnioifjeakaa
set_option linter.unusedSimpArgs false
set_option linter.unusedVariables false
open Go.RowKit

theorem playE_ok {z : Int} {n : Nat} (h : playE z n = 0) : 0 ≤ z ∧ z ≤ 7 ∧ n ≤ 100 := by
  unfold playE at h
  split at h
  · cases h
  · split at h
    · cases h
    · omega

/-- What is told of a play that may be. -/
theorem PlIs.good {z : Int} {sc : List (Int × Int)} {C A : List Int} {F : List (Nat × Nat)} (h : PlIs z sc C A F) (hE : playE z sc.length = 0) :
    C.length = sc.length ∧ A.length = sc.length ∧ F = (stK z.toNat sc sc.length).bl z.toNat ∧ F.length ≤ 256 ∧ ∀ x ∈ F, x.1 + x.2 ≤ 256 := by
  obtain ⟨h1, h2, h3⟩ := playE_ok hE
  obtain ⟨rfl, rfl, rfl⟩ := h.2 hE
  have hO := ok_stK z.toNat sc sc.length
  have hl := bl_len z.toNat (stK z.toNat sc sc.length)
  have h4 : 2 ^ z.toNat ≤ 256 := p2_le (k := z.toNat) (by omega)
  exact ⟨codesL_len _ _ _, atsL_len _ _ _, rfl, by omega, fun x hx => by have := (hO.ap.1 x hx).2; omega⟩

set_option maxRecDepth 100000 in
set_option maxHeartbeats 2000000 in
theorem codes_c (a a' : Option Addr) (c c' : Nat) (l l' : List Int) (B : Nat) (w : World) (h : Nums B w a l) (h' : Nums B w a' l') (hB : B ≤ w.heap.size) (hp : ∀ (k : Nat) (x : Int), l[k]? = some x → l'[k]? = some x) (hle : l.length ≤ l'.length) :
    Calls Try.prog 15 #[.slice a l.length c, .slice a' l'.length c'] w fun e w' => e = .returned (.bool true) ∧ Below w.heap.size w w' := by
  have hl := h.1
  have hl' := h'.1
  have d0 : decide (l'.length < l.length) = false := decide_eq_false (by omega)
  have Hp := hide hp
  clear hp
  go_enter Try.func15, Try.ntmps15
  go_wp2
  go_loopw [5] (fun i wr => ∃ k : Nat, k ≤ l.length ∧ i = .int .i64 k ∧ Below w.heap.size w wr) (fun i _ => l.length - (intOf i).toNat)
  case atStart => exact ⟨0, Nat.zero_le _, rfl, Below.refl _ _⟩
  case round =>
    obtain ⟨k, hk, rfl, hb⟩ := hrel
    have hsz := hb.size
    by_cases hlt : k < l.length
    · have hx : l[k]? = some l[k] := List.getElem?_eq_getElem hlt
      obtain ⟨b, off, rfl, hbB, x0⟩ := (h.below (hb.mono hB)).at hx
      obtain ⟨b', off', rfl, hbB', y0⟩ := (h'.below (hb.mono hB)).at (unhide Hp k _ hx)
      have hkI : (k : Int) < (l.length : Int) := by omega
      have hkI' : (k : Int) < (l'.length : Int) := by omega
      have hq : b < wr.heap.size := by omega
      have hq' : b' < wr.heap.size := by omega
      generalize l[k] = x at *
      have d1 : (x != x) = false := by simp
      clear hx
      go_wp2
      go_quiet (fail)
      have hbn := below_drewN hb nq
      clear x0 y0 hq hq'
      generalize wr.drewN nq = wq at *
      go_wp2
      go_roundw
      case rel => exact ⟨k + 1, by omega, by go_num, hbn⟩
      case measure => simp [intOf]; omega
    · obtain rfl : k = l.length := by omega
      go_wp2
      go_ret
      exact ⟨rfl, hb⟩

set_option maxRecDepth 100000 in
set_option maxHeartbeats 2000000 in
theorem ints_c (a a' : Option Addr) (c c' : Nat) (l : List Int) (B : Nat) (w : World) (h : Nums B w a l) (h' : Nums B w a' l) (hB : B ≤ w.heap.size) :
    Calls Try.prog 16 #[.slice a l.length c, .slice a' l.length c'] w fun e w' => e = .returned (.bool true) ∧ Below w.heap.size w w' := by
  have hl := h.1
  have d0 : ((l.length : Int) != (l.length : Int)) = false := by simp
  go_enter Try.func16, Try.ntmps16
  go_wp2
  go_loopw [5] (fun i wr => ∃ k : Nat, k ≤ l.length ∧ i = .int .i64 k ∧ Below w.heap.size w wr) (fun i _ => l.length - (intOf i).toNat)
  case atStart => exact ⟨0, Nat.zero_le _, rfl, Below.refl _ _⟩
  case round =>
    obtain ⟨k, hk, rfl, hb⟩ := hrel
    have hsz := hb.size
    by_cases hlt : k < l.length
    · have hx : l[k]? = some l[k] := List.getElem?_eq_getElem hlt
      obtain ⟨b, off, rfl, hbB, x0⟩ := (h.below (hb.mono hB)).at hx
      obtain ⟨b', off', rfl, hbB', y0⟩ := (h'.below (hb.mono hB)).at hx
      have hkI : (k : Int) < (l.length : Int) := by omega
      have hq : b < wr.heap.size := by omega
      have hq' : b' < wr.heap.size := by omega
      generalize l[k] = x at *
      have d1 : (x != x) = false := by simp
      clear hx
      go_wp2
      go_quiet (fail)
      have hbn := below_drewN hb nq
      clear x0 y0 hq hq'
      generalize wr.drewN nq = wq at *
      go_wp2
      go_roundw
      case rel => exact ⟨k + 1, by omega, by go_num, hbn⟩
      case measure => simp [intOf]; omega
    · obtain rfl : k = l.length := by omega
      go_wp2
      go_ret
      exact ⟨rfl, hb⟩

theorem Asks.take {B : Nat} {w : World} {a : Option Addr} {l : List (Int × Int)} (h : Asks B w a l) (n : Nat) : Asks B w a (l.take n) := by
  refine ⟨by have := h.1; simp; omega, fun hne => ?_⟩
  obtain ⟨b, off, rfl, hB, hc⟩ := h.2 (by rintro rfl; simp at hne)
  refine ⟨b, off, rfl, hB, fun k v hk => hc k v ?_⟩
  rw [List.getElem?_take] at hk
  split at hk
  · exact hk
  · cases hk
theorem Nums.take {B : Nat} {w : World} {a : Option Addr} {l : List Int} (h : Nums B w a l) (n : Nat) : Nums B w a (l.take n) := by
  refine ⟨by have := h.1; simp; omega, fun hne => ?_⟩
  obtain ⟨b, off, rfl, hB, hc⟩ := h.2 (by rintro rfl; simp at hne)
  refine ⟨b, off, rfl, hB, fun k v hk => hc k v ?_⟩
  rw [List.getElem?_take] at hk
  split at hk
  · exact hk
  · cases hk

theorem bounds_u8' {n : Int} (h : (Lit.int .u8 n).wf = true) : 0 ≤ n ∧ n ≤ 255 := by
  simp [Lit.wf, IntKind.min, IntKind.max, IntKind.signed, IntKind.bits] at h
  omega

/-- What is asked later changes nothing. -/
theorem front_same {L : Nat} {sc sc' : List (Int × Int)} {n : Nat} (h : ∀ i, i < n → sc.getD i (0, 0) = sc'.getD i (0, 0)) {k : Nat} (hk : k ≤ n) : codesL L sc k = codesL L sc' k ∧ atsL L sc k = atsL L sc' k ∧ stK L sc k = stK L sc' k := by
  have hst : ∀ i, i ≤ n → stK L sc i = stK L sc' i := fun i hi => stepS_same L (fun j hj => h j (by omega))
  refine ⟨?_, ?_, hst k hk⟩
  · unfold codesL
    refine List.map_congr_left fun i hi => ?_
    have := List.mem_range.1 hi
    unfold codeK
    rw [hst i (by omega), h i (by omega)]
  · unfold atsL
    refine List.map_congr_left fun i hi => ?_
    have := List.mem_range.1 hi
    unfold atK
    rw [hst i (by omega), h i (by omega)]
theorem codesL_take (L : Nat) (sc : List (Int × Int)) (n k : Nat) (h : k ≤ n) : (codesL L sc n).take k = codesL L sc k := by
  unfold codesL
  rw [← List.map_take, List.take_range, Nat.min_eq_left h]
theorem atsL_take (L : Nat) (sc : List (Int × Int)) (n k : Nat) (h : k ≤ n) : (atsL L sc n).take k = atsL L sc k := by
  unfold atsL
  rw [← List.map_take, List.take_range, Nat.min_eq_left h]
theorem getD_take {α : Type} {l : List α} {n i : Nat} {d : α} (h : i < n) : (l.take n).getD i d = l.getD i d := by
  rw [List.getD_eq_getElem?_getD, List.getD_eq_getElem?_getD, List.getElem?_take, if_pos h]

theorem plIs_front {z : Int} {sc : List (Int × Int)} {n : Nat} {C A C' A' : List Int} {F F' : List (Nat × Nat)} (hn : n ≤ sc.length) (h : PlIs z sc C A F) (h' : PlIs z (sc.take n) C' A' F') (hE : playE z sc.length = 0) :
    playE z (sc.take n).length = 0 ∧ C.length = sc.length ∧ A.length = sc.length ∧ C'.length = n ∧ A'.length = n ∧ C.take n = C' ∧ A.take n = A' := by
  obtain ⟨e1, e2, e3⟩ := playE_ok hE
  have hE' : playE z (sc.take n).length = 0 := by
    unfold playE
    rw [if_neg (by omega), if_neg (by simp; omega)]
  obtain ⟨rfl, rfl, rfl⟩ := h.2 hE
  obtain ⟨rfl, rfl, rfl⟩ := h'.2 hE'
  have hl : (sc.take n).length = n := by simp; omega
  have hf := front_same (L := z.toNat) (sc := sc.take n) (sc' := sc) (n := n) (fun i hi => getD_take hi) (Nat.le_refl n)
  rw [hl]
  refine ⟨by rw [hl] at hE'; exact hE', codesL_len _ _ _, atsL_len _ _ _, codesL_len _ _ _, atsL_len _ _ _, ?_, ?_⟩
  · rw [codesL_take _ _ _ _ hn, hf.1]
  · rw [atsL_take _ _ _ _ hn, hf.2.1]

end Go.Proofs.Ytoelnioifjeakaa

/- Plain: words that are taken and given back at once; one ask more. -/
namespace Go.Proofs.Ytoelnioifjeakaa
set_option linter.unusedSimpArgs false
set_option linter.unusedVariables false

theorem getD_append_left {α : Type} {l r : List α} {i : Nat} {d : α} (h : i < l.length) : (l ++ r).getD i d = l.getD i d := by
  rw [List.getD_eq_getElem?_getD, List.getD_eq_getElem?_getD, List.getElem?_append_left h]
theorem getD_append_len {α : Type} {l : List α} {x d : α} : (l ++ [x]).getD l.length d = x := by
  rw [List.getD_eq_getElem?_getD, List.getElem?_append_right (Nat.le_refl _), Nat.sub_self]; rfl

/-- One ask more. -/
theorem stK_snoc (L : Nat) (sc : List (Int × Int)) (x : Int × Int) : stK L (sc ++ [x]) sc.length = stK L sc sc.length ∧ stK L (sc ++ [x]) (sc.length + 1) = (stepS L (stK L sc sc.length) x).2.2 ∧
    codeK L (sc ++ [x]) sc.length = (stepS L (stK L sc sc.length) x).1 ∧ atK L (sc ++ [x]) sc.length = (stepS L (stK L sc sc.length) x).2.1 := by
  have h := stepS_same L (sc := sc ++ [x]) (sc' := sc) (k := sc.length) (fun i hi => getD_append_left hi)
  refine ⟨h, ?_, ?_, ?_⟩
  · rw [stK, h, getD_append_len]
  · rw [codeK, h, getD_append_len]
  · rw [atK, h, getD_append_len]

/-- What a take comes to: refused, with all as it was, or taken. -/
theorem step_take {L : Nat} {s : St} (hO : Ok L s) (n : Int) :
    ((stepS L s (1, n)).1 ≠ 0 ∧ (stepS L s (1, n)).2.2 = s) ∨
    ∃ (k : Nat) (b : Nat × Nat), n = (k : Int) ∧ 1 ≤ k ∧ b ∈ s.bl L ∧ k ≤ b.2 ∧ stepS L s (1, n) = (0, b.1, takeS s b.1 (2 ^ lv k)) := by
  rcases step_cases hO (1, n) with ⟨_, _, e⟩ | ⟨_, k, _, _, _, _, e⟩ | ⟨_, k, b, h1, h2, _, hb, e⟩ | ⟨h, _⟩ | ⟨h, _⟩ | ⟨h, _⟩
  · rw [e]; exact .inl ⟨by simp, rfl⟩
  · rw [e]; exact .inl ⟨by simp, rfl⟩
  · exact .inr ⟨k, b, h1, h2, (best_mem hb).1, (best_mem hb).2, e⟩
  · exact absurd h (show ¬ (1 : Int) = 2 by decide)
  · exact absurd h (show ¬ (1 : Int) = 2 by decide)
  · exact absurd rfl h

theorem step_give {L : Nat} {s : St} {p k : Nat} (h : s.tk (p : Int) = some k) : stepS L s (2, (p : Int)) = (0, 0, giveS s p k) := by
  unfold stepS
  rw [if_neg (show ¬ (2 : Int) = 1 by decide), if_pos rfl]
  simp only [h, Int.toNat_natCast]

/-- Taken and given back: as before. -/
theorem take_give {L n : Nat} {s : St} {b : Nat × Nat} (hb : b ∈ s.bl L) (hn : n ≤ b.2) : (giveS (takeS s b.1 (2 ^ lv n)) b.1 (2 ^ lv n)).bl L = s.bl L ∧ (takeS s b.1 (2 ^ lv n)).bl L ≠ s.bl L := by
  obtain ⟨k, q, rfl, hM, hl, hS, hle⟩ := best_piece hb hn
  simp only at hS hle
  have hfree : ∀ i, q * 2 ^ k ≤ i → i < q * 2 ^ k + 2 ^ lv n → s.tw i = false := fun i h1 h2 => hM.2.2.1 i ((piece_iff k q i).2 ⟨h1, by omega⟩)
  have hpos := two_pos (lv n)
  refine ⟨?_, fun e => ?_⟩
  · have : twGive (twTake s.tw (q * 2 ^ k) (2 ^ lv n)) (q * 2 ^ k) (2 ^ lv n) = s.tw := by
      funext i
      simp only [twGive, twTake]
      by_cases h : q * 2 ^ k ≤ i ∧ i < q * 2 ^ k + 2 ^ lv n
      · rw [hfree i h.1 h.2]; simp [h.1, h.2]
      · by_cases h1 : q * 2 ^ k ≤ i
        · have h2 : ¬ i < q * 2 ^ k + 2 ^ lv n := fun h2 => h ⟨h1, h2⟩
          simp [h2]
        · simp [h1]
    show pcs (twGive (twTake s.tw (q * 2 ^ k) (2 ^ lv n)) (q * 2 ^ k) (2 ^ lv n)) L 0 = pcs s.tw L 0
    rw [this]
  · have h1 : inB (s.bl L) (q * 2 ^ k) := (bl_iff L s _).2 ⟨by omega, hfree _ (Nat.le_refl _) (by omega)⟩
    rw [← e] at h1
    exact ((take_inB L s _ _ _).1 h1).2 ⟨Nat.le_refl _, by simp only; omega⟩

end Go.Proofs.Ytoelnioifjeakaa

/- Plain: whose each word is. -/
namespace Go.Proofs.Ytoelnioifjeakaa
set_option linter.unusedSimpArgs false
set_option linter.unusedVariables false

/-- Some places of a list hold x. -/
def updP (l : List Int) (p : Nat → Bool) (x : Int) : List Int := l.mapIdx fun j y => if p j then x else y
theorem updP_len (l : List Int) (p : Nat → Bool) (x : Int) : (updP l p x).length = l.length := by simp [updP]
theorem updP_get (l : List Int) (p : Nat → Bool) (x : Int) (j : Nat) : (updP l p x)[j]? = (l[j]?).map fun y => if p j then x else y := by simp [updP, List.getElem?_mapIdx]
theorem updP_none (l : List Int) (p : Nat → Bool) (x : Int) (h : ∀ j, j < l.length → p j = false) : updP l p x = l := by
  apply List.ext_getElem?
  intro j
  rw [updP_get]
  cases hj : l[j]? with
  | none => rfl
  | some y => rw [Option.map_some, h j (List.getElem?_eq_some_iff.1 hj).1]; rfl
theorem updP_congr (l : List Int) {p q : Nat → Bool} (x : Int) (h : ∀ j, j < l.length → p j = q j) : updP l p x = updP l q x := by
  apply List.ext_getElem?
  intro j
  rw [updP_get, updP_get]
  cases hj : l[j]? with
  | none => rfl
  | some y => rw [Option.map_some, Option.map_some, h j (List.getElem?_eq_some_iff.1 hj).1]
theorem updP_set (l : List Int) {p q : Nat → Bool} (x : Int) (t : Nat) (h : ∀ j, j < l.length → q j = (p j || j == t)) : (updP l p x).set t x = updP l q x := by
  apply List.ext_getElem?
  intro j
  rw [List.getElem?_set, updP_get, updP_get, updP_len]
  by_cases e : t = j
  · subst e
    rw [if_pos rfl]
    by_cases hl : t < l.length
    · rw [if_pos hl, List.getElem?_eq_getElem hl, Option.map_some, h t hl]; simp
    · rw [if_neg hl, List.getElem?_eq_none (by omega)]; rfl
  · rw [if_neg e]
    cases hj : l[j]? with
    | none => rfl
    | some y =>
      rw [Option.map_some, Option.map_some, h j (List.getElem?_eq_some_iff.1 hj).1]
      have : (j == t) = false := by simpa using fun e' => e e'.symm
      rw [this, Bool.or_false]

/-- Each taken word bears its owner's number, which no other one bears; a free one 0. -/
def WhOk (L : Nat) (s : St) (k : Nat) (Wh : List Int) : Prop :=
  Wh.length = 2 ^ L ∧ ∃ id : Int → Int, (∀ a m, s.tk a = some m → (1 ≤ id a ∧ id a ≤ k) ∧ ∀ j : Nat, a ≤ j → (j : Int) < a + m → Wh[j]? = some (id a)) ∧
    (∀ a m b m', s.tk a = some m → s.tk b = some m' → a ≠ b → id a ≠ id b) ∧ (∀ j, inB (s.bl L) j → Wh[j]? = some 0)

theorem whOk_start {L : Nat} : WhOk L startS 0 (List.replicate (2 ^ L) 0) := by
  refine ⟨by simp, fun _ => 0, fun a m h => (by cases h), fun a m b m' h => (by cases h), fun j hj => ?_⟩
  have := ((bl_iff L _ j).1 hj).1
  rw [List.getElem?_replicate, if_pos this]
theorem WhOk.mono {L : Nat} {s : St} {k k' : Nat} {Wh : List Int} (h : WhOk L s k Wh) (hk : k ≤ k') : WhOk L s k' Wh := by
  obtain ⟨h1, id, h2, h3, h4⟩ := h
  exact ⟨h1, id, fun a m ha => ⟨⟨(h2 a m ha).1.1, by have := (h2 a m ha).1.2; omega⟩, (h2 a m ha).2⟩, h3, h4⟩

/-- Behind a give. -/
theorem whOk_give {L : Nat} {s : St} {k p m : Nat} {Wh : List Int} (hO : Ok L s) (h : WhOk L s k Wh) (ht : s.tk (p : Int) = some m) :
    ∃ mine : Int, Wh[p]? = some mine ∧ mine ≠ 0 ∧ p < 2 ^ L ∧ WhOk L (giveS s p m) k (updP Wh (fun j => Wh.getD j 0 == mine) 0) := by
  obtain ⟨h1, id, h2, h3, h4⟩ := h
  obtain ⟨h0, hm, hS⟩ := hO.tk ht
  obtain ⟨⟨i1, i2⟩, i3⟩ := h2 _ _ ht
  have hp := i3 p (by omega) (by omega)
  have hS' : p + m ≤ 2 ^ L := by omega
  refine ⟨id p, hp, by omega, by omega, by rw [updP_len]; exact h1, id, fun a n ha => ?_, fun a n b n' ha hb hne => ?_, fun j hj => ?_⟩
  · simp only [giveS] at ha
    have hne : a ≠ (p : Int) := by rintro rfl; rw [updT_same] at ha; cases ha
    rw [updT_other hne] at ha
    refine ⟨(h2 a n ha).1, fun j j1 j2 => ?_⟩
    have hj := (h2 a n ha).2 j j1 j2
    rw [updP_get, hj, Option.map_some]
    have hn := h3 a n p m ha ht hne
    simp only [List.getD_eq_getElem?_getD, hj, Option.getD_some]
    rw [if_neg (by simpa using hn)]
  · simp only [giveS] at ha hb
    have hna : a ≠ (p : Int) := by rintro rfl; rw [updT_same] at ha; cases ha
    have hnb : b ≠ (p : Int) := by rintro rfl; rw [updT_same] at hb; cases hb
    rw [updT_other hna] at ha
    rw [updT_other hnb] at hb
    exact h3 a n b n' ha hb hne
  · rcases (give_inB s hS' j).1 hj with hj | hj
    · have := h4 j hj
      rw [updP_get, this, Option.map_some]
      split <;> rfl
    · have := i3 j (by omega) (by omega)
      rw [updP_get, this, Option.map_some]
      simp only [List.getD_eq_getElem?_getD, this, Option.getD_some]
      rw [if_pos (by simp)]

/-- Behind a take. -/
theorem whOk_take {L : Nat} {s : St} {k p n : Nat} {Wh : List Int} (hO : Ok L s) (h : WhOk L s k Wh) (hpn : p + n ≤ 2 ^ L) (h1n : 1 ≤ n) (hfree : ∀ j, p ≤ j → j < p + n → inB (s.bl L) j) :
    (∀ j, p ≤ j → j < p + n → Wh[j]? = some 0) ∧ WhOk L (takeS s p n) (k + 1) (updP Wh (fun j => decide (p ≤ j) && decide (j < p + n)) ((k : Int) + 1)) := by
  obtain ⟨h1, id, h2, h3, h4⟩ := h
  have hout : ∀ a m, s.tk a = some m → ∀ j : Nat, a ≤ j → (j : Int) < a + m → ¬ (p ≤ j ∧ j < p + n) := fun a m ha j j1 j2 hj => by
    have := hO.tk ha
    exact (hO.cv j (by omega)).1 (hfree j hj.1 hj.2) ⟨a, m, ha, j1, j2⟩
  have hbt : s.tk (p : Nat) = none := by
    cases ht : s.tk (p : Nat) with
    | none => rfl
    | some m => exact absurd ⟨Nat.le_refl _, by omega⟩ (hout _ _ ht p (by omega) (by have := (hO.tk ht).2.1; omega))
  obtain ⟨id', hid1, hid2⟩ : ∃ id' : Int → Int, id' (p : Nat) = (k : Int) + 1 ∧ ∀ a : Int, a ≠ (p : Nat) → id' a = id a := ⟨fun a => if a = (p : Nat) then (k : Int) + 1 else id a, if_pos rfl, fun a ha => if_neg ha⟩
  refine ⟨fun j j1 j2 => h4 j (hfree j j1 j2), by rw [updP_len]; exact h1, id', fun a m ha => ?_, fun a m c m' ha hc hne => ?_, fun j hj => ?_⟩
  · simp only [takeS] at ha
    by_cases ea : a = (p : Nat)
    · subst ea
      rw [updT_same] at ha
      injection ha with ha
      subst ha
      rw [hid1]
      refine ⟨by omega, fun j j1 j2 => ?_⟩
      rw [updP_get, h4 j (hfree j (by omega) (by omega)), Option.map_some, if_pos (by simp; omega)]
    · rw [updT_other ea] at ha
      rw [hid2 a ea]
      refine ⟨⟨(h2 a m ha).1.1, by have := (h2 a m ha).1.2; omega⟩, fun j j1 j2 => ?_⟩
      have := hout a m ha j j1 j2
      rw [updP_get, (h2 a m ha).2 j j1 j2, Option.map_some, if_neg (by simp; omega)]
  · simp only [takeS] at ha hc
    by_cases ea : a = (p : Nat)
    · have ec : c ≠ (p : Nat) := fun ec => hne (ea.trans ec.symm)
      rw [updT_other ec] at hc
      rw [ea, hid1, hid2 c ec]
      have := (h2 c m' hc).1.2
      omega
    · rw [updT_other ea] at ha
      rw [hid2 a ea]
      by_cases ec : c = (p : Nat)
      · rw [ec, hid1]
        have := (h2 a m ha).1.2
        omega
      · rw [updT_other ec] at hc
        rw [hid2 c ec]
        exact h3 a m c m' ha hc hne
  · obtain ⟨j1, j2⟩ := (take_inB L s p n j).1 hj
    rw [updP_get, h4 j j1, Option.map_some, if_neg (by simp; omega)]

/-- Is a word one of the blocks'? -/
def inBb (l : List (Nat × Nat)) (j : Nat) : Bool := l.any fun x => decide (x.1 ≤ j) && decide (j < x.1 + x.2)
theorem inBb_iff (l : List (Nat × Nat)) (j : Nat) : inBb l j = true ↔ inB l j := by
  unfold inBb inB
  rw [List.any_eq_true]
  constructor
  · rintro ⟨x, hx, h⟩; simp at h; exact ⟨x, hx, h⟩
  · rintro ⟨x, hx, h⟩; exact ⟨x, hx, by simpa using h⟩
theorem inBb_take {l : List (Nat × Nat)} {k : Nat} {x : Nat × Nat} (hx : l[k]? = some x) (j : Nat) : inBb (l.take (k + 1)) j = (inBb (l.take k) j || (decide (x.1 ≤ j) && decide (j < x.1 + x.2))) := by
  unfold inBb
  rw [List.take_add_one, hx]
  simp

/-- A word of a block is not one of those ahead of it. -/
theorem inBb_fresh {S : Nat} {l : List (Nat × Nat)} (ha : Apart S l) {k : Nat} {x : Nat × Nat} (hx : l[k]? = some x) {j : Nat} (h1 : x.1 ≤ j) (h2 : j < x.1 + x.2) : inBb (l.take k) j = false := by
  cases h : inBb (l.take k) j with
  | false => rfl
  | true =>
    obtain ⟨y, hy, y1, y2⟩ := (inBb_iff _ _).1 h
    obtain ⟨i, hi⟩ := List.getElem?_of_mem hy
    rw [List.getElem?_take] at hi
    split at hi
    · have hi' := (List.getElem?_eq_some_iff.1 hi).1
      have hk' := (List.getElem?_eq_some_iff.1 hx).1
      have := List.pairwise_iff_getElem.1 ha.2 i k hi' hk' (by assumption)
      rw [(List.getElem?_eq_some_iff.1 hi).2, (List.getElem?_eq_some_iff.1 hx).2] at this
      omega
    · cases hi

/-- In the end each word is somebody's. -/
theorem whOk_all {L : Nat} {s : St} {k : Nat} {Wh : List Int} (hO : Ok L s) (h : WhOk L s k Wh) {j : Nat} {x : Int} (hx : (updP Wh (inBb (s.bl L)) (-1))[j]? = some x) : x ≠ 0 := by
  obtain ⟨h1, id, h2, h3, h4⟩ := h
  have hl := (List.getElem?_eq_some_iff.1 hx).1
  rw [updP_len, h1] at hl
  rw [updP_get] at hx
  cases hj : inBb (s.bl L) j with
  | true =>
    rw [h4 j ((inBb_iff _ _).1 hj), Option.map_some, hj] at hx
    injection hx with hx
    rw [← hx]
    decide
  | false =>
    have hn : ¬ inB (s.bl L) j := fun h => by rw [(inBb_iff _ _).2 h] at hj; cases hj
    have : ∃ a n, s.tk a = some n ∧ a ≤ j ∧ (j : Int) < a + n := Classical.byContradiction fun hc => hn ((hO.cv j hl).2 hc)
    obtain ⟨a, m, ha, a1, a2⟩ := this
    rw [(h2 a m ha).2 j a1 a2, Option.map_some, hj] at hx
    injection hx with hx
    rw [← hx]
    have := (h2 a m ha).1.1
    simp
    omega

end Go.Proofs.Ytoelnioifjeakaa

/- Walks: apart. -/
namespace Go.Proofs.Ytoelnioifjeakaa
set_option linter.unusedSimpArgs false
set_option linter.unusedVariables false
open Go.RowKit

/-- The row that tells whose each word is. -/
structure RW (W1 wr : World) (N wb S : Nat) (Wh : List Int) : Prop where
  bel : Below N W1 wr
  row : wr.ownsRow N 3 1 (.slice (some ⟨wb, 0, none⟩) S S) S (intsV Wh)
  lb : N ≤ wb

theorem RW.len {W1 wr : World} {N wb S : Nat} {Wh : List Int} (h : RW W1 wr N wb S Wh) : Wh.length = S := by
  have := h.row.1
  rw [intsV_len] at this
  omega
theorem RW.lt {W1 wr : World} {N wb S : Nat} {Wh : List Int} (h : RW W1 wr N wb S Wh) : wb < wr.heap.size := (h.row.lt wb rfl).2
theorem RW.cell {W1 wr : World} {N wb S : Nat} {Wh : List Int} (h : RW W1 wr N wb S Wh) {j : Nat} {x : Int} (hx : Wh[j]? = some x) : wr.cell? ⟨wb, j, none⟩ = some (.int .i64 x) := by
  have := (List.getElem?_eq_some_iff.1 hx).1
  rw [h.row.cellAt j (by rw [h.len] at this; omega)]
  exact intsV_get hx
theorem RW.fr {W1 wr : World} {N wb S : Nat} {Wh : List Int} (h : RW W1 wr N wb S Wh) (j : Nat) : wr.frozen? ⟨wb, j, none⟩ = false := h.row.frozenAt j
theorem RW.set {W1 wr : World} {N wb S : Nat} {Wh : List Int} (h : RW W1 wr N wb S Wh) (j : Nat) (x : Int) : RW W1 (wr.setCell ⟨wb, j, none⟩ (.int .i64 x)) N wb S (Wh.set j x) := by
  refine ⟨h.bel.setCell (p := ⟨wb, j, none⟩) h.lb _, ?_, h.lb⟩
  have := (h.row.stored j (.int .i64 x)).1
  rwa [show (intsV Wh).set j (.int .i64 x) = intsV (Wh.set j x) by simp [intsV, List.map_set]] at this
theorem RW.le {W1 wr : World} {N wb S : Nat} {Wh : List Int} (h : RW W1 wr N wb S Wh) : N ≤ wr.heap.size := by have := h.lt; have := h.lb; omega
theorem RW.alloc {W1 wr : World} {N wb S : Nat} {Wh : List Int} (h : RW W1 wr N wb S Wh) (o : Obj) : RW W1 (wr.alloc o) N wb S Wh := ⟨h.bel.alloc h.le o, h.row.alloc o, h.lb⟩

/-- What an ask that is met comes to. -/
theorem step_ok {L : Nat} {s : St} {q m : Int} (hO : Ok L s) (h : (stepS L s (q, m)).1 = 0) :
    (q = 1 ∧ ∃ (n : Nat) (b : Nat × Nat), m = (n : Int) ∧ 1 ≤ n ∧ n ≤ b.2 ∧ b ∈ s.bl L ∧ stepS L s (q, m) = (0, b.1, takeS s b.1 (2 ^ lv n))) ∨
    (q = 2 ∧ ∃ p n : Nat, m = (p : Int) ∧ s.tk (p : Int) = some n ∧ stepS L s (q, m) = (0, 0, giveS s p n)) := by
  rcases step_cases hO (q, m) with ⟨_, _, e⟩ | ⟨_, k, _, _, _, _, e⟩ | ⟨h0, k, b, h1, h2, _, hb, e⟩ | ⟨_, _, e⟩ | ⟨h1, p, n, h2, ht, e⟩ | ⟨_, _, e⟩
  · rw [e] at h; cases h
  · rw [e] at h; cases h
  · exact .inl ⟨h0, k, b, h1, h2, (best_mem hb).2, (best_mem hb).1, e⟩
  · rw [e] at h; cases h
  · exact .inr ⟨h1, p, n, h2, ht, e⟩
  · rw [e] at h; cases h
theorem step_bad {L : Nat} {s : St} {q m : Int} (hO : Ok L s) (h : (stepS L s (q, m)).1 ≠ 0) : (stepS L s (q, m)).2.2 = s := by
  rcases step_cases hO (q, m) with ⟨_, _, e⟩ | ⟨_, k, _, _, _, _, e⟩ | ⟨h0, k, b, h1, h2, _, hb, e⟩ | ⟨_, _, e⟩ | ⟨h1, p, n, h2, ht, e⟩ | ⟨_, _, e⟩
  · rw [e]
  · rw [e]
  · rw [e] at h; exact absurd rfl h
  · rw [e]
  · rw [e] at h; exact absurd rfl h
  · rw [e]

theorem made_ints (n : Nat) : (madeCells (Value.cells (.int .i64 0)) (n * 1)).toList = intsV (List.replicate n 0) := by
  simp only [madeCells, intsV, Value.cells, Nat.mul_one]
  apply List.ext_getElem
  · simp
  · intro i h1 h2
    simp [Nat.mod_one]

theorem codesL_get {L : Nat} {sc : List (Int × Int)} {n k : Nat} (h : k < n) : (codesL L sc n)[k]? = some (codeK L sc k) := by simp [codesL, h]
theorem atsL_get {L : Nat} {sc : List (Int × Int)} {n k : Nat} (h : k < n) : (atsL L sc n)[k]? = some ((atK L sc k : Nat) : Int) := by simp [atsL, h]

end Go.Proofs.Ytoelnioifjeakaa

/- What was told, in a box. -/
namespace Go.Proofs.Ytoelnioifjeakaa
set_option linter.unusedSimpArgs false
set_option linter.unusedVariables false
open Go.RowKit

/-- What was told, in a box. -/
structure FBox (W : World) (fb : Nat) (ac : Option Addr) (nc cc : Nat) (aa : Option Addr) (na ca : Nat) (af : Option Addr) (nf cf : Nat) : Prop where
  c0 : W.cell? ⟨fb, 0, none⟩ = some (.slice ac nc cc)
  c1 : W.cell? ⟨fb, 1, none⟩ = some (.slice aa na ca)
  c2 : W.cell? ⟨fb, 2, none⟩ = some (.slice af nf cf)
theorem FBox.lt {W : World} {fb : Nat} {ac : Option Addr} {nc cc : Nat} {aa : Option Addr} {na ca : Nat} {af : Option Addr} {nf cf : Nat} (h : FBox W fb ac nc cc aa na ca af nf cf) : fb < W.heap.size := World.block_lt_of_cell? W _ h.c0
theorem FBox.below {W W' : World} {fb : Nat} {ac : Option Addr} {nc cc : Nat} {aa : Option Addr} {na ca : Nat} {af : Option Addr} {nf cf : Nat} (h : FBox W fb ac nc cc aa na ca af nf cf) {B : Nat} (hb : Below B W W') (hB : fb < B) : FBox W' fb ac nc cc aa na ca af nf cf :=
  ⟨(hb.cell (p := ⟨fb, 0, none⟩) hB).trans h.c0, (hb.cell (p := ⟨fb, 1, none⟩) hB).trans h.c1, (hb.cell (p := ⟨fb, 2, none⟩) hB).trans h.c2⟩
theorem fbox_new (w2 : World) (ac : Option Addr) (nc cc : Nat) (aa : Option Addr) (na ca : Nat) (af : Option Addr) (nf cf : Nat) : FBox (w2.alloc (.cells #[.slice ac nc cc, .slice aa na ca, .slice af nf cf] 27)) w2.heap.size ac nc cc aa na ca af nf cf :=
  ⟨by simp [go_sem], by simp [go_sem], by simp [go_sem]⟩

theorem Blks.kept {B : Nat} {w w' : World} {a : Option Addr} {l : List (Nat × Nat)} (h : Blks B w a l) (hk : ∀ x : Addr, a = some x → w'.heap[x.block]? = w.heap[x.block]?) : Blks B w' a l := by
  refine ⟨h.1, fun hne => ?_⟩
  obtain ⟨b, off, rfl, hB, hc⟩ := h.2 hne
  have hb := hk _ rfl
  refine ⟨b, off, rfl, hB, fun k v hv => ?_⟩
  rw [World.cell?_of_block (a := ⟨b, off + k * 2, none⟩) hb, World.cell?_of_block (a := ⟨b, off + k * 2 + 1, none⟩) hb]
  exact hc k v hv
theorem Blks.lt {B : Nat} {w : World} {l : List (Nat × Nat)} {x : Addr} (h : Blks B w (some x) l) (hne : l ≠ []) : x.block < B := by
  obtain ⟨b, off, e, hB, _⟩ := h.2 hne
  injection e with e
  subst e
  exact hB

end Go.Proofs.Ytoelnioifjeakaa

/- The walk of apart. -/
namespace Go.Proofs.Ytoelnioifjeakaa
set_option linter.unusedSimpArgs false
set_option linter.unusedVariables false
open Go.RowKit

/-- One ask more: whose each word is then. -/
theorem wh_step {L : Nat} {sc : List (Int × Int)} {k : Nat} {q m : Int} (hx : sc[k]? = some (q, m)) {Wh : List Int} (h : WhOk L (stK L sc k) k Wh) :
    (codeK L sc k ≠ 0 ∧ WhOk L (stK L sc (k + 1)) (k + 1) Wh) ∨
    (codeK L sc k = 0 ∧ q = 1 ∧ ∃ n r p : Nat, m = (n : Int) ∧ 1 ≤ n ∧ n ≤ r ∧ r = 2 ^ lv n ∧ p % r = 0 ∧ atK L sc k = p ∧ p + r ≤ 2 ^ L ∧ (∀ j, p ≤ j → j < p + r → Wh[j]? = some 0) ∧ WhOk L (stK L sc (k + 1)) (k + 1) (updP Wh (fun j => decide (p ≤ j) && decide (j < p + r)) ((k : Int) + 1))) ∨
    (codeK L sc k = 0 ∧ q = 2 ∧ ∃ (p : Nat) (mine : Int), m = (p : Int) ∧ p < 2 ^ L ∧ Wh[p]? = some mine ∧ mine ≠ 0 ∧ WhOk L (stK L sc (k + 1)) (k + 1) (updP Wh (fun j => Wh.getD j 0 == mine) 0)) := by
  have hO := ok_stK L sc k
  have hg : sc.getD k (0, 0) = (q, m) := by rw [List.getD_eq_getElem?_getD, hx]; rfl
  simp only [codeK, atK, stK, hg]
  by_cases h0 : (stepS L (stK L sc k) (q, m)).1 = 0
  · rcases step_ok hO h0 with ⟨rfl, n, b, rfl, h1, h2, hb, hs⟩ | ⟨rfl, p, n, rfl, ht, hs⟩
    · refine .inr (.inl ⟨h0, rfl, n, 2 ^ lv n, b.1, rfl, h1, lv_ge n, rfl, ?_⟩)
      rw [hs]
      obtain ⟨k', q', hbe, hM, hl, hS, hle⟩ := best_piece hb h2
      have hfree : ∀ j, b.1 ≤ j → j < b.1 + 2 ^ lv n → inB ((stK L sc k).bl L) j := fun j j1 j2 => ⟨b, hb, j1, by omega⟩
      obtain ⟨t2, t3⟩ := whOk_take hO h hS (two_pos _) hfree
      refine ⟨?_, rfl, hS, t2, t3⟩
      rw [hbe]
      simp only
      rw [show k' = (k' - lv n) + lv n by omega, Nat.pow_add, ← Nat.mul_assoc]
      exact Nat.mul_mod_left _ _
    · refine .inr (.inr ⟨h0, rfl, ?_⟩)
      rw [hs]
      obtain ⟨mine, t1, t2, t3, t4⟩ := whOk_give hO h ht
      exact ⟨p, mine, rfl, t3, t1, t2, t4.mono (by omega)⟩
  · refine .inl ⟨h0, ?_⟩
    rw [step_bad hO h0]
    exact h.mono (by omega)

/-- A made row lies in one new block. -/
theorem wpList_make_at {P : Program} (w : World) {ops : Array Oper} {rest : List Oper} {o : Oper} {a : Act} {Q : Exit → Act → World → Prop}
    (hg : o.guard = none) (l c : Operand) (t : TypeId) (hop : o.op = Op.makeSlice t l c)
    (base : Nat) (e : TypeId) (i : TypeInfo) (z : Value) (size : Nat) (h1 : P.underlying t = some (.slice e)) (h2 : P.info? e = some i) (h3 : i.zero = some z) (h4 : i.size = size)
    (kl kc : IntKind) (L C : Int) (n : Nat) (hl : a.eval l = .int kl L) (hc : a.eval c = .int kc C) (hL : L = (n : Int)) (hC : C = (n : Int)) (b2 : i.bytes * n ≤ 281474976710656) (b3 : n ≤ maxLen) (b4 : base ≤ w.heap.size)
    (hK : ∀ w', w'.ownsRow base e size (.slice (some ⟨w.heap.size, 0, none⟩) n n) n (madeCells z.cells (n * size)).toList → w.grownBy w' none → w'.heap.size = w.heap.size + 1 → wpList P ops Q rest (a.put o.dst (.slice (some ⟨w.heap.size, 0, none⟩) n n)) w') :
    wpList P ops Q (o :: rest) a w := by
  refine wpList_plain hg fun K hK' => ?_
  subst h4
  have h63' : (n : Int) ≤ 9223372036854775807 := by
    have h := b3
    simp [maxLen] at h
    omega
  have hb' : (i.bytes : Int) * (n : Int) ≤ 281474976710656 := by
    have h : ((i.bytes * n : Nat) : Int) ≤ 281474976710656 := by omega
    rwa [Int.natCast_mul] at h
  have hr := run_make (P := P) w t e i z h1 h2 h3 kl kc n n (by omega) (Int.le_refl _) hb' h63'
  simp only [Int.toNat_natCast] at hr
  subst hL
  subst hC
  unfold Oper.wp
  simp [execOp, hop, hl, hc, hr, Result.andThen]
  exact hK' _ _ (hK _ (World.ownsRow_lit w _ n b4 b3 (size_madeCells _ _)) (World.grownBy_alloc w _ none) (by simp))

set_option maxRecDepth 100000 in
set_option maxHeartbeats 8000000 in
theorem apart_c (S L : Nat) (hSL : 2 ^ L = S) (hL : L ≤ 7) (a : Option Addr) (c : Nat) (sc : List (Int × Int)) (hl : sc.length ≤ 100) (ac : Option Addr) (cc : Nat) (aa : Option Addr) (ca : Nat) (af : Option Addr) (nf cf : Nat) (F : List (Nat × Nat)) (w : World)
    (hA : Asks w.heap.size w a sc) (hC : Nums w.heap.size w ac (codesL L sc sc.length)) (hB : Nums w.heap.size w aa (atsL L sc sc.length)) (hF : Blks w.heap.size w af F) (hFe : F = (stK L sc sc.length).bl L) (hnf : nf = F.length) :
    Calls Try.prog 11 #[.int .i64 (S : Nat), .slice a sc.length c, .agg #[.slice ac sc.length cc, .slice aa sc.length ca, .slice af nf cf], .bool true] w fun e w' => e = .returned (.bool true) ∧ Below w.heap.size w w' := by
  subst hnf
  obtain ⟨i0, hi, hz0, hz1, hz2⟩ := info_parts Try.info3
  obtain ⟨W1, hW1⟩ : ∃ W1, w.alloc (.cells #[.slice ac sc.length cc, .slice aa sc.length ca, .slice af F.length cf] 27) = W1 := ⟨_, rfl⟩
  have hb1 : Below w.heap.size w W1 := by rw [← hW1]; exact (Below.refl _ _).alloc (Nat.le_refl _) _
  have hs1 : w.heap.size < W1.heap.size := by rw [← hW1]; simp
  have hF1 : FBox W1 w.heap.size ac sc.length cc aa sc.length ca af F.length cf := by rw [← hW1]; exact fbox_new ..
  have HA : Hid (Asks W1.heap.size W1 a sc) := (hA.below hb1).mono (by omega)
  have HC : Hid (Nums W1.heap.size W1 ac (codesL L sc sc.length)) := (hC.below hb1).mono (by omega)
  have HB : Hid (Nums W1.heap.size W1 aa (atsL L sc sc.length)) := (hB.below hb1).mono (by omega)
  have HF : Hid (Blks W1.heap.size W1 af F) := (hF.below hb1).mono (by omega)
  have HF1 := hide hF1
  have t0 := hF1.c0
  have t1 := hF1.c1
  have hO := ok_stK L sc sc.length
  have hFl := bl_len L (stK L sc sc.length)
  have hS2 : S ≤ 256 := by rw [← hSL]; exact p2_le (k := L) (by omega)
  have hS : 1 ≤ S := by rw [← hSL]; exact two_pos L
  rw [← hFe, hSL] at hFl
  have HFe := hide hFe
  clear hA hC hB hF hF1 hO hFe
  go_enter Try.func11, Try.ntmps11
  go_wp2_with (at_make; go_must (refine wpList_make_at _ rfl _ _ 24 rfl W1.heap.size 3 i0 _ 1 Try.underlying24 hi hz0 hz1 .i64 .i64 _ _ S rfl rfl rfl rfl (by rw [hz2]; omega) (by simp only [maxLen]; omega) (Nat.le_refl _) ?_); go_must (intro w5 hown5 hg5 hs5))
  rw [made_ints] at hown5
  have HR5 : Hid (RW W1 w5 W1.heap.size W1.heap.size S (List.replicate S 0)) := ⟨(Below.refl _ _).grown hg5 (Nat.le_refl _) (fun k e => by cases e), hown5, Nat.le_refl _⟩
  have HW5 := hide (whOk_start (L := L))
  rw [hSL] at HW5
  have HSL := hide hSL
  clear hSL
  generalize hN : W1.heap.size = N at *
  have HN := hide hN
  clear hown5 hg5 hs5 t0 t1 hi hz0 hz1 hz2 hN
  go_loopw [40] (fun i wr => ∃ (k : Nat) (Wh : List Int), k ≤ sc.length ∧ i = .int .i64 k ∧ Hid (RW W1 wr N N S Wh) ∧ Hid (WhOk L (stK L sc k) k Wh)) (fun i _ => sc.length - (intOf i).toNat)
  case atStart => exact ⟨0, _, Nat.zero_le _, rfl, HR5, HW5⟩
  case round =>
    clear HR5 HW5
    obtain ⟨k, Wh, hk, rfl, HR, HW⟩ := hrel
    have hRl := (unhide HR).lt
    have hFw := (unhide HF1).below (unhide HR).bel (by omega)
    have t0 := hFw.c0
    have t1 := hFw.c1
    have tl := hFw.lt
    by_cases hlt : k < sc.length
    · obtain ⟨q, m, hx⟩ : ∃ q m, sc[k]? = some (q, m) := ⟨sc[k].1, sc[k].2, List.getElem?_eq_getElem hlt⟩
      have hRb := (unhide HR).bel
      obtain ⟨b, off, rfl, hbB, x0, x1⟩ := ((unhide HA).below hRb).at hx
      obtain ⟨bC, oC, rfl, hbC, y0⟩ := ((unhide HC).below hRb).at (codesL_get hlt)
      obtain ⟨bA, oA, rfl, hbA, y1⟩ := ((unhide HB).below hRb).at (atsL_get hlt)
      have hbl : b < wr.heap.size := by omega
      have hbCl : bC < wr.heap.size := by omega
      have hbAl : bA < wr.heap.size := by omega
      have hkI : (k : Int) < (sc.length : Int) := by omega
      have HRa : Hid (RW W1 (wr.alloc (.cells #[.int .i64 q, .int .i64 m] 39)) N N S Wh) := (unhide HR).alloc _
      rcases wh_step hx (unhide HW) with ⟨hc, hw⟩ | ⟨hc, rfl, n, r, p, rfl, hn1, hnr, hr, hrem, hat, hpn, hz, hw⟩ | ⟨hc, rfl, p, mine, rfl, hpS, hmn, hm0, hw⟩
      · have HW' := hide hw
        have e1 : (codeK L sc k != 0) = true := by simp [hc]
        generalize codeK L sc k = cd at *
        generalize atK L sc k = at' at *
        clear hx hw hc hRb
        go_wp2
        go_roundw
        case rel => exact ⟨k + 1, Wh, by omega, by go_num, HRa, HW'⟩
        case measure => simp [intOf]; omega
      · have HW' := hide hw
        have Hz := hide hz
        rw [hc] at y0
        rw [hat] at y1
        rw [unhide HSL] at hpn
        have hpw : ∀ w, Calls Try.prog 13 #[.int .i64 (n : Nat)] w fun e w' => e = .returned (.int .i64 (r : Nat)) ∧ w' = w := fun w => by
          have := power_c n hn1 (by omega) w
          unfold p2 at this
          rw [← hr] at this; exact this
        have d1 : decide (r < 1) = false := decide_eq_false (by omega)
        have d2 : decide ((S : Int) - (r : Int) < (p : Int)) = false := decide_eq_false (by omega)
        have d3 : (p : Int) % (r : Int) = 0 := by omega
        have d4 : ¬ (r : Int) = 0 := by omega
        clear hx hw hc hat hz hRb hr hrem
        go_wp2_with (go_at_call 13; go_must (refine (hpw _).mono ?_); go_must (rintro e w' ⟨he, hw⟩; subst he; have hw := hw.symm; subst hw))
        obtain ⟨WR, hWR⟩ : ∃ WR, WR = wr := ⟨wr, rfl⟩
        subst hWR
        go_loopw [16] (fun i wr => ∃ j : Nat, p ≤ j ∧ j ≤ p + r ∧ i = .int .i64 j ∧ Hid (RW W1 wr N N S (updP Wh (fun t => decide (p ≤ t) && decide (t < j)) ((k : Int) + 1)))) (fun i _ => p + r - (intOf i).toNat)
        case atStart =>
          refine ⟨p, Nat.le_refl _, by omega, rfl, ?_⟩
          show RW _ _ _ _ _ _
          rw [updP_none _ _ _ (fun j hj => by simp)]
          exact unhide HRa
        case round =>
          obtain ⟨j, hj1, hj2, rfl, HR2⟩ := hrel
          by_cases hjn : j < p + r
          · have hR2 := unhide HR2
            have e0 : (updP Wh (fun t => decide (p ≤ t) && decide (t < j)) ((k : Int) + 1))[j]? = some 0 := by
              rw [updP_get, unhide Hz j hj1 hjn, Option.map_some, if_neg (by simp)]
            have g0 := hR2.cell e0
            have gf := hR2.fr j
            have hRl2 := hR2.lt
            have HR3 : Hid (RW W1 (wr.setCell ⟨N, j, none⟩ (.int .i64 ((k : Int) + 1))) N N S (updP Wh (fun t => decide (p ≤ t) && decide (t < j + 1)) ((k : Int) + 1))) := by
              have := hR2.set j ((k : Int) + 1)
              rwa [updP_set Wh (p := fun t => decide (p ≤ t) && decide (t < j)) (q := fun t => decide (p ≤ t) && decide (t < j + 1)) _ j (fun x hx => by
                by_cases e : x = j
                · subst e; simp [hj1]
                · have e1 : decide (x < j + 1) = decide (x < j) := by by_cases h : x < j <;> simp [h] <;> omega
                  simp only [e1]; simp [e])] at this
            clear e0 hR2
            go_wp2
            go_roundw
            case rel => exact ⟨j + 1, by omega, by omega, by go_num, HR3⟩
            case measure => simp [intOf]; omega
          · obtain rfl : j = p + r := by omega
            go_wp2
            go_roundw
            case rel => exact ⟨k + 1, _, by omega, by go_num, HR2, HW'⟩
            case measure => simp [intOf]; omega
      · have HW' := hide hw
        rw [unhide HSL] at hpS
        have g0 := (unhide HR).cell hmn
        have g0l : (p : Int) < (S : Int) := by omega
        have hmz : (mine == 0) = false := by simp [hm0]
        have d1 : decide ((S : Int) ≤ (p : Int)) = false := decide_eq_false (by omega)
        have HR0 := (unhide HR).len
        rw [hc] at y0
        clear hx hw hc hRb
        go_wp2
        obtain ⟨WR, hWR⟩ : ∃ WR, WR = wr := ⟨wr, rfl⟩
        subst hWR
        go_loopw [14] (fun i wr => ∃ j : Nat, j ≤ S ∧ i = .int .i64 j ∧ Hid (RW W1 wr N N S (updP Wh (fun t => decide (t < j) && (Wh.getD t 0 == mine)) 0))) (fun i _ => S - (intOf i).toNat)
        case atStart =>
          refine ⟨0, by omega, rfl, ?_⟩
          show RW _ _ _ _ _ _
          rw [updP_none _ _ _ (fun j hj => by simp)]
          exact unhide HRa
        case round =>
          obtain ⟨j, hj1, rfl, HR2⟩ := hrel
          by_cases hjn : j < S
          · have hR2 := unhide HR2
            obtain ⟨x, hx⟩ : ∃ x, Wh[j]? = some x := ⟨Wh[j]'(by omega), List.getElem?_eq_getElem _⟩
            have hxd : Wh.getD j 0 = x := by rw [List.getD_eq_getElem?_getD, hx]; rfl
            have e0 : (updP Wh (fun t => decide (t < j) && (Wh.getD t 0 == mine)) 0)[j]? = some x := by
              rw [updP_get, hx, Option.map_some, if_neg (by simp)]
            have h0 := hR2.cell e0
            have gf := hR2.fr j
            have hRl2 := hR2.lt
            have hjI : (j : Int) < (S : Int) := by omega
            by_cases hxm : x = mine
            · have HR3 : Hid (RW W1 (wr.setCell ⟨N, j, none⟩ (.int .i64 0)) N N S (updP Wh (fun t => decide (t < j + 1) && (Wh.getD t 0 == mine)) 0)) := by
                have := hR2.set j 0
                rwa [updP_set Wh (q := fun t => decide (t < j + 1) && (Wh.getD t 0 == mine)) _ j (fun x' hx' => by
                  by_cases e : x' = j
                  · subst e; simp only [hxd, hxm]; simp
                  · have e1 : decide (x' < j + 1) = decide (x' < j) := by by_cases h : x' < j <;> simp [h] <;> omega
                    simp only [e1]; simp [e])] at this
              have em : (x == mine) = true := by simp [hxm]
              clear e0 hR2 hx hxd hxm
              go_wp2
              go_roundw
              case rel => exact ⟨j + 1, by omega, by go_num, HR3⟩
              case measure => simp [intOf]; omega
            · have HR3 : Hid (RW W1 wr N N S (updP Wh (fun t => decide (t < j + 1) && (Wh.getD t 0 == mine)) 0)) := by
                have := hR2
                rwa [updP_congr Wh (q := fun t => decide (t < j + 1) && (Wh.getD t 0 == mine)) _ (fun x' hx' => by
                  by_cases e : x' = j
                  · subst e; simp only [hxd]; simp [hxm]
                  · have e1 : decide (x' < j + 1) = decide (x' < j) := by by_cases h : x' < j <;> simp [h] <;> omega
                    simp only [e1])] at this
              have em : (x == mine) = false := by simp [hxm]
              clear e0 hR2 hx hxd hxm
              go_wp2
              go_roundw
              case rel => exact ⟨j + 1, by omega, by go_num, HR3⟩
              case measure => simp [intOf]; omega
          · obtain rfl : j = S := by omega
            have HR3 : Hid (RW W1 wr N N j (updP Wh (fun t => Wh.getD t 0 == mine) 0)) := by
              have := unhide HR2
              rwa [updP_congr Wh (q := fun t => Wh.getD t 0 == mine) _ (fun x' hx' => by simp only [show decide (x' < j) = true from decide_eq_true (by omega)]; rfl)] at this
            clear HR2
            go_wp2
            go_roundw
            case rel => exact ⟨k + 1, _, by omega, by go_num, HR3, HW'⟩
            case measure => simp [intOf]; omega
    · obtain rfl : k = sc.length := by omega
      have t2 := hFw.c2
      have hOk := hide (ok_stK L sc sc.length)
      have HFe' := unhide HFe
      have Hap : Hid (Apart S F) := by show Apart S F; rw [HFe', ← unhide HSL]; exact (unhide hOk).ap
      have Hfr : Hid (∀ j, inB F j → Wh[j]? = some 0) := by
        show ∀ j, inB F j → Wh[j]? = some 0
        rw [unhide HFe]
        obtain ⟨_, _, _, _, h4⟩ := unhide HW
        exact h4
      have Hend : Hid (∀ (j : Nat) (x : Int), (updP Wh (inBb F) (-1))[j]? = some x → x ≠ 0) := by
        show ∀ (j : Nat) (x : Int), (updP Wh (inBb F) (-1))[j]? = some x → x ≠ 0
        rw [unhide HFe]
        exact fun j x h => whOk_all (unhide hOk) (unhide HW) h
      have HR0 := (unhide HR).len
      clear HFe' HW hOk t0 t1 HA HC HB HFe
      go_wp2
      obtain ⟨WR, hWR⟩ : ∃ WR, WR = wr := ⟨wr, rfl⟩
      subst hWR
      go_loopw [145] (fun i wr => ∃ k : Nat, k ≤ F.length ∧ i = .int .i64 k ∧ Hid (RW W1 wr N N S (updP Wh (inBb (F.take k)) (-1)))) (fun i _ => F.length - (intOf i).toNat)
      case atStart =>
        refine ⟨0, Nat.zero_le _, rfl, ?_⟩
        show RW _ _ _ _ _ _
        rw [updP_none _ _ _ (fun j hj => by simp [inBb])]
        exact unhide HR
      case round =>
        obtain ⟨k, hk, rfl, HR2⟩ := hrel
        have hR2l := (unhide HR2).lt
        by_cases hlt : k < F.length
        · obtain ⟨p, m, hx⟩ : ∃ p m, F[k]? = some (p, m) := ⟨F[k].1, F[k].2, List.getElem?_eq_getElem hlt⟩
          obtain ⟨b, off, rfl, hbB, x0, x1⟩ := ((unhide HF).below (unhide HR2).bel).at hx
          have hbl : b < wr.heap.size := by omega
          have hkI : (k : Int) < (F.length : Int) := by omega
          obtain ⟨hm1, hpm⟩ := (unhide Hap).1 (p, m) (List.mem_of_getElem? hx)
          simp only at hm1 hpm
          have d1 : decide (m < 1) = false := decide_eq_false (by omega)
          have d2 : decide ((S : Int) < (m : Int)) = false := decide_eq_false (by omega)
          have d3 : decide ((S : Int) - (m : Int) < (p : Int)) = false := decide_eq_false (by omega)
          have HRa : Hid (RW W1 (wr.alloc (.cells #[.int .i64 (p : Nat), .int .i64 (m : Nat)] 37)) N N S (updP Wh (inBb (F.take k)) (-1)) ∧ (wr.alloc (.cells #[.int .i64 (p : Nat), .int .i64 (m : Nat)] 37)).heap[wr.heap.size]? = some (.cells #[.int .i64 (p : Nat), .int .i64 (m : Nat)] 37)) := ⟨(unhide HR2).alloc _, heap_alloc_new _ _⟩
          have Hx := hide hx
          clear hx
          go_wp2
          obtain ⟨WR2, hWR2⟩ : ∃ WR2, WR2 = wr := ⟨wr, rfl⟩
          subst hWR2
          go_loopw [19] (fun i wr => ∃ j : Nat, p ≤ j ∧ j ≤ p + m ∧ i = .int .i64 j ∧ Hid (RW W1 wr N N S (updP Wh (fun t => inBb (F.take k) t || (decide (p ≤ t) && decide (t < j))) (-1)) ∧ wr.heap[WR2.heap.size]? = some (.cells #[.int .i64 (p : Nat), .int .i64 (m : Nat)] 37))) (fun i _ => p + m - (intOf i).toNat)
          case atStart =>
            refine ⟨p, Nat.le_refl _, by omega, rfl, ?_⟩
            show RW _ _ _ _ _ _ ∧ _
            rw [updP_congr Wh (p := fun t => inBb (F.take k) t || (decide (p ≤ t) && decide (t < p))) (q := inBb (F.take k)) _ (fun j hj => by
              have : (decide (p ≤ j) && decide (j < p)) = false := by simp
              simp only [this, Bool.or_false])]
            exact unhide HRa
          case round =>
            obtain ⟨j, hj1, hj2, rfl, HR3⟩ := hrel
            obtain ⟨hR3, hbx⟩ := unhide HR3
            have hR3l := hR3.lt
            have hxl : WR2.heap.size < wr.heap.size := (Array.getElem?_eq_some_iff.1 hbx).1
            have g0 : wr.cell? ⟨WR2.heap.size, 0, none⟩ = some (.int .i64 (p : Nat)) := by rw [cell_of_row wr _ 0 _ 37 (0, 0) hbx]; rfl
            have g1 : wr.cell? ⟨WR2.heap.size, 1, none⟩ = some (.int .i64 (m : Nat)) := by rw [cell_of_row wr _ 1 _ 37 (0, 0) hbx]; rfl
            by_cases hjn : j < p + m
            · have hx := unhide Hx
              have e0 : (updP Wh (fun t => inBb (F.take k) t || (decide (p ≤ t) && decide (t < j))) (-1))[j]? = some 0 := by
                rw [updP_get, unhide Hfr j ⟨(p, m), List.mem_of_getElem? hx, hj1, hjn⟩, Option.map_some, inBb_fresh (unhide Hap) hx hj1 hjn]
                simp
              have y0 := hR3.cell e0
              have gf := hR3.fr j
              have HR4 : Hid (RW W1 (wr.setCell ⟨N, j, none⟩ (.int .i64 (-1))) N N S (updP Wh (fun t => inBb (F.take k) t || (decide (p ≤ t) && decide (t < j + 1))) (-1)) ∧ (wr.setCell ⟨N, j, none⟩ (.int .i64 (-1))).heap[WR2.heap.size]? = some (.cells #[.int .i64 (p : Nat), .int .i64 (m : Nat)] 37)) := by
                have := hR3.set j (-1)
                rw [updP_set Wh (p := fun t => inBb (F.take k) t || (decide (p ≤ t) && decide (t < j))) (q := fun t => inBb (F.take k) t || (decide (p ≤ t) && decide (t < j + 1))) _ j (fun x hx => by
                  by_cases e : x = j
                  · subst e; simp [hj1]
                  · have e1 : decide (x < j + 1) = decide (x < j) := by by_cases h : x < j <;> simp [h] <;> omega
                    simp only [e1]; simp [e])] at this
                refine ⟨this, ?_⟩
                rw [← hbx]
                exact Below.heap_setCell _ _ _ _ (by simp only; omega)
              clear e0 hR3 hx hbx
              go_wp2
              go_roundw
              case rel => exact ⟨j + 1, by omega, by omega, by go_num, HR4⟩
              case measure => simp [intOf]; omega
            · obtain rfl : j = p + m := by omega
              have HR4 : Hid (RW W1 wr N N S (updP Wh (inBb (F.take (k + 1))) (-1))) := by
                show RW _ _ _ _ _ _
                rw [updP_congr Wh (p := inBb (F.take (k + 1))) (q := fun t => inBb (F.take k) t || (decide (p ≤ t) && decide (t < p + m))) _ (fun x hx => inBb_take (unhide Hx) x)]
                exact hR3
              clear hR3 hbx
              go_wp2
              go_roundw
              case rel => exact ⟨k + 1, by omega, by go_num, HR4⟩
              case measure => simp [intOf]; omega
        · obtain rfl : k = F.length := by omega
          have HR3 : Hid (RW W1 wr N N S (updP Wh (inBb F) (-1))) := by
            have := unhide HR2
            rwa [List.take_length] at this
          clear HR2
          go_wp2
          obtain ⟨WR2, hWR2⟩ : ∃ WR2, WR2 = wr := ⟨wr, rfl⟩
          subst hWR2
          go_loopw [194] (fun i wr => ∃ j : Nat, j ≤ S ∧ i = .int .i64 j ∧ wr = WR2) (fun i _ => S - (intOf i).toNat)
          case atStart => exact ⟨0, by omega, rfl, rfl⟩
          case round =>
            obtain ⟨j, hj, rfl, rfl⟩ := hrel
            by_cases hjn : j < S
            · have hR3 := unhide HR3
              obtain ⟨x, hx⟩ : ∃ x, (updP Wh (inBb F) (-1))[j]? = some x := ⟨_, List.getElem?_eq_getElem (by rw [updP_len]; omega)⟩
              have h0 := hR3.cell hx
              have hn := unhide Hend j x hx
              have hn0 : (x == 0) = false := by simp [hn]
              have hRl3 := hR3.lt
              have hjI : (j : Int) < (S : Int) := by omega
              clear hR3 hx hn
              go_wp2
              go_roundw
              case rel => exact ⟨j + 1, by omega, by go_num, trivial⟩
              case measure => simp [intOf]; omega
            · obtain rfl : j = S := by omega
              have hbf : Below w.heap.size w wr := hb1.trans ((unhide HR3).bel.mono (by omega))
              go_wp2
              go_ret
              exact ⟨rfl, hbf⟩

end Go.Proofs.Ytoelnioifjeakaa

/- slices.SortFunc at blocks, by place. -/
namespace Go.Proofs.Ytoelnioifjeakaa
open Go.Shelf
def Try.sortB_ren : Go.Shelf.Ren := ⟨fun | 6 => 29 | 15 => 37 | 14 => 36 | 28 => 47 | 29 => 48 | 20 => 39 | 21 => 40 | 22 => 41 | 23 => 42 | 24 => 43 | 25 => 44 | 26 => 45 | 27 => 46 | 46 => 49 | 47 => 50 | 48 => 51 | 49 => 52 | 50 => 53 | 57 => 54 | n => n, fun | 22 => 25 | 24 => 37 | 25 => 67 | 3 => 3 | 39 => 75 | 0 => 0 | 53 => 85 | 55 => 87 | 4 => 4 | 46 => 79 | 45 => 78 | 50 => 71 | 5 => 5 | 9 => 9 | 66 => 88 | 70 => 92 | 76 => 94 | 77 => 54 | n => n, fun | n => n⟩
theorem Try.sortB : Go.Proofs.SlLaysF0.n6 Try.prog Try.sortB_ren := {
  mixed := by kernel_rfl
  f6 := ⟨Try.f29.name, by decide, Try.func29.trans (congrArg some (by kernel_rfl))⟩
  f14 := ⟨Try.f36.name, by decide, Try.func36.trans (congrArg some (by kernel_rfl))⟩
  f15 := Try.func37.trans (congrArg some (by kernel_rfl))
  f20 := ⟨Try.f39.name, by decide, Try.func39.trans (congrArg some (by kernel_rfl))⟩
  f21 := ⟨Try.f40.name, by decide, Try.func40.trans (congrArg some (by kernel_rfl))⟩
  f22 := ⟨Try.f41.name, by decide, Try.func41.trans (congrArg some (by kernel_rfl))⟩
  f23 := ⟨Try.f42.name, by decide, Try.func42.trans (congrArg some (by kernel_rfl))⟩
  f24 := ⟨Try.f43.name, by decide, Try.func43.trans (congrArg some (by kernel_rfl))⟩
  f25 := ⟨Try.f44.name, by decide, Try.func44.trans (congrArg some (by kernel_rfl))⟩
  f26 := ⟨Try.f45.name, by decide, Try.func45.trans (congrArg some (by kernel_rfl))⟩
  f27 := ⟨Try.f46.name, by decide, Try.func46.trans (congrArg some (by kernel_rfl))⟩
  f28 := Try.func47.trans (congrArg some (by kernel_rfl))
  f29 := Try.func48.trans (congrArg some (by kernel_rfl))
  f46 := ⟨Try.f49.name, by decide, Try.func49.trans (congrArg some (by kernel_rfl))⟩
  f47 := Try.func50.trans (congrArg some (by kernel_rfl))
  f48 := Try.func51.trans (congrArg some (by kernel_rfl))
  f49 := ⟨Try.f52.name, by decide, Try.func52.trans (congrArg some (by kernel_rfl))⟩
  f50 := ⟨Try.f53.name, by decide, Try.func53.trans (congrArg some (by kernel_rfl))⟩
  f57 := ⟨Try.f54.name, by decide, Try.func54.trans (congrArg some (by kernel_rfl))⟩
  t0 := Try.underlying0
  a0 := Try.isAgg0
  z0 := Try.sizeOf0
  v0 := Try.zeroValue0
  t3 := Try.underlying3
  a3 := Try.isAgg3
  z3 := Try.sizeOf3
  v3 := Try.zeroValue3
  t4 := Try.underlying4
  a4 := Try.isAgg4
  z4 := Try.sizeOf4
  v4 := Try.zeroValue4
  t5 := Try.underlying5
  a5 := Try.isAgg5
  z5 := Try.sizeOf5
  v5 := Try.zeroValue5
  t9 := Try.underlying9
  a9 := Try.isAgg9
  z9 := Try.sizeOf9
  v9 := Try.zeroValue9
  t22 := Try.underlying25
  a22 := Try.isAgg25
  z22 := Try.sizeOf25
  v22 := Try.zeroValue25
  t25 := Try.underlying67
  a25 := Try.isAgg67
  z25 := Try.sizeOf67
  v25 := Try.zeroValue67
  t39 := Try.underlying75
  a39 := Try.isAgg75
  z39 := Try.sizeOf75
  v39 := Try.zeroValue75
  t45 := Try.underlying78
  a45 := Try.isAgg78
  z45 := Try.sizeOf78
  v45 := Try.zeroValue78
  t46 := Try.underlying79
  a46 := Try.isAgg79
  z46 := Try.sizeOf79
  v46 := Try.zeroValue79
  t50 := Try.underlying71
  a50 := Try.isAgg71
  z50 := Try.sizeOf71
  v50 := Try.zeroValue71
  t53 := Try.underlying85
  a53 := Try.isAgg85
  z53 := Try.sizeOf85
  v53 := Try.zeroValue85
  t55 := Try.underlying87
  a55 := Try.isAgg87
  z55 := Try.sizeOf87
  v55 := Try.zeroValue87
  t66 := Try.underlying88
  a66 := Try.isAgg88
  z66 := Try.sizeOf88
  v66 := Try.zeroValue88
  t70 := Try.underlying92
  a70 := Try.isAgg92
  z70 := Try.sizeOf92
  v70 := Try.zeroValue92
  t76 := Try.underlying94
  a76 := Try.isAgg94
  z76 := Try.sizeOf94
  v76 := Try.zeroValue94
  t77 := Try.underlying54
  a77 := Try.isAgg54
  z77 := Try.sizeOf54
  v77 := Try.zeroValue54 }
end Go.Proofs.Ytoelnioifjeakaa
namespace Go.Proofs.Ytoelnioifjeakaa
set_option linter.unusedSimpArgs false
set_option linter.unusedVariables false
open Go.RowKit Go.Sort Go.Lib Go.Shelf

/-- A block whose place is small. -/
abbrev Bk := Fin 4096 × Nat
def bkOf (x : Nat × Nat) : Bk := (⟨x.1 % 4096, Nat.mod_lt _ (by decide)⟩, x.2)
def bkTo (x : Bk) : Nat × Nat := (x.1.val, x.2)
theorem bk_back {x : Nat × Nat} (h : x.1 < 4096) : bkTo (bkOf x) = x := by
  unfold bkTo bkOf; simp only [Nat.mod_eq_of_lt h]
def encB (x : Bk) : List Value := [.int .i64 (x.1.val : Int), .int .i64 (x.2 : Int)]
def cfB (x y : Bk) : Int := (x.1.val : Int) - (y.1.val : Int)

theorem ltB (x y : Bk) : ltOf cfB x y = decide (x.1.val < y.1.val) := by
  unfold ltOf cfB
  by_cases h : x.1.val < y.1.val
  · rw [decide_eq_true h, decide_eq_true (by omega)]
  · rw [decide_eq_false h, decide_eq_false (by omega)]
theorem swoB : SWO (ltOf cfB) where
  irrefl x := by rw [ltB]; simp
  trans x y z h1 h2 := by rw [ltB] at *; simp only [decide_eq_true_eq] at *; omega
  ntrans x y z h1 h2 := by rw [ltB] at *; simp only [decide_eq_false_iff_not] at *; omega

set_option maxHeartbeats 1000000 in
/-- The closure: by place. -/
theorem cmp_c (x y : Bk) (W : World) : Calls Try.prog 30 #[.agg #[.int .i64 (x.1.val : Int), .int .i64 (x.2 : Int)], .agg #[.int .i64 (y.1.val : Int), .int .i64 (y.2 : Int)]] W fun e w' => e = .returned (.int .i64 (cfB x y)) ∧ ∃ q os', w' = grow (W.drewN q) os' := by
  have Hc : Hid (cfB x y = (x.1.val : Int) - (y.1.val : Int)) := rfl
  have h1 := x.1.isLt
  have h2 := y.1.isLt
  generalize x.1.val = a at *
  generalize y.1.val = b at *
  generalize x.2 = c at *
  generalize y.2 = d at *
  rw [unhide Hc]
  go_enter Try.func30, Try.ntmps30
  go_wp2
  go_ret
  exact ⟨rfl, 0, _, by rw [alloc_eq_grow, alloc_eq_grow, grow_grow]; rfl⟩

theorem cmpB (blk off size : Nat) (w : World) : CmpLays Try.prog 30 #[] encB 2 cfB blk off size w := fun _ _ _ _ x y => cmp_c x y _

end Go.Proofs.Ytoelnioifjeakaa

/- slices.SortFunc at a row of blocks that the call owns. -/
namespace Go.Proofs.Ytoelnioifjeakaa
set_option linter.unusedSimpArgs false
set_option linter.unusedVariables false
open Go.RowKit Go.Sort Go.Lib Go.Shelf

theorem flat_cells (d : Array Bk) : (flatK encB 2 d).toList = cellsB (d.toList.map bkTo) := by
  apply List.ext_getElem?
  intro t
  by_cases ht : t < d.size * 2
  · have hs : t < (flatK encB 2 d).size := by simp [ht]
    have hk : t / 2 < d.size := by omega
    have h1 : (flatK encB 2 d).toList[t]? = some ((encB d[t / 2]!)[t % 2]!) := by
      rw [Array.getElem?_toList, Array.getElem?_eq_getElem hs, ← getElem!_pos _ t hs, get_flatK _ _ _ _ ht]
    have h2 : (d.toList.map bkTo)[t / 2]? = some (bkTo d[t / 2]!) := by
      rw [List.getElem?_map, Array.getElem?_toList, Array.getElem?_eq_getElem hk, getElem!_pos d (t / 2) hk]; rfl
    obtain ⟨c1, c2⟩ := cellsB_get _ _ _ h2
    rw [h1]
    by_cases hm : t % 2 = 0
    · rw [hm]
      rw [show t / 2 * 2 = t by omega] at c1
      rw [c1]; rfl
    · rw [show t % 2 = 1 by omega]
      rw [show t / 2 * 2 + 1 = t by omega] at c2
      rw [c2]; rfl
  · rw [List.getElem?_eq_none (by simp; omega), List.getElem?_eq_none (by rw [cellsB_len]; simp; omega)]

theorem heap_sortedB {w : World} {g n : Nat} {os : Array Obj} {cur : Array Value} {e : TypeId} {fr : Nat × Nat} (d : Array Bk) (hb : w.heap[g]? = some (.cells cur e fr)) :
    (sortWorldK encB 2 w g 0 n d os).heap[g]? = some (.cells (putCells id 0 (flatK encB 2 d) cur) e fr) := by
  have hg : g < w.heap.size := (Array.getElem?_eq_some_iff.1 hb).1
  unfold sortWorldK putRowK
  rw [heap_grow_old _ _ (by simpa using hg)]
  simp [putRow, mapBlock, Sort.ahead, Array.getElem?_modify, hb, onCells]
theorem grownBy_sortedB {w : World} {g n : Nat} {os : Array Obj} (d : Array Bk) : w.grownBy (sortWorldK encB 2 w g 0 n d os) (some g) := by
  unfold sortWorldK putRowK
  refine ⟨rfl, rfl, rfl, by simp, fun k hk hne => ?_⟩
  rw [heap_grow_old _ _ (by simpa using hk)]
  have : g ≠ k := fun e => hne (by rw [e])
  simp [putRow, mapBlock, Sort.ahead, Array.getElem?_modify, this]
theorem take_putCellsB (cur : Array Value) (F : Array Value) (h : F.size ≤ cur.size) : (putCells id 0 F cur).toList.take F.size = F.toList := by
  apply List.ext_getElem?
  intro j
  by_cases hj : j < F.size
  · rw [List.getElem?_take_of_lt hj, Array.getElem?_toList, Array.getElem?_toList]
    simp [putCells, hj, show j < cur.size by omega]
  · rw [List.getElem?_take_eq_none (by omega), List.getElem?_eq_none (by simp; omega)]

theorem holds_of_row {w : World} {base g cap : Nat} {l : List (Nat × Nat)} {cur : Array Value} {e : TypeId} (hb : w.heap[g]? = some (.cells cur e (0, 0))) (ht : cur.toList.take (l.length * 2) = cellsB l) (hl : ∀ x ∈ l, x.1 < 4096) : HoldsK encB 2 w g 0 (l.map bkOf).toArray := by
  have hfl : (flatK encB 2 (l.map bkOf).toArray).toList = cellsB l := by
    rw [flat_cells]
    congr 1
    simp only [List.map_map]
    conv => rhs; rw [← List.map_id l]
    exact List.map_congr_left fun x hx => bk_back (hl x hx)
  intro j hj
  have hj' : j < l.length * 2 := by simpa using hj
  refine ⟨?_, by simp [World.frozen?, hb]⟩
  have h1 : (cur.toList.take (l.length * 2))[j]? = (cellsB l)[j]? := by rw [ht]
  rw [List.getElem?_take_of_lt hj', ← hfl] at h1
  simp only [World.cell?, hb, Nat.zero_add]
  simp only [Option.isSome_none, Bool.false_eq_true, if_false]
  rw [← Array.getElem?_toList, h1, Array.getElem?_toList, Array.getElem?_eq_getElem hj, getElem!_pos _ j hj]
  rfl

/-- What the sort leaves. -/
def SrtRes (base g cap : Nat) (l : List (Nat × Nat)) (w W : World) : Prop :=
  ∃ l' : List (Nat × Nat), l'.Perm l ∧ l'.Pairwise (fun x y => x.1 ≤ y.1) ∧ W.ownsRow base 37 2 (.slice (some ⟨g, 0, none⟩) l'.length cap) l'.length (cellsB l') ∧ w.grownBy W (some g)

set_option maxHeartbeats 1000000 in
theorem sort_c (base g cap : Nat) (l : List (Nat × Nat)) (w : World) (hR : w.ownsRow base 37 2 (.slice (some ⟨g, 0, none⟩) l.length cap) l.length (cellsB l)) (hl : ∀ x ∈ l, x.1 < 4096) (hlen : l.length ≤ 1000000) :
    Calls Try.prog 29 #[.slice (some ⟨g, 0, none⟩) l.length cap, .func (.func 30) #[] #[]] w fun e w' => e = .returned (.tuple #[]) ∧ SrtRes base g cap l w w' := by
  rcases hR.2 with ⟨hv, _⟩ | ⟨g', cap', cur, hv, hb1, hb2, hc1, hc2, hc3, htk⟩
  · cases hv
  · injection hv with e1 e2 e3
    injection e1 with e1
    injection e1 with e1
    subst e1 e3
    have hH := holds_of_row (base := base) (cap := cap) hb2 htk hl
    have eg : ∀ args w, (callFunc 30 args).run Try.prog w = .ok (.enter 30 args) w := enters_of Try.func30 (by kernel_rfl) rfl
    have hcon := AnyQ.slices_SortFunc Try.sortB 2 Try.isAgg37 Try.sizeOf37 encB (fun _ => rfl) (fun x v hv => by simp [encB] at hv; rcases hv with rfl | rfl <;> rfl) cfB swoB 30 #[] g 0 cap (l.map bkOf).toArray w eg (cmpB g 0 _ w) hH (Array.getElem?_eq_some_iff.1 hb2).1 (by simp; omega)
    change Calls Try.prog 29 _ _ _ at hcon
    have es : (l.map bkOf).toArray.size = l.length := by simp
    rw [es] at hcon
    refine hcon.mono ?_
    rintro e w' ⟨rfl, d', n, os, hp, hs, rfl⟩
    refine ⟨rfl, d'.toList.map bkTo, ?_, ?_, ?_, grownBy_sortedB d'⟩
    · obtain ⟨h1, _, h3⟩ := hp
      have e1 : d'.extract 0 l.length = d' := by rw [← es, ← h1]; exact Array.extract_size
      have e2 : (l.map bkOf).toArray.extract 0 l.length = (l.map bkOf).toArray := by
        have : (l.map bkOf).toArray.extract 0 (l.map bkOf).toArray.size = (l.map bkOf).toArray := Array.extract_size
        rwa [es] at this
      rw [e1, e2] at h3
      have h4 := h3.map bkTo
      have e3 : (l.map bkOf).toArray.toList.map bkTo = l := by
        simp only [List.map_map]
        conv => rhs; rw [← List.map_id l]
        exact List.map_congr_left fun x hx => bk_back (hl x hx)
      rwa [e3] at h4
    · have hsz : d'.size = l.length := by rw [hp.1, es]
      rw [List.pairwise_iff_getElem]
      intro i j hi hj hij
      simp only [List.length_map, Array.length_toList] at hi hj
      have := hs i j (Nat.zero_le _) hij (by omega)
      rw [ltB, decide_eq_false_iff_not, getElem!_pos d' i hi, getElem!_pos d' j hj] at this
      simp only [List.getElem_map, Array.getElem_toList, bkTo]
      omega
    · have hsz : d'.size = l.length := by rw [hp.1, es]
      have hl' : (d'.toList.map bkTo).length = l.length := by simp [hsz]
      rw [hl']
      refine ⟨by rw [cellsB_len, hl'], .inr ⟨g, cap, _, rfl, hb1, heap_sortedB d' hb2, hc1, hc2, by simp [putCells, hc3], ?_⟩⟩
      have hfs : (flatK encB 2 d').size = l.length * 2 := by simp [hsz]
      rw [← hfs, take_putCellsB cur _ (by rw [hfs, hc3]; omega), flat_cells]

theorem sort_none_c (p : Option Addr) (cap : Nat) (w : World) : Calls Try.prog 29 #[.slice p 0 cap, .func (.func 30) #[] #[]] w fun e w' => e = .returned (.tuple #[]) ∧ w' = w := by
  have hcon := AnyF.slices_SortFunc_none (P := Try.prog) (ρ := Try.sortB_ren) { Try.sortB with } p cap (.func (.func 30) #[] #[]) w
  change Calls Try.prog 29 _ _ _ at hcon
  exact hcon

end Go.Proofs.Ytoelnioifjeakaa

/- Walks: pieces. -/
namespace Go.Proofs.Ytoelnioifjeakaa
set_option linter.unusedSimpArgs false
set_option linter.unusedVariables false
open Go.RowKit

/-- The pieces of the levels below k; and those of level k that have come. -/
def PcO (fr : Nat → Nat → Bool) (k : Nat) (l : List (Nat × Nat)) : Prop := l.Nodup ∧ ∀ x, x ∈ l ↔ ∃ i, i < k ∧ x.2 = 2 ^ i ∧ fr i x.1 = true
structure PcI (fr : Nat → Nat → Bool) (k : Nat) (left : Lit → Bool) (l : List (Nat × Nat)) : Prop where
  nd : l.Nodup
  mem : ∀ x, x ∈ l ↔ (∃ i, i < k ∧ x.2 = 2 ^ i ∧ fr i x.1 = true) ∨ (x.2 = 2 ^ k ∧ fr k x.1 = true ∧ left (.int .i64 (x.1 : Int)) = false)
  lf : ∀ x : Int, left (.int .i64 x) = true → 0 ≤ x ∧ fr k x.toNat = true

theorem PcO.inner {fr : Nat → Nat → Bool} {k : Nat} {l : List (Nat × Nat)} {M : DataW Unit} {s : Nat} (h : PcO fr k l) (hT : TkD M (frT (fr k) s)) : PcI fr k (Maps.has M) l := by
  refine ⟨h.1, fun x => ?_, fun x hx => (tkD_has hT x).1 hx⟩
  rw [h.2 x]
  constructor
  · exact .inl
  · rintro (h1 | ⟨_, h2, h3⟩)
    · exact h1
    · rw [(tkD_has hT x.1).2 ⟨by omega, by simpa using h2⟩] at h3; cases h3
theorem PcI.step {fr : Nat → Nat → Bool} {k : Nat} {left : Lit → Bool} {l : List (Nat × Nat)} {X : Nat} (h : PcI fr k left l) (hl : left (.int .i64 (X : Int)) = true) : PcI fr k (fun z => left z && !z.sameKey (.int .i64 (X : Int))) (l ++ [(X, 2 ^ k)]) := by
  obtain ⟨_, hX⟩ := h.lf X hl
  rw [Int.toNat_natCast] at hX
  have hn : (X, 2 ^ k) ∉ l := by
    rw [h.mem]
    rintro (⟨i, hi, e, _⟩ | ⟨_, _, e⟩)
    · have := two_inj e; omega
    · simp only at e; rw [hl] at e; cases e
  refine ⟨?_, fun x => ?_, fun x hx => h.lf x ((strike_int left X x).1 hx).1⟩
  · rw [List.nodup_append]
    refine ⟨h.nd, by simp, fun a ha b hb => ?_⟩
    simp at hb; subst hb
    rintro rfl; exact hn ha
  · rw [List.mem_append, h.mem x, List.mem_singleton]
    have hst := strike_int left X (x.1 : Int)
    constructor
    · rintro ((h1 | ⟨h1, h2, h3⟩) | rfl)
      · exact .inl h1
      · refine .inr ⟨h1, h2, ?_⟩
        simp only [h3, Bool.false_and]
      · refine .inr ⟨rfl, hX, ?_⟩
        cases hc : (left (.int .i64 (X : Int)) && !(Lit.int .i64 (X : Int)).sameKey (.int .i64 (X : Int))) with
        | false => rfl
        | true => exact absurd rfl (hst.1 hc).2
    · rintro (h1 | ⟨h1, h2, h3⟩)
      · exact .inl (.inl h1)
      · by_cases e : x.1 = X
        · exact .inr (Prod.ext e h1)
        · refine .inl (.inr ⟨h1, h2, ?_⟩)
          cases hc : left (.int .i64 (x.1 : Int)) with
          | false => rfl
          | true =>
            have := hst.2 ⟨hc, by omega⟩
            rw [this] at h3; cases h3
theorem PcI.done {fr : Nat → Nat → Bool} {k : Nat} {left : Lit → Bool} {l : List (Nat × Nat)} (h : PcI fr k left l) (hl : ∀ kl, left kl = false) : PcO fr (k + 1) l := by
  refine ⟨h.nd, fun x => ?_⟩
  rw [h.mem]
  constructor
  · rintro (⟨i, h1, h2⟩ | ⟨h1, h2, _⟩)
    · exact ⟨i, by omega, h2⟩
    · exact ⟨k, by omega, h1, h2⟩
  · rintro ⟨i, h1, h2, h3⟩
    by_cases e : i = k
    · subst e; exact .inr ⟨h2, h3, hl _⟩
    · exact .inl ⟨i, by omega, h2, h3⟩

/-- Sorted, they are the free pieces by place. -/
theorem pcO_sorted {T : Nat → Bool} {L : Nat} {fr : Nat → Nat → Bool} {l l' : List (Nat × Nat)} (hF : FrOk T L fr) (hL : L ≤ 7) (h : PcO fr 8 l) (hp : l'.Perm l) (hs : l'.Pairwise (fun x y => x.1 ≤ y.1)) : l' = pcs T L 0 := by
  have hm : ∀ x, x ∈ l ↔ x ∈ pcs T L 0 := fun x => by
    rw [h.2 x]
    constructor
    · rintro ⟨i, _, h1, h2⟩
      have := (hF i x.1).1 h2
      rwa [← h1] at this
    · intro hx
      obtain ⟨i, p, h1, h2, hM⟩ := (mem_iff T L x.1 x.2).1 hx
      exact ⟨i, by have := hM.1; omega, h2, (hF i x.1).2 (by rw [← h2]; exact hx)⟩
  have hr := pcs_rise T L
  have hnd : l'.Nodup := hp.nodup_iff.2 h.1
  have hm' : ∀ x, x ∈ l' ↔ x ∈ pcs T L 0 := fun x => hp.mem_iff.trans (hm x)
  have hinj : ∀ x ∈ pcs T L 0, ∀ y ∈ pcs T L 0, x.1 = y.1 → x = y := by
    intro x hx y hy e
    obtain ⟨i, hi⟩ := List.getElem?_of_mem hx
    obtain ⟨j, hj⟩ := List.getElem?_of_mem hy
    obtain ⟨hi', hi2⟩ := List.getElem?_eq_some_iff.1 hi
    obtain ⟨hj', hj2⟩ := List.getElem?_eq_some_iff.1 hj
    rcases Nat.lt_trichotomy i j with h1 | h1 | h1
    · have := List.pairwise_iff_getElem.1 hr i j hi' hj' h1; rw [hi2, hj2] at this; omega
    · subst h1; rw [← hi2, ← hj2]
    · have := List.pairwise_iff_getElem.1 hr j i hj' hi' h1; rw [hi2, hj2] at this; omega
  refine sorted_uniq ?_ hr hm'
  rw [List.pairwise_iff_getElem] at hs ⊢
  intro i j hi hj hij
  have h1 := hs i j hi hj hij
  refine Nat.lt_of_le_of_ne h1 fun e => ?_
  have := hinj _ ((hm' _).1 (List.getElem_mem hi)) _ ((hm' _).1 (List.getElem_mem hj)) e
  exact absurd this (List.pairwise_iff_getElem.1 hnd i j hi hj hij)

/-- A row lies apart from what is none. -/
theorem row_ne_obj {W : World} {base : Nat} {e : TypeId} {size : Nat} {v : Value} {n : Nat} {xs : List Value} {k : Nat} {o : Obj} (h : W.ownsRow base e size v n xs) (hb : W.heap[k]? = some o) (ho : ∀ cs t z, o ≠ .cells cs t z) : some k ≠ v.ownBlock := by
  rcases h.2 with ⟨rfl, _⟩ | ⟨g, cap, cur, rfl, _, hg, _⟩
  · simp [Value.ownBlock]
  · intro e'
    obtain rfl : k = g := by simpa [Value.ownBlock] using e'
    rw [hg] at hb
    injection hb with hb
    exact ho _ _ _ hb.symm
theorem ranges_row {W W' : World} {b r n : Nat} {D : DataW Unit} {left : Lit → Bool} {cnt base : Nat} {e : TypeId} {size : Nat} {v : Value} {m : Nat} {xs : List Value} (h : W.ranges Try.prog 3 (plainElem Try.prog 3) b r n D left cnt) (hr : W.ownsRow base e size v m xs) (hg : W.grownBy W' v.ownBlock) : W'.ranges Try.prog 3 (plainElem Try.prog 3) b r n D left cnt := by
  have h0 := h
  obtain ⟨es, clock, since, seen, c0, hb, _, _, _, hr', _⟩ := h0
  exact h.kept hg (row_ne_obj hr hb (fun _ _ _ e => by cases e)) (row_ne_obj hr hr' (fun _ _ _ e => by cases e))

theorem below_row {N : Nat} {w W W' : World} {e : TypeId} {size : Nat} {v : Value} {m : Nat} {xs : List Value} (h : Below N w W) (hN : N ≤ w.heap.size) (hr : W.ownsRow w.heap.size e size v m xs) (hg : W.grownBy W' v.ownBlock) : Below N w W' :=
  h.grown hg (by have := h.size; omega) (fun k e => by have := (hr.lt k e).1; omega)

set_option maxRecDepth 100000 in
set_option maxHeartbeats 8000000 in
theorem pieces_c (N sb L n : Nat) (s : St) (w : World) (hS : SpS w N sb L s n) (hL : L ≤ 7) (hn : n ≤ 10000) :
    Calls Try.prog 19 #[.pointer (some ⟨sb, 0, none⟩)] w fun e w' => ∃ v, e = .returned v ∧ w'.ownsRow w.heap.size 37 2 v (s.bl L).length (cellsB (s.bl L)) ∧ Below w.heap.size w w' := by
  obtain ⟨fr, hFr, fb, mb, Ms, M, hP, hF, hT⟩ := hS
  have q1 : w.cell? ⟨sb, 1, none⟩ = some (.map (some (fb 0))) := hP.cf (k := 0) (by omega)
  have q2 : w.cell? ⟨sb, 2, none⟩ = some (.map (some (fb 1))) := hP.cf (k := 1) (by omega)
  have q3 : w.cell? ⟨sb, 3, none⟩ = some (.map (some (fb 2))) := hP.cf (k := 2) (by omega)
  have q4 : w.cell? ⟨sb, 4, none⟩ = some (.map (some (fb 3))) := hP.cf (k := 3) (by omega)
  have q5 : w.cell? ⟨sb, 5, none⟩ = some (.map (some (fb 4))) := hP.cf (k := 4) (by omega)
  have q6 : w.cell? ⟨sb, 6, none⟩ = some (.map (some (fb 5))) := hP.cf (k := 5) (by omega)
  have q7 : w.cell? ⟨sb, 7, none⟩ = some (.map (some (fb 6))) := hP.cf (k := 6) (by omega)
  have q8 : w.cell? ⟨sb, 8, none⟩ = some (.map (some (fb 7))) := hP.cf (k := 7) (by omega)
  obtain ⟨i37, hi37, hx0, hx1, hx2⟩ := info_parts Try.info37
  have hlt := hP.lt
  have HP := hide hP
  have HF := hide hF
  have HFr := hide hFr
  clear hP hF hT hFr
  go_enter Try.func19, Try.ntmps19
  go_wp2
  clear q1 q2 q3 q4 q5 q6 q7 q8
  go_loopw [2, 11] (fun v i wr => ∃ (k : Nat) (acc : List (Nat × Nat)), k ≤ 8 ∧ i = .int .i64 k ∧ acc.length ≤ k * 10000 ∧ Hid (PcO fr k acc) ∧ Hid (wr.ownsRow w.heap.size 37 2 v acc.length (cellsB acc)) ∧ Hid (Below w.heap.size w wr)) (fun _ i _ => 8 - (intOf i).toNat)
  case atStart => exact ⟨0, [], by omega, rfl, by simp, ⟨.nil, fun x => ⟨fun h => (by cases h), fun ⟨i, hi, _⟩ => absurd hi (by omega)⟩⟩, ⟨rfl, .inl ⟨rfl, rfl⟩⟩, Below.refl _ _⟩
  case round =>
    obtain ⟨k, acc, hk, rfl, hacc, HO, HR, Hb⟩ := hrel
    obtain ⟨a, cap, hv⟩ := ownsRow_slice (unhide HR)
    subst hv
    by_cases hk8 : k < 8
    · have hix := index61 fb k hk8
      have hkI : (k : Int) < 8 := by omega
      have hmp := ((unhide HP).below (unhide Hb)).fm k hk8
      have hms := hmp.size_le
      have HTk := hide (unhide HF k hk8)
      obtain ⟨WR, hWR⟩ : ∃ WR, WR = wr := ⟨wr, rfl⟩
      subst hWR
      go_wp2_with (first
        | (at_range; refine wpList_range_own _ rfl _ 60 rfl 3 3 (Maps.int_keyed Try.underlying3) Try.underlying60 _ (fb k) n _ rfl hmp ?_; intro w0 hrg0 hg0 hs0)
        | go_in)
      go_frame
      have Hrg0 := hide hrg0
      have Hb0 := hide ((unhide Hb).grown hg0 (unhide Hb).size (fun j hj => by cases hj))
      have HR0 := hide ((unhide HR).kept hg0 (by cases hv : (Value.slice a acc.length cap).ownBlock <;> simp))
      have HI0 := hide ((unhide HO).inner (unhide HTk))
      have hsz0 := (unhide Hb).size
      clear hrg0 hg0 hs0 hmp
      go_loopw [2] (fun v wr => ∃ (left : Lit → Bool) (cnt : Nat) (acc : List (Nat × Nat)), acc.length + cnt ≤ (k + 1) * 10000 ∧ Hid (PcI fr k left acc) ∧ Hid (wr.ownsRow w.heap.size 37 2 v acc.length (cellsB acc)) ∧ Hid (wr.ranges Try.prog 3 (plainElem Try.prog 3) (fb k) WR.heap.size n (Ms k) left cnt) ∧ Hid (Below w.heap.size w wr)) (fun _ wr => wr.rangeLeft (fb k) WR.heap.size)
      case atStart => exact ⟨_, _, acc, by omega, HI0, HR0, Hrg0, Hb0⟩
      case round =>
        clear Hrg0 Hb0 HR0 HI0 HO HR Hb hacc
        obtain ⟨left, cnt, acc', hcnt, HI, HR, Hrg, Hb⟩ := hrel
        obtain ⟨a', cap', hv⟩ := ownsRow_slice (unhide HR)
        subst hv
        go_wp2_with (first
          | (at_next; refine wpList_next_ranges_ii _ rfl _ rfl 3 3 .i64 .i64 (Maps.int_keyed Try.underlying3) Try.underlying3 Try.underlying3 (fb k) WR.heap.size n _ _ _ rfl (unhide Hrg) ?_ ?_)
          | go_in)
        · intro _ hl0
          have Hd := hide ((unhide HI).done hl0)
          clear hl0
          go_wp2
          go_roundw
          case rel => exact ⟨k + 1, acc', by omega, by go_num, by omega, Hd, HR, Hb⟩
          case measure => simp [intOf]; omega
        · intro x c w1 cnt1 hwx hwc hlx hat hrg1 hlt1 hg1 hs1 hen
          obtain ⟨hx0', hxF⟩ := (unhide HI).lf x hlx
          obtain ⟨X, rfl⟩ : ∃ X : Nat, x = (X : Int) := ⟨x.toNat, by omega⟩
          have hc : c = ((p2 k : Nat) : Int) := by
            have h1 := ((unhide HTk) (X : Int)).2 (2 ^ k) (by unfold frT; rw [if_pos ⟨hx0', hxF⟩])
            have h2 := h1.symm.trans (hat _)
            injection h2 with h2
            injection h2 with _ h2
            exact h2.symm
          subst hc
          have HI1 := hide ((unhide HI).step hlx)
          have hrr := unhide Hrg
          have hR1 := (unhide HR).kept hg1 (.inr (by
            obtain ⟨es, clock, since, seen, c0, hb, _, _, _, hr', _⟩ := hrr
            exact fun e => row_ne_obj (unhide HR) hr' (fun _ _ _ e => by cases e) e.symm))
          have Hb1 := hide ((unhide Hb).grown hg1 (unhide Hb).size (fun j hj => by cases hj; exact hsz0))
          have Hm := hide (show w1.rangeLeft (fb k) WR.heap.size < wr.rangeLeft (fb k) WR.heap.size by rw [hrg1.left_eq, (unhide Hrg).left_eq]; exact hlt1)
          have Hrg1 := hide hrg1
          have hszw := (unhide Hb1).size
          clear hwx hwc hat hrg1 hg1 hs1 hlx hxF hx0' hrr
          go_wp2_with (first
            | (at_builtin; refine wpList_append_own_at _ rfl _ _ 25 rfl w.heap.size 37 i37 _ 2 16 Try.underlying25 hi37 hx0 hx1 hx2 rfl (by decide) _ _ _ rfl (hR1.alloc _) ⟨w1.heap.size, 0, none⟩ 1 1 [.int .i64 (X : Int), .int .i64 ((p2 k : Nat) : Int)] rfl rfl (cell_two_at _ _ _ _ _ rfl) (by simp [Value.oneCell']) (by simp only [maxLen]; omega) (by omega) (by simp; omega) ?_; intro v7 w7 hrow7 hg7 _ hat7; go_frame)
            | go_in)
          have hrg7 := ranges_row ((unhide Hrg1).alloc _) (hR1.alloc (.cells #[.int .i64 (X : Int), .int .i64 ((p2 k : Nat) : Int)] 37)) hg7
          go_roundw
          case rel =>
            refine ⟨_, cnt1, acc' ++ [(X, p2 k)], by simp only [List.length_append, List.length_singleton]; omega, HI1, ?_, hrg7, below_row ((unhide Hb1).alloc hszw _) (Nat.le_refl _) (hR1.alloc _) hg7⟩
            show World.ownsRow _ _ _ _ _ _ _
            rw [List.length_append, cellsB_snoc]
            exact hrow7
          case measure =>
            have := unhide Hm
            rw [(unhide Hrg1).left_eq] at this
            rw [hrg7.left_eq]
            exact this
    · obtain rfl : k = 8 := by omega
      have Hfin : Hid (∀ l', l'.Perm acc → l'.Pairwise (fun x y => x.1 ≤ y.1) → l' = s.bl L) := fun l' h1 h2 => pcO_sorted (unhide HFr) hL (unhide HO) h1 h2
      have hsmall : ∀ x ∈ acc, x.1 < 4096 := by
        intro x hx
        obtain ⟨i, _, _, h1⟩ := ((unhide HO).2 x).1 hx
        have h2 := (unhide HFr).lt h1
        have h3 := two_pos i
        have h4 : 2 ^ L ≤ 256 := p2_le (k := L) (by omega)
        omega
      by_cases h0 : acc.length = 0
      · have hnil : acc = [] := List.eq_nil_of_length_eq_zero h0
        have hc := sort_none_c a cap
        rw [h0] at *
        have he := unhide Hfin [] (by rw [hnil]) .nil
        have HR2 := unhide HR
        rw [hnil] at HR2
        clear hsmall
        go_wp2_with (go_at_call 29; go_must (refine (hc _).mono ?_); go_must (rintro e w' ⟨he, hw⟩; subst he; have hw := hw.symm; subst hw))
        go_ret
        refine ⟨.slice a 0 cap, rfl, ?_, unhide Hb⟩
        rw [← he]
        exact HR2
      · obtain ⟨g, cap2, hv⟩ : ∃ g cap2, Value.slice a acc.length cap = .slice (some ⟨g, 0, none⟩) acc.length cap2 := by
          rcases (unhide HR).2 with ⟨hv, hz⟩ | ⟨g, cap2, cur, hv, _⟩
          · exact absurd hz h0
          · exact ⟨g, cap2, hv⟩
        injection hv with hv1 _ hv2
        subst hv1 hv2
        have Hc := hide (sort_c w.heap.size g cap acc wr (unhide HR) hsmall (by omega))
        clear hsmall
        go_wp2_with (go_at_call 29; go_must (refine (unhide Hc).mono ?_); go_must (rintro e w7 ⟨he, h7⟩; subst he))
        go_ret
        obtain ⟨l', p1, p2', p3, p4⟩ := h7
        have he := unhide Hfin l' p1 p2'
        have hlen := p1.length_eq
        refine ⟨.slice (some ⟨g, 0, none⟩) acc.length cap, rfl, ?_, (unhide Hb).grown p4 (unhide Hb).size (fun j e => by injection e with e; have := ((unhide HR).lt g rfl).1; omega)⟩
        rw [← he]
        rw [hlen] at p3 ⊢
        exact p3

end Go.Proofs.Ytoelnioifjeakaa

/- Walks: Play, where nothing is wrong. -/
namespace Go.Proofs.Ytoelnioifjeakaa
set_option linter.unusedSimpArgs false
set_option linter.unusedVariables false
open Go.RowKit

/-- All asks are numbers of 64 bits. -/
def I64s (sc : List (Int × Int)) : Prop := ∀ x ∈ sc, (-9223372036854775808 ≤ x.1 ∧ x.1 ≤ 9223372036854775807) ∧ (-9223372036854775808 ≤ x.2 ∧ x.2 ≤ 9223372036854775807)

theorem blks_of_row {w : World} {base : Nat} {v : Value} {l : List (Nat × Nat)} (h : w.ownsRow base 37 2 v l.length (cellsB l)) (hs : l.length ≤ 9223372036854775807) : ∃ a cap, v = .slice a l.length cap ∧ Blks w.heap.size w a l := by
  rcases h.2 with ⟨rfl, h0⟩ | ⟨g, cap, cur, rfl, _⟩
  · obtain rfl : l = [] := List.eq_nil_of_length_eq_zero h0
    exact ⟨none, 0, rfl, blks_nil _ _ _⟩
  · exact ⟨_, cap, rfl, blks_of_owns h hs⟩

/-- A row of another type, behind a store in a box of what was told. -/
theorem row_set {W : World} {base : Nat} {e : TypeId} {size : Nat} {v : Value} {n : Nat} {xs : List Value} {tb : Nat} (h : W.ownsRow base e size v n xs) (hb : ∃ cs, W.heap[tb]? = some (.cells cs 27)) (he : e ≠ 27) (j : Nat) (u : Value) : (W.setCell ⟨tb, j, none⟩ u).ownsRow base e size v n xs := by
  obtain ⟨cs, hb⟩ := hb
  exact h.kept (grown_set W tb j u) (.inr (row_ne h hb he))
theorem ty_set {W : World} {tb rb : Nat} (h : ∃ cs, W.heap[rb]? = some (.cells cs 27)) (j : Nat) (u : Value) : ∃ cs, (W.setCell ⟨tb, j, none⟩ u).heap[rb]? = some (.cells cs 27) := by
  obtain ⟨cs, h⟩ := h
  by_cases e : rb = tb
  · subst e
    exact ⟨_, heap_setCell_same W rb j cs 27 u h⟩
  · exact ⟨cs, by rw [Below.heap_setCell _ _ _ _ e]; exact h⟩
theorem row_end {W : World} {base : Nat} {e : TypeId} {size : Nat} {v : Value} {n : Nat} {xs : List Value} {tb rb : Nat} (h : W.ownsRow base e size v n xs) (h1 : ∃ cs, W.heap[tb]? = some (.cells cs 27)) (h2 : ∃ cs, W.heap[rb]? = some (.cells cs 27)) (he : e ≠ 27) (u0 u1 u2 u3 : Value) :
    ((((W.setCell ⟨tb, 2, none⟩ u0).setCell ⟨rb, 0, none⟩ u1).setCell ⟨rb, 1, none⟩ u2).setCell ⟨rb, 2, none⟩ u3).ownsRow base e size v n xs :=
  row_set (row_set (row_set (row_set h h1 he 2 u0) (ty_set h2 2 u0) he 0 u1) (ty_set (ty_set h2 2 u0) 0 u1) he 1 u2) (ty_set (ty_set (ty_set h2 2 u0) 0 u1) 1 u2) he 2 u3

/-- What holds behind k asks. -/
structure PI (w0 wr : World) (N sb tb L : Nat) (sc : List (Int × Int)) (k : Nat) : Prop where
  sp : SpS wr N sb L (stK L sc k) (1 + k * 9)
  told : ∃ vc va, Told wr N tb vc va (codesL L sc k) (atsL L sc k)
  bel : Below N w0 wr

theorem PI.size {w0 wr : World} {N sb tb L : Nat} {sc : List (Int × Int)} {k : Nat} (h : PI w0 wr N sb tb L sc k) : N ≤ wr.heap.size := h.sp.le

set_option maxRecDepth 100000 in
set_option maxHeartbeats 4000000 in
theorem play_good (L : Nat) (a : Option Addr) (c : Nat) (sc : List (Int × Int)) (B : Nat) (w : World) (hL : L ≤ 7) (hn : sc.length ≤ 100) (hA : Asks B w a sc) (hB : B ≤ w.heap.size) (hI : I64s sc) :
    Calls Try.prog 8 #[.int .i64 (L : Nat), .slice a sc.length c] w fun e w' => PlRes (L : Nat) sc w.heap.size e w' ∧ Below w.heap.size w w' := by
  obtain ⟨i28, hi28, hx0, hx1, hx2⟩ := info_parts Try.info28
  obtain ⟨i3, hi3, hy0, hy1, hy2⟩ := info_parts Try.info3
  obtain ⟨W1, hW1⟩ : ∃ W1, W1 = w.alloc (.cells #[.slice none 0 0, .slice none 0 0, .slice none 0 0] 27) := ⟨_, rfl⟩
  have hs1 : W1.heap.size = w.heap.size + 1 := by rw [hW1]; simp
  have hb1 : Below w.heap.size w W1 := by rw [hW1]; exact (Below.refl _ _).alloc (Nat.le_refl _) _
  have hr1 : W1.heap[w.heap.size]? = some (.cells #[.slice none 0 0, .slice none 0 0, .slice none 0 0] 27) := by rw [hW1]; exact heap_alloc_new _ _
  have Hn := hide (newSpace_c L (w.alloc (.cells #[.slice none 0 0, .slice none 0 0, .slice none 0 0] 27)) hL)
  rw [← hW1, hs1] at Hn
  have HW1 := hide hW1
  have d0 : decide ((L : Int) < 0) = false := decide_eq_false (by omega)
  have d1 : decide (7 < (L : Int)) = false := decide_eq_false (by omega)
  have d1' : decide (7 < L) = false := decide_eq_false (by omega)
  have d2 : decide (100 < sc.length) = false := decide_eq_false (by omega)
  have HE : Hid (playE (L : Nat) sc.length = 0) := by
    show _ = _
    unfold playE
    rw [if_neg (by omega), if_neg (by omega)]
  have Hr1 := hide hr1
  have Hs1 := hide hs1
  clear hW1 hr1 hs1
  go_enter Try.func8, Try.ntmps8
  go_wp2_with (first
    | (go_at_call 17; go_must (rw [← unhide HW1]; refine (unhide Hn).mono ?_); go_must (rintro e w6 ⟨he, hS6, hb6⟩; subst he)))
  have Hsz6 := hide hb6.size
  have hwN : w.heap.size + 1 ≤ w6.heap.size := by have := hb6.size; have := unhide Hs1; omega
  have hbw6 : Below w.heap.size w w6 := hb1.trans (hb6.mono (by omega))
  have Hr6 : Hid (w6.heap[w.heap.size]? = some (.cells #[.slice none 0 0, .slice none 0 0, .slice none 0 0] 27)) := (hb6.block _ (by omega)).trans (unhide Hr1)
  have hPI : PI w6 (w6.alloc (.cells #[.slice none 0 0, .slice none 0 0, .slice none 0 0] 27)) (w.heap.size + 1) (w.heap.size + 1 + 1) w6.heap.size L sc 0 := by
    have hb : Below w6.heap.size w6 (w6.alloc (.cells #[.slice none 0 0, .slice none 0 0, .slice none 0 0] 27)) := (Below.refl _ _).alloc (Nat.le_refl _) _
    exact ⟨hS6.below hb, ⟨_, _, heap_alloc_new _ _, World.ownsRow_nil _ _ _ _, World.ownsRow_nil _ _ _ _, hwN⟩, hb.mono hwN⟩
  have HPI := hide hPI
  clear hPI hS6 hb6 Hr1 Hs1 HW1 Hn hb1 Hsz6
  generalize hsbe : w.heap.size + 1 + 1 = sb at *
  clear hsbe
  go_loopw [29] (fun i wr => ∃ k : Nat, k ≤ sc.length ∧ i = .int .i64 k ∧ Hid (PI w6 wr (w.heap.size + 1) sb w6.heap.size L sc k)) (fun i _ => sc.length - (intOf i).toNat)
  case atStart => exact ⟨0, Nat.zero_le _, rfl, HPI⟩
  case round =>
    obtain ⟨k, hk, rfl, HI⟩ := hrel
    by_cases hlt : k < sc.length
    · obtain ⟨q, m, hx⟩ : ∃ q m, sc[k]? = some (q, m) := ⟨sc[k].1, sc[k].2, List.getElem?_eq_getElem hlt⟩
      have hi := hI _ (List.mem_of_getElem? hx)
      simp only at hi
      have hgx : sc.getD k (0, 0) = (q, m) := by simp [List.getD_eq_getElem?_getD, hx]
      have hO := ok_stK L sc k
      have hbw : Below w.heap.size w wr := hbw6.trans ((unhide HI).bel.mono (by omega))
      have hNr := (unhide HI).size
      obtain ⟨b, off, rfl, hbB, y0, y1⟩ := (hA.below (hbw.mono hB)).at hx
      have hbr : b < wr.heap.size := by omega
      have hkI : (k : Int) < (sc.length : Int) := by omega
      obtain ⟨W3, hW3⟩ : ∃ W3, wr.alloc (.cells #[.int .i64 q, .int .i64 m] 39) = W3 := ⟨_, rfl⟩
      have hb3 : Below wr.heap.size wr W3 := by rw [← hW3]; exact (Below.refl _ _).alloc (Nat.le_refl _) _
      have Hc := hide (answer_c q m (w.heap.size + 1) sb L (1 + k * 9) (stK L sc k) W3 ((unhide HI).sp.below hb3) hO hL (by omega) hi.2.1 hi.2.2)
      have Hst : Hid ((stepS L (stK L sc k) (q, m)).2.2 = stK L sc (k + 1) ∧ (stepS L (stK L sc k) (q, m)).1 = codeK L sc k ∧ (stepS L (stK L sc k) (q, m)).2.1 = atK L sc k) := by
        rw [← hgx]; exact ⟨rfl, rfl, rfl⟩
      rw [(unhide Hst).1, (unhide Hst).2.1, (unhide Hst).2.2] at Hc
      have HCs := hide (codesL_succ L sc k)
      have HAs := hide (atsL_succ L sc k)
      have HCl := hide (codesL_len L sc k)
      have HAl := hide (atsL_len L sc k)
      obtain ⟨vc, va, hT⟩ := (unhide HI).told
      have HT3 := hide (hT.below hb3)
      have hm1 : wr.heap.size < W3.heap.size := by rw [← hW3]; simp
      have g0 : W3.cell? ⟨wr.heap.size, 0, none⟩ = some (.int .i64 q) := by rw [← hW3]; simp [go_sem]
      have g1 : W3.cell? ⟨wr.heap.size, 1, none⟩ = some (.int .i64 m) := by rw [← hW3]; simp [go_sem]
      clear hT hx hgx hO Hst
      generalize codeK L sc k = ck at *
      generalize atK L sc k = ak at *
      go_wp2_with fail
      refine (unhide Hc).mono ?_
      rintro e w5 ⟨rfl, hsp5, hb5, hk5⟩
      have hT5 := (unhide HT3).keepM hk5
      obtain ⟨ac, cc, hvc⟩ := ownsRow_slice hT5.rc
      obtain ⟨aa, ca, hva⟩ := ownsRow_slice hT5.ra
      rw [unhide HCl] at hvc
      rw [unhide HAl] at hva
      subst hvc hva
      have t0 := hT5.c0
      have tf0 := hT5.fr 0
      have tlt := hT5.lt
      have hN5 := hsp5.le
      have hrc := hT5.rc
      rw [unhide HCl] at hrc
      have HT5 := hide hT5
      have HS5 := hide hsp5
      have Hb5 := hide ((unhide HI).bel.trans ((hb3.mono hNr).trans hb5))
      clear hT5 hsp5 Hc hW3 g0 g1 hb5 hk5 hm1
      go_wp2_with (first
        | (at_builtin; refine wpList_append_own_at _ rfl _ _ 23 rfl (w.heap.size + 1) 28 i28 _ 1 8 Try.underlying23 hi28 hx0 hx1 hx2 rfl (by decide) _ _ _ rfl (hrc.alloc _) ⟨w5.heap.size, 0, none⟩ 1 1 [.int .i64 ck] rfl rfl (cell_one_at _ _ _ _ rfl) (by simp [Value.oneCell']) (by simp only [maxLen]; omega) (by omega) (by simp; omega) ?_; go_must (intro v7 w7 hrow7 hg7 _ hat7; obtain ⟨g7, c7, hv7⟩ := ownsRow_succ hrow7; subst hv7; have hb55 : Below w5.heap.size w5 (w5.alloc (.cells #[.int .i64 ck] 28)) := (Below.refl _ _).alloc (Nat.le_refl _) _; obtain ⟨hbx7, hT7, hS7⟩ := ((unhide HT5).below hb55).pushC (x := ck) ((unhide HS5).below hb55) (by rw [unhide HCl]; exact hrow7) hg7; have hq0 := cell27_0 hbx7; have hq2 := cell27_1 hbx7; have hqf := frozen_of_row w7 _ 0 _ 27 hbx7; have hq1 : w6.heap.size < w7.heap.size := (Array.getElem?_eq_some_iff.1 hbx7).1; have hra := hT7.ra; rw [unhide HAl] at hra; have Hrc5 := hide hrc; have Hg7 := hide hg7; have hs7 := hg7.size; have Hbx7 := hide hbx7; have HT7 := hide hT7; have HS7 := hide hS7; clear hT7 hS7 hrow7 hg7 hbx7 hrc hat7))
        | (at_builtin; refine wpList_append_own_at _ rfl _ _ 24 rfl (w.heap.size + 1) 3 i3 _ 1 8 Try.underlying24 hi3 hy0 hy1 hy2 rfl (by decide) _ _ _ rfl (hra.alloc _) ⟨w7.heap.size, 0, none⟩ 1 1 [.int .i64 (ak : Nat)] rfl rfl (cell_one_at _ _ _ _ (by simp [World.setCell])) (by simp [Value.oneCell']) (by simp only [maxLen]; omega) (by omega) (by simp [World.setCell] at hs7 ⊢; omega) ?_; go_must (intro v9 w9 hrow9 hg9 _ hat9; obtain ⟨g9, c9, hv9⟩ := ownsRow_succ hrow9; subst hv9; have hb88 := (Below.refl (w7.setCell ⟨w6.heap.size, 0, none⟩ (.slice (some ⟨g7, 0, none⟩) (k + 1) c7)).heap.size (w7.setCell ⟨w6.heap.size, 0, none⟩ (.slice (some ⟨g7, 0, none⟩) (k + 1) c7))).alloc (Nat.le_refl _) (.cells #[.int .i64 (ak : Nat)] 3); obtain ⟨hbx9, hT9, hS9⟩ := ((unhide HT7).below hb88).pushA (x := ((ak : Nat) : Int)) ((unhide HS7).below hb88) (by rw [unhide HAl]; exact hrow9) hg9; have hu1 := cell27_1 hbx9; have huf := frozen_of_row w9 _ 1 _ 27 hbx9; have hu2 : w6.heap.size < w9.heap.size := (Array.getElem?_eq_some_iff.1 hbx9).1; have Hfin : Hid (PI w6 (w9.setCell ⟨w6.heap.size, 1, none⟩ (.slice (some ⟨g9, 0, none⟩) (k + 1) c9)) (w.heap.size + 1) sb w6.heap.size L sc (k + 1)) := ⟨hS9.mono (by omega), ⟨_, _, by rw [unhide HCs, unhide HAs]; exact hT9⟩, ((((((unhide Hb5).alloc hN5 _).grown (unhide Hg7) (by simp; omega) (fun x e => ((unhide Hrc5).lt x e).1)).setCell (p := ⟨w6.heap.size, 0, none⟩) hwN _).alloc (by simp [World.setCell] at hs7 ⊢; omega) _).grown hg9 (by simp [World.setCell] at hs7 ⊢; omega) (fun x e => (hra.lt x e).1)).setCell (p := ⟨w6.heap.size, 1, none⟩) hwN _⟩; clear hT9 hS9 hrow9 hg9 hbx9 hat9 hb88)))
      go_roundw
      case rel => exact ⟨k + 1, by omega, by go_num, Hfin⟩
      case measure => simp [intOf]; omega
    · obtain rfl : k = sc.length := by omega
      have hsp := (unhide HI).sp
      obtain ⟨vc, va, hT⟩ := (unhide HI).told
      have hbel := (unhide HI).bel
      have hNr := (unhide HI).size
      have Hpc := hide (pieces_c (w.heap.size + 1) sb L _ _ wr hsp hL (by omega))
      have hlb := bl_len L (stK L sc sc.length)
      have h256 : 2 ^ L ≤ 256 := p2_le (k := L) (by omega)
      have HIs : Hid (PlIs (L : Nat) sc (codesL L sc sc.length) (atsL L sc sc.length) ((stK L sc sc.length).bl L)) := ⟨fun h => absurd (unhide HE) h, fun _ => ⟨rfl, rfl, rfl⟩⟩
      have HCl := hide (codesL_len L sc sc.length)
      have HAl := hide (atsL_len L sc sc.length)
      have Hlb := hide (Nat.le_trans hlb h256)
      clear hsp hlb h256 HI
      generalize codesL L sc sc.length = C at *
      generalize atsL L sc sc.length = A at *
      generalize (stK L sc sc.length).bl L = F at *
      obtain ⟨ac, cc, hvc⟩ := ownsRow_slice hT.rc
      obtain ⟨aa, ca, hva⟩ := ownsRow_slice hT.ra
      subst hvc hva
      go_wp2_with fail
      refine (unhide Hpc).mono ?_
      rintro e w7 ⟨v7, rfl, hrow7, hb7⟩
      obtain ⟨g7, c7, hv7⟩ := ownsRow_slice hrow7
      subst hv7
      have hT7 := hT.below hb7
      have hrb : w7.heap[w.heap.size]? = some (.cells #[.slice none 0 0, .slice none 0 0, .slice none 0 0] 27) := by rw [hb7.block _ (by omega), hbel.block _ (by omega)]; exact unhide Hr6
      have Hfin : Hid (∀ W, W = (((w7.setCell ⟨w6.heap.size, 2, none⟩ (.slice g7 F.length c7)).setCell ⟨w.heap.size, 0, none⟩ (.slice ac C.length cc)).setCell ⟨w.heap.size, 1, none⟩ (.slice aa A.length ca)).setCell ⟨w.heap.size, 2, none⟩ (.slice g7 F.length c7) → PlRes (L : Nat) sc w.heap.size (.returned (.tuple #[.agg #[.slice ac C.length cc, .slice aa A.length ca, .slice g7 F.length c7], .int .i64 0])) W ∧ Below w.heap.size w W) := by
        intro W hW
        have hw6 : w.heap.size ≤ w6.heap.size := by omega
        refine ⟨?_, by rw [hW]; exact (((((hbw6.trans (hbel.mono (by omega))).trans (hb7.mono (by omega))).setCell (p := ⟨w6.heap.size, 2, none⟩) hw6 _).setCell (p := ⟨w.heap.size, 0, none⟩) (Nat.le_refl _) _).setCell (p := ⟨w.heap.size, 1, none⟩) (Nat.le_refl _) _).setCell (p := ⟨w.heap.size, 2, none⟩) (Nat.le_refl _) _⟩
        have r1 := row_end hT7.rc ⟨_, hT7.box⟩ ⟨_, hrb⟩ (by decide) (.slice g7 F.length c7) (.slice ac C.length cc) (.slice aa A.length ca) (.slice g7 F.length c7)
        have r2 := row_end hT7.ra ⟨_, hT7.box⟩ ⟨_, hrb⟩ (by decide) (.slice g7 F.length c7) (.slice ac C.length cc) (.slice aa A.length ca) (.slice g7 F.length c7)
        have r3 := row_end hrow7 ⟨_, hT7.box⟩ ⟨_, hrb⟩ (by decide) (.slice g7 F.length c7) (.slice ac C.length cc) (.slice aa A.length ca) (.slice g7 F.length c7)
        rw [← hW] at r1 r2 r3
        have hcl := unhide HCl
        have hal := unhide HAl
        have hfl := unhide Hlb
        obtain ⟨a1, c1, e1, n1, _⟩ := nums_of_owns r1 (by omega)
        obtain ⟨a2, c2, e2, n2, l2⟩ := nums_of_owns r2 (by omega)
        obtain ⟨a3, c3, e3, n3⟩ := blks_of_row r3 (by omega)
        injection e1 with e1a _ e1c
        injection e2 with e2a _ e2c
        injection e3 with e3a _ e3c
        subst e1a e1c e2a e2c e3a e3c
        exact ⟨ac, cc, aa, ca, g7, c7, C, A, F, by rw [unhide HE], n1, n2, n3, HIs, l2, fun x hx => (by
          rcases hx with hx | hx | hx
          · have := (r1.lt x.block (by rw [hx]; rfl)).1; omega
          · have := (r2.lt x.block (by rw [hx]; rfl)).1; omega
          · have := (r3.lt x.block (by rw [hx]; rfl)).1; omega)⟩
      have t0 := hT7.c0
      have t1 := hT7.c1
      have t2 := hT7.c2
      have tf2 := hT7.fr 2
      have tlt := hT7.lt
      have b0 := cell27_0 hrb
      have b1 := cell27_1 hrb
      have b2 := cell27_2 hrb
      have bf0 := frozen_of_row w7 _ 0 _ 27 hrb
      have bf1 := frozen_of_row w7 _ 1 _ 27 hrb
      have bf2 := frozen_of_row w7 _ 2 _ 27 hrb
      have hne : w.heap.size ≠ w6.heap.size := by omega
      have hne' : ¬ w6.heap.size = w.heap.size := by omega
      have hlw : w.heap.size < w7.heap.size := by omega
      clear hT hT7 hrb hbel hrow7 hb7 Hpc
      go_wp2
      refine bodyPost_ret (v := .tuple #[.agg #[.slice ac C.length cc, .slice aa A.length ca, .slice g7 F.length c7], .int .i64 0]) (by simp [results, Try.results8, go_sem, b0, b1, b2, hne, hne']) rfl ?_
      exact unhide Hfin _ rfl

end Go.Proofs.Ytoelnioifjeakaa

/- Play whole; a script that came in, opened. -/
namespace Go.Proofs.Ytoelnioifjeakaa
set_option linter.unusedSimpArgs false
set_option linter.unusedVariables false
open Go.RowKit Go.Joins Go.Deep Go.ChangeShapes Go.WideShapes

theorem play_c (z : Int) (a : Option Addr) (c : Nat) (sc : List (Int × Int)) (B : Nat) (w : World) (hA : Asks B w a sc) (hB : B ≤ w.heap.size) (hI : I64s sc) :
    Calls Try.prog 8 #[.int .i64 z, .slice a sc.length c] w fun e w' => PlRes z sc w.heap.size e w' ∧ Below w.heap.size w w' := by
  by_cases hE : playE z sc.length = 0
  · unfold playE at hE
    split at hE
    · cases hE
    · split at hE
      · cases hE
      · obtain ⟨L, rfl⟩ : ∃ L : Nat, z = (L : Int) := ⟨z.toNat, by omega⟩
        exact play_good L a c sc B w (by omega) (by omega) hA hB hI
  · exact play_bad z a c sc w hA.1 hE

section
variable {H : Type} {enc : TypeId × Value → H} {w : World} {base : Nat} {spare : Nat → Bool} {held : Bool}

theorem addr_plain {a : Addr} {i : Nat} {v : Value} (h : w.cell? (a.add i) = some v) (h0 : ∃ u, w.cell? a = some u) : ∃ b off, a = ⟨b, off, none⟩ ∧ w.cell? ⟨b, off + i, none⟩ = some v := by
  obtain ⟨b, off, spot⟩ := a
  obtain ⟨u, hu⟩ := h0
  have hspot : spot = none := by simpa using World.cell?_spot hu
  subst hspot
  exact ⟨b, off, rfl, by rw [← Go.WideShapes.add_plain]; exact h⟩

theorem bounds_i64 {n : Int} (h : (Lit.int .i64 n).wf = true) : -9223372036854775808 ≤ n ∧ n ≤ 9223372036854775807 := by
  simp [Lit.wf, IntKind.min, IntKind.max, IntKind.signed, IntKind.bits] at h
  omega

/-- One ask, out of its two cells. -/
theorem ask_of_trod {fuel : Nat} {cs : List Value} {x : DataW H × List MemPlace} (h : DataW.trod enc Try.prog w base spare held fuel 39 cs = some x) (hl : cs.length = 2) : ∃ r n : Int, cs = [.int .i64 r, .int .i64 n] ∧ (-9223372036854775808 ≤ r ∧ r ≤ 9223372036854775807) ∧ (-9223372036854775808 ≤ n ∧ n ≤ 9223372036854775807) := by
  obtain ⟨y0, y1, n, _, _, h0, h1⟩ := trod_struct2 Try.underlying39 h
  have e3 : Try.prog.cellsOf 3 = 1 := by kernel_rfl
  match cs, hl with
  | [c0, c1], _ =>
    simp only [e3, List.drop_zero, List.take_succ_cons, List.take_zero, List.drop_succ_cons] at h0 h1
    obtain ⟨r, hr, _, w0⟩ := DataW.trod_int Try.underlying3 h0
    obtain ⟨m, hm, _, w1⟩ := DataW.trod_int Try.underlying3 h1
    simp at hr hm
    exact ⟨r, m, by rw [hr, hm], bounds_i64 w0, bounds_i64 w1⟩

/-- A slice of asks that came in. -/
theorem asks_of_trod {fuel : Nat} {cs : List Value} {x : DataW H × List MemPlace} (h : DataW.trod enc Try.prog w base spare held fuel 22 cs = some x) : ∃ a cap l, cs = [.slice a l.length cap] ∧ Asks w.heap.size w a l ∧ I64s l ∧ l.length ≤ cap ∧ cap ≤ 9223372036854775807 := by
  rcases open_slice Try.underlying22 h with ⟨rfl, _⟩ | ⟨a, len, cap, m, n, D, Pl, rfl, hb, hl, hm, hmm, _, hx⟩
  · exact ⟨none, 0, [], rfl, ⟨by simp, fun h => absurd rfl h⟩, fun x hx => (by cases hx), by simp, by omega⟩
  · have e38 : Try.prog.cellsOf 39 = 2 := by kernel_rfl
    rw [e38] at hx
    have hle : len ≤ m := by rw [hmm]; split <;> omega
    have hex : ∀ i, i < len → ∃ v : Int × Int, w.cell? (a.add (i * 2)) = some (.int .i64 v.1) ∧ w.cell? ((a.add (i * 2)).add 1) = some (.int .i64 v.2) ∧ (-9223372036854775808 ≤ v.1 ∧ v.1 ≤ 9223372036854775807) ∧ (-9223372036854775808 ≤ v.2 ∧ v.2 ≤ 9223372036854775807) := by
      intro i hi
      obtain ⟨cs', h1, h2⟩ := hx i (by omega)
      obtain ⟨_, hlen, hc⟩ := World.cells?_some h1
      obtain ⟨r, n, rfl, b1, b2⟩ := ask_of_trod h2 hlen
      exact ⟨(r, n), by simpa [Addr.add] using hc 0 (by omega), by simpa using hc 1 (by omega), b1, b2⟩
    obtain ⟨f, hf⟩ := choose_lt (α := Int × Int) (p := fun i v => w.cell? (a.add (i * 2)) = some (.int .i64 v.1) ∧ w.cell? ((a.add (i * 2)).add 1) = some (.int .i64 v.2) ∧ (-9223372036854775808 ≤ v.1 ∧ v.1 ≤ 9223372036854775807) ∧ (-9223372036854775808 ≤ v.2 ∧ v.2 ≤ 9223372036854775807)) hex
    refine ⟨some a, cap, (List.range len).map f, by simp, ⟨by simp only [List.length_map, List.length_range]; simp only [maxLen] at hm; omega, fun hne => ?_⟩, ?_, by simpa using hl, by simp only [maxLen] at hm; omega⟩
    · have hpos : 0 < len := by
        rcases Nat.eq_zero_or_pos len with h0 | h0
        · subst h0; simp at hne
        · exact h0
      have h00 := (hf 0 hpos).1
      obtain ⟨b, off, rfl, _⟩ := addr_plain (a := a) (i := 0) (by simpa using h00) ⟨_, by simpa [Addr.add] using h00⟩
      have hplain : ∀ i, (⟨b, off, none⟩ : Addr).add i = ⟨b, off + i, none⟩ := fun i => Go.WideShapes.add_plain _ _ _
      refine ⟨b, off, rfl, World.block_lt_of_cell? w ⟨b, off + 0 * 2, none⟩ (by rw [← hplain]; exact h00), fun k v hk => ?_⟩
      have hkl : k < len := by
        have := (List.getElem?_eq_some_iff.1 hk).1
        simpa using this
      have hv : f k = v := by simpa [hkl] using hk
      have := hf k hkl
      rw [hv, hplain, Go.WideShapes.add_plain] at this
      exact ⟨this.1, this.2.1⟩
    · intro x hx
      obtain ⟨i, hi, rfl⟩ := List.mem_map.1 hx
      exact (hf i (List.mem_range.1 hi)).2.2

theorem asks_of_Trod {r : Reach} {b0 : Nat} {v : Value} {d : DataW H} {p : List MemPlace} (hv : Value.okWide Try.prog w r b0 22 v) (h : DataW.Trod enc Try.prog w base spare held 22 v d p) :
    ∃ a cap l, v = .slice a l.length cap ∧ Asks w.heap.size w a l ∧ I64s l ∧ l.length ≤ cap ∧ cap ≤ 9223372036854775807 := by
  obtain ⟨a0, len, cap, rfl⟩ := okWide_slice Try.underlying22 hv
  obtain ⟨fuel, hf⟩ := h
  obtain ⟨a, c, l, hcs, hI⟩ := asks_of_trod hf
  simp [Value.cells] at hcs
  obtain ⟨rfl, rfl, rfl⟩ := hcs
  exact ⟨_, _, l, rfl, hI⟩

end
end Go.Proofs.Ytoelnioifjeakaa

/- Walks: BuddyApart. -/
namespace Go.Proofs.Ytoelnioifjeakaa
set_option linter.unusedSimpArgs false
set_option linter.unusedVariables false
open Go.RowKit

set_option maxRecDepth 100000 in
set_option maxHeartbeats 4000000 in
theorem buddyApart_c (z : Int) (a : Option Addr) (c : Nat) (sc : List (Int × Int)) (w : World) (hA : Asks w.heap.size w a sc) (hI : I64s sc) :
    Calls Try.prog 4 #[.int .i64 z, .slice a sc.length c] w fun e w' => e = .returned (.bool true) ∧ Below w.heap.size w w' := by
  have Hc := hide (play_c z a c sc w.heap.size w hA (Nat.le_refl _) hI)
  have hsl := hA.1
  have HA := hide hA
  clear hA hI
  go_enter Try.func4, Try.ntmps4
  go_wp2_with fail
  refine (unhide Hc).mono ?_
  rintro e w2 ⟨hR, hb2⟩
  obtain ⟨ac, cc, aa, ca, af, cf, C, A, F, rfl, nc, na, nf, hIs, hca, _⟩ := hR
  have hs2 := hb2.size
  clear Hc
  obtain ⟨W3, hW3⟩ : ∃ W3, w2.alloc (.cells #[.slice ac C.length cc, .slice aa A.length ca, .slice af F.length cf] 27) = W3 := ⟨_, rfl⟩
  have hb3 : Below w2.heap.size w2 W3 := by rw [← hW3]; exact (Below.refl _ _).alloc (Nat.le_refl _) _
  have hs3 : w2.heap.size < W3.heap.size := by rw [← hW3]; simp
  have hF3 : FBox W3 w2.heap.size ac C.length cc aa A.length ca af F.length cf := by rw [← hW3]; exact fbox_new ..
  have t0 := hF3.c0
  have t1 := hF3.c1
  have t2 := hF3.c2
  clear hF3
  have hbw : Below w.heap.size w W3 := hb2.trans (hb3.mono hs2)
  by_cases hz : z < 0 ∨ 7 < z
  · have hE : playE z sc.length = 3 := by simp [playE, hz]
    rw [hE]
    clear nc na nf hIs hE
    by_cases hz1 : z < 0
    · have d0 : decide (z < 0) = true := decide_eq_true hz1
      clear hz hz1
      go_wp2
      go_ret
      exact ⟨rfl, hbw⟩
    · have d0 : decide (z < 0) = false := decide_eq_false hz1
      have d1 : decide (7 < z) = true := decide_eq_true (by omega)
      clear hz hz1
      go_wp2
      go_ret
      exact ⟨rfl, hbw⟩
  · obtain ⟨L, rfl⟩ : ∃ L : Nat, z = (L : Int) := ⟨z.toNat, by omega⟩
    have hL : L ≤ 7 := by omega
    have d0 : decide ((L : Int) < 0) = false := decide_eq_false (by omega)
    have d1 : decide (7 < (L : Int)) = false := decide_eq_false (by omega)
    have d1' : decide (7 < L) = false := decide_eq_false (by omega)
    by_cases hn : 100 < sc.length
    · have hE : playE L sc.length = 1 := by unfold playE; rw [if_neg hz, if_pos hn]
      rw [hE]
      have d2 : decide (100 < sc.length) = true := decide_eq_true hn
      clear nc na nf hIs hE hz
      go_wp2
      go_ret
      exact ⟨ret_bool (show decide (100 < (sc.length : Int)) = true from decide_eq_true (by omega)), hbw⟩
    · have hE : playE L sc.length = 0 := by unfold playE; rw [if_neg hz, if_neg hn]
      obtain ⟨eC, eA, eF⟩ := (unhide hIs).2 hE
      rw [Int.toNat_natCast] at eC eA eF
      have lC : C.length = sc.length := by rw [eC, codesL_len]
      have lA : A.length = sc.length := by rw [eA, atsL_len]
      have Ha : Hid (∀ w', Below W3.heap.size W3 w' → Calls Try.prog 11 #[.int .i64 (p2 L : Nat), .slice a sc.length c, .agg #[.slice ac sc.length cc, .slice aa sc.length ca, .slice af F.length cf], .bool true] w' fun e w'' => e = .returned (.bool true) ∧ Below w'.heap.size w' w'') := fun w' hw' => by
        have hs' := hw'.size
        have hbw' : Below w.heap.size w w' := hbw.trans (hw'.mono (by omega))
        have hb3' : Below w2.heap.size w2 w' := hb3.trans (hw'.mono (by omega))
        exact apart_c (p2 L) L rfl hL a c sc (by omega) ac cc aa ca af F.length cf F w' (((unhide HA).below hbw').mono (by omega)) (by rw [← eC]; exact (nc.below hb3').mono (by omega)) (by rw [← eA]; exact (na.below hb3').mono (by omega)) ((nf.below hb3').mono (by omega)) eF rfl
      have Ht : Hid (∀ w', Calls Try.prog 12 #[.int .i64 (L : Nat)] w' fun e w'' => e = .returned (.int .i64 (p2 L : Nat)) ∧ Below w'.heap.size w' w'') := fun w' => (twice_c L (by omega) w').mono fun e w'' ⟨h1, h2⟩ => ⟨h1, by rw [h2]; exact Below.refl _ _⟩
      rw [hE]
      rw [lC] at t0
      rw [lA] at t1
      rw [lC, lA] at hW3 ⊢
      have G0 := cell_regrown t0
      have G1 := cell_regrown t1
      have G2 := cell_regrown t2
      have hbw3 := hbw
      clear hE eC eA eF nc na nf hIs hz hn t0 t1 t2
      go_wp2
      refine wp_region_quiet_below (by kernel_rfl) (by kernel_rfl) ?_
      repeat (go_big_quiet_step (first | exact Calls.regrown_of (unhide Ha _ (below_regrown W3 _ _)) | exact Calls.regrown_of (unhide Ht _)))
      refine wpQuiet_nil ?_
      intro _ hw'
      obtain ⟨⟨dq, osq⟩, hw''⟩ := hw'
      subst hw''
      have hbq := hbw3.trans ((below_regrown W3 dq osq).mono (by omega))
      clear G0 G1 G2
      go_wp2
      go_ret
      exact ⟨rfl, hbq⟩

end Go.Proofs.Ytoelnioifjeakaa
