/- Walks: meet, common. -/
import Derived.Test.YtkoidbekfjlfjaaProg
import Derived.Test.YtkoidbekfjlfjaaMem
import Derived.Test.YtkoidbekfjlfjaaKa
import Derived.Test.YtkoidbekfjlfjaaRa
import Derived.Test.YtkoidbekfjlfjaaPa
namespace Go.Proofs.Ytkoidbekfjlfjaa
set_option linter.unusedSimpArgs false
set_option linter.unusedVariables false
open Go.RowKit

/-- Keepers as they are kept: whose is known; the next one. -/
def kk (K : List Int) (n : Nat) : Prop := 0 ≤ K.getD n (-1)
def kf (K : List Int) (n : Nat) : Nat := if 0 ≤ K.getD n (-1) then (K.getD n (-1)).toNat else n

theorem kk_get {K : List Int} {n : Nat} (hn : n < K.length) : kk K n ↔ 0 ≤ K[n] := by unfold kk; simp [hn]
theorem kf_get {K : List Int} {n : Nat} (hn : n < K.length) (hk : kk K n) : K[n] = ((kf K n : Nat) : Int) := by
  have h := (kk_get hn).1 hk
  unfold kf
  simp only [List.getD_eq_getElem?_getD, List.getElem?_eq_getElem hn, Option.getD_some]
  rw [if_pos h]; omega

set_option maxRecDepth 100000 in
set_option maxHeartbeats 1000000 in
theorem meet_c (E : Nat → Nat → Prop) (r c : Nat) (K : List Int) (h : KOk E r c (kk K) (kf K)) (hl : K.length = r + 1) (a : Option Addr) (cap B : Nat) (w : World) (hI : Ints B w a K) (p q : Nat) (hp : kk K p) (hq : kk K q) :
    Calls Try.prog 52 #[.slice a K.length cap, .int .i64 p, .int .i64 q] w fun e w' => (∃ m : Nat, e = .returned (.int .i64 m) ∧ kk K m ∧ ∀ x, Anc (kf K) m x ↔ Anc (kf K) p x ∧ Anc (kf K) q x) ∧ w' = w := by
  have Hl := hide hl
  have hl1 := hI.1
  have hle : K.length ≤ r + 1 := by omega
  have hge : r + 1 ≤ K.length := by omega
  clear hl
  go_enter Try.func52, Try.ntmps52
  go_wp2
  go_loop [1, 2] (fun i j => ∃ m n : Nat, i = .int .i64 m ∧ j = .int .i64 n ∧ Hid (kk K m) ∧ Hid (kk K n) ∧ Hid (∀ x, (Anc (kf K) m x ∧ Anc (kf K) n x) ↔ (Anc (kf K) p x ∧ Anc (kf K) q x))) (fun i j => (r - (intOf i).toNat) + (r - (intOf j).toNat))
  case atStart => exact ⟨p, q, rfl, rfl, hide hp, hide hq, hide (fun x => Iff.rfl)⟩
  case round =>
    obtain ⟨m, n, rfl, rfl, Hm, Hn, Ha⟩ := hrel
    have hmr := h.bnd m (unhide Hm)
    have hnr := h.bnd n (unhide Hn)
    have hmK : m < K.length := by omega
    have hnK : n < K.length := by omega
    by_cases hmn : m = n
    · subst hmn
      have d : ((m : Int) != (m : Int)) = false := by simp
      go_wp2
      go_ret
      exact ⟨⟨m, rfl, unhide Hm, fun x => by rw [← unhide Ha x]; simp⟩, rfl⟩
    · have d : ((m : Int) != (n : Int)) = true := by simp; omega
      have hmnI : ¬ (m : Int) = (n : Int) := by omega
      by_cases hlt : m < n
      · obtain ⟨b, off, rfl, hbB, hc⟩ := hI.at hmK
        rw [kf_get hmK (unhide Hm)] at hc
        have hmr' : m < r := by omega
        have hup := h.up m hmr' (unhide Hm)
        have Hk2 := hide hup.2
        have hup1 := hup.1
        have hb2 := h.bnd _ hup.2
        have Ha2 : Hid (∀ x, (Anc (kf K) (kf K m) x ∧ Anc (kf K) n x) ↔ (Anc (kf K) p x ∧ Anc (kf K) q x)) := fun x => by
          rw [← unhide Ha x]
          constructor
          · exact fun e => ⟨e.1.step, e.2⟩
          · intro e
            refine ⟨?_, e.2⟩
            rcases anc_iff.1 e.1 with e1 | e1
            · have := e.2.le h.mon; omega
            · exact e1
        clear hup Hl
        have hltI : (m : Int) < (n : Int) := by omega
        have hmKI : (m : Int) < (K.length : Int) := by omega
        generalize kf K m = k at *
        go_wp2
        go_round
        case rel => exact ⟨k, n, rfl, rfl, Hk2, Hn, Ha2⟩
        case measure => simp [intOf]; omega
      · obtain ⟨b, off, rfl, hbB, hc⟩ := hI.at hnK
        rw [kf_get hnK (unhide Hn)] at hc
        have hnr' : n < r := by omega
        have hup := h.up n hnr' (unhide Hn)
        have Hk2 := hide hup.2
        have hup1 := hup.1
        have hb2 := h.bnd _ hup.2
        have Ha2 : Hid (∀ x, (Anc (kf K) m x ∧ Anc (kf K) (kf K n) x) ↔ (Anc (kf K) p x ∧ Anc (kf K) q x)) := fun x => by
          rw [← unhide Ha x]
          constructor
          · exact fun e => ⟨e.1, e.2.step⟩
          · intro e
            refine ⟨e.1, ?_⟩
            rcases anc_iff.1 e.2 with e1 | e1
            · have := e.1.le h.mon; omega
            · exact e1
        clear hup Hl
        have hltI : ¬ (m : Int) < (n : Int) := by omega
        have hnKI : (n : Int) < (K.length : Int) := by omega
        generalize kf K n = k at *
        go_wp2
        go_round
        case rel => exact ⟨m, k, rfl, rfl, Hm, Hk2, Ha2⟩
        case measure => simp [intOf]; omega

/-- The nearest one that is or keeps each known one of a list. -/
def ComOk (K : List Int) (S : List Int) (m : Int) : Prop :=
  (m = -1 ∧ ∀ p : Nat, (p : Int) ∈ S → ¬ kk K p) ∨ ∃ k : Nat, m = (k : Int) ∧ kk K k ∧ ∀ x, Anc (kf K) k x ↔ ∀ p : Nat, (p : Int) ∈ S → kk K p → Anc (kf K) p x

theorem com_nil (K : List Int) : ComOk K [] (-1) := .inl ⟨rfl, fun p h => by simp at h⟩

theorem com_skip {K S : List Int} {m : Int} (h : ComOk K S m) {y : Nat} (hy : ¬ kk K y) : ComOk K (S ++ [(y : Int)]) m := by
  have hin : ∀ p : Nat, (p : Int) ∈ S ++ [(y : Int)] → kk K p → (p : Int) ∈ S := fun p hp hk => by
    rw [List.mem_append, List.mem_singleton] at hp
    rcases hp with e | e
    · exact e
    · obtain rfl : p = y := by omega
      exact absurd hk hy
  rcases h with ⟨rfl, h⟩ | ⟨k, rfl, hk, h⟩
  · exact .inl ⟨rfl, fun p hp hk => h p (hin p hp hk) hk⟩
  · refine .inr ⟨k, rfl, hk, fun x => ?_⟩
    rw [h x]
    exact ⟨fun e p hp hk => e p (hin p hp hk) hk, fun e p hp hk => e p (by simp [hp]) hk⟩

theorem com_first {K S : List Int} (h : ComOk K S (-1)) {y : Nat} (hy : kk K y) : ComOk K (S ++ [(y : Int)]) (y : Int) := by
  rcases h with ⟨_, h⟩ | ⟨k, e, _⟩
  · refine .inr ⟨y, rfl, hy, fun x => ⟨fun ha p hp hk => ?_, fun e => e y (by simp) hy⟩⟩
    rw [List.mem_append, List.mem_singleton] at hp
    rcases hp with e | e
    · exact absurd hk (h p e)
    · obtain rfl : p = y := by omega
      exact ha
  · omega

theorem com_meet {K S : List Int} {k : Nat} (h : ComOk K S (k : Int)) {y m : Nat} (hy : kk K y) (hm : kk K m) (ha : ∀ x, Anc (kf K) m x ↔ Anc (kf K) k x ∧ Anc (kf K) y x) : ComOk K (S ++ [(y : Int)]) (m : Int) := by
  rcases h with ⟨e, _⟩ | ⟨k', e, hk, h⟩
  · omega
  · obtain rfl : k = k' := by omega
    refine .inr ⟨m, rfl, hm, fun x => ?_⟩
    rw [ha x, h x]
    constructor
    · rintro ⟨h1, h2⟩ p hp hkp
      rw [List.mem_append, List.mem_singleton] at hp
      rcases hp with e | e
      · exact h1 p e hkp
      · obtain rfl : p = y := by omega
        exact h2
    · intro e
      exact ⟨fun p hp hkp => e p (by simp [hp]) hkp, e y (by simp) hy⟩

theorem com_known {K S : List Int} {m : Int} (h : ComOk K S m) (hm : m ≠ -1) : ∃ k : Nat, m = (k : Int) ∧ kk K k := by
  rcases h with ⟨e, _⟩ | ⟨k, e, hk, _⟩
  · exact absurd e hm
  · exact ⟨k, e, hk⟩

set_option maxRecDepth 100000 in
set_option maxHeartbeats 1000000 in
theorem common_c (E : Nat → Nat → Prop) (r c : Nat) (K : List Int) (h : KOk E r c (kk K) (kf K)) (hl : K.length = r + 1) (hun : ∀ n (hn : n < K.length), ¬ kk K n → K[n] = -1) (a a2 : Option Addr) (cap c2 B : Nat) (w : World) (hI : Ints B w a K) (S : List Int) (hI2 : Ints B w a2 S) (hS : ∀ y ∈ S, 0 ≤ y ∧ y ≤ (r : Int)) :
    Calls Try.prog 42 #[.slice a K.length cap, .slice a2 S.length c2] w fun e w' => (∃ m : Int, e = .returned (.int .i64 m) ∧ ComOk K S m) ∧ w' = w := by
  have hl1 := hI.1
  have hl2 := hI2.1
  have Hl := hide hl
  have Hun := hide hun
  have hle : K.length ≤ r + 1 := by omega
  have hge : r + 1 ≤ K.length := by omega
  have HS := hide hS
  clear hl hun hS
  go_enter Try.func42, Try.ntmps42
  go_wp2
  go_loop [5, 10] (fun i j => ∃ (m : Int) (k : Nat), k ≤ S.length ∧ i = .int .i64 m ∧ j = .int .i64 k ∧ Hid (ComOk K (S.take k) m)) (fun _ j => S.length - (intOf j).toNat)
  case atStart => exact ⟨-1, 0, Nat.zero_le _, rfl, rfl, hide (by rw [List.take_zero]; exact com_nil K)⟩
  case round =>
    obtain ⟨m, k, hk, rfl, rfl, HC⟩ := hrel
    by_cases hlt : k < S.length
    · obtain ⟨b2, off2, rfl, hbB2, hc2⟩ := hI2.at hlt
      have hy := unhide HS _ (List.getElem_mem hlt)
      have HT := hide (List.take_succ_eq_append_getElem hlt)
      generalize S[k] = y at *
      obtain ⟨y, rfl⟩ := Int.eq_ofNat_of_zero_le hy.1
      have hyK : y < K.length := by omega
      obtain ⟨b, off, rfl, hbB, hc⟩ := hI.at hyK
      have hyKI : (y : Int) < (K.length : Int) := by omega
      by_cases hky : kk K y
      · have Hk0 := hide ((kk_get hyK).1 hky)
        have Hky := hide hky
        clear hky
        generalize K[y] = z at *
        have d1 : (z == -1) = false := by have := unhide Hk0; simp; omega
        by_cases hm : m = -1
        · subst hm
          have HC2 := hide (com_first (unhide HC) (unhide Hky))
          go_wp2
          go_round
          case rel => exact ⟨(y : Int), k + 1, by omega, rfl, by go_num, by rw [unhide HT]; exact HC2⟩
          case measure => simp [intOf]; omega
        · have d2 : (m == -1) = false := by simpa using hm
          obtain ⟨q, rfl, hq⟩ := com_known (unhide HC) hm
          have Hq := hide hq
          clear hm hq
          go_wp2_with fail
          refine (meet_c E r c K h (unhide Hl) _ cap B _ hI q y (unhide Hq) (unhide Hky)).mono ?_
          rintro e w3 ⟨⟨m3, rfl, hm3, ha3⟩, hw3⟩
          have hw3 := hw3.symm
          subst hw3
          have HC2 := hide (com_meet (unhide HC) (unhide Hky) hm3 ha3)
          clear hm3 ha3
          go_wp2
          go_round
          case rel => exact ⟨(m3 : Int), k + 1, by omega, rfl, by go_num, by rw [unhide HT]; exact HC2⟩
          case measure => simp [intOf]; omega
      · rw [unhide Hun y hyK hky] at hc
        have HC2 := hide (com_skip (unhide HC) hky)
        clear hky
        go_wp2
        go_round
        case rel => exact ⟨m, k + 1, by omega, rfl, by go_num, by rw [unhide HT]; exact HC2⟩
        case measure => simp [intOf]; omega
    · obtain rfl : k = S.length := by omega
      rw [List.take_length] at HC
      go_wp2
      go_ret
      exact ⟨⟨m, rfl, unhide HC⟩, rfl⟩

end Go.Proofs.Ytkoidbekfjlfjaa
