/- Walks: WordsBack, WordsOnly, WordsHeaded. -/
import Derived.Test.YtbedngkikkpcaaaProg
import Derived.Test.YtbedngkikkpcaaaPa
import Derived.Test.YtbedngkikkpcaaaWa
import Derived.Test.YtbedngkikkpcaaaWb
import Derived.Test.YtbedngkikkpcaaaWd
namespace Go.Proofs.Ytbedngkikkpcaaa
set_option linter.unusedSimpArgs false
set_option linter.unusedVariables false
open Go.RowKit

theorem packE_ne (r : Bool) (n : Int) (h : packE r n ≠ 0) : packW r n = 0 ∧ (r = true ∨ n < -4611686018427387904 ∨ 4611686018427387903 < n) := by
  cases r
  · simp only [packE, packW, Bool.false_eq_true, if_false] at *
    by_cases c : n < -4611686018427387904 ∨ 4611686018427387903 < n
    · rw [if_pos c]; exact ⟨rfl, Or.inr c⟩
    · rw [if_neg c] at h; exact absurd rfl h
  · simp only [packE, packW, if_true] at *
    by_cases c : n < 0 ∨ 256 ≤ n
    · rw [if_pos c]; exact ⟨rfl, by simp⟩
    · rw [if_neg c] at h; exact absurd rfl h

theorem packE_eq (r : Bool) (n : Int) (h : packE r n = 0) : 0 ≤ packW r n ∧ packW r n < 18446744073709551616 ∧ unRef (packW r n) = r ∧ unNum (packW r n) = n ∧ unErr (packW r n) = 0 := by
  cases r
  · simp only [packE, packW, Bool.false_eq_true, if_false] at *
    by_cases c : n < -4611686018427387904 ∨ 4611686018427387903 < n
    · rw [if_pos c] at h; omega
    · rw [if_neg c]
      have h2 : ¬ (2 * n + 1) % 18446744073709551616 % 2 = 0 := by omega
      refine ⟨by omega, by omega, by simp [unRef]; try omega, ?_, by simp [unErr, h2]⟩
      simp only [unNum, if_neg h2]
      split <;> omega
  · simp only [packE, packW, if_true] at *
    by_cases c : n < 0 ∨ 256 ≤ n
    · rw [if_pos c] at h; omega
    · rw [if_neg c]
      have h2 : 2 * n % 2 = 0 := by omega
      have h3 : 2 * n < 512 := by omega
      exact ⟨by omega, by omega, by simp [unRef]; omega, by simp [unNum, h3]; try omega, by simp [unErr, h3]⟩

theorem pack_un (x : Int) (h1 : 0 ≤ x) (h2 : x < 18446744073709551616) (h : unErr x = 0) : packE (unRef x) (unNum x) = 0 ∧ packW (unRef x) (unNum x) = x := by
  by_cases a : x % 2 = 0
  · by_cases b : x < 512
    · have e : unRef x = true := by simp [unRef]; omega
      have f : unNum x = x / 2 := by simp [unNum, a, b]
      rw [e, f]
      simp only [packE, packW, if_true]
      rw [if_neg (by omega), if_neg (by omega)]; omega
    · simp [unErr, a, b] at h
  · have e : unRef x = false := by simp [unRef]; omega
    rw [e]
    by_cases b : x < 9223372036854775808
    · have f : unNum x = x / 2 := by simp [unNum, a, b]
      rw [f]
      simp only [packE, packW, Bool.false_eq_true, if_false]
      rw [if_neg (by omega), if_neg (by omega)]; omega
    · have f : unNum x = x / 2 - 9223372036854775808 := by simp [unNum, a, b]
      rw [f]
      simp only [packE, packW, Bool.false_eq_true, if_false]
      rw [if_neg (by omega), if_neg (by omega)]; omega

theorem pack_inj (r s : Bool) (n m : Int) (h1 : packE r n = 0) (h2 : packE s m = 0) : (packW r n == packW s m) = ((r == s) && (n == m)) := by
  rw [Bool.eq_iff_iff]
  constructor
  · intro h
    have e : packW r n = packW s m := by simpa using h
    have a := packE_eq r n h1
    have b := packE_eq s m h2
    rw [← e, a.2.2.1, a.2.2.2.1] at b
    simp [b.2.2.1, b.2.2.2.1]
  · intro h
    simp at h
    simp [h.1, h.2]

theorem head_un (x : Int) (h1 : 0 ≤ x) (h2 : x < 18446744073709551616) (h : uhE x = 0) : headE (uhL x) (uhA x) = 0 ∧ headW (uhL x) (uhM x) (uhA x) = x := by
  have hk : unheadOk x = true := by
    cases e : unheadOk x
    · simp [uhE, e] at h
    · rfl
  have hk' := hk
  simp [unheadOk] at hk'
  obtain ⟨a, b⟩ := uh_head x h1 h2 hk'.1
  rw [mark_eq x h1] at b
  simp only [uhL, uhM, uhA, hk, if_true, Bool.true_and]
  exact ⟨a, by rw [b]; omega⟩

theorem headE_ne (l a : Int) (m : Bool) (h : headE l a ≠ 0) : headW l m a = 0 ∧ headOk l a = false := by
  cases e : headOk l a
  · simp [headW, e]
  · simp [headE, e] at h

theorem un_head (l a : Int) (m : Bool) (h : headE l a = 0) : 0 ≤ headW l m a ∧ headW l m a < 18446744073709551616 ∧ uhL (headW l m a) = l ∧ uhM (headW l m a) = m ∧ uhA (headW l m a) = a ∧ uhE (headW l m a) = 0 := by
  cases e : headOk l a
  · simp [headE, e] at h
  · have e' := e
    simp [headOk] at e'
    have hw : headW l m a = 11889503016258109440 + a * 512 + l + (if m then 256 else 0) := by simp [headW, e]
    rw [hw]
    cases m
    · simp only [Bool.false_eq_true, if_false]
      have hk : unheadOk (11889503016258109440 + a * 512 + l + 0) = true := by simp [unheadOk]; omega
      simp only [uhL, uhM, uhA, uhE, hk, if_true, Bool.true_and]
      exact ⟨by omega, by omega, by omega, by simp; try omega, by omega, trivial⟩
    · simp only [if_true]
      have hk : unheadOk (11889503016258109440 + a * 512 + l + 256) = true := by simp [unheadOk]; omega
      simp only [uhL, uhM, uhA, uhE, hk, if_true, Bool.true_and]
      exact ⟨by omega, by omega, by omega, by simp; try omega, by omega, trivial⟩

theorem xor_mark (l a : Int) (m : Bool) (h : headE l a = 0) : bits .xor .u64 (headW l m a) (headW l (!m) a) = 256 := by
  cases e : headOk l a
  · simp [headE, e] at h
  · have e' := e
    simp [headOk] at e'
    have key : ((11889503016258109440 + a * 512 + l).toNat ^^^ (11889503016258109440 + a * 512 + l + 256).toNat) = 256 := by
      have hl : l = 0 ∨ l = 1 ∨ l = 2 ∨ l = 3 ∨ l = 4 := by omega
      have ha : a = 0 ∨ a = 1 ∨ a = 2 ∨ a = 3 ∨ a = 4 ∨ a = 5 ∨ a = 6 ∨ a = 7 := by omega
      clear e e' h
      rcases hl with rfl | rfl | rfl | rfl | rfl <;> rcases ha with rfl | rfl | rfl | rfl | rfl | rfl | rfl | rfl <;> rfl
    have a1 := un_head l a m h
    have a2 := un_head l a (!m) h
    rw [u64_xor _ _ a1.1 a1.2.1 a2.1 a2.2.1]
    cases m
    · simp only [headW, e, if_true, Bool.not_false, Bool.false_eq_true, if_false, Int.add_zero]
      rw [key]; rfl
    · simp only [headW, e, if_true, Bool.not_true, Bool.false_eq_true, if_false, Int.add_zero]
      rw [Nat.xor_comm, key]; rfl

set_option maxHeartbeats 1000000 in
theorem wordsBack_c (r s : Bool) (n m : Int) (w : World) (h1 : -9223372036854775808 ≤ n) (h2 : n ≤ 9223372036854775807) (h3 : -9223372036854775808 ≤ m) (h4 : m ≤ 9223372036854775807) :
    Calls Try.prog 5 #[.agg #[.bool r, .int .i64 n], .agg #[.bool s, .int .i64 m]] w fun e w' => e = .returned (.bool true) ∧ Below w.heap.size w w' := by
  have hb1 := ((Below.refl w.heap.size w).alloc (Nat.le_refl _) (.cells #[.bool r, .int .i64 n] 23)).alloc (by simp) (.cells #[.bool s, .int .i64 m] 23)
  go_enter Try.func5, Try.ntmps5
  go_wp2_with fail
  refine (pack_c r n _ h1 h2).mono ?_
  rintro e w2 ⟨rfl, hb2⟩
  simp only [World.size_alloc] at hb2
  have g0 := hb2.cell (p := ⟨w.heap.size, 0, none⟩) (show w.heap.size < _ by omega)
  have g1 := hb2.cell (p := ⟨w.heap.size, 1, none⟩) (show w.heap.size < _ by omega)
  have g2 := hb2.cell (p := ⟨w.heap.size + 1, 0, none⟩) (show w.heap.size + 1 < _ by omega)
  have g3 := hb2.cell (p := ⟨w.heap.size + 1, 1, none⟩) (show w.heap.size + 1 < _ by omega)
  simp [go_sem] at g0 g1 g2 g3
  have hs2 := hb2.size
  simp only [World.size_alloc] at hs2
  have hbw2 := hb1.trans (hb2.mono (by omega))
  clear hb1 hb2
  go_wp2_with fail
  refine (pack_c s m _ h3 h4).mono ?_
  rintro e w3 ⟨rfl, hb3⟩
  rw [← hb3.cell (p := ⟨w.heap.size, 0, none⟩) (show w.heap.size < _ by omega)] at g0
  rw [← hb3.cell (p := ⟨w.heap.size, 1, none⟩) (show w.heap.size < _ by omega)] at g1
  rw [← hb3.cell (p := ⟨w.heap.size + 1, 0, none⟩) (show w.heap.size + 1 < _ by omega)] at g2
  rw [← hb3.cell (p := ⟨w.heap.size + 1, 1, none⟩) (show w.heap.size + 1 < _ by omega)] at g3
  have hs3 := hb3.size
  have hbw3 := hbw2.trans (hb3.mono (by omega))
  clear hbw2 hb3
  by_cases hE : packE r n = 0
  · rw [hE]
    obtain ⟨a1, a2, a3, a4, a5⟩ := packE_eq r n hE
    go_wp2_with fail
    refine (unpack_c (packW r n) _ a1 a2).mono ?_
    rintro e w4 ⟨rfl, hb4⟩
    rw [a3, a4, a5]
    rw [← hb4.cell (p := ⟨w.heap.size, 0, none⟩) (show w.heap.size < _ by omega)] at g0
    rw [← hb4.cell (p := ⟨w.heap.size, 1, none⟩) (show w.heap.size < _ by omega)] at g1
    rw [← hb4.cell (p := ⟨w.heap.size + 1, 0, none⟩) (show w.heap.size + 1 < _ by omega)] at g2
    rw [← hb4.cell (p := ⟨w.heap.size + 1, 1, none⟩) (show w.heap.size + 1 < _ by omega)] at g3
    have hs4 := hb4.size
    have hl1 : w.heap.size < w4.heap.size := by omega
    have hl2 : w.heap.size + 1 < w4.heap.size := by omega
    have hbw4 := hbw3.trans (hb4.mono (by omega))
    clear hbw3 hb4 hs2 hs3 hs4 a1 a2 a3 a4 a5
    by_cases hF : packE s m = 0
    · have HI := pack_inj r s n m hE hF
      rw [hF]
      by_cases hrs : r = s
      · subst hrs
        by_cases hnm : n = m
        · subst hnm
          clear HI
          go_wp2
          go_ret
          exact ⟨rfl, hbw4.alloc (by omega) _⟩
        · have hd : (packW r n == packW r m) = false := by rw [HI]; simpa using hnm
          clear HI
          go_wp2
          go_ret
          exact ⟨rfl, hbw4.alloc (by omega) _⟩
      · have hd : (packW r n == packW s m) = false := by rw [HI]; simp [hrs]
        clear HI
        go_wp2
        go_ret
        exact ⟨rfl, hbw4.alloc (by omega) _⟩
    · have hd : (packE s m != 0) = true := by simpa using hF
      go_wp2
      go_ret
      exact ⟨rfl, hbw4.alloc (by omega) _⟩
  · obtain ⟨b1, b2⟩ := packE_ne r n hE
    have hd : (packE r n != 0) = true := by simpa using hE
    rw [b1]
    cases r
    · by_cases c : n < -4611686018427387904
      · have d1 : decide (n < -4611686018427387904) = true := by simpa using c
        clear b2
        go_wp2
        go_ret
        exact ⟨rfl, hbw3⟩
      · have d1 : decide (n < -4611686018427387904) = false := by simpa using c
        have c2 : 4611686018427387903 < n := by simp at b2; omega
        have d2 : decide (4611686018427387903 < n) = true := by simpa using c2
        clear b2
        go_wp2
        go_ret
        exact ⟨rfl, hbw3⟩
    · clear b2
      go_wp2
      go_ret
      exact ⟨rfl, hbw3⟩

set_option maxHeartbeats 1000000 in
theorem wordsOnly_c (x : Int) (w : World) (h1 : 0 ≤ x) (h2 : x < 18446744073709551616) :
    Calls Try.prog 6 #[.int .u64 x] w fun e w' => e = .returned (.bool true) ∧ Below w.heap.size w w' := by
  have hp := pack_un x h1 h2
  have hh := head_un x h1 h2
  have ho : x % 2 = 0 ∨ unErr x = 0 := by by_cases c : x % 2 = 0 <;> simp [unErr, c]
  have bl : -9223372036854775808 ≤ unNum x ∧ unNum x ≤ 9223372036854775807 := by unfold unNum; split <;> split <;> omega
  go_enter Try.func6, Try.ntmps6
  go_wp2_with fail
  refine (unpack_c x _ h1 h2).mono ?_
  rintro e w2 ⟨rfl, hb2⟩
  have hs2 := hb2.size
  go_wp2_with fail
  refine (unhead_c x _ h1 h2).mono ?_
  rintro e w3 ⟨rfl, hb3⟩
  have hb3' := hb3
  simp only [World.size_alloc] at hb3
  have g0 := hb3.cell (p := ⟨w2.heap.size, 0, none⟩) (show w2.heap.size < _ by omega)
  have g1 := hb3.cell (p := ⟨w2.heap.size, 1, none⟩) (show w2.heap.size < _ by omega)
  simp [go_sem] at g0 g1
  have hs3 := hb3.size
  simp only [World.size_alloc] at hs3
  have hbw3 := (hb2.alloc (by omega) (.cells #[.bool (unRef x), .int .i64 (unNum x)] 23)).trans (hb3'.mono (by simp; omega))
  have hl : w2.heap.size < w3.heap.size := by omega
  clear hb2 hb3 hb3' hs3
  have d : (x % 2 == 0) = true ∨ (x % 2 == 0) = false := by cases (x % 2 == 0) <;> simp
  by_cases hE : unErr x = 0
  · obtain ⟨p1, p2⟩ := hp hE
    rw [hE]
    clear ho hp
    go_wp2_with fail
    refine (pack_c (unRef x) (unNum x) _ bl.1 bl.2).mono ?_
    rintro e w4 ⟨rfl, hb4⟩
    rw [p1, p2]
    have hb4' := hb4
    simp only [World.size_alloc] at hb4
    have g2 := hb4.cell (p := ⟨w3.heap.size, 0, none⟩) (show w3.heap.size < _ by omega)
    have g3 := hb4.cell (p := ⟨w3.heap.size, 1, none⟩) (show w3.heap.size < _ by omega)
    have g4 := hb4.cell (p := ⟨w3.heap.size, 2, none⟩) (show w3.heap.size < _ by omega)
    simp [go_sem] at g2 g3 g4
    have hs4 := hb4.size
    simp only [World.size_alloc] at hs4
    have hbw4 := (hbw3.alloc (by omega) (.cells #[.int .i64 (uhL x), .bool (uhM x), .int .i64 (uhA x)] 32)).trans (hb4'.mono (by simp; omega))
    have hl4 : w.heap.size ≤ w4.heap.size := by omega
    clear hb4 hb4' hs4 g0 g1 p1 p2
    by_cases hF : uhE x = 0
    · obtain ⟨q1, q2⟩ := hh hF
      rw [hF]
      clear hh
      go_wp2_with fail
      refine (head_c (uhL x) (uhA x) (uhM x) _).mono ?_
      rintro e w5 ⟨rfl, hb5⟩
      rw [q1, q2]
      have hbw5 := hbw4.trans (hb5.mono hl4)
      clear hb5 q1 q2 g2 g3 g4
      rcases d with d | d
      · go_wp2
        go_ret
        exact ⟨rfl, hbw5⟩
      · go_wp2
        go_ret
        exact ⟨rfl, hbw5⟩
    · have hd : (uhE x == 0) = false := by simpa using hF
      clear hh
      rcases d with d | d
      · go_wp2
        go_ret
        exact ⟨rfl, hbw4⟩
      · go_wp2
        go_ret
        exact ⟨rfl, hbw4⟩
  · have hd : (unErr x == 0) = false := by simpa using hE
    have hx : x % 2 = 0 := by omega
    have hx' : (x % 2 == 0) = true := by simpa using hx
    clear ho hp d
    have hbw4 := hbw3.alloc (by omega) (.cells #[.int .i64 (uhL x), .bool (uhM x), .int .i64 (uhA x)] 32)
    by_cases hF : uhE x = 0
    · obtain ⟨q1, q2⟩ := hh hF
      rw [hF]
      clear hh
      go_wp2_with fail
      refine (head_c (uhL x) (uhA x) (uhM x) _).mono ?_
      rintro e w5 ⟨rfl, hb5⟩
      rw [q1, q2]
      have hbw5 := hbw4.trans (hb5.mono (by simp; omega))
      clear hb5 q1 q2
      go_wp2
      go_ret
      exact ⟨rfl, hbw5⟩
    · have hd' : (uhE x == 0) = false := by simpa using hF
      clear hh
      go_wp2
      go_ret
      exact ⟨rfl, hbw4⟩

set_option maxHeartbeats 1000000 in
theorem wordsHeaded_c (l a : Int) (m : Bool) (w : World) :
    Calls Try.prog 7 #[.agg #[.int .i64 l, .bool m, .int .i64 a]] w fun e w' => e = .returned (.bool true) ∧ Below w.heap.size w w' := by
  have hb1 := (Below.refl w.heap.size w).alloc (Nat.le_refl _) (.cells #[.int .i64 l, .bool m, .int .i64 a] 32)
  go_enter Try.func7, Try.ntmps7
  go_wp2_with fail
  refine (head_c l a m _).mono ?_
  rintro e w2 ⟨rfl, hb2⟩
  simp only [World.size_alloc] at hb2
  have g0 := hb2.cell (p := ⟨w.heap.size, 0, none⟩) (show w.heap.size < _ by omega)
  have g1 := hb2.cell (p := ⟨w.heap.size, 1, none⟩) (show w.heap.size < _ by omega)
  have g2 := hb2.cell (p := ⟨w.heap.size, 2, none⟩) (show w.heap.size < _ by omega)
  simp [go_sem] at g0 g1 g2
  have hs2 := hb2.size
  simp only [World.size_alloc] at hs2
  have hbw2 := hb1.trans (hb2.mono (by omega))
  clear hb1 hb2
  by_cases hE : headE l a = 0
  · obtain ⟨a1, a2, a3, a4, a5, a6⟩ := un_head l a m hE
    have hx := xor_mark l a m hE
    rw [hE]
    go_wp2_with fail
    refine (unhead_c (headW l m a) _ a1 a2).mono ?_
    rintro e w3 ⟨rfl, hb3⟩
    rw [a3, a4, a5, a6]
    rw [← hb3.cell (p := ⟨w.heap.size, 0, none⟩) (show w.heap.size < _ by omega)] at g0
    rw [← hb3.cell (p := ⟨w.heap.size, 1, none⟩) (show w.heap.size < _ by omega)] at g1
    rw [← hb3.cell (p := ⟨w.heap.size, 2, none⟩) (show w.heap.size < _ by omega)] at g2
    have hs3 := hb3.size
    have hl : w.heap.size < w3.heap.size := by omega
    have hbw3 := hbw2.trans (hb3.mono (by omega))
    clear hbw2 hb3 a1 a2 a3 a4 a5 a6 hs2 hs3
    go_wp2_with fail
    refine (head_c l a (!m) _).mono ?_
    rintro e w4 ⟨rfl, hb4⟩
    rw [hE]
    have hb4' := hb4
    simp only [World.size_alloc] at hb4
    have e0 := hb4.cell (p := ⟨w3.heap.size, 0, none⟩) (show w3.heap.size < _ by omega)
    have e1 := hb4.cell (p := ⟨w3.heap.size, 1, none⟩) (show w3.heap.size < _ by omega)
    have e2 := hb4.cell (p := ⟨w3.heap.size, 2, none⟩) (show w3.heap.size < _ by omega)
    have e3 := hb4.cell (p := ⟨w.heap.size, 0, none⟩) (show w.heap.size < _ by omega)
    have e4 := hb4.cell (p := ⟨w.heap.size, 1, none⟩) (show w.heap.size < _ by omega)
    have e5 := hb4.cell (p := ⟨w.heap.size, 2, none⟩) (show w.heap.size < _ by omega)
    have hne : ¬ w.heap.size = w3.heap.size := by omega
    have hne1 : ¬ w.heap.size = w3.heap.size + 1 := by omega
    simp [go_sem, hl, hne, hne1, g0, g1, g2] at e0 e1 e2 e3 e4 e5
    have hbw4 := ((hbw3.alloc (by omega) (.cells #[.int .i64 l, .bool m, .int .i64 a] 32)).alloc (by simp; omega) (.cells #[.int .i64 l, .bool (!m), .int .i64 a] 32)).trans (hb4'.mono (by simp; omega))
    clear hb4 hb4' hbw3 g0 g1 g2 hne hne1
    go_wp2
    go_ret
    exact ⟨by simp, hbw4⟩
  · obtain ⟨b1, b2⟩ := headE_ne l a m hE
    have hd : (headE l a != 0) = true := by simpa using hE
    simp [headOk] at b2
    rw [b1]
    by_cases c1 : l < 0
    · have d1 : decide (l < 0) = true := by simpa using c1
      clear b2
      go_wp2
      go_ret
      exact ⟨rfl, hbw2⟩
    · have d1 : decide (l < 0) = false := by simpa using c1
      by_cases c2 : 4 < l
      · have d2 : decide (4 < l) = true := by simpa using c2
        clear b2
        go_wp2
        go_ret
        exact ⟨rfl, hbw2⟩
      · have d2 : decide (4 < l) = false := by simpa using c2
        by_cases c3 : a < 0
        · have d3 : decide (a < 0) = true := by simpa using c3
          clear b2
          go_wp2
          go_ret
          exact ⟨rfl, hbw2⟩
        · have d3 : decide (a < 0) = false := by simpa using c3
          have c4 : 7 < a := by have := b2 (by omega) (by omega) (by omega); omega
          have d4 : decide (7 < a) = true := by simpa using c4
          clear b2
          go_wp2
          go_ret
          exact ⟨rfl, hbw2⟩

end Go.Proofs.Ytbedngkikkpcaaa
