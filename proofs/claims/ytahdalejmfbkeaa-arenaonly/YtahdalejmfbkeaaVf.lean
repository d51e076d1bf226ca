/- Walks: WordsBack, WordsOnly, WordsHeaded. -/
import Derived.Test.YtahdalejmfbkeaaProg
import Derived.Test.YtahdalejmfbkeaaVa
import Derived.Test.YtahdalejmfbkeaaVb
import Derived.Test.YtahdalejmfbkeaaVc
import Derived.Test.YtahdalejmfbkeaaVe
namespace Go.Proofs.Ytahdalejmfbkeaa
set_option linter.unusedSimpArgs false
set_option linter.unusedVariables false
open Go.RowKit

theorem packE_ne (r : Bool) (n : Int) (h : packE r n ≠ 0) : packW r n = 0 ∧ (r = true ∨ n < -4611686018427387904 ∨ 4611686018427387903 < n) := by
  cases r
  · simp only [packE, packW, Bool.false_eq_true, if_false] at *
    by_cases c : n < -4611686018427387904 ∨ 4611686018427387903 < n
    · rw [if_pos c]; exact ⟨rfl, Or.inr c⟩
    · rw [if_neg c] at h; exact absurd rfl h
  · simp only [packE, packW, if_true] at *
    by_cases c : n < 0 ∨ 256 ≤ n
    · rw [if_pos c]; exact ⟨rfl, by simp⟩
    · rw [if_neg c] at h; exact absurd rfl h

theorem packE_eq (r : Bool) (n : Int) (h : packE r n = 0) : 0 ≤ packW r n ∧ packW r n < 18446744073709551616 ∧ unRef (packW r n) = r ∧ unNum (packW r n) = n ∧ unErr (packW r n) = 0 := by
  cases r
  · simp only [packE, packW, Bool.false_eq_true, if_false] at *
    by_cases c : n < -4611686018427387904 ∨ 4611686018427387903 < n
    · rw [if_pos c] at h; omega
    · rw [if_neg c]
      have h2 : ¬ (2 * n + 1) % 18446744073709551616 % 2 = 0 := by omega
      refine ⟨by omega, by omega, by simp [unRef]; try omega, ?_, by simp [unErr, h2]⟩
      simp only [unNum, if_neg h2]
      split <;> omega
  · simp only [packE, packW, if_true] at *
    by_cases c : n < 0 ∨ 256 ≤ n
    · rw [if_pos c] at h; omega
    · rw [if_neg c]
      have h2 : 2 * n % 2 = 0 := by omega
      have h3 : 2 * n < 512 := by omega
      exact ⟨by omega, by omega, by simp [unRef]; omega, by simp [unNum, h3]; try omega, by simp [unErr, h3]⟩

theorem pack_un (x : Int) (h1 : 0 ≤ x) (h2 : x < 18446744073709551616) (h : unErr x = 0) : packE (unRef x) (unNum x) = 0 ∧ packW (unRef x) (unNum x) = x := by
  by_cases a : x % 2 = 0
  · by_cases b : x < 512
    · have e : unRef x = true := by simp [unRef]; omega
      have f : unNum x = x / 2 := by simp [unNum, a, b]
      rw [e, f]
      simp only [packE, packW, if_true]
      rw [if_neg (by omega), if_neg (by omega)]; omega
    · simp [unErr, a, b] at h
  · have e : unRef x = false := by simp [unRef]; omega
    rw [e]
    by_cases b : x < 9223372036854775808
    · have f : unNum x = x / 2 := by simp [unNum, a, b]
      rw [f]
      simp only [packE, packW, Bool.false_eq_true, if_false]
      rw [if_neg (by omega), if_neg (by omega)]; omega
    · have f : unNum x = x / 2 - 9223372036854775808 := by simp [unNum, a, b]
      rw [f]
      simp only [packE, packW, Bool.false_eq_true, if_false]
      rw [if_neg (by omega), if_neg (by omega)]; omega

theorem pack_inj (r s : Bool) (n m : Int) (h1 : packE r n = 0) (h2 : packE s m = 0) : (packW r n == packW s m) = ((r == s) && (n == m)) := by
  rw [Bool.eq_iff_iff]
  constructor
  · intro h
    have e : packW r n = packW s m := by simpa using h
    have a := packE_eq r n h1
    have b := packE_eq s m h2
    rw [← e, a.2.2.1, a.2.2.2.1] at b
    simp [b.2.2.1, b.2.2.2.1]
  · intro h
    simp at h
    simp [h.1, h.2]

theorem head_un (x : Int) (h1 : 0 ≤ x) (h2 : x < 18446744073709551616) (h : uhE x = 0) : headE (uhL x) (uhA x) = 0 ∧ headW (uhL x) (uhM x) (uhA x) = x := by
  have hk : unheadOk x = true := by
    cases e : unheadOk x
    · simp [uhE, e] at h
    · rfl
  have hk' := hk
  simp [unheadOk] at hk'
  obtain ⟨a, b⟩ := uh_head x h1 h2 hk'.1
  rw [mark_eq x h1] at b
  simp only [uhL, uhM, uhA, hk, if_true, Bool.true_and]
  exact ⟨a, by rw [b]; omega⟩

theorem headE_ne (l a : Int) (m : Bool) (h : headE l a ≠ 0) : headW l m a = 0 ∧ headOk l a = false := by
  cases e : headOk l a
  · simp [headW, e]
  · simp [headE, e] at h

theorem un_head (l a : Int) (m : Bool) (h : headE l a = 0) : 0 ≤ headW l m a ∧ headW l m a < 18446744073709551616 ∧ uhL (headW l m a) = l ∧ uhM (headW l m a) = m ∧ uhA (headW l m a) = a ∧ uhE (headW l m a) = 0 := by
  cases e : headOk l a
  · simp [headE, e] at h
  · have e' := e
    simp [headOk] at e'
    have hw : headW l m a = 11889503016258109440 + a * 512 + l + (if m then 256 else 0) := by simp [headW, e]
    rw [hw]
    cases m
    · simp only [Bool.false_eq_true, if_false]
      have hk : unheadOk (11889503016258109440 + a * 512 + l + 0) = true := by simp [unheadOk]; omega
      simp only [uhL, uhM, uhA, uhE, hk, if_true, Bool.true_and]
      exact ⟨by omega, by omega, by omega, by simp; try omega, by omega, trivial⟩
    · simp only [if_true]
      have hk : unheadOk (11889503016258109440 + a * 512 + l + 256) = true := by simp [unheadOk]; omega
      simp only [uhL, uhM, uhA, uhE, hk, if_true, Bool.true_and]
      exact ⟨by omega, by omega, by omega, by simp; try omega, by omega, trivial⟩

theorem xor_mark (l a : Int) (m : Bool) (h : headE l a = 0) : bits .xor .u64 (headW l m a) (headW l (!m) a) = 256 := by
  cases e : headOk l a
  · simp [headE, e] at h
  · have e' := e
    simp [headOk] at e'
    have key : ((11889503016258109440 + a * 512 + l).toNat ^^^ (11889503016258109440 + a * 512 + l + 256).toNat) = 256 := by
      have hl : l = 0 ∨ l = 1 ∨ l = 2 ∨ l = 3 ∨ l = 4 := by omega
      have ha : a = 0 ∨ a = 1 ∨ a = 2 ∨ a = 3 ∨ a = 4 ∨ a = 5 ∨ a = 6 ∨ a = 7 := by omega
      clear e e' h
      rcases hl with rfl | rfl | rfl | rfl | rfl <;> rcases ha with rfl | rfl | rfl | rfl | rfl | rfl | rfl | rfl <;> rfl
    have a1 := un_head l a m h
    have a2 := un_head l a (!m) h
    rw [u64_xor _ _ a1.1 a1.2.1 a2.1 a2.2.1]
    cases m
    · simp only [headW, e, if_true, Bool.not_false, Bool.false_eq_true, if_false, Int.add_zero]
      rw [key]; rfl
    · simp only [headW, e, if_true, Bool.not_true, Bool.false_eq_true, if_false, Int.add_zero]
      rw [Nat.xor_comm, key]; rfl

end Go.Proofs.Ytahdalejmfbkeaa
