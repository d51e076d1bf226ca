/- Merged texts: Vg Vh. -/
import Derived.Test.YtgbbcfngncofgaaProg
import Derived.Test.YtgbbcfngncofgaaFreePlaysC

/- Walks: Freed. -/
namespace Go.Proofs.Ytgbbcfngncofgaa
set_option linter.unusedSimpArgs false
set_option linter.unusedVariables false
open Go.RowKit

theorem Try.info4 : (Try.prog.info? 4).map (fun i => (i.zero, i.size, i.bytes)) = some (some (.bool false), 1, 1) := by kernel_rfl
theorem made_bools (n : Nat) : (madeCells (Value.cells (.bool false)) (n * 1)).toList = boolsV (List.replicate n false) := by
  simp only [madeCells, boolsV, Value.cells, Nat.mul_one]
  apply List.ext_getElem
  · simp
  · intro i h1 h2
    simp [Nat.mod_one]
theorem st_of {S : Nat} {pol : Int} {sc : List (Int × Int)} {k : Nat} {x : Int × Int} {c : Int} {a : Nat} {s' : St} (hx : sc[k]? = some x) (h : stepS S pol (stK S pol sc k) x = (c, a, s')) : codeK S pol sc k = c ∧ atK S pol sc k = a ∧ stK S pol sc (k + 1) = s' := by
  have hg : sc.getD k (0, 0) = x := by rw [List.getD_eq_getElem?_getD, hx]; rfl
  simp only [codeK, atK, stK, hg, h, and_self]

set_option maxRecDepth 100000 in
set_option maxHeartbeats 8000000 in
theorem freed_c (S : Nat) (pol : Int) (a : Option Addr) (c : Nat) (sc : List (Int × Int)) (w : World) (hS1 : 1 ≤ S) (hS2 : S ≤ 256) (hn : sc.length ≤ 100) (hA : Asks w.heap.size w a sc) :
    Calls Try.prog 11 #[.int .i64 (S : Nat), .int .i64 pol, .bool false, .slice a sc.length c] w fun e w' => (∃ ac cc aa ca af cf, e = .returned (.agg #[.slice ac sc.length cc, .slice aa sc.length ca, .slice af (stK S pol sc sc.length).bl.length cf]) ∧ Nums w'.heap.size w' ac (codesL S pol sc sc.length) ∧ Nums w'.heap.size w' aa (atsL S pol sc sc.length) ∧ Blks w'.heap.size w' af (stK S pol sc sc.length).bl) ∧ Below w.heap.size w w' := by
  obtain ⟨i28, hi28, hx0, hx1, hx2⟩ := info_parts Try.info28
  obtain ⟨i3, hi3, hy0, hy1, hy2⟩ := info_parts Try.info3
  obtain ⟨i4, hi4, hz0, hz1, hz2⟩ := info_parts Try.info4
  obtain ⟨w0, hw0⟩ : ∃ w0, w.alloc (.cells #[.slice none 0 0, .slice none 0 0, .slice none 0 0] 27) = w0 := ⟨_, rfl⟩
  have hb0 : Below w.heap.size w w0 := by rw [← hw0]; exact (Below.refl _ _).alloc (Nat.le_refl _) _
  have hs0 : w.heap.size < w0.heap.size := by rw [← hw0]; simp
  have Hrb : Hid (w0.heap[w.heap.size]? = some (.cells #[.slice none 0 0, .slice none 0 0, .slice none 0 0] 27)) := by show _ = _; rw [← hw0]; exact heap_alloc_new _ _
  have HA : Hid (Asks w0.heap.size w0 a sc) := (hA.below hb0).mono (by omega)
  clear hA
  go_enter Try.func11, Try.ntmps11
  go_wp2_with (at_make; go_must (refine wpList_make_full _ rfl _ _ 55 rfl w0.heap.size 4 i4 _ 1 Try.underlying55 hi4 hz0 hz1 .i64 .i64 _ _ S rfl rfl rfl rfl (by rw [hz2]; omega) (by simp only [maxLen]; omega) (Nat.le_refl _) ?_); go_must (intro w5 hown5 hg5))
  rw [made_bools] at hown5
  have hs5 := hg5.size
  have htb := (hown5.lt w0.heap.size rfl).2
  have hb5 : Below w0.heap.size w0 w5 := (Below.refl _ _).grown hg5 (Nat.le_refl _) (fun k e => by cases e)
  obtain ⟨W6, hW6⟩ : ∃ W6, (w5.alloc (.cells #[.slice (some ⟨w0.heap.size, 0, none⟩) S S, .slice none 0 0, .slice none 0 0, .int .i64 0] 57)).alloc (.cells #[.slice none 0 0, .slice none 0 0, .slice none 0 0] 27) = W6 := ⟨_, rfl⟩
  have HI : Hid (Fh w0 W6 w0.heap.size w5.heap.size w0.heap.size (w5.heap.size + 1) S (startS S) 0 [] []) := by
    have hba : Below w5.heap.size w5 (w5.alloc (.cells #[.slice (some ⟨w0.heap.size, 0, none⟩) S S, .slice none 0 0, .slice none 0 0, .int .i64 0] 57)) := (Below.refl _ _).alloc (Nat.le_refl _) _
    have hY : Ym (w5.alloc (.cells #[.slice (some ⟨w0.heap.size, 0, none⟩) S S, .slice none 0 0, .slice none 0 0, .int .i64 0] 57)) w0.heap.size w5.heap.size w0.heap.size (.slice none 0 0) (.slice none 0 0) S (List.replicate S false) [] [] 0 :=
      ⟨heap_alloc_new _ _, ownsRow_below hown5 hba, World.ownsRow_nil _ _ _ _, World.ownsRow_nil _ _ _ _, fun k h => (by cases h), hs5⟩
    have hbb := (Below.refl (w5.alloc (.cells #[.slice (some ⟨w0.heap.size, 0, none⟩) S S, .slice none 0 0, .slice none 0 0, .int .i64 0] 57)).heap.size (w5.alloc (.cells #[.slice (some ⟨w0.heap.size, 0, none⟩) S S, .slice none 0 0, .slice none 0 0, .int .i64 0] 57))).alloc (Nat.le_refl _) (.cells #[.slice none 0 0, .slice none 0 0, .slice none 0 0] 27)
    rw [← hW6]
    refine ⟨_, _, .slice none 0 0, .slice none 0 0, _, _, _, hY.below hbb, yd_start, ⟨?_, World.ownsRow_nil _ _ _ _, World.ownsRow_nil _ _ _ _, by omega⟩, fun j h => (by cases h), Nat.le_refl _, ?_⟩
    · have := heap_alloc_new (w5.alloc (.cells #[.slice (some ⟨w0.heap.size, 0, none⟩) S S, .slice none 0 0, .slice none 0 0, .int .i64 0] 57)) (.cells #[.slice none 0 0, .slice none 0 0, .slice none 0 0] 27)
      simpa using this
    · exact (hb5.alloc hs5 _).alloc (by simp; omega) _
  subst hW6
  go_wp2
  generalize hyb : w5.heap.size = yb at *
  generalize hN : w0.heap.size = N at *
  have HN := hide hN
  clear hown5 hg5 hb5 hN hyb hs5 htb hi4 hz0 hz1 hz2
  go_loopw [24] (fun i wr => ∃ k : Nat, k ≤ sc.length ∧ i = .int .i64 k ∧ Hid (Fh w0 wr N yb N (yb + 1) S (stK S pol sc k) k (codesL S pol sc k) (atsL S pol sc k))) (fun i _ => sc.length - (intOf i).toNat)
  case atStart => exact ⟨0, Nat.zero_le _, rfl, HI⟩
  case round =>
    clear HI
    obtain ⟨k, hk, rfl, HI⟩ := hrel
    by_cases hlt : k < sc.length
    · obtain ⟨q, m, hx⟩ : ∃ q m, sc[k]? = some (q, m) := ⟨sc[k].1, sc[k].2, List.getElem?_eq_getElem hlt⟩
      have hO := hide (ok_stK hS1 pol sc k)
      obtain ⟨va, vl, vc, vt, T, P, L, hY, hD, hT, hSp, hP, hB⟩ := unhide HI
      have hNr : N ≤ wr.heap.size := by have := hY.lo; have := hY.lt; omega
      obtain ⟨b, off, rfl, hbB, x0, x1⟩ := ((unhide HA).below hB).at hx
      have hbr : b < wr.heap.size := by omega
      have hkI : (k : Int) < (sc.length : Int) := by omega
      obtain ⟨W3, hW3⟩ : ∃ W3, wr.alloc (.cells #[.int .i64 q, .int .i64 m] 38) = W3 := ⟨_, rfl⟩
      have hb3 : Below wr.heap.size wr W3 := by rw [← hW3]; exact (Below.refl _ _).alloc (Nat.le_refl _) _
      have hm1 : wr.heap.size < W3.heap.size := by rw [← hW3]; simp
      have g0 : W3.cell? ⟨wr.heap.size, 0, none⟩ = some (.int .i64 q) := by rw [← hW3]; simp [go_sem]
      have g1 : W3.cell? ⟨wr.heap.size, 1, none⟩ = some (.int .i64 m) := by rw [← hW3]; simp [go_sem]
      have H3 : Hid (Fh w0 W3 N yb N (yb + 1) S (stK S pol sc k) k (codesL S pol sc k) (atsL S pol sc k)) := (unhide HI).below hb3
      have HCs := hide (codesL_succ S pol sc k)
      have HAs := hide (atsL_succ S pol sc k)
      have HCl := hide (codesL_len S pol sc k)
      have HAl := hide (atsL_len S pol sc k)
      have HY3 := hide (hY.below hb3)
      have HT3 := hide (hT.below hb3)
      have HB3 := hide (hB.trans (hb3.mono hNr))
      have HD := hide hD
      have HSp := hide hSp
      have Hx := hide hx
      clear hY hD hT hSp hB hx HI
      by_cases hq1 : q = 1
      · subst hq1
        by_cases hb : m < 1
        · have hst := st_of (unhide Hx) (show stepS S pol (stK S pol sc k) _ = (3, 0, stK S pol sc k) from by unfold stepS; rw [if_pos rfl, if_pos (.inl hb)])
          have HE : Hid (codeK S pol sc k = 3 ∧ ((atK S pol sc k : Nat) : Int) = 0) := ⟨hst.1, by rw [hst.2.1]; rfl⟩
          have H5 : Hid (Fh w0 W3 N yb N (yb + 1) S (stK S pol sc (k + 1)) (k + 1) (codesL S pol sc k) (atsL S pol sc k)) := by show Fh _ _ _ _ _ _ _ _ _ _ _; rw [hst.2.2]; exact (unhide H3).more (by omega)
          have d1 : decide (m < 1) = true := decide_eq_true hb
          clear hst H3 HY3 HT3 HB3 HD HSp hO
          obtain ⟨w5, hw5⟩ : ∃ w5, w5 = W3 := ⟨W3, rfl⟩
          subst hw5
          obtain ⟨va5, vl5, vc5, vt5, T5, P5, L5, hY5, hD5, hT5, hSp5, hP5, hB5⟩ := unhide H5
          obtain ⟨ac, cc, hvc⟩ := ownsRow_slice hT5.rc
          obtain ⟨at5, ct, hvt⟩ := ownsRow_slice hT5.ra
          rw [unhide HCl] at hvc
          rw [unhide HAl] at hvt
          subst hvc hvt
          have t0 := hT5.c0
          have tf0 := hT5.fr 0
          have tlt := hT5.lt
          have hN5 : N ≤ w5.heap.size := by have := hY5.lo; have := hY5.lt; omega
          have hoN := hT5.lo
          have hrc := hT5.rc
          rw [unhide HCl] at hrc
          have HT5 := hide hT5
          have HY5 := hide hY5
          have HSp5 := hide hSp5
          have HB5 := hide hB5
          have HD5 := hide hD5
          clear hT5 hY5 hSp5 hB5 hD5 H5
          go_wp2_with (first
            | (at_builtin; refine wpList_append_own_at _ rfl _ _ 23 rfl N 28 i28 _ 1 8 Try.underlying23 hi28 hx0 hx1 hx2 rfl (by decide) _ _ _ rfl (hrc.alloc _) ⟨w5.heap.size, 0, none⟩ 1 1 [.int .i64 3] rfl rfl (cell_one_at _ _ _ _ rfl) (by simp [Value.oneCell']) (by simp only [maxLen]; omega) (by omega) (by simp; omega) ?_; go_must (intro v7 w7 hrow7 hg7 _ hat7; obtain ⟨g7, c7, hv7⟩ := ownsRow_succ hrow7; subst hv7; have hb55 : Below w5.heap.size w5 (w5.alloc (.cells #[.int .i64 3] 28)) := (Below.refl _ _).alloc (Nat.le_refl _) _; obtain ⟨hbx7, hY7, hT7⟩ := told_C (x := 3) ((unhide HY5).below hb55) ((unhide HT5).below hb55) (by rw [unhide HCl]; exact hrow7) hg7; have hq0 := cell27_0 hbx7; have hq2 := cell27_1 hbx7; have hqf := frozen_of_row w7 _ 0 _ 27 hbx7; have hq1 : yb + 1 < w7.heap.size := (Array.getElem?_eq_some_iff.1 hbx7).1; have hra := hT7.ra; rw [unhide HAl] at hra; have Hrc5 := hide hrc; have Hg7 := hide hg7; have hs7 := hg7.size; have HT7 := hide hT7; have HY7 := hide hY7; clear hT7 hY7 hrow7 hg7 hbx7 hrc hat7))
            | (at_builtin; refine wpList_append_own_at _ rfl _ _ 24 rfl N 3 i3 _ 1 8 Try.underlying24 hi3 hy0 hy1 hy2 rfl (by decide) _ _ _ rfl (hra.alloc _) ⟨w7.heap.size, 0, none⟩ 1 1 [.int .i64 0] rfl rfl (cell_one_at _ _ _ _ (by simp [World.setCell])) (by simp [Value.oneCell']) (by simp only [maxLen]; omega) (by omega) (by simp [World.setCell] at hs7 ⊢; omega) ?_; go_must (intro v9 w9 hrow9 hg9 _ hat9; obtain ⟨g9, c9, hv9⟩ := ownsRow_succ hrow9; subst hv9; have hb88 := (Below.refl (w7.setCell ⟨yb + 1, 0, none⟩ (.slice (some ⟨g7, 0, none⟩) (k + 1) c7)).heap.size (w7.setCell ⟨yb + 1, 0, none⟩ (.slice (some ⟨g7, 0, none⟩) (k + 1) c7))).alloc (Nat.le_refl _) (.cells #[.int .i64 0] 3); obtain ⟨hbx9, hY9, hT9, hSp9⟩ := told_A (x := 0) ((unhide HY7).below hb88) ((unhide HT7).below hb88) (unhide HSp5) (by rw [unhide HAl]; exact hrow9) hg9 hat9; have hu1 := cell27_1 hbx9; have huf := frozen_of_row w9 _ 1 _ 27 hbx9; have hu2 : yb + 1 < w9.heap.size := (Array.getElem?_eq_some_iff.1 hbx9).1; have Hfin : Hid (Fh w0 (w9.setCell ⟨yb + 1, 1, none⟩ (.slice (some ⟨g9, 0, none⟩) (k + 1) c9)) N yb N (yb + 1) S (stK S pol sc (k + 1)) (k + 1) (codesL S pol sc (k + 1)) (atsL S pol sc (k + 1))) := ⟨_, _, _, _, _, _, _, hY9, unhide HD5, by rw [unhide HCs, unhide HAs, (unhide HE).1, (unhide HE).2]; exact hT9, hSp9, hP5, ((((((unhide HB5).alloc hN5 _).grown (unhide Hg7) (by simp; omega) (fun x e => ((unhide Hrc5).lt x e).1)).setCell (p := ⟨yb + 1, 0, none⟩) hoN _).alloc (by simp [World.setCell] at hs7 ⊢; omega) _).grown hg9 (by simp [World.setCell] at hs7 ⊢; omega) (fun x e => (hra.lt x e).1)).setCell (p := ⟨yb + 1, 1, none⟩) hoN _⟩; clear hT9 hY9 hrow9 hg9 hbx9 hat9 hb88)))
          go_roundw
          case rel => exact ⟨k + 1, by omega, by go_num, Hfin⟩
          case measure => simp [intOf]; omega
        · by_cases hb2 : (S : Int) < m
          · have hst := st_of (unhide Hx) (show stepS S pol (stK S pol sc k) _ = (3, 0, stK S pol sc k) from by unfold stepS; rw [if_pos rfl, if_pos (.inr hb2)])
            have HE : Hid (codeK S pol sc k = 3 ∧ ((atK S pol sc k : Nat) : Int) = 0) := ⟨hst.1, by rw [hst.2.1]; rfl⟩
            have H5 : Hid (Fh w0 W3 N yb N (yb + 1) S (stK S pol sc (k + 1)) (k + 1) (codesL S pol sc k) (atsL S pol sc k)) := by show Fh _ _ _ _ _ _ _ _ _ _ _; rw [hst.2.2]; exact (unhide H3).more (by omega)
            have d1 : decide (m < 1) = false := decide_eq_false hb
            have d2 : decide ((S : Int) < m) = true := decide_eq_true hb2
            clear hst H3 HY3 HT3 HB3 HD HSp hO
            obtain ⟨w5, hw5⟩ : ∃ w5, w5 = W3 := ⟨W3, rfl⟩
            subst hw5
            obtain ⟨va5, vl5, vc5, vt5, T5, P5, L5, hY5, hD5, hT5, hSp5, hP5, hB5⟩ := unhide H5
            obtain ⟨ac, cc, hvc⟩ := ownsRow_slice hT5.rc
            obtain ⟨at5, ct, hvt⟩ := ownsRow_slice hT5.ra
            rw [unhide HCl] at hvc
            rw [unhide HAl] at hvt
            subst hvc hvt
            have t0 := hT5.c0
            have tf0 := hT5.fr 0
            have tlt := hT5.lt
            have hN5 : N ≤ w5.heap.size := by have := hY5.lo; have := hY5.lt; omega
            have hoN := hT5.lo
            have hrc := hT5.rc
            rw [unhide HCl] at hrc
            have HT5 := hide hT5
            have HY5 := hide hY5
            have HSp5 := hide hSp5
            have HB5 := hide hB5
            have HD5 := hide hD5
            clear hT5 hY5 hSp5 hB5 hD5 H5
            go_wp2_with (first
              | (at_builtin; refine wpList_append_own_at _ rfl _ _ 23 rfl N 28 i28 _ 1 8 Try.underlying23 hi28 hx0 hx1 hx2 rfl (by decide) _ _ _ rfl (hrc.alloc _) ⟨w5.heap.size, 0, none⟩ 1 1 [.int .i64 3] rfl rfl (cell_one_at _ _ _ _ rfl) (by simp [Value.oneCell']) (by simp only [maxLen]; omega) (by omega) (by simp; omega) ?_; go_must (intro v7 w7 hrow7 hg7 _ hat7; obtain ⟨g7, c7, hv7⟩ := ownsRow_succ hrow7; subst hv7; have hb55 : Below w5.heap.size w5 (w5.alloc (.cells #[.int .i64 3] 28)) := (Below.refl _ _).alloc (Nat.le_refl _) _; obtain ⟨hbx7, hY7, hT7⟩ := told_C (x := 3) ((unhide HY5).below hb55) ((unhide HT5).below hb55) (by rw [unhide HCl]; exact hrow7) hg7; have hq0 := cell27_0 hbx7; have hq2 := cell27_1 hbx7; have hqf := frozen_of_row w7 _ 0 _ 27 hbx7; have hq1 : yb + 1 < w7.heap.size := (Array.getElem?_eq_some_iff.1 hbx7).1; have hra := hT7.ra; rw [unhide HAl] at hra; have Hrc5 := hide hrc; have Hg7 := hide hg7; have hs7 := hg7.size; have HT7 := hide hT7; have HY7 := hide hY7; clear hT7 hY7 hrow7 hg7 hbx7 hrc hat7))
              | (at_builtin; refine wpList_append_own_at _ rfl _ _ 24 rfl N 3 i3 _ 1 8 Try.underlying24 hi3 hy0 hy1 hy2 rfl (by decide) _ _ _ rfl (hra.alloc _) ⟨w7.heap.size, 0, none⟩ 1 1 [.int .i64 0] rfl rfl (cell_one_at _ _ _ _ (by simp [World.setCell])) (by simp [Value.oneCell']) (by simp only [maxLen]; omega) (by omega) (by simp [World.setCell] at hs7 ⊢; omega) ?_; go_must (intro v9 w9 hrow9 hg9 _ hat9; obtain ⟨g9, c9, hv9⟩ := ownsRow_succ hrow9; subst hv9; have hb88 := (Below.refl (w7.setCell ⟨yb + 1, 0, none⟩ (.slice (some ⟨g7, 0, none⟩) (k + 1) c7)).heap.size (w7.setCell ⟨yb + 1, 0, none⟩ (.slice (some ⟨g7, 0, none⟩) (k + 1) c7))).alloc (Nat.le_refl _) (.cells #[.int .i64 0] 3); obtain ⟨hbx9, hY9, hT9, hSp9⟩ := told_A (x := 0) ((unhide HY7).below hb88) ((unhide HT7).below hb88) (unhide HSp5) (by rw [unhide HAl]; exact hrow9) hg9 hat9; have hu1 := cell27_1 hbx9; have huf := frozen_of_row w9 _ 1 _ 27 hbx9; have hu2 : yb + 1 < w9.heap.size := (Array.getElem?_eq_some_iff.1 hbx9).1; have Hfin : Hid (Fh w0 (w9.setCell ⟨yb + 1, 1, none⟩ (.slice (some ⟨g9, 0, none⟩) (k + 1) c9)) N yb N (yb + 1) S (stK S pol sc (k + 1)) (k + 1) (codesL S pol sc (k + 1)) (atsL S pol sc (k + 1))) := ⟨_, _, _, _, _, _, _, hY9, unhide HD5, by rw [unhide HCs, unhide HAs, (unhide HE).1, (unhide HE).2]; exact hT9, hSp9, hP5, ((((((unhide HB5).alloc hN5 _).grown (unhide Hg7) (by simp; omega) (fun x e => ((unhide Hrc5).lt x e).1)).setCell (p := ⟨yb + 1, 0, none⟩) hoN _).alloc (by simp [World.setCell] at hs7 ⊢; omega) _).grown hg9 (by simp [World.setCell] at hs7 ⊢; omega) (fun x e => (hra.lt x e).1)).setCell (p := ⟨yb + 1, 1, none⟩) hoN _⟩; clear hT9 hY9 hrow9 hg9 hbx9 hat9 hb88)))
            go_roundw
            case rel => exact ⟨k + 1, by omega, by go_num, Hfin⟩
            case measure => simp [intOf]; omega
          · obtain ⟨n, rfl⟩ : ∃ n : Nat, m = (n : Int) := ⟨m.toNat, by omega⟩
            have hn1 : 1 ≤ n := by omega
            have d1 : decide (n < 1) = false := decide_eq_false (by omega)
            have d1' : decide ((n : Int) < 1) = false := decide_eq_false (by omega)
            have d2 : decide ((S : Int) < (n : Int)) = false := decide_eq_false hb2
            have Hc := hide (choose_c W3 N yb N va vl S T P L _ (unhide HY3) hS2 n hn1 pol)
            rw [(unhide HD).bl (unhide hO)] at Hc
            cases ho : findK (pref pol (stK S pol sc k).en) n (stK S pol sc k).bl (stK S pol sc k).bl.length with
            | none =>
              rw [ho] at Hc
              have hst := st_of (unhide Hx) (show stepS S pol (stK S pol sc k) _ = (6, 0, stK S pol sc k) from by unfold stepS; rw [if_pos rfl, if_neg (by simp only; omega)]; simp only [Int.toNat_natCast, ho])
              have HE : Hid (codeK S pol sc k = 6 ∧ ((atK S pol sc k : Nat) : Int) = 0) := ⟨hst.1, by rw [hst.2.1]; rfl⟩
              have Hst := hide hst.2.2
              simp only [bsA] at Hc
              clear hst HY3 HT3 HSp HB3 HD hO ho
              go_wp2_with fail
              refine (unhide Hc).mono ?_
              rintro e w5 ⟨rfl, hbn⟩
              have H5 : Hid (Fh w0 w5 N yb N (yb + 1) S (stK S pol sc (k + 1)) (k + 1) (codesL S pol sc k) (atsL S pol sc k)) := by
                show Fh _ _ _ _ _ _ _ _ _ _ _
                rw [unhide Hst]
                exact ((unhide H3).below hbn).more (by omega)
              clear Hc g0 g1 H3 hbn Hst
              obtain ⟨va5, vl5, vc5, vt5, T5, P5, L5, hY5, hD5, hT5, hSp5, hP5, hB5⟩ := unhide H5
              obtain ⟨ac, cc, hvc⟩ := ownsRow_slice hT5.rc
              obtain ⟨at5, ct, hvt⟩ := ownsRow_slice hT5.ra
              rw [unhide HCl] at hvc
              rw [unhide HAl] at hvt
              subst hvc hvt
              have t0 := hT5.c0
              have tf0 := hT5.fr 0
              have tlt := hT5.lt
              have hN5 : N ≤ w5.heap.size := by have := hY5.lo; have := hY5.lt; omega
              have hoN := hT5.lo
              have hrc := hT5.rc
              rw [unhide HCl] at hrc
              have HT5 := hide hT5
              have HY5 := hide hY5
              have HSp5 := hide hSp5
              have HB5 := hide hB5
              have HD5 := hide hD5
              clear hT5 hY5 hSp5 hB5 hD5 H5
              go_wp2_with (first
                | (at_builtin; refine wpList_append_own_at _ rfl _ _ 23 rfl N 28 i28 _ 1 8 Try.underlying23 hi28 hx0 hx1 hx2 rfl (by decide) _ _ _ rfl (hrc.alloc _) ⟨w5.heap.size, 0, none⟩ 1 1 [.int .i64 6] rfl rfl (cell_one_at _ _ _ _ rfl) (by simp [Value.oneCell']) (by simp only [maxLen]; omega) (by omega) (by simp; omega) ?_; go_must (intro v7 w7 hrow7 hg7 _ hat7; obtain ⟨g7, c7, hv7⟩ := ownsRow_succ hrow7; subst hv7; have hb55 : Below w5.heap.size w5 (w5.alloc (.cells #[.int .i64 6] 28)) := (Below.refl _ _).alloc (Nat.le_refl _) _; obtain ⟨hbx7, hY7, hT7⟩ := told_C (x := 6) ((unhide HY5).below hb55) ((unhide HT5).below hb55) (by rw [unhide HCl]; exact hrow7) hg7; have hq0 := cell27_0 hbx7; have hq2 := cell27_1 hbx7; have hqf := frozen_of_row w7 _ 0 _ 27 hbx7; have hq1 : yb + 1 < w7.heap.size := (Array.getElem?_eq_some_iff.1 hbx7).1; have hra := hT7.ra; rw [unhide HAl] at hra; have Hrc5 := hide hrc; have Hg7 := hide hg7; have hs7 := hg7.size; have HT7 := hide hT7; have HY7 := hide hY7; clear hT7 hY7 hrow7 hg7 hbx7 hrc hat7))
                | (at_builtin; refine wpList_append_own_at _ rfl _ _ 24 rfl N 3 i3 _ 1 8 Try.underlying24 hi3 hy0 hy1 hy2 rfl (by decide) _ _ _ rfl (hra.alloc _) ⟨w7.heap.size, 0, none⟩ 1 1 [.int .i64 0] rfl rfl (cell_one_at _ _ _ _ (by simp [World.setCell])) (by simp [Value.oneCell']) (by simp only [maxLen]; omega) (by omega) (by simp [World.setCell] at hs7 ⊢; omega) ?_; go_must (intro v9 w9 hrow9 hg9 _ hat9; obtain ⟨g9, c9, hv9⟩ := ownsRow_succ hrow9; subst hv9; have hb88 := (Below.refl (w7.setCell ⟨yb + 1, 0, none⟩ (.slice (some ⟨g7, 0, none⟩) (k + 1) c7)).heap.size (w7.setCell ⟨yb + 1, 0, none⟩ (.slice (some ⟨g7, 0, none⟩) (k + 1) c7))).alloc (Nat.le_refl _) (.cells #[.int .i64 0] 3); obtain ⟨hbx9, hY9, hT9, hSp9⟩ := told_A (x := 0) ((unhide HY7).below hb88) ((unhide HT7).below hb88) (unhide HSp5) (by rw [unhide HAl]; exact hrow9) hg9 hat9; have hu1 := cell27_1 hbx9; have huf := frozen_of_row w9 _ 1 _ 27 hbx9; have hu2 : yb + 1 < w9.heap.size := (Array.getElem?_eq_some_iff.1 hbx9).1; have Hfin : Hid (Fh w0 (w9.setCell ⟨yb + 1, 1, none⟩ (.slice (some ⟨g9, 0, none⟩) (k + 1) c9)) N yb N (yb + 1) S (stK S pol sc (k + 1)) (k + 1) (codesL S pol sc (k + 1)) (atsL S pol sc (k + 1))) := ⟨_, _, _, _, _, _, _, hY9, unhide HD5, by rw [unhide HCs, unhide HAs, (unhide HE).1, (unhide HE).2]; exact hT9, hSp9, hP5, ((((((unhide HB5).alloc hN5 _).grown (unhide Hg7) (by simp; omega) (fun x e => ((unhide Hrc5).lt x e).1)).setCell (p := ⟨yb + 1, 0, none⟩) hoN _).alloc (by simp [World.setCell] at hs7 ⊢; omega) _).grown hg9 (by simp [World.setCell] at hs7 ⊢; omega) (fun x e => (hra.lt x e).1)).setCell (p := ⟨yb + 1, 1, none⟩) hoN _⟩; clear hT9 hY9 hrow9 hg9 hbx9 hat9 hb88)))
              go_roundw
              case rel => exact ⟨k + 1, by omega, by go_num, Hfin⟩
              case measure => simp [intOf]; omega
            | some f =>
              rw [ho] at Hc
              obtain ⟨hf1, hf2⟩ := findK_some ho
              obtain ⟨p, z, hfx⟩ : ∃ p z, (stK S pol sc k).bl[f]? = some (p, z) := ⟨_, _, List.getElem?_eq_getElem hf1⟩
              have hgf : (stK S pol sc k).bl.getD f (0, 0) = (p, z) := by rw [List.getD_eq_getElem?_getD, hfx]; rfl
              rw [hgf] at hf2
              have hst := st_of (unhide Hx) (show stepS S pol (stK S pol sc k) _ = (0, p, ⟨cutB (stK S pol sc k).bl f n, updT (stK S pol sc k).tk (p : Nat) (some n), p + n⟩) from by unfold stepS; rw [if_pos rfl, if_neg (by simp only; omega)]; simp only [Int.toNat_natCast, ho, hgf])
              have HE : Hid (codeK S pol sc k = 0 ∧ ((atK S pol sc k : Nat) : Int) = (p : Nat)) := ⟨hst.1, by rw [hst.2.1]⟩
              obtain ⟨f1, f2⟩ := (unhide HD).take (unhide hO) hfx hn1 hf2 (p + n)
              simp only at f1 f2
              have Hst := hide hst.2.2
              have Hf2 := hide f2
              have hPL := (unhide HD).pl
              simp only [bsA, hgf] at Hc
              clear hst f2 HD hO ho hgf hfx
              go_wp2_with fail
              refine (unhide Hc).mono ?_
              rintro e w4 ⟨rfl, hbn⟩
              have hs4 := hbn.size
              have Hd := hide (ytake_c w4 N yb N va vl S T P L _ ((unhide HY3).below hbn) (by omega) p n f1 hS2 (by omega) (by omega))
              have HY4 := hide ((unhide HY3).below hbn)
              have HT4 := hide ((unhide HT3).below hbn)
              have HB4 := hide ((unhide HB3).trans (hbn.mono (by omega)))
              clear Hc g0 g1 HY3 HT3 HB3 hbn
              go_wp2_with fail
              refine (unhide Hd).mono ?_
              rintro e w5 ⟨rfl, va', vl', hYn, hfr⟩
              have H5 : Hid (Fh w0 w5 N yb N (yb + 1) S (stK S pol sc (k + 1)) (k + 1) (codesL S pol sc k) (atsL S pol sc k)) := by
                show Fh _ _ _ _ _ _ _ _ _ _ _
                rw [unhide Hst]
                obtain ⟨hTn, hSn⟩ := told_yfr (unhide HY4) (unhide HT4) (unhide HSp) hfr
                exact ⟨_, _, _, _, _, _, _, hYn, unhide Hf2, hTn, hSn, by rw [List.length_append]; simp; omega, (unhide HB4).trans hfr.bel⟩
              clear Hd HY4 HT4 HSp HB4 hYn hfr Hf2 Hst H3
              obtain ⟨va5, vl5, vc5, vt5, T5, P5, L5, hY5, hD5, hT5, hSp5, hP5, hB5⟩ := unhide H5
              obtain ⟨ac, cc, hvc⟩ := ownsRow_slice hT5.rc
              obtain ⟨at5, ct, hvt⟩ := ownsRow_slice hT5.ra
              rw [unhide HCl] at hvc
              rw [unhide HAl] at hvt
              subst hvc hvt
              have t0 := hT5.c0
              have tf0 := hT5.fr 0
              have tlt := hT5.lt
              have hN5 : N ≤ w5.heap.size := by have := hY5.lo; have := hY5.lt; omega
              have hoN := hT5.lo
              have hrc := hT5.rc
              rw [unhide HCl] at hrc
              have HT5 := hide hT5
              have HY5 := hide hY5
              have HSp5 := hide hSp5
              have HB5 := hide hB5
              have HD5 := hide hD5
              clear hT5 hY5 hSp5 hB5 hD5 H5
              go_wp2_with (first
                | (at_builtin; refine wpList_append_own_at _ rfl _ _ 23 rfl N 28 i28 _ 1 8 Try.underlying23 hi28 hx0 hx1 hx2 rfl (by decide) _ _ _ rfl (hrc.alloc _) ⟨w5.heap.size, 0, none⟩ 1 1 [.int .i64 0] rfl rfl (cell_one_at _ _ _ _ rfl) (by simp [Value.oneCell']) (by simp only [maxLen]; omega) (by omega) (by simp; omega) ?_; go_must (intro v7 w7 hrow7 hg7 _ hat7; obtain ⟨g7, c7, hv7⟩ := ownsRow_succ hrow7; subst hv7; have hb55 : Below w5.heap.size w5 (w5.alloc (.cells #[.int .i64 0] 28)) := (Below.refl _ _).alloc (Nat.le_refl _) _; obtain ⟨hbx7, hY7, hT7⟩ := told_C (x := 0) ((unhide HY5).below hb55) ((unhide HT5).below hb55) (by rw [unhide HCl]; exact hrow7) hg7; have hq0 := cell27_0 hbx7; have hq2 := cell27_1 hbx7; have hqf := frozen_of_row w7 _ 0 _ 27 hbx7; have hq1 : yb + 1 < w7.heap.size := (Array.getElem?_eq_some_iff.1 hbx7).1; have hra := hT7.ra; rw [unhide HAl] at hra; have Hrc5 := hide hrc; have Hg7 := hide hg7; have hs7 := hg7.size; have HT7 := hide hT7; have HY7 := hide hY7; clear hT7 hY7 hrow7 hg7 hbx7 hrc hat7))
                | (at_builtin; refine wpList_append_own_at _ rfl _ _ 24 rfl N 3 i3 _ 1 8 Try.underlying24 hi3 hy0 hy1 hy2 rfl (by decide) _ _ _ rfl (hra.alloc _) ⟨w7.heap.size, 0, none⟩ 1 1 [.int .i64 (p : Nat)] rfl rfl (cell_one_at _ _ _ _ (by simp [World.setCell])) (by simp [Value.oneCell']) (by simp only [maxLen]; omega) (by omega) (by simp [World.setCell] at hs7 ⊢; omega) ?_; go_must (intro v9 w9 hrow9 hg9 _ hat9; obtain ⟨g9, c9, hv9⟩ := ownsRow_succ hrow9; subst hv9; have hb88 := (Below.refl (w7.setCell ⟨yb + 1, 0, none⟩ (.slice (some ⟨g7, 0, none⟩) (k + 1) c7)).heap.size (w7.setCell ⟨yb + 1, 0, none⟩ (.slice (some ⟨g7, 0, none⟩) (k + 1) c7))).alloc (Nat.le_refl _) (.cells #[.int .i64 (p : Nat)] 3); obtain ⟨hbx9, hY9, hT9, hSp9⟩ := told_A (x := (p : Nat)) ((unhide HY7).below hb88) ((unhide HT7).below hb88) (unhide HSp5) (by rw [unhide HAl]; exact hrow9) hg9 hat9; have hu1 := cell27_1 hbx9; have huf := frozen_of_row w9 _ 1 _ 27 hbx9; have hu2 : yb + 1 < w9.heap.size := (Array.getElem?_eq_some_iff.1 hbx9).1; have Hfin : Hid (Fh w0 (w9.setCell ⟨yb + 1, 1, none⟩ (.slice (some ⟨g9, 0, none⟩) (k + 1) c9)) N yb N (yb + 1) S (stK S pol sc (k + 1)) (k + 1) (codesL S pol sc (k + 1)) (atsL S pol sc (k + 1))) := ⟨_, _, _, _, _, _, _, hY9, unhide HD5, by rw [unhide HCs, unhide HAs, (unhide HE).1, (unhide HE).2]; exact hT9, hSp9, hP5, ((((((unhide HB5).alloc hN5 _).grown (unhide Hg7) (by simp; omega) (fun x e => ((unhide Hrc5).lt x e).1)).setCell (p := ⟨yb + 1, 0, none⟩) hoN _).alloc (by simp [World.setCell] at hs7 ⊢; omega) _).grown hg9 (by simp [World.setCell] at hs7 ⊢; omega) (fun x e => (hra.lt x e).1)).setCell (p := ⟨yb + 1, 1, none⟩) hoN _⟩; clear hT9 hY9 hrow9 hg9 hbx9 hat9 hb88)))
              go_roundw
              case rel => exact ⟨k + 1, by omega, by go_num, Hfin⟩
              case measure => simp [intOf]; omega
      · by_cases hq2 : q = 2
        · subst hq2
          cases htk : (stK S pol sc k).tk m with
          | none =>
            by_cases hm0 : 0 ≤ m
            · have hst := st_of (unhide Hx) (show stepS S pol (stK S pol sc k) _ = (2, 0, stK S pol sc k) from by unfold stepS; rw [if_neg (show ¬ (2 : Int) = 1 by decide), if_pos rfl]; simp only [htk])
              have HE : Hid (codeK S pol sc k = 2 ∧ ((atK S pol sc k : Nat) : Int) = 0) := ⟨hst.1, by rw [hst.2.1]; rfl⟩
              have H5' : Hid (Fh w0 W3 N yb N (yb + 1) S (stK S pol sc (k + 1)) (k + 1) (codesL S pol sc k) (atsL S pol sc k)) := by show Fh _ _ _ _ _ _ _ _ _ _ _; rw [hst.2.2]; exact (unhide H3).more (by omega)
              have d1 : decide (0 ≤ m) = true := decide_eq_true hm0
              have Hc := hide (ygive_no W3 N yb N va vl S T P L _ (unhide HY3) (by omega) m (fun i hi => by obtain ⟨n, h1, _⟩ := (unhide HD).to i m hi hm0; rw [htk] at h1; cases h1))
              clear hst H3 HT3 HB3 HD HSp hO HY3 htk
              go_wp2_with fail
              refine (unhide Hc).mono ?_
              rintro e w5 ⟨rfl, rfl⟩
              have H5 := hide (unhide H5')
              clear Hc H5' g0 g1
              obtain ⟨va5, vl5, vc5, vt5, T5, P5, L5, hY5, hD5, hT5, hSp5, hP5, hB5⟩ := unhide H5
              obtain ⟨ac, cc, hvc⟩ := ownsRow_slice hT5.rc
              obtain ⟨at5, ct, hvt⟩ := ownsRow_slice hT5.ra
              rw [unhide HCl] at hvc
              rw [unhide HAl] at hvt
              subst hvc hvt
              have t0 := hT5.c0
              have tf0 := hT5.fr 0
              have tlt := hT5.lt
              have hN5 : N ≤ w5.heap.size := by have := hY5.lo; have := hY5.lt; omega
              have hoN := hT5.lo
              have hrc := hT5.rc
              rw [unhide HCl] at hrc
              have HT5 := hide hT5
              have HY5 := hide hY5
              have HSp5 := hide hSp5
              have HB5 := hide hB5
              have HD5 := hide hD5
              clear hT5 hY5 hSp5 hB5 hD5 H5
              go_wp2_with (first
                | (at_builtin; refine wpList_append_own_at _ rfl _ _ 23 rfl N 28 i28 _ 1 8 Try.underlying23 hi28 hx0 hx1 hx2 rfl (by decide) _ _ _ rfl (hrc.alloc _) ⟨w5.heap.size, 0, none⟩ 1 1 [.int .i64 2] rfl rfl (cell_one_at _ _ _ _ rfl) (by simp [Value.oneCell']) (by simp only [maxLen]; omega) (by omega) (by simp; omega) ?_; go_must (intro v7 w7 hrow7 hg7 _ hat7; obtain ⟨g7, c7, hv7⟩ := ownsRow_succ hrow7; subst hv7; have hb55 : Below w5.heap.size w5 (w5.alloc (.cells #[.int .i64 2] 28)) := (Below.refl _ _).alloc (Nat.le_refl _) _; obtain ⟨hbx7, hY7, hT7⟩ := told_C (x := 2) ((unhide HY5).below hb55) ((unhide HT5).below hb55) (by rw [unhide HCl]; exact hrow7) hg7; have hq0 := cell27_0 hbx7; have hq2 := cell27_1 hbx7; have hqf := frozen_of_row w7 _ 0 _ 27 hbx7; have hq1 : yb + 1 < w7.heap.size := (Array.getElem?_eq_some_iff.1 hbx7).1; have hra := hT7.ra; rw [unhide HAl] at hra; have Hrc5 := hide hrc; have Hg7 := hide hg7; have hs7 := hg7.size; have HT7 := hide hT7; have HY7 := hide hY7; clear hT7 hY7 hrow7 hg7 hbx7 hrc hat7))
                | (at_builtin; refine wpList_append_own_at _ rfl _ _ 24 rfl N 3 i3 _ 1 8 Try.underlying24 hi3 hy0 hy1 hy2 rfl (by decide) _ _ _ rfl (hra.alloc _) ⟨w7.heap.size, 0, none⟩ 1 1 [.int .i64 0] rfl rfl (cell_one_at _ _ _ _ (by simp [World.setCell])) (by simp [Value.oneCell']) (by simp only [maxLen]; omega) (by omega) (by simp [World.setCell] at hs7 ⊢; omega) ?_; go_must (intro v9 w9 hrow9 hg9 _ hat9; obtain ⟨g9, c9, hv9⟩ := ownsRow_succ hrow9; subst hv9; have hb88 := (Below.refl (w7.setCell ⟨yb + 1, 0, none⟩ (.slice (some ⟨g7, 0, none⟩) (k + 1) c7)).heap.size (w7.setCell ⟨yb + 1, 0, none⟩ (.slice (some ⟨g7, 0, none⟩) (k + 1) c7))).alloc (Nat.le_refl _) (.cells #[.int .i64 0] 3); obtain ⟨hbx9, hY9, hT9, hSp9⟩ := told_A (x := 0) ((unhide HY7).below hb88) ((unhide HT7).below hb88) (unhide HSp5) (by rw [unhide HAl]; exact hrow9) hg9 hat9; have hu1 := cell27_1 hbx9; have huf := frozen_of_row w9 _ 1 _ 27 hbx9; have hu2 : yb + 1 < w9.heap.size := (Array.getElem?_eq_some_iff.1 hbx9).1; have Hfin : Hid (Fh w0 (w9.setCell ⟨yb + 1, 1, none⟩ (.slice (some ⟨g9, 0, none⟩) (k + 1) c9)) N yb N (yb + 1) S (stK S pol sc (k + 1)) (k + 1) (codesL S pol sc (k + 1)) (atsL S pol sc (k + 1))) := ⟨_, _, _, _, _, _, _, hY9, unhide HD5, by rw [unhide HCs, unhide HAs, (unhide HE).1, (unhide HE).2]; exact hT9, hSp9, hP5, ((((((unhide HB5).alloc hN5 _).grown (unhide Hg7) (by simp; omega) (fun x e => ((unhide Hrc5).lt x e).1)).setCell (p := ⟨yb + 1, 0, none⟩) hoN _).alloc (by simp [World.setCell] at hs7 ⊢; omega) _).grown hg9 (by simp [World.setCell] at hs7 ⊢; omega) (fun x e => (hra.lt x e).1)).setCell (p := ⟨yb + 1, 1, none⟩) hoN _⟩; clear hT9 hY9 hrow9 hg9 hbx9 hat9 hb88)))
              go_roundw
              case rel => exact ⟨k + 1, by omega, by go_num, Hfin⟩
              case measure => simp [intOf]; omega
            · have hst := st_of (unhide Hx) (show stepS S pol (stK S pol sc k) _ = (2, 0, stK S pol sc k) from by unfold stepS; rw [if_neg (show ¬ (2 : Int) = 1 by decide), if_pos rfl]; simp only [htk])
              have HE : Hid (codeK S pol sc k = 2 ∧ ((atK S pol sc k : Nat) : Int) = 0) := ⟨hst.1, by rw [hst.2.1]; rfl⟩
              have H5 : Hid (Fh w0 W3 N yb N (yb + 1) S (stK S pol sc (k + 1)) (k + 1) (codesL S pol sc k) (atsL S pol sc k)) := by show Fh _ _ _ _ _ _ _ _ _ _ _; rw [hst.2.2]; exact (unhide H3).more (by omega)
              have d1 : decide (0 ≤ m) = false := decide_eq_false hm0
              clear hst H3 HY3 HT3 HB3 HD HSp hO
              obtain ⟨w5, hw5⟩ : ∃ w5, w5 = W3 := ⟨W3, rfl⟩
              subst hw5
              obtain ⟨va5, vl5, vc5, vt5, T5, P5, L5, hY5, hD5, hT5, hSp5, hP5, hB5⟩ := unhide H5
              obtain ⟨ac, cc, hvc⟩ := ownsRow_slice hT5.rc
              obtain ⟨at5, ct, hvt⟩ := ownsRow_slice hT5.ra
              rw [unhide HCl] at hvc
              rw [unhide HAl] at hvt
              subst hvc hvt
              have t0 := hT5.c0
              have tf0 := hT5.fr 0
              have tlt := hT5.lt
              have hN5 : N ≤ w5.heap.size := by have := hY5.lo; have := hY5.lt; omega
              have hoN := hT5.lo
              have hrc := hT5.rc
              rw [unhide HCl] at hrc
              have HT5 := hide hT5
              have HY5 := hide hY5
              have HSp5 := hide hSp5
              have HB5 := hide hB5
              have HD5 := hide hD5
              clear hT5 hY5 hSp5 hB5 hD5 H5
              go_wp2_with (first
                | (at_builtin; refine wpList_append_own_at _ rfl _ _ 23 rfl N 28 i28 _ 1 8 Try.underlying23 hi28 hx0 hx1 hx2 rfl (by decide) _ _ _ rfl (hrc.alloc _) ⟨w5.heap.size, 0, none⟩ 1 1 [.int .i64 2] rfl rfl (cell_one_at _ _ _ _ rfl) (by simp [Value.oneCell']) (by simp only [maxLen]; omega) (by omega) (by simp; omega) ?_; go_must (intro v7 w7 hrow7 hg7 _ hat7; obtain ⟨g7, c7, hv7⟩ := ownsRow_succ hrow7; subst hv7; have hb55 : Below w5.heap.size w5 (w5.alloc (.cells #[.int .i64 2] 28)) := (Below.refl _ _).alloc (Nat.le_refl _) _; obtain ⟨hbx7, hY7, hT7⟩ := told_C (x := 2) ((unhide HY5).below hb55) ((unhide HT5).below hb55) (by rw [unhide HCl]; exact hrow7) hg7; have hq0 := cell27_0 hbx7; have hq2 := cell27_1 hbx7; have hqf := frozen_of_row w7 _ 0 _ 27 hbx7; have hq1 : yb + 1 < w7.heap.size := (Array.getElem?_eq_some_iff.1 hbx7).1; have hra := hT7.ra; rw [unhide HAl] at hra; have Hrc5 := hide hrc; have Hg7 := hide hg7; have hs7 := hg7.size; have HT7 := hide hT7; have HY7 := hide hY7; clear hT7 hY7 hrow7 hg7 hbx7 hrc hat7))
                | (at_builtin; refine wpList_append_own_at _ rfl _ _ 24 rfl N 3 i3 _ 1 8 Try.underlying24 hi3 hy0 hy1 hy2 rfl (by decide) _ _ _ rfl (hra.alloc _) ⟨w7.heap.size, 0, none⟩ 1 1 [.int .i64 0] rfl rfl (cell_one_at _ _ _ _ (by simp [World.setCell])) (by simp [Value.oneCell']) (by simp only [maxLen]; omega) (by omega) (by simp [World.setCell] at hs7 ⊢; omega) ?_; go_must (intro v9 w9 hrow9 hg9 _ hat9; obtain ⟨g9, c9, hv9⟩ := ownsRow_succ hrow9; subst hv9; have hb88 := (Below.refl (w7.setCell ⟨yb + 1, 0, none⟩ (.slice (some ⟨g7, 0, none⟩) (k + 1) c7)).heap.size (w7.setCell ⟨yb + 1, 0, none⟩ (.slice (some ⟨g7, 0, none⟩) (k + 1) c7))).alloc (Nat.le_refl _) (.cells #[.int .i64 0] 3); obtain ⟨hbx9, hY9, hT9, hSp9⟩ := told_A (x := 0) ((unhide HY7).below hb88) ((unhide HT7).below hb88) (unhide HSp5) (by rw [unhide HAl]; exact hrow9) hg9 hat9; have hu1 := cell27_1 hbx9; have huf := frozen_of_row w9 _ 1 _ 27 hbx9; have hu2 : yb + 1 < w9.heap.size := (Array.getElem?_eq_some_iff.1 hbx9).1; have Hfin : Hid (Fh w0 (w9.setCell ⟨yb + 1, 1, none⟩ (.slice (some ⟨g9, 0, none⟩) (k + 1) c9)) N yb N (yb + 1) S (stK S pol sc (k + 1)) (k + 1) (codesL S pol sc (k + 1)) (atsL S pol sc (k + 1))) := ⟨_, _, _, _, _, _, _, hY9, unhide HD5, by rw [unhide HCs, unhide HAs, (unhide HE).1, (unhide HE).2]; exact hT9, hSp9, hP5, ((((((unhide HB5).alloc hN5 _).grown (unhide Hg7) (by simp; omega) (fun x e => ((unhide Hrc5).lt x e).1)).setCell (p := ⟨yb + 1, 0, none⟩) hoN _).alloc (by simp [World.setCell] at hs7 ⊢; omega) _).grown hg9 (by simp [World.setCell] at hs7 ⊢; omega) (fun x e => (hra.lt x e).1)).setCell (p := ⟨yb + 1, 1, none⟩) hoN _⟩; clear hT9 hY9 hrow9 hg9 hbx9 hat9 hb88)))
              go_roundw
              case rel => exact ⟨k + 1, by omega, by go_num, Hfin⟩
              case measure => simp [intOf]; omega
          | some n =>
            obtain ⟨p, rfl⟩ : ∃ p : Nat, m = (p : Int) := ⟨m.toNat, by have := ((unhide hO).tk m n htk).1; omega⟩
            have hst := st_of (unhide Hx) (step_give htk)
            have HE : Hid (codeK S pol sc k = 0 ∧ ((atK S pol sc k : Nat) : Int) = 0) := ⟨hst.1, by rw [hst.2.1]; rfl⟩
            have d1 : decide ((0 : Int) ≤ (p : Int)) = true := decide_eq_true (by omega)
            obtain ⟨i, hi⟩ := (unhide HD).of _ _ htk
            obtain ⟨f1, f2, f3⟩ := (unhide HD).give (unhide hO) htk hi (stK S pol sc k).en
            have Hc := hide (ygive_yes W3 N yb N va vl S T P L _ (unhide HY3) (by omega) (by omega) (unhide HD).pl hS2 p n i hi f2 f1 (fun j hj e => by have := (unhide HD).one j i _ e hi (by omega); omega))
            have Hf3 := hide f3
            have Hst := hide hst.2.2
            clear hst H3 f1 f2 f3 hi htk HD hO
            go_wp2_with fail
            refine (unhide Hc).mono ?_
            rintro e w5 ⟨rfl, hYn, hfr⟩
            have H5 : Hid (Fh w0 w5 N yb N (yb + 1) S (stK S pol sc (k + 1)) (k + 1) (codesL S pol sc k) (atsL S pol sc k)) := by
              show Fh _ _ _ _ _ _ _ _ _ _ _
              rw [unhide Hst]
              obtain ⟨hTn, hSn⟩ := told_yfr (unhide HY3) (unhide HT3) (unhide HSp) hfr
              exact ⟨_, _, _, _, _, _, _, hYn, unhide Hf3, hTn, hSn, by rw [List.length_set]; omega, (unhide HB3).trans hfr.bel⟩
            clear Hc g0 g1 HY3 HT3 HSp HB3 hYn hfr Hf3 Hst
            obtain ⟨va5, vl5, vc5, vt5, T5, P5, L5, hY5, hD5, hT5, hSp5, hP5, hB5⟩ := unhide H5
            obtain ⟨ac, cc, hvc⟩ := ownsRow_slice hT5.rc
            obtain ⟨at5, ct, hvt⟩ := ownsRow_slice hT5.ra
            rw [unhide HCl] at hvc
            rw [unhide HAl] at hvt
            subst hvc hvt
            have t0 := hT5.c0
            have tf0 := hT5.fr 0
            have tlt := hT5.lt
            have hN5 : N ≤ w5.heap.size := by have := hY5.lo; have := hY5.lt; omega
            have hoN := hT5.lo
            have hrc := hT5.rc
            rw [unhide HCl] at hrc
            have HT5 := hide hT5
            have HY5 := hide hY5
            have HSp5 := hide hSp5
            have HB5 := hide hB5
            have HD5 := hide hD5
            clear hT5 hY5 hSp5 hB5 hD5 H5
            go_wp2_with (first
              | (at_builtin; refine wpList_append_own_at _ rfl _ _ 23 rfl N 28 i28 _ 1 8 Try.underlying23 hi28 hx0 hx1 hx2 rfl (by decide) _ _ _ rfl (hrc.alloc _) ⟨w5.heap.size, 0, none⟩ 1 1 [.int .i64 0] rfl rfl (cell_one_at _ _ _ _ rfl) (by simp [Value.oneCell']) (by simp only [maxLen]; omega) (by omega) (by simp; omega) ?_; go_must (intro v7 w7 hrow7 hg7 _ hat7; obtain ⟨g7, c7, hv7⟩ := ownsRow_succ hrow7; subst hv7; have hb55 : Below w5.heap.size w5 (w5.alloc (.cells #[.int .i64 0] 28)) := (Below.refl _ _).alloc (Nat.le_refl _) _; obtain ⟨hbx7, hY7, hT7⟩ := told_C (x := 0) ((unhide HY5).below hb55) ((unhide HT5).below hb55) (by rw [unhide HCl]; exact hrow7) hg7; have hq0 := cell27_0 hbx7; have hq2 := cell27_1 hbx7; have hqf := frozen_of_row w7 _ 0 _ 27 hbx7; have hq1 : yb + 1 < w7.heap.size := (Array.getElem?_eq_some_iff.1 hbx7).1; have hra := hT7.ra; rw [unhide HAl] at hra; have Hrc5 := hide hrc; have Hg7 := hide hg7; have hs7 := hg7.size; have HT7 := hide hT7; have HY7 := hide hY7; clear hT7 hY7 hrow7 hg7 hbx7 hrc hat7))
              | (at_builtin; refine wpList_append_own_at _ rfl _ _ 24 rfl N 3 i3 _ 1 8 Try.underlying24 hi3 hy0 hy1 hy2 rfl (by decide) _ _ _ rfl (hra.alloc _) ⟨w7.heap.size, 0, none⟩ 1 1 [.int .i64 0] rfl rfl (cell_one_at _ _ _ _ (by simp [World.setCell])) (by simp [Value.oneCell']) (by simp only [maxLen]; omega) (by omega) (by simp [World.setCell] at hs7 ⊢; omega) ?_; go_must (intro v9 w9 hrow9 hg9 _ hat9; obtain ⟨g9, c9, hv9⟩ := ownsRow_succ hrow9; subst hv9; have hb88 := (Below.refl (w7.setCell ⟨yb + 1, 0, none⟩ (.slice (some ⟨g7, 0, none⟩) (k + 1) c7)).heap.size (w7.setCell ⟨yb + 1, 0, none⟩ (.slice (some ⟨g7, 0, none⟩) (k + 1) c7))).alloc (Nat.le_refl _) (.cells #[.int .i64 0] 3); obtain ⟨hbx9, hY9, hT9, hSp9⟩ := told_A (x := 0) ((unhide HY7).below hb88) ((unhide HT7).below hb88) (unhide HSp5) (by rw [unhide HAl]; exact hrow9) hg9 hat9; have hu1 := cell27_1 hbx9; have huf := frozen_of_row w9 _ 1 _ 27 hbx9; have hu2 : yb + 1 < w9.heap.size := (Array.getElem?_eq_some_iff.1 hbx9).1; have Hfin : Hid (Fh w0 (w9.setCell ⟨yb + 1, 1, none⟩ (.slice (some ⟨g9, 0, none⟩) (k + 1) c9)) N yb N (yb + 1) S (stK S pol sc (k + 1)) (k + 1) (codesL S pol sc (k + 1)) (atsL S pol sc (k + 1))) := ⟨_, _, _, _, _, _, _, hY9, unhide HD5, by rw [unhide HCs, unhide HAs, (unhide HE).1, (unhide HE).2]; exact hT9, hSp9, hP5, ((((((unhide HB5).alloc hN5 _).grown (unhide Hg7) (by simp; omega) (fun x e => ((unhide Hrc5).lt x e).1)).setCell (p := ⟨yb + 1, 0, none⟩) hoN _).alloc (by simp [World.setCell] at hs7 ⊢; omega) _).grown hg9 (by simp [World.setCell] at hs7 ⊢; omega) (fun x e => (hra.lt x e).1)).setCell (p := ⟨yb + 1, 1, none⟩) hoN _⟩; clear hT9 hY9 hrow9 hg9 hbx9 hat9 hb88)))
            go_roundw
            case rel => exact ⟨k + 1, by omega, by go_num, Hfin⟩
            case measure => simp [intOf]; omega
        · have hst := st_of (unhide Hx) (show stepS S pol (stK S pol sc k) _ = (5, 0, stK S pol sc k) from by unfold stepS; rw [if_neg hq1, if_neg hq2])
          have HE : Hid (codeK S pol sc k = 5 ∧ ((atK S pol sc k : Nat) : Int) = 0) := ⟨hst.1, by rw [hst.2.1]; rfl⟩
          have H5 : Hid (Fh w0 W3 N yb N (yb + 1) S (stK S pol sc (k + 1)) (k + 1) (codesL S pol sc k) (atsL S pol sc k)) := by show Fh _ _ _ _ _ _ _ _ _ _ _; rw [hst.2.2]; exact (unhide H3).more (by omega)
          have s1 : (q == 1) = false := by simp [hq1]
          have s2 : (q == 2) = false := by simp [hq2]
          clear hst H3 HY3 HT3 HB3 HD HSp hO
          obtain ⟨w5, hw5⟩ : ∃ w5, w5 = W3 := ⟨W3, rfl⟩
          subst hw5
          obtain ⟨va5, vl5, vc5, vt5, T5, P5, L5, hY5, hD5, hT5, hSp5, hP5, hB5⟩ := unhide H5
          obtain ⟨ac, cc, hvc⟩ := ownsRow_slice hT5.rc
          obtain ⟨at5, ct, hvt⟩ := ownsRow_slice hT5.ra
          rw [unhide HCl] at hvc
          rw [unhide HAl] at hvt
          subst hvc hvt
          have t0 := hT5.c0
          have tf0 := hT5.fr 0
          have tlt := hT5.lt
          have hN5 : N ≤ w5.heap.size := by have := hY5.lo; have := hY5.lt; omega
          have hoN := hT5.lo
          have hrc := hT5.rc
          rw [unhide HCl] at hrc
          have HT5 := hide hT5
          have HY5 := hide hY5
          have HSp5 := hide hSp5
          have HB5 := hide hB5
          have HD5 := hide hD5
          clear hT5 hY5 hSp5 hB5 hD5 H5
          go_wp2_with (first
            | (at_builtin; refine wpList_append_own_at _ rfl _ _ 23 rfl N 28 i28 _ 1 8 Try.underlying23 hi28 hx0 hx1 hx2 rfl (by decide) _ _ _ rfl (hrc.alloc _) ⟨w5.heap.size, 0, none⟩ 1 1 [.int .i64 5] rfl rfl (cell_one_at _ _ _ _ rfl) (by simp [Value.oneCell']) (by simp only [maxLen]; omega) (by omega) (by simp; omega) ?_; go_must (intro v7 w7 hrow7 hg7 _ hat7; obtain ⟨g7, c7, hv7⟩ := ownsRow_succ hrow7; subst hv7; have hb55 : Below w5.heap.size w5 (w5.alloc (.cells #[.int .i64 5] 28)) := (Below.refl _ _).alloc (Nat.le_refl _) _; obtain ⟨hbx7, hY7, hT7⟩ := told_C (x := 5) ((unhide HY5).below hb55) ((unhide HT5).below hb55) (by rw [unhide HCl]; exact hrow7) hg7; have hq0 := cell27_0 hbx7; have hq2 := cell27_1 hbx7; have hqf := frozen_of_row w7 _ 0 _ 27 hbx7; have hq1 : yb + 1 < w7.heap.size := (Array.getElem?_eq_some_iff.1 hbx7).1; have hra := hT7.ra; rw [unhide HAl] at hra; have Hrc5 := hide hrc; have Hg7 := hide hg7; have hs7 := hg7.size; have HT7 := hide hT7; have HY7 := hide hY7; clear hT7 hY7 hrow7 hg7 hbx7 hrc hat7))
            | (at_builtin; refine wpList_append_own_at _ rfl _ _ 24 rfl N 3 i3 _ 1 8 Try.underlying24 hi3 hy0 hy1 hy2 rfl (by decide) _ _ _ rfl (hra.alloc _) ⟨w7.heap.size, 0, none⟩ 1 1 [.int .i64 0] rfl rfl (cell_one_at _ _ _ _ (by simp [World.setCell])) (by simp [Value.oneCell']) (by simp only [maxLen]; omega) (by omega) (by simp [World.setCell] at hs7 ⊢; omega) ?_; go_must (intro v9 w9 hrow9 hg9 _ hat9; obtain ⟨g9, c9, hv9⟩ := ownsRow_succ hrow9; subst hv9; have hb88 := (Below.refl (w7.setCell ⟨yb + 1, 0, none⟩ (.slice (some ⟨g7, 0, none⟩) (k + 1) c7)).heap.size (w7.setCell ⟨yb + 1, 0, none⟩ (.slice (some ⟨g7, 0, none⟩) (k + 1) c7))).alloc (Nat.le_refl _) (.cells #[.int .i64 0] 3); obtain ⟨hbx9, hY9, hT9, hSp9⟩ := told_A (x := 0) ((unhide HY7).below hb88) ((unhide HT7).below hb88) (unhide HSp5) (by rw [unhide HAl]; exact hrow9) hg9 hat9; have hu1 := cell27_1 hbx9; have huf := frozen_of_row w9 _ 1 _ 27 hbx9; have hu2 : yb + 1 < w9.heap.size := (Array.getElem?_eq_some_iff.1 hbx9).1; have Hfin : Hid (Fh w0 (w9.setCell ⟨yb + 1, 1, none⟩ (.slice (some ⟨g9, 0, none⟩) (k + 1) c9)) N yb N (yb + 1) S (stK S pol sc (k + 1)) (k + 1) (codesL S pol sc (k + 1)) (atsL S pol sc (k + 1))) := ⟨_, _, _, _, _, _, _, hY9, unhide HD5, by rw [unhide HCs, unhide HAs, (unhide HE).1, (unhide HE).2]; exact hT9, hSp9, hP5, ((((((unhide HB5).alloc hN5 _).grown (unhide Hg7) (by simp; omega) (fun x e => ((unhide Hrc5).lt x e).1)).setCell (p := ⟨yb + 1, 0, none⟩) hoN _).alloc (by simp [World.setCell] at hs7 ⊢; omega) _).grown hg9 (by simp [World.setCell] at hs7 ⊢; omega) (fun x e => (hra.lt x e).1)).setCell (p := ⟨yb + 1, 1, none⟩) hoN _⟩; clear hT9 hY9 hrow9 hg9 hbx9 hat9 hb88)))
          go_roundw
          case rel => exact ⟨k + 1, by omega, by go_num, Hfin⟩
          case measure => simp [intOf]; omega
    · obtain rfl : k = sc.length := by omega
      obtain ⟨va, vl, vc, vt, T, P, L, hY, hD, hT, hSp, hP, hB⟩ := unhide HI
      have hNr : N ≤ wr.heap.size := by have := hY.lo; have := hY.lt; omega
      have Hc := hide (yblocks_c wr N yb N va vl S T P L _ hY hS2)
      rw [hD.bl (ok_stK hS1 pol sc sc.length)] at Hc
      have hFl := ok_len (ok_stK hS1 pol sc sc.length)
      have HCl := hide (codesL_len S pol sc sc.length)
      have HAl := hide (atsL_len S pol sc sc.length)
      obtain ⟨ac, cc, hvc⟩ := ownsRow_slice hT.rc
      obtain ⟨aa, ca, hvt⟩ := ownsRow_slice hT.ra
      rw [unhide HCl] at hvc
      rw [unhide HAl] at hvt
      subst hvc hvt
      have HT := hide hT
      have HB := hide hB
      clear hY hD hT hSp hB HI
      go_wp2_with fail
      refine (unhide Hc).mono ?_
      rintro e w5 ⟨⟨af, cf, rfl, hF, hnew⟩, hb5⟩
      have hs5 := hb5.size
      have hT5 := (unhide HT).below hb5
      have hbe := (unhide HB).trans (hb5.mono hNr)
      have hrb : w5.heap[w.heap.size]? = some (.cells #[.slice none 0 0, .slice none 0 0, .slice none 0 0] 27) := by rw [hbe.block _ (by omega)]; exact unhide Hrb
      have hob : N ≤ yb + 1 := hT5.lo
      have hobl := (unhide HT).lt
      have hbw : Below w.heap.size w w5 := hb0.trans (hbe.mono (by omega))
      have Hfin : Hid (∀ W, W = (((w5.setCell ⟨yb + 1, 2, none⟩ (.slice af (stK S pol sc sc.length).bl.length cf)).setCell ⟨w.heap.size, 0, none⟩ (.slice ac sc.length cc)).setCell ⟨w.heap.size, 1, none⟩ (.slice aa sc.length ca)).setCell ⟨w.heap.size, 2, none⟩ (.slice af (stK S pol sc sc.length).bl.length cf) →
          (∃ ac' cc' aa' ca' af' cf', Ending.returned (.agg #[.slice ac sc.length cc, .slice aa sc.length ca, .slice af (stK S pol sc sc.length).bl.length cf]) = .returned (.agg #[.slice ac' sc.length cc', .slice aa' sc.length ca', .slice af' (stK S pol sc sc.length).bl.length cf']) ∧ Nums W.heap.size W ac' (codesL S pol sc sc.length) ∧ Nums W.heap.size W aa' (atsL S pol sc sc.length) ∧ Blks W.heap.size W af' (stK S pol sc sc.length).bl) ∧ Below w.heap.size w W) := by
        intro W hW
        have hsW : W.heap.size = w5.heap.size := by rw [hW]; simp [World.setCell]
        refine ⟨?_, by rw [hW]; exact (((hbw.setCell (p := ⟨yb + 1, 2, none⟩) (by simp only; omega) _).setCell (p := ⟨w.heap.size, 0, none⟩) (Nat.le_refl _) _).setCell (p := ⟨w.heap.size, 1, none⟩) (Nat.le_refl _) _).setCell (p := ⟨w.heap.size, 2, none⟩) (Nat.le_refl _) _⟩
        have r1 := row_end hT5.rc ⟨_, hT5.box⟩ ⟨_, hrb⟩ (by decide) (.slice af (stK S pol sc sc.length).bl.length cf) (.slice ac sc.length cc) (.slice aa sc.length ca) (.slice af (stK S pol sc sc.length).bl.length cf)
        have r2 := row_end hT5.ra ⟨_, hT5.box⟩ ⟨_, hrb⟩ (by decide) (.slice af (stK S pol sc sc.length).bl.length cf) (.slice ac sc.length cc) (.slice aa sc.length ca) (.slice af (stK S pol sc sc.length).bl.length cf)
        rw [← hW] at r1 r2
        have hcl := unhide HCl
        have hal := unhide HAl
        obtain ⟨a1, c1, e1, n1, _⟩ := nums_of_owns r1 (by omega)
        obtain ⟨a2, c2, e2, n2, _⟩ := nums_of_owns r2 (by omega)
        injection e1 with e1a _ e1c
        injection e2 with e2a _ e2c
        subst e1a e1c e2a e2c
        refine ⟨_, _, _, _, _, _, rfl, n1, n2, ?_⟩
        rw [hsW]
        refine hF.kept fun x hx => ?_
        have hxb := hnew x hx
        rw [hW, Below.heap_setCell _ _ _ _ (by simp only; omega), Below.heap_setCell _ _ _ _ (by simp only; omega), Below.heap_setCell _ _ _ _ (by simp only; omega), Below.heap_setCell _ _ _ _ (by simp only; omega)]
      have t0 := hT5.c0
      have t1 := hT5.c1
      have t2 := hT5.c2
      have tf2 := hT5.fr 2
      have tlt := hT5.lt
      have b0 := cell27_0 hrb
      have b1 := cell27_1 hrb
      have b2 := cell27_2 hrb
      have bf0 := frozen_of_row w5 _ 0 _ 27 hrb
      have bf1 := frozen_of_row w5 _ 1 _ 27 hrb
      have bf2 := frozen_of_row w5 _ 2 _ 27 hrb
      have hne : w.heap.size ≠ yb + 1 := by omega
      have hne' : ¬ yb + 1 = w.heap.size := by omega
      have hlw : w.heap.size < w5.heap.size := by omega
      clear hT5 hrb hbe hF hnew Hc HT HB hb5
      go_wp2
      refine bodyPost_ret (v := .agg #[.slice ac sc.length cc, .slice aa sc.length ca, .slice af (stK S pol sc sc.length).bl.length cf]) (by simp [results, Try.results11, go_sem, b0, b1, b2, hne, hne']) rfl ?_
      exact unhide Hfin _ rfl


end Go.Proofs.Ytgbbcfngncofgaa

/- Walks: FreePlays. -/
namespace Go.Proofs.Ytgbbcfngncofgaa
set_option linter.unusedSimpArgs false
set_option linter.unusedVariables false
open Go.RowKit

theorem Nums.nil (B : Nat) (w : World) (a : Option Addr) : Nums B w a [] := ⟨by simp, fun h => absurd rfl h⟩

set_option maxRecDepth 100000 in
set_option maxHeartbeats 4000000 in
theorem freePlays_c (z pol : Int) (a : Option Addr) (c : Nat) (sc : List (Int × Int)) (w : World) (hA : Asks w.heap.size w a sc) (hI : I64s sc) :
    Calls Try.prog 3 #[.int .i64 z, .int .i64 pol, .slice a sc.length c] w fun e w' => e = .returned (.bool true) ∧ Below w.heap.size w w' := by
  have Hc := hide (play_c z pol a c sc w.heap.size w hA (Nat.le_refl _) hI)
  have hsl := hA.1
  have HA := hide hA
  clear hA hI
  go_enter Try.func3, Try.ntmps3
  go_wp2_with fail
  refine (unhide Hc).mono ?_
  rintro e w2 ⟨hR, hb2⟩
  obtain ⟨ac, cc, aa, ca, af, cf, C, A, F, rfl, nc, na, nf, hIs, hca, _⟩ := hR
  have hs2 := hb2.size
  clear Hc
  obtain ⟨W3, hW3⟩ : ∃ W3, w2.alloc (.cells #[.slice ac C.length cc, .slice aa A.length ca, .slice af F.length cf] 27) = W3 := ⟨_, rfl⟩
  have hb3 : Below w2.heap.size w2 W3 := by rw [← hW3]; exact (Below.refl _ _).alloc (Nat.le_refl _) _
  have hs3 : w2.heap.size < W3.heap.size := by rw [← hW3]; simp
  have hF3 : FBox W3 w2.heap.size ac C.length cc aa A.length ca af F.length cf := by rw [← hW3]; exact fbox_new ..
  have t0 := hF3.c0
  have t1 := hF3.c1
  have t2 := hF3.c2
  clear hF3
  have hbw : Below w.heap.size w W3 := hb2.trans (hb3.mono hs2)
  by_cases hE : playE z pol sc.length = 0
  · obtain ⟨h1, h2, h3, h4, h5⟩ := playE_ok hE
    obtain ⟨S, rfl⟩ : ∃ S : Nat, z = (S : Int) := ⟨z.toNat, by omega⟩
    obtain ⟨eC, eA, eF⟩ := (unhide hIs).2 hE
    rw [Int.toNat_natCast] at eC eA eF
    subst eC eA eF
    rw [hE]
    rw [codesL_len] at t0 hW3 ⊢
    rw [atsL_len] at t1 hW3 ⊢
    have HA3 : Hid (Asks W3.heap.size W3 a sc) := ((unhide HA).below hbw).mono (by omega)
    have Hf : Hid (∀ W, Below W3.heap.size W3 W → Calls Try.prog 11 #[.int .i64 (S : Nat), .int .i64 pol, .bool false, .slice a sc.length c] W fun e w' => (∃ ac cc aa ca af cf, e = .returned (.agg #[.slice ac sc.length cc, .slice aa sc.length ca, .slice af (stK S pol sc sc.length).bl.length cf]) ∧ Nums w'.heap.size w' ac (codesL S pol sc sc.length) ∧ Nums w'.heap.size w' aa (atsL S pol sc sc.length) ∧ Blks w'.heap.size w' af (stK S pol sc sc.length).bl) ∧ Below W.heap.size W w') :=
      fun W hW => freed_c S pol a c sc W (by omega) (by omega) h5 (((unhide HA3).below hW).mono hW.size)
    have Hs : Hid (∀ ac' aa' af' cc' ca' cf' W, Below W3.heap.size W3 W → Nums W.heap.size W ac' (codesL S pol sc sc.length) → Nums W.heap.size W aa' (atsL S pol sc sc.length) → Blks W.heap.size W af' (stK S pol sc sc.length).bl → Calls Try.prog 10 #[.agg #[.slice ac sc.length cc, .slice aa sc.length ca, .slice af (stK S pol sc sc.length).bl.length cf], .agg #[.slice ac' sc.length cc', .slice aa' sc.length ca', .slice af' (stK S pol sc sc.length).bl.length cf']] W fun e w' => e = .returned (.bool true) ∧ Below W.heap.size W w') := fun ac' aa' af' cc' ca' cf' W hW n1 n2 n3 => by
      have := freedSame_c ac aa af ac' aa' af' cc ca cf cc' ca' cf' (codesL S pol sc sc.length) (atsL S pol sc sc.length) (stK S pol sc sc.length).bl W.heap.size W (Nat.le_refl _) ((((nc.below hb3).mono (Nat.le_of_lt hs3)).below hW).mono hW.size) ((((na.below hb3).mono (Nat.le_of_lt hs3)).below hW).mono hW.size) ((((nf.below hb3).mono (Nat.le_of_lt hs3)).below hW).mono hW.size) n1 n2 n3
      rwa [codesL_len, atsL_len] at this
    have d1 : decide (S < 1) = false := decide_eq_false (by omega)
    have d1' : decide ((S : Int) < 1) = false := decide_eq_false (by omega)
    have d2 : decide ((256 : Int) < (S : Int)) = false := decide_eq_false (by omega)
    have d3 : decide (pol < 1) = false := decide_eq_false (by omega)
    have d4 : decide (4 < pol) = false := decide_eq_false (by omega)
    have d5 : decide ((100 : Int) < (sc.length : Int)) = false := decide_eq_false (by omega)
    have d0 : ((0 : Int) == 0) = true := by simp
    clear hE nc na nf hIs
    go_wp2_with fail
    go_region_with (first
      | (go_at_call 11; go_must (refine (unhide Hf _ (by first | exact (Below.refl _ _).drew | exact (Below.refl _ _).drew.drew | exact (Below.refl _ _).drew.drew.drew | exact (Below.refl _ _).drew.drew.drew.drew)).mono ?_); go_must (rintro e w5 ⟨⟨ac', cc', aa', ca', af', cf', he, n1, n2, n3⟩, hb5⟩; subst he; have hb5' : Below W3.heap.size W3 w5 := ⟨hb5.os, hb5.tape, hb5.output, hb5.size, fun k hk => hb5.block k hk⟩; have k0 := (hb5'.cell (p := ⟨w2.heap.size, 0, none⟩) hs3).trans t0; have k1 := (hb5'.cell (p := ⟨w2.heap.size, 1, none⟩) hs3).trans t1; have k2 := (hb5'.cell (p := ⟨w2.heap.size, 2, none⟩) hs3).trans t2; have Hd := hide (unhide Hs ac' aa' af' cc' ca' cf' w5 hb5' n1 n2 n3); clear n1 n2 n3 hb5))
      | (go_at_call 10; go_must (refine (unhide Hd).mono ?_); go_must (rintro e w6 ⟨he, hb6⟩; subst he; have hbf : Below w.heap.size w w6 := hbw.trans ((hb5'.trans (hb6.mono hb5'.size)).mono (by omega)))))
    all_goals
      go_wp2
      go_ret
      exact ⟨rfl, by first | exact hbf | exact hbf.drew | exact hbf.drew.drew⟩
  · obtain ⟨rfl, rfl, rfl⟩ := (unhide hIs).1 hE
    have Hd := hide (freedSame_c ac aa af none none none cc ca cf 0 0 0 [] [] [] W3.heap.size W3 (Nat.le_refl _) (Nums.nil _ _ _) (Nums.nil _ _ _) (Blks.nil _ _ _) (Nums.nil _ _ _) (Nums.nil _ _ _) (Blks.nil _ _ _))
    simp only [List.length_nil] at Hd t0 t1 t2 hW3 ⊢
    clear nc na nf hIs
    by_cases z1 : z < 1
    · have hv : playE z pol sc.length = 3 := by unfold playE; rw [if_pos (.inl z1)]
      have d1 : decide (z < 1) = true := decide_eq_true z1
      rw [hv]
      clear hE hv
      go_wp2_with fail
      refine (unhide Hd).mono ?_
      rintro e w5 ⟨rfl, hb5⟩
      have hbf : Below w.heap.size w w5 := hbw.trans (hb5.mono (by omega))
      go_wp2
      go_ret
      exact ⟨rfl, hbf⟩
    · have d1 : decide (z < 1) = false := decide_eq_false z1
      by_cases z2 : 256 < z
      · have hv : playE z pol sc.length = 3 := by unfold playE; rw [if_pos (.inr z2)]
        have d2 : decide (256 < z) = true := decide_eq_true z2
        rw [hv]
        clear hE hv
        go_wp2_with fail
        refine (unhide Hd).mono ?_
        rintro e w5 ⟨rfl, hb5⟩
        have hbf : Below w.heap.size w w5 := hbw.trans (hb5.mono (by omega))
        go_wp2
        go_ret
        exact ⟨rfl, hbf⟩
      · have d2 : decide (256 < z) = false := decide_eq_false z2
        by_cases p1 : pol < 1
        · have hv : playE z pol sc.length = 5 := by unfold playE; rw [if_neg (by omega), if_pos (by omega)]
          have d3 : decide (pol < 1) = true := decide_eq_true p1
          rw [hv]
          clear hE hv
          go_wp2_with fail
          refine (unhide Hd).mono ?_
          rintro e w5 ⟨rfl, hb5⟩
          have hbf : Below w.heap.size w w5 := hbw.trans (hb5.mono (by omega))
          go_wp2
          go_ret
          exact ⟨rfl, hbf⟩
        · have d3 : decide (pol < 1) = false := decide_eq_false p1
          by_cases p2 : 4 < pol
          · have hv : playE z pol sc.length = 5 := by unfold playE; rw [if_neg (by omega), if_pos (by omega)]
            have d4 : decide (4 < pol) = true := decide_eq_true p2
            rw [hv]
            clear hE hv
            go_wp2_with fail
            refine (unhide Hd).mono ?_
            rintro e w5 ⟨rfl, hb5⟩
            have hbf : Below w.heap.size w w5 := hbw.trans (hb5.mono (by omega))
            go_wp2
            go_ret
            exact ⟨rfl, hbf⟩
          · have d4 : decide (4 < pol) = false := decide_eq_false p2
            by_cases n1 : 100 < sc.length
            · have hv : playE z pol sc.length = 1 := by unfold playE; rw [if_neg (by omega), if_neg (by omega), if_pos n1]
              have d5 : decide (100 < sc.length) = true := decide_eq_true n1
              have d5' : decide ((100 : Int) < (sc.length : Int)) = true := decide_eq_true (by omega)
              rw [hv]
              clear hE hv
              go_wp2_with fail
              refine (unhide Hd).mono ?_
              rintro e w5 ⟨rfl, hb5⟩
              have hbf : Below w.heap.size w w5 := hbw.trans (hb5.mono (by omega))
              go_wp2
              go_ret
              exact ⟨rfl, hbf⟩
            · exact absurd (by unfold playE; rw [if_neg (by omega), if_neg (by omega), if_neg n1]) hE

end Go.Proofs.Ytgbbcfngncofgaa
