/- Merged texts: Pe Ug Ub Uc Ud Ui Uj. -/
import Derived.Test.YtgbbcfngncofgaaProg
import Derived.Test.YtgbbcfngncofgaaFreeApartB
import Derived.OwnWalk
import Derived.Laws.StructEq

/- Plain: whose each word is. -/
namespace Go.Proofs.Ytgbbcfngncofgaa
set_option linter.unusedSimpArgs false
set_option linter.unusedVariables false

/-- Some places of a list hold x. -/
def updP (l : List Int) (p : Nat → Bool) (x : Int) : List Int := l.mapIdx fun j y => if p j then x else y
theorem updP_len (l : List Int) (p : Nat → Bool) (x : Int) : (updP l p x).length = l.length := by simp [updP]
theorem updP_get (l : List Int) (p : Nat → Bool) (x : Int) (j : Nat) : (updP l p x)[j]? = (l[j]?).map fun y => if p j then x else y := by simp [updP, List.getElem?_mapIdx]
theorem updP_none (l : List Int) (p : Nat → Bool) (x : Int) (h : ∀ j, j < l.length → p j = false) : updP l p x = l := by
  apply List.ext_getElem?
  intro j
  rw [updP_get]
  cases hj : l[j]? with
  | none => rfl
  | some y => rw [Option.map_some, h j (List.getElem?_eq_some_iff.1 hj).1]; rfl
theorem updP_congr (l : List Int) {p q : Nat → Bool} (x : Int) (h : ∀ j, j < l.length → p j = q j) : updP l p x = updP l q x := by
  apply List.ext_getElem?
  intro j
  rw [updP_get, updP_get]
  cases hj : l[j]? with
  | none => rfl
  | some y => rw [Option.map_some, Option.map_some, h j (List.getElem?_eq_some_iff.1 hj).1]
theorem updP_set (l : List Int) {p q : Nat → Bool} (x : Int) (t : Nat) (h : ∀ j, j < l.length → q j = (p j || j == t)) : (updP l p x).set t x = updP l q x := by
  apply List.ext_getElem?
  intro j
  rw [List.getElem?_set, updP_get, updP_get, updP_len]
  by_cases e : t = j
  · subst e
    rw [if_pos rfl]
    by_cases hl : t < l.length
    · rw [if_pos hl, List.getElem?_eq_getElem hl, Option.map_some, h t hl]; simp
    · rw [if_neg hl, List.getElem?_eq_none (by omega)]; rfl
  · rw [if_neg e]
    cases hj : l[j]? with
    | none => rfl
    | some y =>
      rw [Option.map_some, Option.map_some, h j (List.getElem?_eq_some_iff.1 hj).1]
      have : (j == t) = false := by simpa using fun e' => e e'.symm
      rw [this, Bool.or_false]

/-- Each taken word bears its owner's number, which no other one bears; a free one 0. -/
def WhOk (S : Nat) (s : St) (k : Nat) (Wh : List Int) : Prop :=
  Wh.length = S ∧ ∃ id : Int → Int, (∀ a m, s.tk a = some m → (1 ≤ id a ∧ id a ≤ k) ∧ ∀ j : Nat, a ≤ j → (j : Int) < a + m → Wh[j]? = some (id a)) ∧
    (∀ a m b m', s.tk a = some m → s.tk b = some m' → a ≠ b → id a ≠ id b) ∧ (∀ j, inB s.bl j → Wh[j]? = some 0)

theorem whOk_start {S : Nat} : WhOk S (startS S) 0 (List.replicate S 0) := by
  refine ⟨by simp, fun _ => 0, fun a m h => (by cases h), fun a m b m' h => (by cases h), fun j hj => ?_⟩
  obtain ⟨x, hx, h1, h2⟩ := hj
  simp [startS] at hx
  subst hx
  simp only at h2
  rw [List.getElem?_replicate, if_pos (by omega)]
theorem WhOk.mono {S : Nat} {s : St} {k k' : Nat} {Wh : List Int} (h : WhOk S s k Wh) (hk : k ≤ k') : WhOk S s k' Wh := by
  obtain ⟨h1, id, h2, h3, h4⟩ := h
  exact ⟨h1, id, fun a m ha => ⟨⟨(h2 a m ha).1.1, by have := (h2 a m ha).1.2; omega⟩, (h2 a m ha).2⟩, h3, h4⟩

/-- Behind a give. -/
theorem whOk_give {S : Nat} {s : St} {k p m : Nat} {Wh : List Int} (hO : Ok S s) (h : WhOk S s k Wh) (ht : s.tk (p : Int) = some m) (e : Nat) :
    ∃ mine : Int, Wh[p]? = some mine ∧ mine ≠ 0 ∧ p < S ∧ WhOk S ⟨freeB s.bl (p, m), updT s.tk (p : Int) none, e⟩ k (updP Wh (fun j => Wh.getD j 0 == mine) 0) := by
  obtain ⟨h1, id, h2, h3, h4⟩ := h
  obtain ⟨h0, hm, hS⟩ := hO.tk _ _ ht
  obtain ⟨⟨i1, i2⟩, i3⟩ := h2 _ _ ht
  have hp := i3 p (by omega) (by omega)
  have hd : ∀ j, inB s.bl j → ¬ (p ≤ j ∧ j < p + m) := fun j hj hjb => (hO.cv j (inB_lt hO.ap hj)).1 hj ⟨p, m, ht, by omega, by omega⟩
  obtain ⟨_, f2⟩ := free_ok (b := (p, m)) hO.ap hm (by simp only; omega) hd
  refine ⟨id p, hp, by omega, by omega, by rw [updP_len]; exact h1, id, fun a n ha => ?_, fun a n b n' ha hb hne => ?_, fun j hj => ?_⟩
  · simp only at ha
    have hne : a ≠ (p : Int) := by rintro rfl; rw [updT_same] at ha; cases ha
    rw [updT_other hne] at ha
    refine ⟨(h2 a n ha).1, fun j j1 j2 => ?_⟩
    have hj := (h2 a n ha).2 j j1 j2
    rw [updP_get, hj, Option.map_some]
    have hn := h3 a n p m ha ht hne
    simp only [List.getD_eq_getElem?_getD, hj, Option.getD_some]
    rw [if_neg (by simpa using hn)]
  · simp only at ha hb
    have hna : a ≠ (p : Int) := by rintro rfl; rw [updT_same] at ha; cases ha
    have hnb : b ≠ (p : Int) := by rintro rfl; rw [updT_same] at hb; cases hb
    rw [updT_other hna] at ha
    rw [updT_other hnb] at hb
    exact h3 a n b n' ha hb hne
  · simp only at hj
    rcases (f2 j).1 hj with hj | hj
    · have := h4 j hj
      rw [updP_get, this, Option.map_some]
      split <;> rfl
    · simp only at hj
      have := i3 j (by omega) (by omega)
      rw [updP_get, this, Option.map_some]
      simp only [List.getD_eq_getElem?_getD, this, Option.getD_some]
      rw [if_pos (by simp)]

/-- Behind a take. -/
theorem whOk_take {S : Nat} {s : St} {k i n : Nat} {b : Nat × Nat} {Wh : List Int} (hO : Ok S s) (h : WhOk S s k Wh) (hb : s.bl[i]? = some b) (h1n : 1 ≤ n) (hn : n ≤ b.2) (e : Nat) :
    b.1 + n ≤ S ∧ (∀ j, b.1 ≤ j → j < b.1 + n → Wh[j]? = some 0) ∧ WhOk S ⟨cutB s.bl i n, updT s.tk (b.1 : Nat) (some n), e⟩ (k + 1) (updP Wh (fun j => decide (b.1 ≤ j) && decide (j < b.1 + n)) ((k : Int) + 1)) := by
  obtain ⟨h1, id, h2, h3, h4⟩ := h
  have hbm := List.mem_of_getElem? hb
  have hbS := hO.ap.1 b hbm
  have hfree : ∀ j, b.1 ≤ j → j < b.1 + n → inB s.bl j := fun j j1 j2 => ⟨b, hbm, by omega, by omega⟩
  obtain ⟨_, c2⟩ := cut_ok hb hO.ap h1n hn
  have hout : ∀ a m, s.tk a = some m → ∀ j : Nat, a ≤ j → (j : Int) < a + m → ¬ (b.1 ≤ j ∧ j < b.1 + n) := fun a m ha j j1 j2 hj => by
    have := hO.tk a m ha
    exact (hO.cv j (by omega)).1 (hfree j hj.1 hj.2) ⟨a, m, ha, j1, j2⟩
  have hbt : s.tk (b.1 : Nat) = none := by
    cases ht : s.tk (b.1 : Nat) with
    | none => rfl
    | some m => exact absurd ⟨Nat.le_refl _, by omega⟩ (hout _ _ ht b.1 (by omega) (by have := (hO.tk _ _ ht).2.1; omega))
  obtain ⟨id', hid1, hid2⟩ : ∃ id' : Int → Int, id' (b.1 : Nat) = (k : Int) + 1 ∧ ∀ a : Int, a ≠ (b.1 : Nat) → id' a = id a := ⟨fun a => if a = (b.1 : Nat) then (k : Int) + 1 else id a, if_pos rfl, fun a ha => if_neg ha⟩
  refine ⟨by omega, fun j j1 j2 => h4 j (hfree j j1 j2), by rw [updP_len]; exact h1, id', fun a m ha => ?_, fun a m c m' ha hc hne => ?_, fun j hj => ?_⟩
  · simp only at ha
    by_cases ea : a = (b.1 : Nat)
    · subst ea
      rw [updT_same] at ha
      injection ha with ha
      subst ha
      rw [hid1]
      refine ⟨by omega, fun j j1 j2 => ?_⟩
      rw [updP_get, h4 j (hfree j (by omega) (by omega)), Option.map_some, if_pos (by simp; omega)]
    · rw [updT_other ea] at ha
      rw [hid2 a ea]
      refine ⟨⟨(h2 a m ha).1.1, by have := (h2 a m ha).1.2; omega⟩, fun j j1 j2 => ?_⟩
      have := hout a m ha j j1 j2
      rw [updP_get, (h2 a m ha).2 j j1 j2, Option.map_some, if_neg (by simp; omega)]
  · simp only at ha hc
    by_cases ea : a = (b.1 : Nat)
    · have ec : c ≠ (b.1 : Nat) := fun ec => hne (ea.trans ec.symm)
      rw [updT_other ec] at hc
      rw [ea, hid1, hid2 c ec]
      have := (h2 c m' hc).1.2
      omega
    · rw [updT_other ea] at ha
      rw [hid2 a ea]
      by_cases ec : c = (b.1 : Nat)
      · rw [ec, hid1]
        have := (h2 a m ha).1.2
        omega
      · rw [updT_other ec] at hc
        rw [hid2 c ec]
        exact h3 a m c m' ha hc hne
  · simp only at hj
    obtain ⟨j1, j2⟩ := (c2 j).1 hj
    rw [updP_get, h4 j j1, Option.map_some, if_neg (by simp; omega)]

/-- Is a word one of the blocks'? -/
def inBb (l : List (Nat × Nat)) (j : Nat) : Bool := l.any fun x => decide (x.1 ≤ j) && decide (j < x.1 + x.2)
theorem inBb_iff (l : List (Nat × Nat)) (j : Nat) : inBb l j = true ↔ inB l j := by
  unfold inBb inB
  rw [List.any_eq_true]
  constructor
  · rintro ⟨x, hx, h⟩; simp at h; exact ⟨x, hx, h⟩
  · rintro ⟨x, hx, h⟩; exact ⟨x, hx, by simpa using h⟩
theorem inBb_take {l : List (Nat × Nat)} {k : Nat} {x : Nat × Nat} (hx : l[k]? = some x) (j : Nat) : inBb (l.take (k + 1)) j = (inBb (l.take k) j || (decide (x.1 ≤ j) && decide (j < x.1 + x.2))) := by
  unfold inBb
  rw [List.take_add_one, hx]
  simp

/-- A word of a block is not one of those ahead of it. -/
theorem inBb_fresh {S : Nat} {l : List (Nat × Nat)} (ha : Apart S l) {k : Nat} {x : Nat × Nat} (hx : l[k]? = some x) {j : Nat} (h1 : x.1 ≤ j) (h2 : j < x.1 + x.2) : inBb (l.take k) j = false := by
  cases h : inBb (l.take k) j with
  | false => rfl
  | true =>
    obtain ⟨y, hy, y1, y2⟩ := (inBb_iff _ _).1 h
    obtain ⟨i, hi⟩ := List.getElem?_of_mem hy
    rw [List.getElem?_take] at hi
    split at hi
    · have hi' := (List.getElem?_eq_some_iff.1 hi).1
      have hk' := (List.getElem?_eq_some_iff.1 hx).1
      have := List.pairwise_iff_getElem.1 ha.2 i k hi' hk' (by assumption)
      rw [(List.getElem?_eq_some_iff.1 hi).2, (List.getElem?_eq_some_iff.1 hx).2] at this
      omega
    · cases hi

/-- In the end each word is somebody's. -/
theorem whOk_all {S : Nat} {s : St} {k : Nat} {Wh : List Int} (hO : Ok S s) (h : WhOk S s k Wh) {j : Nat} {x : Int} (hx : (updP Wh (inBb s.bl) (-1))[j]? = some x) : x ≠ 0 := by
  obtain ⟨h1, id, h2, h3, h4⟩ := h
  have hl := (List.getElem?_eq_some_iff.1 hx).1
  rw [updP_len, h1] at hl
  rw [updP_get] at hx
  cases hj : inBb s.bl j with
  | true =>
    rw [h4 j ((inBb_iff _ _).1 hj), Option.map_some, hj] at hx
    injection hx with hx
    rw [← hx]
    decide
  | false =>
    have hn : ¬ inB s.bl j := fun h => by rw [(inBb_iff _ _).2 h] at hj; cases hj
    have : ∃ a n, s.tk a = some n ∧ a ≤ j ∧ (j : Int) < a + n := Classical.byContradiction fun hc => hn ((hO.cv j hl).2 hc)
    obtain ⟨a, m, ha, a1, a2⟩ := this
    rw [(h2 a m ha).2 j a1 a2, Option.map_some, hj] at hx
    injection hx with hx
    rw [← hx]
    have := (h2 a m ha).1.1
    simp
    omega

end Go.Proofs.Ytgbbcfngncofgaa

/- Walks: apart. -/
namespace Go.Proofs.Ytgbbcfngncofgaa
set_option linter.unusedSimpArgs false
set_option linter.unusedVariables false
open Go.RowKit

/-- The row that tells whose each word is. -/
structure RW (W1 wr : World) (N wb S : Nat) (Wh : List Int) : Prop where
  bel : Below N W1 wr
  row : wr.ownsRow N 3 1 (.slice (some ⟨wb, 0, none⟩) S S) S (intsV Wh)
  lb : N ≤ wb

theorem RW.len {W1 wr : World} {N wb S : Nat} {Wh : List Int} (h : RW W1 wr N wb S Wh) : Wh.length = S := by
  have := h.row.1
  rw [intsV_len] at this
  omega
theorem RW.lt {W1 wr : World} {N wb S : Nat} {Wh : List Int} (h : RW W1 wr N wb S Wh) : wb < wr.heap.size := (h.row.lt wb rfl).2
theorem RW.cell {W1 wr : World} {N wb S : Nat} {Wh : List Int} (h : RW W1 wr N wb S Wh) {j : Nat} {x : Int} (hx : Wh[j]? = some x) : wr.cell? ⟨wb, j, none⟩ = some (.int .i64 x) := by
  have := (List.getElem?_eq_some_iff.1 hx).1
  rw [h.row.cellAt j (by rw [h.len] at this; omega)]
  exact intsV_get hx
theorem RW.fr {W1 wr : World} {N wb S : Nat} {Wh : List Int} (h : RW W1 wr N wb S Wh) (j : Nat) : wr.frozen? ⟨wb, j, none⟩ = false := h.row.frozenAt j
theorem RW.set {W1 wr : World} {N wb S : Nat} {Wh : List Int} (h : RW W1 wr N wb S Wh) (j : Nat) (x : Int) : RW W1 (wr.setCell ⟨wb, j, none⟩ (.int .i64 x)) N wb S (Wh.set j x) := by
  refine ⟨h.bel.setCell (p := ⟨wb, j, none⟩) h.lb _, ?_, h.lb⟩
  have := (h.row.stored j (.int .i64 x)).1
  rwa [show (intsV Wh).set j (.int .i64 x) = intsV (Wh.set j x) by simp [intsV, List.map_set]] at this
theorem RW.le {W1 wr : World} {N wb S : Nat} {Wh : List Int} (h : RW W1 wr N wb S Wh) : N ≤ wr.heap.size := by have := h.lt; have := h.lb; omega
theorem RW.alloc {W1 wr : World} {N wb S : Nat} {Wh : List Int} (h : RW W1 wr N wb S Wh) (o : Obj) : RW W1 (wr.alloc o) N wb S Wh := ⟨h.bel.alloc h.le o, h.row.alloc o, h.lb⟩

/-- What an ask that is met comes to. -/
theorem step_ok {S : Nat} {pol : Int} {s : St} {q m : Int} (hO : Ok S s) (h : (stepS S pol s (q, m)).1 = 0) :
    (q = 1 ∧ ∃ (i n : Nat) (b : Nat × Nat), m = (n : Int) ∧ 1 ≤ n ∧ n ≤ b.2 ∧ s.bl[i]? = some b ∧ stepS S pol s (q, m) = (0, b.1, ⟨cutB s.bl i n, updT s.tk (b.1 : Nat) (some n), b.1 + n⟩)) ∨
    (q = 2 ∧ ∃ p n : Nat, m = (p : Int) ∧ s.tk (p : Int) = some n ∧ stepS S pol s (q, m) = (0, 0, ⟨freeB s.bl (p, n), updT s.tk (p : Int) none, s.en⟩)) := by
  by_cases h1 : q = 1
  · subst h1
    rcases step_take pol hO m with ⟨h2, _⟩ | ⟨i, k, b, hn, hk, hb, hkb, _, hs⟩
    · exact absurd h h2
    · exact .inl ⟨rfl, i, k, b, hn, hk, hkb, hb, hs⟩
  · by_cases h2 : q = 2
    · subst h2
      cases ht : s.tk m with
      | none =>
        unfold stepS at h
        rw [if_neg (show ¬ (2 : Int) = 1 by decide), if_pos rfl] at h
        simp only [ht] at h
        cases h
      | some n =>
        obtain ⟨p, rfl⟩ : ∃ p : Nat, m = (p : Int) := ⟨m.toNat, by have := (hO.tk m n ht).1; omega⟩
        exact .inr ⟨rfl, p, n, rfl, ht, step_give ht⟩
    · unfold stepS at h
      rw [if_neg h1, if_neg h2] at h
      cases h
theorem step_bad {S : Nat} {pol : Int} {s : St} {q m : Int} (hO : Ok S s) (h : (stepS S pol s (q, m)).1 ≠ 0) : (stepS S pol s (q, m)).2.2 = s := by
  by_cases h1 : q = 1
  · subst h1
    rcases step_take pol hO m with ⟨_, h2⟩ | ⟨i, k, b, hn, hk, hb, hkb, _, hs⟩
    · exact h2
    · rw [hs] at h; exact absurd rfl h
  · by_cases h2 : q = 2
    · subst h2
      unfold stepS at h ⊢
      rw [if_neg (show ¬ (2 : Int) = 1 by decide), if_pos rfl] at h ⊢
      cases ht : s.tk m with
      | none => rfl
      | some n => simp only [ht] at h; exact absurd rfl h
    · unfold stepS
      rw [if_neg h1, if_neg h2]

theorem made_ints (n : Nat) : (madeCells (Value.cells (.int .i64 0)) (n * 1)).toList = intsV (List.replicate n 0) := by
  simp only [madeCells, intsV, Value.cells, Nat.mul_one]
  apply List.ext_getElem
  · simp
  · intro i h1 h2
    simp [Nat.mod_one]

theorem codesL_get {S : Nat} {pol : Int} {sc : List (Int × Int)} {n k : Nat} (h : k < n) : (codesL S pol sc n)[k]? = some (codeK S pol sc k) := by simp [codesL, h]
theorem atsL_get {S : Nat} {pol : Int} {sc : List (Int × Int)} {n k : Nat} (h : k < n) : (atsL S pol sc n)[k]? = some ((atK S pol sc k : Nat) : Int) := by simp [atsL, h]

end Go.Proofs.Ytgbbcfngncofgaa

/- Walks: codes, Ints; FreeFront. -/
namespace Go.Proofs.Ytgbbcfngncofgaa
set_option linter.unusedSimpArgs false
set_option linter.unusedVariables false
open Go.RowKit

set_option maxRecDepth 100000 in
set_option maxHeartbeats 2000000 in
theorem codes_c (a a' : Option Addr) (c c' : Nat) (l l' : List Int) (B : Nat) (w : World) (h : Nums B w a l) (h' : Nums B w a' l') (hB : B ≤ w.heap.size) (hp : ∀ (k : Nat) (x : Int), l[k]? = some x → l'[k]? = some x) (hle : l.length ≤ l'.length) :
    Calls Try.prog 14 #[.slice a l.length c, .slice a' l'.length c'] w fun e w' => e = .returned (.bool true) ∧ Below w.heap.size w w' := by
  have hl := h.1
  have hl' := h'.1
  have d0 : decide (l'.length < l.length) = false := decide_eq_false (by omega)
  have Hp := hide hp
  clear hp
  go_enter Try.func14, Try.ntmps14
  go_wp2
  go_loopw [5] (fun i wr => ∃ k : Nat, k ≤ l.length ∧ i = .int .i64 k ∧ Below w.heap.size w wr) (fun i _ => l.length - (intOf i).toNat)
  case atStart => exact ⟨0, Nat.zero_le _, rfl, Below.refl _ _⟩
  case round =>
    obtain ⟨k, hk, rfl, hb⟩ := hrel
    have hsz := hb.size
    by_cases hlt : k < l.length
    · have hx : l[k]? = some l[k] := List.getElem?_eq_getElem hlt
      obtain ⟨b, off, rfl, hbB, x0⟩ := (h.below (hb.mono hB)).at hx
      obtain ⟨b', off', rfl, hbB', y0⟩ := (h'.below (hb.mono hB)).at (unhide Hp k _ hx)
      have hkI : (k : Int) < (l.length : Int) := by omega
      have hkI' : (k : Int) < (l'.length : Int) := by omega
      have hq : b < wr.heap.size := by omega
      have hq' : b' < wr.heap.size := by omega
      generalize l[k] = x at *
      have d1 : (x != x) = false := by simp
      clear hx
      go_wp2
      go_quiet (fail)
      have hbn := below_drewN hb nq
      clear x0 y0 hq hq'
      generalize wr.drewN nq = wq at *
      go_wp2
      go_roundw
      case rel => exact ⟨k + 1, by omega, by go_num, hbn⟩
      case measure => simp [intOf]; omega
    · obtain rfl : k = l.length := by omega
      go_wp2
      go_ret
      exact ⟨rfl, hb⟩

set_option maxRecDepth 100000 in
set_option maxHeartbeats 2000000 in
theorem ints_c (a a' : Option Addr) (c c' : Nat) (l : List Int) (B : Nat) (w : World) (h : Nums B w a l) (h' : Nums B w a' l) (hB : B ≤ w.heap.size) :
    Calls Try.prog 15 #[.slice a l.length c, .slice a' l.length c'] w fun e w' => e = .returned (.bool true) ∧ Below w.heap.size w w' := by
  have hl := h.1
  have d0 : ((l.length : Int) != (l.length : Int)) = false := by simp
  go_enter Try.func15, Try.ntmps15
  go_wp2
  go_loopw [5] (fun i wr => ∃ k : Nat, k ≤ l.length ∧ i = .int .i64 k ∧ Below w.heap.size w wr) (fun i _ => l.length - (intOf i).toNat)
  case atStart => exact ⟨0, Nat.zero_le _, rfl, Below.refl _ _⟩
  case round =>
    obtain ⟨k, hk, rfl, hb⟩ := hrel
    have hsz := hb.size
    by_cases hlt : k < l.length
    · have hx : l[k]? = some l[k] := List.getElem?_eq_getElem hlt
      obtain ⟨b, off, rfl, hbB, x0⟩ := (h.below (hb.mono hB)).at hx
      obtain ⟨b', off', rfl, hbB', y0⟩ := (h'.below (hb.mono hB)).at hx
      have hkI : (k : Int) < (l.length : Int) := by omega
      have hq : b < wr.heap.size := by omega
      have hq' : b' < wr.heap.size := by omega
      generalize l[k] = x at *
      have d1 : (x != x) = false := by simp
      clear hx
      go_wp2
      go_quiet (fail)
      have hbn := below_drewN hb nq
      clear x0 y0 hq hq'
      generalize wr.drewN nq = wq at *
      go_wp2
      go_roundw
      case rel => exact ⟨k + 1, by omega, by go_num, hbn⟩
      case measure => simp [intOf]; omega
    · obtain rfl : k = l.length := by omega
      go_wp2
      go_ret
      exact ⟨rfl, hb⟩

theorem Asks.take {B : Nat} {w : World} {a : Option Addr} {l : List (Int × Int)} (h : Asks B w a l) (n : Nat) : Asks B w a (l.take n) := by
  refine ⟨by have := h.1; simp; omega, fun hne => ?_⟩
  obtain ⟨b, off, rfl, hB, hc⟩ := h.2 (by rintro rfl; simp at hne)
  refine ⟨b, off, rfl, hB, fun k v hk => hc k v ?_⟩
  rw [List.getElem?_take] at hk
  split at hk
  · exact hk
  · cases hk
theorem Nums.take {B : Nat} {w : World} {a : Option Addr} {l : List Int} (h : Nums B w a l) (n : Nat) : Nums B w a (l.take n) := by
  refine ⟨by have := h.1; simp; omega, fun hne => ?_⟩
  obtain ⟨b, off, rfl, hB, hc⟩ := h.2 (by rintro rfl; simp at hne)
  refine ⟨b, off, rfl, hB, fun k v hk => hc k v ?_⟩
  rw [List.getElem?_take] at hk
  split at hk
  · exact hk
  · cases hk

theorem bounds_u8' {n : Int} (h : (Lit.int .u8 n).wf = true) : 0 ≤ n ∧ n ≤ 255 := by
  simp [Lit.wf, IntKind.min, IntKind.max, IntKind.signed, IntKind.bits] at h
  omega

/-- What is asked later changes nothing. -/
theorem front_same {S : Nat} {pol : Int} {sc sc' : List (Int × Int)} {n : Nat} (h : ∀ i, i < n → sc.getD i (0, 0) = sc'.getD i (0, 0)) {k : Nat} (hk : k ≤ n) : codesL S pol sc k = codesL S pol sc' k ∧ atsL S pol sc k = atsL S pol sc' k ∧ stK S pol sc k = stK S pol sc' k := by
  have hst : ∀ i, i ≤ n → stK S pol sc i = stK S pol sc' i := fun i hi => stepS_same S pol (fun j hj => h j (by omega))
  refine ⟨?_, ?_, hst k hk⟩
  · unfold codesL
    refine List.map_congr_left fun i hi => ?_
    have := List.mem_range.1 hi
    unfold codeK
    rw [hst i (by omega), h i (by omega)]
  · unfold atsL
    refine List.map_congr_left fun i hi => ?_
    have := List.mem_range.1 hi
    unfold atK
    rw [hst i (by omega), h i (by omega)]
theorem codesL_take (S : Nat) (pol : Int) (sc : List (Int × Int)) (n k : Nat) (h : k ≤ n) : (codesL S pol sc n).take k = codesL S pol sc k := by
  unfold codesL
  rw [← List.map_take, List.take_range, Nat.min_eq_left h]
theorem atsL_take (S : Nat) (pol : Int) (sc : List (Int × Int)) (n k : Nat) (h : k ≤ n) : (atsL S pol sc n).take k = atsL S pol sc k := by
  unfold atsL
  rw [← List.map_take, List.take_range, Nat.min_eq_left h]
theorem getD_take {α : Type} {l : List α} {n i : Nat} {d : α} (h : i < n) : (l.take n).getD i d = l.getD i d := by
  rw [List.getD_eq_getElem?_getD, List.getD_eq_getElem?_getD, List.getElem?_take, if_pos h]

theorem plIs_front {z pol : Int} {sc : List (Int × Int)} {n : Nat} {C A C' A' : List Int} {F F' : List (Nat × Nat)} (hn : n ≤ sc.length) (h : PlIs z pol sc C A F) (h' : PlIs z pol (sc.take n) C' A' F') (hE : playE z pol sc.length = 0) :
    playE z pol (sc.take n).length = 0 ∧ C.length = sc.length ∧ A.length = sc.length ∧ C'.length = n ∧ A'.length = n ∧ C.take n = C' ∧ A.take n = A' := by
  obtain ⟨e1, e2, e3, e4, e5⟩ := playE_ok hE
  have hE' : playE z pol (sc.take n).length = 0 := by
    unfold playE
    rw [if_neg (by omega), if_neg (by omega), if_neg (by simp; omega)]
  obtain ⟨rfl, rfl, rfl⟩ := h.2 hE
  obtain ⟨rfl, rfl, rfl⟩ := h'.2 hE'
  have hl : (sc.take n).length = n := by simp; omega
  have hf := front_same (S := z.toNat) (pol := pol) (sc := sc.take n) (sc' := sc) (n := n) (fun i hi => getD_take hi) (Nat.le_refl n)
  rw [hl]
  refine ⟨by rw [hl] at hE'; exact hE', codesL_len _ _ _ _, atsL_len _ _ _ _, codesL_len _ _ _ _, atsL_len _ _ _ _, ?_, ?_⟩
  · rw [codesL_take _ _ _ _ _ hn, hf.1]
  · rw [atsL_take _ _ _ _ _ hn, hf.2.1]

set_option maxRecDepth 100000 in
set_option maxHeartbeats 4000000 in
theorem freeFront_c (z pol : Int) (a : Option Addr) (c : Nat) (sc : List (Int × Int)) (kk : Int) (w : World) (hA : Asks w.heap.size w a sc) (hI : I64s sc) (hc : sc.length ≤ c) (hcm : c ≤ 9223372036854775807) (hk0 : 0 ≤ kk) (hk1 : kk ≤ 255) :
    Calls Try.prog 8 #[.int .i64 z, .int .i64 pol, .slice a sc.length c, .int .u8 kk] w fun e w' => e = .returned (.bool true) ∧ Below w.heap.size w w' := by
  have Hc := hide (play_c z pol a c sc w.heap.size w hA (Nat.le_refl _) hI)
  have hsl := hA.1
  obtain ⟨n, hn, hnl⟩ : ∃ n : Nat, kk % wrap64 ((sc.length : Int) + 1) = (n : Int) ∧ n ≤ sc.length := by
    by_cases h : (sc.length : Int) + 1 ≤ 9223372036854775807
    · have e : wrap64 ((sc.length : Int) + 1) = (sc.length : Int) + 1 := by unfold wrap64; omega
      rw [e]
      have h1 := Int.emod_nonneg kk (show (sc.length : Int) + 1 ≠ 0 by omega)
      have h2 := Int.emod_lt_of_pos kk (show (0 : Int) < (sc.length : Int) + 1 by omega)
      exact ⟨(kk % ((sc.length : Int) + 1)).toNat, by omega, by omega⟩
    · have e : wrap64 ((sc.length : Int) + 1) = -9223372036854775808 := by unfold wrap64; omega
      rw [e, show (-9223372036854775808 : Int) = -(9223372036854775808 : Int) from rfl, Int.emod_neg]
      exact ⟨kk.toNat, by omega, by omega⟩
  have hw0 : ¬ wrap64 ((sc.length : Int) + 1) = 0 := by unfold wrap64; omega
  have HI : Hid (I64s (sc.take n)) := fun x hx => hI x (List.mem_of_mem_take hx)
  have HA := hide (hA.take n)
  clear hA hI
  go_enter Try.func8, Try.ntmps8
  go_wp2_with fail
  refine (unhide Hc).mono ?_
  rintro e w2 ⟨hR, hb2⟩
  obtain ⟨ac, cc, aa, ca, af, cf, C, A, F, rfl, nc, na, nf, hIs, hca, _⟩ := hR
  have hs2 := hb2.size
  clear Hc
  have hln : (sc.take n).length = n := by simp; omega
  obtain ⟨W3, hW3⟩ : ∃ W3, w2.alloc (.cells #[.slice ac C.length cc, .slice aa A.length ca, .slice af F.length cf] 27) = W3 := ⟨_, rfl⟩
  have hb3 : Below w2.heap.size w2 W3 := by rw [← hW3]; exact (Below.refl _ _).alloc (Nat.le_refl _) _
  have hs3 : w2.heap.size < W3.heap.size := by rw [← hW3]; simp
  have t0 : W3.cell? ⟨w2.heap.size, 0, none⟩ = some (.slice ac C.length cc) := by rw [← hW3]; simp [go_sem]
  have t1 : W3.cell? ⟨w2.heap.size, 1, none⟩ = some (.slice aa A.length ca) := by rw [← hW3]; simp [go_sem]
  have hbw3 : Below w.heap.size w W3 := hb2.trans (hb3.mono hs2)
  have Hc2 := hide (play_c z pol a c (sc.take n) w.heap.size W3 ((unhide HA).below hbw3) (by omega) (unhide HI))
  rw [hln] at Hc2
  have Hln := hide hln
  have hnI : (n : Int) ≤ (c : Int) := by omega
  have hn0 : n ≤ c := by omega
  have nc3 := hide (nc.below hb3)
  have na3 := hide (na.below hb3)
  clear hln nc na nf
  go_wp2_with fail
  refine (unhide Hc2).mono ?_
  rintro e w4 ⟨hR, hb4⟩
  obtain ⟨ac', cc', aa', ca', af', cf', C', A', F', rfl, nc', na', nf', hIs', hca', _⟩ := hR
  have hs4 := hb4.size
  obtain ⟨W5, hW5⟩ : ∃ W5, w4.alloc (.cells #[.slice ac' C'.length cc', .slice aa' A'.length ca', .slice af' F'.length cf'] 27) = W5 := ⟨_, rfl⟩
  have hb5 : Below w4.heap.size w4 W5 := by rw [← hW5]; exact (Below.refl _ _).alloc (Nat.le_refl _) _
  have hs5 : w4.heap.size < W5.heap.size := by rw [← hW5]; simp
  have u0 : W5.cell? ⟨w4.heap.size, 0, none⟩ = some (.slice ac' C'.length cc') := by rw [← hW5]; simp [go_sem]
  have u1 : W5.cell? ⟨w4.heap.size, 1, none⟩ = some (.slice aa' A'.length ca') := by rw [← hW5]; simp [go_sem]
  have hb35 : Below W3.heap.size W3 W5 := hb4.trans (hb5.mono hs4)
  have t0' := (hb35.cell (p := ⟨w2.heap.size, 0, none⟩) hs3).trans t0
  have t1' := (hb35.cell (p := ⟨w2.heap.size, 1, none⟩) hs3).trans t1
  have hbw5 : Below w.heap.size w W5 := hbw3.trans (hb35.mono (by omega))
  have nc5 := hide ((unhide nc3).below (hb35.mono (by omega)))
  have na5 := hide ((unhide na3).below (hb35.mono (by omega)))
  have nc5' := hide (nc'.below hb5)
  have na5' := hide (na'.below hb5)
  clear Hc2 nc' na' nf' t0 t1 nc3 na3
  by_cases hE : playE z pol sc.length = 0
  · obtain ⟨p0, p1, p2, p3, p4, p5, p6⟩ := plIs_front hnl (unhide hIs) (unhide hIs') hE
    have Hco : Hid (∀ w', Below W5.heap.size W5 w' → Calls Try.prog 14 #[.slice ac' C'.length cc', .slice ac C.length cc] w' fun e w2 => e = .returned (.bool true) ∧ Below w'.heap.size w' w2) := fun w' hw' => codes_c ac' ac cc' cc C' C W5.heap.size w' (((unhide nc5').mono (by omega)).below hw') (((unhide nc5).mono (by omega)).below hw') hw'.size (fun k x hx => by
      rw [← p5, List.getElem?_take] at hx
      split at hx
      · exact hx
      · cases hx) (by omega)
    have Hin : Hid (∀ w', Below W5.heap.size W5 w' → Calls Try.prog 15 #[.slice aa' A'.length ca', .slice aa n ca] w' fun e w2 => e = .returned (.bool true) ∧ Below w'.heap.size w' w2) := fun w' hw' => by
      have h1 := ((unhide na5').mono (show w4.heap.size ≤ W5.heap.size by omega)).below hw'
      have h2 := (((unhide na5).mono (show w2.heap.size ≤ W5.heap.size by omega)).below hw').take n
      rw [p6] at h2
      have := ints_c aa' aa ca' ca A' W5.heap.size w' h1 h2 hw'.size
      rw [p4] at this ⊢
      exact this
    have d1 : ((C.length : Int) == (sc.length : Int)) = true := by simp; omega
    have d2 : ((A.length : Int) == (sc.length : Int)) = true := by simp; omega
    have d3 : ((C'.length : Int) == (n : Int)) = true := by simp; omega
    have d4 : n ≤ ca := by omega
    have G0 := cell_regrown t0'
    have G1 := cell_regrown t1'
    have G2 := cell_regrown u0
    have G3 := cell_regrown u1
    rw [hE, p0]
    clear hE p0 p1 p2 p3 p4 p5 p6 hIs hIs' nc5 na5 nc5' na5' t0' t1' u0 u1
    go_wp2
    refine wp_region_quiet_below (by kernel_rfl) (by kernel_rfl) ?_
    repeat (go_big_quiet_step (first | exact Calls.regrown_of (unhide Hco _ (below_regrown W5 _ _)) | exact Calls.regrown_of (unhide Hin _ (below_regrown W5 _ _))))
    refine wpQuiet_nil ?_
    intro _ hw'
    obtain ⟨⟨dq, osq⟩, hw''⟩ := hw'
    subst hw''
    have hbq := hbw5.trans ((below_regrown W5 dq osq).mono (by omega))
    clear G0 G1 G2 G3
    go_wp2
    go_ret
    exact ⟨rfl, hbq⟩
  · generalize playE z pol sc.length = E at *
    generalize playE z pol (sc.take n).length = E' at *
    have d0 : (E != 0) = true := by simpa using hE
    clear hE
    go_wp2
    go_ret
    exact ⟨rfl, hbw5⟩

end Go.Proofs.Ytgbbcfngncofgaa

/- Scripts that are made; Blocks. -/
namespace Go.Proofs.Ytgbbcfngncofgaa
set_option linter.unusedSimpArgs false
set_option linter.unusedVariables false
open Go.RowKit

/-- The cells of asks. -/
def cellsQ (l : List (Int × Int)) : List Value := l.flatMap fun x => [.int .i64 x.1, .int .i64 x.2]
theorem cellsQ_snoc (l : List (Int × Int)) (a n : Int) : cellsQ (l ++ [(a, n)]) = cellsQ l ++ [.int .i64 a, .int .i64 n] := by simp [cellsQ]
theorem cellsQ_len : ∀ (l : List (Int × Int)), (cellsQ l).length = l.length * 2
  | [] => rfl
  | x :: l => by have := cellsQ_len l; simp only [cellsQ, List.flatMap_cons, List.length_append, List.length_cons, List.length_nil] at *; omega
theorem cellsQ_get : ∀ (l : List (Int × Int)) (k : Nat) (x : Int × Int), l[k]? = some x → (cellsQ l)[k * 2]? = some (.int .i64 x.1) ∧ (cellsQ l)[k * 2 + 1]? = some (.int .i64 x.2)
  | [], _, _, h => by simp at h
  | x :: l, 0, v, h => by simp at h; subst h; simp [cellsQ]
  | x :: l, k + 1, v, h => by
    have := cellsQ_get l k v (by simpa using h)
    have e1 : (k + 1) * 2 = k * 2 + 1 + 1 := by omega
    rw [e1]
    simp only [cellsQ, List.flatMap_cons, List.cons_append, List.nil_append, List.getElem?_cons_succ]
    exact this
theorem cellsQ_at : ∀ (l : List (Int × Int)) (j : Nat) (u : Value), (cellsQ l)[j]? = some u → ∃ k x, l[k]? = some x ∧ ((j = k * 2 ∧ u = .int .i64 x.1) ∨ (j = k * 2 + 1 ∧ u = .int .i64 x.2))
  | [], j, u, h => by simp [cellsQ] at h
  | x :: l, 0, u, h => by
    simp [cellsQ] at h
    exact ⟨0, x, rfl, .inl ⟨rfl, h.symm⟩⟩
  | x :: l, 1, u, h => by
    simp [cellsQ] at h
    exact ⟨0, x, rfl, .inr ⟨rfl, h.symm⟩⟩
  | x :: l, j + 2, u, h => by
    simp only [cellsQ, List.flatMap_cons, List.cons_append, List.nil_append, List.getElem?_cons_succ] at h
    obtain ⟨k, y, hk, hy⟩ := cellsQ_at l j u h
    refine ⟨k + 1, y, by simpa using hk, ?_⟩
    rcases hy with ⟨h1, h2⟩ | ⟨h1, h2⟩
    · exact .inl ⟨by omega, h2⟩
    · exact .inr ⟨by omega, h2⟩
theorem cellsQ_one {u : Value} {l : List (Int × Int)} (h : u ∈ cellsQ l) : u.oneCell' = true := by
  simp only [cellsQ, List.mem_flatMap] at h
  obtain ⟨x, _, hx⟩ := h
  simp at hx
  rcases hx with rfl | rfl <;> rfl

theorem Asks.cells {B : Nat} {w : World} {a : Option Addr} {l : List (Int × Int)} (h : Asks B w a l) (hne : 0 < (cellsQ l).length) : ∃ ad, a = some ad ∧ ∀ j v, (cellsQ l)[j]? = some v → w.cell? (ad.add j) = some v := by
  obtain ⟨b, off, rfl, hB, hc⟩ := h.2 (by rintro rfl; simp [cellsQ] at hne)
  refine ⟨_, rfl, fun j v hj => ?_⟩
  obtain ⟨k, x, hk, hx⟩ := cellsQ_at l j v hj
  obtain ⟨h1, h2⟩ := hc k x hk
  rw [Addr.add_lit]
  rcases hx with ⟨rfl, rfl⟩ | ⟨rfl, rfl⟩
  · exact h1
  · rw [← Nat.add_assoc]; exact h2

theorem asks_of_owns {w : World} {base g cap : Nat} {l : List (Int × Int)} (h : w.ownsRow base 38 2 (.slice (some ⟨g, 0, none⟩) l.length cap) l.length (cellsQ l)) (hs : l.length ≤ 9223372036854775807) : Asks w.heap.size w (some ⟨g, 0, none⟩) l := by
  refine ⟨hs, fun _ => ⟨g, 0, rfl, (h.lt g rfl).2, fun k x hk => ?_⟩⟩
  have hlt := (List.getElem?_eq_some_iff.1 hk).1
  obtain ⟨h1, h2⟩ := cellsQ_get l k x hk
  exact ⟨by rw [Nat.zero_add, h.cellAt _ (by omega)]; exact h1, by rw [Nat.zero_add, h.cellAt _ (by omega)]; exact h2⟩

/-- append of a slice that may be nil to a row of the call's own. -/
theorem run_append_q (w : World) (base : Nat) (ty : TypeId) (g cap n : Nat) (xs : List Value) (hown : w.ownsRow base 38 2 (.slice (some ⟨g, 0, none⟩) n cap) n xs) (sp : Option Addr) (m c : Nat) (cs : List Value) (hl : cs.length = m * 2)
    (hpos : 0 < cs.length → ∃ ad, sp = some ad ∧ ∀ j v, cs[j]? = some v → w.cell? (ad.add j) = some v) (h1 : ∀ v ∈ cs, v.oneCell' = true) (hs : n + m ≤ 1000) (hbase : base ≤ w.heap.size) :
    ∃ v' w', (Builtin.append_ #[22, 22] ty #[.slice (some ⟨g, 0, none⟩) n cap, .slice sp m c]).run Try.prog w = .ok v' w' ∧ w'.ownsRow base 38 2 v' (n + m) (xs ++ cs) ∧ w.grownBy w' (some g) ∧ (∃ g' cap', v' = .slice (some ⟨g', 0, none⟩) (n + m) cap') := by
  obtain ⟨i0, hi0, hz0, hz1, hz2⟩ := info_parts Try.info38
  by_cases h0 : cs.length = 0
  · obtain rfl : cs = [] := List.eq_nil_of_length_eq_zero h0
    have hm : m = 0 := by simp at hl; omega
    subst hm
    have hnc : n ≤ cap := by
      rcases hown.2 with ⟨e, _⟩ | ⟨g', cap', cur, e, _, _, h3, _⟩
      · cases e
      · injection e with _ _ e; omega
    have hld : ∀ (x : Addr), (loadCells x 0).run Try.prog w = .ok #[] w := fun x => by simpa using run_loadCells_list (P := Try.prog) w x [] (by simp)
    refine ⟨_, w, ?_, by rw [List.append_nil]; exact hown, ⟨rfl, rfl, rfl, Nat.le_refl _, fun _ _ _ => rfl⟩, ⟨g, cap, rfl⟩⟩
    cases sp <;> simp [Builtin.append_, run_underlying Try.underlying22, sizeOf, typeInfo, hi0, hz1, Builtin.lenOf, hnc, Builtin.firstCells, storeCells, hld]
  · obtain ⟨ad, rfl, hsrc⟩ := hpos (by omega)
    obtain ⟨v', w', hr, h2, h3, h4⟩ := run_append_own (P := Try.prog) w base 22 ty 38 i0 _ 2 16 Try.underlying22 hi0 hz0 hz1 hz2 rfl (by decide) _ n xs hown ad m c cs hl hsrc h1 (by simp only [maxLen]; omega) (by omega) hbase
    refine ⟨v', w', hr, h2, h3, ?_⟩
    obtain ⟨k, hk⟩ : ∃ k, n + m = k + 1 := ⟨n + m - 1, by omega⟩
    rw [hk] at h2 ⊢
    exact ownsRow_succ h2

theorem eql_bin (a1 a2 n1 n2 : Int) (w : World) : (Op.equalIn 10000 36 (.agg #[.int .i64 a1, .int .i64 n1]) (.agg #[.int .i64 a2, .int .i64 n2])).run Try.prog w = .ok (a1 == a2 && n1 == n2) w := by
  have u3 := Try.underlying3
  have a3 := Try.isAgg3
  have z3 := Try.sizeOf3
  have hS : Try.prog.underlying 36 = some (.struct (Try.prog.fieldsOf 36)) := by kernel_rfl
  have hp : Try.prog.stoodInHeld 36 = false := by kernel_rfl
  rw [show (10000 : Nat) = 9999 + 1 from rfl, run_equalIn_agg w 9999 36 _ _ hS hp]
  simp only [Program.fieldsOf, Try.underlying36]
  go_simp
  by_cases h1 : a1 = a2 <;> by_cases h2 : n1 = n2 <;> simp [h1, h2]
theorem neq_b (a1 a2 n1 n2 : Int) (w : World) : (binOp .neq 36 (.agg #[.int .i64 a1, .int .i64 n1]) (.agg #[.int .i64 a2, .int .i64 n2])).run Try.prog w = .ok (.bool (!(a1 == a2 && n1 == n2))) w := by
  rw [run_neq_struct, eql_bin]; rfl

set_option maxRecDepth 100000 in
set_option maxHeartbeats 2000000 in
theorem blocks_c (a a' : Option Addr) (c c' : Nat) (l l' : List (Nat × Nat)) (B : Nat) (w : World) (h : Blks B w a l) (h' : Blks B w a' l') (hB : B ≤ w.heap.size) :
    Calls Try.prog 13 #[.slice a l.length c, .slice a' l'.length c'] w fun e w' => e = .returned (.bool (decide (l = l'))) ∧ Below w.heap.size w w' := by
  have hneq := neq_b
  have hl := h.1
  have hl' := h'.1
  by_cases hL : l.length = l'.length
  · have d0 : ((l.length : Int) != (l'.length : Int)) = false := by simp; omega
    have HL := hide hL
    have hLI : (l.length : Int) ≤ (l'.length : Int) := by omega
    clear hL
    go_enter Try.func13, Try.ntmps13
    go_wp2
    go_loopw [5] (fun i wr => ∃ k : Nat, k ≤ l.length ∧ i = .int .i64 k ∧ Below w.heap.size w wr ∧ Hid (l.take k = l'.take k)) (fun i _ => l.length - (intOf i).toNat)
    case atStart => exact ⟨0, Nat.zero_le _, rfl, Below.refl _ _, rfl⟩
    case round =>
      obtain ⟨k, hk, rfl, hb, HT⟩ := hrel
      have hsz := hb.size
      by_cases hlt : k < l.length
      · have hlt' : k < l'.length := by have := unhide HL; omega
        obtain ⟨p, n, hx⟩ : ∃ p n, l[k]? = some (p, n) := ⟨l[k].1, l[k].2, List.getElem?_eq_getElem hlt⟩
        obtain ⟨p', n', hy⟩ : ∃ p n, l'[k]? = some (p, n) := ⟨l'[k].1, l'[k].2, List.getElem?_eq_getElem hlt'⟩
        obtain ⟨b, off, rfl, hbB, hc0, hc1⟩ := (h.below (hb.mono hB)).at hx
        obtain ⟨b', off', rfl, hbB', hd0, hd1⟩ := (h'.below (hb.mono hB)).at hy
        have hkI : (k : Int) < (l.length : Int) := by omega
        have hkI' : (k : Int) < (l'.length : Int) := by omega
        have hq : b < wr.heap.size := by omega
        have hq' : b' < wr.heap.size := by omega
        by_cases heq : p = p' ∧ n = n'
        · obtain ⟨rfl, rfl⟩ := heq
          have HT2 : Hid (l.take (k + 1) = l'.take (k + 1)) := by
            show _ = _
            rw [List.take_add_one, List.take_add_one, unhide HT, hx, hy]
          have d1 : (!((p : Int) == (p : Int) && (n : Int) == (n : Int))) = false := by simp
          clear hx hy
          go_wp2
          go_quiet (fail)
          have hbn := below_drewN hb nq
          clear hc0 hc1 hd0 hd1 hq hq'
          generalize wr.drewN nq = wq at *
          go_wp2
          go_roundw
          case rel => exact ⟨k + 1, by omega, by go_num, hbn, HT2⟩
          case measure => simp [intOf]; omega
        · have Hne : Hid (decide (l = l') = false) := by
            show _ = _
            refine decide_eq_false fun e => heq ?_
            subst e
            rw [hx] at hy
            simpa using hy
          have d1 : (!((p : Int) == (p' : Int) && (n : Int) == (n' : Int))) = true := by
            simp
            omega
          clear hx hy heq
          go_wp2
          go_quiet (fail)
          have hbn := below_drewN hb nq
          clear hc0 hc1 hd0 hd1 hq hq'
          generalize wr.drewN nq = wq at *
          go_wp2
          go_ret
          exact ⟨by rw [unhide Hne]; rfl, hbn⟩
      · obtain rfl : k = l.length := by omega
        have Heq : Hid (decide (l = l') = true) := by
          show _ = _
          refine decide_eq_true ?_
          have := unhide HT
          rw [List.take_of_length_le (Nat.le_refl _), List.take_of_length_le (by have := unhide HL; omega)] at this
          exact this
        go_wp2
        go_ret
        exact ⟨by rw [unhide Heq]; rfl, hb⟩
  · have d0 : ((l.length : Int) != (l'.length : Int)) = true := by simp; omega
    have Hne : Hid (decide (l = l') = false) := by
      show _ = _
      refine decide_eq_false fun e => hL ?_
      rw [e]
    clear hL
    go_enter Try.func13, Try.ntmps13
    go_wp2
    go_ret
    exact ⟨by rw [unhide Hne]; rfl, Below.refl _ _⟩

end Go.Proofs.Ytgbbcfngncofgaa

/- Walks: FreeBack. -/
namespace Go.Proofs.Ytgbbcfngncofgaa
set_option linter.unusedSimpArgs false
set_option linter.unusedVariables false
open Go.RowKit

/-- What was told, in a box. -/
structure FBox (W : World) (fb : Nat) (ac : Option Addr) (nc cc : Nat) (aa : Option Addr) (na ca : Nat) (af : Option Addr) (nf cf : Nat) : Prop where
  c0 : W.cell? ⟨fb, 0, none⟩ = some (.slice ac nc cc)
  c1 : W.cell? ⟨fb, 1, none⟩ = some (.slice aa na ca)
  c2 : W.cell? ⟨fb, 2, none⟩ = some (.slice af nf cf)
theorem FBox.lt {W : World} {fb : Nat} {ac : Option Addr} {nc cc : Nat} {aa : Option Addr} {na ca : Nat} {af : Option Addr} {nf cf : Nat} (h : FBox W fb ac nc cc aa na ca af nf cf) : fb < W.heap.size := World.block_lt_of_cell? W _ h.c0
theorem FBox.below {W W' : World} {fb : Nat} {ac : Option Addr} {nc cc : Nat} {aa : Option Addr} {na ca : Nat} {af : Option Addr} {nf cf : Nat} (h : FBox W fb ac nc cc aa na ca af nf cf) {B : Nat} (hb : Below B W W') (hB : fb < B) : FBox W' fb ac nc cc aa na ca af nf cf :=
  ⟨(hb.cell (p := ⟨fb, 0, none⟩) hB).trans h.c0, (hb.cell (p := ⟨fb, 1, none⟩) hB).trans h.c1, (hb.cell (p := ⟨fb, 2, none⟩) hB).trans h.c2⟩
theorem fbox_new (w2 : World) (ac : Option Addr) (nc cc : Nat) (aa : Option Addr) (na ca : Nat) (af : Option Addr) (nf cf : Nat) : FBox (w2.alloc (.cells #[.slice ac nc cc, .slice aa na ca, .slice af nf cf] 27)) w2.heap.size ac nc cc aa na ca af nf cf :=
  ⟨by simp [go_sem], by simp [go_sem], by simp [go_sem]⟩

theorem Blks.kept {B : Nat} {w w' : World} {a : Option Addr} {l : List (Nat × Nat)} (h : Blks B w a l) (hk : ∀ x : Addr, a = some x → w'.heap[x.block]? = w.heap[x.block]?) : Blks B w' a l := by
  refine ⟨h.1, fun hne => ?_⟩
  obtain ⟨b, off, rfl, hB, hc⟩ := h.2 hne
  have hb := hk _ rfl
  refine ⟨b, off, rfl, hB, fun k v hv => ?_⟩
  rw [World.cell?_of_block (a := ⟨b, off + k * 2, none⟩) hb, World.cell?_of_block (a := ⟨b, off + k * 2 + 1, none⟩) hb]
  exact hc k v hv
theorem Blks.lt {B : Nat} {w : World} {l : List (Nat × Nat)} {x : Addr} (h : Blks B w (some x) l) (hne : l ≠ []) : x.block < B := by
  obtain ⟨b, off, e, hB, _⟩ := h.2 hne
  injection e with e
  subst e
  exact hB

/-- What is told of one ask more. -/
theorem plIs_more {z pol : Int} {sc : List (Int × Int)} {x : Int × Int} {C A C' A' : List Int} {F F' : List (Nat × Nat)} (h : PlIs z pol sc C A F) (h' : PlIs z pol (sc ++ [x]) C' A' F') (hE : playE z pol sc.length = 0) (hE' : playE z pol (sc ++ [x]).length = 0) :
    C'.length = sc.length + 1 ∧ A'.length = sc.length + 1 ∧ F = (stK z.toNat pol sc sc.length).bl ∧ F' = (stepS z.toNat pol (stK z.toNat pol sc sc.length) x).2.2.bl ∧
    C'[sc.length]? = some (stepS z.toNat pol (stK z.toNat pol sc sc.length) x).1 ∧ A'[sc.length]? = some (((stepS z.toNat pol (stK z.toNat pol sc sc.length) x).2.1 : Nat) : Int) := by
  obtain ⟨rfl, rfl, rfl⟩ := h.2 hE
  obtain ⟨rfl, rfl, rfl⟩ := h'.2 hE'
  obtain ⟨k1, k2, k3, k4⟩ := stK_snoc z.toNat pol sc x
  have hl : (sc ++ [x]).length = sc.length + 1 := by simp
  rw [hl]
  refine ⟨codesL_len _ _ _ _, atsL_len _ _ _ _, rfl, by rw [k2], ?_, ?_⟩
  · rw [codesL_succ, List.getElem?_append_right (by rw [codesL_len]; omega), codesL_len, Nat.sub_self, k3]; rfl
  · rw [atsL_succ, List.getElem?_append_right (by rw [atsL_len]; omega), atsL_len, Nat.sub_self, k4]; rfl

theorem playE_len {z pol : Int} {n m : Nat} (hn : n ≤ 100) (hm : m ≤ 100) : playE z pol n = playE z pol m := by
  unfold playE
  split
  · rfl
  · split
    · rfl
    · rw [if_neg (by omega), if_neg (by omega)]

set_option maxRecDepth 100000 in
set_option maxHeartbeats 4000000 in
theorem freeBack_c (z pol : Int) (a : Option Addr) (c : Nat) (sc : List (Int × Int)) (n : Int) (w : World) (hA : Asks w.heap.size w a sc) (hI : I64s sc) (hre : sc.length ≤ 9000000000000000000) (hn1 : -9223372036854775808 ≤ n) (hn2 : n ≤ 9223372036854775807) :
    Calls Try.prog 7 #[.int .i64 z, .int .i64 pol, .slice a sc.length c, .int .i64 n] w fun e w' => e = .returned (.bool true) ∧ Below w.heap.size w w' := by
  by_cases hlen : sc.length ≤ 98
  · have Hc := hide (play_c z pol a c sc w.heap.size w hA (Nat.le_refl _) hI)
    have HA := hide hA
    have HI := hide hI
    clear hA hI
    go_enter Try.func7, Try.ntmps7
    go_wp2_with fail
    refine (unhide Hc).mono ?_
    rintro e w2 ⟨hR, hb2⟩
    obtain ⟨ac, cc, aa, ca, af, cf, C, A, F, rfl, nc, na, nf, hIs, hca, _⟩ := hR
    have hs2 := hb2.size
    obtain ⟨W3, hW3⟩ : ∃ W3, w2.alloc (.cells #[.slice ac C.length cc, .slice aa A.length ca, .slice af F.length cf] 27) = W3 := ⟨_, rfl⟩
    have hb3 : Below w2.heap.size w2 W3 := by rw [← hW3]; exact (Below.refl _ _).alloc (Nat.le_refl _) _
    have hs3 : w2.heap.size < W3.heap.size := by rw [← hW3]; simp
    have hF3 : FBox W3 w2.heap.size ac C.length cc aa A.length ca af F.length cf := by rw [← hW3]; exact fbox_new ..
    clear Hc
    -- the script with one take more
    have hown4 : (W3.alloc (.cells #[] 38)).ownsRow W3.heap.size 38 2 (.slice (some ⟨W3.heap.size, 0, none⟩) 0 0) 0 [] := ⟨rfl, .inr ⟨W3.heap.size, 0, #[], rfl, Nat.le_refl _, heap_alloc_new _ _, Nat.le_refl _, by omega, rfl, rfl⟩⟩
    have hb4 : Below W3.heap.size W3 (W3.alloc (.cells #[] 38)) := (Below.refl _ _).alloc (Nat.le_refl _) _
    have hA4 : Asks w.heap.size (W3.alloc (.cells #[] 38)) a sc := (unhide HA).below ((hb2.trans (hb3.mono hs2)).trans (hb4.mono (by omega)))
    obtain ⟨v5, w5, hr5, hown5, hg5, g5, c5, rfl⟩ := run_append_q (W3.alloc (.cells #[] 38)) W3.heap.size 22 W3.heap.size 0 0 [] hown4 a sc.length c (cellsQ sc) (cellsQ_len sc) (fun h => hA4.cells h) (fun v hv => cellsQ_one hv) (by omega) (by simp)
    simp only [Nat.zero_add, List.nil_append] at hown5 hr5
    have hb5 : Below W3.heap.size W3 w5 := hb4.grown hg5 (by simp) (fun k e => by injection e with e; omega)
    have hs5 := hb5.size
    obtain ⟨v7, w7, hr7, hown7, hg7, g7, c7, rfl⟩ := run_append_q (w5.alloc (.cells #[.int .i64 1, .int .i64 n] 38)) W3.heap.size 22 g5 c5 sc.length (cellsQ sc) (hown5.alloc _) (some ⟨w5.heap.size, 0, none⟩) 1 1 [.int .i64 1, .int .i64 n] rfl (fun h => ⟨_, rfl, cell_two_at _ _ _ _ _ rfl⟩) (by simp [Value.oneCell']) (by omega) (by simp; omega)
    have hb7 : Below W3.heap.size W3 w7 := (hb5.alloc hs5 _).grown hg7 (by simp; omega) (fun k e => ((hown5.alloc (.cells #[.int .i64 1, .int .i64 n] 38)).lt k e).1)
    have hs7 := hb7.size
    have hl1 : (sc ++ [((1 : Int), n)]).length = sc.length + 1 := by simp
    rw [← cellsQ_snoc, ← hl1] at hown7
    have hA7 := asks_of_owns hown7 (by omega)
    have HI7 : Hid (I64s (sc ++ [((1 : Int), n)])) := fun x hx => by
      rcases List.mem_append.1 hx with hx | hx
      · exact unhide HI x hx
      · simp at hx; subst hx; exact ⟨by simp, hn1, hn2⟩
    have Hc7 := hide (play_c z pol (some ⟨g7, 0, none⟩) c7 (sc ++ [((1 : Int), n)]) w7.heap.size w7 hA7 (Nat.le_refl _) (unhide HI7))
    rw [hl1] at Hc7 hown7
    have H5 := hide hr5
    have H7 := hide hr7
    have Hown7 := hide hown7
    have HEE : Hid (playE z pol (sc ++ [((1 : Int), n)]).length = playE z pol sc.length) := playE_len (by rw [hl1]; omega) (by omega)
    have HF3 := hide hF3
    have Nf := hide nf
    clear hown4 hA4 hr5 hown5 hg5 hr7 hown7 hg7 hA7 hF3 nc na nf hl1 hb4
    go_wp2_with (first
      | (at_builtin; refine Lib.wpList_append_run _ rfl _ _ 22 22 rfl _ _ rfl rfl _ _ (unhide H5) ?_)
      | (at_builtin; refine Lib.wpList_append_run _ rfl _ _ 22 22 rfl _ _ rfl rfl _ _ (unhide H7) ?_))
    refine (unhide Hc7).mono ?_
    rintro e w8 ⟨hR, hb8⟩
    obtain ⟨ac', cc', aa', ca', af', cf', C', A', F', rfl, nc', na', nf', hIs', hca', hnw'⟩ := hR
    have hs8 := hb8.size
    rw [unhide HEE]
    obtain ⟨W9, hW9⟩ : ∃ W9, w8.alloc (.cells #[.slice ac' C'.length cc', .slice aa' A'.length ca', .slice af' F'.length cf'] 27) = W9 := ⟨_, rfl⟩
    have hb9 : Below w8.heap.size w8 W9 := by rw [← hW9]; exact (Below.refl _ _).alloc (Nat.le_refl _) _
    have hs9 : w8.heap.size < W9.heap.size := by rw [← hW9]; simp
    have hF9 : FBox W9 w8.heap.size ac' C'.length cc' aa' A'.length ca' af' F'.length cf' := by rw [← hW9]; exact fbox_new ..
    have hb39 : Below W3.heap.size W3 W9 := hb7.trans ((hb8.mono hs7).trans (hb9.mono (by omega)))
    have hbw9 : Below w.heap.size w W9 := (hb2.trans (hb3.mono hs2)).trans (hb39.mono (by omega))
    clear Hc7
    by_cases hE : playE z pol sc.length = 0
    · have hE' : playE z pol (sc ++ [((1 : Int), n)]).length = 0 := (unhide HEE).trans hE
      obtain ⟨m1, m2, m3, m4, m5, m6⟩ := plIs_more (unhide hIs) (unhide hIs') hE hE'
      have hz1 := playE_ok hE
      have hO := ok_stK (S := z.toNat) (by omega) pol sc sc.length
      obtain ⟨bC, oC, hac, hbC, yC⟩ := nc'.at m5
      obtain ⟨bA, oA, haa, hbA, yA⟩ := na'.at m6
      subst hac haa
      have yC9 := (hb9.cell (p := ⟨bC, oC + sc.length, none⟩) hbC).trans yC
      have yA9 := (hb9.cell (p := ⟨bA, oA + sc.length, none⟩) hbA).trans yA
      have hbC9 : bC < W9.heap.size := by omega
      have hbA9 : bA < W9.heap.size := by omega
      have hFf : FBox W9 w2.heap.size ac C.length cc aa A.length ca af F.length cf := (unhide HF3).below hb39 hs3
      have t2 := hFf.c2
      have tl := hFf.lt
      have u0 := hF9.c0
      have u1 := hF9.c1
      have u2 := hF9.c2
      have Nf9 : Hid (Blks W9.heap.size W9 af F) := (((unhide Nf).below hb3).mono (by omega)).below hb39 |>.mono (by omega)
      have Nf9' : Hid (Blks W9.heap.size W9 af' F') := (nf'.below hb9).mono (by omega)
      have d1 : ((C'.length : Int) != (sc.length : Int) + 1) = false := by simp; omega
      have d2 : ((A'.length : Int) != (sc.length : Int) + 1) = false := by simp; omega
      have i1 : (sc.length : Int) < (C'.length : Int) := by omega
      have i2 : (sc.length : Int) < (A'.length : Int) := by omega
      rw [hE]
      rcases step_take pol hO n with ⟨c1, c2⟩ | ⟨i, k, b, hnk, hk1, hbi, hkb, _, hst⟩
      · have hFF : F = F' := by rw [m3, m4, c2]
        have Hbl := hide (blocks_c af af' cf cf' F F' W9.heap.size W9 (unhide Nf9) (unhide Nf9') (Nat.le_refl _))
        rw [decide_eq_true hFF] at Hbl
        clear hFF m1 m2 m3 m4 m5 m6 yC yA hO c2 hIs hIs' nc' na' nf' hE hE' HEE hz1
        generalize (stepS z.toNat pol (stK z.toNat pol sc sc.length) (1, n)).1 = cd at *
        have d3 : (cd != 0) = true := by simpa using c1
        clear c1
        go_wp2_with (go_at_call 13; go_must (refine (unhide Hbl).mono ?_); go_must (rintro e w10 ⟨he, hb10⟩; subst he))
        go_ret
        exact ⟨rfl, hbw9.trans (hb10.mono (by omega))⟩
      · obtain ⟨q1, q2⟩ := cut_free hO.ap hbi hk1 hkb
        have hF'e : F' = cutB (stK z.toNat pol sc sc.length).bl i k := by rw [m4, hst]
        have hFne : ¬ F = F' := by rw [hF'e, m3]; exact fun e => q2 e.symm
        rw [hst] at yC9 yA9
        simp only at yC9 yA9
        have hp256 := (hO.ap.1 b (List.mem_of_getElem? hbi)).2
        -- the script with a give more
        have hl2 : ((sc ++ [((1 : Int), n)]) ++ [((2 : Int), ((b.1 : Nat) : Int))]).length = sc.length + 1 + 1 := by simp
        have hown9 : W9.ownsRow W3.heap.size 38 2 (.slice (some ⟨g7, 0, none⟩) (sc.length + 1) c7) (sc.length + 1) (cellsQ (sc ++ [((1 : Int), n)])) := ownsRow_below (ownsRow_below (unhide Hown7) hb8) hb9
        obtain ⟨v11, w11, hr11, hown11, hg11, g11, c11, rfl⟩ := run_append_q (W9.alloc (.cells #[.int .i64 2, .int .i64 ((b.1 : Nat) : Int)] 38)) W3.heap.size 22 g7 c7 (sc.length + 1) _ (hown9.alloc _) (some ⟨W9.heap.size, 0, none⟩) 1 1 [.int .i64 2, .int .i64 ((b.1 : Nat) : Int)] rfl (fun h => ⟨_, rfl, cell_two_at _ _ _ _ _ rfl⟩) (by simp [Value.oneCell']) (by omega) (by simp; omega)
        have hb11 : Below W3.heap.size W3 w11 := (hb39.alloc (by omega) _).grown hg11 (by simp; omega) (fun k e => ((hown9.alloc (.cells #[.int .i64 2, .int .i64 ((b.1 : Nat) : Int)] 38)).lt k e).1)
        have hs11 := hb11.size
        have hg711 : ∀ k, k < W9.heap.size → k ≠ g7 → w11.heap[k]? = W9.heap[k]? := fun k hk hne => by
          rw [hg11.block k (by simp; omega) (by simpa using hne), Below.heap_alloc _ _ _ hk]
        have hg7r : ∃ cs, W9.heap[g7]? = some (.cells cs 38) := by
          rcases hown9.2 with ⟨e, _⟩ | ⟨g', cap', cur, e, _, h2, _⟩
          · cases e
          · injection e with e1; injection e1 with e1; injection e1 with e1; subst e1; exact ⟨cur, h2⟩
        have hg7lt : g7 < w7.heap.size := ((unhide Hown7).lt g7 rfl).2
        rw [Nat.add_assoc, ← cellsQ_snoc, show sc.length + (1 + 1) = sc.length + 1 + 1 from rfl, ← hl2] at hown11
        have hA11 := asks_of_owns hown11 (by omega)
        have HI11 : Hid (I64s ((sc ++ [((1 : Int), n)]) ++ [((2 : Int), ((b.1 : Nat) : Int))])) := fun x hx => by
          rcases List.mem_append.1 hx with hx | hx
          · exact unhide HI7 x hx
          · simp at hx; subst hx; exact ⟨by simp, by simp only; omega, by simp only; omega⟩
        have Hc11 := hide (play_c z pol (some ⟨g11, 0, none⟩) c11 _ w11.heap.size w11 hA11 (Nat.le_refl _) (unhide HI11))
        rw [hl2] at Hc11
        have hE2 : playE z pol ((sc ++ [((1 : Int), n)]) ++ [((2 : Int), ((b.1 : Nat) : Int))]).length = 0 := by rw [← hE]; exact playE_len (by rw [hl2]; omega) (by omega)
        have v2 : w11.cell? ⟨w2.heap.size, 2, none⟩ = some (.slice af F.length cf) := (hb11.cell (p := ⟨w2.heap.size, 2, none⟩) hs3).trans (unhide HF3).c2
        have hgb : w11.heap[w8.heap.size]? = W9.heap[w8.heap.size]? := hg711 _ hs9 (by omega)
        have v3 : w11.cell? ⟨w8.heap.size, 2, none⟩ = some (.slice af' F'.length cf') := (World.cell?_of_block (a := ⟨w8.heap.size, 2, none⟩) hgb).trans hF9.c2
        have Nf11 : Hid (Blks w11.heap.size w11 af F) := ((((unhide Nf).below hb3).mono (by omega)).below hb11).mono (by omega)
        have Nf11' : Hid (Blks w11.heap.size w11 af' F') := by
          by_cases hne : F' = []
          · rw [hne]; exact blks_nil _ _ _
          · refine (Blks.kept (unhide Nf9') fun x hx => ?_).mono (by have := hg11.size; simp at this; omega)
            subst hx
            have h1 := unhide hnw' x (.inr (.inr rfl))
            have h2 := (unhide Nf9').lt hne
            exact hg711 _ h2 (by omega)
        have hs9' : W9.heap.size ≤ w11.heap.size := by have := hg11.size; simp at this; omega
        have hl11 : w2.heap.size < w11.heap.size := by omega
        have hl12 : w8.heap.size < w11.heap.size := by omega
        have H11 := hide hr11
        have hbw11 : Below w.heap.size w w11 := (hb2.trans (hb3.mono hs2)).trans (hb11.mono (by omega))
        have HFF : Hid (∀ C'' A'' F'', PlIs z pol ((sc ++ [((1 : Int), n)]) ++ [((2 : Int), ((b.1 : Nat) : Int))]) C'' A'' F'' → F = F'') := by
          intro C'' A'' F'' h
          obtain ⟨_, _, _, k4, _⟩ := plIs_more (unhide hIs') h hE' hE2
          have hst2 : stK z.toNat pol (sc ++ [((1 : Int), n)]) (sc ++ [((1 : Int), n)]).length = ⟨cutB (stK z.toNat pol sc sc.length).bl i k, updT (stK z.toNat pol sc sc.length).tk (b.1 : Nat) (some k), b.1 + k⟩ := by
            have := (stK_snoc z.toNat pol sc ((1 : Int), n)).2.1
            rw [show (sc ++ [((1 : Int), n)]).length = sc.length + 1 by simp, this, hst]
          rw [k4, hst2, step_give (p := b.1) (k := k) (updT_same _ _ _), m3]
          exact q1.symm
        have HFne := hide hFne
        have HE2 := hide hE2
        clear hown9 hown11 hg11 hg711 hg7r hr11 hA11 m1 m2 m3 m4 m5 m6 yC yA hO hIs hIs' nc' na' nf' hE hE' hst q1 q2 hbi hF'e hFne t2 hE2 hgb
        have d3 : ((0 : Int) != 0) = false := by simp
        go_wp2_with (first
          | (at_builtin; refine Lib.wpList_append_run _ rfl _ _ 22 22 rfl _ _ rfl rfl _ _ (unhide H11) ?_))
        refine (unhide Hc11).mono ?_
        rintro e w12 ⟨hR, hb12⟩
        obtain ⟨ac2, cc2, aa2, ca2, af2, cf2, C2, A2, F2, rfl, nc2, na2, nf2, hIs2, hca2, _⟩ := hR
        have hs12 := hb12.size
        rw [unhide HE2]
        obtain ⟨W13, hW13⟩ : ∃ W13, w12.alloc (.cells #[.slice ac2 C2.length cc2, .slice aa2 A2.length ca2, .slice af2 F2.length cf2] 27) = W13 := ⟨_, rfl⟩
        have hb13 : Below w12.heap.size w12 W13 := by rw [← hW13]; exact (Below.refl _ _).alloc (Nat.le_refl _) _
        have hs13 : w12.heap.size < W13.heap.size := by rw [← hW13]; simp
        have x2 : W13.cell? ⟨w12.heap.size, 2, none⟩ = some (.slice af2 F2.length cf2) := by rw [← hW13]; simp [go_sem]
        have hbb : Below w11.heap.size w11 W13 := hb12.trans (hb13.mono hs12)
        have y2 := (hbb.cell (p := ⟨w2.heap.size, 2, none⟩) hl11).trans v2
        have y3 := (hbb.cell (p := ⟨w8.heap.size, 2, none⟩) hl12).trans v3
        have e1 : F = F2 := unhide HFF _ _ _ (unhide hIs2)
        have Hb1 : Hid (Calls Try.prog 13 #[.slice af F.length cf, .slice af2 F2.length cf2] W13 fun e w' => e = .returned (.bool true) ∧ Below W13.heap.size W13 w') := by
          have := blocks_c af af2 cf cf2 F F2 W13.heap.size W13 (((unhide Nf11).below hbb).mono (by omega)) ((nf2.below hb13).mono (by omega)) (Nat.le_refl _)
          rw [decide_eq_true e1] at this
          exact this
        have Hb2 : Hid (∀ w', Below W13.heap.size W13 w' → Calls Try.prog 13 #[.slice af F.length cf, .slice af' F'.length cf'] w' fun e w'' => e = .returned (.bool false) ∧ Below w'.heap.size w' w'') := fun w' hw' => by
          have := blocks_c af af' cf cf' F F' W13.heap.size w' ((((unhide Nf11).below hbb).mono (by omega)).below hw') ((((unhide Nf11').below hbb).mono (by omega)).below hw') hw'.size
          rw [decide_eq_false (unhide HFne)] at this
          exact this
        have hbw13 : Below w.heap.size w W13 := hbw11.trans (hbb.mono (by omega))
        have k1 : w2.heap.size < W13.heap.size := by omega
        have k2 : w8.heap.size < W13.heap.size := by omega
        clear nc2 na2 nf2 e1 v2 v3 Hc11
        go_wp2_with fail
        refine (unhide Hb1).mono ?_
        rintro e w14 ⟨rfl, hb14⟩
        have z2 := (hb14.cell (p := ⟨w2.heap.size, 2, none⟩) k1).trans y2
        have z3 := (hb14.cell (p := ⟨w8.heap.size, 2, none⟩) k2).trans y3
        have k3 : w2.heap.size < w14.heap.size := by have := hb14.size; omega
        have k4 : w8.heap.size < w14.heap.size := by have := hb14.size; omega
        clear y2 y3 x2
        go_wp2_with fail
        refine (unhide Hb2 _ hb14).mono ?_
        rintro e w15 ⟨rfl, hb15⟩
        go_wp2
        go_ret
        exact ⟨rfl, (hbw13.trans (hb14.mono (by omega))).trans (hb15.mono (by have := hb14.size; omega))⟩
    · generalize playE z pol sc.length = E at *
      have d0 : (E != 0) = true := by simpa using hE
      have d1 : (E == E) = true := by simp
      clear hE
      go_wp2
      go_ret
      exact ⟨rfl, hbw9⟩
  · clear hA hI
    have d0 : decide ((100 : Int) < (sc.length : Int) + 2) = true := decide_eq_true (by omega)
    go_enter Try.func7, Try.ntmps7
    go_wp2
    go_ret
    exact ⟨rfl, Below.refl _ _⟩

end Go.Proofs.Ytgbbcfngncofgaa

/- The walk of apart. -/
namespace Go.Proofs.Ytgbbcfngncofgaa
set_option linter.unusedSimpArgs false
set_option linter.unusedVariables false
open Go.RowKit

/-- One ask more: whose each word is then. -/
theorem wh_step {S : Nat} (hS : 1 ≤ S) {pol : Int} {sc : List (Int × Int)} {k : Nat} {q m : Int} (hx : sc[k]? = some (q, m)) {Wh : List Int} (h : WhOk S (stK S pol sc k) k Wh) :
    (codeK S pol sc k ≠ 0 ∧ WhOk S (stK S pol sc (k + 1)) (k + 1) Wh) ∨
    (codeK S pol sc k = 0 ∧ q = 1 ∧ ∃ n p : Nat, m = (n : Int) ∧ 1 ≤ n ∧ atK S pol sc k = p ∧ p + n ≤ S ∧ (∀ j, p ≤ j → j < p + n → Wh[j]? = some 0) ∧ WhOk S (stK S pol sc (k + 1)) (k + 1) (updP Wh (fun j => decide (p ≤ j) && decide (j < p + n)) ((k : Int) + 1))) ∨
    (codeK S pol sc k = 0 ∧ q = 2 ∧ ∃ (p : Nat) (mine : Int), m = (p : Int) ∧ p < S ∧ Wh[p]? = some mine ∧ mine ≠ 0 ∧ WhOk S (stK S pol sc (k + 1)) (k + 1) (updP Wh (fun j => Wh.getD j 0 == mine) 0)) := by
  have hO := ok_stK hS pol sc k
  have hg : sc.getD k (0, 0) = (q, m) := by rw [List.getD_eq_getElem?_getD, hx]; rfl
  simp only [codeK, atK, stK, hg]
  by_cases h0 : (stepS S pol (stK S pol sc k) (q, m)).1 = 0
  · rcases step_ok hO h0 with ⟨rfl, i, n, b, rfl, h1, h2, hb, hs⟩ | ⟨rfl, p, n, rfl, ht, hs⟩
    · refine .inr (.inl ⟨h0, rfl, n, b.1, rfl, h1, ?_⟩)
      rw [hs]
      obtain ⟨t1, t2, t3⟩ := whOk_take hO h hb h1 h2 (b.1 + n)
      exact ⟨rfl, t1, t2, t3⟩
    · refine .inr (.inr ⟨h0, rfl, ?_⟩)
      rw [hs]
      obtain ⟨mine, t1, t2, t3, t4⟩ := whOk_give hO h ht (stK S pol sc k).en
      exact ⟨p, mine, rfl, t3, t1, t2, t4.mono (by omega)⟩
  · refine .inl ⟨h0, ?_⟩
    rw [step_bad hO h0]
    exact h.mono (by omega)

/-- A made row lies in one new block. -/
theorem wpList_make_at {P : Program} (w : World) {ops : Array Oper} {rest : List Oper} {o : Oper} {a : Act} {Q : Exit → Act → World → Prop}
    (hg : o.guard = none) (l c : Operand) (t : TypeId) (hop : o.op = Op.makeSlice t l c)
    (base : Nat) (e : TypeId) (i : TypeInfo) (z : Value) (size : Nat) (h1 : P.underlying t = some (.slice e)) (h2 : P.info? e = some i) (h3 : i.zero = some z) (h4 : i.size = size)
    (kl kc : IntKind) (L C : Int) (n : Nat) (hl : a.eval l = .int kl L) (hc : a.eval c = .int kc C) (hL : L = (n : Int)) (hC : C = (n : Int)) (b2 : i.bytes * n ≤ 281474976710656) (b3 : n ≤ maxLen) (b4 : base ≤ w.heap.size)
    (hK : ∀ w', w'.ownsRow base e size (.slice (some ⟨w.heap.size, 0, none⟩) n n) n (madeCells z.cells (n * size)).toList → w.grownBy w' none → w'.heap.size = w.heap.size + 1 → wpList P ops Q rest (a.put o.dst (.slice (some ⟨w.heap.size, 0, none⟩) n n)) w') :
    wpList P ops Q (o :: rest) a w := by
  refine wpList_plain hg fun K hK' => ?_
  subst h4
  have h63' : (n : Int) ≤ 9223372036854775807 := by
    have h := b3
    simp [maxLen] at h
    omega
  have hb' : (i.bytes : Int) * (n : Int) ≤ 281474976710656 := by
    have h : ((i.bytes * n : Nat) : Int) ≤ 281474976710656 := by omega
    rwa [Int.natCast_mul] at h
  have hr := run_make (P := P) w t e i z h1 h2 h3 kl kc n n (by omega) (Int.le_refl _) hb' h63'
  simp only [Int.toNat_natCast] at hr
  subst hL
  subst hC
  unfold Oper.wp
  simp [execOp, hop, hl, hc, hr, Result.andThen]
  exact hK' _ _ (hK _ (World.ownsRow_lit w _ n b4 b3 (size_madeCells _ _)) (World.grownBy_alloc w _ none) (by simp))

set_option maxRecDepth 100000 in
set_option maxHeartbeats 8000000 in
theorem apart_c (S : Nat) (hS : 1 ≤ S) (hS2 : S ≤ 256) (pol : Int) (a : Option Addr) (c : Nat) (sc : List (Int × Int)) (hl : sc.length ≤ 100) (ac : Option Addr) (cc : Nat) (aa : Option Addr) (ca : Nat) (af : Option Addr) (nf cf : Nat) (F : List (Nat × Nat)) (w : World)
    (hA : Asks w.heap.size w a sc) (hC : Nums w.heap.size w ac (codesL S pol sc sc.length)) (hB : Nums w.heap.size w aa (atsL S pol sc sc.length)) (hF : Blks w.heap.size w af F) (hFe : F = (stK S pol sc sc.length).bl) (hnf : nf = F.length) :
    Calls Try.prog 12 #[.int .i64 (S : Nat), .slice a sc.length c, .agg #[.slice ac sc.length cc, .slice aa sc.length ca, .slice af nf cf], .bool false] w fun e w' => e = .returned (.bool true) ∧ Below w.heap.size w w' := by
  subst hnf
  obtain ⟨i0, hi, hz0, hz1, hz2⟩ := info_parts Try.info3
  obtain ⟨W1, hW1⟩ : ∃ W1, w.alloc (.cells #[.slice ac sc.length cc, .slice aa sc.length ca, .slice af F.length cf] 27) = W1 := ⟨_, rfl⟩
  have hb1 : Below w.heap.size w W1 := by rw [← hW1]; exact (Below.refl _ _).alloc (Nat.le_refl _) _
  have hs1 : w.heap.size < W1.heap.size := by rw [← hW1]; simp
  have hF1 : FBox W1 w.heap.size ac sc.length cc aa sc.length ca af F.length cf := by rw [← hW1]; exact fbox_new ..
  have HA : Hid (Asks W1.heap.size W1 a sc) := (hA.below hb1).mono (by omega)
  have HC : Hid (Nums W1.heap.size W1 ac (codesL S pol sc sc.length)) := (hC.below hb1).mono (by omega)
  have HB : Hid (Nums W1.heap.size W1 aa (atsL S pol sc sc.length)) := (hB.below hb1).mono (by omega)
  have HF : Hid (Blks W1.heap.size W1 af F) := (hF.below hb1).mono (by omega)
  have HF1 := hide hF1
  have t0 := hF1.c0
  have t1 := hF1.c1
  have hO := ok_stK hS pol sc sc.length
  have hFl := ok_len hO
  rw [← hFe] at hFl
  have HFe := hide hFe
  clear hA hC hB hF hF1 hO hFe
  go_enter Try.func12, Try.ntmps12
  go_wp2_with (at_make; go_must (refine wpList_make_at _ rfl _ _ 24 rfl W1.heap.size 3 i0 _ 1 Try.underlying24 hi hz0 hz1 .i64 .i64 _ _ S rfl rfl rfl rfl (by rw [hz2]; omega) (by simp only [maxLen]; omega) (Nat.le_refl _) ?_); go_must (intro w5 hown5 hg5 hs5))
  rw [made_ints] at hown5
  have HR5 : Hid (RW W1 w5 W1.heap.size W1.heap.size S (List.replicate S 0)) := ⟨(Below.refl _ _).grown hg5 (Nat.le_refl _) (fun k e => by cases e), hown5, Nat.le_refl _⟩
  have HW5 := hide (whOk_start (S := S))
  generalize hN : W1.heap.size = N at *
  have HN := hide hN
  clear hown5 hg5 hs5 t0 t1 hi hz0 hz1 hz2 hN
  go_loopw [40] (fun i wr => ∃ (k : Nat) (Wh : List Int), k ≤ sc.length ∧ i = .int .i64 k ∧ Hid (RW W1 wr N N S Wh) ∧ Hid (WhOk S (stK S pol sc k) k Wh)) (fun i _ => sc.length - (intOf i).toNat)
  case atStart => exact ⟨0, _, Nat.zero_le _, rfl, HR5, HW5⟩
  case round =>
    clear HR5 HW5
    obtain ⟨k, Wh, hk, rfl, HR, HW⟩ := hrel
    have hRl := (unhide HR).lt
    have hFw := (unhide HF1).below (unhide HR).bel (by omega)
    have t0 := hFw.c0
    have t1 := hFw.c1
    have tl := hFw.lt
    by_cases hlt : k < sc.length
    · obtain ⟨q, m, hx⟩ : ∃ q m, sc[k]? = some (q, m) := ⟨sc[k].1, sc[k].2, List.getElem?_eq_getElem hlt⟩
      have hRb := (unhide HR).bel
      obtain ⟨b, off, rfl, hbB, x0, x1⟩ := ((unhide HA).below hRb).at hx
      obtain ⟨bC, oC, rfl, hbC, y0⟩ := ((unhide HC).below hRb).at (codesL_get hlt)
      obtain ⟨bA, oA, rfl, hbA, y1⟩ := ((unhide HB).below hRb).at (atsL_get hlt)
      have hbl : b < wr.heap.size := by omega
      have hbCl : bC < wr.heap.size := by omega
      have hbAl : bA < wr.heap.size := by omega
      have hkI : (k : Int) < (sc.length : Int) := by omega
      have HRa : Hid (RW W1 (wr.alloc (.cells #[.int .i64 q, .int .i64 m] 38)) N N S Wh) := (unhide HR).alloc _
      rcases wh_step hS hx (unhide HW) with ⟨hc, hw⟩ | ⟨hc, rfl, n, p, rfl, hn1, hat, hpn, hz, hw⟩ | ⟨hc, rfl, p, mine, rfl, hpS, hmn, hm0, hw⟩
      · have HW' := hide hw
        have e1 : (codeK S pol sc k != 0) = true := by simp [hc]
        generalize codeK S pol sc k = cd at *
        generalize atK S pol sc k = at' at *
        clear hx hw hc hRb
        go_wp2
        go_roundw
        case rel => exact ⟨k + 1, Wh, by omega, by go_num, HRa, HW'⟩
        case measure => simp [intOf]; omega
      · have HW' := hide hw
        have Hz := hide hz
        rw [hc] at y0
        rw [hat] at y1
        have d1 : decide (n < 1) = false := decide_eq_false (by omega)
        have d2 : decide ((S : Int) - (n : Int) < (p : Int)) = false := decide_eq_false (by omega)
        clear hx hw hc hat hz hRb
        go_wp2
        obtain ⟨WR, hWR⟩ : ∃ WR, WR = wr := ⟨wr, rfl⟩
        subst hWR
        go_loopw [16] (fun i wr => ∃ j : Nat, p ≤ j ∧ j ≤ p + n ∧ i = .int .i64 j ∧ Hid (RW W1 wr N N S (updP Wh (fun t => decide (p ≤ t) && decide (t < j)) ((k : Int) + 1)))) (fun i _ => p + n - (intOf i).toNat)
        case atStart =>
          refine ⟨p, Nat.le_refl _, by omega, rfl, ?_⟩
          show RW _ _ _ _ _ _
          rw [updP_none _ _ _ (fun j hj => by simp)]
          exact unhide HRa
        case round =>
          obtain ⟨j, hj1, hj2, rfl, HR2⟩ := hrel
          by_cases hjn : j < p + n
          · have hR2 := unhide HR2
            have e0 : (updP Wh (fun t => decide (p ≤ t) && decide (t < j)) ((k : Int) + 1))[j]? = some 0 := by
              rw [updP_get, unhide Hz j hj1 hjn, Option.map_some, if_neg (by simp)]
            have g0 := hR2.cell e0
            have gf := hR2.fr j
            have hRl2 := hR2.lt
            have HR3 : Hid (RW W1 (wr.setCell ⟨N, j, none⟩ (.int .i64 ((k : Int) + 1))) N N S (updP Wh (fun t => decide (p ≤ t) && decide (t < j + 1)) ((k : Int) + 1))) := by
              have := hR2.set j ((k : Int) + 1)
              rwa [updP_set Wh (p := fun t => decide (p ≤ t) && decide (t < j)) (q := fun t => decide (p ≤ t) && decide (t < j + 1)) _ j (fun x hx => by
                by_cases e : x = j
                · subst e; simp [hj1]
                · have e1 : decide (x < j + 1) = decide (x < j) := by by_cases h : x < j <;> simp [h] <;> omega
                  simp only [e1]; simp [e])] at this
            clear e0 hR2
            go_wp2
            go_roundw
            case rel => exact ⟨j + 1, by omega, by omega, by go_num, HR3⟩
            case measure => simp [intOf]; omega
          · obtain rfl : j = p + n := by omega
            go_wp2
            go_roundw
            case rel => exact ⟨k + 1, _, by omega, by go_num, HR2, HW'⟩
            case measure => simp [intOf]; omega
      · have HW' := hide hw
        have g0 := (unhide HR).cell hmn
        have g0l : (p : Int) < (S : Int) := by omega
        have hmz : (mine == 0) = false := by simp [hm0]
        have d1 : decide ((S : Int) ≤ (p : Int)) = false := decide_eq_false (by omega)
        have HR0 := (unhide HR).len
        rw [hc] at y0
        clear hx hw hc hRb
        go_wp2
        obtain ⟨WR, hWR⟩ : ∃ WR, WR = wr := ⟨wr, rfl⟩
        subst hWR
        go_loopw [14] (fun i wr => ∃ j : Nat, j ≤ S ∧ i = .int .i64 j ∧ Hid (RW W1 wr N N S (updP Wh (fun t => decide (t < j) && (Wh.getD t 0 == mine)) 0))) (fun i _ => S - (intOf i).toNat)
        case atStart =>
          refine ⟨0, by omega, rfl, ?_⟩
          show RW _ _ _ _ _ _
          rw [updP_none _ _ _ (fun j hj => by simp)]
          exact unhide HRa
        case round =>
          obtain ⟨j, hj1, rfl, HR2⟩ := hrel
          by_cases hjn : j < S
          · have hR2 := unhide HR2
            obtain ⟨x, hx⟩ : ∃ x, Wh[j]? = some x := ⟨Wh[j]'(by omega), List.getElem?_eq_getElem _⟩
            have hxd : Wh.getD j 0 = x := by rw [List.getD_eq_getElem?_getD, hx]; rfl
            have e0 : (updP Wh (fun t => decide (t < j) && (Wh.getD t 0 == mine)) 0)[j]? = some x := by
              rw [updP_get, hx, Option.map_some, if_neg (by simp)]
            have h0 := hR2.cell e0
            have gf := hR2.fr j
            have hRl2 := hR2.lt
            have hjI : (j : Int) < (S : Int) := by omega
            by_cases hxm : x = mine
            · have HR3 : Hid (RW W1 (wr.setCell ⟨N, j, none⟩ (.int .i64 0)) N N S (updP Wh (fun t => decide (t < j + 1) && (Wh.getD t 0 == mine)) 0)) := by
                have := hR2.set j 0
                rwa [updP_set Wh (q := fun t => decide (t < j + 1) && (Wh.getD t 0 == mine)) _ j (fun x' hx' => by
                  by_cases e : x' = j
                  · subst e; simp only [hxd, hxm]; simp
                  · have e1 : decide (x' < j + 1) = decide (x' < j) := by by_cases h : x' < j <;> simp [h] <;> omega
                    simp only [e1]; simp [e])] at this
              have em : (x == mine) = true := by simp [hxm]
              clear e0 hR2 hx hxd hxm
              go_wp2
              go_roundw
              case rel => exact ⟨j + 1, by omega, by go_num, HR3⟩
              case measure => simp [intOf]; omega
            · have HR3 : Hid (RW W1 wr N N S (updP Wh (fun t => decide (t < j + 1) && (Wh.getD t 0 == mine)) 0)) := by
                have := hR2
                rwa [updP_congr Wh (q := fun t => decide (t < j + 1) && (Wh.getD t 0 == mine)) _ (fun x' hx' => by
                  by_cases e : x' = j
                  · subst e; simp only [hxd]; simp [hxm]
                  · have e1 : decide (x' < j + 1) = decide (x' < j) := by by_cases h : x' < j <;> simp [h] <;> omega
                    simp only [e1])] at this
              have em : (x == mine) = false := by simp [hxm]
              clear e0 hR2 hx hxd hxm
              go_wp2
              go_roundw
              case rel => exact ⟨j + 1, by omega, by go_num, HR3⟩
              case measure => simp [intOf]; omega
          · obtain rfl : j = S := by omega
            have HR3 : Hid (RW W1 wr N N j (updP Wh (fun t => Wh.getD t 0 == mine) 0)) := by
              have := unhide HR2
              rwa [updP_congr Wh (q := fun t => Wh.getD t 0 == mine) _ (fun x' hx' => by simp only [show decide (x' < j) = true from decide_eq_true (by omega)]; rfl)] at this
            clear HR2
            go_wp2
            go_roundw
            case rel => exact ⟨k + 1, _, by omega, by go_num, HR3, HW'⟩
            case measure => simp [intOf]; omega
    · obtain rfl : k = sc.length := by omega
      have t2 := hFw.c2
      have hOk := hide (ok_stK hS pol sc sc.length)
      have HFe' := unhide HFe
      have Hap : Hid (Apart S F) := by show Apart S F; rw [HFe']; exact (unhide hOk).ap
      have Hfr : Hid (∀ j, inB F j → Wh[j]? = some 0) := by
        show ∀ j, inB F j → Wh[j]? = some 0
        rw [unhide HFe]
        obtain ⟨_, _, _, _, h4⟩ := unhide HW
        exact h4
      have Hend : Hid (∀ (j : Nat) (x : Int), (updP Wh (inBb F) (-1))[j]? = some x → x ≠ 0) := by
        show ∀ (j : Nat) (x : Int), (updP Wh (inBb F) (-1))[j]? = some x → x ≠ 0
        rw [unhide HFe]
        exact fun j x h => whOk_all (unhide hOk) (unhide HW) h
      have HR0 := (unhide HR).len
      clear HFe' HW hOk t0 t1 HA HC HB HFe
      go_wp2
      obtain ⟨WR, hWR⟩ : ∃ WR, WR = wr := ⟨wr, rfl⟩
      subst hWR
      go_loopw [145] (fun i wr => ∃ k : Nat, k ≤ F.length ∧ i = .int .i64 k ∧ Hid (RW W1 wr N N S (updP Wh (inBb (F.take k)) (-1)))) (fun i _ => F.length - (intOf i).toNat)
      case atStart =>
        refine ⟨0, Nat.zero_le _, rfl, ?_⟩
        show RW _ _ _ _ _ _
        rw [updP_none _ _ _ (fun j hj => by simp [inBb])]
        exact unhide HR
      case round =>
        obtain ⟨k, hk, rfl, HR2⟩ := hrel
        have hR2l := (unhide HR2).lt
        by_cases hlt : k < F.length
        · obtain ⟨p, m, hx⟩ : ∃ p m, F[k]? = some (p, m) := ⟨F[k].1, F[k].2, List.getElem?_eq_getElem hlt⟩
          obtain ⟨b, off, rfl, hbB, x0, x1⟩ := ((unhide HF).below (unhide HR2).bel).at hx
          have hbl : b < wr.heap.size := by omega
          have hkI : (k : Int) < (F.length : Int) := by omega
          obtain ⟨hm1, hpm⟩ := (unhide Hap).1 (p, m) (List.mem_of_getElem? hx)
          simp only at hm1 hpm
          have d1 : decide (m < 1) = false := decide_eq_false (by omega)
          have d2 : decide ((S : Int) < (m : Int)) = false := decide_eq_false (by omega)
          have d3 : decide ((S : Int) - (m : Int) < (p : Int)) = false := decide_eq_false (by omega)
          have HRa : Hid (RW W1 (wr.alloc (.cells #[.int .i64 (p : Nat), .int .i64 (m : Nat)] 36)) N N S (updP Wh (inBb (F.take k)) (-1)) ∧ (wr.alloc (.cells #[.int .i64 (p : Nat), .int .i64 (m : Nat)] 36)).heap[wr.heap.size]? = some (.cells #[.int .i64 (p : Nat), .int .i64 (m : Nat)] 36)) := ⟨(unhide HR2).alloc _, heap_alloc_new _ _⟩
          have Hx := hide hx
          clear hx
          go_wp2
          obtain ⟨WR2, hWR2⟩ : ∃ WR2, WR2 = wr := ⟨wr, rfl⟩
          subst hWR2
          go_loopw [19] (fun i wr => ∃ j : Nat, p ≤ j ∧ j ≤ p + m ∧ i = .int .i64 j ∧ Hid (RW W1 wr N N S (updP Wh (fun t => inBb (F.take k) t || (decide (p ≤ t) && decide (t < j))) (-1)) ∧ wr.heap[WR2.heap.size]? = some (.cells #[.int .i64 (p : Nat), .int .i64 (m : Nat)] 36))) (fun i _ => p + m - (intOf i).toNat)
          case atStart =>
            refine ⟨p, Nat.le_refl _, by omega, rfl, ?_⟩
            show RW _ _ _ _ _ _ ∧ _
            rw [updP_congr Wh (p := fun t => inBb (F.take k) t || (decide (p ≤ t) && decide (t < p))) (q := inBb (F.take k)) _ (fun j hj => by
              have : (decide (p ≤ j) && decide (j < p)) = false := by simp
              simp only [this, Bool.or_false])]
            exact unhide HRa
          case round =>
            obtain ⟨j, hj1, hj2, rfl, HR3⟩ := hrel
            obtain ⟨hR3, hbx⟩ := unhide HR3
            have hR3l := hR3.lt
            have hxl : WR2.heap.size < wr.heap.size := (Array.getElem?_eq_some_iff.1 hbx).1
            have g0 : wr.cell? ⟨WR2.heap.size, 0, none⟩ = some (.int .i64 (p : Nat)) := by rw [cell_of_row wr _ 0 _ 36 (0, 0) hbx]; rfl
            have g1 : wr.cell? ⟨WR2.heap.size, 1, none⟩ = some (.int .i64 (m : Nat)) := by rw [cell_of_row wr _ 1 _ 36 (0, 0) hbx]; rfl
            by_cases hjn : j < p + m
            · have hx := unhide Hx
              have e0 : (updP Wh (fun t => inBb (F.take k) t || (decide (p ≤ t) && decide (t < j))) (-1))[j]? = some 0 := by
                rw [updP_get, unhide Hfr j ⟨(p, m), List.mem_of_getElem? hx, hj1, hjn⟩, Option.map_some, inBb_fresh (unhide Hap) hx hj1 hjn]
                simp
              have y0 := hR3.cell e0
              have gf := hR3.fr j
              have HR4 : Hid (RW W1 (wr.setCell ⟨N, j, none⟩ (.int .i64 (-1))) N N S (updP Wh (fun t => inBb (F.take k) t || (decide (p ≤ t) && decide (t < j + 1))) (-1)) ∧ (wr.setCell ⟨N, j, none⟩ (.int .i64 (-1))).heap[WR2.heap.size]? = some (.cells #[.int .i64 (p : Nat), .int .i64 (m : Nat)] 36)) := by
                have := hR3.set j (-1)
                rw [updP_set Wh (p := fun t => inBb (F.take k) t || (decide (p ≤ t) && decide (t < j))) (q := fun t => inBb (F.take k) t || (decide (p ≤ t) && decide (t < j + 1))) _ j (fun x hx => by
                  by_cases e : x = j
                  · subst e; simp [hj1]
                  · have e1 : decide (x < j + 1) = decide (x < j) := by by_cases h : x < j <;> simp [h] <;> omega
                    simp only [e1]; simp [e])] at this
                refine ⟨this, ?_⟩
                rw [← hbx]
                exact Below.heap_setCell _ _ _ _ (by simp only; omega)
              clear e0 hR3 hx hbx
              go_wp2
              go_roundw
              case rel => exact ⟨j + 1, by omega, by omega, by go_num, HR4⟩
              case measure => simp [intOf]; omega
            · obtain rfl : j = p + m := by omega
              have HR4 : Hid (RW W1 wr N N S (updP Wh (inBb (F.take (k + 1))) (-1))) := by
                show RW _ _ _ _ _ _
                rw [updP_congr Wh (p := inBb (F.take (k + 1))) (q := fun t => inBb (F.take k) t || (decide (p ≤ t) && decide (t < p + m))) _ (fun x hx => inBb_take (unhide Hx) x)]
                exact hR3
              clear hR3 hbx
              go_wp2
              go_roundw
              case rel => exact ⟨k + 1, by omega, by go_num, HR4⟩
              case measure => simp [intOf]; omega
        · obtain rfl : k = F.length := by omega
          have HR3 : Hid (RW W1 wr N N S (updP Wh (inBb F) (-1))) := by
            have := unhide HR2
            rwa [List.take_length] at this
          clear HR2
          go_wp2
          obtain ⟨WR2, hWR2⟩ : ∃ WR2, WR2 = wr := ⟨wr, rfl⟩
          subst hWR2
          go_loopw [194] (fun i wr => ∃ j : Nat, j ≤ S ∧ i = .int .i64 j ∧ wr = WR2) (fun i _ => S - (intOf i).toNat)
          case atStart => exact ⟨0, by omega, rfl, rfl⟩
          case round =>
            obtain ⟨j, hj, rfl, rfl⟩ := hrel
            by_cases hjn : j < S
            · have hR3 := unhide HR3
              obtain ⟨x, hx⟩ : ∃ x, (updP Wh (inBb F) (-1))[j]? = some x := ⟨_, List.getElem?_eq_getElem (by rw [updP_len]; omega)⟩
              have h0 := hR3.cell hx
              have hn := unhide Hend j x hx
              have hn0 : (x == 0) = false := by simp [hn]
              have hRl3 := hR3.lt
              have hjI : (j : Int) < (S : Int) := by omega
              clear hR3 hx hn
              go_wp2
              go_roundw
              case rel => exact ⟨j + 1, by omega, by go_num, trivial⟩
              case measure => simp [intOf]; omega
            · obtain rfl : j = S := by omega
              have hbf : Below w.heap.size w wr := hb1.trans ((unhide HR3).bel.mono (by omega))
              go_wp2
              go_ret
              exact ⟨rfl, hbf⟩

end Go.Proofs.Ytgbbcfngncofgaa

/- Walks: FreeApart. -/
namespace Go.Proofs.Ytgbbcfngncofgaa
set_option linter.unusedSimpArgs false
set_option linter.unusedVariables false
open Go.RowKit

set_option maxRecDepth 100000 in
set_option maxHeartbeats 4000000 in
theorem freeApart_c (z pol : Int) (a : Option Addr) (c : Nat) (sc : List (Int × Int)) (w : World) (hA : Asks w.heap.size w a sc) (hI : I64s sc) :
    Calls Try.prog 4 #[.int .i64 z, .int .i64 pol, .slice a sc.length c] w fun e w' => e = .returned (.bool true) ∧ Below w.heap.size w w' := by
  have Hc := hide (play_c z pol a c sc w.heap.size w hA (Nat.le_refl _) hI)
  have HA := hide hA
  clear hA hI
  go_enter Try.func4, Try.ntmps4
  go_wp2_with fail
  refine (unhide Hc).mono ?_
  rintro e w2 ⟨hR, hb2⟩
  obtain ⟨ac, cc, aa, ca, af, cf, C, A, F, rfl, nc, na, nf, hIs, hca, _⟩ := hR
  have hs2 := hb2.size
  clear Hc
  obtain ⟨W3, hW3⟩ : ∃ W3, w2.alloc (.cells #[.slice ac C.length cc, .slice aa A.length ca, .slice af F.length cf] 27) = W3 := ⟨_, rfl⟩
  have hb3 : Below w2.heap.size w2 W3 := by rw [← hW3]; exact (Below.refl _ _).alloc (Nat.le_refl _) _
  have hs3 : w2.heap.size < W3.heap.size := by rw [← hW3]; simp
  have hF3 : FBox W3 w2.heap.size ac C.length cc aa A.length ca af F.length cf := by rw [← hW3]; exact fbox_new ..
  have t0 := hF3.c0
  have t1 := hF3.c1
  have t2 := hF3.c2
  clear hF3
  have hbw : Below w.heap.size w W3 := hb2.trans (hb3.mono hs2)
  by_cases hE : playE z pol sc.length = 0
  · obtain ⟨h1, h2, h3, h4, h5⟩ := playE_ok hE
    obtain ⟨S, rfl⟩ : ∃ S : Nat, z = (S : Int) := ⟨z.toNat, by omega⟩
    obtain ⟨eC, eA, eF⟩ := (unhide hIs).2 hE
    rw [Int.toNat_natCast] at eC eA eF
    have lC : C.length = sc.length := by rw [eC, codesL_len]
    have lA : A.length = sc.length := by rw [eA, atsL_len]
    have Ha := hide (apart_c S (by omega) (by omega) pol a c sc h5 ac cc aa ca af F.length cf F W3 (((unhide HA).below hbw).mono (by omega)) (by rw [← eC]; exact (nc.below hb3).mono (by omega)) (by rw [← eA]; exact (na.below hb3).mono (by omega)) ((nf.below hb3).mono (by omega)) eF rfl)
    rw [hE]
    rw [lC] at t0
    rw [lA] at t1
    rw [lC, lA] at hW3 ⊢
    have d0 : ((0 : Int) != 0) = false := by simp
    have d1 : decide (S < 1) = false := decide_eq_false (by omega)
    have d2 : decide ((256 : Int) < (S : Int)) = false := decide_eq_false (by omega)
    clear hE eC eA eF nc na nf hIs
    go_wp2_with fail
    refine (unhide Ha).mono ?_
    rintro e w5 ⟨rfl, hb5⟩
    have hb : Below w.heap.size w w5 := hbw.trans (hb5.mono (by omega))
    go_wp2
    go_ret
    exact ⟨rfl, hb⟩
  · have d0 : (playE z pol sc.length != 0) = true := by simp [hE]
    generalize playE z pol sc.length = E at *
    clear hE nc na nf hIs
    go_wp2
    go_ret
    exact ⟨rfl, hbw⟩

end Go.Proofs.Ytgbbcfngncofgaa
