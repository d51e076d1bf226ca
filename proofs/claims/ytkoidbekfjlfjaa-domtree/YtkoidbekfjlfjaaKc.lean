/- Walks: keepers. -/
import Derived.Test.YtkoidbekfjlfjaaProg
import Derived.Test.YtkoidbekfjlfjaaMem
import Derived.Test.YtkoidbekfjlfjaaKb
import Derived.Test.YtkoidbekfjlfjaaDd
import Derived.Test.YtkoidbekfjlfjaaWz
namespace Go.Proofs.Ytkoidbekfjlfjaa
set_option linter.unusedSimpArgs false
set_option linter.unusedVariables false
open Go.RowKit Go.Shelf

/-- A slice of slices of numbers, below block B. -/
def Tab (B : Nat) (w : World) (a : Option Addr) (F : List (List Int)) : Prop :=
  F.length ≤ 9223372036854775807 ∧ (F ≠ [] → ∃ b off, a = some ⟨b, off, none⟩ ∧ b < B ∧ ∀ k l, F[k]? = some l → ∃ ai ci, w.cell? ⟨b, off + k, none⟩ = some (.slice ai l.length ci) ∧ Ints B w ai l)

theorem Tab.below {B : Nat} {w w' : World} {a : Option Addr} {F : List (List Int)} (h : Tab B w a F) (hb : Below B w w') : Tab B w' a F := by
  refine ⟨h.1, fun hne => ?_⟩
  obtain ⟨b, off, rfl, hB, hc⟩ := h.2 hne
  refine ⟨b, off, rfl, hB, fun k v hk => ?_⟩
  obtain ⟨ai, ci, h1, h2⟩ := hc k v hk
  refine ⟨ai, ci, ?_, h2.below hb⟩
  rw [hb.cell (p := ⟨b, off + k, none⟩) hB]
  exact h1

theorem Tab.mono {B B' : Nat} {w : World} {a : Option Addr} {F : List (List Int)} (h : Tab B w a F) (hb : B ≤ B') : Tab B' w a F := by
  refine ⟨h.1, fun hne => ?_⟩
  obtain ⟨b, off, rfl, hB, hc⟩ := h.2 hne
  refine ⟨b, off, rfl, by omega, fun k v hk => ?_⟩
  obtain ⟨ai, ci, h1, h2⟩ := hc k v hk
  exact ⟨ai, ci, h1, h2.mono hb⟩

theorem Tab.at {B : Nat} {w : World} {a : Option Addr} {F : List (List Int)} (h : Tab B w a F) {k : Nat} (hk : k < F.length) :
    ∃ b off ai ci, a = some ⟨b, off, none⟩ ∧ b < B ∧ w.cell? ⟨b, off + k, none⟩ = some (.slice ai F[k].length ci) ∧ Ints B w ai F[k] := by
  obtain ⟨b, off, rfl, hB, hc⟩ := h.2 (by intro e; subst e; simp at hk)
  obtain ⟨ai, ci, h1, h2⟩ := hc k F[k] (by simp [hk])
  exact ⟨b, off, ai, ci, rfl, hB, h1, h2⟩

/-- Who refers to whom. -/
def Eof (F : List (List Int)) (p m : Nat) : Prop := ∃ l, F[m]? = some l ∧ (p : Int) ∈ l

theorem eof_at {F : List (List Int)} {m : Nat} (hm : m < F.length) (p : Nat) : Eof F p m ↔ (p : Int) ∈ F[m] := by
  unfold Eof
  rw [List.getElem?_eq_getElem hm]
  exact ⟨fun ⟨l, e, h⟩ => by injection e with e; rw [e]; exact h, fun h => ⟨_, rfl, h⟩⟩

theorem kf_set {K : List Int} {n k : Nat} (hn : n < K.length) : kf (K.set n (k : Int)) = upd (kf K) n k := by
  funext m
  by_cases e : m = n
  · subst e; rw [upd_self]; unfold kf; simp [hn]
  · rw [upd_ne e]; unfold kf; simp only [List.getD_eq_getElem?_getD, List.getElem?_set_ne (fun h : n = m => e h.symm)]

theorem kk_set {K : List Int} {n k : Nat} (hn : n < K.length) : kk (K.set n (k : Int)) = fun m => m = n ∨ kk K m := by
  funext m
  by_cases e : m = n
  · subst e; unfold kk; simp [hn]
  · unfold kk; simp only [List.getD_eq_getElem?_getD, List.getElem?_set_ne (fun h : n = m => e h.symm), e, false_or]

/-- How far all are from the roots. -/
def kM (r : Nat) (K : List Int) : Nat := (K.map fun x => ((r : Int) + 1 - x).toNat).sum

theorem sum_set_lt : ∀ (l : List Nat) (n v : Nat), (h : n < l.length) → v < l[n] → (l.set n v).sum < l.sum
  | [], n, v, h, _ => by simp at h
  | x :: l, 0, v, h, hv => by simp at hv ⊢; exact hv
  | x :: l, n + 1, v, h, hv => by
    have := sum_set_lt l n v (by simpa using h) (by simpa using hv)
    simp; exact this

theorem kM_set {r : Nat} {K : List Int} {n k : Nat} (hn : n < K.length) (hlt : K[n] < (k : Int)) (hk : k ≤ r) : kM r (K.set n (k : Int)) < kM r K := by
  unfold kM
  rw [List.map_set]
  refine sum_set_lt _ n _ (by simpa using hn) ?_
  rw [List.getElem_map]
  omega

/-- The same, out of memory. -/
def kmes (r b : Nat) (W : World) : Nat := ((List.range (r + 1)).map fun n => match W.cell? ⟨b, n, none⟩ with
  | some (.int _ x) => ((r : Int) + 1 - x).toNat
  | _ => 0).sum

theorem kmes_row {r b : Nat} {W : World} {base cap : Nat} {K : List Int} (hl : K.length = r + 1) (h : W.ownsRow base 3 1 (.slice (some ⟨b, 0, none⟩) (r + 1) cap) (r + 1) (intsV K)) : kmes r b W = kM r K := by
  unfold kmes kM
  refine congrArg List.sum (List.ext_getElem (by simp [hl]) fun n h1 h2 => ?_)
  have hn : n < K.length := by simpa using h2
  rw [List.getElem_map, List.getElem_map, List.getElem_range]
  have := row_at h (k := n) (u := .int .i64 K[n]) (by simp [intsV, hn])
  rw [this]

/-- The equation that the keeper of n solves. -/
def FixAt (F : List (List Int)) (K : List Int) (n : Nat) : Prop := ∀ x, Anc (kf K) (kf K n) x ↔ ∀ p, Eof F p n → kk K p → Anc (kf K) p x

/-- What may be told of keepers. -/
structure KSt (F : List (List Int)) (c : Nat) (K : List Int) : Prop where
  len : K.length = F.length + 1
  ok : KOk (Eof F) F.length c (kk K) (kf K)
  un : ∀ n (hn : n < K.length), ¬ kk K n → K[n] = -1

theorem kst_start (F : List (List Int)) : KSt F F.length ((List.replicate (F.length + 1) (-1)).set F.length (F.length : Int)) := by
  have hg : ∀ m, ((List.replicate (F.length + 1) (-1 : Int)).set F.length (F.length : Int)).getD m (-1) = if m = F.length then (F.length : Int) else -1 := by
    intro m
    by_cases e : m = F.length
    · subst e; simp
    · rw [if_neg e]
      rw [List.getD_eq_getElem?_getD, List.getElem?_set_ne (fun h => e h.symm), List.getElem?_replicate]
      split <;> rfl
  have e1 : kk ((List.replicate (F.length + 1) (-1 : Int)).set F.length (F.length : Int)) = fun n => n = F.length := by
    funext m
    unfold kk
    rw [hg]
    by_cases e : m = F.length
    · simp [e]
    · simp [e]
  have e2 : kf ((List.replicate (F.length + 1) (-1 : Int)).set F.length (F.length : Int)) = fun n => n := by
    funext m
    unfold kf
    rw [hg]
    by_cases e : m = F.length
    · simp [e]
    · simp [e]
  refine ⟨by simp, by rw [e1, e2]; exact kok_start _ _, fun n hn hk => ?_⟩
  rw [e1] at hk
  have := hg n
  rw [if_neg hk, List.getD_eq_getElem?_getD, List.getElem?_eq_getElem hn, Option.getD_some] at this
  exact this

/-- One more is done. -/
theorem KSt.done {F : List (List Int)} {n : Nat} {K : List Int} (h : KSt F (n + 1) K) (hn : n < F.length) (hF : ∀ l ∈ F, ∀ y ∈ l, 0 ≤ y ∧ y ≤ (F.length : Int)) (hP : ∀ m, m < F.length → ∃ p, m < p ∧ Eof F p m) {m : Int} (hc : ComOk K F[n] m) :
    ∃ (k : Nat) (hnK : n < K.length), m = (k : Int) ∧ k ≤ F.length ∧ KSt F n (K.set n (k : Int)) ∧ (K[n] ≠ (k : Int) → K[n] < (k : Int)) ∧ (K[n] = (k : Int) → FixAt F K n) := by
  have hnK : n < K.length := by rw [h.len]; omega
  have hE : ∀ p m, Eof F p m → p ≤ F.length ∧ m < F.length := by
    rintro p m ⟨l, hl, hp⟩
    have h1 := (List.getElem?_eq_some_iff.1 hl).1
    have := hF l (List.mem_of_getElem? hl) _ hp
    exact ⟨by omega, h1⟩
  rcases hc with ⟨_, hno⟩ | ⟨k, rfl, hkk, hk⟩
  · obtain ⟨p, hpl, hpe⟩ := hP n hn
    exact absurd (h.ok.seen p (by omega) (hE p n hpe).1) (hno p ((eof_at hn p).1 hpe))
  · have hk' : ∀ x, Anc (kf K) k x ↔ ∀ p, Eof F p n → kk K p → Anc (kf K) p x := fun x => by
      rw [hk x]
      exact ⟨fun e p hp => e p ((eof_at hn p).1 hp), fun e p hp => e p ((eof_at hn p).2 hp)⟩
    obtain ⟨h1, h2, h3, h4⟩ := h.ok.done hn hE hP hk'
    refine ⟨k, hnK, rfl, h.ok.bnd k hkk, ⟨by simp [h.len], by rw [kk_set hnK, kf_set hnK]; exact h4, fun q hq hkq => ?_⟩, fun hne => ?_, fun he => ?_⟩
    · rw [kk_set hnK] at hkq
      have hq' := not_or.1 hkq
      rw [List.getElem_set_ne (fun e => hq'.1 e.symm)]
      exact h.un q (by simpa using hq) hq'.2
    · by_cases hkn : kk K n
      · have ha := (h3 hkn).le h.ok.mon
        rw [kf_get hnK hkn] at hne ⊢
        omega
      · rw [h.un n hnK hkn]; omega
    · have hkn : kk K n := (kk_get hnK).2 (by omega)
      have e : kf K n = k := by have := kf_get hnK hkn; omega
      intro x
      rw [e]
      exact hk' x

set_option maxRecDepth 100000 in
set_option maxHeartbeats 4000000 in
theorem keepers_c (a : Option Addr) (cap : Nat) (F : List (List Int)) (w : World) (hT : Tab w.heap.size w a F) (hr : F.length ≤ 24) (hF : ∀ l ∈ F, ∀ y ∈ l, 0 ≤ y ∧ y ≤ (F.length : Int)) (hP : ∀ m, m < F.length → ∃ p, m < p ∧ Eof F p m) :
    Calls Try.prog 25 #[.slice a F.length cap] w fun e w' => ∃ K, e = .returned (.slice (some ⟨w.heap.size, 0, none⟩) (F.length + 1) (F.length + 1)) ∧ w'.ownsRow w.heap.size 3 1 (.slice (some ⟨w.heap.size, 0, none⟩) (F.length + 1) (F.length + 1)) (F.length + 1) (intsV K) ∧ KSt F 0 K ∧ (∀ n, n < F.length → FixAt F K n) ∧ Below w.heap.size w w' := by
  have HF := hide hF
  have HP := hide hP
  clear hF hP
  have w1 : IntKind.i64.wrap ((F.length : Int) + 1) = ((F.length + 1 : Nat) : Int) := by rw [IntKind.wrap_i64]; omega
  go_enter Try.func25, Try.ntmps25
  go_wp2_with fail
  refine (filled_c (F.length + 1) (-1) w (by omega)).mono ?_
  rintro e w5 ⟨rfl, hrow5, hb5, hs5, hko5⟩
  clear hko5
  have hlt5 : w.heap.size < w5.heap.size := by omega
  clear hs5
  obtain ⟨u5, hu5⟩ : ∃ u, (intsV (List.replicate (F.length + 1) (-1)))[F.length]? = some u := ⟨.int .i64 (-1), by simp [intsV]⟩
  have hc5 := row_at hrow5 hu5
  have hf5 := hrow5.frozenAt F.length
  have hst5 := (hrow5.stored F.length (.int .i64 (F.length : Int))).1
  have Hst5 : Hid ((w5.setCell ⟨w.heap.size, F.length, none⟩ (.int .i64 (F.length : Int))).ownsRow w.heap.size 3 1 (.slice (some ⟨w.heap.size, 0, none⟩) (F.length + 1) (F.length + 1)) (F.length + 1) (intsV ((List.replicate (F.length + 1) (-1)).set F.length (F.length : Int)))) := by
    have e : intsV ((List.replicate (F.length + 1) (-1)).set F.length (F.length : Int)) = (intsV (List.replicate (F.length + 1) (-1))).set F.length (.int .i64 (F.length : Int)) := by simp [intsV, List.map_set]
    rw [e]; exact hst5
  have hbs5 : Below w.heap.size w (w5.setCell ⟨w.heap.size, F.length, none⟩ (.int .i64 (F.length : Int))) := hb5.setCell (p := ⟨w.heap.size, F.length, none⟩) (Nat.le_refl _) _
  clear hst5 hu5
  have hI5 : (F.length : Int) < ((F.length + 1 : Nat) : Int) := by omega
  go_wp2
  clear hc5 hf5 hrow5 hb5
  go_loopw [5] (fun b wr => ∃ (bb : Bool) (K : List Int), b = .bool bb ∧ wr.ownsRow w.heap.size 3 1 (.slice (some ⟨w.heap.size, 0, none⟩) (F.length + 1) (F.length + 1)) (F.length + 1) (intsV K) ∧ Hid (KSt F F.length K) ∧ Hid (bb = false → KSt F 0 K ∧ ∀ n, n < F.length → FixAt F K n) ∧ Below w.heap.size w wr)
    (fun b wr => 2 * kmes F.length w.heap.size wr + (match b with | .bool true => 1 | _ => 0))
  case atStart => exact ⟨true, _, rfl, unhide Hst5, hide (kst_start F), hide (fun h => by cases h), hbs5⟩
  case round =>
    clear Hst5 hbs5
    obtain ⟨bb, K, rfl, hown, HK, Hend, hb⟩ := hrel
    cases bb
    · have Hk0 := hide (unhide Hend rfl).1
      have Hfx := hide (unhide Hend rfl).2
      clear Hend
      go_wp2
      go_ret
      exact ⟨K, rfl, hown, unhide Hk0, unhide Hfx, hb⟩
    · have Hmes := hide (kmes_row (unhide HK).len hown)
      have w2 : IntKind.i64.wrap ((F.length : Int) - 1) = (F.length : Int) - 1 := by rw [IntKind.wrap_i64]; omega
      clear Hend
      go_wp2
      go_loopw [5, 6] (fun b i wr => ∃ (bb : Bool) (c : Nat) (j : Int) (K2 : List Int), c ≤ F.length ∧ b = .bool bb ∧ i = .int .i64 j ∧ Hid (j + 1 = (c : Int)) ∧ wr.ownsRow w.heap.size 3 1 (.slice (some ⟨w.heap.size, 0, none⟩) (F.length + 1) (F.length + 1)) (F.length + 1) (intsV K2) ∧ Hid (KSt F c K2) ∧ Hid (bb = false → ∀ n, c ≤ n → n < F.length → FixAt F K2 n) ∧ Hid (kM F.length K2 ≤ kM F.length K) ∧ Hid (bb = true → kM F.length K2 < kM F.length K) ∧ Below w.heap.size w wr)
        (fun _ i _ => (intOf i + 1).toNat)
      case atStart => exact ⟨false, F.length, _, K, Nat.le_refl _, rfl, rfl, hide (by omega), hown, HK, hide (fun _ n h1 h2 => by omega), hide (Nat.le_refl _), hide (fun h => by cases h), hb⟩
      case round =>
        clear hown hb HK w2
        obtain ⟨bb, c, j, K2, hc, rfl, rfl, Hj, hown, HK2, Hfx, Hm1, Hm2, hb⟩ := hrel
        by_cases hc0 : c = 0
        · subst hc0
          obtain rfl : j = -1 := by have := unhide Hj; omega
          have Hme := hide (kmes_row (unhide HK2).len hown)
          go_wp2
          go_roundw
          case rel => exact ⟨bb, K2, rfl, hown, hide ⟨(unhide HK2).len, (unhide HK2).ok.again, (unhide HK2).un⟩, hide (fun h => ⟨unhide HK2, fun n hn => unhide Hfx h n (Nat.zero_le _) hn⟩), hb⟩
          case measure =>
            rw [unhide Hme, unhide Hmes]
            have h1 := unhide Hm1
            cases bb
            · simp only; omega
            · have h2 := unhide Hm2 rfl
              simp only; omega
        · obtain ⟨n, rfl⟩ : ∃ n, c = n + 1 := ⟨c - 1, by omega⟩
          obtain rfl : j = (n : Int) := by have := unhide Hj; omega
          clear hc0 Hj
          have hn : n < F.length := by omega
          have hnI : (n : Int) < (F.length : Int) := by omega
          have hnI1 : (n : Int) < ((F.length + 1 : Nat) : Int) := by omega
          have hn0 : decide ((n : Int) ≥ 0) = true := by simp
          have w3 : IntKind.i64.wrap ((n : Int) - 1) = (n : Int) - 1 := by rw [IntKind.wrap_i64]; omega
          obtain ⟨b, off, ai, ci, rfl, hbB, hcb, hIn⟩ := (hT.below hb).at hn
          obtain ⟨a', cap', hv, hIk, hr9⟩ := ints_of_owns hown (unhide HK2).len.symm (by omega)
          injection hv with e1 e2 e3
          subst e1 e3
          clear e2 hr9
          have hsz := hb.size
          have HkL := hide (unhide HK2).len
          have hc := common_c (Eof F) F.length (n + 1) K2 (unhide HK2).ok (unhide HK2).len (unhide HK2).un _ ai (F.length + 1) ci wr.heap.size wr hIk F[n] (hIn.mono hsz) (unhide HF _ (List.getElem_mem hn))
          rw [unhide HkL] at hc
          have Hc := hide hc
          have Hdone := hide (fun m (h : ComOk K2 F[n] m) => (unhide HK2).done hn (unhide HF) (unhide HP) h)
          clear hc hIk hIn
          generalize F[n] = S at *
          go_wp2_with fail
          refine (unhide Hc).mono ?_
          rintro e w7 ⟨⟨m, rfl, hcom⟩, hw7⟩
          have hw7 := hw7.symm
          subst hw7
          obtain ⟨k, hnK, rfl, hkr, hst, hup, hfix⟩ := unhide Hdone m hcom
          clear hcom Hc Hdone
          have hcell := row_at hown (k := n) (u := .int .i64 K2[n]) (by simp [intsV, hnK])
          have hfz := hown.frozenAt n
          have hst2 := (hown.stored n (.int .i64 (k : Int))).1
          have Hrow2 : Hid ((wr.setCell ⟨w.heap.size, n, none⟩ (.int .i64 (k : Int))).ownsRow w.heap.size 3 1 (.slice (some ⟨w.heap.size, 0, none⟩) (F.length + 1) (F.length + 1)) (F.length + 1) (intsV (K2.set n (k : Int)))) := by
            have e : intsV (K2.set n (k : Int)) = (intsV K2).set n (.int .i64 (k : Int)) := by simp [intsV, List.map_set]
            rw [e]; exact hst2
          have hbs : Below w.heap.size w (wr.setCell ⟨w.heap.size, n, none⟩ (.int .i64 (k : Int))) := hb.setCell (p := ⟨w.heap.size, n, none⟩) (Nat.le_refl _) _
          have Hset : Hid (K2[n] = (k : Int) → K2.set n (k : Int) = K2) := fun e => by rw [← e]; exact List.set_getElem_self hnK
          have HkM : Hid (K2[n] ≠ (k : Int) → kM F.length (K2.set n (k : Int)) < kM F.length K2) := fun e => kM_set hnK (hup e) hkr
          have Hst := hide hst
          have Hfix := hide hfix
          clear hst2 hst hfix hup
          generalize K2[n] = z at *
          by_cases hz : z = (k : Int)
          · have d : ((k : Int) != z) = false := by simp [hz]
            have Hs := hide (unhide Hset hz)
            have Hf := hide (unhide Hfix hz)
            clear hz Hset HkM Hfix
            go_wp2
            go_roundw
            case rel =>
              refine ⟨bb, n, _, K2, by omega, rfl, rfl, hide (by omega), hown, ?_, hide (fun h q h1 h2 => ?_), Hm1, Hm2, hb⟩
              · have := unhide Hst; rw [unhide Hs] at this; exact this
              · by_cases e : q = n
                · subst e; exact unhide Hf
                · exact unhide Hfx h q (by omega) h2
            case measure => simp [intOf]
          · have d : ((k : Int) != z) = true := by simp; exact fun e => hz e.symm
            have HkM2 := hide (unhide HkM hz)
            clear hz Hset HkM Hfix
            go_wp2
            go_roundw
            case rel =>
              refine ⟨true, n, _, K2.set n (k : Int), by omega, rfl, rfl, hide (by omega), unhide Hrow2, Hst, hide (fun h => by cases h), hide ?_, hide (fun _ => ?_), hbs⟩
              · have := unhide HkM2; have := unhide Hm1; omega
              · have := unhide HkM2; have := unhide Hm1; omega
            case measure => simp [intOf]

end Go.Proofs.Ytkoidbekfjlfjaa
