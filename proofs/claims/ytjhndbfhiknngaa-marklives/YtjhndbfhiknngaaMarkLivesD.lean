/- Merged texts: Mp Fa Mq Sb Wb Xb Sh Si Sj Na Nb Cb Nc Nd. -/
import Derived.Test.YtjhndbfhiknngaaProg
import Derived.Test.YtjhndbfhiknngaaMarkLivesC
import Derived.Laws.StructEq

/- Walks: Mark. -/
namespace Go.Proofs.Ytjhndbfhiknngaa
set_option linter.unusedSimpArgs false
set_option linter.unusedVariables false
open Go.RowKit Go.Shelf

/-- What Mark tells of an arena that may be, and a room that may be. -/
def MrkOk (ws rs : List Int) (e : Ending) (W : World) : Prop :=
  ∃ hs fs p a c a' c', Arn hs fs rs ∧ ws = joinW hs fs ∧ (∀ j, p j = true ↔ Rch fs rs j) ∧ e = .returned (.tuple #[.agg #[.slice a (mW hs fs p).length c, .slice a' rs.length c'], .int .i64 0]) ∧ Wds W.heap.size W a (mW hs fs p) ∧ (mW hs fs p).length ≤ c ∧ Wds W.heap.size W a' rs

/-- What Mark tells. -/
def MrkRes (ws rs : List Int) (room : Int) (e : Ending) (W : World) : Prop :=
  (arenaE ws rs ≠ 0 ∧ e = .returned (.tuple #[.agg #[.slice none 0 0, .slice none 0 0], .int .i64 (arenaE ws rs)])) ∨
  (arenaE ws rs = 0 ∧ (room < 1 ∨ 64 < room) ∧ e = .returned (.tuple #[.agg #[.slice none 0 0, .slice none 0 0], .int .i64 3])) ∨
  (arenaE ws rs = 0 ∧ 1 ≤ room ∧ room ≤ 64 ∧ MrkOk ws rs e W)

theorem row_wds {w : World} {N mb : Nat} {l : List Int} {v u : Value} {off : Nat} (h : w.ownsRow N 55 1 v l.length (wordsV l)) (hl : l.length ≤ 256) (hb : mb < N) : ∃ a c, v = .slice a l.length c ∧ Wds w.heap.size w a l ∧ l.length ≤ c ∧ Hid (∀ b o, a = some ⟨b, o, none⟩ → N ≤ b) := by
  obtain ⟨a, c, hv, hW, hn⟩ := words_of_owns h rfl (by omega)
  refine ⟨a, c, hv, hW, ?_, hn⟩
  rcases h.2 with ⟨_, h0⟩ | ⟨g, cap', cur, hv', h1, h2, h3, h4, h5, h6⟩
  · omega
  · rw [hv] at hv'; injection hv' with _ _ e; omega

theorem wds_set {B N : Nat} {w : World} {a : Option Addr} {l : List Int} (h : Wds B w a l) (hn : Hid (∀ b o, a = some ⟨b, o, none⟩ → N ≤ b)) {p : Addr} (hp : p.block < N) (u : Value) : Wds B (w.setCell p u) a l := by
  refine ⟨h.1, fun hne => ?_⟩
  obtain ⟨b, off, rfl, hB, hc⟩ := h.2 hne
  have := unhide hn b off rfl
  refine ⟨b, off, rfl, hB, fun k v hk => ?_⟩
  rw [World.cell?_of_block (a := ⟨b, off + k, none⟩) (Below.heap_setCell _ _ _ _ (by show b ≠ _; omega))]
  exact hc k v hk

set_option maxRecDepth 100000 in
set_option maxHeartbeats 2000000 in
theorem mark_c (aw ar : Option Addr) (cw cr : Nat) (ws rs : List Int) (room : Int) (B : Nat) (w : World) (hW : Wds B w aw ws) (hR : Wds B w ar rs) (hUW : U64 ws) (hUR : U64 rs) (hB : B ≤ w.heap.size) (hcap : ws.length ≤ cw) :
    Calls Try.prog 8 #[.agg #[.slice aw ws.length cw, .slice ar rs.length cr], .int .i64 room] w fun e w' => MrkRes ws rs room e w' ∧ Below w.heap.size w w' := by
  obtain ⟨W1, hW1⟩ : ∃ W1, (w.alloc (.cells #[.slice aw ws.length cw, .slice ar rs.length cr] 24)).alloc (.cells #[.slice none 0 0, .slice none 0 0] 24) = W1 := ⟨_, rfl⟩
  have hb1 : Below w.heap.size w W1 := by rw [← hW1]; exact ((Below.refl w.heap.size w).alloc (Nat.le_refl _) _).alloc (by simp) _
  have hs1 : w.heap.size + 1 < W1.heap.size := by rw [← hW1]; simp
  have g0 : W1.cell? ⟨w.heap.size, 0, none⟩ = some (.slice aw ws.length cw) := by rw [← hW1]; simp [go_sem]
  have g1 : W1.cell? ⟨w.heap.size, 1, none⟩ = some (.slice ar rs.length cr) := by rw [← hW1]; simp [go_sem]
  have r0 : W1.cell? ⟨w.heap.size + 1, 0, none⟩ = some (.slice none 0 0) := by rw [← hW1]; simp [go_sem]
  have r1 : W1.cell? ⟨w.heap.size + 1, 1, none⟩ = some (.slice none 0 0) := by rw [← hW1]; simp [go_sem]
  have z0 : W1.frozen? ⟨w.heap.size + 1, 0, none⟩ = false := by rw [← hW1]; simp [go_sem]
  have z1 : W1.frozen? ⟨w.heap.size + 1, 1, none⟩ = false := by rw [← hW1]; simp [go_sem]
  have Hc1 := hide (acheck_c aw ar cw cr ws rs B W1 (hW.below (hb1.mono hB)) (hR.below (hb1.mono hB)) hUW hUR (by omega) hcap)
  go_enter Try.func8, Try.ntmps8
  go_wp2_with fail
  refine (unhide Hc1).mono ?_
  rintro e w2 ⟨rfl, hb2⟩
  clear hW1 Hc1
  have hs2 := hb2.size
  have hbw2 : Below w.heap.size w w2 := hb1.trans (hb2.mono (by omega))
  replace g0 := (hb2.cell (p := ⟨w.heap.size, 0, none⟩) (by simp; omega)).trans g0
  replace g1 := (hb2.cell (p := ⟨w.heap.size, 1, none⟩) (by simp; omega)).trans g1
  replace r0 := (hb2.cell (p := ⟨w.heap.size + 1, 0, none⟩) hs1).trans r0
  replace r1 := (hb2.cell (p := ⟨w.heap.size + 1, 1, none⟩) hs1).trans r1
  replace z0 := (hb2.frozen (p := ⟨w.heap.size + 1, 0, none⟩) hs1).trans z0
  replace z1 := (hb2.frozen (p := ⟨w.heap.size + 1, 1, none⟩) hs1).trans z1
  have hl2 : w.heap.size + 1 < w2.heap.size := by omega
  have hl2' : w.heap.size < w2.heap.size := by omega
  clear hb1 hb2
  by_cases hE : arenaE ws rs = 0
  · by_cases hr : room < 1 ∨ 64 < room
    · have HE := hide hE
      have Hr := hide hr
      rw [hE]
      have hfin : Hid (∀ W, Below w.heap.size w W → MrkRes ws rs room (.returned (.tuple #[.agg #[.slice none 0 0, .slice none 0 0], .int .i64 3])) W ∧ Below w.heap.size w W) := fun W h => ⟨.inr (.inl ⟨unhide HE, unhide Hr, rfl⟩), h⟩
      clear hE
      rcases hr with hr | hr
      · have d1 : decide (room < 1) = true := by simpa using hr
        go_wp2
        refine bodyPost_ret (v := .tuple #[.agg #[.slice none 0 0, .slice none 0 0], .int .i64 3]) (by simp [results, Try.results8, go_sem, r0, r1]) rfl (unhide hfin _ ((hbw2.setCell (p := ⟨w.heap.size + 1, 0, none⟩) (by simp) _).setCell (p := ⟨w.heap.size + 1, 1, none⟩) (by simp) _))
      · have d1 : decide (room < 1) = false := by simp; omega
        have d2 : decide (room > 64) = true := by simp; omega
        have d3 : decide (64 < room) = true := by simp; omega
        go_wp2
        refine bodyPost_ret (v := .tuple #[.agg #[.slice none 0 0, .slice none 0 0], .int .i64 3]) (by simp [results, Try.results8, go_sem, r0, r1]) rfl (unhide hfin _ ((hbw2.setCell (p := ⟨w.heap.size + 1, 0, none⟩) (by simp) _).setCell (p := ⟨w.heap.size + 1, 1, none⟩) (by simp) _))
    · obtain ⟨rN, rfl⟩ := Int.eq_ofNat_of_zero_le (show 0 ≤ room by omega)
      have hr1 : 1 ≤ rN := by omega
      have hr2 : rN ≤ 64 := by omega
      obtain ⟨hs, fs, hA, hws⟩ := arn_of hUW hUR hE
      have hjl : tot fs = ws.length := by rw [hws, joinW_len _ _ hA.fit.len]
      have HA := hide hA
      have Hws := hide hws
      have HE := hide hE
      rw [hE]
      have Hc2 : Hid (Calls Try.prog 27 #[.agg #[.slice aw ws.length cw, .slice ar rs.length cr], .int .i64 (rN : Nat)] w2 fun e w' => NmRes w2.heap.size hs fs rs rN e w' ∧ Below w2.heap.size w2 w') := by
        have := newMarker_c aw ar cw cr hs fs rs rN w2 hA hr1 hr2 (by rw [← hws]; exact (hW.below (hbw2.mono hB)).mono (by omega)) ((hR.below (hbw2.mono hB)).mono (by omega))
        rw [hjl] at this
        exact this
      have d1 : decide ((rN : Int) < 1) = false := by simp; omega
      have d2 : decide ((rN : Int) > 64) = false := by simp; omega
      have d3 : decide (64 < (rN : Int)) = false := by simp; omega
      clear hE hr hA hws hjl
      go_wp2_with fail
      refine (unhide Hc2).mono ?_
      rintro e w3 ⟨⟨mb, vw, vr, he, hM3⟩, hb3⟩
      subst he
      have Hc3 := hide (markAll_c hs fs rs w2.heap.size mb vw vr rN w3 hM3 (unhide HA) hr1 hr2)
      clear hM3 Hc2
      go_wp2_with fail
      refine (unhide Hc3).mono ?_
      rintro e w4 ⟨⟨he, p, ⟨vk, hM4⟩, hp4⟩, hb4, _⟩
      subst he
      have hs3 := hb3.size
      have hs4 := hb4.size
      have hb34 : Below w2.heap.size w2 w4 := hb3.trans hb4
      have hbw4 : Below w.heap.size w w4 := hbw2.trans (hb34.mono (by omega))
      replace r0 := (hb34.cell (p := ⟨w.heap.size + 1, 0, none⟩) hl2).trans r0
      replace r1 := (hb34.cell (p := ⟨w.heap.size + 1, 1, none⟩) hl2).trans r1
      replace z0 := (hb34.frozen (p := ⟨w.heap.size + 1, 0, none⟩) hl2).trans z0
      replace z1 := (hb34.frozen (p := ⟨w.heap.size + 1, 1, none⟩) hl2).trans z1
      have hml := mW_len (unhide HA).fit p
      obtain ⟨wa, wc, hvw, hWw, hwc, hwn⟩ := row_wds (mb := 0) (u := .bool true) (off := 0) hM4.wo (by rw [hml]; exact (unhide HA).n256) (by omega)
      obtain ⟨ra, rc, hvr, hWr, _, hrn⟩ := row_wds (mb := 0) (u := .bool true) (off := 0) hM4.ro (by have := (unhide HA).n8; omega) (by omega)
      subst hvw hvr
      have q0 := hM4.box.c0
      have q1 := hM4.box.c1
      have hlm := hM4.box.lt
      have hl4 : w.heap.size + 1 < w4.heap.size := by omega
      have hmb : w2.heap.size ≤ mb := hM4.lo
      have Hfin : Hid (∀ W, W = (w4.setCell ⟨w.heap.size + 1, 0, none⟩ (.slice wa (mW hs fs p).length wc)).setCell ⟨w.heap.size + 1, 1, none⟩ (.slice ra rs.length rc) → MrkRes ws rs (rN : Int) (.returned (.tuple #[.agg #[.slice wa (mW hs fs p).length wc, .slice ra rs.length rc], .int .i64 0])) W ∧ Below w.heap.size w W) := fun W h => by
        subst h
        have hsz : ((w4.setCell ⟨w.heap.size + 1, 0, none⟩ (.slice wa (mW hs fs p).length wc)).setCell ⟨w.heap.size + 1, 1, none⟩ (.slice ra rs.length rc)).heap.size = w4.heap.size := by simp [World.setCell]
        refine ⟨.inr (.inr ⟨unhide HE, by omega, by omega, hs, fs, p, wa, wc, ra, rc, unhide HA, unhide Hws, hp4, rfl, ?_, hwc, ?_⟩), (hbw4.setCell (p := ⟨w.heap.size + 1, 0, none⟩) (by simp) _).setCell (p := ⟨w.heap.size + 1, 1, none⟩) (by simp) _⟩
        · rw [hsz]; exact wds_set (wds_set hWw hwn (by show w.heap.size + 1 < _; omega) _) hwn (by show w.heap.size + 1 < _; omega) _
        · rw [hsz]; exact wds_set (wds_set hWr hrn (by show w.heap.size + 1 < _; omega) _) hrn (by show w.heap.size + 1 < _; omega) _
      clear hM4 hp4 hml hWw hWr hwn hrn Hc3 hb3 hb4 hb34 hwc
      generalize (mW hs fs p).length = n at *
      go_wp2
      exact bodyPost_ret (v := .tuple #[.agg #[.slice wa n wc, .slice ra rs.length rc], .int .i64 0]) (by simp [results, Try.results8, go_sem, r0, r1]) rfl (unhide Hfin _ rfl)
  · have HE := hide hE
    have hfin : Hid (∀ W, Below w.heap.size w W → MrkRes ws rs room (.returned (.tuple #[.agg #[.slice none 0 0, .slice none 0 0], .int .i64 (arenaE ws rs)])) W ∧ Below w.heap.size w W) := fun W h => ⟨.inl ⟨unhide HE, rfl⟩, h⟩
    generalize arenaE ws rs = E at *
    have d0 : (E != 0) = true := by simpa using hE
    clear hE
    go_wp2
    refine bodyPost_ret (v := .tuple #[.agg #[.slice none 0 0, .slice none 0 0], .int .i64 E]) (by simp [results, Try.results8, go_sem, r0, r1]) rfl (unhide hfin _ ((hbw2.setCell (p := ⟨w.heap.size + 1, 0, none⟩) (by simp) _).setCell (p := ⟨w.heap.size + 1, 1, none⟩) (by simp) _))

end Go.Proofs.Ytjhndbfhiknngaa

/- Walks: the document's Words, Arenas, packed. -/
namespace Go.Proofs.Ytjhndbfhiknngaa
set_option linter.unusedSimpArgs false
set_option linter.unusedVariables false
open Go.RowKit Go.Shelf

set_option maxRecDepth 100000 in
set_option maxHeartbeats 1000000 in
theorem words_eq_c (a1 a2 : Option Addr) (c1 c2 : Nat) (l1 l2 : List Int) (B : Nat) (w : World) (h1 : Wds B w a1 l1) (h2 : Wds B w a2 l2) (hB : B ≤ w.heap.size) :
    Calls Try.prog 17 #[.slice a1 l1.length c1, .slice a2 l2.length c2] w fun e w' => e = .returned (.bool (decide (l1 = l2))) ∧ Below w.heap.size w w' := by
  have hl1 := h1.1
  have hl2 := h2.1
  by_cases hl : l1.length = l2.length
  · have d1 : ((l1.length : Int) != (l2.length : Int)) = false := by simp [hl]
    have d2 : ((l2.length : Int) != (l2.length : Int)) = false := by simp
    rw [hl]
    have Hl := hide hl
    have hle : l1.length ≤ l2.length := by omega
    have hge : l2.length ≤ l1.length := by omega
    clear hl
    go_enter Try.func17, Try.ntmps17
    go_wp2
    go_loopw [5] (fun i wr => ∃ k : Nat, k ≤ l2.length ∧ i = .int .i64 k ∧ Hid (l1.take k = l2.take k) ∧ Below w.heap.size w wr) (fun i _ => l2.length - (intOf i).toNat)
    case atStart => exact ⟨0, Nat.zero_le _, rfl, by show l1.take 0 = l2.take 0; simp, Below.refl _ _⟩
    case round =>
      obtain ⟨k, hk, rfl, Heq, hb⟩ := hrel
      by_cases hlt : k < l2.length
      · have hlt1 : k < l1.length := by omega
        obtain ⟨b1, o1, rfl, hbB1, hx1⟩ := (h1.below (hb.mono hB)).at hlt1
        obtain ⟨b2, o2, rfl, hbB2, hx2⟩ := (h2.below (hb.mono hB)).at hlt
        have hltI : (k : Int) < (l2.length : Int) := by omega
        have HT1 := hide (List.take_succ_eq_append_getElem hlt1)
        have HT2 := hide (List.take_succ_eq_append_getElem hlt)
        have HN : Hid (l1 = l2 → l1[k] = l2[k]) := by intro e; subst e; rfl
        generalize l1[k] = x at *
        generalize l2[k] = y at *
        by_cases hxy : x = y
        · have d : (x != y) = false := by simpa using hxy
          have Hxy := hide hxy
          clear hxy
          go_wp2
          go_still Try.mixed
          go_wp2
          go_roundw
          case rel => exact ⟨k + 1, by omega, by go_num, by show l1.take (k + 1) = _; rw [unhide HT1, unhide HT2, unhide Heq, unhide Hxy], hb.trans (Below.refl _ _).drew⟩
          case measure => simp [intOf]; omega
        · have d : (x != y) = true := by simpa using hxy
          have Hxy := hide hxy
          clear hxy
          go_wp2
          go_still Try.mixed
          go_wp2
          go_ret
          exact ⟨ret_bool (Eq.symm (decide_eq_false (fun e => unhide Hxy (unhide HN e)))), hb.trans (Below.refl _ _).drew⟩
      · obtain rfl : k = l2.length := by omega
        have Hfin : Hid (l1 = l2) := by
          have := unhide Heq
          rw [List.take_length, List.take_of_length_le hle] at this
          exact this
        go_wp2
        go_ret
        exact ⟨ret_bool (Eq.symm (decide_eq_true (unhide Hfin))), hb⟩
  · have d1 : ((l1.length : Int) != (l2.length : Int)) = true := by simp; omega
    go_enter Try.func17, Try.ntmps17
    go_wp2
    go_ret
    exact ⟨ret_bool (Eq.symm (decide_eq_false (fun e => hl (by rw [e])))), Below.refl _ _⟩

set_option maxRecDepth 100000 in
set_option maxHeartbeats 1000000 in
theorem arenas_eq_c (aw ar bw br : Option Addr) (cw cr dw dr : Nat) (ws rs vs us : List Int) (B : Nat) (w : World) (h1 : Wds B w aw ws) (h2 : Wds B w ar rs) (h3 : Wds B w bw vs) (h4 : Wds B w br us) (hB : B ≤ w.heap.size) :
    Calls Try.prog 11 #[.agg #[.slice aw ws.length cw, .slice ar rs.length cr], .agg #[.slice bw vs.length dw, .slice br us.length dr]] w fun e w' => e = .returned (.bool (decide (ws = vs) && decide (rs = us))) ∧ Below w.heap.size w w' := by
  obtain ⟨W0, hW0⟩ : ∃ W0, (w.alloc (.cells #[.slice aw ws.length cw, .slice ar rs.length cr] 24)).alloc (.cells #[.slice bw vs.length dw, .slice br us.length dr] 24) = W0 := ⟨_, rfl⟩
  have hb0 : Below w.heap.size w W0 := by rw [← hW0]; exact ((Below.refl _ _).alloc (Nat.le_refl _) _).alloc (by simp) _
  have hs0 : w.heap.size + 1 < W0.heap.size := by rw [← hW0]; simp
  have g0 : W0.cell? ⟨w.heap.size, 0, none⟩ = some (.slice aw ws.length cw) := by rw [← hW0]; simp [go_sem]
  have g1 : W0.cell? ⟨w.heap.size, 1, none⟩ = some (.slice ar rs.length cr) := by rw [← hW0]; simp [go_sem]
  have k0 : W0.cell? ⟨w.heap.size + 1, 0, none⟩ = some (.slice bw vs.length dw) := by rw [← hW0]; simp [go_sem]
  have k1 : W0.cell? ⟨w.heap.size + 1, 1, none⟩ = some (.slice br us.length dr) := by rw [← hW0]; simp [go_sem]
  have Hc1 := hide (words_eq_c aw bw cw dw ws vs B W0 (h1.below (hb0.mono hB)) (h3.below (hb0.mono hB)) (by omega))
  go_enter Try.func11, Try.ntmps11
  go_wp2_with fail
  refine (unhide Hc1).mono ?_
  rintro e w2 ⟨he, hb2⟩
  subst he
  clear hW0 Hc1
  have hs2 := hb2.size
  have hbw2 : Below w.heap.size w w2 := hb0.trans (hb2.mono (by omega))
  replace g1 := (hb2.cell (p := ⟨w.heap.size, 1, none⟩) (by simp; omega)).trans g1
  replace k1 := (hb2.cell (p := ⟨w.heap.size + 1, 1, none⟩) hs0).trans k1
  cases hd : decide (ws = vs)
  · have Hd := hide hd
    clear hd
    go_wp2
    go_ret
    exact ⟨ret_bool (by have := unhide Hd; simp at this; simp [this]), hbw2⟩
  · have Hd := hide hd
    clear hd
    have Hc2 := hide (words_eq_c ar br cr dr rs us B w2 (h2.below (hbw2.mono hB)) (h4.below (hbw2.mono hB)) (by omega))
    go_wp2_with fail
    refine (unhide Hc2).mono ?_
    rintro e w3 ⟨he, hb3⟩
    subst he
    go_wp2
    go_ret
    exact ⟨ret_bool (by have := unhide Hd; simp at this; simp [this]), hbw2.trans (hb3.mono (by omega))⟩

theorem words_take_succ {l : List V} {st : List Int} {k : Nat} (hk : k < l.length) {x : Int} (h : packV st l[k] = x) : wordsV ((l.map (packV st)).take (k + 1)) = wordsV ((l.map (packV st)).take k) ++ [.int .u64 x] := by
  rw [List.take_succ_eq_append_getElem (by simpa using hk), List.getElem_map, h, wordsV_snoc]

set_option maxRecDepth 100000 in
set_option maxHeartbeats 2000000 in
theorem rpacked_c (a s0 : Option Addr) (cap caps : Nat) (l : List V) (st : List Int) (B : Nat) (w : World) (hV : Vals B w a l) (hS : Ints B w s0 st) (hB : B ≤ w.heap.size) (hl : l.length ≤ 1000)
    (hr : ∀ v ∈ l, v.1 = true → 0 ≤ v.2 ∧ v.2 < st.length) (hst : ∀ x ∈ st, 0 ≤ x ∧ x ≤ 9223372036854775807) (hn : ∀ v ∈ l, v.1 = false → -9223372036854775808 ≤ v.2 ∧ v.2 ≤ 9223372036854775807) (hsl : st.length ≤ 1000) :
    Calls Try.prog 46 #[.slice a l.length cap, .slice s0 st.length caps] w fun e w' => ∃ a' cap', e = .returned (.slice a' (l.map (packV st)).length cap') ∧ WdsF w.heap.size w' a' (l.map (packV st)) ∧ Below w.heap.size w w' := by
  obtain ⟨i0, hi, hz0, hz1, hz2⟩ := info_parts Try.info55
  go_enter Try.func46, Try.ntmps46
  go_wp2
  go_loopw [5, 12] (fun s i wr => ∃ k : Nat, k ≤ l.length ∧ i = .int .i64 k ∧ wr.ownsRow w.heap.size 55 1 s k (wordsV ((l.map (packV st)).take k)) ∧ Below w.heap.size w wr) (fun _ i _ => l.length - (intOf i).toNat)
  case atStart => exact ⟨0, Nat.zero_le _, rfl, by simpa [wordsV] using World.ownsRow_nil _ _ _ _, Below.refl _ _⟩
  case round =>
    obtain ⟨k, hk, rfl, hown, hb⟩ := hrel
    have hsz := hb.size
    by_cases hlt : k < l.length
    · obtain ⟨b, off, r, m, rfl, hbB, hc1, hc2, Hv⟩ := (hV.below (hb.mono hB)).at hlt
      have hmem : (r, m) ∈ l := by rw [← Hv.out]; exact List.getElem_mem hlt
      have HT := hide (fun x h => words_take_succ (st := st) hlt (x := x) h)
      rw [Hv.out] at HT
      cases r
      · have hrng := hn _ hmem rfl
        have HT2 := hide (unhide HT _ packV_num)
        clear HT Hv
        have Hc := hide (rpack_c false m (wr.alloc (.cells #[.bool false, .int .i64 m] 70)) hrng.1 hrng.2)
        go_wp2_with fail
        refine (unhide Hc).mono ?_
        rintro e w3 ⟨he, hb3⟩
        subst he
        simp only [World.size_alloc] at hb3
        have hs3 := hb3.size
        simp only [World.size_alloc] at hs3
        have hown3 := ownsRow_below (hown.alloc (.cells #[.bool false, .int .i64 m] 70)) (by simpa using hb3)
        have hbw3 : Below w.heap.size w w3 := (hb.alloc (by omega) _).trans (hb3.mono (by omega))
        clear hown Hc
        go_wp2_with (at_builtin; go_must (refine wpList_append_own _ rfl _ _ 22 rfl w.heap.size 55 i0 _ 1 8 Try.underlying22 hi hz0 hz1 hz2 rfl (by decide) _ _ _ rfl (hown3.alloc _) ⟨w3.heap.size, 0, none⟩ 1 1 [.int .u64 (packW false m)] rfl rfl (cell_one_at _ _ _ _ (by simp)) (by simp [Value.oneCell']) (by simp only [maxLen]; omega) (by omega) (by simp; omega) ?_); intro v' w1 hown' hgrow _)
        go_roundw
        case rel => exact ⟨k + 1, by omega, by go_num, by rw [unhide HT2]; exact hown', (hbw3.alloc (by omega) _).grown hgrow (by simp; omega) (fun q e => (hown3.lt q e).1)⟩
        case measure => simp [intOf]; omega
      · have hrng := hr _ hmem rfl
        obtain ⟨mn, rfl⟩ := Int.eq_ofNat_of_zero_le hrng.1
        have hmn : mn < st.length := by have := hrng.2; simp at this; omega
        have hxr := hst _ (List.getElem_mem hmn)
        obtain ⟨b2, off2, rfl, hbB2, hx⟩ := (hS.below (hb.mono hB)).at hmn
        have HT2 := hide (unhide HT (packW true st[mn]) (by simp [packV, List.getD_eq_getElem?_getD, hmn]))
        have hmnI : (mn : Int) < (st.length : Int) := by omega
        have hb2w : b2 < wr.heap.size := by omega
        clear HT Hv hrng
        generalize st[mn] = p at *
        have Hc := hide (rpack_c true p (wr.alloc (.cells #[.bool true, .int .i64 p] 70)) (by omega) (by omega))
        go_wp2_with fail
        refine (unhide Hc).mono ?_
        rintro e w3 ⟨he, hb3⟩
        subst he
        simp only [World.size_alloc] at hb3
        have hs3 := hb3.size
        simp only [World.size_alloc] at hs3
        have hown3 := ownsRow_below (hown.alloc (.cells #[.bool true, .int .i64 p] 70)) (by simpa using hb3)
        have hbw3 : Below w.heap.size w w3 := (hb.alloc (by omega) _).trans (hb3.mono (by omega))
        clear hown Hc
        go_wp2_with (at_builtin; go_must (refine wpList_append_own _ rfl _ _ 22 rfl w.heap.size 55 i0 _ 1 8 Try.underlying22 hi hz0 hz1 hz2 rfl (by decide) _ _ _ rfl (hown3.alloc _) ⟨w3.heap.size, 0, none⟩ 1 1 [.int .u64 (packW true p)] rfl rfl (cell_one_at _ _ _ _ (by simp)) (by simp [Value.oneCell']) (by simp only [maxLen]; omega) (by omega) (by simp; omega) ?_); intro v' w1 hown' hgrow _)
        go_roundw
        case rel => exact ⟨k + 1, by omega, by go_num, by rw [unhide HT2]; exact hown', (hbw3.alloc (by omega) _).grown hgrow (by simp; omega) (fun q e => (hown3.lt q e).1)⟩
        case measure => simp [intOf]; omega
    · obtain rfl : k = l.length := by omega
      rw [List.take_of_length_le (by simp)] at hown
      obtain ⟨a', cap', hv, hWF, _⟩ := wordsF_of_owns hown (by simp) (by omega)
      have HW := hide hWF
      clear hWF
      subst hv
      go_wp2
      go_ret
      exact ⟨a', cap', rfl, unhide HW, hb⟩

end Go.Proofs.Ytjhndbfhiknngaa

/- Walks: MarkRoom. -/
namespace Go.Proofs.Ytjhndbfhiknngaa
set_option linter.unusedSimpArgs false
set_option linter.unusedVariables false
open Go.RowKit Go.Shelf

/-- What is wrong with what Mark is asked. -/
def mrkE (ws rs : List Int) (room : Int) : Int := if arenaE ws rs ≠ 0 then arenaE ws rs else if room < 1 ∨ 64 < room then 3 else 0

/-- The arena that Mark tells. -/
def MrkIs (ws rs : List Int) (room : Int) (L R : List Int) : Prop :=
  (mrkE ws rs room ≠ 0 ∧ L = [] ∧ R = []) ∨ (mrkE ws rs room = 0 ∧ 1 ≤ room ∧ room ≤ 64 ∧ R = rs ∧ ∃ hs fs p, Arn hs fs rs ∧ ws = joinW hs fs ∧ (∀ j, p j = true ↔ Rch fs rs j) ∧ L = mW hs fs p)

theorem MrkRes.all {ws rs : List Int} {room : Int} {e : Ending} {W : World} (h : MrkRes ws rs room e W) :
    ∃ a c a' c' L R, e = .returned (.tuple #[.agg #[.slice a L.length c, .slice a' R.length c'], .int .i64 (mrkE ws rs room)]) ∧ Wds W.heap.size W a L ∧ Wds W.heap.size W a' R ∧ L.length ≤ c ∧ Hid (MrkIs ws rs room L R) := by
  rcases h with ⟨hE, rfl⟩ | ⟨hE, hr, rfl⟩ | ⟨hE, h1, h2, hs, fs, p, a, c, a', c', hA, hw, hp, rfl, hW, hc, hR⟩
  · have e : mrkE ws rs room = arenaE ws rs := by rw [mrkE, if_pos hE]
    exact ⟨none, 0, none, 0, [], [], by rw [e]; rfl, wds_nil rfl, wds_nil rfl, by simp, hide (.inl ⟨by rw [e]; exact hE, rfl, rfl⟩)⟩
  · have e : mrkE ws rs room = 3 := by rw [mrkE, if_neg (by simp [hE]), if_pos hr]
    exact ⟨none, 0, none, 0, [], [], by rw [e]; rfl, wds_nil rfl, wds_nil rfl, by simp, hide (.inl ⟨by rw [e]; omega, rfl, rfl⟩)⟩
  · have e : mrkE ws rs room = 0 := by rw [mrkE, if_neg (by simp [hE]), if_neg (by omega)]
    exact ⟨a, c, a', c', mW hs fs p, rs, by rw [e], hW, hR, hc, hide (.inr ⟨e, h1, h2, rfl, hs, fs, p, hA, hw, hp, rfl⟩)⟩

theorem arn_uniq {hs hs' : List Int} {fs fs' : List (List Int)} {rs rs' : List Int} (h : Arn hs fs rs) (h' : Arn hs' fs' rs') (e : joinW hs fs = joinW hs' fs') : hs = hs' ∧ fs = fs' := by
  have hf : fs = fs' := by
    have h1 := fit_split h.fit
    rw [e, fit_split h'.fit] at h1
    injection h1 with h1
    exact h1.symm
  subst hf
  refine ⟨?_, rfl⟩
  apply List.ext_getElem?
  intro k
  by_cases hk : k < fs.length
  · rw [← joinW_get hs fs k h.fit.len hk, e, joinW_get hs' fs k h'.fit.len hk]
  · rw [List.getElem?_eq_none (by have := h.fit.len; omega), List.getElem?_eq_none (by have := h'.fit.len; omega)]

theorem bool_fn_eq {p q : Nat → Bool} {R : Nat → Prop} (h1 : ∀ j, p j = true ↔ R j) (h2 : ∀ j, q j = true ↔ R j) : p = q := by
  funext j
  rw [Bool.eq_iff_iff, h1, h2]

/-- However little is kept in mind, the same is marked. -/
theorem MrkIs.same {ws rs : List Int} {r s : Int} {L R L' R' : List Int} (h : MrkIs ws rs r L R) (h' : MrkIs ws rs s L' R') (e : mrkE ws rs r = 0) (e' : mrkE ws rs s = 0) : L = L' ∧ R = R' ∧ L.length = ws.length := by
  rcases h with h | ⟨_, _, _, rfl, hs, fs, p, hA, hw, hp, rfl⟩
  · exact absurd e h.1
  rcases h' with h | ⟨_, _, _, rfl, hs', fs', p', hA', hw', hp', rfl⟩
  · exact absurd e' h.1
  obtain ⟨rfl, rfl⟩ := arn_uniq hA hA' (hw.symm.trans hw')
  rw [bool_fn_eq hp hp']
  exact ⟨rfl, rfl, by rw [hw, mW_len hA.fit, joinW_len _ _ hA.fit.len]⟩

set_option maxRecDepth 100000 in
set_option maxHeartbeats 2000000 in
theorem room_c (aw ar : Option Addr) (cw cr : Nat) (ws rs : List Int) (r s : Int) (w : World) (hW : Wds w.heap.size w aw ws) (hR : Wds w.heap.size w ar rs) (hUW : U64 ws) (hUR : U64 rs) (hcap : ws.length ≤ cw) :
    Calls Try.prog 4 #[.agg #[.slice aw ws.length cw, .slice ar rs.length cr], .int .i64 r, .int .i64 s] w fun e w' => e = .returned (.bool true) ∧ Below w.heap.size w w' := by
  obtain ⟨W1, hW1⟩ : ∃ W1, w.alloc (.cells #[.slice aw ws.length cw, .slice ar rs.length cr] 24) = W1 := ⟨_, rfl⟩
  have hb1 : Below w.heap.size w W1 := by rw [← hW1]; exact (Below.refl w.heap.size w).alloc (Nat.le_refl _) _
  have hs1 : w.heap.size < W1.heap.size := by rw [← hW1]; simp
  have g0 : W1.cell? ⟨w.heap.size, 0, none⟩ = some (.slice aw ws.length cw) := by rw [← hW1]; simp [go_sem]
  have g1 : W1.cell? ⟨w.heap.size, 1, none⟩ = some (.slice ar rs.length cr) := by rw [← hW1]; simp [go_sem]
  have Hc1 := hide (sound_c aw ar cw cr ws rs w.heap.size W1 (hW.below hb1) (hR.below hb1) hUW hUR (by omega))
  go_enter Try.func4, Try.ntmps4
  go_wp2_with fail
  refine (unhide Hc1).mono ?_
  rintro e w2 ⟨rfl, hb2⟩
  clear hW1 Hc1
  have hs2 := hb2.size
  have hbw2 : Below w.heap.size w w2 := hb1.trans (hb2.mono (by omega))
  replace g0 := (hb2.cell (p := ⟨w.heap.size, 0, none⟩) hs1).trans g0
  replace g1 := (hb2.cell (p := ⟨w.heap.size, 1, none⟩) hs1).trans g1
  by_cases hE : arenaE ws rs = 0
  · have d0 : (arenaE ws rs == 0) = true := by simp [hE]
    rw [d0]
    have HE := hide hE
    have Hc2 := hide (mark_c aw ar cw cr ws rs r w.heap.size w2 (hW.below hbw2) (hR.below hbw2) hUW hUR (by omega) hcap)
    clear hb1 hb2 hE d0
    go_wp2_with fail
    refine (unhide Hc2).mono ?_
    rintro e w3 ⟨hres, hb3⟩
    obtain ⟨ba, bc, ba', bc', BL, BR, he, hBL, hBR, hbc, HB⟩ := hres.all
    subst he
    have hs3 := hb3.size
    have hbw3 : Below w.heap.size w w3 := hbw2.trans (hb3.mono (by omega))
    obtain ⟨W3, hW3⟩ : ∃ W3, w3.alloc (.cells #[.slice ba BL.length bc, .slice ba' BR.length bc'] 24) = W3 := ⟨_, rfl⟩
    have hb3' : Below w3.heap.size w3 W3 := by rw [← hW3]; exact (Below.refl _ w3).alloc (Nat.le_refl _) _
    have hs3' : w3.heap.size < W3.heap.size := by rw [← hW3]; simp
    have k0 : W3.cell? ⟨w3.heap.size, 0, none⟩ = some (.slice ba BL.length bc) := by rw [← hW3]; simp [go_sem]
    have k1 : W3.cell? ⟨w3.heap.size, 1, none⟩ = some (.slice ba' BR.length bc') := by rw [← hW3]; simp [go_sem]
    replace g0 := (hb3'.cell (p := ⟨w.heap.size, 0, none⟩) (by simp; omega)).trans ((hb3.cell (p := ⟨w.heap.size, 0, none⟩) (by simp; omega)).trans g0)
    replace g1 := (hb3'.cell (p := ⟨w.heap.size, 1, none⟩) (by simp; omega)).trans ((hb3.cell (p := ⟨w.heap.size, 1, none⟩) (by simp; omega)).trans g1)
    have hbW3 : Below w.heap.size w W3 := hbw3.trans (hb3'.mono (by omega))
    have hwW3 : w.heap.size < W3.heap.size := by omega
    have Hc3 := hide (mark_c aw ar cw cr ws rs s w.heap.size W3 (hW.below hbW3) (hR.below hbW3) hUW hUR (by omega) hcap)
    have HBL := hide ((hBL.below hb3').mono (Nat.le_of_lt hs3'))
    have HBR := hide ((hBR.below hb3').mono (Nat.le_of_lt hs3'))
    generalize hE1 : mrkE ws rs r = E1 at *
    have HE1 := hide hE1
    clear Hc2 hres hBL hBR hE1 hb3 hbw3
    go_wp2_with fail
    refine (unhide Hc3).mono ?_
    rintro e w4 ⟨hres, hb4⟩
    obtain ⟨ca, cc, ca', cc', CL, CR, he, hCL, hCR, hcc, HC⟩ := hres.all
    subst he
    have hs4 := hb4.size
    have hbw4 : Below w.heap.size w w4 := hbW3.trans (hb4.mono (by omega))
    obtain ⟨W4, hW4⟩ : ∃ W4, w4.alloc (.cells #[.slice ca CL.length cc, .slice ca' CR.length cc'] 24) = W4 := ⟨_, rfl⟩
    have hb4' : Below w4.heap.size w4 W4 := by rw [← hW4]; exact (Below.refl _ w4).alloc (Nat.le_refl _) _
    have hs4' : w4.heap.size < W4.heap.size := by rw [← hW4]; simp
    have m0 : W4.cell? ⟨w4.heap.size, 0, none⟩ = some (.slice ca CL.length cc) := by rw [← hW4]; simp [go_sem]
    have m1 : W4.cell? ⟨w4.heap.size, 1, none⟩ = some (.slice ca' CR.length cc') := by rw [← hW4]; simp [go_sem]
    replace k0 := (hb4'.cell (p := ⟨w3.heap.size, 0, none⟩) (by simp; omega)).trans ((hb4.cell (p := ⟨w3.heap.size, 0, none⟩) (by simp; omega)).trans k0)
    replace k1 := (hb4'.cell (p := ⟨w3.heap.size, 1, none⟩) (by simp; omega)).trans ((hb4.cell (p := ⟨w3.heap.size, 1, none⟩) (by simp; omega)).trans k1)
    replace g0 := (hb4'.cell (p := ⟨w.heap.size, 0, none⟩) (by simp; omega)).trans ((hb4.cell (p := ⟨w.heap.size, 0, none⟩) (by simp; omega)).trans g0)
    have hbW4 : Below w.heap.size w W4 := hbw4.trans (hb4'.mono (by omega))
    have hwW4 : w.heap.size < W4.heap.size := by omega
    have hwW3' : w3.heap.size < W4.heap.size := by omega
    have hb34 : Below W3.heap.size W3 W4 := hb4.trans (hb4'.mono hs4)
    have Hc4 := hide (arenas_eq_c ba ba' ca ca' bc bc' cc cc' BL BR CL CR W4.heap.size W4 (((unhide HBL).below hb34).mono (by omega)) (((unhide HBR).below hb34).mono (by omega)) ((hCL.below hb4').mono (by omega)) ((hCR.below hb4').mono (by omega)) (Nat.le_refl _))
    generalize hE2 : mrkE ws rs s = E2 at *
    have HE2 := hide hE2
    have Hbad : Hid ((r < 1 ∨ s < 1 ∨ 64 < r ∨ 64 < s) → (E1 != 0) = false → (E2 != 0) = true) := fun h h1 => by
      have h1' : E1 = 0 := by simpa using h1
      have b1 : ¬ (r < 1 ∨ 64 < r) := fun h => by
        have := unhide HE1
        rw [mrkE, if_neg (by simp [unhide HE]), if_pos h] at this
        omega
      have b2 : s < 1 ∨ 64 < s := by omega
      have := unhide HE2
      rw [mrkE, if_neg (by simp [unhide HE]), if_pos b2] at this
      simp; omega
    have Hgood : Hid (¬ (r < 1 ∨ s < 1 ∨ 64 < r ∨ 64 < s) → E1 = 0 ∧ E2 = 0 ∧ BL = CL ∧ BR = CR ∧ BL.length = ws.length) := fun h => by
      have e1 : E1 = 0 := by rw [← unhide HE1, mrkE, if_neg (by simp [unhide HE]), if_neg (by omega)]
      have e2 : E2 = 0 := by rw [← unhide HE2, mrkE, if_neg (by simp [unhide HE]), if_neg (by omega)]
      have := (unhide HB).same (unhide HC) ((unhide HE1).trans e1) ((unhide HE2).trans e2)
      exact ⟨e1, e2, this.1, this.2.1, this.2.2⟩
    clear Hc3 hres hCL hCR hE2 hb4 hbw4 HBL HBR hb4' hb34 HB HC hW3 hb3'
    by_cases hbad : r < 1 ∨ s < 1 ∨ 64 < r ∨ 64 < s
    · have Hbad1 := hide (unhide Hbad hbad)
      clear Hbad Hgood Hc4 HE1 HE2
      by_cases c1 : r < 1
      · have d1 : decide (r < 1) = true := by simpa using c1
        cases h1 : (E1 != 0)
        · have h2 := unhide Hbad1 h1
          go_wp2
          go_ret
          exact ⟨rfl, hbW4⟩
        · go_wp2
          go_ret
          exact ⟨rfl, hbW4⟩
      · have d1 : decide (r < 1) = false := by simpa using c1
        by_cases c2 : s < 1
        · have d2 : decide (s < 1) = true := by simpa using c2
          cases h1 : (E1 != 0)
          · have h2 := unhide Hbad1 h1
            go_wp2
            go_ret
            exact ⟨rfl, hbW4⟩
          · go_wp2
            go_ret
            exact ⟨rfl, hbW4⟩
        · have d2 : decide (s < 1) = false := by simpa using c2
          by_cases c3 : 64 < r
          · have d3 : decide (r > 64) = true := by simpa using c3
            have d3' : decide (64 < r) = true := by simpa using c3
            cases h1 : (E1 != 0)
            · have h2 := unhide Hbad1 h1
              go_wp2
              go_ret
              exact ⟨rfl, hbW4⟩
            · go_wp2
              go_ret
              exact ⟨rfl, hbW4⟩
          · have d3 : decide (r > 64) = false := by simpa using c3
            have d3' : decide (64 < r) = false := by simpa using c3
            have c4 : 64 < s := by omega
            have d4 : decide (s > 64) = true := by simpa using c4
            have d4' : decide (64 < s) = true := by simpa using c4
            cases h1 : (E1 != 0)
            · have h2 := unhide Hbad1 h1
              go_wp2
              go_ret
              exact ⟨rfl, hbW4⟩
            · go_wp2
              go_ret
              exact ⟨rfl, hbW4⟩
    · obtain ⟨e1, e2, hbl, hbr, hlen⟩ := unhide Hgood hbad
      subst e1 e2 hbl hbr
      have d1 : decide (r < 1) = false := by simp; omega
      have d2 : decide (s < 1) = false := by simp; omega
      have d3 : decide (r > 64) = false := by simp; omega
      have d3' : decide (64 < r) = false := by simp; omega
      have d4 : decide (s > 64) = false := by simp; omega
      have d4' : decide (64 < s) = false := by simp; omega
      have dd : (decide (BL = BL) && decide (BR = BR)) = true := by simp
      rw [dd] at Hc4
      rw [hlen] at k0 m0 Hc4 hW4 ⊢
      clear Hbad Hgood HE1 HE2 hbad hlen
      go_wp2_with fail
      refine (unhide Hc4).mono ?_
      rintro e w5 ⟨he, hb5⟩
      subst he
      have hs5 := hb5.size
      replace k0 := (hb5.cell (p := ⟨w3.heap.size, 0, none⟩) (by simp; omega)).trans k0
      replace g0 := (hb5.cell (p := ⟨w.heap.size, 0, none⟩) (by simp; omega)).trans g0
      have hw5 : w.heap.size < w5.heap.size := by omega
      have hw5' : w3.heap.size < w5.heap.size := by omega
      clear Hc4
      go_wp2
      go_ret
      exact ⟨ret_bool (by simp), hbW4.trans (hb5.mono (by omega))⟩
  · have d0 : (arenaE ws rs == 0) = false := by simp [hE]
    have HE := hide hE
    rw [d0]
    have Hc2 := hide (unsound_c aw ar cw cr ws rs w.heap.size w2 (hW.below hbw2) (hR.below hbw2) hUW hUR (by omega) hcap)
    clear hE
    go_wp2_with fail
    refine (unhide Hc2).mono ?_
    rintro e w3 ⟨he, hb3⟩
    have d3 : (arenaE ws rs != 0) = true := by simpa using unhide HE
    rw [d3] at he
    subst he
    go_wp2
    go_ret
    exact ⟨rfl, hbw2.trans (hb3.mono (by omega))⟩

end Go.Proofs.Ytjhndbfhiknngaa

/- Walks: lists of numbers: Ints, rising, within, inside. -/
namespace Go.Proofs.Ytjhndbfhiknngaa
set_option linter.unusedSimpArgs false
set_option linter.unusedVariables false
open Go.RowKit

/-- A list that rises, strictly. -/
def risingL (l : List Int) : Bool := (List.range (l.length - 1)).all fun k => decide (l.getD k 0 < l.getD (k + 1) 0)

end Go.Proofs.Ytjhndbfhiknngaa

/- Walks. -/
namespace Go.Proofs.Ytjhndbfhiknngaa
set_option linter.unusedSimpArgs false
set_option linter.unusedVariables false
open Go.RowKit

set_option maxHeartbeats 400000 in
theorem refers_c (a : Option Addr) (cap : Nat) (l : List V) (j : Int) (B : Nat) (w : World) (hl : Vals B w a l) (hB : B ≤ w.heap.size) :
    Calls Try.prog 48 #[.slice a l.length cap, .int .i64 j] w fun e w' => e = .returned (.bool (refers l j)) ∧ Below B w w' := by
  have hlen := hl.1
  go_enter Try.func48, Try.ntmps48
  go_wp2
  go_loopw [9] (fun i wr => ∃ k : Nat, k ≤ l.length ∧ i = .int .i64 k ∧ refers (l.take k) j = false ∧ Below B w wr) (fun i _ => l.length - (intOf i).toNat)
  case atStart => exact ⟨0, Nat.zero_le _, rfl, by simp [refers], Below.refl _ _⟩
  case round =>
    obtain ⟨k, hk, rfl, hno, hb⟩ := hrel
    by_cases hlt : k < l.length
    · obtain ⟨b, off, r, n, rfl, hbB, hc1, hc2, Hv⟩ := (hl.below hb).at hlt
      have HT := hide (refers_take (j := j) hlt Hv.out)
      cases r
      · go_wp2
        go_roundw
        case rel => exact ⟨k + 1, by omega, by go_num, by rw [unhide HT, hno]; rfl, hb.alloc (by have := hb.size; omega) _⟩
        case measure => simp [intOf]; omega
      · by_cases hj : n = j
        · have hj' : (n == j) = true := by simp [hj]
          go_wp2
          go_ret
          exact ⟨ret_bool (refers_of_take (k := k + 1) (by rw [unhide HT, hno]; simpa using hj)).symm, hb.alloc (by have := hb.size; omega) _⟩
        · have hj' : (n == j) = false := by simp [hj]
          go_wp2
          go_roundw
          case rel => exact ⟨k + 1, by omega, by go_num, by rw [unhide HT, hno]; simpa using hj, hb.alloc (by have := hb.size; omega) _⟩
          case measure => simp [intOf]; omega
    · go_wp2
      go_ret
      exact ⟨ret_bool (by rw [List.take_of_length_le (by omega)] at hno; exact hno.symm), hb⟩

end Go.Proofs.Ytjhndbfhiknngaa

/- How far objects are: plain facts. -/
namespace Go.Proofs.Ytjhndbfhiknngaa
set_option linter.unusedSimpArgs false
set_option linter.unusedVariables false

/-- The best of what stands before the first k. -/
def bestK (D : Nat → Int) (R : Nat → Bool) : Nat → Int
  | 0 => -1
  | i + 1 => if 0 ≤ D i ∧ R i = true ∧ (bestK D R i < 0 ∨ D i + 1 < bestK D R i) then D i + 1 else bestK D R i

theorem bestK_spec (D : Nat → Int) (R : Nat → Bool) : ∀ k, (bestK D R k = -1 ∧ ∀ i, i < k → ¬ (0 ≤ D i ∧ R i = true)) ∨ (∃ i, i < k ∧ 0 ≤ D i ∧ R i = true ∧ bestK D R k = D i + 1 ∧ ∀ i', i' < k → 0 ≤ D i' → R i' = true → D i ≤ D i')
  | 0 => .inl ⟨rfl, fun i h => by omega⟩
  | k + 1 => by
    have ih := bestK_spec D R k
    by_cases hc : 0 ≤ D k ∧ R k = true
    · rcases ih with ⟨h1, h2⟩ | ⟨i, h1, h2, h3, h4, h5⟩
      · refine .inr ⟨k, by omega, hc.1, hc.2, ?_, ?_⟩
        · show (if _ then _ else _) = _
          rw [if_pos ⟨hc.1, hc.2, .inl (by omega)⟩]
        · intro i' hi' h0 hr
          by_cases e : i' = k
          · subst e; omega
          · exact absurd ⟨h0, hr⟩ (h2 i' (by omega))
      · by_cases hb : D k + 1 < bestK D R k
        · refine .inr ⟨k, by omega, hc.1, hc.2, ?_, ?_⟩
          · show (if _ then _ else _) = _
            rw [if_pos ⟨hc.1, hc.2, .inr hb⟩]
          · intro i' hi' h0 hr
            by_cases e : i' = k
            · subst e; omega
            · have := h5 i' (by omega) h0 hr; omega
        · refine .inr ⟨i, by omega, h2, h3, ?_, ?_⟩
          · show (if _ then _ else _) = _
            rw [if_neg (by rintro ⟨_, _, h | h⟩ <;> omega)]; exact h4
          · intro i' hi' h0 hr
            by_cases e : i' = k
            · subst e; omega
            · exact h5 i' (by omega) h0 hr
    · have e : bestK D R (k + 1) = bestK D R k := by
        show (if _ then _ else _) = _
        rw [if_neg (fun h => hc ⟨h.1, h.2.1⟩)]
      rw [e]
      rcases ih with ⟨h1, h2⟩ | ⟨i, h1, h2, h3, h4, h5⟩
      · refine .inl ⟨h1, fun i hi => ?_⟩
        by_cases e : i = k
        · subst e; exact hc
        · exact h2 i (by omega)
      · refine .inr ⟨i, by omega, h2, h3, h4, fun i' hi' h0 hr => ?_⟩
        by_cases e : i' = k
        · subst e; exact absurd ⟨h0, hr⟩ hc
        · exact h5 i' (by omega) h0 hr

theorem idx_of {l : List Int} (h : l.Nodup) {m : Nat} {o : Int} (hm : l[m]? = some o) : l.idxOf o = m := by
  obtain ⟨hlt, rfl⟩ := List.getElem?_eq_some_iff.1 hm
  have h1 : l.idxOf l[m] < l.length := List.idxOf_lt_length_iff.2 (List.getElem_mem hlt)
  have h2 := List.getElem_idxOf h1
  rw [List.nodup_iff_pairwise_ne, List.pairwise_iff_getElem] at h
  rcases Nat.lt_trichotomy (l.idxOf l[m]) m with h3 | h3 | h3
  · exact absurd h2 (h _ _ h1 hlt h3)
  · exact h3
  · exact absurd h2.symm (h _ _ hlt h1 h3)

theorem distAt_of {g : Gr} (h : Good g) {m : Nat} {o d : Int} (hm : (orderOf g)[m]? = some o) (hd : (distOf g)[m]? = some d) : distAt g o = d := by
  unfold distAt
  rw [if_pos (List.mem_of_getElem? hm), idx_of (order_nodup h) hm, hd]; rfl

theorem distAt_mem {g : Gr} (h : Good g) {o : Int} (ho : o ∈ orderOf g) : ∃ (m : Nat) (d : Int), (orderOf g)[m]? = some o ∧ (distOf g)[m]? = some d ∧ distAt g o = d ∧ 0 ≤ d ∧ d ≤ m := by
  obtain ⟨m, hm, rfl⟩ := List.getElem_of_mem ho
  have hok := searchN_ok h g.objs.length
  have hm2 : m < (distOf g).length := by rw [show (distOf g).length = (orderOf g).length from hok.len]; exact hm
  have h1 := List.getElem?_eq_getElem hm
  have h2 := List.getElem?_eq_getElem hm2
  have h3 := hok.pos m _ h2
  exact ⟨m, _, h1, h2, distAt_of h h1 h2, h3.1, h3.2⟩

theorem distAt_nonneg {g : Gr} (h : Good g) (o : Int) : 0 ≤ distAt g o ↔ o ∈ orderOf g := by
  constructor
  · intro h0
    unfold distAt at h0
    split at h0
    · assumption
    · omega
  · intro ho
    obtain ⟨_, d, _, _, e, h0, _⟩ := distAt_mem h ho
    omega

theorem distAt_bounds {g : Gr} (h : Good g) (o : Int) : -1 ≤ distAt g o ∧ distAt g o ≤ 256 := by
  by_cases ho : o ∈ orderOf g
  · obtain ⟨m, d, h1, _, e, h0, h2⟩ := distAt_mem h ho
    have := (List.getElem?_eq_some_iff.1 h1).1
    have := (searchN_ok h g.objs.length).le
    have := h.n24
    unfold orderOf at *
    omega
  · unfold distAt
    rw [if_neg ho]; omega

/-- An object is as far as one more than the nearest that refers to it. -/
theorem steps_eq {g : Gr} (h : Good g) {j : Nat} (hj : j < g.objs.length) :
    distAt g (j : Int) = if refers g.roots (j : Int) = true then 0 else bestK (fun i => distAt g (i : Int)) (fun i => refers (fieldsOf g (i : Int)) (j : Int)) g.objs.length := by
  have hB := bfs g g.objs.length
  have hR := refers_iff h.refsRoots (j : Int)
  have hF : ∀ (i : Nat), i < g.objs.length → (refers (fieldsOf g (i : Int)) (j : Int) = true ↔ (j : Int) ∈ refsL (fieldsOf g (i : Int))) := fun i hi => refers_iff (h.refsObjs (fieldsOf_mem (by omega) (by omega))) _
  have hlen := (searchN_ok h g.objs.length).le
  by_cases hjo : (j : Int) ∈ orderOf g
  · obtain ⟨p, dp, hp, hd, e, h0, _⟩ := distAt_mem h hjo
    rw [e]
    rcases hB.cause p (j : Int) dp hp hd with ⟨h1, h2⟩ | ⟨h1, m, om, dm, hm, h2, h3, h4, h5, h6⟩
    · rw [if_pos (hR.2 h1)]; exact h2
    · rw [if_neg (fun hh => h1 (hR.1 hh))]
      have hom : om ∈ orderOf g := List.mem_of_getElem? h2
      have hor := order_ok h hom
      obtain ⟨om, rfl⟩ := Int.eq_ofNat_of_zero_le hor.1
      have hdm := distAt_of h h2 h3
      have hdm0 := (distAt_nonneg h (om : Int)).2 hom
      rcases bestK_spec (fun i => distAt g (i : Int)) (fun i => refers (fieldsOf g (i : Int)) (j : Int)) g.objs.length with ⟨_, hno⟩ | ⟨i, hi, b1, b2, b3, b4⟩
      · exact absurd ⟨hdm0, (hF om (by omega)).2 h4⟩ (hno om (by omega))
      · rw [b3]
        have hle := b4 om (by omega) hdm0 ((hF om (by omega)).2 h4)
        have hio := (distAt_nonneg h (i : Int)).1 b1
        obtain ⟨q, dq, hq, hdq, eq, _, _⟩ := distAt_mem h hio
        have hji := (hF i hi).1 b2
        have hmq : m ≤ q := by
          rcases Nat.lt_or_ge q m with hlt | hge
          · exact absurd hji (h6 q (i : Int) hlt hq)
          · exact hge
        have := hB.mono m q dm dq hmq h3 hdq
        omega
  · have e : distAt g (j : Int) = -1 := by unfold distAt; rw [if_neg hjo]
    rw [e, if_neg (fun hh => hjo (order_roots g _ (hR.1 hh)))]
    rcases bestK_spec (fun i => distAt g (i : Int)) (fun i => refers (fieldsOf g (i : Int)) (j : Int)) g.objs.length with ⟨h1, _⟩ | ⟨i, hi, b1, b2, _, _⟩
    · exact h1.symm
    · exact absurd (order_closed h ((distAt_nonneg h (i : Int)).1 b1) _ ((hF i hi).1 b2)) hjo

theorem bestK_bounds {D : Nat → Int} {R : Nat → Bool} (hD : ∀ i, -1 ≤ D i ∧ D i ≤ 256) (k : Nat) : -1 ≤ bestK D R k ∧ bestK D R k ≤ 257 := by
  rcases bestK_spec D R k with ⟨h1, _⟩ | ⟨i, _, h2, _, h3, _⟩
  · omega
  · have := hD i; omega

end Go.Proofs.Ytjhndbfhiknngaa

/- How far objects are, level by level: plain facts. -/
namespace Go.Proofs.Ytjhndbfhiknngaa
set_option linter.unusedSimpArgs false
set_option linter.unusedVariables false

/-- What is known behind s levels. -/
def lev (D : Nat → Int) (s j : Nat) : Int := if 0 ≤ D j ∧ D j ≤ (s : Int) then D j else -1
/-- One of the first i that stand at level s refers to j. -/
def hit (D : Nat → Int) (R : Nat → Nat → Bool) (s i j : Nat) : Bool := (List.range i).any fun i' => decide (D i' = (s : Int)) && R i' j
def mid (D : Nat → Int) (R : Nat → Nat → Bool) (s i j : Nat) : Int := if 0 ≤ lev D s j then lev D s j else if hit D R s i j = true then (s : Int) + 1 else -1

theorem hit_succ (D : Nat → Int) (R : Nat → Nat → Bool) (s i j : Nat) : hit D R s (i + 1) j = (hit D R s i j || (decide (D i = (s : Int)) && R i j)) := by
  unfold hit; rw [List.range_succ, List.any_append]; simp

theorem hit_iff (D : Nat → Int) (R : Nat → Nat → Bool) (s i j : Nat) : hit D R s i j = true ↔ ∃ i', i' < i ∧ D i' = (s : Int) ∧ R i' j = true := by
  unfold hit; simp [List.any_eq_true]

theorem lev_cases (D : Nat → Int) (s j : Nat) : (0 ≤ lev D s j ∧ lev D s j = D j ∧ D j ≤ (s : Int)) ∨ (lev D s j = -1 ∧ ¬ (0 ≤ D j ∧ D j ≤ (s : Int))) := by
  unfold lev; split
  · left; omega
  · right; omega

theorem mid_zero (D : Nat → Int) (R : Nat → Nat → Bool) (s j : Nat) : mid D R s 0 j = lev D s j := by
  unfold mid
  rcases lev_cases D s j with ⟨h, _, _⟩ | ⟨h, _⟩
  · rw [if_pos h]
  · rw [if_neg (by omega), if_neg (by simp [hit]), h]

theorem mid_skip {D : Nat → Int} {R : Nat → Nat → Bool} {s i j : Nat} (h : D i ≠ (s : Int)) : mid D R s (i + 1) j = mid D R s i j := by
  unfold mid; rw [hit_succ]; simp [h]

theorem mid_set {D : Nat → Int} {R : Nat → Nat → Bool} {s i j : Nat} (h1 : mid D R s i j < 0) (h2 : D i = (s : Int)) (h3 : R i j = true) : mid D R s (i + 1) j = (s : Int) + 1 := by
  unfold mid at *
  rcases lev_cases D s j with ⟨h, _, _⟩ | ⟨h, _⟩
  · rw [if_pos h] at h1; omega
  · rw [if_neg (by omega), if_pos (by rw [hit_succ]; simp [h2, h3])]

theorem mid_keep {D : Nat → Int} {R : Nat → Nat → Bool} {s i j : Nat} (h : 0 ≤ mid D R s i j ∨ R i j = false) : mid D R s (i + 1) j = mid D R s i j := by
  unfold mid at *
  rcases lev_cases D s j with ⟨h0, _, _⟩ | ⟨h0, _⟩
  · rw [if_pos h0, if_pos h0]
  · have hn : ¬ 0 ≤ lev D s j := by omega
    simp only [if_neg hn] at h ⊢
    rcases h with h | h
    · by_cases hh : hit D R s i j = true
      · rw [if_pos hh, if_pos (by rw [hit_succ, hh]; rfl)]
      · rw [if_neg hh] at h; omega
    · rw [hit_succ, h]; simp

theorem mid_self {D : Nat → Int} {R : Nat → Nat → Bool} {s i k : Nat} : mid D R s k i = (s : Int) ↔ D i = (s : Int) := by
  unfold mid
  rcases lev_cases D s i with ⟨h, h1, h2⟩ | ⟨h, h1⟩
  · rw [if_pos h, h1]
  · rw [if_neg (by omega)]
    split
    · constructor
      · intro e; omega
      · intro e; exfalso; apply h1; omega
    · constructor
      · intro e; omega
      · intro e; exfalso; apply h1; omega

theorem mid_bounds {D : Nat → Int} {R : Nat → Nat → Bool} (s i j : Nat) : -1 ≤ mid D R s i j ∧ mid D R s i j ≤ (s : Int) + 1 := by
  unfold mid
  rcases lev_cases D s j with ⟨h, h1, h2⟩ | ⟨h, h1⟩
  · rw [if_pos h]; omega
  · rw [if_neg (by omega)]; split <;> omega

def dG (g : Gr) (i : Nat) : Int := distAt g (i : Int)
def rG (g : Gr) (i j : Nat) : Bool := refers (fieldsOf g (i : Int)) (j : Int)

theorem mid_end {g : Gr} (h : Good g) {s j : Nat} (hj : j < g.objs.length) : mid (dG g) (rG g) s g.objs.length j = lev (dG g) (s + 1) j := by
  have hst := steps_eq h hj
  have hb := distAt_bounds h (j : Int)
  have hsp := bestK_spec (dG g) (fun i => rG g i j) g.objs.length
  have hst : dG g j = if refers g.roots (j : Int) = true then 0 else bestK (dG g) (fun i => rG g i j) g.objs.length := hst
  have hb1 : -1 ≤ dG g j := hb.1
  unfold mid
  rcases lev_cases (dG g) s j with ⟨h0, h1, h2⟩ | ⟨h0, h1⟩
  · rw [if_pos h0, h1]; unfold lev; rw [if_pos ⟨by omega, by omega⟩]
  · rw [if_neg (by omega)]
    by_cases hh : hit (dG g) (rG g) s g.objs.length j = true
    · rw [if_pos hh]
      obtain ⟨i', hi', e1, e2⟩ := (hit_iff _ _ _ _ _).1 hh
      have : dG g j = (s : Int) + 1 := by
        by_cases hr : refers g.roots (j : Int) = true
        · rw [if_pos hr] at hst; omega
        · rw [if_neg hr] at hst
          rcases hsp with ⟨_, hno⟩ | ⟨i, hi, b1, b2, b3, b4⟩
          · exact absurd ⟨by omega, e2⟩ (hno i' hi')
          · have := b4 i' hi' (by omega) e2
            omega
      unfold lev; rw [if_pos (by omega), this]
    · rw [if_neg hh]
      unfold lev
      rw [if_neg]
      intro hc
      have hs1 : dG g j = (s : Int) + 1 := by omega
      by_cases hr : refers g.roots (j : Int) = true
      · rw [if_pos hr] at hst; omega
      · rw [if_neg hr] at hst
        rcases hsp with ⟨hno, _⟩ | ⟨i, hi, b1, b2, b3, b4⟩
        · omega
        · exact hh ((hit_iff _ _ _ _ _).2 ⟨i, hi, by omega, b2⟩)

theorem lev_start {g : Gr} (h : Good g) {j : Nat} (hj : j < g.objs.length) : lev (dG g) 0 j = if refers g.roots (j : Int) = true then 0 else -1 := by
  have hst := steps_eq h hj
  have hsp := bestK_spec (dG g) (fun i => rG g i j) g.objs.length
  have hst : dG g j = if refers g.roots (j : Int) = true then 0 else bestK (dG g) (fun i => rG g i j) g.objs.length := hst
  unfold lev
  by_cases hr : refers g.roots (j : Int) = true
  · rw [if_pos hr] at hst; rw [if_pos hr, if_pos (by omega), hst]
  · rw [if_neg hr] at hst; rw [if_neg hr, if_neg]
    rcases hsp with ⟨hno, _⟩ | ⟨i, hi, b1, b2, b3, b4⟩ <;> omega

theorem lev_end {g : Gr} (h : Good g) {j : Nat} : lev (dG g) g.objs.length j = dG g j := by
  have hb : -1 ≤ dG g j := (distAt_bounds h (j : Int)).1
  unfold lev
  by_cases h0 : 0 ≤ dG g j
  · obtain ⟨m, d, hm, _, e, _, h2⟩ := distAt_mem h ((distAt_nonneg h (j : Int)).1 h0)
    have h3 := (List.getElem?_eq_some_iff.1 hm).1
    have h4 := (searchN_ok h g.objs.length).le
    have h3 : m < (searchN g g.objs.length).1.length := h3
    rw [if_pos ⟨h0, by unfold dG; omega⟩]
  · rw [if_neg (by omega)]; omega

/-- A list that holds a function's values. -/
def Holds' (dl : List Int) (n : Nat) (f : Nat → Int) : Prop := dl.length = n ∧ ∀ j, j < n → dl[j]? = some (f j)

theorem Holds'.set {dl : List Int} {n : Nat} {f f' : Nat → Int} (h : Holds' dl n f) {j : Nat} (hj : j < n) {v : Int} (hv : f' j = v) (ho : ∀ q, q < n → q ≠ j → f' q = f q) : Holds' (dl.set j v) n f' := by
  refine ⟨by rw [List.length_set]; exact h.1, fun q hq => ?_⟩
  by_cases e : q = j
  · subst e; rw [List.getElem?_set_self (by rw [h.1]; exact hq), hv]
  · rw [List.getElem?_set_ne (fun h => e h.symm), h.2 q hq, ho q hq e]

theorem Holds'.congr {dl : List Int} {n : Nat} {f f' : Nat → Int} (h : Holds' dl n f) (ho : ∀ q, q < n → f' q = f q) : Holds' dl n f' := ⟨h.1, fun q hq => by rw [h.2 q hq, ho q hq]⟩

theorem Holds'.dist {g : Gr} {dl : List Int} (h : Holds' dl g.objs.length (dG g)) : dl = distL g := by
  apply List.ext_getElem?
  intro i
  by_cases hi : i < g.objs.length
  · rw [h.2 i hi]; simp [distL, List.getElem?_map, List.getElem?_range hi, dG]
  · rw [List.getElem?_eq_none (by rw [h.1]; omega), List.getElem?_eq_none (by rw [distL_len]; omega)]

end Go.Proofs.Ytjhndbfhiknngaa

/- Walks: the document's answer: Dist. -/
namespace Go.Proofs.Ytjhndbfhiknngaa
set_option linter.unusedSimpArgs false
set_option linter.unusedVariables false
open Go.RowKit

/-- A row of numbers in a block of the call's own. -/
structure DRow (W : World) (b n : Nat) (dl : List Int) : Prop where
  own : W.ownsRow b 3 1 (.slice (some ⟨b, 0, none⟩) n n) n (intsV dl)
  len : dl.length = n

theorem DRow.below {W W' : World} {b n : Nat} {dl : List Int} (h : DRow W b n dl) (hb : Below W.heap.size W W') : DRow W' b n dl :=
  ⟨h.own.kept (grown_of_below hb) (Classical.em _), h.len⟩

theorem DRow.lt {W : World} {b n : Nat} {dl : List Int} (h : DRow W b n dl) : b < W.heap.size := (h.own.lt b rfl).2

theorem DRow.cell {W : World} {b n : Nat} {dl : List Int} (h : DRow W b n dl) {k : Nat} {x : Int} (hx : dl[k]? = some x) : W.cell? ⟨b, k, none⟩ = some (.int .i64 x) := by
  have := h.own.cells (g := b) rfl k (.int .i64 x) (by simp [intsV, hx])
  have hadd : (⟨b, 0, none⟩ : Addr).add k = ⟨b, k, none⟩ := by unfold Addr.add; split <;> simp_all
  rwa [hadd] at this

theorem DRow.set {W : World} {b n : Nat} {dl : List Int} (h : DRow W b n dl) (k : Nat) (x : Int) : DRow (W.setCell ⟨b, k, none⟩ (.int .i64 x)) b n (dl.set k x) := by
  refine ⟨?_, by rw [List.length_set]; exact h.len⟩
  have := (h.own.stored k (.int .i64 x)).1
  have e : intsV (dl.set k x) = (intsV dl).set k (.int .i64 x) := by simp [intsV, List.map_set]
  rw [e]; exact this

theorem DRow.frozen {W : World} {b n : Nat} {dl : List Int} (h : DRow W b n dl) (k : Nat) : W.frozen? ⟨b, k, none⟩ = false := h.own.frozenAt k

theorem made_ints (n : Nat) : (madeCells (Value.int .i64 0).cells (n * 1)).toList = intsV (List.replicate n 0) := by
  rw [Nat.mul_one]
  have hc : (Value.int .i64 0).cells = #[Value.int .i64 0] := rfl
  rw [hc]
  apply List.ext_getElem?
  intro i
  simp only [madeCells, intsV, Array.toList_map, Array.toList_range, List.getElem?_map, List.getElem?_replicate]
  by_cases hi : i < n
  · rw [List.getElem?_range hi, if_pos hi]; simp [Nat.mod_one]
  · rw [List.getElem?_eq_none (by simp; omega), if_neg hi]; rfl

def start1 (g : Gr) (k j : Nat) : Int := if j < k then lev (dG g) 0 j else 0

set_option maxRecDepth 100000 in
set_option maxHeartbeats 4000000 in
theorem refDist_c (ao ar : Option Addr) (co cr : Nat) (g : Gr) (B : Nat) (w : World) (ho : Objs B w ao g.objs) (hr : Vals B w ar g.roots) (hB : B ≤ w.heap.size) (hG : Good g) :
    Calls Try.prog 36 #[.agg #[.slice ao g.objs.length co, .slice ar g.roots.length cr]] w fun e w' => ∃ a cap, e = .returned (.slice a (distL g).length cap) ∧ Ints w'.heap.size w' a (distL g) ∧ Below w.heap.size w w' := by
  obtain ⟨i0, hi, hz0, hz1, hz2⟩ := info_parts Try.info3
  have hn24 := hG.n24
  obtain ⟨W4, hW4⟩ : ∃ W4, w.alloc (.cells #[.slice ao g.objs.length co, .slice ar g.roots.length cr] 47) = W4 := ⟨_, rfl⟩
  have hb0 : Below w.heap.size w W4 := by rw [← hW4]; exact (Below.refl _ _).alloc (Nat.le_refl _) _
  have hs0 : w.heap.size < W4.heap.size := by rw [← hW4]; simp
  have g0 : W4.cell? ⟨w.heap.size, 0, none⟩ = some (.slice ao g.objs.length co) := by rw [← hW4]; simp [go_sem]
  have g1 : W4.cell? ⟨w.heap.size, 1, none⟩ = some (.slice ar g.roots.length cr) := by rw [← hW4]; simp [go_sem]
  go_enter Try.func36, Try.ntmps36
  go_wp2_with (at_make; go_must (refine wpList_make_full _ rfl _ _ 40 rfl W4.heap.size 3 i0 _ 1 Try.underlying40 hi hz0 hz1 .i64 .i64 _ _ g.objs.length rfl rfl rfl rfl (by rw [hz2]; omega) (by simp only [maxLen]; omega) (Nat.le_refl _) ?_); go_must (intro w5 hown hg5))
  clear hW4
  have hb5 : Below W4.heap.size W4 w5 := (Below.refl _ W4).grown hg5 (Nat.le_refl _) (fun k e => by cases e)
  obtain ⟨dl5, hD5⟩ : ∃ dl5, DRow w5 W4.heap.size g.objs.length dl5 := by
    refine ⟨List.replicate g.objs.length 0, ⟨?_, by simp⟩⟩
    have e : (madeCells (Value.int .i64 0).cells (g.objs.length * 1)).toList = intsV (List.replicate g.objs.length 0) := made_ints _
    rw [e] at hown
    exact hown
  clear hown hg5
  go_loopw [4] (fun i wr => ∃ (k : Nat) (dl : List Int), k ≤ g.objs.length ∧ i = .int .i64 k ∧ DRow wr W4.heap.size g.objs.length dl ∧ Hid (∀ j, j < k → dl[j]? = some (lev (dG g) 0 j)) ∧ Below W4.heap.size W4 wr) (fun i _ => g.objs.length - (intOf i).toNat)
  case atStart => exact ⟨0, dl5, Nat.zero_le _, rfl, hD5, fun j hj => by omega, hb5⟩
  case round =>
    clear hD5 hb5
    obtain ⟨k, dl, hk, rfl, hD, Hd, hb⟩ := hrel
    have hsz := hb.size
    have hlt0 := hD.lt
    by_cases hlt : k < g.objs.length
    · have hltd : k < dl.length := by rw [hD.len]; exact hlt
      have hx0 := hD.cell (List.getElem?_eq_getElem hltd)
      have hf0 := hD.frozen k
      have hltI : (k : Int) < (g.objs.length : Int) := by omega
      have hD1 := hD.set k (-1)
      have hb1 : Below W4.heap.size W4 (wr.setCell ⟨W4.heap.size, k, none⟩ (.int .i64 (-1))) := hb.setCell (p := ⟨W4.heap.size, k, none⟩) (Nat.le_refl _) _
      obtain ⟨W6, hW6⟩ : ∃ W6, wr.setCell ⟨W4.heap.size, k, none⟩ (.int .i64 (-1)) = W6 := ⟨_, rfl⟩
      rw [hW6] at hD1 hb1
      have hs6 := hb1.size
      have q1 := (hb1.cell (p := ⟨w.heap.size, 1, none⟩) (by simp; omega)).trans g1
      have hV6 := (hr.below ((hb0.mono hB).trans (hb1.mono (by omega)))).mono (B' := W6.heap.size) (by omega)
      have HL := hide (lev_start hG hlt)
      have Hd1 : Hid (∀ j, j < k → (dl.set k (-1))[j]? = some (lev (dG g) 0 j)) := fun j hj => by rw [List.getElem?_set_ne (by omega)]; exact unhide Hd j hj
      have hl1 : (dl.set k (-1)).length = g.objs.length := hD1.len
      clear hD hb Hd
      cases hrf : refers g.roots (k : Int)
      · have HL : Hid (lev (dG g) 0 k = -1) := by have := unhide HL; rw [hrf] at this; exact this
        go_wp2_with (go_at_call 48; go_must (refine (refers_c ar cr g.roots (k : Int) W6.heap.size W6 hV6 (Nat.le_refl _)).mono ?_); go_must (rintro e w7 ⟨he, hb7⟩; rw [hrf] at he; subst he))
        go_roundw
        case rel =>
          refine ⟨k + 1, dl.set k (-1), by omega, by go_num, hD1.below hb7, ?_, hb1.trans (hb7.mono hs6)⟩
          intro j hj
          rcases Nat.lt_or_ge j k with h | h
          · exact unhide Hd1 j h
          · obtain rfl : j = k := by omega
            rw [List.getElem?_set_self hltd, unhide HL]
        case measure => simp [intOf]; omega
      · have HL : Hid (lev (dG g) 0 k = 0) := by have := unhide HL; rw [hrf] at this; exact this
        go_wp2_with (go_at_call 48; go_must (refine (refers_c ar cr g.roots (k : Int) W6.heap.size W6 hV6 (Nat.le_refl _)).mono ?_); go_must (rintro e w7 ⟨he, hb7⟩; rw [hrf] at he; subst he; have hD7 := hD1.below hb7; have hx7 := hD7.cell (List.getElem?_set_self hltd); have hf7 := hD7.frozen k))
        go_roundw
        case rel =>
          refine ⟨k + 1, (dl.set k (-1)).set k 0, by omega, by go_num, hD7.set k 0, ?_, (hb1.trans (hb7.mono hs6)).setCell (p := ⟨W4.heap.size, k, none⟩) (Nat.le_refl _) _⟩
          intro j hj
          rcases Nat.lt_or_ge j k with h | h
          · rw [List.getElem?_set_ne (by omega)]; exact unhide Hd1 j h
          · obtain rfl : j = k := by omega
            rw [List.getElem?_set_self (by omega), unhide HL]
        case measure => simp [intOf]; omega
    · obtain rfl : k = g.objs.length := by omega
      have Hh : Hid (Holds' dl g.objs.length (lev (dG g) 0)) := ⟨hD.len, unhide Hd⟩
      clear Hd
      go_wp2
      go_loopw [5] (fun i wr => ∃ (s : Nat) (dl : List Int), s ≤ g.objs.length ∧ i = .int .i64 s ∧ DRow wr W4.heap.size g.objs.length dl ∧ Hid (Holds' dl g.objs.length (lev (dG g) s)) ∧ Below W4.heap.size W4 wr) (fun i _ => g.objs.length - (intOf i).toNat)
      case atStart => exact ⟨0, dl, Nat.zero_le _, rfl, hD, Hh, hb⟩
      case round =>
        clear hD hb hsz hlt0 Hh
        obtain ⟨s, dl, hs, rfl, hD, Hh, hb⟩ := hrel
        by_cases hlts : s < g.objs.length
        · have hltI : (s : Int) < (g.objs.length : Int) := by omega
          have Hh : Hid (Holds' dl g.objs.length (mid (dG g) (rG g) s 0)) := (unhide Hh).congr (fun q _ => mid_zero _ _ _ _)
          go_wp2
          go_loopw [6] (fun i wr => ∃ (p : Nat) (dl : List Int), p ≤ g.objs.length ∧ i = .int .i64 p ∧ DRow wr W4.heap.size g.objs.length dl ∧ Hid (Holds' dl g.objs.length (mid (dG g) (rG g) s p)) ∧ Below W4.heap.size W4 wr) (fun i _ => g.objs.length - (intOf i).toNat)
          case atStart => exact ⟨0, dl, Nat.zero_le _, rfl, hD, Hh, hb⟩
          case round =>
            clear hD hb Hh
            obtain ⟨p, dl, hp, rfl, hD, Hh, hb⟩ := hrel
            by_cases hltp : p < g.objs.length
            · have hltpI : (p : Int) < (g.objs.length : Int) := by omega
              obtain ⟨bo, oo, ai, ci, rfl, hboB, hcb, hva⟩ := ho.at hltp
              have Hfs := hide (show fieldsOf g (p : Int) = g.objs[p] by simp [fieldsOf, hltp])
              have HR : Hid (∀ q : Nat, rG g p q = refers g.objs[p] (q : Int)) := fun q => by unfold rG; rw [unhide Hfs]
              generalize g.objs[p] = fs at *
              by_cases hds : dG g p = (s : Int)
              · have Hds := hide hds
                clear hds
                go_wp2
                go_loopw [7] (fun i wr => ∃ (q : Nat) (dl : List Int), q ≤ g.objs.length ∧ i = .int .i64 q ∧ DRow wr W4.heap.size g.objs.length dl ∧ Hid (Holds' dl g.objs.length (fun j => if j < q then mid (dG g) (rG g) s (p + 1) j else mid (dG g) (rG g) s p j)) ∧ Below W4.heap.size W4 wr) (fun i _ => g.objs.length - (intOf i).toNat)
                case atStart => exact ⟨0, dl, Nat.zero_le _, rfl, hD, (unhide Hh).congr (fun q _ => by rw [if_neg (by omega)]), hb⟩
                case round =>
                  clear hD hb Hh
                  obtain ⟨q, dl, hq, rfl, hD, Hh, hb⟩ := hrel
                  have hsz := hb.size
                  have hlt0 := hD.lt
                  have hbw : Below B w wr := (hb0.mono hB).trans (hb.mono (by omega))
                  have hxp : ∃ x, dl[p]? = some x ∧ x = (s : Int) := by
                    refine ⟨_, (unhide Hh).2 p hltp, ?_⟩
                    show (if p < q then mid (dG g) (rG g) s (p + 1) p else mid (dG g) (rG g) s p p) = (s : Int)
                    split <;> exact mid_self.2 (unhide Hds)
                  obtain ⟨x, hxp, hxs⟩ := hxp
                  subst hxs
                  have hcp := hD.cell hxp
                  have dss : ((s : Int) == (s : Int)) = true := by simp
                  by_cases hltq : q < g.objs.length
                  · have hltqI : (q : Int) < (g.objs.length : Int) := by omega
                    have hxq := (unhide Hh).2 q hltq
                    simp only [Nat.lt_irrefl, if_false] at hxq
                    have hmb := mid_bounds (D := dG g) (R := rG g) s p q
                    have hcq := hD.cell hxq
                    have hfq := hD.frozen q
                    have q0 := (hb.cell (p := ⟨w.heap.size, 0, none⟩) (by simp; omega)).trans g0
                    have hcb2 := (hbw.cell (p := ⟨bo, oo + p, none⟩) (by simpa using hboB)).trans hcb
                    have hva2 := (hva.below hbw).mono (B' := wr.heap.size) (by omega)
                    have Hset : Hid (mid (dG g) (rG g) s p q < 0 → refers fs (q : Int) = true → mid (dG g) (rG g) s (p + 1) q = (s : Int) + 1) := fun h1 h2 => mid_set h1 (unhide Hds) (by rw [unhide HR q]; exact h2)
                    have Hkeep : Hid (0 ≤ mid (dG g) (rG g) s p q ∨ refers fs (q : Int) = false → mid (dG g) (rG g) s (p + 1) q = mid (dG g) (rG g) s p q) := fun h => mid_keep (h.imp id (fun h => by rw [unhide HR q]; exact h))
                    have Hnext : Hid (mid (dG g) (rG g) s (p + 1) q = mid (dG g) (rG g) s p q → Holds' dl g.objs.length (fun j => if j < q + 1 then mid (dG g) (rG g) s (p + 1) j else mid (dG g) (rG g) s p j)) := fun h => (unhide Hh).congr (fun j _ => by
                      rcases Nat.lt_trichotomy j q with h1 | h1 | h1
                      · rw [if_pos (by omega), if_pos h1]
                      · subst h1; rw [if_pos (by omega), if_neg (by omega), h]
                      · rw [if_neg (by omega), if_neg (by omega)])
                    have Hnew : Hid (mid (dG g) (rG g) s (p + 1) q = (s : Int) + 1 → Holds' (dl.set q ((s : Int) + 1)) g.objs.length (fun j => if j < q + 1 then mid (dG g) (rG g) s (p + 1) j else mid (dG g) (rG g) s p j)) := fun h => (unhide Hh).set hltq (by rw [if_pos (by omega)]; exact h) (fun j _ hj => by
                      rcases Nat.lt_trichotomy j q with h1 | h1 | h1
                      · rw [if_pos (by omega), if_pos h1]
                      · exact absurd h1 hj
                      · rw [if_neg (by omega), if_neg (by omega)])
                    generalize mid (dG g) (rG g) s p q = y at *
                    generalize mid (dG g) (rG g) s (p + 1) q = y1 at *
                    by_cases hy : y < 0
                    · cases hrf : refers fs (q : Int)
                      · have HN := hide (unhide Hnext (unhide Hkeep (.inr hrf)))
                        go_wp2_with (go_at_call 48; go_must (refine (refers_c ai ci fs (q : Int) wr.heap.size wr hva2 (Nat.le_refl _)).mono ?_); go_must (rintro e w7 ⟨he, hb7⟩; rw [hrf] at he; subst he))
                        go_roundw
                        case rel => exact ⟨q + 1, dl, by omega, by go_num, hD.below hb7, HN, hb.trans (hb7.mono hsz)⟩
                        case measure => simp [intOf]; omega
                      · have HN := hide (unhide Hnew (unhide Hset hy hrf))
                        have hw1 : IntKind.i64.wrap ((s : Int) + 1) = (s : Int) + 1 := by rw [IntKind.wrap_i64]; omega
                        go_wp2_with (go_at_call 48; go_must (refine (refers_c ai ci fs (q : Int) wr.heap.size wr hva2 (Nat.le_refl _)).mono ?_); go_must (rintro e w7 ⟨he, hb7⟩; rw [hrf] at he; subst he; have hD7 := hD.below hb7; have hx7 := hD7.cell hxq; have hf7 := hD7.frozen q))
                        go_roundw
                        case rel => exact ⟨q + 1, dl.set q ((s : Int) + 1), by omega, by go_num, hD7.set q _, HN, (hb.trans (hb7.mono hsz)).setCell (p := ⟨W4.heap.size, q, none⟩) (Nat.le_refl _) _⟩
                        case measure => simp [intOf]; omega
                    · have HN := hide (unhide Hnext (unhide Hkeep (.inl (by omega))))
                      have dy : decide (y < 0) = false := by simp; omega
                      go_wp2
                      go_roundw
                      case rel => exact ⟨q + 1, dl, by omega, by go_num, hD, HN, hb⟩
                      case measure => simp [intOf]; omega
                  · obtain rfl : q = g.objs.length := by omega
                    have HN : Hid (Holds' dl g.objs.length (mid (dG g) (rG g) s (p + 1))) := (unhide Hh).congr (fun j hj => by rw [if_pos hj])
                    go_wp2
                    go_roundw
                    case rel => exact ⟨p + 1, dl, by omega, by go_num, hD, HN, hb⟩
                    case measure => simp [intOf]; omega
              · have HN : Hid (Holds' dl g.objs.length (mid (dG g) (rG g) s (p + 1))) := (unhide Hh).congr (fun j _ => mid_skip hds)
                have Hxp := (unhide Hh).2 p hltp
                have hcp := hD.cell Hxp
                have dne : (mid (dG g) (rG g) s p p == (s : Int)) = false := by simp; exact fun h => hds (mid_self.1 h)
                have hlt0 := hD.lt
                clear hds
                generalize mid (dG g) (rG g) s p p = y at *
                go_wp2
                go_loopw [7] (fun i wq => i = .int .i64 0 ∧ wq = wr) (fun _ _ => 0)
                case atStart => exact ⟨rfl, rfl⟩
                case round =>
                  obtain ⟨rfl, rfl⟩ := hrel
                  go_wp2
                  go_roundw
                  case rel => exact ⟨p + 1, dl, by omega, by go_num, hD, HN, hb⟩
                  case measure => simp [intOf]; omega
            · obtain rfl : p = g.objs.length := by omega
              have HN : Hid (Holds' dl g.objs.length (lev (dG g) (s + 1))) := (unhide Hh).congr (fun j hj => (mid_end hG hj).symm)
              go_wp2
              go_roundw
              case rel => exact ⟨s + 1, dl, by omega, by go_num, hD, HN, hb⟩
              case measure => simp [intOf]; omega
        · obtain rfl : s = g.objs.length := by omega
          have HN : Hid (dl = distL g) := ((unhide Hh).congr (fun j _ => (lev_end hG).symm)).dist
          have hown := hD.own
          rw [unhide HN] at hown
          obtain ⟨a', cap', hv, hV, _⟩ := ints_of_owns hown (distL_len g).symm (by omega)
          have Hv := hide hv
          clear hv
          go_wp2
          go_ret
          exact ⟨a', cap', congrArg Ending.returned (unhide Hv), hV, hb0.trans (hb.mono (by omega))⟩

end Go.Proofs.Ytjhndbfhiknngaa

/- Walks: the document's answer: Reach; GraphTells. -/
namespace Go.Proofs.Ytjhndbfhiknngaa
set_option linter.unusedSimpArgs false
set_option linter.unusedVariables false
open Go.RowKit

/-- The first k objects, those that can be come to. -/
def reachK (g : Gr) (k : Nat) : List Int := ((List.range k).filter (fun (i : Nat) => decide (0 ≤ dG g i))).map (fun (i : Nat) => (i : Int))

theorem reachK_yes {g : Gr} {k : Nat} (h : 0 ≤ dG g k) : reachK g (k + 1) = reachK g k ++ [(k : Int)] := by
  unfold reachK; rw [List.range_succ, List.filter_append, List.map_append]; simp [h]
theorem reachK_no {g : Gr} {k : Nat} (h : dG g k < 0) : reachK g (k + 1) = reachK g k := by
  unfold reachK; rw [List.range_succ, List.filter_append, List.map_append]; simp; omega
theorem reachK_len (g : Gr) (k : Nat) : (reachK g k).length ≤ k := by
  unfold reachK; rw [List.length_map]; have := List.length_filter_le (fun i => decide (0 ≤ dG g i)) (List.range k); simpa using this

set_option maxRecDepth 100000 in
set_option maxHeartbeats 1000000 in
theorem refReach_c (ao ar : Option Addr) (co cr : Nat) (g : Gr) (B : Nat) (w : World) (ho : Objs B w ao g.objs) (hr : Vals B w ar g.roots) (hB : B ≤ w.heap.size) (hG : Good g) :
    Calls Try.prog 19 #[.agg #[.slice ao g.objs.length co, .slice ar g.roots.length cr]] w fun e w' => ∃ a cap, e = .returned (.slice a (reachK g g.objs.length).length cap) ∧ Ints w'.heap.size w' a (reachK g g.objs.length) ∧ Below w.heap.size w w' := by
  obtain ⟨i0, hi, hz0, hz1, hz2⟩ := info_parts Try.info3
  have hn24 := hG.n24
  have hb1 := (Below.refl w.heap.size w).alloc (Nat.le_refl _) (.cells #[.slice ao g.objs.length co, .slice ar g.roots.length cr] 47)
  go_enter Try.func19, Try.ntmps19
  go_wp2_with fail
  refine (refDist_c ao ar co cr g B _ (ho.below (hb1.mono hB)) (hr.below (hb1.mono hB)) (by simp; omega) hG).mono ?_
  rintro e w2 ⟨ad, cd, rfl, hI2, hb2⟩
  have hbw2 : Below w.heap.size w w2 := hb1.trans (hb2.mono (by simp))
  clear hb1 hb2
  have hlD : (distL g).length = g.objs.length := distL_len g
  have HlD := hide hlD
  have hDk : Hid (∀ k, k < g.objs.length → (distL g)[k]? = some (dG g k)) := fun k hk => by simp [distL, List.getElem?_map, List.getElem?_range hk, dG]
  rw [hlD]
  clear hlD
  generalize distL g = D at *
  go_wp2
  go_loopw [3, 9] (fun s i wr => ∃ k : Nat, k ≤ g.objs.length ∧ i = .int .i64 k ∧ wr.ownsRow w2.heap.size 3 1 s (reachK g k).length (intsV (reachK g k)) ∧ Below w2.heap.size w2 wr) (fun _ i _ => g.objs.length - (intOf i).toNat)
  case atStart => exact ⟨0, Nat.zero_le _, rfl, World.ownsRow_nil _ _ _ _, Below.refl _ _⟩
  case round =>
    obtain ⟨k, hk, rfl, hown, hb⟩ := hrel
    have hsz := hb.size
    have hkl := reachK_len g k
    by_cases hlt : k < g.objs.length
    · have hltD : k < D.length := by rw [unhide HlD]; exact hlt
      obtain ⟨bd, od, rfl, hbd, hcd⟩ := (hI2.below hb).at hltD
      have hx := unhide hDk k hlt
      rw [List.getElem?_eq_getElem hltD] at hx
      injection hx with hx
      rw [hx] at hcd
      have Hyes := hide (fun h => reachK_yes (g := g) (k := k) h)
      have Hno := hide (fun h => reachK_no (g := g) (k := k) h)
      clear hx
      generalize dG g k = x at *
      have hmx : (reachK g k).length + 1 ≤ maxLen := by simp only [maxLen]; omega
      have hmy : ((reachK g k).length + 1) * 8 ≤ 140737488355328 := by omega
      by_cases hx0 : 0 ≤ x
      · have d : decide (x ≥ 0) = true := by simpa using hx0
        have d' : decide (0 ≤ x) = true := by simpa using hx0
        have HT := hide (unhide Hyes hx0)
        go_wp2_with (at_builtin; go_must (refine wpList_append_own _ rfl _ _ 40 rfl w2.heap.size 3 i0 _ 1 8 Try.underlying40 hi hz0 hz1 hz2 rfl (by decide) _ _ _ rfl (hown.alloc _) ⟨wr.heap.size, 0, none⟩ 1 1 [.int .i64 k] rfl rfl (cell_one_at _ _ _ _ (by simp)) (by simp [Value.oneCell']) hmx hmy (by simp; omega) ?_); intro v' w1 hown' hgrow _)
        go_roundw
        case rel => exact ⟨k + 1, by omega, by go_num, by rw [unhide HT, intsV_snoc, List.length_append]; exact hown', (hb.alloc hsz _).grown hgrow (by simp; omega) (fun q e => (hown.lt q e).1)⟩
        case measure => simp [intOf]; omega
      · have d : decide (x ≥ 0) = false := by simp; omega
        have d' : decide (0 ≤ x) = false := by simp; omega
        have HT := hide (unhide Hno (by omega))
        go_wp2
        go_roundw
        case rel => exact ⟨k + 1, by omega, by go_num, by rw [unhide HT]; exact hown, hb⟩
        case measure => simp [intOf]; omega
    · obtain rfl : k = g.objs.length := by omega
      obtain ⟨a', cap', hv, hV, _⟩ := ints_of_owns hown rfl (by omega)
      have Hv := hide hv
      clear hv
      go_wp2
      go_ret
      exact ⟨a', cap', congrArg Ending.returned (unhide Hv), hV, hbw2.trans (hb.mono hbw2.size)⟩

end Go.Proofs.Ytjhndbfhiknngaa

/- Plain: what can be come to in an arena is what can be come to in its graph. -/
namespace Go.Proofs.Ytjhndbfhiknngaa
set_option linter.unusedSimpArgs false
set_option linter.unusedVariables false
open Go.RowKit

theorem Arn.f4 {hs : List Int} {fs : List (List Int)} {rs : List Int} (h : Arn hs fs rs) : ∀ f ∈ fs, f.length ≤ 4 := by
  intro f hf
  obtain ⟨k, hk⟩ := List.getElem?_of_mem hf
  have hlt : k < hs.length := by have := (List.getElem?_eq_some_iff.1 hk).1; have := h.fit.len; omega
  have := h.fit.ok k _ f (List.getElem?_eq_getElem hlt) hk
  rw [← this.2.1]
  exact wlen_le this.1

theorem good_read {hs : List Int} {fs : List (List Int)} {rs : List Int} (h : Arn hs fs rs) : Good (readG fs rs) := by
  have hnd := stF_nodup fs 0
  refine ⟨?_, ?_, ?_, ?_, ?_⟩
  · rw [readG_len]; have := tot_len fs; have := h.n256; omega
  · rw [readG_rlen]; exact h.n8
  · intro l hl
    unfold readG at hl
    obtain ⟨f, hf, rfl⟩ := List.mem_map.1 hl
    have := h.f4 f hf
    simp; omega
  · intro v hv hr
    unfold readG at hv
    obtain ⟨x, hx, rfl⟩ := List.mem_map.1 hv
    have := (word_back hnd (h.ur x hx).1 (h.ur x hx).2 (h.okr x hx)).2.1 hr
    rw [stF_len] at this
    rw [readG_len]
    exact this
  · intro l hl v hv hr
    unfold readG at hl
    obtain ⟨f, hf, rfl⟩ := List.mem_map.1 hl
    obtain ⟨x, hx, rfl⟩ := List.mem_map.1 hv
    have := (word_back hnd (h.uf f hf x hx).1 (h.uf f hf x hx).2 (h.okf f hf x hx)).2.1 hr
    rw [stF_len] at this
    rw [readG_len]
    exact this

/-- References of words, and of their values. -/
theorem to_iff {fs : List (List Int)} {l : List Int} (hok : ∀ x ∈ l, okW (stF 0 fs) x = true) (j : Nat) : To fs l j ↔ (true, (j : Int)) ∈ l.map (valW (stF 0 fs)) := by
  constructor
  · rintro ⟨x, hx, hr, hj⟩
    refine List.mem_map.2 ⟨x, hx, ?_⟩
    rw [valW_ref hr, placeOf_nodup (stF_nodup fs 0) hj]
  · intro h
    obtain ⟨x, hx, he⟩ := List.mem_map.1 h
    cases hr : unRef x
    · rw [valW_num hr] at he; simp at he
    · obtain ⟨k, hk⟩ := (ok_ref (hok x hx)).2 hr
      rw [valW_ref hr, placeOf_nodup (stF_nodup fs 0) hk] at he
      have : k = j := by simp at he; omega
      subst this
      exact ⟨x, hx, hr, hk⟩

theorem fieldsOf_read {fs : List (List Int)} {rs : List Int} {i : Nat} {f : List Int} (hf : fs[i]? = some f) : fieldsOf (readG fs rs) (i : Int) = f.map (valW (stF 0 fs)) := by
  simp [fieldsOf, readG, hf]

theorem rch_order {hs : List Int} {fs : List (List Int)} {rs : List Int} (h : Arn hs fs rs) (j : Nat) : Rch fs rs j ↔ (j : Int) ∈ orderOf (readG fs rs) := by
  have hG := good_read h
  have hfo : ∀ {i : Nat} {f : List Int}, fs[i]? = some f → RefsOk (f.map (valW (stF 0 fs))) := fun {i f} hf => by
    refine hG.refsObjs ?_
    unfold readG
    exact List.mem_map.2 ⟨f, List.mem_of_getElem? hf, rfl⟩
  constructor
  · intro hr
    refine hr (fun j => (j : Int) ∈ orderOf (readG fs rs)) (fun j ht => ?_) (fun i f j hf hi ht => ?_)
    · refine order_roots _ _ ((mem_refsL hG.refsRoots _).2 ?_)
      exact (to_iff h.okr j).1 ht
    · refine order_closed hG hi _ ?_
      rw [fieldsOf_read hf]
      exact (mem_refsL (hfo hf) _).2 ((to_iff (h.okf f (List.mem_of_getElem? hf)) j).1 ht)
  · intro hj
    have key : ∀ (n p : Nat) (o dp : Int), (orderOf (readG fs rs))[p]? = some o → (distOf (readG fs rs))[p]? = some dp → dp.toNat ≤ n → ∃ j : Nat, o = (j : Int) ∧ Rch fs rs j := by
      intro n
      induction n with
      | zero =>
        intro p o dp h1 h2 h3
        have hpos := (searchN_ok hG _).pos p dp h2
        rcases (bfs (readG fs rs) (readG fs rs).objs.length).cause p o dp h1 h2 with ⟨hr, _⟩ | ⟨_, m, om, dm, _, e1, e2, _, e4, _⟩
        · have hro := hG.roots o hr
          obtain ⟨j, rfl⟩ := Int.eq_ofNat_of_zero_le hro.1
          exact ⟨j, rfl, rch_root ((to_iff h.okr j).2 ((mem_refsL hG.refsRoots _).1 hr))⟩
        · have := (searchN_ok hG _).pos m dm e2
          omega
      | succ n ih =>
        intro p o dp h1 h2 h3
        rcases (bfs (readG fs rs) (readG fs rs).objs.length).cause p o dp h1 h2 with ⟨hr, _⟩ | ⟨_, m, om, dm, _, e1, e2, e3, e4, _⟩
        · have hro := hG.roots o hr
          obtain ⟨j, rfl⟩ := Int.eq_ofNat_of_zero_le hro.1
          exact ⟨j, rfl, rch_root ((to_iff h.okr j).2 ((mem_refsL hG.refsRoots _).1 hr))⟩
        · have hdm := (searchN_ok hG _).pos m dm e2
          obtain ⟨i, rfl, hi⟩ := ih m om dm e1 e2 (by omega)
          have hil := (order_ok hG (List.mem_of_getElem? e1)).2
          rw [readG_len] at hil
          have hf : fs[i]? = some fs[i] := List.getElem?_eq_getElem (by omega)
          rw [fieldsOf_read hf] at e3
          have hmem : fs[i] ∈ fs := List.getElem_mem (by omega)
          have ho := (mem_refsL (hfo hf) _).1 e3
          have hob : 0 ≤ o := (hfo hf (true, o) ho rfl).1
          obtain ⟨j, rfl⟩ := Int.eq_ofNat_of_zero_le hob
          exact ⟨j, rfl, rch_step hi hf ((to_iff (h.okf _ hmem) j).2 ho)⟩
    obtain ⟨p, hp⟩ := List.getElem?_of_mem hj
    have hlen := (searchN_ok hG (readG fs rs).objs.length).len
    have hlt : p < (distOf (readG fs rs)).length := by
      have := (List.getElem?_eq_some_iff.1 hp).1
      unfold orderOf at this
      unfold distOf
      omega
    obtain ⟨j', e, hr⟩ := key _ p _ _ hp (List.getElem?_eq_getElem hlt) (Nat.le_refl _)
    have : j = j' := by omega
    subst this
    exact hr

/-- The first k objects, as told by reachK. -/
theorem mem_reachK {hs : List Int} {fs : List (List Int)} {rs : List Int} (h : Arn hs fs rs) (j : Nat) : (j : Int) ∈ reachK (readG fs rs) (readG fs rs).objs.length ↔ Rch fs rs j := by
  have hG := good_read h
  rw [rch_order h, ← distAt_nonneg hG]
  unfold reachK dG
  simp only [List.mem_map, List.mem_filter, List.mem_range, decide_eq_true_eq]
  constructor
  · rintro ⟨i, ⟨_, hd⟩, e⟩
    have : i = j := by omega
    subst this
    exact hd
  · intro hd
    have := order_ok hG ((distAt_nonneg hG _).1 hd)
    exact ⟨j, ⟨by omega, hd⟩, rfl⟩

end Go.Proofs.Ytjhndbfhiknngaa

/- Walks: the law's place, headAt. -/
namespace Go.Proofs.Ytjhndbfhiknngaa
set_option linter.unusedSimpArgs false
set_option linter.unusedVariables false
open Go.RowKit

set_option maxHeartbeats 400000 in
theorem kplace_c (a : Option Addr) (cap : Nat) (l : List Int) (x : Int) (B : Nat) (w : World) (hl : Ints B w a l) (hin : x ∈ l) :
    Calls Try.prog 23 #[.slice a l.length cap, .int .i64 x] w fun e w' => e = .returned (.int .i64 (placeOf l x)) ∧ w' = w := by
  have hlen := hl.1
  have Hin := hide hin
  clear hin
  go_enter Try.func23, Try.ntmps23
  go_wp2
  go_loop [5] (fun i => ∃ k : Nat, k ≤ l.length ∧ i = .int .i64 k ∧ Hid (x ∉ l.take k)) (fun i => l.length - (intOf i).toNat)
  case atStart => exact ⟨0, Nat.zero_le _, rfl, by show x ∉ l.take 0; simp⟩
  case round =>
    obtain ⟨k, hk, rfl, Hno⟩ := hrel
    by_cases hlt : k < l.length
    · obtain ⟨b, off, rfl, hbB, hc⟩ := hl.at hlt
      have HT := hide (mem_take_succ hlt x)
      have HM := hide (List.getElem_mem hlt)
      have HI := hide (fun e => idxOf_first (x := x) hlt e)
      generalize l[k] = y at *
      by_cases hxy : y = x
      · have d : (y == x) = true := by simpa using hxy
        go_wp2
        go_ret
        refine ⟨ret_int ?_, rfl⟩
        rw [placeOf, if_pos (by rw [← hxy]; exact unhide HM), unhide HI hxy (unhide Hno)]
      · have d : (y == x) = false := by simpa using hxy
        go_wp2
        go_round
        case rel => exact ⟨k + 1, by omega, by go_num, fun h => by rcases (unhide HT).1 h with h | h; exact unhide Hno h; exact hxy h.symm⟩
        case measure => simp [intOf]; omega
    · obtain rfl : k = l.length := by omega
      have hno := unhide Hno
      rw [List.take_length] at hno
      exact absurd (unhide Hin) hno

set_option maxRecDepth 100000 in
set_option maxHeartbeats 1000000 in
theorem headAt_c (aw ar : Option Addr) (cw nr cr : Nat) (ws : List Int) (i : Nat) (x : Int) (B : Nat) (w : World) (hW : Wds B w aw ws) (hB : B ≤ w.heap.size) (hx : ws[i]? = some x) (h1 : 0 ≤ x) (h2 : x < 18446744073709551616) :
    Calls Try.prog 22 #[.agg #[.slice aw ws.length cw, .slice ar nr cr], .int .i64 (i : Nat)] w fun e w' => e = .returned (.tuple #[.agg #[.int .i64 (uhL x), .bool (uhM x), .int .i64 (uhA x)], .bool (uhE x == 0)]) ∧ Below w.heap.size w w' := by
  have hlt : i < ws.length := (List.getElem?_eq_some_iff.1 hx).1
  obtain ⟨W1, hW1⟩ : ∃ W1, (w.alloc (.cells #[.slice aw ws.length cw, .slice ar nr cr] 24)).alloc (.cells #[.int .i64 0, .bool false, .int .i64 0] 51) = W1 := ⟨_, rfl⟩
  have hb1 : Below w.heap.size w W1 := by rw [← hW1]; exact ((Below.refl w.heap.size w).alloc (Nat.le_refl _) _).alloc (by simp) _
  have hs1 : w.heap.size + 1 < W1.heap.size := by rw [← hW1]; simp
  have g0 : W1.cell? ⟨w.heap.size, 0, none⟩ = some (.slice aw ws.length cw) := by rw [← hW1]; simp [go_sem]
  have r0 : W1.cell? ⟨w.heap.size + 1, 0, none⟩ = some (.int .i64 0) := by rw [← hW1]; simp [go_sem]
  have r1 : W1.cell? ⟨w.heap.size + 1, 1, none⟩ = some (.bool false) := by rw [← hW1]; simp [go_sem]
  have r2 : W1.cell? ⟨w.heap.size + 1, 2, none⟩ = some (.int .i64 0) := by rw [← hW1]; simp [go_sem]
  have z0 : W1.frozen? ⟨w.heap.size + 1, 0, none⟩ = false := by rw [← hW1]; simp [go_sem]
  have z1 : W1.frozen? ⟨w.heap.size + 1, 1, none⟩ = false := by rw [← hW1]; simp [go_sem]
  have z2 : W1.frozen? ⟨w.heap.size + 1, 2, none⟩ = false := by rw [← hW1]; simp [go_sem]
  obtain ⟨b, off, rfl, hbB, hc⟩ := (hW.below (hb1.mono hB)).at hlt
  rw [(List.getElem?_eq_some_iff.1 hx).2] at hc
  have hlw : w.heap.size < W1.heap.size := by omega
  have hlb : b < W1.heap.size := by omega
  have hlI : (i : Int) < (ws.length : Int) := by omega
  have d1 : decide ((i : Int) < 0) = false := by simp
  have d2 : decide ((i : Int) ≥ (ws.length : Int)) = false := by simp; omega
  have d3 : decide ((ws.length : Int) ≤ (i : Int)) = false := by simp; omega
  clear hW
  go_enter Try.func22, Try.ntmps22
  go_wp2_with fail
  refine (runhead_c x _ h1 h2).mono ?_
  rintro e w2 ⟨rfl, hb2⟩
  clear hW1
  have hs2 := hb2.size
  replace r0 := (hb2.cell (p := ⟨w.heap.size + 1, 0, none⟩) hs1).trans r0
  replace r1 := (hb2.cell (p := ⟨w.heap.size + 1, 1, none⟩) hs1).trans r1
  replace r2 := (hb2.cell (p := ⟨w.heap.size + 1, 2, none⟩) hs1).trans r2
  replace z0 := (hb2.frozen (p := ⟨w.heap.size + 1, 0, none⟩) hs1).trans z0
  replace z1 := (hb2.frozen (p := ⟨w.heap.size + 1, 1, none⟩) hs1).trans z1
  replace z2 := (hb2.frozen (p := ⟨w.heap.size + 1, 2, none⟩) hs1).trans z2
  have hl2 : w.heap.size + 1 < w2.heap.size := by omega
  have hbw2 : Below w.heap.size w w2 := hb1.trans (hb2.mono (by omega))
  clear hb1 hb2
  go_wp2
  obtain ⟨W3, hW3⟩ : ∃ W3, ((w2.setCell ⟨w.heap.size + 1, 0, none⟩ (.int .i64 (uhL x))).setCell ⟨w.heap.size + 1, 1, none⟩ (.bool (uhM x))).setCell ⟨w.heap.size + 1, 2, none⟩ (.int .i64 (uhA x)) = W3 := ⟨_, rfl⟩
  have i0 : W3.cell? ⟨w.heap.size + 1, 0, none⟩ = some (.int .i64 (uhL x)) := by rw [← hW3]; simp [go_sem, r0, r1, r2]
  have i1 : W3.cell? ⟨w.heap.size + 1, 1, none⟩ = some (.bool (uhM x)) := by rw [← hW3]; simp [go_sem, r0, r1, r2]
  have i2 : W3.cell? ⟨w.heap.size + 1, 2, none⟩ = some (.int .i64 (uhA x)) := by rw [← hW3]; simp [go_sem, r0, r1, r2]
  have hlt3 : w.heap.size + 1 < W3.heap.size := by rw [← hW3]; simpa [World.setCell] using hl2
  have hb3 : Below w.heap.size w W3 := by rw [← hW3]; exact ((hbw2.setCell (p := ⟨w.heap.size + 1, 0, none⟩) (by simp) _).setCell (p := ⟨w.heap.size + 1, 1, none⟩) (by simp) _).setCell (p := ⟨w.heap.size + 1, 2, none⟩) (by simp) _
  rw [hW3]
  clear hW3
  obtain ⟨W4, hW4⟩ : ∃ W4, W3.alloc (.cells #[.int .i64 (uhL x), .bool (uhM x), .int .i64 (uhA x)] 51) = W4 := ⟨_, rfl⟩
  rw [hW4]
  have hb4 : Below w.heap.size w W4 := by rw [← hW4]; exact hb3.alloc (by omega) _
  have k0 : W4.cell? ⟨w.heap.size + 1, 0, none⟩ = some (.int .i64 (uhL x)) := by rw [← hW4, World.cell?_alloc_past _ _ _ hlt3]; exact i0
  have k1 : W4.cell? ⟨w.heap.size + 1, 1, none⟩ = some (.bool (uhM x)) := by rw [← hW4, World.cell?_alloc_past _ _ _ hlt3]; exact i1
  have k2 : W4.cell? ⟨w.heap.size + 1, 2, none⟩ = some (.int .i64 (uhA x)) := by rw [← hW4, World.cell?_alloc_past _ _ _ hlt3]; exact i2
  refine bodyPost_ret (v := .tuple #[.agg #[.int .i64 (uhL x), .bool (uhM x), .int .i64 (uhA x)], .bool (uhE x == 0)]) (by simp [results, Try.results22, go_sem, k0, k1, k2]) rfl ⟨rfl, hb4⟩

end Go.Proofs.Ytjhndbfhiknngaa

/- Walks: the document's Read. -/
namespace Go.Proofs.Ytjhndbfhiknngaa
set_option linter.unusedSimpArgs false
set_option linter.unusedVariables false
open Go.RowKit Go.Shelf

set_option maxRecDepth 100000 in
set_option maxHeartbeats 1000000 in
theorem runpacked2_c (a s0 : Option Addr) (cap caps : Nat) (ws st : List Int) (B : Nat) (w : World) (hl : Wds B w a ws) (hU : U64 ws) (hS : Ints B w s0 st) (hB : B ≤ w.heap.size) (hn : ws.length ≤ 256) :
    Calls Try.prog 37 #[.slice a ws.length cap, .slice s0 st.length caps] w fun e w' => ∃ a' cap', e = .returned (.slice a' (ws.map (valW st)).length cap') ∧ ValsF w.heap.size w' a' (ws.map (valW st)) ∧ Below w.heap.size w w' := by
  obtain ⟨i0, hi, hz0, hz1, hz2⟩ := info_parts Try.info70'
  go_enter Try.func37, Try.ntmps37
  go_wp2
  go_loopw [5, 12] (fun s i wr => ∃ k : Nat, k ≤ ws.length ∧ i = .int .i64 k ∧ wr.ownsRow w.heap.size 70 2 s k (cellsV ((ws.map (valW st)).take k)) ∧ Below w.heap.size w wr) (fun _ i _ => ws.length - (intOf i).toNat)
  case atStart => exact ⟨0, Nat.zero_le _, rfl, by simpa [cellsV] using World.ownsRow_nil _ _ _ _, Below.refl _ _⟩
  case round =>
    obtain ⟨k, hk, rfl, hown, hb⟩ := hrel
    have hsz := hb.size
    by_cases hlt : k < ws.length
    · obtain ⟨b, off, rfl, hbB, hc⟩ := (hl.below (hb.mono hB)).at hlt
      have hu := hU _ (List.getElem_mem hlt)
      have HT := hide (fun r n => cells_take_succ (st := st) hlt (r := r) (n := n))
      generalize ws[k] = x at *
      cases hr : unRef x
      · have HT2 := hide (unhide HT _ _ (valW_num hr))
        have Hr := hide hr
        clear hr HT
        go_wp2_with (first
          | (go_at_call 33; go_must (refine (runpack_c x _ hu.1 hu.2).mono ?_); go_must (rintro e w3 ⟨he, hb3⟩; rw [unhide Hr] at he; subst he; have hs3 := hb3.size; have hown3 := ownsRow_below hown hb3))
          | (at_builtin; go_must (refine wpList_append_own _ rfl _ _ 45 rfl w.heap.size 70 i0 _ 2 16 Try.underlying45 hi hz0 hz1 hz2 rfl (by decide) _ _ _ rfl ((hown3.alloc _).alloc _) ⟨w3.heap.size + 1, 0, none⟩ 1 1 [.bool false, .int .i64 (unNum x)] rfl rfl (cell_two_at _ _ _ _ _ (by simp)) (by simp [Value.oneCell']) (by simp only [maxLen]; omega) (by omega) (by simp; omega) ?_); intro v' w1 hown' hgrow _))
        go_roundw
        case rel => exact ⟨k + 1, by omega, by go_num, by rw [unhide HT2]; exact hown', (((hb.trans (hb3.mono hsz)).alloc (by omega) _).alloc (by simp; omega) _).grown hgrow (by simp; omega) (fun q e => (hown3.lt q e).1)⟩
        case measure => simp [intOf]; omega
      · have HT2 := hide (unhide HT _ _ (valW_ref hr))
        have Hr := hide hr
        clear hr HT
        go_wp2_with (first
          | (go_at_call 33; go_must (refine (runpack_c x _ hu.1 hu.2).mono ?_); go_must (rintro e w3 ⟨he, hb3⟩; rw [unhide Hr] at he; subst he; have hs3 := hb3.size; have hown3 := ownsRow_below hown hb3; have hS3 := hS.below ((hb.mono hB).trans (hb3.mono (Nat.le_trans hB hsz)))))
          | (go_at_call 49; go_must (refine (place_c _ _ st (unNum x) B _ (hS3.below ((Below.refl _ _).alloc (by omega) _))).mono ?_); go_must (rintro e w4 ⟨he, hw4⟩; subst he; have hw4 := hw4.symm; subst hw4))
          | (at_builtin; go_must (refine wpList_append_own _ rfl _ _ 45 rfl w.heap.size 70 i0 _ 2 16 Try.underlying45 hi hz0 hz1 hz2 rfl (by decide) _ _ _ rfl ((hown3.alloc _).alloc _) ⟨w3.heap.size + 1, 0, none⟩ 1 1 [.bool true, .int .i64 (placeOf st (unNum x))] rfl rfl (cell_two_at _ _ _ _ _ (by simp)) (by simp [Value.oneCell']) (by simp only [maxLen]; omega) (by omega) (by simp; omega) ?_); intro v' w1 hown' hgrow _))
        go_roundw
        case rel => exact ⟨k + 1, by omega, by go_num, by rw [unhide HT2]; exact hown', (((hb.trans (hb3.mono hsz)).alloc (by omega) _).alloc (by simp; omega) _).grown hgrow (by simp; omega) (fun q e => (hown3.lt q e).1)⟩
        case measure => simp [intOf]; omega
    · obtain rfl : k = ws.length := by omega
      rw [List.take_of_length_le (by simp)] at hown
      obtain ⟨a', cap', hv, hV, hr9⟩ := vals_of_owns hown (by simp) (by omega)
      have HV : Hid (ValsF w.heap.size wr a' (ws.map (valW st))) := ⟨hV, hr9⟩
      clear hr9 hV
      subst hv
      go_wp2
      go_ret
      exact ⟨a', cap', rfl, unhide HV, hb⟩

/-- What an append of one object has made. -/
def Apd (wr : World) (gb k : Nat) (v : Value) (es : List Value) (lv : List V) (v10 : Value) (W : World) : Prop :=
  ∃ a7 c7 W1, ValsF wr.heap.size W1 a7 lv ∧ Below wr.heap.size wr W1 ∧ W.ownsRow (gb + 1) 78 1 v10 (k + 1) (es ++ [.slice a7 lv.length c7]) ∧ (W1.alloc (.cells #[.slice a7 lv.length c7] 78)).grownBy W v.ownBlock ∧ (v10.ownBlock = v.ownBlock ∨ v10.ownBlock = some (W1.alloc (.cells #[.slice a7 lv.length c7] 78)).heap.size)

def RdRes (fs : List (List Int)) (rs : List Int) (e : Ending) (W : World) : Prop :=
  ∃ ao co ar cr, e = .returned (.agg #[.slice ao (readG fs rs).objs.length co, .slice ar (readG fs rs).roots.length cr]) ∧ Objs W.heap.size W ao (readG fs rs).objs ∧ Vals W.heap.size W ar (readG fs rs).roots

set_option maxRecDepth 100000 in
set_option maxHeartbeats 8000000 in
theorem rread_c (aw ar : Option Addr) (cw cr : Nat) (ws rs : List Int) (fs : List (List Int)) (B : Nat) (w : World) (hW : Wds B w aw ws) (hR : Wds B w ar rs) (hUW : U64 ws) (hUR : U64 rs) (hB : B ≤ w.heap.size)
    (h256 : ws.length ≤ 256) (h8 : rs.length ≤ 8) (hs : splitR ws = some fs) :
    Calls Try.prog 20 #[.agg #[.slice aw ws.length cw, .slice ar rs.length cr]] w fun e w' => RdRes fs rs e w' ∧ Below w.heap.size w w' := by
  obtain ⟨i0, hi, hz0, hz1, hz2⟩ := info_parts Try.info78'
  have Hs := hide hs
  have htot := (splitR_st hs).1
  have hfl := tot_len fs
  clear hs
  obtain ⟨W4, hW4⟩ : ∃ W4, (w.alloc (.cells #[.slice aw ws.length cw, .slice ar rs.length cr] 24)).alloc (.cells #[.slice none 0 0, .slice none 0 0] 47) = W4 := ⟨_, rfl⟩
  have hbA : Below w.heap.size w W4 := by rw [← hW4]; exact ((Below.refl w.heap.size w).alloc (Nat.le_refl _) _).alloc (by simp) _
  have hs4 : w.heap.size + 1 < W4.heap.size := by rw [← hW4]; simp
  have q0 : W4.cell? ⟨w.heap.size + 1, 0, none⟩ = some (.slice none 0 0) := by rw [← hW4]; simp [go_sem]
  have q1 : W4.cell? ⟨w.heap.size + 1, 1, none⟩ = some (.slice none 0 0) := by rw [← hW4]; simp [go_sem]
  have f0 : W4.frozen? ⟨w.heap.size + 1, 0, none⟩ = false := by rw [← hW4]; simp [go_sem]
  have f1 : W4.frozen? ⟨w.heap.size + 1, 1, none⟩ = false := by rw [← hW4]; simp [go_sem]
  have g0 : W4.cell? ⟨w.heap.size, 0, none⟩ = some (.slice aw ws.length cw) := by rw [← hW4]; simp [go_sem]
  have g1 : W4.cell? ⟨w.heap.size, 1, none⟩ = some (.slice ar rs.length cr) := by rw [← hW4]; simp [go_sem]
  have Hcall := hide (rstarts_c aw cw ws B W4 (hW.below (hbA.mono hB)) hUW (by omega) h256)
  go_enter Try.func20, Try.ntmps20
  go_wp2_with fail
  refine (unhide Hcall).mono ?_
  rintro e w5 ⟨hres, hb5⟩
  obtain ⟨fs', sa, sc, he', hres⟩ := hres.resolve_left (fun h => by rw [unhide Hs] at h; cases h.1)
  rw [unhide Hs] at he'
  injection he' with he'
  subst he'
  obtain ⟨he, hI⟩ := hres
  subst he
  clear hW4 Hcall
  have hs5 := hb5.size
  replace q0 := (hb5.cell (p := ⟨w.heap.size + 1, 0, none⟩) (by simp; omega)).trans q0
  replace q1 := (hb5.cell (p := ⟨w.heap.size + 1, 1, none⟩) (by simp; omega)).trans q1
  replace f0 := (hb5.frozen (p := ⟨w.heap.size + 1, 0, none⟩) (by simp; omega)).trans f0
  replace f1 := (hb5.frozen (p := ⟨w.heap.size + 1, 1, none⟩) (by simp; omega)).trans f1
  replace g0 := (hb5.cell (p := ⟨w.heap.size, 0, none⟩) (by simp; omega)).trans g0
  replace g1 := (hb5.cell (p := ⟨w.heap.size, 1, none⟩) (by simp; omega)).trans g1
  have hbw5 : Below w.heap.size w w5 := hbA.trans (hb5.mono (by omega))
  have Hc2 := hide (runpacked2_c ar sa cr sc rs (stF 0 fs) w5.heap.size w5 ((hR.below (hbw5.mono hB)).mono (by omega)) hUR hI (Nat.le_refl _) (by omega))
  have HI := hide hI
  clear hbA hb5 hI
  go_wp2_with fail
  refine (unhide Hc2).mono ?_
  rintro e w6 ⟨ar6, cr6, he, hV6, hb6⟩
  subst he
  have hs6 := hb6.size
  replace q0 := (hb6.cell (p := ⟨w.heap.size + 1, 0, none⟩) (by simp; omega)).trans q0
  replace q1 := (hb6.cell (p := ⟨w.heap.size + 1, 1, none⟩) (by simp; omega)).trans q1
  replace f0 := (hb6.frozen (p := ⟨w.heap.size + 1, 0, none⟩) (by simp; omega)).trans f0
  replace f1 := (hb6.frozen (p := ⟨w.heap.size + 1, 1, none⟩) (by simp; omega)).trans f1
  replace g0 := (hb6.cell (p := ⟨w.heap.size, 0, none⟩) (by simp; omega)).trans g0
  have hbw6 : Below w.heap.size w w6 := hbw5.trans (hb6.mono (by omega))
  have HI6 := hide ((unhide HI).below hb6)
  have HV6 := hide hV6
  have Hst := hide (stF_len fs 0)
  have Hsg := hide (fun k hk => stF_get fs 0 k hk)
  clear Hc2 HI hV6 g1 hb6
  generalize hrl : (rs.map (valW (stF 0 fs))).length = rl at *
  have Hrl := hide hrl
  clear hrl
  go_wp2
  go_loopw [21] (fun i wr => ∃ (k : Nat) (x : Value) (es : List Value), k ≤ fs.length ∧ i = .int .i64 k ∧ Below w6.heap.size w6 wr ∧ wr.cell? ⟨w6.heap.size, 0, none⟩ = some x ∧ wr.frozen? ⟨w6.heap.size, 0, none⟩ = false ∧ wr.cell? ⟨w6.heap.size, 1, none⟩ = some (.slice ar6 rl cr6) ∧
        ObjRow wr (w6.heap.size + 1) x (objsOf (stF 0 fs) (fs.take k)) es) (fun i _ => fs.length - (intOf i).toNat)
  case atStart => exact ⟨0, .slice none 0 0, [], Nat.zero_le _, rfl, (Below.refl _ _).alloc (Nat.le_refl _) _, by simp [go_sem], by simp [go_sem], by simp [go_sem], objRow_nil _ _⟩
  case round =>
    obtain ⟨k, x, es, hk, rfl, hb, c0, cf0, c1, hrow⟩ := hrel
    have hsz := hb.size
    have hbwr : Below w.heap.size w wr := hbw6.trans (hb.mono (by have := hbw6.size; omega))
    have g0r := (hb.cell (p := ⟨w.heap.size, 0, none⟩) (by simp; omega)).trans g0
    have hqr : w.heap.size < wr.heap.size := by omega
    by_cases hlt : k < fs.length
    · obtain ⟨hp, hk1, hk2, hf0⟩ := split_obj (unhide Hs) hlt
      have hltS : k < (stF 0 fs).length := by rw [unhide Hst]; exact hlt
      obtain ⟨b, off, rfl, hbB, hc⟩ := ((unhide HI6).below (hb.mono (by omega))).at hltS
      have Hsk := hide (show (stF 0 fs)[k] = ((tot (fs.take k) : Nat) : Int) from by have := unhide Hsg k hlt; rw [List.getElem?_eq_getElem hltS, Option.some.injEq, Nat.zero_add] at this; exact this)
      rw [unhide Hsk] at hc
      have hkI : (k : Int) < ((stF 0 fs).length : Int) := by omega
      have hq : w6.heap.size < wr.heap.size := World.block_lt_of_cell? wr _ c0
      have HO := hide (objsOf_succ (stF 0 fs) hlt)
      have HLk := hide (show (objsOf (stF 0 fs) (fs.take k)).length = k by rw [objsOf_len, List.length_take]; omega)
      have hf4 : fs[k].length ≤ 4 := (splitR_st (unhide Hs)).2 _ (List.getElem_mem hlt)
      have hUf := u64_fields (unhide Hs) hUW _ (List.getElem_mem hlt)
      rw [← hf0] at HO hf4 hUf
      have HcF : Hid (∀ W, Below wr.heap.size wr W → Calls Try.prog 32 #[.slice aw ws.length cw, .int .i64 (tot (fs.take k) : Nat)] W fun e w' => ∃ a' cap', e = .returned (.slice a' (fieldsAt ws (tot (fs.take k))).length cap') ∧ Wds w'.heap.size w' a' (fieldsAt ws (tot (fs.take k))) ∧ Below W.heap.size W w') := fun W hbW => by
        refine (rfields_c aw cw ws B W ((hW.below (hbwr.mono hB)).below (hbW.mono (by omega))) hUW (by have := hbW.size; omega) h256 _ hp hk1 hk2).mono ?_
        rintro e w' ⟨a', c', h1, h2, h3, _⟩
        exact ⟨a', c', h1, h2, h3⟩
      have HIr := hide ((unhide HI6).below (hb.mono (by omega)))
      clear Hsk hk1 hk2 hf0 hp
      generalize fieldsAt ws (tot (fs.take k)) = f at *
      generalize tot (fs.take k) = p at *
      have hrr := hrow.row
      rw [unhide HLk] at hrr
      obtain ⟨ca, cc, rfl⟩ := ownsRow_slice hrr
      have hncb : Value.ownBlock (.slice ca k cc) ≠ some w6.heap.size := fun e => by have := (hrr.lt _ e).1; omega
      have HcU : Hid (∀ W a5 c5, Below wr.heap.size wr W → Wds W.heap.size W a5 f → Calls Try.prog 37 #[.slice a5 f.length c5, .slice (some ⟨b, off, none⟩) (stF 0 fs).length sc] W fun e w' => ∃ a' cap', e = .returned (.slice a' (f.map (valW (stF 0 fs))).length cap') ∧ ValsF W.heap.size w' a' (f.map (valW (stF 0 fs))) ∧ Below W.heap.size W w') := fun W a5 c5 hbW hW5 =>
        runpacked2_c a5 (some ⟨b, off, none⟩) c5 sc f (stF 0 fs) W.heap.size W hW5 hUf (((unhide HIr).below (hbW.mono (by omega))).mono (by have := hbW.size; omega)) (Nat.le_refl _) (by omega)
      have HRow := hide hrow
      clear hrow
      go_wp2
      refine wp_region_hoist _ [5, 7, 8, 9, 10, 12] (fun i => match i with
          | 0 => .pointer (some ⟨w6.heap.size, 0, none⟩)
          | 1 => .slice ca k cc
          | 2 => .pointer (some ⟨w.heap.size, 0, none⟩)
          | 3 => .slice aw ws.length cw
          | 4 => .int .i64 (p : Int)
          | 6 => .slice (some ⟨b, off, none⟩) (stF 0 fs).length sc
          | _ => .pointer (some ⟨w6.heap.size, 0, none⟩))
        (fun vs W => match vs with
          | [] => Below wr.heap.size wr W
          | [v5] => (∃ a5 c5, v5 = .slice a5 f.length c5 ∧ Wds W.heap.size W a5 f) ∧ Below wr.heap.size wr W
          | [v5, v7] => (∃ a7 c7, v7 = .slice a7 (f.map (valW (stF 0 fs))).length c7 ∧ ValsF wr.heap.size W a7 (f.map (valW (stF 0 fs)))) ∧ Below wr.heap.size wr W
          | [v5, v7, v8] => (∃ a7 c7, v8 = .agg #[.slice a7 (f.map (valW (stF 0 fs))).length c7] ∧ ValsF wr.heap.size W a7 (f.map (valW (stF 0 fs)))) ∧ Below wr.heap.size wr W
          | [v5, v7, v8, v9] => (∃ a7 c7 W1, v9 = .slice (some ⟨W1.heap.size, 0, none⟩) 1 1 ∧ W = W1.alloc (.cells #[.slice a7 (f.map (valW (stF 0 fs))).length c7] 78) ∧ ValsF wr.heap.size W1 a7 (f.map (valW (stF 0 fs))) ∧ Below wr.heap.size wr W1) ∧ Below wr.heap.size wr W
          | [v5, v7, v8, v9, v10] => Apd wr w6.heap.size k (.slice ca k cc) es (f.map (valW (stF 0 fs))) v10 W
          | [v5, v7, v8, v9, v10, v12] => Below w6.heap.size w6 W ∧ W.cell? ⟨w6.heap.size, 0, none⟩ = some v10 ∧ W.frozen? ⟨w6.heap.size, 0, none⟩ = false ∧ W.cell? ⟨w6.heap.size, 1, none⟩ = some (.slice ar6 rl cr6) ∧ ∃ es', ObjRow W (w6.heap.size + 1) v10 (objsOf (stF 0 fs) (fs.take (k + 1))) es'
          | _ => False) Try.mixed (laid_of (by kernel_rfl)) (Below.refl _ _).drew ?_ ?_ ?_
      · intro i o hio hiT vs a W K hGv hlate hag hdep hK
        have hBW4 : vs.length ≤ 4 → Below wr.heap.size wr W := by
          intro h4
          match vs, hGv, h4 with
          | [], h, _ => exact h
          | [_], h, _ => exact h.2
          | [_, _], h, _ => exact h.2
          | [_, _, _], h, _ => exact h.2
          | [_, _, _, _], h, _ => exact h.2
        have t1 := hag.tm (k := 1) (by simp [dsOf])
        have t3 := hag.tm (k := 3) (by simp [dsOf])
        have t5 := hag.tm (k := 5) (by simp [dsOf])
        have t7 := hag.tm (k := 7) (by simp [dsOf])
        simp at t1 t3 t5 t7
        rcases i with _ | _ | _ | _ | _ | _ | _ | _ | _ | _ | _ | _ | _ | i
        · cases hio
          clear hGv
          unfold Oper.wp
          go_simp
          exact hK
        · have hl4 : vs.length ≤ 4 := hlate 4 10 _ rfl rfl ⟨⟨1, .data⟩, by simp, rfl, rfl⟩
          have s25 : a.tmps[25]?.getD undef = .pointer (some ⟨w6.heap.size, 0, none⟩) := hdep ⟨0, .data⟩ (by cases hio; simp) rfl 25 rfl
          have hcW := ((hBW4 hl4).cell (p := ⟨w6.heap.size, 0, none⟩) hq).trans c0
          cases hio
          clear hGv
          unfold Oper.wp
          go_simp
          exact hK
        · cases hio
          clear hGv
          unfold Oper.wp
          go_simp
          exact hK
        · have hl0 : vs.length ≤ 0 := hlate 0 5 _ rfl rfl ⟨⟨3, .data⟩, by simp, rfl, rfl⟩
          have s27 : a.tmps[27]?.getD undef = .pointer (some ⟨w.heap.size, 0, none⟩) := hdep ⟨2, .data⟩ (by cases hio; simp) rfl 27 rfl
          have hcW := ((hBW4 (by omega)).cell (p := ⟨w.heap.size, 0, none⟩) hqr).trans g0r
          cases hio
          clear hGv
          unfold Oper.wp
          go_simp
          exact hK
        · cases hio
          clear hGv
          unfold Oper.wp
          go_simp
          exact hK
        · exact absurd (by simp) hiT
        · cases hio
          clear hGv
          unfold Oper.wp
          go_simp
          exact hK
        · exact absurd (by simp) hiT
        · exact absurd (by simp) hiT
        · exact absurd (by simp) hiT
        · exact absurd (by simp) hiT
        · cases hio
          clear hGv
          unfold Oper.wp
          go_simp
          exact hK
        · exact absurd (by simp) hiT
        · simp at hio
      · intro j i o hj hio vs a W K hvl hGv hag hdep hK
        rcases j with _ | _ | _ | _ | _ | _ | j
        · obtain rfl : 5 = i := by simpa using hj
          obtain rfl : vs = [] := List.length_eq_zero_iff.1 hvl
          have s28 : a.tmps[28]?.getD undef = .slice aw ws.length cw := hdep ⟨3, .data⟩ (by cases hio; simp) rfl 28 rfl
          have s29 : a.tmps[29]?.getD undef = .int .i64 (p : Int) := hdep ⟨4, .data⟩ (by cases hio; simp) rfl 29 rfl
          cases hio
          refine op_call 32 #[.slice aw ws.length cw, .int .i64 (p : Int)] (by go_simp) ?_
          have hBW : Below wr.heap.size wr W := hGv
          refine (unhide HcF W hBW).mono ?_
          rintro e w' ⟨a', c', rfl, h2, h3⟩
          exact ⟨_, rfl, hK _ _ ⟨⟨a', c', rfl, h2⟩, hBW.trans (h3.mono hBW.size)⟩⟩
        · obtain rfl : 7 = i := by simpa using hj
          obtain ⟨v5, rfl⟩ : ∃ v5, vs = [v5] := by
            match vs, hvl with
            | [v5], _ => exact ⟨v5, rfl⟩
          obtain ⟨⟨a5, c5, rfl, hW5⟩, hBW⟩ := hGv
          have s30 : a.tmps[30]?.getD undef = .slice a5 f.length c5 := hdep ⟨5, .data⟩ (by cases hio; simp) rfl 30 rfl
          have s31 : a.tmps[31]?.getD undef = .slice (some ⟨b, off, none⟩) (stF 0 fs).length sc := hdep ⟨6, .data⟩ (by cases hio; simp) rfl 31 rfl
          cases hio
          refine op_call 37 #[.slice a5 f.length c5, .slice (some ⟨b, off, none⟩) (stF 0 fs).length sc] (by go_simp) ?_
          refine (unhide HcU W a5 c5 hBW hW5).mono ?_
          rintro e w' ⟨a', c', rfl, h2, h3⟩
          exact ⟨_, rfl, hK _ _ ⟨⟨a', c', rfl, h2.base hBW.size⟩, hBW.trans (h3.mono hBW.size)⟩⟩
        · obtain rfl : 8 = i := by simpa using hj
          obtain ⟨v5, v7, rfl⟩ : ∃ v5 v7, vs = [v5, v7] := by
            match vs, hvl with
            | [v5, v7], _ => exact ⟨v5, v7, rfl⟩
          obtain ⟨⟨a7, c7, rfl, hV7⟩, hBW⟩ := hGv
          have s32 : a.tmps[32]?.getD undef = .slice a7 (f.map (valW (stF 0 fs))).length c7 := hdep ⟨7, .data⟩ (by cases hio; simp) rfl 32 rfl
          generalize (f.map (valW (stF 0 fs))) = lv at *
          cases hio
          unfold Oper.wp
          go_simp
          exact hK _ _ ⟨⟨a7, c7, rfl, hV7⟩, hBW⟩
        · obtain rfl : 9 = i := by simpa using hj
          obtain ⟨v5, v7, v8, rfl⟩ : ∃ v5 v7 v8, vs = [v5, v7, v8] := by
            match vs, hvl with
            | [v5, v7, v8], _ => exact ⟨v5, v7, v8, rfl⟩
          obtain ⟨⟨a7, c7, rfl, hV7⟩, hBW⟩ := hGv
          have s33 : a.tmps[33]?.getD undef = .agg #[.slice a7 (f.map (valW (stF 0 fs))).length c7] := hdep ⟨8, .data⟩ (by cases hio; simp) rfl 33 rfl
          generalize (f.map (valW (stF 0 fs))) = lv at *
          cases hio
          unfold Oper.wp
          go_simp
          exact hK _ _ ⟨⟨a7, c7, W, rfl, rfl, hV7, hBW⟩, hBW.alloc hBW.size _⟩
        · obtain rfl : 10 = i := by simpa using hj
          obtain ⟨v5, v7, v8, v9, rfl⟩ : ∃ v5 v7 v8 v9, vs = [v5, v7, v8, v9] := by
            match vs, hvl with
            | [v5, v7, v8, v9], _ => exact ⟨v5, v7, v8, v9, rfl⟩
          obtain ⟨⟨a7, c7, W1, rfl, rfl, hV7, hBW1⟩, hBW⟩ := hGv
          have s26 : a.tmps[26]?.getD undef = .slice ca k cc := hdep ⟨1, .data⟩ (by cases hio; simp) rfl 26 rfl
          have s34 : a.tmps[34]?.getD undef = .slice (some ⟨W1.heap.size, 0, none⟩) 1 1 := hdep ⟨9, .data⟩ (by cases hio; simp) rfl 34 rfl
          cases hio
          have hs1 := hBW1.size
          refine op_append (.tmp 26) (.tmp 34) 44 rfl (w6.heap.size + 1) 78 i0 _ 1 24 Try.underlying44 hi hz0 hz1 hz2 rfl (by decide) (.slice ca k cc) k es (by simpa [Act.eval] using s26) ((ownsRow_below hrr hBW1).alloc _) ⟨W1.heap.size, 0, none⟩ 1 1 [.slice a7 (f.map (valW (stF 0 fs))).length c7] (by simpa [Act.eval] using s34) rfl (cell_one_at _ _ _ _ rfl) (by simp [Value.oneCell']) (by simp only [maxLen]; omega) (by omega) (by simp; omega) ?_
          intro v10 w10 hrow10 hg10 hat10
          exact hK _ _ ⟨a7, c7, W1, hV7, hBW1, hrow10, hg10, hat10⟩
        · obtain rfl : 12 = i := by simpa using hj
          obtain ⟨v5, v7, v8, v9, v10, rfl⟩ : ∃ v5 v7 v8 v9 v10, vs = [v5, v7, v8, v9, v10] := by
            match vs, hvl with
            | [v5, v7, v8, v9, v10], _ => exact ⟨v5, v7, v8, v9, v10, rfl⟩
          obtain ⟨a7, c7, W1, hV7, hBW1, hrow10, hg10, hat10⟩ := hGv
          have hs1 := hBW1.size
          obtain ⟨g7, cap7, hv7⟩ := ownsRow_succ hrow10
          subst hv7
          have s35 : a.tmps[35]?.getD undef = .slice (some ⟨g7, 0, none⟩) (k + 1) cap7 := hdep ⟨10, .data⟩ (by cases hio; simp) rfl 35 rfl
          have s36 : a.tmps[36]?.getD undef = .pointer (some ⟨w6.heap.size, 0, none⟩) := hdep ⟨11, .data⟩ (by cases hio; simp) rfl 36 rfl
          have hblk : W.heap[w6.heap.size]? = wr.heap[w6.heap.size]? := (hg10.block w6.heap.size (by simp; omega) (fun e => hncb e.symm)).trans ((Below.heap_alloc W1 _ _ (by omega)).trans (hBW1.block _ hq))
          have e0 := (World.cell?_of_block (a := ⟨w6.heap.size, 0, none⟩) hblk).trans c0
          have e1 := (World.cell?_of_block (a := ⟨w6.heap.size, 1, none⟩) hblk).trans c1
          have ef := (World.frozen?_of_block (a := ⟨w6.heap.size, 0, none⟩) hblk).trans cf0
          obtain ⟨r1, r2⟩ := obj_step (l := f.map (valW (stF 0 fs))) (ci := c7) (unhide HRow) (by omega) hV7.1 hBW1 hV7.2 (by rw [unhide HLk]; exact hrow10) hg10 hat10 rfl
          cases hio
          clear hrow10 hg10 hat10 hV7 hblk
          unfold Oper.wp
          go_simp
          refine hK undef _ ⟨hb.trans r2, World.cell?_setCell_same' _ _ _ (by rw [e0]; rfl), by rw [World.frozen?_setCell]; exact ef, ?_, _, by rw [unhide HO]; exact r1⟩
          rw [World.cell?_setCell_other _ _ _ _ (by simp)]
          exact e1
        · simp at hj
      · intro vs W hvl hGv
        obtain ⟨v5, v7, v8, v9, v10, v12, rfl⟩ : ∃ v5 v7 v8 v9 v10 v12, vs = [v5, v7, v8, v9, v10, v12] := by
          match vs, hvl with
          | [v5, v7, v8, v9, v10, v12], _ => exact ⟨v5, v7, v8, v9, v10, v12, rfl⟩
        obtain ⟨h1, h2, h3, h4, es', h5⟩ := hGv
        simp only [List.length_cons, List.length_nil, Nat.reduceAdd]
        simp [endAct, dstAt, valAt, List.idxOf?, List.findIdx?, List.findIdx?.go, Act.put]
        go_wp2
        go_roundw
        case rel => exact ⟨k + 1, v10, es', by omega, by go_num, h1, h2, h3, h4, h5⟩
        case measure => simp [intOf]; omega
    · obtain rfl : k = fs.length := by omega
      rw [List.take_length] at hrow
      have hkI : ¬ ((fs.length : Int) < ((stF 0 fs).length : Int)) := by rw [unhide Hst]; omega
      have hol := objsOf_len (stF 0 fs) fs
      obtain ⟨va', vc', hv, hO⟩ := hrow.objs (by omega)
      subst hv
      have HR := hide hrow
      have Hol := hide hol
      clear hO hrow hol
      replace q0 := (hb.cell (p := ⟨w.heap.size + 1, 0, none⟩) (by simp; omega)).trans q0
      replace q1 := (hb.cell (p := ⟨w.heap.size + 1, 1, none⟩) (by simp; omega)).trans q1
      replace f0 := (hb.frozen (p := ⟨w.heap.size + 1, 0, none⟩) (by simp; omega)).trans f0
      replace f1 := (hb.frozen (p := ⟨w.heap.size + 1, 1, none⟩) (by simp; omega)).trans f1
      generalize hL : objsOf (stF 0 fs) fs = L at *
      have HL := hide hL
      clear hL
      go_wp2
      refine bodyPost_ret (v := .agg #[.slice va' L.length vc', .slice ar6 rl cr6]) (by simp [results, Try.results20, go_sem, q0, q1]) rfl ?_
      have hO := ((unhide HR).setCell (p := ⟨w.heap.size + 1, 0, none⟩) (by simp; omega) (.slice va' L.length vc')).setCell (p := ⟨w.heap.size + 1, 1, none⟩) (by simp; omega) (.slice ar6 rl cr6)
      obtain ⟨va2, vc2, hv2, hO2⟩ := hO.objs (by rw [unhide Hol]; omega)
      injection hv2 with e1 _ e3
      subst e1 e3
      have hVF := ((((unhide HV6).below hb).setCell (p := ⟨w.heap.size + 1, 0, none⟩) (by simp; omega) (.slice va' L.length vc')).setCell (p := ⟨w.heap.size + 1, 1, none⟩) (by simp; omega) (.slice ar6 rl cr6))
      refine ⟨⟨va', vc', ar6, cr6, ?_, ?_, hVF.1⟩, (hbwr.setCell (p := ⟨w.heap.size + 1, 0, none⟩) (by simp) _).setCell (p := ⟨w.heap.size + 1, 1, none⟩) (by simp) _⟩
      · have e1 : (readG fs rs).objs = L := unhide HL
        have e2 : (readG fs rs).roots.length = rl := unhide Hrl
        rw [e1, e2]
      · have e1 : (readG fs rs).objs = L := unhide HL
        rw [e1]; exact hO2

end Go.Proofs.Ytjhndbfhiknngaa

/- Walks: MarkLives. -/
namespace Go.Proofs.Ytjhndbfhiknngaa
set_option linter.unusedSimpArgs false
set_option linter.unusedVariables false
open Go.RowKit Go.Shelf

theorem eql_hin (l1 l2 a1 a2 : Int) (m1 m2 : Bool) (w : World) : (Op.equalIn 10000 51 (.agg #[.int .i64 l1, .bool m1, .int .i64 a1]) (.agg #[.int .i64 l2, .bool m2, .int .i64 a2])).run Try.prog w = .ok (l1 == l2 && m1 == m2 && a1 == a2) w := by
  have u3 := Try.underlying3
  have a3 := Try.isAgg3
  have z3 := Try.sizeOf3
  have u4 := Try.underlying4
  have a4 := Try.isAgg4
  have z4 := Try.sizeOf4
  have hS : Try.prog.underlying 51 = some (.struct (Try.prog.fieldsOf 51)) := by kernel_rfl
  have hp : Try.prog.stoodInHeld 51 = false := by kernel_rfl
  rw [show (10000 : Nat) = 9999 + 1 from rfl, run_equalIn_agg w 9999 51 _ _ hS hp]
  simp only [Program.fieldsOf, Try.underlying51]
  go_simp
  cases m1 <;> cases m2 <;> by_cases h1 : l1 = l2 <;> by_cases h2 : a1 = a2 <;> simp [h1, h2]

theorem neq_h (l1 l2 a1 a2 : Int) (m1 m2 : Bool) (w : World) : (binOp .neq 51 (.agg #[.int .i64 l1, .bool m1, .int .i64 a1]) (.agg #[.int .i64 l2, .bool m2, .int .i64 a2])).run Try.prog w = .ok (.bool (!(l1 == l2 && m1 == m2 && a1 == a2))) w := by
  rw [run_neq_struct, eql_hin]; rfl

/-- A word of an arena, and of the same arena with marks. -/
def LvAt (st RK ws L : List Int) (i : Nat) : Prop :=
  ((i : Int) ∈ st ∧ ∃ x b, ws[i]? = some x ∧ L[i]? = some (reh b x) ∧ unheadOk x = true ∧ 0 ≤ x ∧ x < 18446744073709551616 ∧ decide (placeOf (st) (i : Int) ∈ RK) = b) ∨
  ((i : Int) ∉ st ∧ ∃ x, ws[i]? = some x ∧ L[i]? = some x)

theorem lives_at {hs : List Int} {fs : List (List Int)} {rs : List Int} {p : Nat → Bool} (h : Arn hs fs rs) (hp : ∀ j, p j = true ↔ Rch fs rs j) {i : Nat} (hi : i < tot fs) : LvAt (stF 0 fs) (reachK (readG fs rs) (readG fs rs).objs.length) (joinW hs fs) (mW hs fs p) i := by
  have hml := mW_len h.fit p
  have hjl := joinW_len hs fs h.fit.len
  by_cases hm : (i : Int) ∈ stF 0 fs
  · obtain ⟨k, hk⟩ := List.getElem?_of_mem hm
    have hkl : k < fs.length := by have := (List.getElem?_eq_some_iff.1 hk).1; rw [stF_len] at this; exact this
    have hk' := stF_get fs 0 k hkl
    rw [Nat.zero_add] at hk'
    have hpl : i = tot (fs.take k) := by
      have := hk.symm.trans hk'
      injection this with this
      omega
    obtain ⟨x, hx, hx1, hx2, hx3, hx4⟩ := fit_at h.fit hkl
    refine .inl ⟨hm, x, p k, ?_, ?_, hx1, hx3, hx4, ?_⟩
    · rw [hpl, joinW_get _ _ _ h.fit.len hkl]; exact hx
    · rw [hpl]; exact mW_get h.fit p hx
    · rw [placeOf_nodup (stF_nodup fs 0) hk, Bool.eq_iff_iff, hp, decide_eq_true_eq, mem_reachK h]
  · refine .inr ⟨hm, (joinW hs fs)[i]'(by omega), List.getElem?_eq_getElem _, ?_⟩
    have := join_same hs (mkH hs p) fs 0 i h.fit.len (by rw [mkH_len]; exact h.fit.len)
    rw [Nat.zero_add] at this
    have := this.resolve_left hm
    show (joinW (mkH hs p) fs)[i]? = _
    rw [← this]
    exact List.getElem?_eq_getElem _

end Go.Proofs.Ytjhndbfhiknngaa

/- Walks: MarkLives. -/
namespace Go.Proofs.Ytjhndbfhiknngaa
set_option linter.unusedSimpArgs false
set_option linter.unusedVariables false
open Go.RowKit Go.Shelf

set_option maxRecDepth 100000 in
set_option maxHeartbeats 4000000 in
theorem lives_c (aw ar : Option Addr) (cw cr : Nat) (ws rs : List Int) (w : World) (hW : Wds w.heap.size w aw ws) (hR : Wds w.heap.size w ar rs) (hUW : U64 ws) (hUR : U64 rs) (hcap : ws.length ≤ cw) :
    Calls Try.prog 5 #[.agg #[.slice aw ws.length cw, .slice ar rs.length cr]] w fun e w' => e = .returned (.bool true) ∧ Below w.heap.size w w' := by
  have hneq := neq_h
  obtain ⟨W1, hW1⟩ : ∃ W1, w.alloc (.cells #[.slice aw ws.length cw, .slice ar rs.length cr] 24) = W1 := ⟨_, rfl⟩
  have hb1 : Below w.heap.size w W1 := by rw [← hW1]; exact (Below.refl w.heap.size w).alloc (Nat.le_refl _) _
  have hs1 : w.heap.size < W1.heap.size := by rw [← hW1]; simp
  have g0 : W1.cell? ⟨w.heap.size, 0, none⟩ = some (.slice aw ws.length cw) := by rw [← hW1]; simp [go_sem]
  have g1 : W1.cell? ⟨w.heap.size, 1, none⟩ = some (.slice ar rs.length cr) := by rw [← hW1]; simp [go_sem]
  have Hc1 := hide (sound_c aw ar cw cr ws rs w.heap.size W1 (hW.below hb1) (hR.below hb1) hUW hUR (by omega))
  go_enter Try.func5, Try.ntmps5
  go_wp2_with fail
  refine (unhide Hc1).mono ?_
  rintro e w2 ⟨rfl, hb2⟩
  clear hW1 Hc1
  have hs2 := hb2.size
  have hbw2 : Below w.heap.size w w2 := hb1.trans (hb2.mono (by omega))
  replace g0 := (hb2.cell (p := ⟨w.heap.size, 0, none⟩) hs1).trans g0
  replace g1 := (hb2.cell (p := ⟨w.heap.size, 1, none⟩) hs1).trans g1
  by_cases hE : arenaE ws rs = 0
  · have d0 : (arenaE ws rs == 0) = true := by simp [hE]
    rw [d0]
    have HE := hide hE
    have Hc2 := hide (mark_c aw ar cw cr ws rs 1 w.heap.size w2 (hW.below hbw2) (hR.below hbw2) hUW hUR (by omega) hcap)
    clear hb1 hb2 hE d0
    go_wp2_with fail
    refine (unhide Hc2).mono ?_
    rintro e w3 ⟨hres, hb3⟩
    obtain ⟨ba, bc, ba', bc', BL, BR, he, hBL, hBR, hbc, HB⟩ := hres.all
    have hm0 : mrkE ws rs 1 = 0 := by rw [mrkE, if_neg (by simp [unhide HE]), if_neg (by omega)]
    rw [hm0] at he
    subst he
    obtain ⟨hRs, hs, fs, p, hA, hws, hp, hL⟩ : BR = rs ∧ ∃ hs fs p, Arn hs fs rs ∧ ws = joinW hs fs ∧ (∀ j, p j = true ↔ Rch fs rs j) ∧ BL = mW hs fs p := by
      rcases unhide HB with h | ⟨_, _, _, h1, h2⟩
      · exact absurd hm0 h.1
      · exact ⟨h1, h2⟩
    subst hRs
    have htot : tot fs = ws.length := by rw [hws, joinW_len _ _ hA.fit.len]
    have hBl : BL.length = ws.length := by rw [hL, mW_len hA.fit]; exact htot
    have Hlv : Hid (∀ i, i < ws.length → LvAt (stF 0 fs) (reachK (readG fs BR) (readG fs BR).objs.length) ws BL i) := fun i hi => by rw [hws, hL]; exact lives_at hA hp (by omega)
    have Hsp : Hid (splitR ws = some fs) := by show _ = _; rw [hws]; exact fit_split hA.fit
    have h256 : ws.length ≤ 256 := by have := hA.n256; omega
    have h8 := hA.n8
    have HG := hide (good_read hA)
    have hUB : U64 BL := by rw [hL]; exact joinW_u64 hA (fit_mkH hA.fit p)
    rw [hBl]
    have hs3 := hb3.size
    have hbw3 : Below w.heap.size w w3 := hbw2.trans (hb3.mono (by omega))
    obtain ⟨W3, hW3⟩ : ∃ W3, w3.alloc (.cells #[.slice ba ws.length bc, .slice ba' BR.length bc'] 24) = W3 := ⟨_, rfl⟩
    have hb3' : Below w3.heap.size w3 W3 := by rw [← hW3]; exact (Below.refl _ w3).alloc (Nat.le_refl _) _
    have hs3' : w3.heap.size < W3.heap.size := by rw [← hW3]; simp
    have k0 : W3.cell? ⟨w3.heap.size, 0, none⟩ = some (.slice ba ws.length bc) := by rw [← hW3]; simp [go_sem]
    have k1 : W3.cell? ⟨w3.heap.size, 1, none⟩ = some (.slice ba' BR.length bc') := by rw [← hW3]; simp [go_sem]
    replace g0 := (hb3'.cell (p := ⟨w.heap.size, 0, none⟩) (by simp; omega)).trans ((hb3.cell (p := ⟨w.heap.size, 0, none⟩) (by simp; omega)).trans g0)
    replace g1 := (hb3'.cell (p := ⟨w.heap.size, 1, none⟩) (by simp; omega)).trans ((hb3.cell (p := ⟨w.heap.size, 1, none⟩) (by simp; omega)).trans g1)
    have hbW3 : Below w.heap.size w W3 := hbw3.trans (hb3'.mono (by omega))
    have hwW3 : w.heap.size < W3.heap.size := by omega
    have HBL := hide ((hBL.below hb3').mono (Nat.le_of_lt hs3'))
    have Hc4 : Hid (Calls Try.prog 17 #[.slice ba' BR.length bc', .slice ar BR.length cr] W3 fun e w' => e = .returned (.bool true) ∧ Below W3.heap.size W3 w') := by
      have := words_eq_c ba' ar bc' cr BR BR W3.heap.size W3 ((hBR.below hb3').mono (by omega)) ((hR.below hbW3).mono (by omega)) (Nat.le_refl _)
      simp only [decide_true, Bool.and_self] at this
      exact this
    have HBl := hide hBl
    have Htot := hide htot
    have d5 : ((ws.length : Int) != (ws.length : Int)) = false := by simp
    clear Hc2 hres hBL hBR HB hm0 hp hL hws hA hBl htot hb3 hbw3
    go_wp2_with fail
    refine (unhide Hc4).mono ?_
    rintro e w4 ⟨rfl, hb4⟩
    have hs4 := hb4.size
    clear hW3 Hc4 hb3'
    replace g0 := (hb4.cell (p := ⟨w.heap.size, 0, none⟩) (by simp; omega)).trans g0
    replace g1 := (hb4.cell (p := ⟨w.heap.size, 1, none⟩) (by simp; omega)).trans g1
    replace k0 := (hb4.cell (p := ⟨w3.heap.size, 0, none⟩) (by simp; omega)).trans k0
    replace k1 := (hb4.cell (p := ⟨w3.heap.size, 1, none⟩) (by simp; omega)).trans k1
    have hbw4 : Below w.heap.size w w4 := hbW3.trans (hb4.mono (by omega))
    have hw4 : w.heap.size < w4.heap.size := by omega
    have hw4' : w3.heap.size < w4.heap.size := by omega
    replace HBL := hide (((unhide HBL).below hb4).mono hs4)
    have Hc5 := hide (rstarts_c aw cw ws w.heap.size w4 (hW.below hbw4) hUW (by omega) h256)
    clear hb4
    go_wp2_with fail
    refine (unhide Hc5).mono ?_
    rintro e w5 ⟨hres, hb5⟩
    obtain ⟨fs', sa, sc, hfs', he, hI5⟩ := hres.resolve_left (fun h => by have := unhide Hsp; rw [h.1] at this; cases this)
    obtain rfl : fs' = fs := by have := unhide Hsp; rw [hfs'] at this; injection this
    subst he
    have hs5 := hb5.size
    replace g0 := (hb5.cell (p := ⟨w.heap.size, 0, none⟩) (by simp; omega)).trans g0
    replace g1 := (hb5.cell (p := ⟨w.heap.size, 1, none⟩) (by simp; omega)).trans g1
    replace k0 := (hb5.cell (p := ⟨w3.heap.size, 0, none⟩) (by simp; omega)).trans k0
    replace k1 := (hb5.cell (p := ⟨w3.heap.size, 1, none⟩) (by simp; omega)).trans k1
    have hbw5 : Below w.heap.size w w5 := hbw4.trans (hb5.mono (by omega))
    have hw5 : w.heap.size < w5.heap.size := by omega
    replace HBL := hide (((unhide HBL).below hb5).mono hs5)
    have HI5 := hide hI5
    have Hc6 := hide (rread_c aw ar cw cr ws BR fs' w.heap.size w5 (hW.below hbw5) (hR.below hbw5) hUW hUR (by omega) h256 h8 (unhide Hsp))
    clear Hc5 hres hfs' hI5 hb5
    go_wp2_with fail
    refine (unhide Hc6).mono ?_
    rintro e w6 ⟨⟨ao, co, ar6, cr6, he, hO, hV⟩, hb6⟩
    subst he
    have hs6 := hb6.size
    replace g0 := (hb6.cell (p := ⟨w.heap.size, 0, none⟩) (by simp; omega)).trans g0
    replace g1 := (hb6.cell (p := ⟨w.heap.size, 1, none⟩) (by simp; omega)).trans g1
    replace k0 := (hb6.cell (p := ⟨w3.heap.size, 0, none⟩) (by simp; omega)).trans k0
    replace k1 := (hb6.cell (p := ⟨w3.heap.size, 1, none⟩) (by simp; omega)).trans k1
    have hbw6 : Below w.heap.size w w6 := hbw5.trans (hb6.mono (by omega))
    replace HBL := hide (((unhide HBL).below hb6).mono hs6)
    replace HI5 := hide (((unhide HI5).below hb6).mono hs6)
    have Hc7 := hide (refReach_c ao ar6 co cr6 (readG fs' BR) w6.heap.size w6 hO hV (Nat.le_refl _) (unhide HG))
    clear Hc6 hO hV hb6
    go_wp2_with fail
    refine (unhide Hc7).mono ?_
    rintro e w7 ⟨ra, rc, he, hI7, hb7⟩
    subst he
    have hs7 := hb7.size
    replace g0 := (hb7.cell (p := ⟨w.heap.size, 0, none⟩) (by simp; omega)).trans g0
    replace g1 := (hb7.cell (p := ⟨w.heap.size, 1, none⟩) (by simp; omega)).trans g1
    replace k0 := (hb7.cell (p := ⟨w3.heap.size, 0, none⟩) (by simp; omega)).trans k0
    replace k1 := (hb7.cell (p := ⟨w3.heap.size, 1, none⟩) (by simp; omega)).trans k1
    have hbw7 : Below w.heap.size w w7 := hbw6.trans (hb7.mono (by omega))
    replace HBL := hide (((unhide HBL).below hb7).mono hs7)
    replace HI5 := hide (((unhide HI5).below hb7).mono hs7)
    have HI7 := hide hI7
    have hw7 : w.heap.size < w7.heap.size := by omega
    have hw7' : w3.heap.size < w7.heap.size := by omega
    have HW7 := hide (hW.below hbw7)
    clear Hc7 hI7 hb7 Hsp HG hW hR
    generalize reachK (readG fs' BR) (readG fs' BR).objs.length = RK at *
    generalize stF 0 fs' = ST at *
    go_wp2
    go_loopw [8] (fun i wr => ∃ k : Nat, k ≤ ws.length ∧ i = .int .i64 k ∧ Below w7.heap.size w7 wr) (fun i _ => ws.length - (intOf i).toNat)
    case atStart => exact ⟨0, Nat.zero_le _, rfl, Below.refl _ _⟩
    case round =>
      obtain ⟨k, hk, rfl, hb⟩ := hrel
      have hsz := hb.size
      have g0r := (hb.cell (p := ⟨w.heap.size, 0, none⟩) hw7).trans g0
      have g1r := (hb.cell (p := ⟨w.heap.size, 1, none⟩) hw7).trans g1
      have k0r := (hb.cell (p := ⟨w3.heap.size, 0, none⟩) hw7').trans k0
      have k1r := (hb.cell (p := ⟨w3.heap.size, 1, none⟩) hw7').trans k1
      have hwr : w.heap.size < wr.heap.size := by omega
      have hwr' : w3.heap.size < wr.heap.size := by omega
      by_cases hlt : k < ws.length
      · have hkI : (k : Int) < (ws.length : Int) := by omega
        have hIr := (unhide HI5).below hb
        have hRr := (unhide HI7).below hb
        have hBr := (unhide HBL).below hb
        have hWr := (unhide HW7).below (hb.mono (by omega))
        rcases unhide Hlv k hlt with ⟨hm, x, b, hx, hy, hx1, hx2, hx3, hpb⟩ | ⟨hm, x, hx, hy⟩
        · have hr2 := reh_ok b x
          have hH : Hid (Calls Try.prog 21 #[.slice sa ST.length sc, .int .i64 (k : Int)] wr fun e w' => e = .returned (.bool true) ∧ w' = wr) := by
            have := has_c sa sc ST (k : Int) w7.heap.size wr hIr
            simp only [hm, decide_true] at this
            exact this
          have hA1 : Hid (Calls Try.prog 22 #[.agg #[.slice ba ws.length bc, .slice ba' BR.length bc'], .int .i64 (k : Nat)] wr fun e w' => e = .returned (.tuple #[.agg #[.int .i64 (uhL x), .bool b, .int .i64 (uhA x)], .bool true]) ∧ Below wr.heap.size wr w') := by
            have := headAt_c ba ba' bc BR.length bc' BL k (reh b x) w7.heap.size wr hBr hsz hy hr2.2.2.2.2.1 hr2.2.2.2.2.2
            rw [unhide HBl, hr2.2.1, hr2.2.2.1, hr2.2.2.2.1, uhE_ok hr2.1] at this
            exact this
          have hA2 : Hid (∀ W, Below wr.heap.size wr W → Calls Try.prog 22 #[.agg #[.slice aw ws.length cw, .slice ar BR.length cr], .int .i64 (k : Nat)] W fun e w' => e = .returned (.tuple #[.agg #[.int .i64 (uhL x), .bool (uhM x), .int .i64 (uhA x)], .bool (uhE x == 0)]) ∧ Below W.heap.size W w') := fun W hbW =>
            headAt_c aw ar cw BR.length cr ws k x w.heap.size W (hWr.below (hbW.mono (by omega))) (by have := hbW.size; omega) hx hx2 hx3
          have hA3 : Hid (∀ W, Below wr.heap.size wr W → Calls Try.prog 23 #[.slice sa ST.length sc, .int .i64 (k : Int)] W fun e w' => e = .returned (.int .i64 (placeOf ST (k : Int))) ∧ w' = W) := fun W hbW =>
            kplace_c sa sc ST (k : Int) w7.heap.size W (hIr.below (hbW.mono hsz)) hm
          have hA4 : Hid (∀ W, Below wr.heap.size wr W → Calls Try.prog 21 #[.slice ra RK.length rc, .int .i64 (placeOf ST (k : Int))] W fun e w' => e = .returned (.bool b) ∧ w' = W) := fun W hbW => by
            have := has_c ra rc RK (placeOf ST (k : Int)) w7.heap.size W (hRr.below (hbW.mono hsz))
            rw [hpb] at this
            exact this
          clear hm hx hy hx1 hx2 hx3 hpb hr2 hIr hRr hBr hWr
          generalize uhL x = xl at *
          generalize uhM x = xm at *
          generalize uhA x = xa at *
          generalize placeOf ST (k : Int) = pk at *
          have d6 : (!(xl == xl && b == b && xa == xa)) = false := by simp
          go_wp2_with fail
          refine (unhide hH).mono ?_
          rintro e w8 ⟨he, hw8⟩
          subst he
          have hw8 := hw8.symm
          subst hw8
          clear hH
          go_wp2_with fail
          refine (unhide hA1).mono ?_
          rintro e w9 ⟨he, hb9⟩
          subst he
          have hs9 := hb9.size
          obtain ⟨W9, hW9⟩ : ∃ W9, w9.alloc (.cells #[.int .i64 xl, .bool b, .int .i64 xa] 51) = W9 := ⟨_, rfl⟩
          have hb9' : Below wr.heap.size wr W9 := by rw [← hW9]; exact hb9.alloc hs9 _
          have hs9' : w9.heap.size < W9.heap.size := by rw [← hW9]; simp
          have v0 : W9.cell? ⟨w9.heap.size, 0, none⟩ = some (.int .i64 xl) := by rw [← hW9]; simp [go_sem]
          have v1 : W9.cell? ⟨w9.heap.size, 1, none⟩ = some (.bool b) := by rw [← hW9]; simp [go_sem]
          have v2 : W9.cell? ⟨w9.heap.size, 2, none⟩ = some (.int .i64 xa) := by rw [← hW9]; simp [go_sem]
          have g09 := (hb9'.cell (p := ⟨w.heap.size, 0, none⟩) hwr).trans g0r
          have g19 := (hb9'.cell (p := ⟨w.heap.size, 1, none⟩) hwr).trans g1r
          have hl9 : w.heap.size < W9.heap.size := by omega
          have hA2' := hide (unhide hA2 W9 hb9')
          clear hA1 hA2
          go_wp2_with fail
          refine (unhide hA2').mono ?_
          rintro e w10 ⟨he, hb10⟩
          subst he
          have hs10 := hb10.size
          obtain ⟨W10, hW10⟩ : ∃ W10, w10.alloc (.cells #[.int .i64 xl, .bool xm, .int .i64 xa] 51) = W10 := ⟨_, rfl⟩
          have hb10' : Below W9.heap.size W9 W10 := by rw [← hW10]; exact hb10.alloc hs10 _
          have hs10' : w10.heap.size < W10.heap.size := by rw [← hW10]; simp
          have u0' : W10.cell? ⟨w10.heap.size, 0, none⟩ = some (.int .i64 xl) := by rw [← hW10]; simp [go_sem]
          have u1' : W10.cell? ⟨w10.heap.size, 1, none⟩ = some (.bool xm) := by rw [← hW10]; simp [go_sem]
          have u2' : W10.cell? ⟨w10.heap.size, 2, none⟩ = some (.int .i64 xa) := by rw [← hW10]; simp [go_sem]
          have uf : W10.frozen? ⟨w10.heap.size, 1, none⟩ = false := by rw [← hW10]; simp [go_sem]
          replace v0 := (hb10'.cell (p := ⟨w9.heap.size, 0, none⟩) hs9').trans v0
          replace v1 := (hb10'.cell (p := ⟨w9.heap.size, 1, none⟩) hs9').trans v1
          replace v2 := (hb10'.cell (p := ⟨w9.heap.size, 2, none⟩) hs9').trans v2
          have hbr10 : Below wr.heap.size wr W10 := hb9'.trans (hb10'.mono hb9'.size)
          have hA3' := hide (unhide hA3 W10 hbr10)
          have hA4' := hide (unhide hA4 W10 hbr10)
          have hne : w9.heap.size < w10.heap.size := by omega
          have hl10 : w9.heap.size < W10.heap.size := by omega
          clear hA2' hA3 hA4 hb10 hb9
          go_wp2_with fail
          refine (unhide hA3').mono ?_
          rintro e w11 ⟨he, hw11⟩
          subst he
          have hw11 := hw11.symm
          subst hw11
          clear hW9 hW10 hA3'
          go_wp2_with fail
          refine (unhide hA4').mono ?_
          rintro e w12 ⟨he, hw12⟩
          subst he
          have hw12 := hw12.symm
          subst hw12
          clear hA4'
          go_wp2
          go_roundw
          case rel => exact ⟨k + 1, by omega, by go_num, (hb.trans (hbr10.mono hsz)).setCell (p := ⟨w10.heap.size, 1, none⟩) (by show w7.heap.size ≤ w10.heap.size; omega) _⟩
          case measure => simp [intOf]; omega
        · have hH : Hid (Calls Try.prog 21 #[.slice sa ST.length sc, .int .i64 (k : Int)] wr fun e w' => e = .returned (.bool false) ∧ w' = wr) := by
            have := has_c sa sc ST (k : Int) w7.heap.size wr hIr
            simp only [hm, decide_false] at this
            exact this
          have hltB : k < BL.length := by have := unhide HBl; omega
          obtain ⟨b1, o1, rfl, hB1, hc1⟩ := hWr.at hlt
          obtain ⟨b2, o2, rfl, hB2, hc2⟩ := hBr.at hltB
          rw [(List.getElem?_eq_some_iff.1 hx).2] at hc1
          rw [(List.getElem?_eq_some_iff.1 hy).2] at hc2
          have d7 : (x != x) = false := by simp
          have hq1 : b1 < wr.heap.size := by omega
          have hq2 : b2 < wr.heap.size := by omega
          clear hm hx hy hIr hRr hBr hWr
          go_wp2_with fail
          refine (unhide hH).mono ?_
          rintro e w8 ⟨he, hw8⟩
          subst he
          have hw8 := hw8.symm
          subst hw8
          clear hH
          go_wp2
          go_quiet (fail)
          have hbn := below_drewN hb nq
          clear hc1 hc2 g0r g1r k0r k1r hq1 hq2 hwr hwr'
          generalize wr.drewN nq = wq at *
          go_wp2
          go_roundw
          case rel => exact ⟨k + 1, by omega, by go_num, hbn⟩
          case measure => simp [intOf]; omega
      · obtain rfl : k = ws.length := by omega
        go_wp2
        go_ret
        exact ⟨rfl, hbw7.trans (hb.mono (by omega))⟩
  · have d0 : (arenaE ws rs == 0) = false := by simp [hE]
    have HE := hide hE
    rw [d0]
    have Hc2 := hide (unsound_c aw ar cw cr ws rs w.heap.size w2 (hW.below hbw2) (hR.below hbw2) hUW hUR (by omega) hcap)
    clear hE
    go_wp2_with fail
    refine (unhide Hc2).mono ?_
    rintro e w3 ⟨he, hb3⟩
    have d3 : (arenaE ws rs != 0) = true := by simpa using unhide HE
    rw [d3] at he
    subst he
    go_wp2
    go_ret
    exact ⟨rfl, hbw2.trans (hb3.mono (by omega))⟩

end Go.Proofs.Ytjhndbfhiknngaa
