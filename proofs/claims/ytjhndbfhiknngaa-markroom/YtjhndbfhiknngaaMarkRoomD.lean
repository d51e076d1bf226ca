/- Merged texts: Mp Fa Mq. -/
import Derived.Test.YtjhndbfhiknngaaProg
import Derived.Test.YtjhndbfhiknngaaMarkRoomC

/- Walks: Mark. -/
namespace Go.Proofs.Ytjhndbfhiknngaa
set_option linter.unusedSimpArgs false
set_option linter.unusedVariables false
open Go.RowKit Go.Shelf

/-- What Mark tells of an arena that may be, and a room that may be. -/
def MrkOk (ws rs : List Int) (e : Ending) (W : World) : Prop :=
  ∃ hs fs p a c a' c', Arn hs fs rs ∧ ws = joinW hs fs ∧ (∀ j, p j = true ↔ Rch fs rs j) ∧ e = .returned (.tuple #[.agg #[.slice a (mW hs fs p).length c, .slice a' rs.length c'], .int .i64 0]) ∧ Wds W.heap.size W a (mW hs fs p) ∧ (mW hs fs p).length ≤ c ∧ Wds W.heap.size W a' rs

/-- What Mark tells. -/
def MrkRes (ws rs : List Int) (room : Int) (e : Ending) (W : World) : Prop :=
  (arenaE ws rs ≠ 0 ∧ e = .returned (.tuple #[.agg #[.slice none 0 0, .slice none 0 0], .int .i64 (arenaE ws rs)])) ∨
  (arenaE ws rs = 0 ∧ (room < 1 ∨ 64 < room) ∧ e = .returned (.tuple #[.agg #[.slice none 0 0, .slice none 0 0], .int .i64 3])) ∨
  (arenaE ws rs = 0 ∧ 1 ≤ room ∧ room ≤ 64 ∧ MrkOk ws rs e W)

theorem row_wds {w : World} {N mb : Nat} {l : List Int} {v u : Value} {off : Nat} (h : w.ownsRow N 55 1 v l.length (wordsV l)) (hl : l.length ≤ 256) (hb : mb < N) : ∃ a c, v = .slice a l.length c ∧ Wds w.heap.size w a l ∧ l.length ≤ c ∧ Hid (∀ b o, a = some ⟨b, o, none⟩ → N ≤ b) := by
  obtain ⟨a, c, hv, hW, hn⟩ := words_of_owns h rfl (by omega)
  refine ⟨a, c, hv, hW, ?_, hn⟩
  rcases h.2 with ⟨_, h0⟩ | ⟨g, cap', cur, hv', h1, h2, h3, h4, h5, h6⟩
  · omega
  · rw [hv] at hv'; injection hv' with _ _ e; omega

theorem wds_set {B N : Nat} {w : World} {a : Option Addr} {l : List Int} (h : Wds B w a l) (hn : Hid (∀ b o, a = some ⟨b, o, none⟩ → N ≤ b)) {p : Addr} (hp : p.block < N) (u : Value) : Wds B (w.setCell p u) a l := by
  refine ⟨h.1, fun hne => ?_⟩
  obtain ⟨b, off, rfl, hB, hc⟩ := h.2 hne
  have := unhide hn b off rfl
  refine ⟨b, off, rfl, hB, fun k v hk => ?_⟩
  rw [World.cell?_of_block (a := ⟨b, off + k, none⟩) (Below.heap_setCell _ _ _ _ (by show b ≠ _; omega))]
  exact hc k v hk

set_option maxRecDepth 100000 in
set_option maxHeartbeats 2000000 in
theorem mark_c (aw ar : Option Addr) (cw cr : Nat) (ws rs : List Int) (room : Int) (B : Nat) (w : World) (hW : Wds B w aw ws) (hR : Wds B w ar rs) (hUW : U64 ws) (hUR : U64 rs) (hB : B ≤ w.heap.size) (hcap : ws.length ≤ cw) :
    Calls Try.prog 8 #[.agg #[.slice aw ws.length cw, .slice ar rs.length cr], .int .i64 room] w fun e w' => MrkRes ws rs room e w' ∧ Below w.heap.size w w' := by
  obtain ⟨W1, hW1⟩ : ∃ W1, (w.alloc (.cells #[.slice aw ws.length cw, .slice ar rs.length cr] 24)).alloc (.cells #[.slice none 0 0, .slice none 0 0] 24) = W1 := ⟨_, rfl⟩
  have hb1 : Below w.heap.size w W1 := by rw [← hW1]; exact ((Below.refl w.heap.size w).alloc (Nat.le_refl _) _).alloc (by simp) _
  have hs1 : w.heap.size + 1 < W1.heap.size := by rw [← hW1]; simp
  have g0 : W1.cell? ⟨w.heap.size, 0, none⟩ = some (.slice aw ws.length cw) := by rw [← hW1]; simp [go_sem]
  have g1 : W1.cell? ⟨w.heap.size, 1, none⟩ = some (.slice ar rs.length cr) := by rw [← hW1]; simp [go_sem]
  have r0 : W1.cell? ⟨w.heap.size + 1, 0, none⟩ = some (.slice none 0 0) := by rw [← hW1]; simp [go_sem]
  have r1 : W1.cell? ⟨w.heap.size + 1, 1, none⟩ = some (.slice none 0 0) := by rw [← hW1]; simp [go_sem]
  have z0 : W1.frozen? ⟨w.heap.size + 1, 0, none⟩ = false := by rw [← hW1]; simp [go_sem]
  have z1 : W1.frozen? ⟨w.heap.size + 1, 1, none⟩ = false := by rw [← hW1]; simp [go_sem]
  have Hc1 := hide (acheck_c aw ar cw cr ws rs B W1 (hW.below (hb1.mono hB)) (hR.below (hb1.mono hB)) hUW hUR (by omega) hcap)
  go_enter Try.func8, Try.ntmps8
  go_wp2_with fail
  refine (unhide Hc1).mono ?_
  rintro e w2 ⟨rfl, hb2⟩
  clear hW1 Hc1
  have hs2 := hb2.size
  have hbw2 : Below w.heap.size w w2 := hb1.trans (hb2.mono (by omega))
  replace g0 := (hb2.cell (p := ⟨w.heap.size, 0, none⟩) (by simp; omega)).trans g0
  replace g1 := (hb2.cell (p := ⟨w.heap.size, 1, none⟩) (by simp; omega)).trans g1
  replace r0 := (hb2.cell (p := ⟨w.heap.size + 1, 0, none⟩) hs1).trans r0
  replace r1 := (hb2.cell (p := ⟨w.heap.size + 1, 1, none⟩) hs1).trans r1
  replace z0 := (hb2.frozen (p := ⟨w.heap.size + 1, 0, none⟩) hs1).trans z0
  replace z1 := (hb2.frozen (p := ⟨w.heap.size + 1, 1, none⟩) hs1).trans z1
  have hl2 : w.heap.size + 1 < w2.heap.size := by omega
  have hl2' : w.heap.size < w2.heap.size := by omega
  clear hb1 hb2
  by_cases hE : arenaE ws rs = 0
  · by_cases hr : room < 1 ∨ 64 < room
    · have HE := hide hE
      have Hr := hide hr
      rw [hE]
      have hfin : Hid (∀ W, Below w.heap.size w W → MrkRes ws rs room (.returned (.tuple #[.agg #[.slice none 0 0, .slice none 0 0], .int .i64 3])) W ∧ Below w.heap.size w W) := fun W h => ⟨.inr (.inl ⟨unhide HE, unhide Hr, rfl⟩), h⟩
      clear hE
      rcases hr with hr | hr
      · have d1 : decide (room < 1) = true := by simpa using hr
        go_wp2
        refine bodyPost_ret (v := .tuple #[.agg #[.slice none 0 0, .slice none 0 0], .int .i64 3]) (by simp [results, Try.results8, go_sem, r0, r1]) rfl (unhide hfin _ ((hbw2.setCell (p := ⟨w.heap.size + 1, 0, none⟩) (by simp) _).setCell (p := ⟨w.heap.size + 1, 1, none⟩) (by simp) _))
      · have d1 : decide (room < 1) = false := by simp; omega
        have d2 : decide (room > 64) = true := by simp; omega
        have d3 : decide (64 < room) = true := by simp; omega
        go_wp2
        refine bodyPost_ret (v := .tuple #[.agg #[.slice none 0 0, .slice none 0 0], .int .i64 3]) (by simp [results, Try.results8, go_sem, r0, r1]) rfl (unhide hfin _ ((hbw2.setCell (p := ⟨w.heap.size + 1, 0, none⟩) (by simp) _).setCell (p := ⟨w.heap.size + 1, 1, none⟩) (by simp) _))
    · obtain ⟨rN, rfl⟩ := Int.eq_ofNat_of_zero_le (show 0 ≤ room by omega)
      have hr1 : 1 ≤ rN := by omega
      have hr2 : rN ≤ 64 := by omega
      obtain ⟨hs, fs, hA, hws⟩ := arn_of hUW hUR hE
      have hjl : tot fs = ws.length := by rw [hws, joinW_len _ _ hA.fit.len]
      have HA := hide hA
      have Hws := hide hws
      have HE := hide hE
      rw [hE]
      have Hc2 : Hid (Calls Try.prog 27 #[.agg #[.slice aw ws.length cw, .slice ar rs.length cr], .int .i64 (rN : Nat)] w2 fun e w' => NmRes w2.heap.size hs fs rs rN e w' ∧ Below w2.heap.size w2 w') := by
        have := newMarker_c aw ar cw cr hs fs rs rN w2 hA hr1 hr2 (by rw [← hws]; exact (hW.below (hbw2.mono hB)).mono (by omega)) ((hR.below (hbw2.mono hB)).mono (by omega))
        rw [hjl] at this
        exact this
      have d1 : decide ((rN : Int) < 1) = false := by simp; omega
      have d2 : decide ((rN : Int) > 64) = false := by simp; omega
      have d3 : decide (64 < (rN : Int)) = false := by simp; omega
      clear hE hr hA hws hjl
      go_wp2_with fail
      refine (unhide Hc2).mono ?_
      rintro e w3 ⟨⟨mb, vw, vr, he, hM3⟩, hb3⟩
      subst he
      have Hc3 := hide (markAll_c hs fs rs w2.heap.size mb vw vr rN w3 hM3 (unhide HA) hr1 hr2)
      clear hM3 Hc2
      go_wp2_with fail
      refine (unhide Hc3).mono ?_
      rintro e w4 ⟨⟨he, p, ⟨vk, hM4⟩, hp4⟩, hb4, _⟩
      subst he
      have hs3 := hb3.size
      have hs4 := hb4.size
      have hb34 : Below w2.heap.size w2 w4 := hb3.trans hb4
      have hbw4 : Below w.heap.size w w4 := hbw2.trans (hb34.mono (by omega))
      replace r0 := (hb34.cell (p := ⟨w.heap.size + 1, 0, none⟩) hl2).trans r0
      replace r1 := (hb34.cell (p := ⟨w.heap.size + 1, 1, none⟩) hl2).trans r1
      replace z0 := (hb34.frozen (p := ⟨w.heap.size + 1, 0, none⟩) hl2).trans z0
      replace z1 := (hb34.frozen (p := ⟨w.heap.size + 1, 1, none⟩) hl2).trans z1
      have hml := mW_len (unhide HA).fit p
      obtain ⟨wa, wc, hvw, hWw, hwc, hwn⟩ := row_wds (mb := 0) (u := .bool true) (off := 0) hM4.wo (by rw [hml]; exact (unhide HA).n256) (by omega)
      obtain ⟨ra, rc, hvr, hWr, _, hrn⟩ := row_wds (mb := 0) (u := .bool true) (off := 0) hM4.ro (by have := (unhide HA).n8; omega) (by omega)
      subst hvw hvr
      have q0 := hM4.box.c0
      have q1 := hM4.box.c1
      have hlm := hM4.box.lt
      have hl4 : w.heap.size + 1 < w4.heap.size := by omega
      have hmb : w2.heap.size ≤ mb := hM4.lo
      have Hfin : Hid (∀ W, W = (w4.setCell ⟨w.heap.size + 1, 0, none⟩ (.slice wa (mW hs fs p).length wc)).setCell ⟨w.heap.size + 1, 1, none⟩ (.slice ra rs.length rc) → MrkRes ws rs (rN : Int) (.returned (.tuple #[.agg #[.slice wa (mW hs fs p).length wc, .slice ra rs.length rc], .int .i64 0])) W ∧ Below w.heap.size w W) := fun W h => by
        subst h
        have hsz : ((w4.setCell ⟨w.heap.size + 1, 0, none⟩ (.slice wa (mW hs fs p).length wc)).setCell ⟨w.heap.size + 1, 1, none⟩ (.slice ra rs.length rc)).heap.size = w4.heap.size := by simp [World.setCell]
        refine ⟨.inr (.inr ⟨unhide HE, by omega, by omega, hs, fs, p, wa, wc, ra, rc, unhide HA, unhide Hws, hp4, rfl, ?_, hwc, ?_⟩), (hbw4.setCell (p := ⟨w.heap.size + 1, 0, none⟩) (by simp) _).setCell (p := ⟨w.heap.size + 1, 1, none⟩) (by simp) _⟩
        · rw [hsz]; exact wds_set (wds_set hWw hwn (by show w.heap.size + 1 < _; omega) _) hwn (by show w.heap.size + 1 < _; omega) _
        · rw [hsz]; exact wds_set (wds_set hWr hrn (by show w.heap.size + 1 < _; omega) _) hrn (by show w.heap.size + 1 < _; omega) _
      clear hM4 hp4 hml hWw hWr hwn hrn Hc3 hb3 hb4 hb34 hwc
      generalize (mW hs fs p).length = n at *
      go_wp2
      exact bodyPost_ret (v := .tuple #[.agg #[.slice wa n wc, .slice ra rs.length rc], .int .i64 0]) (by simp [results, Try.results8, go_sem, r0, r1]) rfl (unhide Hfin _ rfl)
  · have HE := hide hE
    have hfin : Hid (∀ W, Below w.heap.size w W → MrkRes ws rs room (.returned (.tuple #[.agg #[.slice none 0 0, .slice none 0 0], .int .i64 (arenaE ws rs)])) W ∧ Below w.heap.size w W) := fun W h => ⟨.inl ⟨unhide HE, rfl⟩, h⟩
    generalize arenaE ws rs = E at *
    have d0 : (E != 0) = true := by simpa using hE
    clear hE
    go_wp2
    refine bodyPost_ret (v := .tuple #[.agg #[.slice none 0 0, .slice none 0 0], .int .i64 E]) (by simp [results, Try.results8, go_sem, r0, r1]) rfl (unhide hfin _ ((hbw2.setCell (p := ⟨w.heap.size + 1, 0, none⟩) (by simp) _).setCell (p := ⟨w.heap.size + 1, 1, none⟩) (by simp) _))

end Go.Proofs.Ytjhndbfhiknngaa

/- Walks: the document's Words, Arenas, packed. -/
namespace Go.Proofs.Ytjhndbfhiknngaa
set_option linter.unusedSimpArgs false
set_option linter.unusedVariables false
open Go.RowKit Go.Shelf

set_option maxRecDepth 100000 in
set_option maxHeartbeats 1000000 in
theorem words_eq_c (a1 a2 : Option Addr) (c1 c2 : Nat) (l1 l2 : List Int) (B : Nat) (w : World) (h1 : Wds B w a1 l1) (h2 : Wds B w a2 l2) (hB : B ≤ w.heap.size) :
    Calls Try.prog 17 #[.slice a1 l1.length c1, .slice a2 l2.length c2] w fun e w' => e = .returned (.bool (decide (l1 = l2))) ∧ Below w.heap.size w w' := by
  have hl1 := h1.1
  have hl2 := h2.1
  by_cases hl : l1.length = l2.length
  · have d1 : ((l1.length : Int) != (l2.length : Int)) = false := by simp [hl]
    have d2 : ((l2.length : Int) != (l2.length : Int)) = false := by simp
    rw [hl]
    have Hl := hide hl
    have hle : l1.length ≤ l2.length := by omega
    have hge : l2.length ≤ l1.length := by omega
    clear hl
    go_enter Try.func17, Try.ntmps17
    go_wp2
    go_loopw [5] (fun i wr => ∃ k : Nat, k ≤ l2.length ∧ i = .int .i64 k ∧ Hid (l1.take k = l2.take k) ∧ Below w.heap.size w wr) (fun i _ => l2.length - (intOf i).toNat)
    case atStart => exact ⟨0, Nat.zero_le _, rfl, by show l1.take 0 = l2.take 0; simp, Below.refl _ _⟩
    case round =>
      obtain ⟨k, hk, rfl, Heq, hb⟩ := hrel
      by_cases hlt : k < l2.length
      · have hlt1 : k < l1.length := by omega
        obtain ⟨b1, o1, rfl, hbB1, hx1⟩ := (h1.below (hb.mono hB)).at hlt1
        obtain ⟨b2, o2, rfl, hbB2, hx2⟩ := (h2.below (hb.mono hB)).at hlt
        have hltI : (k : Int) < (l2.length : Int) := by omega
        have HT1 := hide (List.take_succ_eq_append_getElem hlt1)
        have HT2 := hide (List.take_succ_eq_append_getElem hlt)
        have HN : Hid (l1 = l2 → l1[k] = l2[k]) := by intro e; subst e; rfl
        generalize l1[k] = x at *
        generalize l2[k] = y at *
        by_cases hxy : x = y
        · have d : (x != y) = false := by simpa using hxy
          have Hxy := hide hxy
          clear hxy
          go_wp2
          go_still Try.mixed
          go_wp2
          go_roundw
          case rel => exact ⟨k + 1, by omega, by go_num, by show l1.take (k + 1) = _; rw [unhide HT1, unhide HT2, unhide Heq, unhide Hxy], hb.trans (Below.refl _ _).drew⟩
          case measure => simp [intOf]; omega
        · have d : (x != y) = true := by simpa using hxy
          have Hxy := hide hxy
          clear hxy
          go_wp2
          go_still Try.mixed
          go_wp2
          go_ret
          exact ⟨ret_bool (Eq.symm (decide_eq_false (fun e => unhide Hxy (unhide HN e)))), hb.trans (Below.refl _ _).drew⟩
      · obtain rfl : k = l2.length := by omega
        have Hfin : Hid (l1 = l2) := by
          have := unhide Heq
          rw [List.take_length, List.take_of_length_le hle] at this
          exact this
        go_wp2
        go_ret
        exact ⟨ret_bool (Eq.symm (decide_eq_true (unhide Hfin))), hb⟩
  · have d1 : ((l1.length : Int) != (l2.length : Int)) = true := by simp; omega
    go_enter Try.func17, Try.ntmps17
    go_wp2
    go_ret
    exact ⟨ret_bool (Eq.symm (decide_eq_false (fun e => hl (by rw [e])))), Below.refl _ _⟩

set_option maxRecDepth 100000 in
set_option maxHeartbeats 1000000 in
theorem arenas_eq_c (aw ar bw br : Option Addr) (cw cr dw dr : Nat) (ws rs vs us : List Int) (B : Nat) (w : World) (h1 : Wds B w aw ws) (h2 : Wds B w ar rs) (h3 : Wds B w bw vs) (h4 : Wds B w br us) (hB : B ≤ w.heap.size) :
    Calls Try.prog 11 #[.agg #[.slice aw ws.length cw, .slice ar rs.length cr], .agg #[.slice bw vs.length dw, .slice br us.length dr]] w fun e w' => e = .returned (.bool (decide (ws = vs) && decide (rs = us))) ∧ Below w.heap.size w w' := by
  obtain ⟨W0, hW0⟩ : ∃ W0, (w.alloc (.cells #[.slice aw ws.length cw, .slice ar rs.length cr] 24)).alloc (.cells #[.slice bw vs.length dw, .slice br us.length dr] 24) = W0 := ⟨_, rfl⟩
  have hb0 : Below w.heap.size w W0 := by rw [← hW0]; exact ((Below.refl _ _).alloc (Nat.le_refl _) _).alloc (by simp) _
  have hs0 : w.heap.size + 1 < W0.heap.size := by rw [← hW0]; simp
  have g0 : W0.cell? ⟨w.heap.size, 0, none⟩ = some (.slice aw ws.length cw) := by rw [← hW0]; simp [go_sem]
  have g1 : W0.cell? ⟨w.heap.size, 1, none⟩ = some (.slice ar rs.length cr) := by rw [← hW0]; simp [go_sem]
  have k0 : W0.cell? ⟨w.heap.size + 1, 0, none⟩ = some (.slice bw vs.length dw) := by rw [← hW0]; simp [go_sem]
  have k1 : W0.cell? ⟨w.heap.size + 1, 1, none⟩ = some (.slice br us.length dr) := by rw [← hW0]; simp [go_sem]
  have Hc1 := hide (words_eq_c aw bw cw dw ws vs B W0 (h1.below (hb0.mono hB)) (h3.below (hb0.mono hB)) (by omega))
  go_enter Try.func11, Try.ntmps11
  go_wp2_with fail
  refine (unhide Hc1).mono ?_
  rintro e w2 ⟨he, hb2⟩
  subst he
  clear hW0 Hc1
  have hs2 := hb2.size
  have hbw2 : Below w.heap.size w w2 := hb0.trans (hb2.mono (by omega))
  replace g1 := (hb2.cell (p := ⟨w.heap.size, 1, none⟩) (by simp; omega)).trans g1
  replace k1 := (hb2.cell (p := ⟨w.heap.size + 1, 1, none⟩) hs0).trans k1
  cases hd : decide (ws = vs)
  · have Hd := hide hd
    clear hd
    go_wp2
    go_ret
    exact ⟨ret_bool (by have := unhide Hd; simp at this; simp [this]), hbw2⟩
  · have Hd := hide hd
    clear hd
    have Hc2 := hide (words_eq_c ar br cr dr rs us B w2 (h2.below (hbw2.mono hB)) (h4.below (hbw2.mono hB)) (by omega))
    go_wp2_with fail
    refine (unhide Hc2).mono ?_
    rintro e w3 ⟨he, hb3⟩
    subst he
    go_wp2
    go_ret
    exact ⟨ret_bool (by have := unhide Hd; simp at this; simp [this]), hbw2.trans (hb3.mono (by omega))⟩

theorem words_take_succ {l : List V} {st : List Int} {k : Nat} (hk : k < l.length) {x : Int} (h : packV st l[k] = x) : wordsV ((l.map (packV st)).take (k + 1)) = wordsV ((l.map (packV st)).take k) ++ [.int .u64 x] := by
  rw [List.take_succ_eq_append_getElem (by simpa using hk), List.getElem_map, h, wordsV_snoc]

set_option maxRecDepth 100000 in
set_option maxHeartbeats 2000000 in
theorem rpacked_c (a s0 : Option Addr) (cap caps : Nat) (l : List V) (st : List Int) (B : Nat) (w : World) (hV : Vals B w a l) (hS : Ints B w s0 st) (hB : B ≤ w.heap.size) (hl : l.length ≤ 1000)
    (hr : ∀ v ∈ l, v.1 = true → 0 ≤ v.2 ∧ v.2 < st.length) (hst : ∀ x ∈ st, 0 ≤ x ∧ x ≤ 9223372036854775807) (hn : ∀ v ∈ l, v.1 = false → -9223372036854775808 ≤ v.2 ∧ v.2 ≤ 9223372036854775807) (hsl : st.length ≤ 1000) :
    Calls Try.prog 46 #[.slice a l.length cap, .slice s0 st.length caps] w fun e w' => ∃ a' cap', e = .returned (.slice a' (l.map (packV st)).length cap') ∧ WdsF w.heap.size w' a' (l.map (packV st)) ∧ Below w.heap.size w w' := by
  obtain ⟨i0, hi, hz0, hz1, hz2⟩ := info_parts Try.info55
  go_enter Try.func46, Try.ntmps46
  go_wp2
  go_loopw [5, 12] (fun s i wr => ∃ k : Nat, k ≤ l.length ∧ i = .int .i64 k ∧ wr.ownsRow w.heap.size 55 1 s k (wordsV ((l.map (packV st)).take k)) ∧ Below w.heap.size w wr) (fun _ i _ => l.length - (intOf i).toNat)
  case atStart => exact ⟨0, Nat.zero_le _, rfl, by simpa [wordsV] using World.ownsRow_nil _ _ _ _, Below.refl _ _⟩
  case round =>
    obtain ⟨k, hk, rfl, hown, hb⟩ := hrel
    have hsz := hb.size
    by_cases hlt : k < l.length
    · obtain ⟨b, off, r, m, rfl, hbB, hc1, hc2, Hv⟩ := (hV.below (hb.mono hB)).at hlt
      have hmem : (r, m) ∈ l := by rw [← Hv.out]; exact List.getElem_mem hlt
      have HT := hide (fun x h => words_take_succ (st := st) hlt (x := x) h)
      rw [Hv.out] at HT
      cases r
      · have hrng := hn _ hmem rfl
        have HT2 := hide (unhide HT _ packV_num)
        clear HT Hv
        have Hc := hide (rpack_c false m (wr.alloc (.cells #[.bool false, .int .i64 m] 70)) hrng.1 hrng.2)
        go_wp2_with fail
        refine (unhide Hc).mono ?_
        rintro e w3 ⟨he, hb3⟩
        subst he
        simp only [World.size_alloc] at hb3
        have hs3 := hb3.size
        simp only [World.size_alloc] at hs3
        have hown3 := ownsRow_below (hown.alloc (.cells #[.bool false, .int .i64 m] 70)) (by simpa using hb3)
        have hbw3 : Below w.heap.size w w3 := (hb.alloc (by omega) _).trans (hb3.mono (by omega))
        clear hown Hc
        go_wp2_with (at_builtin; go_must (refine wpList_append_own _ rfl _ _ 22 rfl w.heap.size 55 i0 _ 1 8 Try.underlying22 hi hz0 hz1 hz2 rfl (by decide) _ _ _ rfl (hown3.alloc _) ⟨w3.heap.size, 0, none⟩ 1 1 [.int .u64 (packW false m)] rfl rfl (cell_one_at _ _ _ _ (by simp)) (by simp [Value.oneCell']) (by simp only [maxLen]; omega) (by omega) (by simp; omega) ?_); intro v' w1 hown' hgrow _)
        go_roundw
        case rel => exact ⟨k + 1, by omega, by go_num, by rw [unhide HT2]; exact hown', (hbw3.alloc (by omega) _).grown hgrow (by simp; omega) (fun q e => (hown3.lt q e).1)⟩
        case measure => simp [intOf]; omega
      · have hrng := hr _ hmem rfl
        obtain ⟨mn, rfl⟩ := Int.eq_ofNat_of_zero_le hrng.1
        have hmn : mn < st.length := by have := hrng.2; simp at this; omega
        have hxr := hst _ (List.getElem_mem hmn)
        obtain ⟨b2, off2, rfl, hbB2, hx⟩ := (hS.below (hb.mono hB)).at hmn
        have HT2 := hide (unhide HT (packW true st[mn]) (by simp [packV, List.getD_eq_getElem?_getD, hmn]))
        have hmnI : (mn : Int) < (st.length : Int) := by omega
        have hb2w : b2 < wr.heap.size := by omega
        clear HT Hv hrng
        generalize st[mn] = p at *
        have Hc := hide (rpack_c true p (wr.alloc (.cells #[.bool true, .int .i64 p] 70)) (by omega) (by omega))
        go_wp2_with fail
        refine (unhide Hc).mono ?_
        rintro e w3 ⟨he, hb3⟩
        subst he
        simp only [World.size_alloc] at hb3
        have hs3 := hb3.size
        simp only [World.size_alloc] at hs3
        have hown3 := ownsRow_below (hown.alloc (.cells #[.bool true, .int .i64 p] 70)) (by simpa using hb3)
        have hbw3 : Below w.heap.size w w3 := (hb.alloc (by omega) _).trans (hb3.mono (by omega))
        clear hown Hc
        go_wp2_with (at_builtin; go_must (refine wpList_append_own _ rfl _ _ 22 rfl w.heap.size 55 i0 _ 1 8 Try.underlying22 hi hz0 hz1 hz2 rfl (by decide) _ _ _ rfl (hown3.alloc _) ⟨w3.heap.size, 0, none⟩ 1 1 [.int .u64 (packW true p)] rfl rfl (cell_one_at _ _ _ _ (by simp)) (by simp [Value.oneCell']) (by simp only [maxLen]; omega) (by omega) (by simp; omega) ?_); intro v' w1 hown' hgrow _)
        go_roundw
        case rel => exact ⟨k + 1, by omega, by go_num, by rw [unhide HT2]; exact hown', (hbw3.alloc (by omega) _).grown hgrow (by simp; omega) (fun q e => (hown3.lt q e).1)⟩
        case measure => simp [intOf]; omega
    · obtain rfl : k = l.length := by omega
      rw [List.take_of_length_le (by simp)] at hown
      obtain ⟨a', cap', hv, hWF, _⟩ := wordsF_of_owns hown (by simp) (by omega)
      have HW := hide hWF
      clear hWF
      subst hv
      go_wp2
      go_ret
      exact ⟨a', cap', rfl, unhide HW, hb⟩

end Go.Proofs.Ytjhndbfhiknngaa

/- Walks: MarkRoom. -/
namespace Go.Proofs.Ytjhndbfhiknngaa
set_option linter.unusedSimpArgs false
set_option linter.unusedVariables false
open Go.RowKit Go.Shelf

/-- What is wrong with what Mark is asked. -/
def mrkE (ws rs : List Int) (room : Int) : Int := if arenaE ws rs ≠ 0 then arenaE ws rs else if room < 1 ∨ 64 < room then 3 else 0

/-- The arena that Mark tells. -/
def MrkIs (ws rs : List Int) (room : Int) (L R : List Int) : Prop :=
  (mrkE ws rs room ≠ 0 ∧ L = [] ∧ R = []) ∨ (mrkE ws rs room = 0 ∧ 1 ≤ room ∧ room ≤ 64 ∧ R = rs ∧ ∃ hs fs p, Arn hs fs rs ∧ ws = joinW hs fs ∧ (∀ j, p j = true ↔ Rch fs rs j) ∧ L = mW hs fs p)

theorem MrkRes.all {ws rs : List Int} {room : Int} {e : Ending} {W : World} (h : MrkRes ws rs room e W) :
    ∃ a c a' c' L R, e = .returned (.tuple #[.agg #[.slice a L.length c, .slice a' R.length c'], .int .i64 (mrkE ws rs room)]) ∧ Wds W.heap.size W a L ∧ Wds W.heap.size W a' R ∧ L.length ≤ c ∧ Hid (MrkIs ws rs room L R) := by
  rcases h with ⟨hE, rfl⟩ | ⟨hE, hr, rfl⟩ | ⟨hE, h1, h2, hs, fs, p, a, c, a', c', hA, hw, hp, rfl, hW, hc, hR⟩
  · have e : mrkE ws rs room = arenaE ws rs := by rw [mrkE, if_pos hE]
    exact ⟨none, 0, none, 0, [], [], by rw [e]; rfl, wds_nil rfl, wds_nil rfl, by simp, hide (.inl ⟨by rw [e]; exact hE, rfl, rfl⟩)⟩
  · have e : mrkE ws rs room = 3 := by rw [mrkE, if_neg (by simp [hE]), if_pos hr]
    exact ⟨none, 0, none, 0, [], [], by rw [e]; rfl, wds_nil rfl, wds_nil rfl, by simp, hide (.inl ⟨by rw [e]; omega, rfl, rfl⟩)⟩
  · have e : mrkE ws rs room = 0 := by rw [mrkE, if_neg (by simp [hE]), if_neg (by omega)]
    exact ⟨a, c, a', c', mW hs fs p, rs, by rw [e], hW, hR, hc, hide (.inr ⟨e, h1, h2, rfl, hs, fs, p, hA, hw, hp, rfl⟩)⟩

theorem arn_uniq {hs hs' : List Int} {fs fs' : List (List Int)} {rs rs' : List Int} (h : Arn hs fs rs) (h' : Arn hs' fs' rs') (e : joinW hs fs = joinW hs' fs') : hs = hs' ∧ fs = fs' := by
  have hf : fs = fs' := by
    have h1 := fit_split h.fit
    rw [e, fit_split h'.fit] at h1
    injection h1 with h1
    exact h1.symm
  subst hf
  refine ⟨?_, rfl⟩
  apply List.ext_getElem?
  intro k
  by_cases hk : k < fs.length
  · rw [← joinW_get hs fs k h.fit.len hk, e, joinW_get hs' fs k h'.fit.len hk]
  · rw [List.getElem?_eq_none (by have := h.fit.len; omega), List.getElem?_eq_none (by have := h'.fit.len; omega)]

theorem bool_fn_eq {p q : Nat → Bool} {R : Nat → Prop} (h1 : ∀ j, p j = true ↔ R j) (h2 : ∀ j, q j = true ↔ R j) : p = q := by
  funext j
  rw [Bool.eq_iff_iff, h1, h2]

/-- However little is kept in mind, the same is marked. -/
theorem MrkIs.same {ws rs : List Int} {r s : Int} {L R L' R' : List Int} (h : MrkIs ws rs r L R) (h' : MrkIs ws rs s L' R') (e : mrkE ws rs r = 0) (e' : mrkE ws rs s = 0) : L = L' ∧ R = R' ∧ L.length = ws.length := by
  rcases h with h | ⟨_, _, _, rfl, hs, fs, p, hA, hw, hp, rfl⟩
  · exact absurd e h.1
  rcases h' with h | ⟨_, _, _, rfl, hs', fs', p', hA', hw', hp', rfl⟩
  · exact absurd e' h.1
  obtain ⟨rfl, rfl⟩ := arn_uniq hA hA' (hw.symm.trans hw')
  rw [bool_fn_eq hp hp']
  exact ⟨rfl, rfl, by rw [hw, mW_len hA.fit, joinW_len _ _ hA.fit.len]⟩

set_option maxRecDepth 100000 in
set_option maxHeartbeats 2000000 in
theorem room_c (aw ar : Option Addr) (cw cr : Nat) (ws rs : List Int) (r s : Int) (w : World) (hW : Wds w.heap.size w aw ws) (hR : Wds w.heap.size w ar rs) (hUW : U64 ws) (hUR : U64 rs) (hcap : ws.length ≤ cw) :
    Calls Try.prog 4 #[.agg #[.slice aw ws.length cw, .slice ar rs.length cr], .int .i64 r, .int .i64 s] w fun e w' => e = .returned (.bool true) ∧ Below w.heap.size w w' := by
  obtain ⟨W1, hW1⟩ : ∃ W1, w.alloc (.cells #[.slice aw ws.length cw, .slice ar rs.length cr] 24) = W1 := ⟨_, rfl⟩
  have hb1 : Below w.heap.size w W1 := by rw [← hW1]; exact (Below.refl w.heap.size w).alloc (Nat.le_refl _) _
  have hs1 : w.heap.size < W1.heap.size := by rw [← hW1]; simp
  have g0 : W1.cell? ⟨w.heap.size, 0, none⟩ = some (.slice aw ws.length cw) := by rw [← hW1]; simp [go_sem]
  have g1 : W1.cell? ⟨w.heap.size, 1, none⟩ = some (.slice ar rs.length cr) := by rw [← hW1]; simp [go_sem]
  have Hc1 := hide (sound_c aw ar cw cr ws rs w.heap.size W1 (hW.below hb1) (hR.below hb1) hUW hUR (by omega))
  go_enter Try.func4, Try.ntmps4
  go_wp2_with fail
  refine (unhide Hc1).mono ?_
  rintro e w2 ⟨rfl, hb2⟩
  clear hW1 Hc1
  have hs2 := hb2.size
  have hbw2 : Below w.heap.size w w2 := hb1.trans (hb2.mono (by omega))
  replace g0 := (hb2.cell (p := ⟨w.heap.size, 0, none⟩) hs1).trans g0
  replace g1 := (hb2.cell (p := ⟨w.heap.size, 1, none⟩) hs1).trans g1
  by_cases hE : arenaE ws rs = 0
  · have d0 : (arenaE ws rs == 0) = true := by simp [hE]
    rw [d0]
    have HE := hide hE
    have Hc2 := hide (mark_c aw ar cw cr ws rs r w.heap.size w2 (hW.below hbw2) (hR.below hbw2) hUW hUR (by omega) hcap)
    clear hb1 hb2 hE d0
    go_wp2_with fail
    refine (unhide Hc2).mono ?_
    rintro e w3 ⟨hres, hb3⟩
    obtain ⟨ba, bc, ba', bc', BL, BR, he, hBL, hBR, hbc, HB⟩ := hres.all
    subst he
    have hs3 := hb3.size
    have hbw3 : Below w.heap.size w w3 := hbw2.trans (hb3.mono (by omega))
    obtain ⟨W3, hW3⟩ : ∃ W3, w3.alloc (.cells #[.slice ba BL.length bc, .slice ba' BR.length bc'] 24) = W3 := ⟨_, rfl⟩
    have hb3' : Below w3.heap.size w3 W3 := by rw [← hW3]; exact (Below.refl _ w3).alloc (Nat.le_refl _) _
    have hs3' : w3.heap.size < W3.heap.size := by rw [← hW3]; simp
    have k0 : W3.cell? ⟨w3.heap.size, 0, none⟩ = some (.slice ba BL.length bc) := by rw [← hW3]; simp [go_sem]
    have k1 : W3.cell? ⟨w3.heap.size, 1, none⟩ = some (.slice ba' BR.length bc') := by rw [← hW3]; simp [go_sem]
    replace g0 := (hb3'.cell (p := ⟨w.heap.size, 0, none⟩) (by simp; omega)).trans ((hb3.cell (p := ⟨w.heap.size, 0, none⟩) (by simp; omega)).trans g0)
    replace g1 := (hb3'.cell (p := ⟨w.heap.size, 1, none⟩) (by simp; omega)).trans ((hb3.cell (p := ⟨w.heap.size, 1, none⟩) (by simp; omega)).trans g1)
    have hbW3 : Below w.heap.size w W3 := hbw3.trans (hb3'.mono (by omega))
    have hwW3 : w.heap.size < W3.heap.size := by omega
    have Hc3 := hide (mark_c aw ar cw cr ws rs s w.heap.size W3 (hW.below hbW3) (hR.below hbW3) hUW hUR (by omega) hcap)
    have HBL := hide ((hBL.below hb3').mono (Nat.le_of_lt hs3'))
    have HBR := hide ((hBR.below hb3').mono (Nat.le_of_lt hs3'))
    generalize hE1 : mrkE ws rs r = E1 at *
    have HE1 := hide hE1
    clear Hc2 hres hBL hBR hE1 hb3 hbw3
    go_wp2_with fail
    refine (unhide Hc3).mono ?_
    rintro e w4 ⟨hres, hb4⟩
    obtain ⟨ca, cc, ca', cc', CL, CR, he, hCL, hCR, hcc, HC⟩ := hres.all
    subst he
    have hs4 := hb4.size
    have hbw4 : Below w.heap.size w w4 := hbW3.trans (hb4.mono (by omega))
    obtain ⟨W4, hW4⟩ : ∃ W4, w4.alloc (.cells #[.slice ca CL.length cc, .slice ca' CR.length cc'] 24) = W4 := ⟨_, rfl⟩
    have hb4' : Below w4.heap.size w4 W4 := by rw [← hW4]; exact (Below.refl _ w4).alloc (Nat.le_refl _) _
    have hs4' : w4.heap.size < W4.heap.size := by rw [← hW4]; simp
    have m0 : W4.cell? ⟨w4.heap.size, 0, none⟩ = some (.slice ca CL.length cc) := by rw [← hW4]; simp [go_sem]
    have m1 : W4.cell? ⟨w4.heap.size, 1, none⟩ = some (.slice ca' CR.length cc') := by rw [← hW4]; simp [go_sem]
    replace k0 := (hb4'.cell (p := ⟨w3.heap.size, 0, none⟩) (by simp; omega)).trans ((hb4.cell (p := ⟨w3.heap.size, 0, none⟩) (by simp; omega)).trans k0)
    replace k1 := (hb4'.cell (p := ⟨w3.heap.size, 1, none⟩) (by simp; omega)).trans ((hb4.cell (p := ⟨w3.heap.size, 1, none⟩) (by simp; omega)).trans k1)
    replace g0 := (hb4'.cell (p := ⟨w.heap.size, 0, none⟩) (by simp; omega)).trans ((hb4.cell (p := ⟨w.heap.size, 0, none⟩) (by simp; omega)).trans g0)
    have hbW4 : Below w.heap.size w W4 := hbw4.trans (hb4'.mono (by omega))
    have hwW4 : w.heap.size < W4.heap.size := by omega
    have hwW3' : w3.heap.size < W4.heap.size := by omega
    have hb34 : Below W3.heap.size W3 W4 := hb4.trans (hb4'.mono hs4)
    have Hc4 := hide (arenas_eq_c ba ba' ca ca' bc bc' cc cc' BL BR CL CR W4.heap.size W4 (((unhide HBL).below hb34).mono (by omega)) (((unhide HBR).below hb34).mono (by omega)) ((hCL.below hb4').mono (by omega)) ((hCR.below hb4').mono (by omega)) (Nat.le_refl _))
    generalize hE2 : mrkE ws rs s = E2 at *
    have HE2 := hide hE2
    have Hbad : Hid ((r < 1 ∨ s < 1 ∨ 64 < r ∨ 64 < s) → (E1 != 0) = false → (E2 != 0) = true) := fun h h1 => by
      have h1' : E1 = 0 := by simpa using h1
      have b1 : ¬ (r < 1 ∨ 64 < r) := fun h => by
        have := unhide HE1
        rw [mrkE, if_neg (by simp [unhide HE]), if_pos h] at this
        omega
      have b2 : s < 1 ∨ 64 < s := by omega
      have := unhide HE2
      rw [mrkE, if_neg (by simp [unhide HE]), if_pos b2] at this
      simp; omega
    have Hgood : Hid (¬ (r < 1 ∨ s < 1 ∨ 64 < r ∨ 64 < s) → E1 = 0 ∧ E2 = 0 ∧ BL = CL ∧ BR = CR ∧ BL.length = ws.length) := fun h => by
      have e1 : E1 = 0 := by rw [← unhide HE1, mrkE, if_neg (by simp [unhide HE]), if_neg (by omega)]
      have e2 : E2 = 0 := by rw [← unhide HE2, mrkE, if_neg (by simp [unhide HE]), if_neg (by omega)]
      have := (unhide HB).same (unhide HC) ((unhide HE1).trans e1) ((unhide HE2).trans e2)
      exact ⟨e1, e2, this.1, this.2.1, this.2.2⟩
    clear Hc3 hres hCL hCR hE2 hb4 hbw4 HBL HBR hb4' hb34 HB HC hW3 hb3'
    by_cases hbad : r < 1 ∨ s < 1 ∨ 64 < r ∨ 64 < s
    · have Hbad1 := hide (unhide Hbad hbad)
      clear Hbad Hgood Hc4 HE1 HE2
      by_cases c1 : r < 1
      · have d1 : decide (r < 1) = true := by simpa using c1
        cases h1 : (E1 != 0)
        · have h2 := unhide Hbad1 h1
          go_wp2
          go_ret
          exact ⟨rfl, hbW4⟩
        · go_wp2
          go_ret
          exact ⟨rfl, hbW4⟩
      · have d1 : decide (r < 1) = false := by simpa using c1
        by_cases c2 : s < 1
        · have d2 : decide (s < 1) = true := by simpa using c2
          cases h1 : (E1 != 0)
          · have h2 := unhide Hbad1 h1
            go_wp2
            go_ret
            exact ⟨rfl, hbW4⟩
          · go_wp2
            go_ret
            exact ⟨rfl, hbW4⟩
        · have d2 : decide (s < 1) = false := by simpa using c2
          by_cases c3 : 64 < r
          · have d3 : decide (r > 64) = true := by simpa using c3
            have d3' : decide (64 < r) = true := by simpa using c3
            cases h1 : (E1 != 0)
            · have h2 := unhide Hbad1 h1
              go_wp2
              go_ret
              exact ⟨rfl, hbW4⟩
            · go_wp2
              go_ret
              exact ⟨rfl, hbW4⟩
          · have d3 : decide (r > 64) = false := by simpa using c3
            have d3' : decide (64 < r) = false := by simpa using c3
            have c4 : 64 < s := by omega
            have d4 : decide (s > 64) = true := by simpa using c4
            have d4' : decide (64 < s) = true := by simpa using c4
            cases h1 : (E1 != 0)
            · have h2 := unhide Hbad1 h1
              go_wp2
              go_ret
              exact ⟨rfl, hbW4⟩
            · go_wp2
              go_ret
              exact ⟨rfl, hbW4⟩
    · obtain ⟨e1, e2, hbl, hbr, hlen⟩ := unhide Hgood hbad
      subst e1 e2 hbl hbr
      have d1 : decide (r < 1) = false := by simp; omega
      have d2 : decide (s < 1) = false := by simp; omega
      have d3 : decide (r > 64) = false := by simp; omega
      have d3' : decide (64 < r) = false := by simp; omega
      have d4 : decide (s > 64) = false := by simp; omega
      have d4' : decide (64 < s) = false := by simp; omega
      have dd : (decide (BL = BL) && decide (BR = BR)) = true := by simp
      rw [dd] at Hc4
      rw [hlen] at k0 m0 Hc4 hW4 ⊢
      clear Hbad Hgood HE1 HE2 hbad hlen
      go_wp2_with fail
      refine (unhide Hc4).mono ?_
      rintro e w5 ⟨he, hb5⟩
      subst he
      have hs5 := hb5.size
      replace k0 := (hb5.cell (p := ⟨w3.heap.size, 0, none⟩) (by simp; omega)).trans k0
      replace g0 := (hb5.cell (p := ⟨w.heap.size, 0, none⟩) (by simp; omega)).trans g0
      have hw5 : w.heap.size < w5.heap.size := by omega
      have hw5' : w3.heap.size < w5.heap.size := by omega
      clear Hc4
      go_wp2
      go_ret
      exact ⟨ret_bool (by simp), hbW4.trans (hb5.mono (by omega))⟩
  · have d0 : (arenaE ws rs == 0) = false := by simp [hE]
    have HE := hide hE
    rw [d0]
    have Hc2 := hide (unsound_c aw ar cw cr ws rs w.heap.size w2 (hW.below hbw2) (hR.below hbw2) hUW hUR (by omega) hcap)
    clear hE
    go_wp2_with fail
    refine (unhide Hc2).mono ?_
    rintro e w3 ⟨he, hb3⟩
    have d3 : (arenaE ws rs != 0) = true := by simpa using unhide HE
    rw [d3] at he
    subst he
    go_wp2
    go_ret
    exact ⟨rfl, hbw2.trans (hb3.mono (by omega))⟩

end Go.Proofs.Ytjhndbfhiknngaa
