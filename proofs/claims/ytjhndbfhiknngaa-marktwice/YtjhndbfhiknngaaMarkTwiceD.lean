/- Merged texts: Mp Fa Mq Sb Wb Xb Sh Si Sj Na Pa Pb Pc Pd Fb Pe. -/
import Derived.Test.YtjhndbfhiknngaaProg
import Derived.Test.YtjhndbfhiknngaaMarkTwiceC
import Derived.Maps.AppendAt
import Derived.RegionTactic
import Derived.BigQuiet

/- Walks: Mark. -/
namespace Go.Proofs.Ytjhndbfhiknngaa
set_option linter.unusedSimpArgs false
set_option linter.unusedVariables false
open Go.RowKit Go.Shelf

/-- What Mark tells of an arena that may be, and a room that may be. -/
def MrkOk (ws rs : List Int) (e : Ending) (W : World) : Prop :=
  ∃ hs fs p a c a' c', Arn hs fs rs ∧ ws = joinW hs fs ∧ (∀ j, p j = true ↔ Rch fs rs j) ∧ e = .returned (.tuple #[.agg #[.slice a (mW hs fs p).length c, .slice a' rs.length c'], .int .i64 0]) ∧ Wds W.heap.size W a (mW hs fs p) ∧ (mW hs fs p).length ≤ c ∧ Wds W.heap.size W a' rs

/-- What Mark tells. -/
def MrkRes (ws rs : List Int) (room : Int) (e : Ending) (W : World) : Prop :=
  (arenaE ws rs ≠ 0 ∧ e = .returned (.tuple #[.agg #[.slice none 0 0, .slice none 0 0], .int .i64 (arenaE ws rs)])) ∨
  (arenaE ws rs = 0 ∧ (room < 1 ∨ 64 < room) ∧ e = .returned (.tuple #[.agg #[.slice none 0 0, .slice none 0 0], .int .i64 3])) ∨
  (arenaE ws rs = 0 ∧ 1 ≤ room ∧ room ≤ 64 ∧ MrkOk ws rs e W)

theorem row_wds {w : World} {N mb : Nat} {l : List Int} {v u : Value} {off : Nat} (h : w.ownsRow N 55 1 v l.length (wordsV l)) (hl : l.length ≤ 256) (hb : mb < N) : ∃ a c, v = .slice a l.length c ∧ Wds w.heap.size w a l ∧ l.length ≤ c ∧ Hid (∀ b o, a = some ⟨b, o, none⟩ → N ≤ b) := by
  obtain ⟨a, c, hv, hW, hn⟩ := words_of_owns h rfl (by omega)
  refine ⟨a, c, hv, hW, ?_, hn⟩
  rcases h.2 with ⟨_, h0⟩ | ⟨g, cap', cur, hv', h1, h2, h3, h4, h5, h6⟩
  · omega
  · rw [hv] at hv'; injection hv' with _ _ e; omega

theorem wds_set {B N : Nat} {w : World} {a : Option Addr} {l : List Int} (h : Wds B w a l) (hn : Hid (∀ b o, a = some ⟨b, o, none⟩ → N ≤ b)) {p : Addr} (hp : p.block < N) (u : Value) : Wds B (w.setCell p u) a l := by
  refine ⟨h.1, fun hne => ?_⟩
  obtain ⟨b, off, rfl, hB, hc⟩ := h.2 hne
  have := unhide hn b off rfl
  refine ⟨b, off, rfl, hB, fun k v hk => ?_⟩
  rw [World.cell?_of_block (a := ⟨b, off + k, none⟩) (Below.heap_setCell _ _ _ _ (by show b ≠ _; omega))]
  exact hc k v hk

set_option maxRecDepth 100000 in
set_option maxHeartbeats 2000000 in
theorem mark_c (aw ar : Option Addr) (cw cr : Nat) (ws rs : List Int) (room : Int) (B : Nat) (w : World) (hW : Wds B w aw ws) (hR : Wds B w ar rs) (hUW : U64 ws) (hUR : U64 rs) (hB : B ≤ w.heap.size) (hcap : ws.length ≤ cw) :
    Calls Try.prog 8 #[.agg #[.slice aw ws.length cw, .slice ar rs.length cr], .int .i64 room] w fun e w' => MrkRes ws rs room e w' ∧ Below w.heap.size w w' := by
  obtain ⟨W1, hW1⟩ : ∃ W1, (w.alloc (.cells #[.slice aw ws.length cw, .slice ar rs.length cr] 24)).alloc (.cells #[.slice none 0 0, .slice none 0 0] 24) = W1 := ⟨_, rfl⟩
  have hb1 : Below w.heap.size w W1 := by rw [← hW1]; exact ((Below.refl w.heap.size w).alloc (Nat.le_refl _) _).alloc (by simp) _
  have hs1 : w.heap.size + 1 < W1.heap.size := by rw [← hW1]; simp
  have g0 : W1.cell? ⟨w.heap.size, 0, none⟩ = some (.slice aw ws.length cw) := by rw [← hW1]; simp [go_sem]
  have g1 : W1.cell? ⟨w.heap.size, 1, none⟩ = some (.slice ar rs.length cr) := by rw [← hW1]; simp [go_sem]
  have r0 : W1.cell? ⟨w.heap.size + 1, 0, none⟩ = some (.slice none 0 0) := by rw [← hW1]; simp [go_sem]
  have r1 : W1.cell? ⟨w.heap.size + 1, 1, none⟩ = some (.slice none 0 0) := by rw [← hW1]; simp [go_sem]
  have z0 : W1.frozen? ⟨w.heap.size + 1, 0, none⟩ = false := by rw [← hW1]; simp [go_sem]
  have z1 : W1.frozen? ⟨w.heap.size + 1, 1, none⟩ = false := by rw [← hW1]; simp [go_sem]
  have Hc1 := hide (acheck_c aw ar cw cr ws rs B W1 (hW.below (hb1.mono hB)) (hR.below (hb1.mono hB)) hUW hUR (by omega) hcap)
  go_enter Try.func8, Try.ntmps8
  go_wp2_with fail
  refine (unhide Hc1).mono ?_
  rintro e w2 ⟨rfl, hb2⟩
  clear hW1 Hc1
  have hs2 := hb2.size
  have hbw2 : Below w.heap.size w w2 := hb1.trans (hb2.mono (by omega))
  replace g0 := (hb2.cell (p := ⟨w.heap.size, 0, none⟩) (by simp; omega)).trans g0
  replace g1 := (hb2.cell (p := ⟨w.heap.size, 1, none⟩) (by simp; omega)).trans g1
  replace r0 := (hb2.cell (p := ⟨w.heap.size + 1, 0, none⟩) hs1).trans r0
  replace r1 := (hb2.cell (p := ⟨w.heap.size + 1, 1, none⟩) hs1).trans r1
  replace z0 := (hb2.frozen (p := ⟨w.heap.size + 1, 0, none⟩) hs1).trans z0
  replace z1 := (hb2.frozen (p := ⟨w.heap.size + 1, 1, none⟩) hs1).trans z1
  have hl2 : w.heap.size + 1 < w2.heap.size := by omega
  have hl2' : w.heap.size < w2.heap.size := by omega
  clear hb1 hb2
  by_cases hE : arenaE ws rs = 0
  · by_cases hr : room < 1 ∨ 64 < room
    · have HE := hide hE
      have Hr := hide hr
      rw [hE]
      have hfin : Hid (∀ W, Below w.heap.size w W → MrkRes ws rs room (.returned (.tuple #[.agg #[.slice none 0 0, .slice none 0 0], .int .i64 3])) W ∧ Below w.heap.size w W) := fun W h => ⟨.inr (.inl ⟨unhide HE, unhide Hr, rfl⟩), h⟩
      clear hE
      rcases hr with hr | hr
      · have d1 : decide (room < 1) = true := by simpa using hr
        go_wp2
        refine bodyPost_ret (v := .tuple #[.agg #[.slice none 0 0, .slice none 0 0], .int .i64 3]) (by simp [results, Try.results8, go_sem, r0, r1]) rfl (unhide hfin _ ((hbw2.setCell (p := ⟨w.heap.size + 1, 0, none⟩) (by simp) _).setCell (p := ⟨w.heap.size + 1, 1, none⟩) (by simp) _))
      · have d1 : decide (room < 1) = false := by simp; omega
        have d2 : decide (room > 64) = true := by simp; omega
        have d3 : decide (64 < room) = true := by simp; omega
        go_wp2
        refine bodyPost_ret (v := .tuple #[.agg #[.slice none 0 0, .slice none 0 0], .int .i64 3]) (by simp [results, Try.results8, go_sem, r0, r1]) rfl (unhide hfin _ ((hbw2.setCell (p := ⟨w.heap.size + 1, 0, none⟩) (by simp) _).setCell (p := ⟨w.heap.size + 1, 1, none⟩) (by simp) _))
    · obtain ⟨rN, rfl⟩ := Int.eq_ofNat_of_zero_le (show 0 ≤ room by omega)
      have hr1 : 1 ≤ rN := by omega
      have hr2 : rN ≤ 64 := by omega
      obtain ⟨hs, fs, hA, hws⟩ := arn_of hUW hUR hE
      have hjl : tot fs = ws.length := by rw [hws, joinW_len _ _ hA.fit.len]
      have HA := hide hA
      have Hws := hide hws
      have HE := hide hE
      rw [hE]
      have Hc2 : Hid (Calls Try.prog 27 #[.agg #[.slice aw ws.length cw, .slice ar rs.length cr], .int .i64 (rN : Nat)] w2 fun e w' => NmRes w2.heap.size hs fs rs rN e w' ∧ Below w2.heap.size w2 w') := by
        have := newMarker_c aw ar cw cr hs fs rs rN w2 hA hr1 hr2 (by rw [← hws]; exact (hW.below (hbw2.mono hB)).mono (by omega)) ((hR.below (hbw2.mono hB)).mono (by omega))
        rw [hjl] at this
        exact this
      have d1 : decide ((rN : Int) < 1) = false := by simp; omega
      have d2 : decide ((rN : Int) > 64) = false := by simp; omega
      have d3 : decide (64 < (rN : Int)) = false := by simp; omega
      clear hE hr hA hws hjl
      go_wp2_with fail
      refine (unhide Hc2).mono ?_
      rintro e w3 ⟨⟨mb, vw, vr, he, hM3⟩, hb3⟩
      subst he
      have Hc3 := hide (markAll_c hs fs rs w2.heap.size mb vw vr rN w3 hM3 (unhide HA) hr1 hr2)
      clear hM3 Hc2
      go_wp2_with fail
      refine (unhide Hc3).mono ?_
      rintro e w4 ⟨⟨he, p, ⟨vk, hM4⟩, hp4⟩, hb4, _⟩
      subst he
      have hs3 := hb3.size
      have hs4 := hb4.size
      have hb34 : Below w2.heap.size w2 w4 := hb3.trans hb4
      have hbw4 : Below w.heap.size w w4 := hbw2.trans (hb34.mono (by omega))
      replace r0 := (hb34.cell (p := ⟨w.heap.size + 1, 0, none⟩) hl2).trans r0
      replace r1 := (hb34.cell (p := ⟨w.heap.size + 1, 1, none⟩) hl2).trans r1
      replace z0 := (hb34.frozen (p := ⟨w.heap.size + 1, 0, none⟩) hl2).trans z0
      replace z1 := (hb34.frozen (p := ⟨w.heap.size + 1, 1, none⟩) hl2).trans z1
      have hml := mW_len (unhide HA).fit p
      obtain ⟨wa, wc, hvw, hWw, hwc, hwn⟩ := row_wds (mb := 0) (u := .bool true) (off := 0) hM4.wo (by rw [hml]; exact (unhide HA).n256) (by omega)
      obtain ⟨ra, rc, hvr, hWr, _, hrn⟩ := row_wds (mb := 0) (u := .bool true) (off := 0) hM4.ro (by have := (unhide HA).n8; omega) (by omega)
      subst hvw hvr
      have q0 := hM4.box.c0
      have q1 := hM4.box.c1
      have hlm := hM4.box.lt
      have hl4 : w.heap.size + 1 < w4.heap.size := by omega
      have hmb : w2.heap.size ≤ mb := hM4.lo
      have Hfin : Hid (∀ W, W = (w4.setCell ⟨w.heap.size + 1, 0, none⟩ (.slice wa (mW hs fs p).length wc)).setCell ⟨w.heap.size + 1, 1, none⟩ (.slice ra rs.length rc) → MrkRes ws rs (rN : Int) (.returned (.tuple #[.agg #[.slice wa (mW hs fs p).length wc, .slice ra rs.length rc], .int .i64 0])) W ∧ Below w.heap.size w W) := fun W h => by
        subst h
        have hsz : ((w4.setCell ⟨w.heap.size + 1, 0, none⟩ (.slice wa (mW hs fs p).length wc)).setCell ⟨w.heap.size + 1, 1, none⟩ (.slice ra rs.length rc)).heap.size = w4.heap.size := by simp [World.setCell]
        refine ⟨.inr (.inr ⟨unhide HE, by omega, by omega, hs, fs, p, wa, wc, ra, rc, unhide HA, unhide Hws, hp4, rfl, ?_, hwc, ?_⟩), (hbw4.setCell (p := ⟨w.heap.size + 1, 0, none⟩) (by simp) _).setCell (p := ⟨w.heap.size + 1, 1, none⟩) (by simp) _⟩
        · rw [hsz]; exact wds_set (wds_set hWw hwn (by show w.heap.size + 1 < _; omega) _) hwn (by show w.heap.size + 1 < _; omega) _
        · rw [hsz]; exact wds_set (wds_set hWr hrn (by show w.heap.size + 1 < _; omega) _) hrn (by show w.heap.size + 1 < _; omega) _
      clear hM4 hp4 hml hWw hWr hwn hrn Hc3 hb3 hb4 hb34 hwc
      generalize (mW hs fs p).length = n at *
      go_wp2
      exact bodyPost_ret (v := .tuple #[.agg #[.slice wa n wc, .slice ra rs.length rc], .int .i64 0]) (by simp [results, Try.results8, go_sem, r0, r1]) rfl (unhide Hfin _ rfl)
  · have HE := hide hE
    have hfin : Hid (∀ W, Below w.heap.size w W → MrkRes ws rs room (.returned (.tuple #[.agg #[.slice none 0 0, .slice none 0 0], .int .i64 (arenaE ws rs)])) W ∧ Below w.heap.size w W) := fun W h => ⟨.inl ⟨unhide HE, rfl⟩, h⟩
    generalize arenaE ws rs = E at *
    have d0 : (E != 0) = true := by simpa using hE
    clear hE
    go_wp2
    refine bodyPost_ret (v := .tuple #[.agg #[.slice none 0 0, .slice none 0 0], .int .i64 E]) (by simp [results, Try.results8, go_sem, r0, r1]) rfl (unhide hfin _ ((hbw2.setCell (p := ⟨w.heap.size + 1, 0, none⟩) (by simp) _).setCell (p := ⟨w.heap.size + 1, 1, none⟩) (by simp) _))

end Go.Proofs.Ytjhndbfhiknngaa

/- Walks: the document's Words, Arenas, packed. -/
namespace Go.Proofs.Ytjhndbfhiknngaa
set_option linter.unusedSimpArgs false
set_option linter.unusedVariables false
open Go.RowKit Go.Shelf

set_option maxRecDepth 100000 in
set_option maxHeartbeats 1000000 in
theorem words_eq_c (a1 a2 : Option Addr) (c1 c2 : Nat) (l1 l2 : List Int) (B : Nat) (w : World) (h1 : Wds B w a1 l1) (h2 : Wds B w a2 l2) (hB : B ≤ w.heap.size) :
    Calls Try.prog 17 #[.slice a1 l1.length c1, .slice a2 l2.length c2] w fun e w' => e = .returned (.bool (decide (l1 = l2))) ∧ Below w.heap.size w w' := by
  have hl1 := h1.1
  have hl2 := h2.1
  by_cases hl : l1.length = l2.length
  · have d1 : ((l1.length : Int) != (l2.length : Int)) = false := by simp [hl]
    have d2 : ((l2.length : Int) != (l2.length : Int)) = false := by simp
    rw [hl]
    have Hl := hide hl
    have hle : l1.length ≤ l2.length := by omega
    have hge : l2.length ≤ l1.length := by omega
    clear hl
    go_enter Try.func17, Try.ntmps17
    go_wp2
    go_loopw [5] (fun i wr => ∃ k : Nat, k ≤ l2.length ∧ i = .int .i64 k ∧ Hid (l1.take k = l2.take k) ∧ Below w.heap.size w wr) (fun i _ => l2.length - (intOf i).toNat)
    case atStart => exact ⟨0, Nat.zero_le _, rfl, by show l1.take 0 = l2.take 0; simp, Below.refl _ _⟩
    case round =>
      obtain ⟨k, hk, rfl, Heq, hb⟩ := hrel
      by_cases hlt : k < l2.length
      · have hlt1 : k < l1.length := by omega
        obtain ⟨b1, o1, rfl, hbB1, hx1⟩ := (h1.below (hb.mono hB)).at hlt1
        obtain ⟨b2, o2, rfl, hbB2, hx2⟩ := (h2.below (hb.mono hB)).at hlt
        have hltI : (k : Int) < (l2.length : Int) := by omega
        have HT1 := hide (List.take_succ_eq_append_getElem hlt1)
        have HT2 := hide (List.take_succ_eq_append_getElem hlt)
        have HN : Hid (l1 = l2 → l1[k] = l2[k]) := by intro e; subst e; rfl
        generalize l1[k] = x at *
        generalize l2[k] = y at *
        by_cases hxy : x = y
        · have d : (x != y) = false := by simpa using hxy
          have Hxy := hide hxy
          clear hxy
          go_wp2
          go_still Try.mixed
          go_wp2
          go_roundw
          case rel => exact ⟨k + 1, by omega, by go_num, by show l1.take (k + 1) = _; rw [unhide HT1, unhide HT2, unhide Heq, unhide Hxy], hb.trans (Below.refl _ _).drew⟩
          case measure => simp [intOf]; omega
        · have d : (x != y) = true := by simpa using hxy
          have Hxy := hide hxy
          clear hxy
          go_wp2
          go_still Try.mixed
          go_wp2
          go_ret
          exact ⟨ret_bool (Eq.symm (decide_eq_false (fun e => unhide Hxy (unhide HN e)))), hb.trans (Below.refl _ _).drew⟩
      · obtain rfl : k = l2.length := by omega
        have Hfin : Hid (l1 = l2) := by
          have := unhide Heq
          rw [List.take_length, List.take_of_length_le hle] at this
          exact this
        go_wp2
        go_ret
        exact ⟨ret_bool (Eq.symm (decide_eq_true (unhide Hfin))), hb⟩
  · have d1 : ((l1.length : Int) != (l2.length : Int)) = true := by simp; omega
    go_enter Try.func17, Try.ntmps17
    go_wp2
    go_ret
    exact ⟨ret_bool (Eq.symm (decide_eq_false (fun e => hl (by rw [e])))), Below.refl _ _⟩

set_option maxRecDepth 100000 in
set_option maxHeartbeats 1000000 in
theorem arenas_eq_c (aw ar bw br : Option Addr) (cw cr dw dr : Nat) (ws rs vs us : List Int) (B : Nat) (w : World) (h1 : Wds B w aw ws) (h2 : Wds B w ar rs) (h3 : Wds B w bw vs) (h4 : Wds B w br us) (hB : B ≤ w.heap.size) :
    Calls Try.prog 11 #[.agg #[.slice aw ws.length cw, .slice ar rs.length cr], .agg #[.slice bw vs.length dw, .slice br us.length dr]] w fun e w' => e = .returned (.bool (decide (ws = vs) && decide (rs = us))) ∧ Below w.heap.size w w' := by
  obtain ⟨W0, hW0⟩ : ∃ W0, (w.alloc (.cells #[.slice aw ws.length cw, .slice ar rs.length cr] 24)).alloc (.cells #[.slice bw vs.length dw, .slice br us.length dr] 24) = W0 := ⟨_, rfl⟩
  have hb0 : Below w.heap.size w W0 := by rw [← hW0]; exact ((Below.refl _ _).alloc (Nat.le_refl _) _).alloc (by simp) _
  have hs0 : w.heap.size + 1 < W0.heap.size := by rw [← hW0]; simp
  have g0 : W0.cell? ⟨w.heap.size, 0, none⟩ = some (.slice aw ws.length cw) := by rw [← hW0]; simp [go_sem]
  have g1 : W0.cell? ⟨w.heap.size, 1, none⟩ = some (.slice ar rs.length cr) := by rw [← hW0]; simp [go_sem]
  have k0 : W0.cell? ⟨w.heap.size + 1, 0, none⟩ = some (.slice bw vs.length dw) := by rw [← hW0]; simp [go_sem]
  have k1 : W0.cell? ⟨w.heap.size + 1, 1, none⟩ = some (.slice br us.length dr) := by rw [← hW0]; simp [go_sem]
  have Hc1 := hide (words_eq_c aw bw cw dw ws vs B W0 (h1.below (hb0.mono hB)) (h3.below (hb0.mono hB)) (by omega))
  go_enter Try.func11, Try.ntmps11
  go_wp2_with fail
  refine (unhide Hc1).mono ?_
  rintro e w2 ⟨he, hb2⟩
  subst he
  clear hW0 Hc1
  have hs2 := hb2.size
  have hbw2 : Below w.heap.size w w2 := hb0.trans (hb2.mono (by omega))
  replace g1 := (hb2.cell (p := ⟨w.heap.size, 1, none⟩) (by simp; omega)).trans g1
  replace k1 := (hb2.cell (p := ⟨w.heap.size + 1, 1, none⟩) hs0).trans k1
  cases hd : decide (ws = vs)
  · have Hd := hide hd
    clear hd
    go_wp2
    go_ret
    exact ⟨ret_bool (by have := unhide Hd; simp at this; simp [this]), hbw2⟩
  · have Hd := hide hd
    clear hd
    have Hc2 := hide (words_eq_c ar br cr dr rs us B w2 (h2.below (hbw2.mono hB)) (h4.below (hbw2.mono hB)) (by omega))
    go_wp2_with fail
    refine (unhide Hc2).mono ?_
    rintro e w3 ⟨he, hb3⟩
    subst he
    go_wp2
    go_ret
    exact ⟨ret_bool (by have := unhide Hd; simp at this; simp [this]), hbw2.trans (hb3.mono (by omega))⟩

theorem words_take_succ {l : List V} {st : List Int} {k : Nat} (hk : k < l.length) {x : Int} (h : packV st l[k] = x) : wordsV ((l.map (packV st)).take (k + 1)) = wordsV ((l.map (packV st)).take k) ++ [.int .u64 x] := by
  rw [List.take_succ_eq_append_getElem (by simpa using hk), List.getElem_map, h, wordsV_snoc]

set_option maxRecDepth 100000 in
set_option maxHeartbeats 2000000 in
theorem rpacked_c (a s0 : Option Addr) (cap caps : Nat) (l : List V) (st : List Int) (B : Nat) (w : World) (hV : Vals B w a l) (hS : Ints B w s0 st) (hB : B ≤ w.heap.size) (hl : l.length ≤ 1000)
    (hr : ∀ v ∈ l, v.1 = true → 0 ≤ v.2 ∧ v.2 < st.length) (hst : ∀ x ∈ st, 0 ≤ x ∧ x ≤ 9223372036854775807) (hn : ∀ v ∈ l, v.1 = false → -9223372036854775808 ≤ v.2 ∧ v.2 ≤ 9223372036854775807) (hsl : st.length ≤ 1000) :
    Calls Try.prog 46 #[.slice a l.length cap, .slice s0 st.length caps] w fun e w' => ∃ a' cap', e = .returned (.slice a' (l.map (packV st)).length cap') ∧ WdsF w.heap.size w' a' (l.map (packV st)) ∧ Below w.heap.size w w' := by
  obtain ⟨i0, hi, hz0, hz1, hz2⟩ := info_parts Try.info55
  go_enter Try.func46, Try.ntmps46
  go_wp2
  go_loopw [5, 12] (fun s i wr => ∃ k : Nat, k ≤ l.length ∧ i = .int .i64 k ∧ wr.ownsRow w.heap.size 55 1 s k (wordsV ((l.map (packV st)).take k)) ∧ Below w.heap.size w wr) (fun _ i _ => l.length - (intOf i).toNat)
  case atStart => exact ⟨0, Nat.zero_le _, rfl, by simpa [wordsV] using World.ownsRow_nil _ _ _ _, Below.refl _ _⟩
  case round =>
    obtain ⟨k, hk, rfl, hown, hb⟩ := hrel
    have hsz := hb.size
    by_cases hlt : k < l.length
    · obtain ⟨b, off, r, m, rfl, hbB, hc1, hc2, Hv⟩ := (hV.below (hb.mono hB)).at hlt
      have hmem : (r, m) ∈ l := by rw [← Hv.out]; exact List.getElem_mem hlt
      have HT := hide (fun x h => words_take_succ (st := st) hlt (x := x) h)
      rw [Hv.out] at HT
      cases r
      · have hrng := hn _ hmem rfl
        have HT2 := hide (unhide HT _ packV_num)
        clear HT Hv
        have Hc := hide (rpack_c false m (wr.alloc (.cells #[.bool false, .int .i64 m] 70)) hrng.1 hrng.2)
        go_wp2_with fail
        refine (unhide Hc).mono ?_
        rintro e w3 ⟨he, hb3⟩
        subst he
        simp only [World.size_alloc] at hb3
        have hs3 := hb3.size
        simp only [World.size_alloc] at hs3
        have hown3 := ownsRow_below (hown.alloc (.cells #[.bool false, .int .i64 m] 70)) (by simpa using hb3)
        have hbw3 : Below w.heap.size w w3 := (hb.alloc (by omega) _).trans (hb3.mono (by omega))
        clear hown Hc
        go_wp2_with (at_builtin; go_must (refine wpList_append_own _ rfl _ _ 22 rfl w.heap.size 55 i0 _ 1 8 Try.underlying22 hi hz0 hz1 hz2 rfl (by decide) _ _ _ rfl (hown3.alloc _) ⟨w3.heap.size, 0, none⟩ 1 1 [.int .u64 (packW false m)] rfl rfl (cell_one_at _ _ _ _ (by simp)) (by simp [Value.oneCell']) (by simp only [maxLen]; omega) (by omega) (by simp; omega) ?_); intro v' w1 hown' hgrow _)
        go_roundw
        case rel => exact ⟨k + 1, by omega, by go_num, by rw [unhide HT2]; exact hown', (hbw3.alloc (by omega) _).grown hgrow (by simp; omega) (fun q e => (hown3.lt q e).1)⟩
        case measure => simp [intOf]; omega
      · have hrng := hr _ hmem rfl
        obtain ⟨mn, rfl⟩ := Int.eq_ofNat_of_zero_le hrng.1
        have hmn : mn < st.length := by have := hrng.2; simp at this; omega
        have hxr := hst _ (List.getElem_mem hmn)
        obtain ⟨b2, off2, rfl, hbB2, hx⟩ := (hS.below (hb.mono hB)).at hmn
        have HT2 := hide (unhide HT (packW true st[mn]) (by simp [packV, List.getD_eq_getElem?_getD, hmn]))
        have hmnI : (mn : Int) < (st.length : Int) := by omega
        have hb2w : b2 < wr.heap.size := by omega
        clear HT Hv hrng
        generalize st[mn] = p at *
        have Hc := hide (rpack_c true p (wr.alloc (.cells #[.bool true, .int .i64 p] 70)) (by omega) (by omega))
        go_wp2_with fail
        refine (unhide Hc).mono ?_
        rintro e w3 ⟨he, hb3⟩
        subst he
        simp only [World.size_alloc] at hb3
        have hs3 := hb3.size
        simp only [World.size_alloc] at hs3
        have hown3 := ownsRow_below (hown.alloc (.cells #[.bool true, .int .i64 p] 70)) (by simpa using hb3)
        have hbw3 : Below w.heap.size w w3 := (hb.alloc (by omega) _).trans (hb3.mono (by omega))
        clear hown Hc
        go_wp2_with (at_builtin; go_must (refine wpList_append_own _ rfl _ _ 22 rfl w.heap.size 55 i0 _ 1 8 Try.underlying22 hi hz0 hz1 hz2 rfl (by decide) _ _ _ rfl (hown3.alloc _) ⟨w3.heap.size, 0, none⟩ 1 1 [.int .u64 (packW true p)] rfl rfl (cell_one_at _ _ _ _ (by simp)) (by simp [Value.oneCell']) (by simp only [maxLen]; omega) (by omega) (by simp; omega) ?_); intro v' w1 hown' hgrow _)
        go_roundw
        case rel => exact ⟨k + 1, by omega, by go_num, by rw [unhide HT2]; exact hown', (hbw3.alloc (by omega) _).grown hgrow (by simp; omega) (fun q e => (hown3.lt q e).1)⟩
        case measure => simp [intOf]; omega
    · obtain rfl : k = l.length := by omega
      rw [List.take_of_length_le (by simp)] at hown
      obtain ⟨a', cap', hv, hWF, _⟩ := wordsF_of_owns hown (by simp) (by omega)
      have HW := hide hWF
      clear hWF
      subst hv
      go_wp2
      go_ret
      exact ⟨a', cap', rfl, unhide HW, hb⟩

end Go.Proofs.Ytjhndbfhiknngaa

/- Walks: MarkRoom. -/
namespace Go.Proofs.Ytjhndbfhiknngaa
set_option linter.unusedSimpArgs false
set_option linter.unusedVariables false
open Go.RowKit Go.Shelf

/-- What is wrong with what Mark is asked. -/
def mrkE (ws rs : List Int) (room : Int) : Int := if arenaE ws rs ≠ 0 then arenaE ws rs else if room < 1 ∨ 64 < room then 3 else 0

/-- The arena that Mark tells. -/
def MrkIs (ws rs : List Int) (room : Int) (L R : List Int) : Prop :=
  (mrkE ws rs room ≠ 0 ∧ L = [] ∧ R = []) ∨ (mrkE ws rs room = 0 ∧ 1 ≤ room ∧ room ≤ 64 ∧ R = rs ∧ ∃ hs fs p, Arn hs fs rs ∧ ws = joinW hs fs ∧ (∀ j, p j = true ↔ Rch fs rs j) ∧ L = mW hs fs p)

theorem MrkRes.all {ws rs : List Int} {room : Int} {e : Ending} {W : World} (h : MrkRes ws rs room e W) :
    ∃ a c a' c' L R, e = .returned (.tuple #[.agg #[.slice a L.length c, .slice a' R.length c'], .int .i64 (mrkE ws rs room)]) ∧ Wds W.heap.size W a L ∧ Wds W.heap.size W a' R ∧ L.length ≤ c ∧ Hid (MrkIs ws rs room L R) := by
  rcases h with ⟨hE, rfl⟩ | ⟨hE, hr, rfl⟩ | ⟨hE, h1, h2, hs, fs, p, a, c, a', c', hA, hw, hp, rfl, hW, hc, hR⟩
  · have e : mrkE ws rs room = arenaE ws rs := by rw [mrkE, if_pos hE]
    exact ⟨none, 0, none, 0, [], [], by rw [e]; rfl, wds_nil rfl, wds_nil rfl, by simp, hide (.inl ⟨by rw [e]; exact hE, rfl, rfl⟩)⟩
  · have e : mrkE ws rs room = 3 := by rw [mrkE, if_neg (by simp [hE]), if_pos hr]
    exact ⟨none, 0, none, 0, [], [], by rw [e]; rfl, wds_nil rfl, wds_nil rfl, by simp, hide (.inl ⟨by rw [e]; omega, rfl, rfl⟩)⟩
  · have e : mrkE ws rs room = 0 := by rw [mrkE, if_neg (by simp [hE]), if_neg (by omega)]
    exact ⟨a, c, a', c', mW hs fs p, rs, by rw [e], hW, hR, hc, hide (.inr ⟨e, h1, h2, rfl, hs, fs, p, hA, hw, hp, rfl⟩)⟩

theorem arn_uniq {hs hs' : List Int} {fs fs' : List (List Int)} {rs rs' : List Int} (h : Arn hs fs rs) (h' : Arn hs' fs' rs') (e : joinW hs fs = joinW hs' fs') : hs = hs' ∧ fs = fs' := by
  have hf : fs = fs' := by
    have h1 := fit_split h.fit
    rw [e, fit_split h'.fit] at h1
    injection h1 with h1
    exact h1.symm
  subst hf
  refine ⟨?_, rfl⟩
  apply List.ext_getElem?
  intro k
  by_cases hk : k < fs.length
  · rw [← joinW_get hs fs k h.fit.len hk, e, joinW_get hs' fs k h'.fit.len hk]
  · rw [List.getElem?_eq_none (by have := h.fit.len; omega), List.getElem?_eq_none (by have := h'.fit.len; omega)]

theorem bool_fn_eq {p q : Nat → Bool} {R : Nat → Prop} (h1 : ∀ j, p j = true ↔ R j) (h2 : ∀ j, q j = true ↔ R j) : p = q := by
  funext j
  rw [Bool.eq_iff_iff, h1, h2]

/-- However little is kept in mind, the same is marked. -/
theorem MrkIs.same {ws rs : List Int} {r s : Int} {L R L' R' : List Int} (h : MrkIs ws rs r L R) (h' : MrkIs ws rs s L' R') (e : mrkE ws rs r = 0) (e' : mrkE ws rs s = 0) : L = L' ∧ R = R' ∧ L.length = ws.length := by
  rcases h with h | ⟨_, _, _, rfl, hs, fs, p, hA, hw, hp, rfl⟩
  · exact absurd e h.1
  rcases h' with h | ⟨_, _, _, rfl, hs', fs', p', hA', hw', hp', rfl⟩
  · exact absurd e' h.1
  obtain ⟨rfl, rfl⟩ := arn_uniq hA hA' (hw.symm.trans hw')
  rw [bool_fn_eq hp hp']
  exact ⟨rfl, rfl, by rw [hw, mW_len hA.fit, joinW_len _ _ hA.fit.len]⟩

set_option maxRecDepth 100000 in
set_option maxHeartbeats 2000000 in
theorem room_c (aw ar : Option Addr) (cw cr : Nat) (ws rs : List Int) (r s : Int) (w : World) (hW : Wds w.heap.size w aw ws) (hR : Wds w.heap.size w ar rs) (hUW : U64 ws) (hUR : U64 rs) (hcap : ws.length ≤ cw) :
    Calls Try.prog 4 #[.agg #[.slice aw ws.length cw, .slice ar rs.length cr], .int .i64 r, .int .i64 s] w fun e w' => e = .returned (.bool true) ∧ Below w.heap.size w w' := by
  obtain ⟨W1, hW1⟩ : ∃ W1, w.alloc (.cells #[.slice aw ws.length cw, .slice ar rs.length cr] 24) = W1 := ⟨_, rfl⟩
  have hb1 : Below w.heap.size w W1 := by rw [← hW1]; exact (Below.refl w.heap.size w).alloc (Nat.le_refl _) _
  have hs1 : w.heap.size < W1.heap.size := by rw [← hW1]; simp
  have g0 : W1.cell? ⟨w.heap.size, 0, none⟩ = some (.slice aw ws.length cw) := by rw [← hW1]; simp [go_sem]
  have g1 : W1.cell? ⟨w.heap.size, 1, none⟩ = some (.slice ar rs.length cr) := by rw [← hW1]; simp [go_sem]
  have Hc1 := hide (sound_c aw ar cw cr ws rs w.heap.size W1 (hW.below hb1) (hR.below hb1) hUW hUR (by omega))
  go_enter Try.func4, Try.ntmps4
  go_wp2_with fail
  refine (unhide Hc1).mono ?_
  rintro e w2 ⟨rfl, hb2⟩
  clear hW1 Hc1
  have hs2 := hb2.size
  have hbw2 : Below w.heap.size w w2 := hb1.trans (hb2.mono (by omega))
  replace g0 := (hb2.cell (p := ⟨w.heap.size, 0, none⟩) hs1).trans g0
  replace g1 := (hb2.cell (p := ⟨w.heap.size, 1, none⟩) hs1).trans g1
  by_cases hE : arenaE ws rs = 0
  · have d0 : (arenaE ws rs == 0) = true := by simp [hE]
    rw [d0]
    have HE := hide hE
    have Hc2 := hide (mark_c aw ar cw cr ws rs r w.heap.size w2 (hW.below hbw2) (hR.below hbw2) hUW hUR (by omega) hcap)
    clear hb1 hb2 hE d0
    go_wp2_with fail
    refine (unhide Hc2).mono ?_
    rintro e w3 ⟨hres, hb3⟩
    obtain ⟨ba, bc, ba', bc', BL, BR, he, hBL, hBR, hbc, HB⟩ := hres.all
    subst he
    have hs3 := hb3.size
    have hbw3 : Below w.heap.size w w3 := hbw2.trans (hb3.mono (by omega))
    obtain ⟨W3, hW3⟩ : ∃ W3, w3.alloc (.cells #[.slice ba BL.length bc, .slice ba' BR.length bc'] 24) = W3 := ⟨_, rfl⟩
    have hb3' : Below w3.heap.size w3 W3 := by rw [← hW3]; exact (Below.refl _ w3).alloc (Nat.le_refl _) _
    have hs3' : w3.heap.size < W3.heap.size := by rw [← hW3]; simp
    have k0 : W3.cell? ⟨w3.heap.size, 0, none⟩ = some (.slice ba BL.length bc) := by rw [← hW3]; simp [go_sem]
    have k1 : W3.cell? ⟨w3.heap.size, 1, none⟩ = some (.slice ba' BR.length bc') := by rw [← hW3]; simp [go_sem]
    replace g0 := (hb3'.cell (p := ⟨w.heap.size, 0, none⟩) (by simp; omega)).trans ((hb3.cell (p := ⟨w.heap.size, 0, none⟩) (by simp; omega)).trans g0)
    replace g1 := (hb3'.cell (p := ⟨w.heap.size, 1, none⟩) (by simp; omega)).trans ((hb3.cell (p := ⟨w.heap.size, 1, none⟩) (by simp; omega)).trans g1)
    have hbW3 : Below w.heap.size w W3 := hbw3.trans (hb3'.mono (by omega))
    have hwW3 : w.heap.size < W3.heap.size := by omega
    have Hc3 := hide (mark_c aw ar cw cr ws rs s w.heap.size W3 (hW.below hbW3) (hR.below hbW3) hUW hUR (by omega) hcap)
    have HBL := hide ((hBL.below hb3').mono (Nat.le_of_lt hs3'))
    have HBR := hide ((hBR.below hb3').mono (Nat.le_of_lt hs3'))
    generalize hE1 : mrkE ws rs r = E1 at *
    have HE1 := hide hE1
    clear Hc2 hres hBL hBR hE1 hb3 hbw3
    go_wp2_with fail
    refine (unhide Hc3).mono ?_
    rintro e w4 ⟨hres, hb4⟩
    obtain ⟨ca, cc, ca', cc', CL, CR, he, hCL, hCR, hcc, HC⟩ := hres.all
    subst he
    have hs4 := hb4.size
    have hbw4 : Below w.heap.size w w4 := hbW3.trans (hb4.mono (by omega))
    obtain ⟨W4, hW4⟩ : ∃ W4, w4.alloc (.cells #[.slice ca CL.length cc, .slice ca' CR.length cc'] 24) = W4 := ⟨_, rfl⟩
    have hb4' : Below w4.heap.size w4 W4 := by rw [← hW4]; exact (Below.refl _ w4).alloc (Nat.le_refl _) _
    have hs4' : w4.heap.size < W4.heap.size := by rw [← hW4]; simp
    have m0 : W4.cell? ⟨w4.heap.size, 0, none⟩ = some (.slice ca CL.length cc) := by rw [← hW4]; simp [go_sem]
    have m1 : W4.cell? ⟨w4.heap.size, 1, none⟩ = some (.slice ca' CR.length cc') := by rw [← hW4]; simp [go_sem]
    replace k0 := (hb4'.cell (p := ⟨w3.heap.size, 0, none⟩) (by simp; omega)).trans ((hb4.cell (p := ⟨w3.heap.size, 0, none⟩) (by simp; omega)).trans k0)
    replace k1 := (hb4'.cell (p := ⟨w3.heap.size, 1, none⟩) (by simp; omega)).trans ((hb4.cell (p := ⟨w3.heap.size, 1, none⟩) (by simp; omega)).trans k1)
    replace g0 := (hb4'.cell (p := ⟨w.heap.size, 0, none⟩) (by simp; omega)).trans ((hb4.cell (p := ⟨w.heap.size, 0, none⟩) (by simp; omega)).trans g0)
    have hbW4 : Below w.heap.size w W4 := hbw4.trans (hb4'.mono (by omega))
    have hwW4 : w.heap.size < W4.heap.size := by omega
    have hwW3' : w3.heap.size < W4.heap.size := by omega
    have hb34 : Below W3.heap.size W3 W4 := hb4.trans (hb4'.mono hs4)
    have Hc4 := hide (arenas_eq_c ba ba' ca ca' bc bc' cc cc' BL BR CL CR W4.heap.size W4 (((unhide HBL).below hb34).mono (by omega)) (((unhide HBR).below hb34).mono (by omega)) ((hCL.below hb4').mono (by omega)) ((hCR.below hb4').mono (by omega)) (Nat.le_refl _))
    generalize hE2 : mrkE ws rs s = E2 at *
    have HE2 := hide hE2
    have Hbad : Hid ((r < 1 ∨ s < 1 ∨ 64 < r ∨ 64 < s) → (E1 != 0) = false → (E2 != 0) = true) := fun h h1 => by
      have h1' : E1 = 0 := by simpa using h1
      have b1 : ¬ (r < 1 ∨ 64 < r) := fun h => by
        have := unhide HE1
        rw [mrkE, if_neg (by simp [unhide HE]), if_pos h] at this
        omega
      have b2 : s < 1 ∨ 64 < s := by omega
      have := unhide HE2
      rw [mrkE, if_neg (by simp [unhide HE]), if_pos b2] at this
      simp; omega
    have Hgood : Hid (¬ (r < 1 ∨ s < 1 ∨ 64 < r ∨ 64 < s) → E1 = 0 ∧ E2 = 0 ∧ BL = CL ∧ BR = CR ∧ BL.length = ws.length) := fun h => by
      have e1 : E1 = 0 := by rw [← unhide HE1, mrkE, if_neg (by simp [unhide HE]), if_neg (by omega)]
      have e2 : E2 = 0 := by rw [← unhide HE2, mrkE, if_neg (by simp [unhide HE]), if_neg (by omega)]
      have := (unhide HB).same (unhide HC) ((unhide HE1).trans e1) ((unhide HE2).trans e2)
      exact ⟨e1, e2, this.1, this.2.1, this.2.2⟩
    clear Hc3 hres hCL hCR hE2 hb4 hbw4 HBL HBR hb4' hb34 HB HC hW3 hb3'
    by_cases hbad : r < 1 ∨ s < 1 ∨ 64 < r ∨ 64 < s
    · have Hbad1 := hide (unhide Hbad hbad)
      clear Hbad Hgood Hc4 HE1 HE2
      by_cases c1 : r < 1
      · have d1 : decide (r < 1) = true := by simpa using c1
        cases h1 : (E1 != 0)
        · have h2 := unhide Hbad1 h1
          go_wp2
          go_ret
          exact ⟨rfl, hbW4⟩
        · go_wp2
          go_ret
          exact ⟨rfl, hbW4⟩
      · have d1 : decide (r < 1) = false := by simpa using c1
        by_cases c2 : s < 1
        · have d2 : decide (s < 1) = true := by simpa using c2
          cases h1 : (E1 != 0)
          · have h2 := unhide Hbad1 h1
            go_wp2
            go_ret
            exact ⟨rfl, hbW4⟩
          · go_wp2
            go_ret
            exact ⟨rfl, hbW4⟩
        · have d2 : decide (s < 1) = false := by simpa using c2
          by_cases c3 : 64 < r
          · have d3 : decide (r > 64) = true := by simpa using c3
            have d3' : decide (64 < r) = true := by simpa using c3
            cases h1 : (E1 != 0)
            · have h2 := unhide Hbad1 h1
              go_wp2
              go_ret
              exact ⟨rfl, hbW4⟩
            · go_wp2
              go_ret
              exact ⟨rfl, hbW4⟩
          · have d3 : decide (r > 64) = false := by simpa using c3
            have d3' : decide (64 < r) = false := by simpa using c3
            have c4 : 64 < s := by omega
            have d4 : decide (s > 64) = true := by simpa using c4
            have d4' : decide (64 < s) = true := by simpa using c4
            cases h1 : (E1 != 0)
            · have h2 := unhide Hbad1 h1
              go_wp2
              go_ret
              exact ⟨rfl, hbW4⟩
            · go_wp2
              go_ret
              exact ⟨rfl, hbW4⟩
    · obtain ⟨e1, e2, hbl, hbr, hlen⟩ := unhide Hgood hbad
      subst e1 e2 hbl hbr
      have d1 : decide (r < 1) = false := by simp; omega
      have d2 : decide (s < 1) = false := by simp; omega
      have d3 : decide (r > 64) = false := by simp; omega
      have d3' : decide (64 < r) = false := by simp; omega
      have d4 : decide (s > 64) = false := by simp; omega
      have d4' : decide (64 < s) = false := by simp; omega
      have dd : (decide (BL = BL) && decide (BR = BR)) = true := by simp
      rw [dd] at Hc4
      rw [hlen] at k0 m0 Hc4 hW4 ⊢
      clear Hbad Hgood HE1 HE2 hbad hlen
      go_wp2_with fail
      refine (unhide Hc4).mono ?_
      rintro e w5 ⟨he, hb5⟩
      subst he
      have hs5 := hb5.size
      replace k0 := (hb5.cell (p := ⟨w3.heap.size, 0, none⟩) (by simp; omega)).trans k0
      replace g0 := (hb5.cell (p := ⟨w.heap.size, 0, none⟩) (by simp; omega)).trans g0
      have hw5 : w.heap.size < w5.heap.size := by omega
      have hw5' : w3.heap.size < w5.heap.size := by omega
      clear Hc4
      go_wp2
      go_ret
      exact ⟨ret_bool (by simp), hbW4.trans (hb5.mono (by omega))⟩
  · have d0 : (arenaE ws rs == 0) = false := by simp [hE]
    have HE := hide hE
    rw [d0]
    have Hc2 := hide (unsound_c aw ar cw cr ws rs w.heap.size w2 (hW.below hbw2) (hR.below hbw2) hUW hUR (by omega) hcap)
    clear hE
    go_wp2_with fail
    refine (unhide Hc2).mono ?_
    rintro e w3 ⟨he, hb3⟩
    have d3 : (arenaE ws rs != 0) = true := by simpa using unhide HE
    rw [d3] at he
    subst he
    go_wp2
    go_ret
    exact ⟨rfl, hbw2.trans (hb3.mono (by omega))⟩

end Go.Proofs.Ytjhndbfhiknngaa

/- Walks: lists of numbers: Ints, rising, within, inside. -/
namespace Go.Proofs.Ytjhndbfhiknngaa
set_option linter.unusedSimpArgs false
set_option linter.unusedVariables false
open Go.RowKit

/-- A list that rises, strictly. -/
def risingL (l : List Int) : Bool := (List.range (l.length - 1)).all fun k => decide (l.getD k 0 < l.getD (k + 1) 0)

end Go.Proofs.Ytjhndbfhiknngaa

/- Walks. -/
namespace Go.Proofs.Ytjhndbfhiknngaa
set_option linter.unusedSimpArgs false
set_option linter.unusedVariables false
open Go.RowKit

set_option maxHeartbeats 400000 in
theorem refers_c (a : Option Addr) (cap : Nat) (l : List V) (j : Int) (B : Nat) (w : World) (hl : Vals B w a l) (hB : B ≤ w.heap.size) :
    Calls Try.prog 48 #[.slice a l.length cap, .int .i64 j] w fun e w' => e = .returned (.bool (refers l j)) ∧ Below B w w' := by
  have hlen := hl.1
  go_enter Try.func48, Try.ntmps48
  go_wp2
  go_loopw [9] (fun i wr => ∃ k : Nat, k ≤ l.length ∧ i = .int .i64 k ∧ refers (l.take k) j = false ∧ Below B w wr) (fun i _ => l.length - (intOf i).toNat)
  case atStart => exact ⟨0, Nat.zero_le _, rfl, by simp [refers], Below.refl _ _⟩
  case round =>
    obtain ⟨k, hk, rfl, hno, hb⟩ := hrel
    by_cases hlt : k < l.length
    · obtain ⟨b, off, r, n, rfl, hbB, hc1, hc2, Hv⟩ := (hl.below hb).at hlt
      have HT := hide (refers_take (j := j) hlt Hv.out)
      cases r
      · go_wp2
        go_roundw
        case rel => exact ⟨k + 1, by omega, by go_num, by rw [unhide HT, hno]; rfl, hb.alloc (by have := hb.size; omega) _⟩
        case measure => simp [intOf]; omega
      · by_cases hj : n = j
        · have hj' : (n == j) = true := by simp [hj]
          go_wp2
          go_ret
          exact ⟨ret_bool (refers_of_take (k := k + 1) (by rw [unhide HT, hno]; simpa using hj)).symm, hb.alloc (by have := hb.size; omega) _⟩
        · have hj' : (n == j) = false := by simp [hj]
          go_wp2
          go_roundw
          case rel => exact ⟨k + 1, by omega, by go_num, by rw [unhide HT, hno]; simpa using hj, hb.alloc (by have := hb.size; omega) _⟩
          case measure => simp [intOf]; omega
    · go_wp2
      go_ret
      exact ⟨ret_bool (by rw [List.take_of_length_le (by omega)] at hno; exact hno.symm), hb⟩

end Go.Proofs.Ytjhndbfhiknngaa

/- How far objects are: plain facts. -/
namespace Go.Proofs.Ytjhndbfhiknngaa
set_option linter.unusedSimpArgs false
set_option linter.unusedVariables false

/-- The best of what stands before the first k. -/
def bestK (D : Nat → Int) (R : Nat → Bool) : Nat → Int
  | 0 => -1
  | i + 1 => if 0 ≤ D i ∧ R i = true ∧ (bestK D R i < 0 ∨ D i + 1 < bestK D R i) then D i + 1 else bestK D R i

theorem bestK_spec (D : Nat → Int) (R : Nat → Bool) : ∀ k, (bestK D R k = -1 ∧ ∀ i, i < k → ¬ (0 ≤ D i ∧ R i = true)) ∨ (∃ i, i < k ∧ 0 ≤ D i ∧ R i = true ∧ bestK D R k = D i + 1 ∧ ∀ i', i' < k → 0 ≤ D i' → R i' = true → D i ≤ D i')
  | 0 => .inl ⟨rfl, fun i h => by omega⟩
  | k + 1 => by
    have ih := bestK_spec D R k
    by_cases hc : 0 ≤ D k ∧ R k = true
    · rcases ih with ⟨h1, h2⟩ | ⟨i, h1, h2, h3, h4, h5⟩
      · refine .inr ⟨k, by omega, hc.1, hc.2, ?_, ?_⟩
        · show (if _ then _ else _) = _
          rw [if_pos ⟨hc.1, hc.2, .inl (by omega)⟩]
        · intro i' hi' h0 hr
          by_cases e : i' = k
          · subst e; omega
          · exact absurd ⟨h0, hr⟩ (h2 i' (by omega))
      · by_cases hb : D k + 1 < bestK D R k
        · refine .inr ⟨k, by omega, hc.1, hc.2, ?_, ?_⟩
          · show (if _ then _ else _) = _
            rw [if_pos ⟨hc.1, hc.2, .inr hb⟩]
          · intro i' hi' h0 hr
            by_cases e : i' = k
            · subst e; omega
            · have := h5 i' (by omega) h0 hr; omega
        · refine .inr ⟨i, by omega, h2, h3, ?_, ?_⟩
          · show (if _ then _ else _) = _
            rw [if_neg (by rintro ⟨_, _, h | h⟩ <;> omega)]; exact h4
          · intro i' hi' h0 hr
            by_cases e : i' = k
            · subst e; omega
            · exact h5 i' (by omega) h0 hr
    · have e : bestK D R (k + 1) = bestK D R k := by
        show (if _ then _ else _) = _
        rw [if_neg (fun h => hc ⟨h.1, h.2.1⟩)]
      rw [e]
      rcases ih with ⟨h1, h2⟩ | ⟨i, h1, h2, h3, h4, h5⟩
      · refine .inl ⟨h1, fun i hi => ?_⟩
        by_cases e : i = k
        · subst e; exact hc
        · exact h2 i (by omega)
      · refine .inr ⟨i, by omega, h2, h3, h4, fun i' hi' h0 hr => ?_⟩
        by_cases e : i' = k
        · subst e; exact absurd ⟨h0, hr⟩ hc
        · exact h5 i' (by omega) h0 hr

theorem idx_of {l : List Int} (h : l.Nodup) {m : Nat} {o : Int} (hm : l[m]? = some o) : l.idxOf o = m := by
  obtain ⟨hlt, rfl⟩ := List.getElem?_eq_some_iff.1 hm
  have h1 : l.idxOf l[m] < l.length := List.idxOf_lt_length_iff.2 (List.getElem_mem hlt)
  have h2 := List.getElem_idxOf h1
  rw [List.nodup_iff_pairwise_ne, List.pairwise_iff_getElem] at h
  rcases Nat.lt_trichotomy (l.idxOf l[m]) m with h3 | h3 | h3
  · exact absurd h2 (h _ _ h1 hlt h3)
  · exact h3
  · exact absurd h2.symm (h _ _ hlt h1 h3)

theorem distAt_of {g : Gr} (h : Good g) {m : Nat} {o d : Int} (hm : (orderOf g)[m]? = some o) (hd : (distOf g)[m]? = some d) : distAt g o = d := by
  unfold distAt
  rw [if_pos (List.mem_of_getElem? hm), idx_of (order_nodup h) hm, hd]; rfl

theorem distAt_mem {g : Gr} (h : Good g) {o : Int} (ho : o ∈ orderOf g) : ∃ (m : Nat) (d : Int), (orderOf g)[m]? = some o ∧ (distOf g)[m]? = some d ∧ distAt g o = d ∧ 0 ≤ d ∧ d ≤ m := by
  obtain ⟨m, hm, rfl⟩ := List.getElem_of_mem ho
  have hok := searchN_ok h g.objs.length
  have hm2 : m < (distOf g).length := by rw [show (distOf g).length = (orderOf g).length from hok.len]; exact hm
  have h1 := List.getElem?_eq_getElem hm
  have h2 := List.getElem?_eq_getElem hm2
  have h3 := hok.pos m _ h2
  exact ⟨m, _, h1, h2, distAt_of h h1 h2, h3.1, h3.2⟩

theorem distAt_nonneg {g : Gr} (h : Good g) (o : Int) : 0 ≤ distAt g o ↔ o ∈ orderOf g := by
  constructor
  · intro h0
    unfold distAt at h0
    split at h0
    · assumption
    · omega
  · intro ho
    obtain ⟨_, d, _, _, e, h0, _⟩ := distAt_mem h ho
    omega

theorem distAt_bounds {g : Gr} (h : Good g) (o : Int) : -1 ≤ distAt g o ∧ distAt g o ≤ 256 := by
  by_cases ho : o ∈ orderOf g
  · obtain ⟨m, d, h1, _, e, h0, h2⟩ := distAt_mem h ho
    have := (List.getElem?_eq_some_iff.1 h1).1
    have := (searchN_ok h g.objs.length).le
    have := h.n24
    unfold orderOf at *
    omega
  · unfold distAt
    rw [if_neg ho]; omega

/-- An object is as far as one more than the nearest that refers to it. -/
theorem steps_eq {g : Gr} (h : Good g) {j : Nat} (hj : j < g.objs.length) :
    distAt g (j : Int) = if refers g.roots (j : Int) = true then 0 else bestK (fun i => distAt g (i : Int)) (fun i => refers (fieldsOf g (i : Int)) (j : Int)) g.objs.length := by
  have hB := bfs g g.objs.length
  have hR := refers_iff h.refsRoots (j : Int)
  have hF : ∀ (i : Nat), i < g.objs.length → (refers (fieldsOf g (i : Int)) (j : Int) = true ↔ (j : Int) ∈ refsL (fieldsOf g (i : Int))) := fun i hi => refers_iff (h.refsObjs (fieldsOf_mem (by omega) (by omega))) _
  have hlen := (searchN_ok h g.objs.length).le
  by_cases hjo : (j : Int) ∈ orderOf g
  · obtain ⟨p, dp, hp, hd, e, h0, _⟩ := distAt_mem h hjo
    rw [e]
    rcases hB.cause p (j : Int) dp hp hd with ⟨h1, h2⟩ | ⟨h1, m, om, dm, hm, h2, h3, h4, h5, h6⟩
    · rw [if_pos (hR.2 h1)]; exact h2
    · rw [if_neg (fun hh => h1 (hR.1 hh))]
      have hom : om ∈ orderOf g := List.mem_of_getElem? h2
      have hor := order_ok h hom
      obtain ⟨om, rfl⟩ := Int.eq_ofNat_of_zero_le hor.1
      have hdm := distAt_of h h2 h3
      have hdm0 := (distAt_nonneg h (om : Int)).2 hom
      rcases bestK_spec (fun i => distAt g (i : Int)) (fun i => refers (fieldsOf g (i : Int)) (j : Int)) g.objs.length with ⟨_, hno⟩ | ⟨i, hi, b1, b2, b3, b4⟩
      · exact absurd ⟨hdm0, (hF om (by omega)).2 h4⟩ (hno om (by omega))
      · rw [b3]
        have hle := b4 om (by omega) hdm0 ((hF om (by omega)).2 h4)
        have hio := (distAt_nonneg h (i : Int)).1 b1
        obtain ⟨q, dq, hq, hdq, eq, _, _⟩ := distAt_mem h hio
        have hji := (hF i hi).1 b2
        have hmq : m ≤ q := by
          rcases Nat.lt_or_ge q m with hlt | hge
          · exact absurd hji (h6 q (i : Int) hlt hq)
          · exact hge
        have := hB.mono m q dm dq hmq h3 hdq
        omega
  · have e : distAt g (j : Int) = -1 := by unfold distAt; rw [if_neg hjo]
    rw [e, if_neg (fun hh => hjo (order_roots g _ (hR.1 hh)))]
    rcases bestK_spec (fun i => distAt g (i : Int)) (fun i => refers (fieldsOf g (i : Int)) (j : Int)) g.objs.length with ⟨h1, _⟩ | ⟨i, hi, b1, b2, _, _⟩
    · exact h1.symm
    · exact absurd (order_closed h ((distAt_nonneg h (i : Int)).1 b1) _ ((hF i hi).1 b2)) hjo

theorem bestK_bounds {D : Nat → Int} {R : Nat → Bool} (hD : ∀ i, -1 ≤ D i ∧ D i ≤ 256) (k : Nat) : -1 ≤ bestK D R k ∧ bestK D R k ≤ 257 := by
  rcases bestK_spec D R k with ⟨h1, _⟩ | ⟨i, _, h2, _, h3, _⟩
  · omega
  · have := hD i; omega

end Go.Proofs.Ytjhndbfhiknngaa

/- How far objects are, level by level: plain facts. -/
namespace Go.Proofs.Ytjhndbfhiknngaa
set_option linter.unusedSimpArgs false
set_option linter.unusedVariables false

/-- What is known behind s levels. -/
def lev (D : Nat → Int) (s j : Nat) : Int := if 0 ≤ D j ∧ D j ≤ (s : Int) then D j else -1
/-- One of the first i that stand at level s refers to j. -/
def hit (D : Nat → Int) (R : Nat → Nat → Bool) (s i j : Nat) : Bool := (List.range i).any fun i' => decide (D i' = (s : Int)) && R i' j
def mid (D : Nat → Int) (R : Nat → Nat → Bool) (s i j : Nat) : Int := if 0 ≤ lev D s j then lev D s j else if hit D R s i j = true then (s : Int) + 1 else -1

theorem hit_succ (D : Nat → Int) (R : Nat → Nat → Bool) (s i j : Nat) : hit D R s (i + 1) j = (hit D R s i j || (decide (D i = (s : Int)) && R i j)) := by
  unfold hit; rw [List.range_succ, List.any_append]; simp

theorem hit_iff (D : Nat → Int) (R : Nat → Nat → Bool) (s i j : Nat) : hit D R s i j = true ↔ ∃ i', i' < i ∧ D i' = (s : Int) ∧ R i' j = true := by
  unfold hit; simp [List.any_eq_true]

theorem lev_cases (D : Nat → Int) (s j : Nat) : (0 ≤ lev D s j ∧ lev D s j = D j ∧ D j ≤ (s : Int)) ∨ (lev D s j = -1 ∧ ¬ (0 ≤ D j ∧ D j ≤ (s : Int))) := by
  unfold lev; split
  · left; omega
  · right; omega

theorem mid_zero (D : Nat → Int) (R : Nat → Nat → Bool) (s j : Nat) : mid D R s 0 j = lev D s j := by
  unfold mid
  rcases lev_cases D s j with ⟨h, _, _⟩ | ⟨h, _⟩
  · rw [if_pos h]
  · rw [if_neg (by omega), if_neg (by simp [hit]), h]

theorem mid_skip {D : Nat → Int} {R : Nat → Nat → Bool} {s i j : Nat} (h : D i ≠ (s : Int)) : mid D R s (i + 1) j = mid D R s i j := by
  unfold mid; rw [hit_succ]; simp [h]

theorem mid_set {D : Nat → Int} {R : Nat → Nat → Bool} {s i j : Nat} (h1 : mid D R s i j < 0) (h2 : D i = (s : Int)) (h3 : R i j = true) : mid D R s (i + 1) j = (s : Int) + 1 := by
  unfold mid at *
  rcases lev_cases D s j with ⟨h, _, _⟩ | ⟨h, _⟩
  · rw [if_pos h] at h1; omega
  · rw [if_neg (by omega), if_pos (by rw [hit_succ]; simp [h2, h3])]

theorem mid_keep {D : Nat → Int} {R : Nat → Nat → Bool} {s i j : Nat} (h : 0 ≤ mid D R s i j ∨ R i j = false) : mid D R s (i + 1) j = mid D R s i j := by
  unfold mid at *
  rcases lev_cases D s j with ⟨h0, _, _⟩ | ⟨h0, _⟩
  · rw [if_pos h0, if_pos h0]
  · have hn : ¬ 0 ≤ lev D s j := by omega
    simp only [if_neg hn] at h ⊢
    rcases h with h | h
    · by_cases hh : hit D R s i j = true
      · rw [if_pos hh, if_pos (by rw [hit_succ, hh]; rfl)]
      · rw [if_neg hh] at h; omega
    · rw [hit_succ, h]; simp

theorem mid_self {D : Nat → Int} {R : Nat → Nat → Bool} {s i k : Nat} : mid D R s k i = (s : Int) ↔ D i = (s : Int) := by
  unfold mid
  rcases lev_cases D s i with ⟨h, h1, h2⟩ | ⟨h, h1⟩
  · rw [if_pos h, h1]
  · rw [if_neg (by omega)]
    split
    · constructor
      · intro e; omega
      · intro e; exfalso; apply h1; omega
    · constructor
      · intro e; omega
      · intro e; exfalso; apply h1; omega

theorem mid_bounds {D : Nat → Int} {R : Nat → Nat → Bool} (s i j : Nat) : -1 ≤ mid D R s i j ∧ mid D R s i j ≤ (s : Int) + 1 := by
  unfold mid
  rcases lev_cases D s j with ⟨h, h1, h2⟩ | ⟨h, h1⟩
  · rw [if_pos h]; omega
  · rw [if_neg (by omega)]; split <;> omega

def dG (g : Gr) (i : Nat) : Int := distAt g (i : Int)
def rG (g : Gr) (i j : Nat) : Bool := refers (fieldsOf g (i : Int)) (j : Int)

theorem mid_end {g : Gr} (h : Good g) {s j : Nat} (hj : j < g.objs.length) : mid (dG g) (rG g) s g.objs.length j = lev (dG g) (s + 1) j := by
  have hst := steps_eq h hj
  have hb := distAt_bounds h (j : Int)
  have hsp := bestK_spec (dG g) (fun i => rG g i j) g.objs.length
  have hst : dG g j = if refers g.roots (j : Int) = true then 0 else bestK (dG g) (fun i => rG g i j) g.objs.length := hst
  have hb1 : -1 ≤ dG g j := hb.1
  unfold mid
  rcases lev_cases (dG g) s j with ⟨h0, h1, h2⟩ | ⟨h0, h1⟩
  · rw [if_pos h0, h1]; unfold lev; rw [if_pos ⟨by omega, by omega⟩]
  · rw [if_neg (by omega)]
    by_cases hh : hit (dG g) (rG g) s g.objs.length j = true
    · rw [if_pos hh]
      obtain ⟨i', hi', e1, e2⟩ := (hit_iff _ _ _ _ _).1 hh
      have : dG g j = (s : Int) + 1 := by
        by_cases hr : refers g.roots (j : Int) = true
        · rw [if_pos hr] at hst; omega
        · rw [if_neg hr] at hst
          rcases hsp with ⟨_, hno⟩ | ⟨i, hi, b1, b2, b3, b4⟩
          · exact absurd ⟨by omega, e2⟩ (hno i' hi')
          · have := b4 i' hi' (by omega) e2
            omega
      unfold lev; rw [if_pos (by omega), this]
    · rw [if_neg hh]
      unfold lev
      rw [if_neg]
      intro hc
      have hs1 : dG g j = (s : Int) + 1 := by omega
      by_cases hr : refers g.roots (j : Int) = true
      · rw [if_pos hr] at hst; omega
      · rw [if_neg hr] at hst
        rcases hsp with ⟨hno, _⟩ | ⟨i, hi, b1, b2, b3, b4⟩
        · omega
        · exact hh ((hit_iff _ _ _ _ _).2 ⟨i, hi, by omega, b2⟩)

theorem lev_start {g : Gr} (h : Good g) {j : Nat} (hj : j < g.objs.length) : lev (dG g) 0 j = if refers g.roots (j : Int) = true then 0 else -1 := by
  have hst := steps_eq h hj
  have hsp := bestK_spec (dG g) (fun i => rG g i j) g.objs.length
  have hst : dG g j = if refers g.roots (j : Int) = true then 0 else bestK (dG g) (fun i => rG g i j) g.objs.length := hst
  unfold lev
  by_cases hr : refers g.roots (j : Int) = true
  · rw [if_pos hr] at hst; rw [if_pos hr, if_pos (by omega), hst]
  · rw [if_neg hr] at hst; rw [if_neg hr, if_neg]
    rcases hsp with ⟨hno, _⟩ | ⟨i, hi, b1, b2, b3, b4⟩ <;> omega

theorem lev_end {g : Gr} (h : Good g) {j : Nat} : lev (dG g) g.objs.length j = dG g j := by
  have hb : -1 ≤ dG g j := (distAt_bounds h (j : Int)).1
  unfold lev
  by_cases h0 : 0 ≤ dG g j
  · obtain ⟨m, d, hm, _, e, _, h2⟩ := distAt_mem h ((distAt_nonneg h (j : Int)).1 h0)
    have h3 := (List.getElem?_eq_some_iff.1 hm).1
    have h4 := (searchN_ok h g.objs.length).le
    have h3 : m < (searchN g g.objs.length).1.length := h3
    rw [if_pos ⟨h0, by unfold dG; omega⟩]
  · rw [if_neg (by omega)]; omega

/-- A list that holds a function's values. -/
def Holds' (dl : List Int) (n : Nat) (f : Nat → Int) : Prop := dl.length = n ∧ ∀ j, j < n → dl[j]? = some (f j)

theorem Holds'.set {dl : List Int} {n : Nat} {f f' : Nat → Int} (h : Holds' dl n f) {j : Nat} (hj : j < n) {v : Int} (hv : f' j = v) (ho : ∀ q, q < n → q ≠ j → f' q = f q) : Holds' (dl.set j v) n f' := by
  refine ⟨by rw [List.length_set]; exact h.1, fun q hq => ?_⟩
  by_cases e : q = j
  · subst e; rw [List.getElem?_set_self (by rw [h.1]; exact hq), hv]
  · rw [List.getElem?_set_ne (fun h => e h.symm), h.2 q hq, ho q hq e]

theorem Holds'.congr {dl : List Int} {n : Nat} {f f' : Nat → Int} (h : Holds' dl n f) (ho : ∀ q, q < n → f' q = f q) : Holds' dl n f' := ⟨h.1, fun q hq => by rw [h.2 q hq, ho q hq]⟩

theorem Holds'.dist {g : Gr} {dl : List Int} (h : Holds' dl g.objs.length (dG g)) : dl = distL g := by
  apply List.ext_getElem?
  intro i
  by_cases hi : i < g.objs.length
  · rw [h.2 i hi]; simp [distL, List.getElem?_map, List.getElem?_range hi, dG]
  · rw [List.getElem?_eq_none (by rw [h.1]; omega), List.getElem?_eq_none (by rw [distL_len]; omega)]

end Go.Proofs.Ytjhndbfhiknngaa

/- Walks: the document's answer: Dist. -/
namespace Go.Proofs.Ytjhndbfhiknngaa
set_option linter.unusedSimpArgs false
set_option linter.unusedVariables false
open Go.RowKit

/-- A row of numbers in a block of the call's own. -/
structure DRow (W : World) (b n : Nat) (dl : List Int) : Prop where
  own : W.ownsRow b 3 1 (.slice (some ⟨b, 0, none⟩) n n) n (intsV dl)
  len : dl.length = n

theorem DRow.below {W W' : World} {b n : Nat} {dl : List Int} (h : DRow W b n dl) (hb : Below W.heap.size W W') : DRow W' b n dl :=
  ⟨h.own.kept (grown_of_below hb) (Classical.em _), h.len⟩

theorem DRow.lt {W : World} {b n : Nat} {dl : List Int} (h : DRow W b n dl) : b < W.heap.size := (h.own.lt b rfl).2

theorem DRow.cell {W : World} {b n : Nat} {dl : List Int} (h : DRow W b n dl) {k : Nat} {x : Int} (hx : dl[k]? = some x) : W.cell? ⟨b, k, none⟩ = some (.int .i64 x) := by
  have := h.own.cells (g := b) rfl k (.int .i64 x) (by simp [intsV, hx])
  have hadd : (⟨b, 0, none⟩ : Addr).add k = ⟨b, k, none⟩ := by unfold Addr.add; split <;> simp_all
  rwa [hadd] at this

theorem DRow.set {W : World} {b n : Nat} {dl : List Int} (h : DRow W b n dl) (k : Nat) (x : Int) : DRow (W.setCell ⟨b, k, none⟩ (.int .i64 x)) b n (dl.set k x) := by
  refine ⟨?_, by rw [List.length_set]; exact h.len⟩
  have := (h.own.stored k (.int .i64 x)).1
  have e : intsV (dl.set k x) = (intsV dl).set k (.int .i64 x) := by simp [intsV, List.map_set]
  rw [e]; exact this

theorem DRow.frozen {W : World} {b n : Nat} {dl : List Int} (h : DRow W b n dl) (k : Nat) : W.frozen? ⟨b, k, none⟩ = false := h.own.frozenAt k

theorem made_ints (n : Nat) : (madeCells (Value.int .i64 0).cells (n * 1)).toList = intsV (List.replicate n 0) := by
  rw [Nat.mul_one]
  have hc : (Value.int .i64 0).cells = #[Value.int .i64 0] := rfl
  rw [hc]
  apply List.ext_getElem?
  intro i
  simp only [madeCells, intsV, Array.toList_map, Array.toList_range, List.getElem?_map, List.getElem?_replicate]
  by_cases hi : i < n
  · rw [List.getElem?_range hi, if_pos hi]; simp [Nat.mod_one]
  · rw [List.getElem?_eq_none (by simp; omega), if_neg hi]; rfl

def start1 (g : Gr) (k j : Nat) : Int := if j < k then lev (dG g) 0 j else 0

set_option maxRecDepth 100000 in
set_option maxHeartbeats 4000000 in
theorem refDist_c (ao ar : Option Addr) (co cr : Nat) (g : Gr) (B : Nat) (w : World) (ho : Objs B w ao g.objs) (hr : Vals B w ar g.roots) (hB : B ≤ w.heap.size) (hG : Good g) :
    Calls Try.prog 36 #[.agg #[.slice ao g.objs.length co, .slice ar g.roots.length cr]] w fun e w' => ∃ a cap, e = .returned (.slice a (distL g).length cap) ∧ Ints w'.heap.size w' a (distL g) ∧ Below w.heap.size w w' := by
  obtain ⟨i0, hi, hz0, hz1, hz2⟩ := info_parts Try.info3
  have hn24 := hG.n24
  obtain ⟨W4, hW4⟩ : ∃ W4, w.alloc (.cells #[.slice ao g.objs.length co, .slice ar g.roots.length cr] 47) = W4 := ⟨_, rfl⟩
  have hb0 : Below w.heap.size w W4 := by rw [← hW4]; exact (Below.refl _ _).alloc (Nat.le_refl _) _
  have hs0 : w.heap.size < W4.heap.size := by rw [← hW4]; simp
  have g0 : W4.cell? ⟨w.heap.size, 0, none⟩ = some (.slice ao g.objs.length co) := by rw [← hW4]; simp [go_sem]
  have g1 : W4.cell? ⟨w.heap.size, 1, none⟩ = some (.slice ar g.roots.length cr) := by rw [← hW4]; simp [go_sem]
  go_enter Try.func36, Try.ntmps36
  go_wp2_with (at_make; go_must (refine wpList_make_full _ rfl _ _ 40 rfl W4.heap.size 3 i0 _ 1 Try.underlying40 hi hz0 hz1 .i64 .i64 _ _ g.objs.length rfl rfl rfl rfl (by rw [hz2]; omega) (by simp only [maxLen]; omega) (Nat.le_refl _) ?_); go_must (intro w5 hown hg5))
  clear hW4
  have hb5 : Below W4.heap.size W4 w5 := (Below.refl _ W4).grown hg5 (Nat.le_refl _) (fun k e => by cases e)
  obtain ⟨dl5, hD5⟩ : ∃ dl5, DRow w5 W4.heap.size g.objs.length dl5 := by
    refine ⟨List.replicate g.objs.length 0, ⟨?_, by simp⟩⟩
    have e : (madeCells (Value.int .i64 0).cells (g.objs.length * 1)).toList = intsV (List.replicate g.objs.length 0) := made_ints _
    rw [e] at hown
    exact hown
  clear hown hg5
  go_loopw [4] (fun i wr => ∃ (k : Nat) (dl : List Int), k ≤ g.objs.length ∧ i = .int .i64 k ∧ DRow wr W4.heap.size g.objs.length dl ∧ Hid (∀ j, j < k → dl[j]? = some (lev (dG g) 0 j)) ∧ Below W4.heap.size W4 wr) (fun i _ => g.objs.length - (intOf i).toNat)
  case atStart => exact ⟨0, dl5, Nat.zero_le _, rfl, hD5, fun j hj => by omega, hb5⟩
  case round =>
    clear hD5 hb5
    obtain ⟨k, dl, hk, rfl, hD, Hd, hb⟩ := hrel
    have hsz := hb.size
    have hlt0 := hD.lt
    by_cases hlt : k < g.objs.length
    · have hltd : k < dl.length := by rw [hD.len]; exact hlt
      have hx0 := hD.cell (List.getElem?_eq_getElem hltd)
      have hf0 := hD.frozen k
      have hltI : (k : Int) < (g.objs.length : Int) := by omega
      have hD1 := hD.set k (-1)
      have hb1 : Below W4.heap.size W4 (wr.setCell ⟨W4.heap.size, k, none⟩ (.int .i64 (-1))) := hb.setCell (p := ⟨W4.heap.size, k, none⟩) (Nat.le_refl _) _
      obtain ⟨W6, hW6⟩ : ∃ W6, wr.setCell ⟨W4.heap.size, k, none⟩ (.int .i64 (-1)) = W6 := ⟨_, rfl⟩
      rw [hW6] at hD1 hb1
      have hs6 := hb1.size
      have q1 := (hb1.cell (p := ⟨w.heap.size, 1, none⟩) (by simp; omega)).trans g1
      have hV6 := (hr.below ((hb0.mono hB).trans (hb1.mono (by omega)))).mono (B' := W6.heap.size) (by omega)
      have HL := hide (lev_start hG hlt)
      have Hd1 : Hid (∀ j, j < k → (dl.set k (-1))[j]? = some (lev (dG g) 0 j)) := fun j hj => by rw [List.getElem?_set_ne (by omega)]; exact unhide Hd j hj
      have hl1 : (dl.set k (-1)).length = g.objs.length := hD1.len
      clear hD hb Hd
      cases hrf : refers g.roots (k : Int)
      · have HL : Hid (lev (dG g) 0 k = -1) := by have := unhide HL; rw [hrf] at this; exact this
        go_wp2_with (go_at_call 48; go_must (refine (refers_c ar cr g.roots (k : Int) W6.heap.size W6 hV6 (Nat.le_refl _)).mono ?_); go_must (rintro e w7 ⟨he, hb7⟩; rw [hrf] at he; subst he))
        go_roundw
        case rel =>
          refine ⟨k + 1, dl.set k (-1), by omega, by go_num, hD1.below hb7, ?_, hb1.trans (hb7.mono hs6)⟩
          intro j hj
          rcases Nat.lt_or_ge j k with h | h
          · exact unhide Hd1 j h
          · obtain rfl : j = k := by omega
            rw [List.getElem?_set_self hltd, unhide HL]
        case measure => simp [intOf]; omega
      · have HL : Hid (lev (dG g) 0 k = 0) := by have := unhide HL; rw [hrf] at this; exact this
        go_wp2_with (go_at_call 48; go_must (refine (refers_c ar cr g.roots (k : Int) W6.heap.size W6 hV6 (Nat.le_refl _)).mono ?_); go_must (rintro e w7 ⟨he, hb7⟩; rw [hrf] at he; subst he; have hD7 := hD1.below hb7; have hx7 := hD7.cell (List.getElem?_set_self hltd); have hf7 := hD7.frozen k))
        go_roundw
        case rel =>
          refine ⟨k + 1, (dl.set k (-1)).set k 0, by omega, by go_num, hD7.set k 0, ?_, (hb1.trans (hb7.mono hs6)).setCell (p := ⟨W4.heap.size, k, none⟩) (Nat.le_refl _) _⟩
          intro j hj
          rcases Nat.lt_or_ge j k with h | h
          · rw [List.getElem?_set_ne (by omega)]; exact unhide Hd1 j h
          · obtain rfl : j = k := by omega
            rw [List.getElem?_set_self (by omega), unhide HL]
        case measure => simp [intOf]; omega
    · obtain rfl : k = g.objs.length := by omega
      have Hh : Hid (Holds' dl g.objs.length (lev (dG g) 0)) := ⟨hD.len, unhide Hd⟩
      clear Hd
      go_wp2
      go_loopw [5] (fun i wr => ∃ (s : Nat) (dl : List Int), s ≤ g.objs.length ∧ i = .int .i64 s ∧ DRow wr W4.heap.size g.objs.length dl ∧ Hid (Holds' dl g.objs.length (lev (dG g) s)) ∧ Below W4.heap.size W4 wr) (fun i _ => g.objs.length - (intOf i).toNat)
      case atStart => exact ⟨0, dl, Nat.zero_le _, rfl, hD, Hh, hb⟩
      case round =>
        clear hD hb hsz hlt0 Hh
        obtain ⟨s, dl, hs, rfl, hD, Hh, hb⟩ := hrel
        by_cases hlts : s < g.objs.length
        · have hltI : (s : Int) < (g.objs.length : Int) := by omega
          have Hh : Hid (Holds' dl g.objs.length (mid (dG g) (rG g) s 0)) := (unhide Hh).congr (fun q _ => mid_zero _ _ _ _)
          go_wp2
          go_loopw [6] (fun i wr => ∃ (p : Nat) (dl : List Int), p ≤ g.objs.length ∧ i = .int .i64 p ∧ DRow wr W4.heap.size g.objs.length dl ∧ Hid (Holds' dl g.objs.length (mid (dG g) (rG g) s p)) ∧ Below W4.heap.size W4 wr) (fun i _ => g.objs.length - (intOf i).toNat)
          case atStart => exact ⟨0, dl, Nat.zero_le _, rfl, hD, Hh, hb⟩
          case round =>
            clear hD hb Hh
            obtain ⟨p, dl, hp, rfl, hD, Hh, hb⟩ := hrel
            by_cases hltp : p < g.objs.length
            · have hltpI : (p : Int) < (g.objs.length : Int) := by omega
              obtain ⟨bo, oo, ai, ci, rfl, hboB, hcb, hva⟩ := ho.at hltp
              have Hfs := hide (show fieldsOf g (p : Int) = g.objs[p] by simp [fieldsOf, hltp])
              have HR : Hid (∀ q : Nat, rG g p q = refers g.objs[p] (q : Int)) := fun q => by unfold rG; rw [unhide Hfs]
              generalize g.objs[p] = fs at *
              by_cases hds : dG g p = (s : Int)
              · have Hds := hide hds
                clear hds
                go_wp2
                go_loopw [7] (fun i wr => ∃ (q : Nat) (dl : List Int), q ≤ g.objs.length ∧ i = .int .i64 q ∧ DRow wr W4.heap.size g.objs.length dl ∧ Hid (Holds' dl g.objs.length (fun j => if j < q then mid (dG g) (rG g) s (p + 1) j else mid (dG g) (rG g) s p j)) ∧ Below W4.heap.size W4 wr) (fun i _ => g.objs.length - (intOf i).toNat)
                case atStart => exact ⟨0, dl, Nat.zero_le _, rfl, hD, (unhide Hh).congr (fun q _ => by rw [if_neg (by omega)]), hb⟩
                case round =>
                  clear hD hb Hh
                  obtain ⟨q, dl, hq, rfl, hD, Hh, hb⟩ := hrel
                  have hsz := hb.size
                  have hlt0 := hD.lt
                  have hbw : Below B w wr := (hb0.mono hB).trans (hb.mono (by omega))
                  have hxp : ∃ x, dl[p]? = some x ∧ x = (s : Int) := by
                    refine ⟨_, (unhide Hh).2 p hltp, ?_⟩
                    show (if p < q then mid (dG g) (rG g) s (p + 1) p else mid (dG g) (rG g) s p p) = (s : Int)
                    split <;> exact mid_self.2 (unhide Hds)
                  obtain ⟨x, hxp, hxs⟩ := hxp
                  subst hxs
                  have hcp := hD.cell hxp
                  have dss : ((s : Int) == (s : Int)) = true := by simp
                  by_cases hltq : q < g.objs.length
                  · have hltqI : (q : Int) < (g.objs.length : Int) := by omega
                    have hxq := (unhide Hh).2 q hltq
                    simp only [Nat.lt_irrefl, if_false] at hxq
                    have hmb := mid_bounds (D := dG g) (R := rG g) s p q
                    have hcq := hD.cell hxq
                    have hfq := hD.frozen q
                    have q0 := (hb.cell (p := ⟨w.heap.size, 0, none⟩) (by simp; omega)).trans g0
                    have hcb2 := (hbw.cell (p := ⟨bo, oo + p, none⟩) (by simpa using hboB)).trans hcb
                    have hva2 := (hva.below hbw).mono (B' := wr.heap.size) (by omega)
                    have Hset : Hid (mid (dG g) (rG g) s p q < 0 → refers fs (q : Int) = true → mid (dG g) (rG g) s (p + 1) q = (s : Int) + 1) := fun h1 h2 => mid_set h1 (unhide Hds) (by rw [unhide HR q]; exact h2)
                    have Hkeep : Hid (0 ≤ mid (dG g) (rG g) s p q ∨ refers fs (q : Int) = false → mid (dG g) (rG g) s (p + 1) q = mid (dG g) (rG g) s p q) := fun h => mid_keep (h.imp id (fun h => by rw [unhide HR q]; exact h))
                    have Hnext : Hid (mid (dG g) (rG g) s (p + 1) q = mid (dG g) (rG g) s p q → Holds' dl g.objs.length (fun j => if j < q + 1 then mid (dG g) (rG g) s (p + 1) j else mid (dG g) (rG g) s p j)) := fun h => (unhide Hh).congr (fun j _ => by
                      rcases Nat.lt_trichotomy j q with h1 | h1 | h1
                      · rw [if_pos (by omega), if_pos h1]
                      · subst h1; rw [if_pos (by omega), if_neg (by omega), h]
                      · rw [if_neg (by omega), if_neg (by omega)])
                    have Hnew : Hid (mid (dG g) (rG g) s (p + 1) q = (s : Int) + 1 → Holds' (dl.set q ((s : Int) + 1)) g.objs.length (fun j => if j < q + 1 then mid (dG g) (rG g) s (p + 1) j else mid (dG g) (rG g) s p j)) := fun h => (unhide Hh).set hltq (by rw [if_pos (by omega)]; exact h) (fun j _ hj => by
                      rcases Nat.lt_trichotomy j q with h1 | h1 | h1
                      · rw [if_pos (by omega), if_pos h1]
                      · exact absurd h1 hj
                      · rw [if_neg (by omega), if_neg (by omega)])
                    generalize mid (dG g) (rG g) s p q = y at *
                    generalize mid (dG g) (rG g) s (p + 1) q = y1 at *
                    by_cases hy : y < 0
                    · cases hrf : refers fs (q : Int)
                      · have HN := hide (unhide Hnext (unhide Hkeep (.inr hrf)))
                        go_wp2_with (go_at_call 48; go_must (refine (refers_c ai ci fs (q : Int) wr.heap.size wr hva2 (Nat.le_refl _)).mono ?_); go_must (rintro e w7 ⟨he, hb7⟩; rw [hrf] at he; subst he))
                        go_roundw
                        case rel => exact ⟨q + 1, dl, by omega, by go_num, hD.below hb7, HN, hb.trans (hb7.mono hsz)⟩
                        case measure => simp [intOf]; omega
                      · have HN := hide (unhide Hnew (unhide Hset hy hrf))
                        have hw1 : IntKind.i64.wrap ((s : Int) + 1) = (s : Int) + 1 := by rw [IntKind.wrap_i64]; omega
                        go_wp2_with (go_at_call 48; go_must (refine (refers_c ai ci fs (q : Int) wr.heap.size wr hva2 (Nat.le_refl _)).mono ?_); go_must (rintro e w7 ⟨he, hb7⟩; rw [hrf] at he; subst he; have hD7 := hD.below hb7; have hx7 := hD7.cell hxq; have hf7 := hD7.frozen q))
                        go_roundw
                        case rel => exact ⟨q + 1, dl.set q ((s : Int) + 1), by omega, by go_num, hD7.set q _, HN, (hb.trans (hb7.mono hsz)).setCell (p := ⟨W4.heap.size, q, none⟩) (Nat.le_refl _) _⟩
                        case measure => simp [intOf]; omega
                    · have HN := hide (unhide Hnext (unhide Hkeep (.inl (by omega))))
                      have dy : decide (y < 0) = false := by simp; omega
                      go_wp2
                      go_roundw
                      case rel => exact ⟨q + 1, dl, by omega, by go_num, hD, HN, hb⟩
                      case measure => simp [intOf]; omega
                  · obtain rfl : q = g.objs.length := by omega
                    have HN : Hid (Holds' dl g.objs.length (mid (dG g) (rG g) s (p + 1))) := (unhide Hh).congr (fun j hj => by rw [if_pos hj])
                    go_wp2
                    go_roundw
                    case rel => exact ⟨p + 1, dl, by omega, by go_num, hD, HN, hb⟩
                    case measure => simp [intOf]; omega
              · have HN : Hid (Holds' dl g.objs.length (mid (dG g) (rG g) s (p + 1))) := (unhide Hh).congr (fun j _ => mid_skip hds)
                have Hxp := (unhide Hh).2 p hltp
                have hcp := hD.cell Hxp
                have dne : (mid (dG g) (rG g) s p p == (s : Int)) = false := by simp; exact fun h => hds (mid_self.1 h)
                have hlt0 := hD.lt
                clear hds
                generalize mid (dG g) (rG g) s p p = y at *
                go_wp2
                go_loopw [7] (fun i wq => i = .int .i64 0 ∧ wq = wr) (fun _ _ => 0)
                case atStart => exact ⟨rfl, rfl⟩
                case round =>
                  obtain ⟨rfl, rfl⟩ := hrel
                  go_wp2
                  go_roundw
                  case rel => exact ⟨p + 1, dl, by omega, by go_num, hD, HN, hb⟩
                  case measure => simp [intOf]; omega
            · obtain rfl : p = g.objs.length := by omega
              have HN : Hid (Holds' dl g.objs.length (lev (dG g) (s + 1))) := (unhide Hh).congr (fun j hj => (mid_end hG hj).symm)
              go_wp2
              go_roundw
              case rel => exact ⟨s + 1, dl, by omega, by go_num, hD, HN, hb⟩
              case measure => simp [intOf]; omega
        · obtain rfl : s = g.objs.length := by omega
          have HN : Hid (dl = distL g) := ((unhide Hh).congr (fun j _ => (lev_end hG).symm)).dist
          have hown := hD.own
          rw [unhide HN] at hown
          obtain ⟨a', cap', hv, hV, _⟩ := ints_of_owns hown (distL_len g).symm (by omega)
          have Hv := hide hv
          clear hv
          go_wp2
          go_ret
          exact ⟨a', cap', congrArg Ending.returned (unhide Hv), hV, hb0.trans (hb.mono (by omega))⟩

end Go.Proofs.Ytjhndbfhiknngaa

/- Walks: the document's answer: Reach; GraphTells. -/
namespace Go.Proofs.Ytjhndbfhiknngaa
set_option linter.unusedSimpArgs false
set_option linter.unusedVariables false
open Go.RowKit

/-- The first k objects, those that can be come to. -/
def reachK (g : Gr) (k : Nat) : List Int := ((List.range k).filter (fun (i : Nat) => decide (0 ≤ dG g i))).map (fun (i : Nat) => (i : Int))

theorem reachK_yes {g : Gr} {k : Nat} (h : 0 ≤ dG g k) : reachK g (k + 1) = reachK g k ++ [(k : Int)] := by
  unfold reachK; rw [List.range_succ, List.filter_append, List.map_append]; simp [h]
theorem reachK_no {g : Gr} {k : Nat} (h : dG g k < 0) : reachK g (k + 1) = reachK g k := by
  unfold reachK; rw [List.range_succ, List.filter_append, List.map_append]; simp; omega
theorem reachK_len (g : Gr) (k : Nat) : (reachK g k).length ≤ k := by
  unfold reachK; rw [List.length_map]; have := List.length_filter_le (fun i => decide (0 ≤ dG g i)) (List.range k); simpa using this

set_option maxRecDepth 100000 in
set_option maxHeartbeats 1000000 in
theorem refReach_c (ao ar : Option Addr) (co cr : Nat) (g : Gr) (B : Nat) (w : World) (ho : Objs B w ao g.objs) (hr : Vals B w ar g.roots) (hB : B ≤ w.heap.size) (hG : Good g) :
    Calls Try.prog 19 #[.agg #[.slice ao g.objs.length co, .slice ar g.roots.length cr]] w fun e w' => ∃ a cap, e = .returned (.slice a (reachK g g.objs.length).length cap) ∧ Ints w'.heap.size w' a (reachK g g.objs.length) ∧ Below w.heap.size w w' := by
  obtain ⟨i0, hi, hz0, hz1, hz2⟩ := info_parts Try.info3
  have hn24 := hG.n24
  have hb1 := (Below.refl w.heap.size w).alloc (Nat.le_refl _) (.cells #[.slice ao g.objs.length co, .slice ar g.roots.length cr] 47)
  go_enter Try.func19, Try.ntmps19
  go_wp2_with fail
  refine (refDist_c ao ar co cr g B _ (ho.below (hb1.mono hB)) (hr.below (hb1.mono hB)) (by simp; omega) hG).mono ?_
  rintro e w2 ⟨ad, cd, rfl, hI2, hb2⟩
  have hbw2 : Below w.heap.size w w2 := hb1.trans (hb2.mono (by simp))
  clear hb1 hb2
  have hlD : (distL g).length = g.objs.length := distL_len g
  have HlD := hide hlD
  have hDk : Hid (∀ k, k < g.objs.length → (distL g)[k]? = some (dG g k)) := fun k hk => by simp [distL, List.getElem?_map, List.getElem?_range hk, dG]
  rw [hlD]
  clear hlD
  generalize distL g = D at *
  go_wp2
  go_loopw [3, 9] (fun s i wr => ∃ k : Nat, k ≤ g.objs.length ∧ i = .int .i64 k ∧ wr.ownsRow w2.heap.size 3 1 s (reachK g k).length (intsV (reachK g k)) ∧ Below w2.heap.size w2 wr) (fun _ i _ => g.objs.length - (intOf i).toNat)
  case atStart => exact ⟨0, Nat.zero_le _, rfl, World.ownsRow_nil _ _ _ _, Below.refl _ _⟩
  case round =>
    obtain ⟨k, hk, rfl, hown, hb⟩ := hrel
    have hsz := hb.size
    have hkl := reachK_len g k
    by_cases hlt : k < g.objs.length
    · have hltD : k < D.length := by rw [unhide HlD]; exact hlt
      obtain ⟨bd, od, rfl, hbd, hcd⟩ := (hI2.below hb).at hltD
      have hx := unhide hDk k hlt
      rw [List.getElem?_eq_getElem hltD] at hx
      injection hx with hx
      rw [hx] at hcd
      have Hyes := hide (fun h => reachK_yes (g := g) (k := k) h)
      have Hno := hide (fun h => reachK_no (g := g) (k := k) h)
      clear hx
      generalize dG g k = x at *
      have hmx : (reachK g k).length + 1 ≤ maxLen := by simp only [maxLen]; omega
      have hmy : ((reachK g k).length + 1) * 8 ≤ 140737488355328 := by omega
      by_cases hx0 : 0 ≤ x
      · have d : decide (x ≥ 0) = true := by simpa using hx0
        have d' : decide (0 ≤ x) = true := by simpa using hx0
        have HT := hide (unhide Hyes hx0)
        go_wp2_with (at_builtin; go_must (refine wpList_append_own _ rfl _ _ 40 rfl w2.heap.size 3 i0 _ 1 8 Try.underlying40 hi hz0 hz1 hz2 rfl (by decide) _ _ _ rfl (hown.alloc _) ⟨wr.heap.size, 0, none⟩ 1 1 [.int .i64 k] rfl rfl (cell_one_at _ _ _ _ (by simp)) (by simp [Value.oneCell']) hmx hmy (by simp; omega) ?_); intro v' w1 hown' hgrow _)
        go_roundw
        case rel => exact ⟨k + 1, by omega, by go_num, by rw [unhide HT, intsV_snoc, List.length_append]; exact hown', (hb.alloc hsz _).grown hgrow (by simp; omega) (fun q e => (hown.lt q e).1)⟩
        case measure => simp [intOf]; omega
      · have d : decide (x ≥ 0) = false := by simp; omega
        have d' : decide (0 ≤ x) = false := by simp; omega
        have HT := hide (unhide Hno (by omega))
        go_wp2
        go_roundw
        case rel => exact ⟨k + 1, by omega, by go_num, by rw [unhide HT]; exact hown, hb⟩
        case measure => simp [intOf]; omega
    · obtain rfl : k = g.objs.length := by omega
      obtain ⟨a', cap', hv, hV, _⟩ := ints_of_owns hown rfl (by omega)
      have Hv := hide hv
      clear hv
      go_wp2
      go_ret
      exact ⟨a', cap', congrArg Ending.returned (unhide Hv), hV, hbw2.trans (hb.mono hbw2.size)⟩

end Go.Proofs.Ytjhndbfhiknngaa

/- Plain: what can be come to in an arena is what can be come to in its graph. -/
namespace Go.Proofs.Ytjhndbfhiknngaa
set_option linter.unusedSimpArgs false
set_option linter.unusedVariables false
open Go.RowKit

theorem Arn.f4 {hs : List Int} {fs : List (List Int)} {rs : List Int} (h : Arn hs fs rs) : ∀ f ∈ fs, f.length ≤ 4 := by
  intro f hf
  obtain ⟨k, hk⟩ := List.getElem?_of_mem hf
  have hlt : k < hs.length := by have := (List.getElem?_eq_some_iff.1 hk).1; have := h.fit.len; omega
  have := h.fit.ok k _ f (List.getElem?_eq_getElem hlt) hk
  rw [← this.2.1]
  exact wlen_le this.1

theorem good_read {hs : List Int} {fs : List (List Int)} {rs : List Int} (h : Arn hs fs rs) : Good (readG fs rs) := by
  have hnd := stF_nodup fs 0
  refine ⟨?_, ?_, ?_, ?_, ?_⟩
  · rw [readG_len]; have := tot_len fs; have := h.n256; omega
  · rw [readG_rlen]; exact h.n8
  · intro l hl
    unfold readG at hl
    obtain ⟨f, hf, rfl⟩ := List.mem_map.1 hl
    have := h.f4 f hf
    simp; omega
  · intro v hv hr
    unfold readG at hv
    obtain ⟨x, hx, rfl⟩ := List.mem_map.1 hv
    have := (word_back hnd (h.ur x hx).1 (h.ur x hx).2 (h.okr x hx)).2.1 hr
    rw [stF_len] at this
    rw [readG_len]
    exact this
  · intro l hl v hv hr
    unfold readG at hl
    obtain ⟨f, hf, rfl⟩ := List.mem_map.1 hl
    obtain ⟨x, hx, rfl⟩ := List.mem_map.1 hv
    have := (word_back hnd (h.uf f hf x hx).1 (h.uf f hf x hx).2 (h.okf f hf x hx)).2.1 hr
    rw [stF_len] at this
    rw [readG_len]
    exact this

/-- References of words, and of their values. -/
theorem to_iff {fs : List (List Int)} {l : List Int} (hok : ∀ x ∈ l, okW (stF 0 fs) x = true) (j : Nat) : To fs l j ↔ (true, (j : Int)) ∈ l.map (valW (stF 0 fs)) := by
  constructor
  · rintro ⟨x, hx, hr, hj⟩
    refine List.mem_map.2 ⟨x, hx, ?_⟩
    rw [valW_ref hr, placeOf_nodup (stF_nodup fs 0) hj]
  · intro h
    obtain ⟨x, hx, he⟩ := List.mem_map.1 h
    cases hr : unRef x
    · rw [valW_num hr] at he; simp at he
    · obtain ⟨k, hk⟩ := (ok_ref (hok x hx)).2 hr
      rw [valW_ref hr, placeOf_nodup (stF_nodup fs 0) hk] at he
      have : k = j := by simp at he; omega
      subst this
      exact ⟨x, hx, hr, hk⟩

theorem fieldsOf_read {fs : List (List Int)} {rs : List Int} {i : Nat} {f : List Int} (hf : fs[i]? = some f) : fieldsOf (readG fs rs) (i : Int) = f.map (valW (stF 0 fs)) := by
  simp [fieldsOf, readG, hf]

theorem rch_order {hs : List Int} {fs : List (List Int)} {rs : List Int} (h : Arn hs fs rs) (j : Nat) : Rch fs rs j ↔ (j : Int) ∈ orderOf (readG fs rs) := by
  have hG := good_read h
  have hfo : ∀ {i : Nat} {f : List Int}, fs[i]? = some f → RefsOk (f.map (valW (stF 0 fs))) := fun {i f} hf => by
    refine hG.refsObjs ?_
    unfold readG
    exact List.mem_map.2 ⟨f, List.mem_of_getElem? hf, rfl⟩
  constructor
  · intro hr
    refine hr (fun j => (j : Int) ∈ orderOf (readG fs rs)) (fun j ht => ?_) (fun i f j hf hi ht => ?_)
    · refine order_roots _ _ ((mem_refsL hG.refsRoots _).2 ?_)
      exact (to_iff h.okr j).1 ht
    · refine order_closed hG hi _ ?_
      rw [fieldsOf_read hf]
      exact (mem_refsL (hfo hf) _).2 ((to_iff (h.okf f (List.mem_of_getElem? hf)) j).1 ht)
  · intro hj
    have key : ∀ (n p : Nat) (o dp : Int), (orderOf (readG fs rs))[p]? = some o → (distOf (readG fs rs))[p]? = some dp → dp.toNat ≤ n → ∃ j : Nat, o = (j : Int) ∧ Rch fs rs j := by
      intro n
      induction n with
      | zero =>
        intro p o dp h1 h2 h3
        have hpos := (searchN_ok hG _).pos p dp h2
        rcases (bfs (readG fs rs) (readG fs rs).objs.length).cause p o dp h1 h2 with ⟨hr, _⟩ | ⟨_, m, om, dm, _, e1, e2, _, e4, _⟩
        · have hro := hG.roots o hr
          obtain ⟨j, rfl⟩ := Int.eq_ofNat_of_zero_le hro.1
          exact ⟨j, rfl, rch_root ((to_iff h.okr j).2 ((mem_refsL hG.refsRoots _).1 hr))⟩
        · have := (searchN_ok hG _).pos m dm e2
          omega
      | succ n ih =>
        intro p o dp h1 h2 h3
        rcases (bfs (readG fs rs) (readG fs rs).objs.length).cause p o dp h1 h2 with ⟨hr, _⟩ | ⟨_, m, om, dm, _, e1, e2, e3, e4, _⟩
        · have hro := hG.roots o hr
          obtain ⟨j, rfl⟩ := Int.eq_ofNat_of_zero_le hro.1
          exact ⟨j, rfl, rch_root ((to_iff h.okr j).2 ((mem_refsL hG.refsRoots _).1 hr))⟩
        · have hdm := (searchN_ok hG _).pos m dm e2
          obtain ⟨i, rfl, hi⟩ := ih m om dm e1 e2 (by omega)
          have hil := (order_ok hG (List.mem_of_getElem? e1)).2
          rw [readG_len] at hil
          have hf : fs[i]? = some fs[i] := List.getElem?_eq_getElem (by omega)
          rw [fieldsOf_read hf] at e3
          have hmem : fs[i] ∈ fs := List.getElem_mem (by omega)
          have ho := (mem_refsL (hfo hf) _).1 e3
          have hob : 0 ≤ o := (hfo hf (true, o) ho rfl).1
          obtain ⟨j, rfl⟩ := Int.eq_ofNat_of_zero_le hob
          exact ⟨j, rfl, rch_step hi hf ((to_iff (h.okf _ hmem) j).2 ho)⟩
    obtain ⟨p, hp⟩ := List.getElem?_of_mem hj
    have hlen := (searchN_ok hG (readG fs rs).objs.length).len
    have hlt : p < (distOf (readG fs rs)).length := by
      have := (List.getElem?_eq_some_iff.1 hp).1
      unfold orderOf at this
      unfold distOf
      omega
    obtain ⟨j', e, hr⟩ := key _ p _ _ hp (List.getElem?_eq_getElem hlt) (Nat.le_refl _)
    have : j = j' := by omega
    subst this
    exact hr

/-- The first k objects, as told by reachK. -/
theorem mem_reachK {hs : List Int} {fs : List (List Int)} {rs : List Int} (h : Arn hs fs rs) (j : Nat) : (j : Int) ∈ reachK (readG fs rs) (readG fs rs).objs.length ↔ Rch fs rs j := by
  have hG := good_read h
  rw [rch_order h, ← distAt_nonneg hG]
  unfold reachK dG
  simp only [List.mem_map, List.mem_filter, List.mem_range, decide_eq_true_eq]
  constructor
  · rintro ⟨i, ⟨_, hd⟩, e⟩
    have : i = j := by omega
    subst this
    exact hd
  · intro hd
    have := order_ok hG ((distAt_nonneg hG _).1 hd)
    exact ⟨j, ⟨by omega, hd⟩, rfl⟩

end Go.Proofs.Ytjhndbfhiknngaa

/- Plain: what is swept. -/
namespace Go.Proofs.Ytjhndbfhiknngaa
set_option linter.unusedSimpArgs false
set_option linter.unusedVariables false
open Go.RowKit

/-- One block more, at the end. -/
def joinB (l : List (Nat × Nat)) (b : Nat × Nat) : List (Nat × Nat) := match l.getLast? with
  | some x => if x.1 + x.2 = b.1 then l.dropLast ++ [(x.1, x.2 + b.2)] else l ++ [b]
  | none => [b]

theorem joinB_nil (b : Nat × Nat) : joinB [] b = [b] := rfl
theorem joinB_yes {l : List (Nat × Nat)} {a n : Nat} {b : Nat × Nat} (h : a + n = b.1) : joinB (l ++ [(a, n)]) b = l ++ [(a, n + b.2)] := by
  simp [joinB, h]
theorem joinB_no {l : List (Nat × Nat)} {a n : Nat} {b : Nat × Nat} (h : a + n ≠ b.1) : joinB (l ++ [(a, n)]) b = l ++ [(a, n), b] := by
  simp [joinB, h]

theorem joinB_more (l : List (Nat × Nat)) (p m : Nat) : joinB (joinB l (p, m)) (p + m, 1) = joinB l (p, m + 1) := by
  rcases List.eq_nil_or_concat l with rfl | ⟨l0, x, rfl⟩
  · rw [joinB_nil, joinB_nil]
    have := joinB_yes (l := []) (a := p) (n := m) (b := (p + m, 1)) rfl
    simpa using this
  · rw [List.concat_eq_append]
    obtain ⟨a, n⟩ := x
    by_cases h : a + n = p
    · rw [joinB_yes (b := (p, m)) h, joinB_yes (b := (p, m + 1)) h, joinB_yes (by simp; omega)]
      simp; omega
    · rw [joinB_no (b := (p, m)) h, joinB_no (b := (p, m + 1)) h]
      have := joinB_yes (l := l0 ++ [(a, n)]) (a := p) (n := m) (b := (p + m, 1)) rfl
      simpa using this

theorem joinB_len (l : List (Nat × Nat)) (b : Nat × Nat) : (joinB l b).length ≤ l.length + 1 := by
  rcases List.eq_nil_or_concat l with rfl | ⟨l0, ⟨a, n⟩, rfl⟩
  · simp [joinB_nil]
  · rw [List.concat_eq_append]
    by_cases h : a + n = b.1
    · rw [joinB_yes h]; simp
    · rw [joinB_no h]; simp

/-- What is swept of the first k objects. -/
def sweepL (hs : List Int) (fs : List (List Int)) : Nat → List (Nat × Nat)
  | 0 => []
  | k + 1 => if uhM (hs.getD k 0) then sweepL hs fs k else joinB (sweepL hs fs k) (tot (fs.take k), 1 + (fs.getD k []).length)

theorem sweep_yes {hs : List Int} {fs : List (List Int)} {k : Nat} {x : Int} (hx : hs[k]? = some x) (h : uhM x = true) : sweepL hs fs (k + 1) = sweepL hs fs k := by
  simp [sweepL, List.getD_eq_getElem?_getD, hx, h]
theorem sweep_no {hs : List Int} {fs : List (List Int)} {k : Nat} {x : Int} (hx : hs[k]? = some x) (hk : k < fs.length) (h : uhM x = false) : sweepL hs fs (k + 1) = joinB (sweepL hs fs k) (tot (fs.take k), 1 + fs[k].length) := by
  simp [sweepL, List.getD_eq_getElem?_getD, hx, h, hk]

theorem sweep_len (hs : List Int) (fs : List (List Int)) : ∀ k, (sweepL hs fs k).length ≤ k
  | 0 => by simp [sweepL]
  | k + 1 => by
    have := sweep_len hs fs k
    unfold sweepL
    split
    · omega
    · have := joinB_len (sweepL hs fs k) (tot (fs.take k), 1 + (fs.getD k []).length)
      omega

/-- How many words blocks have. -/
def sumB (l : List (Nat × Nat)) : Nat := (l.map fun x => x.2).sum

theorem sumB_snoc (l : List (Nat × Nat)) (x : Nat × Nat) : sumB (l ++ [x]) = sumB l + x.2 := by simp [sumB]

theorem sumB_join (l : List (Nat × Nat)) (b : Nat × Nat) : sumB (joinB l b) = sumB l + b.2 := by
  rcases List.eq_nil_or_concat l with rfl | ⟨l0, ⟨a, n⟩, rfl⟩
  · simp [joinB_nil, sumB]
  · rw [List.concat_eq_append]
    by_cases h : a + n = b.1
    · rw [joinB_yes h, sumB_snoc, sumB_snoc]; simp; omega
    · rw [joinB_no h]; simp [sumB]; omega

/-- Blocks that stand apart, by place, the last one ending at e at most. -/
def Apart : List (Nat × Nat) → Nat → Prop
  | l, e => (∀ x ∈ l, 1 ≤ x.2) ∧ (∀ (i : Nat) (x y : Nat × Nat), l[i]? = some x → l[i + 1]? = some y → x.1 + x.2 < y.1) ∧ (∀ x, l.getLast? = some x → x.1 + x.2 ≤ e)

theorem apart_join {l : List (Nat × Nat)} {p m : Nat} (h : Apart l p) (hm : 1 ≤ m) : Apart (joinB l (p, m)) (p + m) := by
  rcases List.eq_nil_or_concat l with rfl | ⟨l0, ⟨a, n⟩, rfl⟩
  · rw [joinB_nil]
    refine ⟨by simpa using hm, fun i x y h1 h2 => ?_, fun x hx => ?_⟩
    · simp at h2
    · simp at hx; subst hx; simp
  · rw [List.concat_eq_append] at h ⊢
    obtain ⟨h1, h2, h3⟩ := h
    have hl := h3 (a, n) (by simp)
    have hn := h1 (a, n) (by simp)
    simp only at hl hn
    by_cases e : a + n = p
    · rw [joinB_yes (b := (p, m)) e]
      refine ⟨fun x hx => ?_, fun i x y hx hy => ?_, fun x hx => ?_⟩
      · rcases List.mem_append.1 hx with hx | hx
        · exact h1 x (by simp [hx])
        · simp at hx; subst hx; simp; omega
      · by_cases hi : i + 1 < l0.length
        · rw [List.getElem?_append_left (by omega)] at hx hy
          exact h2 i x y (by rw [List.getElem?_append_left (by omega)]; exact hx) (by rw [List.getElem?_append_left (by omega)]; exact hy)
        · have hi' : i + 1 = l0.length := by
            have := (List.getElem?_eq_some_iff.1 hy).1
            simp at this
            omega
          rw [List.getElem?_append_left (by omega)] at hx
          rw [List.getElem?_append_right (by omega), hi', Nat.sub_self] at hy
          simp at hy
          subst hy
          have := h2 i x (a, n) (by rw [List.getElem?_append_left (by omega)]; exact hx) (by rw [List.getElem?_append_right (by omega), hi', Nat.sub_self]; rfl)
          simpa using this
      · simp at hx; subst hx; simp; omega
    · rw [joinB_no (b := (p, m)) e]
      refine ⟨fun x hx => ?_, fun i x y hx hy => ?_, fun x hx => ?_⟩
      · simp at hx
        rcases hx with hx | rfl | rfl
        · exact h1 x (by simp [hx])
        · exact hn
        · exact hm
      · rw [show l0 ++ [(a, n), (p, m)] = (l0 ++ [(a, n)]) ++ [(p, m)] by simp] at hx hy
        by_cases hi : i + 1 < (l0 ++ [(a, n)]).length
        · rw [List.getElem?_append_left (by omega)] at hx hy
          exact h2 i x y hx hy
        · have hi' : i + 1 = (l0 ++ [(a, n)]).length := by
            have := (List.getElem?_eq_some_iff.1 hy).1
            simp at this ⊢
            simp at hi
            omega
          rw [List.getElem?_append_left (by omega)] at hx
          rw [List.getElem?_append_right (by omega), hi', Nat.sub_self] at hy
          simp at hy
          subst hy
          have : i = l0.length := by simp at hi'; omega
          subst this
          simp at hx
          subst hx
          show a + n < p
          omega
      · simp at hx; subst hx; simp

theorem sweep_apart {hs : List Int} {fs : List (List Int)} (h : Fit hs fs) : ∀ k, k ≤ fs.length → Apart (sweepL hs fs k) (tot (fs.take k))
  | 0, _ => ⟨by simp [sweepL], by simp [sweepL], by simp [sweepL]⟩
  | k + 1, hk => by
    have ih := sweep_apart h k (by omega)
    have hk' : k < fs.length := by omega
    have hts := tot_take_succ hk'
    have hx : hs[k]? = some (hs[k]'(by have := h.len; omega)) := List.getElem?_eq_getElem _
    cases hm : uhM (hs[k]'(by have := h.len; omega))
    · rw [sweep_no hx hk' hm, hts, show tot (fs.take k) + (fs[k].length + 1) = tot (fs.take k) + (1 + fs[k].length) by omega]
      exact apart_join ih (by omega)
    · rw [sweep_yes hx hm]
      exact ⟨ih.1, ih.2.1, fun x hx => by have := ih.2.2 x hx; omega⟩

/-- How many words the marked ones of the first k objects have. -/
def markS (hs : List Int) (fs : List (List Int)) : Nat → Nat
  | 0 => 0
  | k + 1 => markS hs fs k + if uhM (hs.getD k 0) then 1 + (fs.getD k []).length else 0

theorem sweep_sum {hs : List Int} {fs : List (List Int)} (h : Fit hs fs) : ∀ k, k ≤ fs.length → sumB (sweepL hs fs k) + markS hs fs k = tot (fs.take k)
  | 0, _ => by simp [sweepL, markS, sumB, tot]
  | k + 1, hk => by
    have ih := sweep_sum h k (by omega)
    have hk' : k < fs.length := by omega
    have hts := tot_take_succ hk'
    have hx : hs[k]? = some (hs[k]'(by have := h.len; omega)) := List.getElem?_eq_getElem _
    have e1 : hs.getD k 0 = hs[k]'(by have := h.len; omega) := by rw [List.getD_eq_getElem?_getD, hx]; rfl
    have e2 : fs.getD k [] = fs[k] := by rw [List.getD_eq_getElem?_getD, List.getElem?_eq_getElem hk']; rfl
    cases hm : uhM (hs[k]'(by have := h.len; omega))
    · rw [sweep_no hx hk' hm, sumB_join, hts]
      simp only [markS, e1, hm]
      simp; omega
    · rw [sweep_yes hx hm, hts]
      simp only [markS, e1, e2, hm]
      simp; omega

end Go.Proofs.Ytjhndbfhiknngaa

/- Walks: join. -/
namespace Go.Proofs.Ytjhndbfhiknngaa
set_option linter.unusedSimpArgs false
set_option linter.unusedVariables false
open Go.RowKit Go.Shelf

theorem Try.info57 : (Try.prog.info? 57).map (fun i => (i.zero, i.size, i.bytes)) = some (some (.agg #[.int .i64 0, .int .i64 0]), 2, 16) := by kernel_rfl

/-- The cells of blocks. -/
def cellsB (l : List (Nat × Nat)) : List Value := l.flatMap fun x => [.int .i64 (x.1 : Nat), .int .i64 (x.2 : Nat)]

theorem cellsB_snoc (l : List (Nat × Nat)) (a n : Nat) : cellsB (l ++ [(a, n)]) = cellsB l ++ [.int .i64 (a : Nat), .int .i64 (n : Nat)] := by simp [cellsB]
theorem cellsB_len : ∀ (l : List (Nat × Nat)), (cellsB l).length = l.length * 2
  | [] => rfl
  | x :: l => by have := cellsB_len l; simp only [cellsB, List.flatMap_cons, List.length_append, List.length_cons, List.length_nil] at *; omega

theorem cellsB_get : ∀ (l : List (Nat × Nat)) (k : Nat) (x : Nat × Nat), l[k]? = some x → (cellsB l)[k * 2]? = some (.int .i64 (x.1 : Nat)) ∧ (cellsB l)[k * 2 + 1]? = some (.int .i64 (x.2 : Nat))
  | [], _, _, h => by simp at h
  | x :: l, 0, v, h => by simp at h; subst h; simp [cellsB]
  | x :: l, k + 1, v, h => by
    have := cellsB_get l k v (by simpa using h)
    have e1 : (k + 1) * 2 = k * 2 + 1 + 1 := by omega
    have e2 : (k + 1) * 2 + 1 = k * 2 + 1 + 1 + 1 := by omega
    rw [e1]
    simp only [cellsB, List.flatMap_cons, List.cons_append, List.nil_append, List.getElem?_cons_succ]
    exact this

theorem cellsB_last (l : List (Nat × Nat)) (a n m : Nat) : (cellsB (l ++ [(a, n)])).set (l.length * 2 + 1) (.int .i64 (m : Nat)) = cellsB (l ++ [(a, m)]) := by
  rw [cellsB_snoc, cellsB_snoc, List.set_append_right _ _ (by rw [cellsB_len]; omega), cellsB_len, show l.length * 2 + 1 - l.length * 2 = 1 by omega]
  rfl

/-- What join leaves. -/
def JnRes (base : Nat) (l : List (Nat × Nat)) (b : Nat × Nat) (v : Value) (w : World) (e : Ending) (W : World) : Prop :=
  ∃ v', e = .returned v' ∧ W.ownsRow base 57 2 v' (joinB l b).length (cellsB (joinB l b)) ∧ w.grownBy W v.ownBlock ∧ (v'.ownBlock = v.ownBlock ∨ ∃ k, v'.ownBlock = some k ∧ w.heap.size ≤ k)

theorem grown_alloc {w W : World} {row : Option Nat} (o : Obj) (h : (w.alloc o).grownBy W row) (hn : row = none ∨ ∃ k, row = some k ∧ k < w.heap.size) : w.grownBy W row :=
  ⟨h.os, h.tape, h.output, by have := h.size; simp at this; omega, fun k hk hne => by rw [h.block k (by simp; omega) hne]; exact Below.heap_alloc _ _ _ hk⟩

theorem row_none {w : World} {base : Nat} {e : TypeId} {size : Nat} {v : Value} {n : Nat} {xs : List Value} (h : w.ownsRow base e size v n xs) : v.ownBlock = none ∨ ∃ k, v.ownBlock = some k ∧ k < w.heap.size := by
  cases hv : v.ownBlock with
  | none => exact .inl rfl
  | some k => exact .inr ⟨k, rfl, (h.lt k hv).2⟩

set_option maxRecDepth 100000 in
set_option maxHeartbeats 2000000 in
theorem join_c (v : Value) (base : Nat) (l : List (Nat × Nat)) (p m : Nat) (w : World) (h : w.ownsRow base 57 2 v l.length (cellsB l)) (hl : ∀ x ∈ l, x.1 + x.2 ≤ 256) (hn : l.length ≤ 256) (hp : p ≤ 256) (hm : m ≤ 256) (hbase : base ≤ w.heap.size) :
    Calls Try.prog 31 #[v, .agg #[.int .i64 (p : Nat), .int .i64 (m : Nat)]] w fun e w' => JnRes base l (p, m) v w e w' := by
  obtain ⟨i0, hi0, hz0, hz1, hz2⟩ := info_parts Try.info57
  rcases List.eq_nil_or_concat l with rfl | ⟨l0, ⟨a, n⟩, hl0⟩
  · obtain ⟨va, vc, hv⟩ := ownsRow_slice h
    simp only [List.length_nil] at hv h
    subst hv
    have H := hide h
    have h1 := (h.alloc (.cells #[.int .i64 (p : Nat), .int .i64 (m : Nat)] 57)).drew
    have d0 : decide ((0 : Int) > 0) = false := by decide
    have d0' : decide ((0 : Int) < 0) = false := by decide
    go_enter Try.func31, Try.ntmps31
    go_wp2
    go_quiet (fail)
    have hb2 : Below w.heap.size w ((w.alloc (.cells #[.int .i64 (p : Nat), .int .i64 (m : Nat)] 57)).drewN nq) := below_drewN ((Below.refl _ _).alloc (Nat.le_refl _) _) nq
    have c0 : ((w.alloc (.cells #[.int .i64 (p : Nat), .int .i64 (m : Nat)] 57)).drewN nq).cell? ⟨w.heap.size, 0, none⟩ = some (.int .i64 (p : Nat)) := by show (w.alloc _).cell? _ = _; simp [go_sem]
    have c1 : ((w.alloc (.cells #[.int .i64 (p : Nat), .int .i64 (m : Nat)] 57)).drewN nq).cell? ⟨w.heap.size, 1, none⟩ = some (.int .i64 (m : Nat)) := by show (w.alloc _).cell? _ = _; simp [go_sem]
    have hs2 : w.heap.size < ((w.alloc (.cells #[.int .i64 (p : Nat), .int .i64 (m : Nat)] 57)).drewN nq).heap.size := by show w.heap.size < (w.heap.push _).size; simp
    clear h1
    generalize (w.alloc (.cells #[.int .i64 (p : Nat), .int .i64 (m : Nat)] 57)).drewN nq = W2 at *
    have h2 := ownsRow_below (unhide H) hb2
    go_wp2_with (at_builtin; go_must (refine wpList_append_own_at _ rfl _ _ 28 rfl base 57 i0 _ 2 16 Try.underlying28 hi0 hz0 hz1 hz2 rfl (by decide) _ _ _ rfl (h2.alloc _) ⟨W2.heap.size, 0, none⟩ 1 1 [.int .i64 (p : Nat), .int .i64 (m : Nat)] rfl rfl (cell_two_at _ _ _ _ _ (by simp)) (by simp [Value.oneCell']) (by simp only [maxLen]; omega) (by omega) (by simp; omega) ?_); go_must (intro v' w5 hrow hg5 _ hat))
    go_ret
    refine ⟨v', rfl, ?_, ?_, ?_⟩
    · exact hrow
    · have := hg5.size
      simp at this
      exact ⟨hg5.os.trans hb2.os, hg5.tape.trans hb2.tape, hg5.output.trans hb2.output, by omega, fun k hk hne => by rw [hg5.block k (by simp; omega) hne, Below.heap_alloc _ _ _ (by omega), hb2.block k hk]⟩
    · rcases hat with e | e
      · exact .inl e
      · exact .inr ⟨_, e, by simp; omega⟩
  · rw [List.concat_eq_append] at hl0
    subst hl0
    have hK : (l0 ++ [(a, n)]).length = l0.length + 1 := by simp
    rw [hK] at h hn
    obtain ⟨g, cap, hv⟩ := ownsRow_succ h
    subst hv
    have hcap : l0.length + 1 ≤ cap := by
      rcases h.2 with ⟨e, _⟩ | ⟨g', cap', cur, e, _, _, h3, _⟩
      · cases e
      · injection e with _ _ e; omega
    have hg := (h.lt g rfl).2
    have hxy := cellsB_get (l0 ++ [(a, n)]) l0.length (a, n) (by simp)
    have x0 : w.cell? ⟨g, l0.length * 2, none⟩ = some (.int .i64 (a : Nat)) := by rw [h.cellAt _ (by omega)]; exact hxy.1
    have x1 : w.cell? ⟨g, l0.length * 2 + 1, none⟩ = some (.int .i64 (n : Nat)) := by rw [h.cellAt _ (by omega)]; exact hxy.2
    have xf := h.frozenAt (l0.length * 2 + 1)
    have han := hl (a, n) (by simp)
    simp only at han
    have H := hide h
    obtain ⟨W1, hW1⟩ : ∃ W1, w.alloc (.cells #[.int .i64 (p : Nat), .int .i64 (m : Nat)] 57) = W1 := ⟨_, rfl⟩
    have hb1 : Below w.heap.size w W1 := by rw [← hW1]; exact (Below.refl _ _).alloc (Nat.le_refl _) _
    have hs1 : w.heap.size < W1.heap.size := by rw [← hW1]; simp
    have c0 : W1.cell? ⟨w.heap.size, 0, none⟩ = some (.int .i64 (p : Nat)) := by rw [← hW1]; simp [go_sem]
    have c1 : W1.cell? ⟨w.heap.size, 1, none⟩ = some (.int .i64 (m : Nat)) := by rw [← hW1]; simp [go_sem]
    replace x0 := (hb1.cell (p := ⟨g, l0.length * 2, none⟩) hg).trans x0
    replace x1 := (hb1.cell (p := ⟨g, l0.length * 2 + 1, none⟩) hg).trans x1
    replace xf := (hb1.frozen (p := ⟨g, l0.length * 2 + 1, none⟩) hg).trans xf
    have hg1 : g < W1.heap.size := by omega
    have d0 : decide (((l0.length + 1 : Nat) : Int) > 0) = true := decide_eq_true (by omega)
    have d0' : decide ((0 : Int) < ((l0.length + 1 : Nat) : Int)) = true := decide_eq_true (by omega)
    have e1 : ((l0.length + 1 : Nat) : Int) - 1 = (l0.length : Int) := by omega
    have w1 : IntKind.i64.wrap (((l0.length + 1 : Nat) : Int) - 1) = (l0.length : Int) := by rw [IntKind.wrap_i64]; omega
    have w2 : IntKind.i64.wrap ((a : Int) + (n : Int)) = (a : Int) + (n : Int) := by rw [IntKind.wrap_i64]; omega
    have hI : (l0.length : Int) < ((l0.length + 1 : Nat) : Int) := by omega
    clear hxy h hl hK
    by_cases hc : a + n = p
    · have HJ := hide (joinB_yes (l := l0) (b := (p, m)) hc)
      have d1 : ((a : Int) + (n : Int) == (p : Int)) = true := by simp; omega
      go_enter Try.func31, Try.ntmps31
      go_wp2
      go_quiet (fail)
      have hb2 := below_drewN hb1 nq
      have y0 : (W1.drewN nq).cell? ⟨g, l0.length * 2, none⟩ = some (.int .i64 (a : Nat)) := x0
      have y1 : (W1.drewN nq).cell? ⟨g, l0.length * 2 + 1, none⟩ = some (.int .i64 (n : Nat)) := x1
      have yf : (W1.drewN nq).frozen? ⟨g, l0.length * 2 + 1, none⟩ = false := xf
      have b0 : (W1.drewN nq).cell? ⟨w.heap.size, 0, none⟩ = some (.int .i64 (p : Nat)) := c0
      have b1 : (W1.drewN nq).cell? ⟨w.heap.size, 1, none⟩ = some (.int .i64 (m : Nat)) := c1
      have hs2 : w.heap.size < (W1.drewN nq).heap.size := hs1
      have hg2 : g < (W1.drewN nq).heap.size := hg1
      clear x0 x1 xf c0 c1 hb1 hs1 hg1 hW1
      generalize W1.drewN nq = W2 at *
      have w3 : IntKind.i64.wrap ((n : Int) + (m : Int)) = (n : Int) + (m : Int) := by rw [IntKind.wrap_i64]; omega
      go_wp2
      go_region
      all_goals
        go_wp2
        go_ret
        have hr2 := (ownsRow_below (unhide H) hb2).drew
        have hst := hr2.stored (l0.length * 2 + 1) (.int .i64 ((n : Int) + (m : Int)))
        refine ⟨.slice (some ⟨g, 0, none⟩) (l0.length + 1) cap, rfl, ?_, ?_, .inl rfl⟩
        · rw [unhide HJ, List.length_append, List.length_singleton]
          have := hst.1
          rw [← Int.natCast_add, cellsB_last] at this
          rw [← Int.natCast_add]
          exact this
        · have := hst.2
          exact ⟨this.os.trans hb2.os, this.tape.trans hb2.tape, this.output.trans hb2.output, by have := this.size; exact Nat.le_trans (Nat.le_of_lt hs2) this, fun k hk hne => (this.block k (Nat.lt_trans hk hs2) hne).trans (hb2.block k hk)⟩
    · have HJ := hide (joinB_no (l := l0) (b := (p, m)) hc)
      have d1 : ((a : Int) + (n : Int) == (p : Int)) = false := by simp; omega
      go_enter Try.func31, Try.ntmps31
      go_wp2
      go_quiet (fail)
      have hb2 := below_drewN hb1 nq
      have y0 : (W1.drewN nq).cell? ⟨g, l0.length * 2, none⟩ = some (.int .i64 (a : Nat)) := x0
      have y1 : (W1.drewN nq).cell? ⟨g, l0.length * 2 + 1, none⟩ = some (.int .i64 (n : Nat)) := x1
      have yf : (W1.drewN nq).frozen? ⟨g, l0.length * 2 + 1, none⟩ = false := xf
      have b0 : (W1.drewN nq).cell? ⟨w.heap.size, 0, none⟩ = some (.int .i64 (p : Nat)) := c0
      have b1 : (W1.drewN nq).cell? ⟨w.heap.size, 1, none⟩ = some (.int .i64 (m : Nat)) := c1
      have hs2 : w.heap.size < (W1.drewN nq).heap.size := hs1
      have hg2 : g < (W1.drewN nq).heap.size := hg1
      clear x0 x1 xf c0 c1 hb1 hs1 hg1 hW1
      generalize W1.drewN nq = W2 at *
      have h2 := ownsRow_below (unhide H) hb2
      go_wp2_with (at_builtin; go_must (refine wpList_append_own_at _ rfl _ _ 28 rfl base 57 i0 _ 2 16 Try.underlying28 hi0 hz0 hz1 hz2 rfl (by decide) _ _ _ rfl (h2.alloc _) ⟨W2.heap.size, 0, none⟩ 1 1 [.int .i64 (p : Nat), .int .i64 (m : Nat)] rfl rfl (cell_two_at _ _ _ _ _ (by simp)) (by simp [Value.oneCell']) (by simp only [maxLen]; omega) (by omega) (by simp; omega) ?_); go_must (intro v' w5 hrow hg5 _ hat))
      go_ret
      refine ⟨v', rfl, ?_, ?_, ?_⟩
      · rw [unhide HJ, show l0 ++ [(a, n), (p, m)] = (l0 ++ [(a, n)]) ++ [(p, m)] by simp, cellsB_snoc, List.length_append, List.length_append]
        exact hrow
      · have := hg5.size
        simp at this
        exact ⟨hg5.os.trans hb2.os, hg5.tape.trans hb2.tape, hg5.output.trans hb2.output, by omega, fun k hk hne => by rw [hg5.block k (by simp; omega) hne, Below.heap_alloc _ _ _ (by omega), hb2.block k hk]⟩
      · rcases hat with e | e
        · exact .inl e
        · exact .inr ⟨_, e, by simp; omega⟩

end Go.Proofs.Ytjhndbfhiknngaa

/- Walks: Sweep. -/
namespace Go.Proofs.Ytjhndbfhiknngaa
set_option linter.unusedSimpArgs false
set_option linter.unusedVariables false
open Go.RowKit Go.Shelf
attribute [local go_sem] field51_0 field51_1

/-- The blocks that are swept so far, in a variable. -/
def SwS (N vb : Nat) (l : List (Nat × Nat)) (W : World) : Prop := ∃ v, W.ownsRow N 57 2 v l.length (cellsB l) ∧ W.heap[vb]? = some (.cells #[v] 28) ∧ v.ownBlock ≠ some vb

theorem SwS.below {N vb : Nat} {l : List (Nat × Nat)} {W W' : World} (h : SwS N vb l W) (hb : Below W.heap.size W W') : SwS N vb l W' := by
  obtain ⟨v, h1, h2, h3⟩ := h
  exact ⟨v, ownsRow_below h1 hb, by rw [hb.block vb (Array.getElem?_eq_some_iff.1 h2).1]; exact h2, h3⟩

theorem Keep51.below {W W' : World} (h : Below W.heap.size W W') : Keep51 W W' := fun k cs hk => by rw [h.block k (Array.getElem?_eq_some_iff.1 hk).1]; exact hk
theorem Keep51.trans {a b c : World} (h : Keep51 a b) (h' : Keep51 b c) : Keep51 a c := fun k cs hk => h' k cs (h k cs hk)
theorem keep51_grown {W W' : World} {base n : Nat} {v : Value} {xs : List Value} (hr : W.ownsRow base 57 2 v n xs) (hg : W.grownBy W' v.ownBlock) : Keep51 W W' := by
  intro k cs hk
  rw [hg.block k (Array.getElem?_eq_some_iff.1 hk).1 ?_]
  · exact hk
  · intro e
    rcases hr.2 with ⟨rfl, _⟩ | ⟨g, cap, cur, rfl, _, hb, _⟩
    · simp [Value.ownBlock] at e
    · obtain rfl : k = g := by simpa [Value.ownBlock] using e
      rw [hk] at hb
      injection hb with hb
      injection hb with _ hb
      exact absurd hb (by decide)
theorem keep51_set {W : World} {vb : Nat} {v u : Value} (h : W.heap[vb]? = some (.cells #[v] 28)) : Keep51 W (W.setCell ⟨vb, 0, none⟩ u) := by
  intro k cs hk
  rw [Below.heap_setCell _ _ _ _ ?_]
  · exact hk
  · rintro rfl
    rw [hk] at h
    injection h with h
    injection h with _ h
    exact absurd h (by decide)

set_option maxRecDepth 100000 in
set_option maxHeartbeats 1000000 in
theorem sw1_c (N vb : Nat) (l : List (Nat × Nat)) (q n : Nat) (b : Bool) (A : Int) (w : World) (hS : SwS N vb l w) (hN : N ≤ vb) (hl : ∀ x ∈ l, x.1 + x.2 ≤ 256) (hn : l.length ≤ 256) (hq : q ≤ 256) (hm : n ≤ 4) :
    Calls Try.prog 30 #[.int .i64 (q : Nat), .agg #[.int .i64 (n : Nat), .bool b, .int .i64 A], .pointer (some ⟨vb, 0, none⟩)] w fun e w' => e = .returned (.tuple #[]) ∧ SwS N vb (if b then l else joinB l (q, 1 + n)) w' ∧ Below N w w' ∧ Keep51 w w' := by
  have hNw : N ≤ w.heap.size := by obtain ⟨v, _, h2, _⟩ := hS; have := (Array.getElem?_eq_some_iff.1 h2).1; omega
  have hb0 : Below w.heap.size w (w.alloc (.cells #[.int .i64 (n : Nat), .bool b, .int .i64 A] 51)) := (Below.refl _ _).alloc (Nat.le_refl _) _
  cases b
  · obtain ⟨v, h1, h2, h3⟩ := hS.below hb0
    have hcv := cell_of_box h2
    have hfv : (w.alloc (.cells #[.int .i64 (n : Nat), .bool false, .int .i64 A] 51)).frozen? ⟨vb, 0, none⟩ = false := frozen_of_row _ vb 0 _ 28 h2
    have hlv : vb < (w.alloc (.cells #[.int .i64 (n : Nat), .bool false, .int .i64 A] 51)).heap.size := (Array.getElem?_eq_some_iff.1 h2).1
    have hlv' : vb < w.heap.size := by obtain ⟨v, _, h2, _⟩ := hS; exact (Array.getElem?_eq_some_iff.1 h2).1
    have H1 := hide h1
    have H2 := hide h2
    obtain ⟨va, vc, hv⟩ := ownsRow_slice h1
    subst hv
    have Hc := hide (join_c (.slice va l.length vc) N l q (1 + n) _ h1 hl hn hq (by omega) (by simp; omega))
    rw [Int.natCast_add] at Hc
    have w1 : IntKind.i64.wrap (1 + (n : Int)) = 1 + (n : Int) := by rw [IntKind.wrap_i64]; omega
    clear h1 h2 hS
    go_enter Try.func30, Try.ntmps30
    go_wp2_with fail
    refine (unhide Hc).mono ?_
    rintro e w2 ⟨v', rfl, hr', hg', hat⟩
    have hne : some vb ≠ Value.ownBlock (.slice va l.length vc) := fun e => h3 e.symm
    have h2' : w2.heap[vb]? = some (.cells #[.slice va l.length vc] 28) := (hg'.block vb hlv hne).trans (unhide H2)
    have hcv2 := cell_of_box h2'
    have hfv2 : w2.frozen? ⟨vb, 0, none⟩ = false := frozen_of_row _ vb 0 _ 28 h2'
    have hlv2 : vb < w2.heap.size := (Array.getElem?_eq_some_iff.1 h2').1
    obtain ⟨va', vc', hv'⟩ := ownsRow_slice hr'
    have Hr' := hide hr'
    have Hg' := hide hg'
    have H2' := hide h2'
    have Hv' := hide hv'
    clear hr' hg' h2' hne
    subst hv'
    clear Hv'
    generalize hjl : (joinB l (q, 1 + n)).length = jl at *
    have Hjl := hide hjl
    clear hjl
    go_wp2
    refine bodyPost_end (v := .tuple #[]) (results_none rfl _ _ _) rfl ⟨rfl, ⟨.slice va' jl vc', ?_, ?_, ?_⟩, ?_, ?_⟩
    · have hgs := grown_set w2 vb 0 (.slice va' jl vc')
      have hx : Value.ownBlock (.slice va' jl vc') ≠ some vb := by
        rcases hat with e | ⟨k, e, hk⟩
        · rw [e]; exact h3
        · rw [e]; intro e'; injection e' with e'; simp at hk; omega
      have := (unhide Hr').kept hgs (.inr hx)
      rw [← unhide Hjl] at this ⊢
      exact this
    · exact heap_setCell_same w2 vb 0 _ 28 _ (unhide H2')
    · rcases hat with e | ⟨k, e, hk⟩
      · rw [e]; exact h3
      · rw [e]; intro e'; injection e' with e'; simp at hk; omega
    · exact (((hb0.mono hNw)).grown (unhide Hg') (by simp; omega) (fun k e => ((unhide H1).lt k e).1)).setCell (p := ⟨vb, 0, none⟩) hN _
    · exact ((Keep51.below hb0).trans (keep51_grown (unhide H1) (unhide Hg'))).trans (keep51_set (unhide H2'))
  · have HS := hide (hS.below hb0)
    clear hS
    go_enter Try.func30, Try.ntmps30
    go_wp2
    exact bodyPost_end (v := .tuple #[]) (results_none rfl _ _ _) rfl ⟨rfl, unhide HS, hb0.mono hNw, Keep51.below hb0⟩

end Go.Proofs.Ytjhndbfhiknngaa

/- Walks: Sweep. -/
namespace Go.Proofs.Ytjhndbfhiknngaa
set_option linter.unusedSimpArgs false
set_option linter.unusedVariables false
open Go.RowKit Go.Shelf

theorem apart_le {l : List (Nat × Nat)} {e : Nat} (h : Apart l e) : ∀ x ∈ l, x.1 + x.2 ≤ e := by
  have key : ∀ (d i : Nat) (x : Nat × Nat), i + d + 1 = l.length → l[i]? = some x → x.1 + x.2 ≤ e := by
    intro d
    induction d with
    | zero =>
      intro i x hi hx
      refine h.2.2 x ?_
      rw [List.getLast?_eq_getElem?, show l.length - 1 = i by omega]
      exact hx
    | succ d ih =>
      intro i x hi hx
      have hlt : i + 1 < l.length := by omega
      have h1 := h.2.1 i x l[i + 1] hx (List.getElem?_eq_getElem hlt)
      have h2 := ih (i + 1) l[i + 1] (by omega) (List.getElem?_eq_getElem hlt)
      omega
  intro x hx
  obtain ⟨i, hi⟩ := List.getElem?_of_mem hx
  have hlt := (List.getElem?_eq_some_iff.1 hi).1
  exact key (l.length - i - 1) i x (by omega) hi

/-- A slice of blocks, below block B. -/
def Blks (B : Nat) (w : World) (a : Option Addr) (l : List (Nat × Nat)) : Prop :=
  l.length ≤ 9223372036854775807 ∧ (l ≠ [] → ∃ b off, a = some ⟨b, off, none⟩ ∧ b < B ∧ ∀ k x, l[k]? = some x → w.cell? ⟨b, off + k * 2, none⟩ = some (.int .i64 (x.1 : Nat)) ∧ w.cell? ⟨b, off + k * 2 + 1, none⟩ = some (.int .i64 (x.2 : Nat)))

theorem Blks.below {B : Nat} {w w' : World} {a : Option Addr} {l : List (Nat × Nat)} (h : Blks B w a l) (hb : Below B w w') : Blks B w' a l := by
  refine ⟨h.1, fun hne => ?_⟩
  obtain ⟨b, off, rfl, hB, hc⟩ := h.2 hne
  refine ⟨b, off, rfl, hB, fun k v hk => ?_⟩
  rw [hb.cell (p := ⟨b, off + k * 2, none⟩) hB, hb.cell (p := ⟨b, off + k * 2 + 1, none⟩) hB]
  exact hc k v hk

theorem Blks.mono {B B' : Nat} {w : World} {a : Option Addr} {l : List (Nat × Nat)} (h : Blks B w a l) (hb : B ≤ B') : Blks B' w a l := by
  refine ⟨h.1, fun hne => ?_⟩
  obtain ⟨b, off, rfl, hB, hc⟩ := h.2 hne
  exact ⟨b, off, rfl, by omega, hc⟩

theorem Blks.at {B : Nat} {w : World} {a : Option Addr} {l : List (Nat × Nat)} (h : Blks B w a l) {k : Nat} (hk : k < l.length) :
    ∃ b off p n, a = some ⟨b, off, none⟩ ∧ b < B ∧ w.cell? ⟨b, off + k * 2, none⟩ = some (.int .i64 (p : Nat)) ∧ w.cell? ⟨b, off + k * 2 + 1, none⟩ = some (.int .i64 (n : Nat)) ∧ Hid (l[k] = (p, n)) := by
  obtain ⟨b, off, rfl, hB, hc⟩ := h.2 (by intro e; subst e; simp at hk)
  exact ⟨b, off, l[k].1, l[k].2, rfl, hB, (hc k l[k] (by simp [hk])).1, (hc k l[k] (by simp [hk])).2, rfl⟩

theorem blks_of_owns {w : World} {base : Nat} {e : TypeId} {v : Value} {n : Nat} {l : List (Nat × Nat)} (h : w.ownsRow base e 2 v n (cellsB l)) (hn : n = l.length) (hs : n ≤ 9223372036854775807) :
    ∃ a cap, v = .slice a l.length cap ∧ Blks w.heap.size w a l := by
  obtain ⟨_, h2⟩ := h
  rcases h2 with ⟨rfl, h0⟩ | ⟨g, cap, cur, rfl, hb, hg, hc1, hc2, hc3, htake⟩
  · refine ⟨none, 0, by rw [← hn, h0], ⟨by omega, fun hne => ?_⟩⟩
    have : l = [] := List.eq_nil_of_length_eq_zero (by omega)
    exact absurd this hne
  · refine ⟨_, cap, by rw [hn], ⟨by omega, fun _ => ⟨g, 0, rfl, (Array.getElem?_eq_some_iff.1 hg).1, fun k v hk => ?_⟩⟩⟩
    obtain ⟨h1, h2⟩ := cellsB_get l k v hk
    rw [← htake] at h1 h2
    rw [List.getElem?_take] at h1 h2
    have hcell : ∀ j u, (if j < n * 2 then cur.toList[j]? else none) = some u → w.cell? ⟨g, 0 + j, none⟩ = some u := by
      intro j u hj
      split at hj
      · rw [Nat.zero_add, cell_of_row w g j cur e (0, 0) hg]; simpa using hj
      · cases hj
    exact ⟨hcell _ _ h1, by have := hcell _ _ h2; simpa [Nat.add_assoc] using this⟩

theorem swEach (N vb cap : Nat) (a : Option Addr) (hs : List Int) (fs : List (List Int)) (rs : List Int) (w : World) (hA : Arn hs fs rs) (hW : Wds N w a (joinW hs fs)) (hN : N ≤ vb) (hS : SwS N vb [] w) :
    Calls Try.prog 29 #[.slice a (tot fs : Nat) cap, .func (.func 30) #[] #[.pointer (some ⟨vb, 0, none⟩)]] w fun e w' => e = .returned (.tuple #[]) ∧ SwS N vb (sweepL hs fs fs.length) w' ∧ Below N w w' := by
  have hF := hA.fit
  refine each30_c _ a cap fs (fun k W => SwS N vb (sweepL hs fs k) W ∧ Below N w W) w hA.n256 ⟨hS, Below.refl _ _⟩ ?_
  intro k hk W hI
  obtain ⟨hSW, hbW⟩ := hI
  obtain ⟨x, hx, hx1, hx2, hx3, hx4⟩ := fit_at hF hk
  have hpl := place_lt hk
  have hjl := joinW_len hs fs hF.len
  have hlt : tot (fs.take k) < (joinW hs fs).length := by omega
  obtain ⟨b, off, ha, hbN, hc⟩ := (hW.below hbW).at hlt
  subst ha
  have hg := joinW_get hs fs k hF.len hk
  rw [hx] at hg
  rw [(List.getElem?_eq_some_iff.1 hg).2] at hc
  have hkm : W.heap.size ≤ W.heap.size := Nat.le_refl _
  have hNW : N ≤ W.heap.size := by obtain ⟨v, _, h2, _⟩ := hSW; have := (Array.getElem?_eq_some_iff.1 h2).1; omega
  refine ⟨b, off, x, rfl, hc, hx3, hx4, hx1, hx2, fun W' hb' => ?_⟩
  have hap := sweep_apart hF k (by omega)
  have hsl := sweep_len hs fs k
  have htl := tot_len fs
  have h256 := hA.n256
  refine (sw1_c N vb (sweepL hs fs k) (tot (fs.take k)) fs[k].length (uhM x) (uhA x) W' (hSW.below hb') hN (fun y hy => by have := apart_le hap y hy; omega) (by omega) (by omega) (by rw [← hx2]; exact wlen_le hx1)).mono ?_
  rintro e W2 ⟨rfl, h1, h2, h3⟩
  refine ⟨rfl, ⟨?_, (hbW.trans (hb'.mono hNW)).trans h2⟩, h3, h2.size⟩
  cases hm : uhM x
  · rw [sweep_no hx hk hm]; rw [hm] at h1; exact h1
  · rw [sweep_yes hx hm]; rw [hm] at h1; exact h1

/-- What Sweep tells. -/
def SwRes (ws rs : List Int) (e : Ending) (W : World) : Prop :=
  (arenaE ws rs ≠ 0 ∧ e = .returned (.tuple #[.slice none 0 0, .int .i64 (arenaE ws rs)])) ∨
  (arenaE ws rs = 0 ∧ ∃ hs fs a c, Arn hs fs rs ∧ ws = joinW hs fs ∧ e = .returned (.tuple #[.slice a (sweepL hs fs fs.length).length c, .int .i64 0]) ∧ Blks W.heap.size W a (sweepL hs fs fs.length))

set_option maxRecDepth 100000 in
set_option maxHeartbeats 2000000 in
theorem sweep_c (aw ar : Option Addr) (cw cr : Nat) (ws rs : List Int) (B : Nat) (w : World) (hW : Wds B w aw ws) (hR : Wds B w ar rs) (hUW : U64 ws) (hUR : U64 rs) (hB : B ≤ w.heap.size) (hcap : ws.length ≤ cw) :
    Calls Try.prog 9 #[.agg #[.slice aw ws.length cw, .slice ar rs.length cr]] w fun e w' => SwRes ws rs e w' ∧ Below w.heap.size w w' := by
  obtain ⟨W1, hW1⟩ : ∃ W1, w.alloc (.cells #[.slice aw ws.length cw, .slice ar rs.length cr] 24) = W1 := ⟨_, rfl⟩
  have hb1 : Below w.heap.size w W1 := by rw [← hW1]; exact (Below.refl w.heap.size w).alloc (Nat.le_refl _) _
  have hs1 : w.heap.size < W1.heap.size := by rw [← hW1]; simp
  have g0 : W1.cell? ⟨w.heap.size, 0, none⟩ = some (.slice aw ws.length cw) := by rw [← hW1]; simp [go_sem]
  have g1 : W1.cell? ⟨w.heap.size, 1, none⟩ = some (.slice ar rs.length cr) := by rw [← hW1]; simp [go_sem]
  have Hc1 := hide (acheck_c aw ar cw cr ws rs B W1 (hW.below (hb1.mono hB)) (hR.below (hb1.mono hB)) hUW hUR (by omega) hcap)
  go_enter Try.func9, Try.ntmps9
  go_wp2_with fail
  refine (unhide Hc1).mono ?_
  rintro e w2 ⟨rfl, hb2⟩
  clear hW1 Hc1
  have hs2 := hb2.size
  have hbw2 : Below w.heap.size w w2 := hb1.trans (hb2.mono (by omega))
  replace g0 := (hb2.cell (p := ⟨w.heap.size, 0, none⟩) hs1).trans g0
  replace g1 := (hb2.cell (p := ⟨w.heap.size, 1, none⟩) hs1).trans g1
  have hl2 : w.heap.size < w2.heap.size := by omega
  clear hb1 hb2
  by_cases hE : arenaE ws rs = 0
  · obtain ⟨hs, fs, hA, hws⟩ := arn_of hUW hUR hE
    have hjl : tot fs = ws.length := by rw [hws, joinW_len _ _ hA.fit.len]
    have HE := hide hE
    rw [hE]
    obtain ⟨W2, hW2⟩ : ∃ W2, w2.alloc (.cells #[.slice none 0 0] 28) = W2 := ⟨_, rfl⟩
    have hb2' : Below w2.heap.size w2 W2 := by rw [← hW2]; exact (Below.refl _ _).alloc (Nat.le_refl _) _
    have hs2' : w2.heap.size < W2.heap.size := by rw [← hW2]; simp
    have hv2 : W2.heap[w2.heap.size]? = some (.cells #[.slice none 0 0] 28) := by rw [← hW2]; exact heap_alloc_new _ _
    replace g0 := (hb2'.cell (p := ⟨w.heap.size, 0, none⟩) hl2).trans g0
    have hbW2 : Below w.heap.size w W2 := hbw2.trans (hb2'.mono (by omega))
    have Hc2 : Hid (Calls Try.prog 29 #[.slice aw ws.length cw, .func (.func 30) #[] #[.pointer (some ⟨w2.heap.size, 0, none⟩)]] W2 fun e w' => e = .returned (.tuple #[]) ∧ SwS w2.heap.size w2.heap.size (sweepL hs fs fs.length) w' ∧ Below w2.heap.size W2 w') := by
      have := swEach w2.heap.size w2.heap.size cw aw hs fs rs W2 hA (by rw [← hws]; exact ((hW.below (hbW2.mono hB)).mono (by omega))) (Nat.le_refl _) ⟨.slice none 0 0, World.ownsRow_nil _ _ _ _, hv2, by simp [Value.ownBlock]⟩
      rw [hjl] at this
      exact this
    have hsl := sweep_len hs fs fs.length
    have htl := tot_len fs
    have h256 := hA.n256
    have Hfin : Hid (∀ a c W, Blks W.heap.size W a (sweepL hs fs fs.length) → SwRes ws rs (.returned (.tuple #[.slice a (sweepL hs fs fs.length).length c, .int .i64 0])) W) := fun a c W h => .inr ⟨unhide HE, hs, fs, a, c, hA, hws, rfl, h⟩
    have hl2' : w.heap.size < W2.heap.size := by omega
    clear hE hv2 hA hws hjl hW hR
    generalize sweepL hs fs fs.length = SL at *
    go_wp2_with fail
    refine (unhide Hc2).mono ?_
    rintro e w3 ⟨rfl, ⟨v, hr3, hv3, _⟩, hb3⟩
    obtain ⟨a, c, hv, hBl⟩ := blks_of_owns hr3 rfl (by omega)
    subst hv
    have c3 := cell_of_box hv3
    have hl3 : w2.heap.size < w3.heap.size := (Array.getElem?_eq_some_iff.1 hv3).1
    have HBl := hide hBl
    clear hr3 hv3 hBl Hc2 hW2
    go_wp2
    go_ret2
    exact ⟨unhide Hfin a c w3 (unhide HBl), hbW2.trans (hb3.mono (by omega))⟩
  · have HE := hide hE
    have Hfin : Hid (∀ W, SwRes ws rs (.returned (.tuple #[.slice none 0 0, .int .i64 (arenaE ws rs)])) W) := fun W => .inl ⟨unhide HE, rfl⟩
    generalize arenaE ws rs = E at *
    have d0 : (E != 0) = true := by simpa using hE
    clear hE
    go_wp2
    go_ret2
    exact ⟨unhide Hfin _, hbw2⟩

end Go.Proofs.Ytjhndbfhiknngaa

/- Walks: the document's Plain; headers in memory. -/
namespace Go.Proofs.Ytjhndbfhiknngaa
set_option linter.unusedSimpArgs false
set_option linter.unusedVariables false
open Go.RowKit Go.Shelf

theorem Try.info51 : (Try.prog.info? 51).map (fun i => (i.zero, i.size, i.bytes)) = some (some (.agg #[.int .i64 0, .bool false, .int .i64 0]), 3, 24) := by kernel_rfl
theorem Try.info2 : (Try.prog.info? 2).map (fun i => (i.zero, i.size, i.bytes)) = some (some (.int .i64 0), 1, 8) := by kernel_rfl

theorem cell_three_at (w : World) (x y z : Value) (t : TypeId) (m : Nat) (hm : m = w.heap.size) : ∀ j u, [x, y, z][j]? = some u → (w.alloc (.cells #[x, y, z] t)).cell? ((⟨m, 0, none⟩ : Addr).add j) = some u := by
  subst hm
  intro j u h
  have hadd : (⟨w.heap.size, 0, none⟩ : Addr).add j = ⟨w.heap.size, j, none⟩ := by unfold Addr.add; split <;> simp_all
  rw [hadd]
  match j, h with
  | 0, h => simp at h; subst h; simp [go_sem]
  | 1, h => simp at h; subst h; simp [go_sem]
  | 2, h => simp at h; subst h; simp [go_sem]
  | j + 3, h => simp at h

/-- A header: how many fields, its mark, its age. -/
abbrev Hd := Int × Bool × Int
def hW (h : Hd) : Int := headW h.1 h.2.1 h.2.2
def cellsH (l : List Hd) : List Value := l.flatMap fun h => [.int .i64 h.1, .bool h.2.1, .int .i64 h.2.2]
theorem cellsH_snoc (l : List Hd) (h : Hd) : cellsH (l ++ [h]) = cellsH l ++ [.int .i64 h.1, .bool h.2.1, .int .i64 h.2.2] := by simp [cellsH]

theorem cellsH_get : ∀ (l : List Hd) (k : Nat) (h : Hd), l[k]? = some h → (cellsH l)[k * 3]? = some (.int .i64 h.1) ∧ (cellsH l)[k * 3 + 1]? = some (.bool h.2.1) ∧ (cellsH l)[k * 3 + 2]? = some (.int .i64 h.2.2)
  | [], _, _, h => by simp at h
  | x :: l, 0, v, h => by simp at h; subst h; simp [cellsH]
  | x :: l, k + 1, v, h => by
    have := cellsH_get l k v (by simpa using h)
    have e1 : (k + 1) * 3 = k * 3 + 1 + 1 + 1 := by omega
    rw [e1]
    simp only [cellsH, List.flatMap_cons, List.cons_append, List.nil_append, List.getElem?_cons_succ]
    exact this

/-- A slice of headers, below block B. -/
def Hdrs (B : Nat) (w : World) (a : Option Addr) (l : List Hd) : Prop :=
  l.length ≤ 9223372036854775807 ∧ (l ≠ [] → ∃ b off, a = some ⟨b, off, none⟩ ∧ b < B ∧ ∀ k h, l[k]? = some h → w.cell? ⟨b, off + k * 3, none⟩ = some (.int .i64 h.1) ∧ w.cell? ⟨b, off + k * 3 + 1, none⟩ = some (.bool h.2.1) ∧ w.cell? ⟨b, off + k * 3 + 2, none⟩ = some (.int .i64 h.2.2))

theorem Hdrs.below {B : Nat} {w w' : World} {a : Option Addr} {l : List Hd} (h : Hdrs B w a l) (hb : Below B w w') : Hdrs B w' a l := by
  refine ⟨h.1, fun hne => ?_⟩
  obtain ⟨b, off, rfl, hB, hc⟩ := h.2 hne
  refine ⟨b, off, rfl, hB, fun k v hk => ?_⟩
  rw [hb.cell (p := ⟨b, off + k * 3, none⟩) hB, hb.cell (p := ⟨b, off + k * 3 + 1, none⟩) hB, hb.cell (p := ⟨b, off + k * 3 + 2, none⟩) hB]
  exact hc k v hk

theorem Hdrs.mono {B B' : Nat} {w : World} {a : Option Addr} {l : List Hd} (h : Hdrs B w a l) (hb : B ≤ B') : Hdrs B' w a l := by
  refine ⟨h.1, fun hne => ?_⟩
  obtain ⟨b, off, rfl, hB, hc⟩ := h.2 hne
  exact ⟨b, off, rfl, by omega, hc⟩

theorem Hdrs.at {B : Nat} {w : World} {a : Option Addr} {l : List Hd} (h : Hdrs B w a l) {k : Nat} (hk : k < l.length) :
    ∃ b off n m e, a = some ⟨b, off, none⟩ ∧ b < B ∧ w.cell? ⟨b, off + k * 3, none⟩ = some (.int .i64 n) ∧ w.cell? ⟨b, off + k * 3 + 1, none⟩ = some (.bool m) ∧ w.cell? ⟨b, off + k * 3 + 2, none⟩ = some (.int .i64 e) ∧ Hid (l[k] = (n, m, e)) := by
  obtain ⟨b, off, rfl, hB, hc⟩ := h.2 (by intro e; subst e; simp at hk)
  obtain ⟨h1, h2, h3⟩ := hc k l[k] (by simp [hk])
  exact ⟨b, off, l[k].1, l[k].2.1, l[k].2.2, rfl, hB, h1, h2, h3, rfl⟩

theorem hdrs_of_owns {w : World} {base : Nat} {e : TypeId} {v : Value} {n : Nat} {l : List Hd} (h : w.ownsRow base e 3 v n (cellsH l)) (hn : n = l.length) (hs : n ≤ 9223372036854775807) :
    ∃ a cap, v = .slice a l.length cap ∧ Hdrs w.heap.size w a l := by
  obtain ⟨_, h2⟩ := h
  rcases h2 with ⟨rfl, h0⟩ | ⟨g, cap, cur, rfl, hb, hg, hc1, hc2, hc3, htake⟩
  · refine ⟨none, 0, by rw [← hn, h0], ⟨by omega, fun hne => ?_⟩⟩
    have : l = [] := List.eq_nil_of_length_eq_zero (by omega)
    exact absurd this hne
  · refine ⟨_, cap, by rw [hn], ⟨by omega, fun _ => ⟨g, 0, rfl, (Array.getElem?_eq_some_iff.1 hg).1, fun k v hk => ?_⟩⟩⟩
    obtain ⟨h1, h2, h3⟩ := cellsH_get l k v hk
    rw [← htake] at h1 h2 h3
    rw [List.getElem?_take] at h1 h2 h3
    have hcell : ∀ j u, (if j < n * 3 then cur.toList[j]? else none) = some u → w.cell? ⟨g, 0 + j, none⟩ = some u := by
      intro j u hj
      split at hj
      · rw [Nat.zero_add, cell_of_row w g j cur e (0, 0) hg]; simpa using hj
      · cases hj
    exact ⟨hcell _ _ h1, by have := hcell _ _ h2; simpa [Nat.add_assoc] using this, by have := hcell _ _ h3; simpa [Nat.add_assoc] using this⟩

/-- Headers of objects, not marked, of age 0. -/
def plainH (L : List (List V)) : List Hd := L.map fun o => ((o.length : Int), false, 0)
theorem plainH_len (L : List (List V)) : (plainH L).length = L.length := by simp [plainH]
theorem plainH_succ {L : List (List V)} {k : Nat} (h : k < L.length) : cellsH (plainH (L.take (k + 1))) = cellsH (plainH (L.take k)) ++ [.int .i64 (L[k].length : Int), .bool false, .int .i64 0] := by
  rw [List.take_succ_eq_append_getElem h]; simp only [plainH, List.map_append, List.map_cons, List.map_nil, cellsH_snoc]

end Go.Proofs.Ytjhndbfhiknngaa

/- Walks: the document's Heads. -/
namespace Go.Proofs.Ytjhndbfhiknngaa
set_option linter.unusedSimpArgs false
set_option linter.unusedVariables false
open Go.RowKit Go.Shelf

/-- The headers of words. -/
def headsH (hs : List Int) : List Hd := hs.map fun x => (uhL x, uhM x, uhA x)
theorem headsH_len (hs : List Int) : (headsH hs).length = hs.length := by simp [headsH]
theorem headsH_succ {hs : List Int} {k : Nat} {x : Int} (hx : hs[k]? = some x) : headsH (hs.take (k + 1)) = headsH (hs.take k) ++ [(uhL x, uhM x, uhA x)] := by
  have hk := (List.getElem?_eq_some_iff.1 hx).1
  rw [List.take_succ_eq_append_getElem hk, (List.getElem?_eq_some_iff.1 hx).2]
  simp [headsH]

theorem owns_mono {w : World} {base base' : Nat} {e : TypeId} {size : Nat} {v : Value} {n : Nat} {xs : List Value} (h : w.ownsRow base e size v n xs) (hb : base' ≤ base) : w.ownsRow base' e size v n xs := by
  refine ⟨h.1, ?_⟩
  rcases h.2 with h2 | ⟨g, cap, cur, h1, h2, h3⟩
  · exact .inl h2
  · exact .inr ⟨g, cap, cur, h1, by omega, h3⟩

set_option maxRecDepth 100000 in
set_option maxHeartbeats 2000000 in
theorem heads_c (aw ar : Option Addr) (cw nr cr : Nat) (ws : List Int) (hs : List Int) (fs : List (List Int)) (B : Nat) (w : World) (hW : Wds B w aw ws) (hUW : U64 ws) (hB : B ≤ w.heap.size) (hF : Fit hs fs) (hws : ws = joinW hs fs) (h256 : ws.length ≤ 256) :
    Calls Try.prog 24 #[.agg #[.slice aw ws.length cw, .slice ar nr cr]] w fun e w' => (∃ v, e = .returned v ∧ w'.ownsRow w.heap.size 51 3 v hs.length (cellsH (headsH hs))) ∧ Below w.heap.size w w' := by
  obtain ⟨i0, hi0, hz0, hz1, hz2⟩ := info_parts Try.info51
  have hsp : splitR ws = some fs := by rw [hws]; exact fit_split hF
  have htot : tot fs = ws.length := by rw [hws, joinW_len _ _ hF.len]
  obtain ⟨W1, hW1⟩ : ∃ W1, w.alloc (.cells #[.slice aw ws.length cw, .slice ar nr cr] 24) = W1 := ⟨_, rfl⟩
  have hb1 : Below w.heap.size w W1 := by rw [← hW1]; exact (Below.refl w.heap.size w).alloc (Nat.le_refl _) _
  have hs1 : w.heap.size < W1.heap.size := by rw [← hW1]; simp
  have g0 : W1.cell? ⟨w.heap.size, 0, none⟩ = some (.slice aw ws.length cw) := by rw [← hW1]; simp [go_sem]
  have Hc1 := hide (rstarts_c aw cw ws B W1 (hW.below (hb1.mono hB)) hUW (by omega) h256)
  have Hw : Hid (∀ k x, hs[k]? = some x → ws[tot (fs.take k)]? = some x) := fun k x hx => by
    have hk : k < fs.length := by have := (List.getElem?_eq_some_iff.1 hx).1; have := hF.len; omega
    rw [hws, joinW_get _ _ _ hF.len hk]; exact hx
  have Hat : Hid (∀ k, k < fs.length → ∃ x, hs[k]? = some x ∧ unheadOk x = true ∧ wlen x = (fs.getD k []).length ∧ 0 ≤ x ∧ x < 18446744073709551616) := fun k hk => by
    obtain ⟨x, h1, h2, h3, h4⟩ := fit_at hF hk
    exact ⟨x, h1, h2, by rw [List.getD_eq_getElem?_getD, List.getElem?_eq_getElem hk]; exact h3, h4⟩
  have hlen : hs.length ≤ fs.length := by have := hF.len; omega
  have hlen' : fs.length ≤ hs.length := by have := hF.len; omega
  have htl := tot_len fs
  have Hsp := hide hsp
  have htw : tot fs ≤ ws.length := by omega
  clear hF hws hsp htot
  go_enter Try.func24, Try.ntmps24
  go_wp2_with fail
  refine (unhide Hc1).mono ?_
  rintro e w2 ⟨hres, hb2⟩
  obtain ⟨fs', sa, sc, hfs', he, hI⟩ := hres.resolve_left (fun h => by have := unhide Hsp; rw [h.1] at this; cases this)
  obtain rfl : fs' = fs := by have := unhide Hsp; rw [hfs'] at this; injection this
  subst he
  have hs2 := hb2.size
  have hbw2 : Below w.heap.size w w2 := hb1.trans (hb2.mono (by omega))
  replace g0 := (hb2.cell (p := ⟨w.heap.size, 0, none⟩) hs1).trans g0
  have hl2 : w.heap.size < w2.heap.size := by omega
  have HI := hide hI
  have HW := hide (hW.below (hbw2.mono hB))
  have hst : (stF 0 fs').length = fs'.length := stF_len fs' 0
  have hst1 : (stF 0 fs').length ≤ fs'.length := by omega
  have hst2 : fs'.length ≤ (stF 0 fs').length := by omega
  have Hsg := hide (fun k hk => stF_get fs' 0 k hk)
  clear hW1 Hc1 hres hfs' hI hb1 hb2 hst hW
  go_wp2
  go_loopw [5, 18] (fun s i wr => ∃ k : Nat, k ≤ fs'.length ∧ i = .int .i64 k ∧ wr.ownsRow w2.heap.size 51 3 s k (cellsH (headsH (hs.take k))) ∧ Below w2.heap.size w2 wr) (fun _ i _ => fs'.length - (intOf i).toNat)
  case atStart => exact ⟨0, Nat.zero_le _, rfl, by simpa [cellsH, headsH] using World.ownsRow_nil _ _ _ _, Below.refl _ _⟩
  case round =>
    obtain ⟨k, hk, rfl, hown, hb⟩ := hrel
    have hsz := hb.size
    have g0r := (hb.cell (p := ⟨w.heap.size, 0, none⟩) hl2).trans g0
    have hlr : w.heap.size < wr.heap.size := by omega
    by_cases hlt : k < fs'.length
    · obtain ⟨x, hx, hx1, hx2, hx3, hx4⟩ := unhide Hat k hlt
      have hltS : k < (stF 0 fs').length := by omega
      obtain ⟨b1, o1, rfl, hB1, hc1⟩ := ((unhide HI).below hb).at hltS
      have h1 := unhide Hsg k hlt
      rw [List.getElem?_eq_getElem hltS, Option.some.injEq, Nat.zero_add] at h1
      rw [h1] at hc1
      have hwx := unhide Hw k x hx
      have hpl : tot (fs'.take k) < ws.length := (List.getElem?_eq_some_iff.1 hwx).1
      obtain ⟨b2, o2, rfl, hB2, hc2⟩ := ((unhide HW).below (hb.mono (by omega))).at hpl
      rw [(List.getElem?_eq_some_iff.1 hwx).2] at hc2
      have HS := hide (headsH_succ hx)
      have hkI : (k : Int) < ((stF 0 fs').length : Int) := by omega
      have hpI : ((tot (fs'.take k) : Nat) : Int) < (ws.length : Int) := by omega
      have hq1 : b1 < wr.heap.size := by omega
      have hq2 : b2 < wr.heap.size := by omega
      clear h1 hwx hx hx2
      generalize tot (fs'.take k) = q at *
      generalize (stF 0 fs').length = sl at *
      go_wp2_with (first
        | (go_at_call 34; go_must (refine (runhead_c x _ hx3 hx4).mono ?_); go_must (rintro e w3 ⟨he, hb3⟩; subst he; have hs3 := hb3.size; have hown3 := ownsRow_below hown hb3))
        | (at_builtin; go_must (refine wpList_append_own _ rfl _ _ 58 rfl w2.heap.size 51 i0 _ 3 24 Try.underlying58 hi0 hz0 hz1 hz2 rfl (by decide) _ _ _ rfl ((hown3.alloc _).alloc _) ⟨w3.heap.size + 1, 0, none⟩ 1 1 [.int .i64 (uhL x), .bool (uhM x), .int .i64 (uhA x)] rfl rfl (cell_three_at _ _ _ _ _ _ (by simp)) (by simp [Value.oneCell']) (by simp only [maxLen]; omega) (by omega) (by simp; omega) ?_); intro v' w1 hown' hgrow _))
      go_roundw
      case rel => exact ⟨k + 1, by omega, by go_num, by rw [unhide HS, cellsH_snoc]; exact hown', (((hb.trans (hb3.mono hsz)).alloc (by omega) _).alloc (by simp; omega) _).grown hgrow (by simp; omega) (fun q e => (hown3.lt q e).1)⟩
      case measure => simp [intOf]; omega
    · obtain rfl : k = fs'.length := by omega
      have hkI : ¬ ((fs'.length : Int) < ((stF 0 fs').length : Int)) := by omega
      have Hown : Hid (wr.ownsRow w.heap.size 51 3 u5 fs'.length (cellsH (headsH hs))) := by
        have := owns_mono (base' := w.heap.size) hown (by omega)
        rw [List.take_of_length_le hlen] at this
        exact this
      have Hln : Hid (hs.length = fs'.length) := by show _ = _; omega
      clear hown
      go_wp2
      go_ret
      refine ⟨⟨_, rfl, ?_⟩, hbw2.trans (hb.mono (by omega))⟩
      rw [unhide Hln]
      exact unhide Hown

end Go.Proofs.Ytjhndbfhiknngaa
