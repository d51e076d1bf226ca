/- Walks: asGraph. -/
import Derived.Test.YtahdalejmfbkeaaBd
import Derived.Test.YtahdalejmfbkeaaWp
import Derived.Test.YtahdalejmfbkeaaWr
namespace Go.Proofs.Ytahdalejmfbkeaa
set_option linter.unusedSimpArgs false
set_option linter.unusedVariables false
open Go.RowKit Go.Shelf

theorem Try.info51' : (Try.prog.info? 51).map (fun i => (i.zero, i.size, i.bytes)) = some (some (.agg #[.slice none 0 0]), 1, 24) := by kernel_rfl

/-- A slice of slices of words, below block B. -/
def FTab (B : Nat) (w : World) (a : Option Addr) (F : List (List Int)) : Prop :=
  F.length ≤ 9223372036854775807 ∧ (F ≠ [] → ∃ b off, a = some ⟨b, off, none⟩ ∧ b < B ∧ ∀ k l, F[k]? = some l → ∃ ai ci, w.cell? ⟨b, off + k, none⟩ = some (.slice ai l.length ci) ∧ Wds B w ai l)

theorem FTab.below {B : Nat} {w w' : World} {a : Option Addr} {F : List (List Int)} (h : FTab B w a F) (hb : Below B w w') : FTab B w' a F := by
  refine ⟨h.1, fun hne => ?_⟩
  obtain ⟨b, off, rfl, hB, hc⟩ := h.2 hne
  refine ⟨b, off, rfl, hB, fun k v hk => ?_⟩
  obtain ⟨ai, ci, h1, h2⟩ := hc k v hk
  refine ⟨ai, ci, ?_, h2.below hb⟩
  rw [hb.cell (p := ⟨b, off + k, none⟩) hB]
  exact h1

theorem FTab.at {B : Nat} {w : World} {a : Option Addr} {F : List (List Int)} (h : FTab B w a F) {k : Nat} (hk : k < F.length) :
    ∃ b off ai ci, a = some ⟨b, off, none⟩ ∧ b < B ∧ w.cell? ⟨b, off + k, none⟩ = some (.slice ai F[k].length ci) ∧ Wds B w ai F[k] := by
  obtain ⟨b, off, rfl, hB, hc⟩ := h.2 (by intro e; subst e; simp at hk)
  obtain ⟨ai, ci, h1, h2⟩ := hc k F[k] (by simp [hk])
  exact ⟨b, off, ai, ci, rfl, hB, h1, h2⟩

theorem Rowd.tab {W : World} {B mb : Nat} {D : List (List Int)} {vs vf : Value} {es : List Value} {M : DataW Unit} (h : Rowd W W B mb D vs vf es M) (hB : B ≤ W.heap.size) (hs : D.length ≤ 256) : ∃ a cap, vf = .slice a D.length cap ∧ FTab W.heap.size W a D := by
  rcases h.fl.2 with ⟨rfl, h0⟩ | ⟨g, cap, cur, rfl, hb, hg, hc1, hc2, hc3, htake⟩
  · refine ⟨none, 0, by rw [h0], by omega, fun hne => ?_⟩
    exact absurd (List.eq_nil_of_length_eq_zero h0) hne
  · refine ⟨_, cap, rfl, by omega, fun _ => ⟨g, 0, rfl, (Array.getElem?_eq_some_iff.1 hg).1, fun k l hk => ?_⟩⟩
    obtain ⟨ai, ci, h1, h2⟩ := h.el k l hk
    refine ⟨ai, ci, ?_, h2.mono hB⟩
    rw [← htake, List.getElem?_take] at h1
    rw [Nat.zero_add, cell_of_row W g k cur 22 (0, 0) hg]
    split at h1
    · simpa using h1
    · cases h1

def objsOf (st : List Int) (fs : List (List Int)) : List (List V) := fs.map fun f => f.map (valW st)
theorem objsOf_len (st : List Int) (fs : List (List Int)) : (objsOf st fs).length = fs.length := by simp [objsOf]
theorem objsOf_succ (st : List Int) {fs : List (List Int)} {k : Nat} (h : k < fs.length) : objsOf st (fs.take (k + 1)) = objsOf st (fs.take k) ++ [fs[k].map (valW st)] := by
  unfold objsOf; rw [List.take_succ_eq_append_getElem h, List.map_append]; rfl

/-- A slice of objects in new memory. -/
def ObjsF (base : Nat) (W : World) (a : Option Addr) (L : List (List V)) : Prop :=
  L.length ≤ 9223372036854775807 ∧ (L ≠ [] → ∃ b off, a = some ⟨b, off, none⟩ ∧ base ≤ b ∧ b < W.heap.size ∧ ∀ k l, L[k]? = some l → ∃ ai ci, W.cell? ⟨b, off + k, none⟩ = some (.slice ai l.length ci) ∧ Vals W.heap.size W ai l ∧ ∀ b off, ai = some ⟨b, off, none⟩ → base ≤ b)

theorem ObjsF.objs {base : Nat} {W : World} {a : Option Addr} {L : List (List V)} (h : ObjsF base W a L) : Objs W.heap.size W a L := by
  refine ⟨h.1, fun hne => ?_⟩
  obtain ⟨b, off, rfl, _, hB, hc⟩ := h.2 hne
  refine ⟨b, off, rfl, hB, fun k l hk => ?_⟩
  obtain ⟨ai, ci, h1, h2, _⟩ := hc k l hk
  exact ⟨ai, ci, h1, h2⟩

theorem ObjsF.below {base : Nat} {W W' : World} {a : Option Addr} {L : List (List V)} (h : ObjsF base W a L) (hb : Below W.heap.size W W') : ObjsF base W' a L := by
  refine ⟨h.1, fun hne => ?_⟩
  obtain ⟨b, off, rfl, h0, hB, hc⟩ := h.2 hne
  refine ⟨b, off, rfl, h0, by have := hb.size; omega, fun k l hk => ?_⟩
  obtain ⟨ai, ci, h1, h2, h3⟩ := hc k l hk
  exact ⟨ai, ci, (hb.cell (p := ⟨b, off + k, none⟩) hB).trans h1, (h2.below hb).mono hb.size, h3⟩

theorem ObjsF.setCell {base : Nat} {W : World} {a : Option Addr} {L : List (List V)} (h : ObjsF base W a L) {p : Addr} (hp : p.block < base) (u : Value) : ObjsF base (W.setCell p u) a L := by
  have hs : (W.setCell p u).heap.size = W.heap.size := by simp [World.setCell]
  refine ⟨h.1, fun hne => ?_⟩
  obtain ⟨b, off, rfl, h0, hB, hc⟩ := h.2 hne
  refine ⟨b, off, rfl, h0, by rw [hs]; exact hB, fun k l hk => ?_⟩
  obtain ⟨ai, ci, h1, h2, h3⟩ := hc k l hk
  refine ⟨ai, ci, (World.cell?_of_block (a := ⟨b, off + k, none⟩) (Below.heap_setCell W p u b (by omega))).trans h1, ?_, h3⟩
  rw [hs]
  exact h2.setCell p u (fun b' off' e => by have := h3 b' off' e; omega)

theorem ObjRow.objsF {W : World} {base : Nat} {v : Value} {L : List (List V)} {es : List Value} (h : ObjRow W base v L es) (hs : L.length ≤ 9223372036854775807) : ∃ a cap, v = .slice a L.length cap ∧ ObjsF base W a L := by
  rcases h.row.2 with ⟨rfl, h0⟩ | ⟨g, cap, cur, rfl, hb, hg, hc1, hc2, hc3, htake⟩
  · refine ⟨none, 0, by rw [h0], hs, fun hne => ?_⟩
    exact absurd (List.eq_nil_of_length_eq_zero h0) hne
  · refine ⟨_, cap, rfl, hs, fun _ => ⟨g, 0, rfl, hb, (Array.getElem?_eq_some_iff.1 hg).1, fun k l hk => ?_⟩⟩
    obtain ⟨ai, ci, h1, h2, h3⟩ := h.el k l hk
    refine ⟨ai, ci, ?_, h2.1, h3⟩
    rw [← htake, List.getElem?_take] at h1
    rw [Nat.zero_add, cell_of_row W g k cur 51 (0, 0) hg]
    split at h1
    · simpa using h1
    · cases h1

theorem ObjsF.base {base base' : Nat} {W : World} {a : Option Addr} {L : List (List V)} (h : ObjsF base W a L) (hb : base' ≤ base) : ObjsF base' W a L := by
  refine ⟨h.1, fun hne => ?_⟩
  obtain ⟨b, off, rfl, h0, hB, hc⟩ := h.2 hne
  refine ⟨b, off, rfl, by omega, hB, fun k l hk => ?_⟩
  obtain ⟨ai, ci, h1, h2, h3⟩ := hc k l hk
  exact ⟨ai, ci, h1, h2, fun b off e => by have := h3 b off e; omega⟩

/-- A slice of values in new memory. -/
def ValsF (base : Nat) (W : World) (a : Option Addr) (l : List V) : Prop := Vals W.heap.size W a l ∧ ∀ b off, a = some ⟨b, off, none⟩ → base ≤ b

theorem ValsF.below {base : Nat} {W W' : World} {a : Option Addr} {l : List V} (h : ValsF base W a l) (hb : Below W.heap.size W W') : ValsF base W' a l := ⟨(h.1.below hb).mono hb.size, h.2⟩
theorem ValsF.setCell {base : Nat} {W : World} {a : Option Addr} {l : List V} (h : ValsF base W a l) {p : Addr} (hp : p.block < base) (u : Value) : ValsF base (W.setCell p u) a l := by
  have hs : (W.setCell p u).heap.size = W.heap.size := by simp [World.setCell]
  refine ⟨?_, h.2⟩
  rw [hs]
  exact h.1.setCell p u (fun b' off' e => by have := h.2 b' off' e; omega)

def GRes (base : Nat) (fs : List (List Int)) (rs : List Int) (e : Ending) (W : World) : Prop :=
  ((rs ++ fs.flatten).all (okW (stF 0 fs)) = false ∧ e = .returned (.tuple #[.agg #[.slice none 0 0, .slice none 0 0], .int .i64 2])) ∨
  ((rs ++ fs.flatten).all (okW (stF 0 fs)) = true ∧ ∃ ao co ar cr, e = .returned (.tuple #[.agg #[.slice ao (objsOf (stF 0 fs) fs).length co, .slice ar (rs.map (valW (stF 0 fs))).length cr], .int .i64 0]) ∧ ObjsF base W ao (objsOf (stF 0 fs) fs) ∧ ValsF base W ar (rs.map (valW (stF 0 fs))))

set_option maxRecDepth 100000 in
set_option maxHeartbeats 4000000 in
theorem asGraph_c (va : Option Addr) (vl vc : Nat) (fa : Option Addr) (fc : Nat) (fs : List (List Int)) (mb n : Nat) (M : DataW Unit) (ar : Option Addr) (cr : Nat) (rs : List Int) (B : Nat) (w : World) (hT : FTab B w fa fs) (hr : Wds B w ar rs) (hUr : U64 rs) (hUf : ∀ f ∈ fs, U64 f) (hB : B ≤ w.heap.size) (h8 : rs.length ≤ 8) (h4 : ∀ f ∈ fs, f.length ≤ 4) (hfl : fs.length ≤ 256)
    (hmp : w.ownsMap Try.prog 3 (plainElem Try.prog 3) mb n M) (hpl : PlaceD M (stF 0 fs)) :
    Calls Try.prog 41 #[.agg #[.slice va vl vc, .slice fa fs.length fc, .map (some mb)], .slice ar rs.length cr] w fun e w' => GRes w.heap.size fs rs e w' ∧ Below w.heap.size w w' := by
  have hmb : mb < w.heap.size := by obtain ⟨_, _, h, _⟩ := hmp; exact (Array.getElem?_eq_some_iff.1 h).1
  obtain ⟨i0, hi, hz0, hz1, hz2⟩ := info_parts Try.info51'
  obtain ⟨W4, hW4⟩ : ∃ W4, (w.alloc (.cells #[.slice va vl vc, .slice fa fs.length fc, .map (some mb)] 79)).alloc (.cells #[.slice none 0 0, .slice none 0 0] 33) = W4 := ⟨_, rfl⟩
  have hb1 : Below w.heap.size w W4 := by rw [← hW4]; exact ((Below.refl w.heap.size w).alloc (Nat.le_refl _) _).alloc (by simp) _
  have hs4 : w.heap.size + 1 < W4.heap.size := by rw [← hW4]; simp
  have q0 : W4.cell? ⟨w.heap.size + 1, 0, none⟩ = some (.slice none 0 0) := by rw [← hW4]; simp [go_sem]
  have q1 : W4.cell? ⟨w.heap.size + 1, 1, none⟩ = some (.slice none 0 0) := by rw [← hW4]; simp [go_sem]
  have f0 : W4.frozen? ⟨w.heap.size + 1, 0, none⟩ = false := by rw [← hW4]; simp [go_sem]
  have f1 : W4.frozen? ⟨w.heap.size + 1, 1, none⟩ = false := by rw [← hW4]; simp [go_sem]
  have g0 : W4.cell? ⟨w.heap.size, 0, none⟩ = some (.slice va vl vc) := by rw [← hW4]; simp [go_sem]
  have g1 : W4.cell? ⟨w.heap.size, 1, none⟩ = some (.slice fa fs.length fc) := by rw [← hW4]; simp [go_sem]
  have g2 : W4.cell? ⟨w.heap.size, 2, none⟩ = some (.map (some mb)) := by rw [← hW4]; simp [go_sem]
  have hcall := aval_c va vl vc fa fs.length fc mb n M ar cr rs (stF 0 fs) B W4 (hr.below (hb1.mono hB)) hUr (by omega) (by omega) (map_below hmp hb1 hmb) hpl
  go_enter Try.func41, Try.ntmps41
  go_wp2_with fail
  refine hcall.mono ?_
  rintro e w5 ⟨hres, hb5⟩
  clear hW4 hcall
  have hs5 := hb5.size
  replace q0 := (hb5.cell (p := ⟨w.heap.size + 1, 0, none⟩) (by simp; omega)).trans q0
  replace q1 := (hb5.cell (p := ⟨w.heap.size + 1, 1, none⟩) (by simp; omega)).trans q1
  replace f0 := (hb5.frozen (p := ⟨w.heap.size + 1, 0, none⟩) (by simp; omega)).trans f0
  replace f1 := (hb5.frozen (p := ⟨w.heap.size + 1, 1, none⟩) (by simp; omega)).trans f1
  replace g0 := (hb5.cell (p := ⟨w.heap.size, 0, none⟩) (by simp; omega)).trans g0
  replace g1 := (hb5.cell (p := ⟨w.heap.size, 1, none⟩) (by simp; omega)).trans g1
  replace g2 := (hb5.cell (p := ⟨w.heap.size, 2, none⟩) (by simp; omega)).trans g2
  have hbw5 : Below w.heap.size w w5 := hb1.trans (hb5.mono (by omega))
  clear hb1 hb5
  rcases hres with ⟨hno, rfl⟩ | ⟨hok, ar', cr', rfl, hV5, Hbs5⟩
  · have Hno : Hid ((rs ++ fs.flatten).all (okW (stF 0 fs)) = false) := by show _ = _; rw [List.all_append, hno]; rfl
    clear hno
    go_wp2
    exact bodyPost_ret (v := .tuple #[.agg #[.slice none 0 0, .slice none 0 0], .int .i64 2]) (by simp [results, Try.results41, go_sem, q0, q1, f0, f1]) rfl ⟨.inl ⟨unhide Hno, rfl⟩, (hbw5.setCell (p := ⟨w.heap.size + 1, 0, none⟩) (by simp) _).setCell (p := ⟨w.heap.size + 1, 1, none⟩) (by simp) _⟩
  · have Hok := hide hok
    clear hok
    have hlt5 : w.heap.size < w5.heap.size := by omega
    have hlt6 : w.heap.size + 1 < w5.heap.size := by omega
    have HV5 := hide hV5
    clear hV5
    generalize hrl : (rs.map (valW (stF 0 fs))).length = rl at *
    have Hrl := hide hrl
    clear hrl
    go_wp2
    go_loopw [28] (fun i wr => ∃ (k : Nat) (x : Value) (es : List Value), k ≤ fs.length ∧ i = .int .i64 k ∧ Below w5.heap.size w5 wr ∧ wr.cell? ⟨w5.heap.size, 0, none⟩ = some x ∧ wr.frozen? ⟨w5.heap.size, 0, none⟩ = false ∧ wr.cell? ⟨w5.heap.size, 1, none⟩ = some (.slice ar' rl cr') ∧
        ObjRow wr (w5.heap.size + 1) x (objsOf (stF 0 fs) (fs.take k)) es ∧ Hid ((fs.take k).flatten.all (okW (stF 0 fs)) = true)) (fun i _ => fs.length - (intOf i).toNat)
    case atStart => exact ⟨0, .slice none 0 0, [], Nat.zero_le _, rfl, (Below.refl _ _).alloc (Nat.le_refl _) _, by simp [go_sem], by simp [go_sem], by simp [go_sem], objRow_nil _ _, hide (by simp)⟩
    case round =>
      obtain ⟨k, x, es, hk, rfl, hb, c0, cf0, c1, hrow, Hall⟩ := hrel
      have hsz := hb.size
      have hbwr : Below w.heap.size w wr := hbw5.trans (hb.mono (by have := hbw5.size; omega))
      by_cases hlt : k < fs.length
      · obtain ⟨b, off, ai, ci, rfl, hbB, hcb, hva⟩ := (hT.below (hbwr.mono hB)).at hlt
        have hf4 := h4 _ (List.getElem_mem hlt)
        have hUk := hUf _ (List.getElem_mem hlt)
        have HO := hide (objsOf_succ (stF 0 fs) hlt)
        have HF := hide (wflat_snoc hlt)
        have Hbad : Hid (fs[k].all (okW (stF 0 fs)) = false → (rs ++ fs.flatten).all (okW (stF 0 fs)) = false) := by
          intro h
          obtain ⟨y, hy1, hy2⟩ := List.all_eq_false.1 h
          exact List.all_eq_false.2 ⟨y, List.mem_append.2 (.inr (List.mem_flatten.2 ⟨_, List.getElem_mem hlt, hy1⟩)), hy2⟩
        have Hcall := hide (aval_c va vl vc (some ⟨b, off, none⟩) fs.length fc mb n M ai ci fs[k] (stF 0 fs) B wr hva hUk (by have := hbwr.size; omega) (by omega) (map_below hmp hbwr hmb) hpl)
        clear hva hUk
        generalize fs[k] = f at *
        have g0r := (hb.cell (p := ⟨w.heap.size, 0, none⟩) (by simp; omega)).trans g0
        have g1r := (hb.cell (p := ⟨w.heap.size, 1, none⟩) (by simp; omega)).trans g1
        have g2r := (hb.cell (p := ⟨w.heap.size, 2, none⟩) (by simp; omega)).trans g2
        have hq : w5.heap.size < wr.heap.size := World.block_lt_of_cell? wr _ c0
        go_wp2_with fail
        refine (unhide Hcall).mono ?_
        rintro e w6 ⟨hres, hb6⟩
        have hs6 := hb6.size
        clear Hcall g0r g1r g2r
        rcases hres with ⟨hno, rfl⟩ | ⟨hok, a6, c6, rfl, hV6, Hbs6⟩
        · have Hno := hide (unhide Hbad hno)
          clear hno Hbad
          have p0 := (hb6.cell (p := ⟨w.heap.size + 1, 0, none⟩) (by simp; omega)).trans ((hb.cell (p := ⟨w.heap.size + 1, 0, none⟩) (by simp; omega)).trans q0)
          have p1 := (hb6.cell (p := ⟨w.heap.size + 1, 1, none⟩) (by simp; omega)).trans ((hb.cell (p := ⟨w.heap.size + 1, 1, none⟩) (by simp; omega)).trans q1)
          have e0 := (hb6.frozen (p := ⟨w.heap.size + 1, 0, none⟩) (by simp; omega)).trans ((hb.frozen (p := ⟨w.heap.size + 1, 0, none⟩) (by simp; omega)).trans f0)
          have e1 := (hb6.frozen (p := ⟨w.heap.size + 1, 1, none⟩) (by simp; omega)).trans ((hb.frozen (p := ⟨w.heap.size + 1, 1, none⟩) (by simp; omega)).trans f1)
          go_wp2
          exact bodyPost_ret (v := .tuple #[.agg #[.slice none 0 0, .slice none 0 0], .int .i64 2]) (by simp [results, Try.results41, go_sem, p0, p1, e0, e1]) rfl ⟨.inl ⟨unhide Hno, rfl⟩, ((hbwr.trans (hb6.mono (by omega))).setCell (p := ⟨w.heap.size + 1, 0, none⟩) (by simp) _).setCell (p := ⟨w.heap.size + 1, 1, none⟩) (by simp) _⟩
        · have Hall2 : Hid ((fs.take (k + 1)).flatten.all (okW (stF 0 fs)) = true) := by show _ = _; rw [unhide HF, List.all_append, unhide Hall, hok]; rfl
          clear hok Hbad HF
          have HLk := hide (show (objsOf (stF 0 fs) (fs.take k)).length = k by rw [objsOf_len, List.length_take]; omega)
          have hrr := hrow.row
          rw [unhide HLk] at hrr
          obtain ⟨ca, cc, rfl⟩ := ownsRow_slice hrr
          have hlm : (f.map (valW (stF 0 fs))).length ≤ 4 := by simp; exact hf4
          have HR := hide hrow
          have c06 := (hb6.cell (p := ⟨w5.heap.size, 0, none⟩) hq).trans c0
          have cf6 := (hb6.frozen (p := ⟨w5.heap.size, 0, none⟩) hq).trans cf0
          have hq6 : w5.heap.size < w6.heap.size := by omega
          have hrow6 := ownsRow_below hrr hb6
          have hncb : Value.ownBlock (.slice ca k cc) ≠ some w5.heap.size := fun e => by have := (hrr.lt _ e).1; omega
          have HV6 := hide hV6
          clear hV6 hrow hrr
          generalize f.map (valW (stF 0 fs)) = lv at *
          go_wp2_with (at_builtin; go_must (refine wpList_append_own_at _ rfl _ _ 30 rfl (w5.heap.size + 1) 51 i0 _ 1 24 Try.underlying30 hi hz0 hz1 hz2 rfl (by decide) _ _ _ rfl (hrow6.alloc _) ⟨w6.heap.size, 0, none⟩ 1 1 [.slice a6 lv.length c6] rfl rfl (cell_one_at _ _ _ _ (by simp)) (by simp [Value.oneCell']) (by simp only [maxLen]; omega) (by omega) (by simp; omega) ?_); go_must (intro v' w7 hrow7 hg7 _ hat7; obtain ⟨g7, cap7, hv7⟩ := ownsRow_succ hrow7; subst hv7; have c07 := hg7.cell ((World.grownBy_alloc w6 (.cells #[.slice a6 lv.length c6] 51) none).cell c06 (by simp)) (fun e => hncb e.symm); have cf7 := (hg7.block w5.heap.size (by simp; omega) (fun e => hncb e.symm)); have cf8 := (World.frozen?_of_block (a := ⟨w5.heap.size, 0, none⟩) cf7).trans ((World.frozen?_of_block (a := ⟨w5.heap.size, 0, none⟩) (Below.heap_alloc w6 _ _ hq6)).trans cf6); have Hcf7 := hide cf7; clear cf7))
          go_roundw
          case rel =>
            obtain ⟨r1, r2⟩ := obj_step (l := lv) (ci := c6) (unhide HR) (by omega) (unhide HV6) hb6 (unhide Hbs6) (by rw [unhide HLk]; exact hrow7) hg7 hat7 rfl
            refine ⟨k + 1, _, _, by omega, by go_num, hb.trans r2, World.cell?_setCell_same' _ _ _ (by rw [c07]; rfl), by rw [World.frozen?_setCell]; exact cf8, ?_, by rw [unhide HO]; exact r1, Hall2⟩
            rw [World.cell?_setCell_other _ _ _ _ (by simp)]
            exact (World.cell?_of_block (a := ⟨w5.heap.size, 1, none⟩) (unhide Hcf7)).trans ((World.cell?_of_block (a := ⟨w5.heap.size, 1, none⟩) (Below.heap_alloc w6 _ _ hq6)).trans ((hb6.cell (p := ⟨w5.heap.size, 1, none⟩) hq).trans c1))
          case measure => simp [intOf]; omega
      · obtain rfl : k = fs.length := by omega
        rw [List.take_length] at hrow Hall
        have Hfin : Hid ((rs ++ fs.flatten).all (okW (stF 0 fs)) = true) := by show _ = _; rw [List.all_append, unhide Hok, unhide Hall]; rfl
        have hol := objsOf_len (stF 0 fs) fs
        obtain ⟨va', vc', hv, hO⟩ := hrow.objs (by omega)
        subst hv
        have HR := hide hrow
        have Hol := hide hol
        have hV6 := ((unhide HV5).below hb).mono (B' := wr.heap.size) (by omega)
        have HV6 := hide hV6
        clear hO hrow hol hV6
        replace q0 := (hb.cell (p := ⟨w.heap.size + 1, 0, none⟩) (by simp; omega)).trans q0
        replace q1 := (hb.cell (p := ⟨w.heap.size + 1, 1, none⟩) (by simp; omega)).trans q1
        replace f0 := (hb.frozen (p := ⟨w.heap.size + 1, 0, none⟩) (by simp; omega)).trans f0
        replace f1 := (hb.frozen (p := ⟨w.heap.size + 1, 1, none⟩) (by simp; omega)).trans f1
        generalize hL : objsOf (stF 0 fs) fs = L at *
        have HL := hide hL
        clear hL
        go_wp2
        refine bodyPost_ret (v := .tuple #[.agg #[.slice va' L.length vc', .slice ar' rl cr'], .int .i64 0]) (by simp [results, Try.results41, go_sem, q0, q1]) rfl ?_
        have hO := ((unhide HR).setCell (p := ⟨w.heap.size + 1, 0, none⟩) (by simp; omega) (.slice va' L.length vc')).setCell (p := ⟨w.heap.size + 1, 1, none⟩) (by simp; omega) (.slice ar' rl cr')
        obtain ⟨va2, vc2, hv2, hO2⟩ := hO.objsF (by rw [unhide Hol]; omega)
        injection hv2 with e1 _ e3
        subst e1 e3
        refine ⟨.inr ⟨unhide Hfin, va', vc', ar', cr', by rw [unhide HL, unhide Hrl], by rw [unhide HL]; exact hO2.base (by omega), ?_⟩, ?_⟩
        · have hVF : ValsF W4.heap.size wr ar' (rs.map (valW (stF 0 fs))) := ⟨unhide HV6, unhide Hbs5⟩
          have hV2 := (hVF.setCell (p := ⟨w.heap.size + 1, 0, none⟩) (by simp; omega) (.slice va' L.length vc')).setCell (p := ⟨w.heap.size + 1, 1, none⟩) (by simp; omega) (.slice ar' rl cr')
          exact ⟨hV2.1, fun b off e => by have := hV2.2 b off e; omega⟩
        · exact (hbwr.setCell (p := ⟨w.heap.size + 1, 0, none⟩) (by simp) _).setCell (p := ⟨w.heap.size + 1, 1, none⟩) (by simp) _

end Go.Proofs.Ytahdalejmfbkeaa
