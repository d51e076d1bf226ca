/- Walks: Check, Starts, Read; unsound. -/
import Derived.Test.YtahdalejmfbkeaaBf
namespace Go.Proofs.Ytahdalejmfbkeaa
set_option linter.unusedSimpArgs false
set_option linter.unusedVariables false
open Go.RowKit Go.Shelf

/-- What is told, whether an arena may be or not. -/
theorem ReadRes.shape {base : Nat} {ws rs : List Int} {e : Ending} {W : World} (h : ReadRes base ws rs e W) : ∃ ao no co ar nr cr sa ns sc, e = .returned (.tuple #[.agg #[.slice ao no co, .slice ar nr cr], .slice sa ns sc, .int .i64 (arenaE ws rs)]) ∧
    (arenaE ws rs ≠ 0 → ao = none ∧ no = 0 ∧ co = 0 ∧ ar = none ∧ nr = 0 ∧ cr = 0 ∧ sa = none ∧ ns = 0 ∧ sc = 0) ∧
    (arenaE ws rs = 0 → ∃ fs, splitR ws = some fs ∧ no = (readG fs rs).objs.length ∧ nr = (readG fs rs).roots.length ∧ ns = (stF 0 fs).length ∧ ObjsF base W ao (readG fs rs).objs ∧ ValsF base W ar (readG fs rs).roots ∧ IntsF base W sa (stF 0 fs)) := by
  rcases h with ⟨h1, h2⟩ | ⟨h1, fs, ao, co, ar, cr, sa, sc, h2, h3, h4, h5, h6⟩
  · exact ⟨_, _, _, _, _, _, _, _, _, h2, fun _ => ⟨rfl, rfl, rfl, rfl, rfl, rfl, rfl, rfl, rfl⟩, fun h => absurd h h1⟩
  · exact ⟨_, _, _, _, _, _, _, _, _, by rw [h3, h1], fun h => absurd h1 h, fun _ => ⟨fs, h2, rfl, rfl, rfl, h4, h5, h6⟩⟩

set_option maxRecDepth 100000 in
set_option maxHeartbeats 1000000 in
theorem acheck_c (aw ar : Option Addr) (cw cr : Nat) (ws rs : List Int) (B : Nat) (w : World) (hW : Wds B w aw ws) (hR : Wds B w ar rs) (hUW : U64 ws) (hUR : U64 rs) (hB : B ≤ w.heap.size) (hcap : ws.length ≤ cw) :
    Calls Try.prog 8 #[.agg #[.slice aw ws.length cw, .slice ar rs.length cr]] w fun e w' => e = .returned (.int .i64 (arenaE ws rs)) ∧ Below w.heap.size w w' := by
  have hb1 := (Below.refl w.heap.size w).alloc (Nat.le_refl _) (.cells #[.slice aw ws.length cw, .slice ar rs.length cr] 24)
  go_enter Try.func8, Try.ntmps8
  go_wp2_with fail
  refine (read_c _ _ _ _ ws rs B _ (hW.below (hb1.mono hB)) (hR.below (hb1.mono hB)) hUW hUR (by simp; omega) hcap).mono ?_
  rintro e w2 ⟨hres, hb2⟩
  obtain ⟨ao, no, co, ar', nr, cr', sa, ns, sc, rfl, _, _⟩ := hres.shape
  clear hres
  simp only [World.size_alloc] at hb2
  have hs2 := hb2.size
  simp only [World.size_alloc] at hs2
  go_wp2
  go_ret
  exact ⟨rfl, (hb1.trans (hb2.mono (by omega))).alloc (by omega) _⟩

def StartRes (base : Nat) (ws rs : List Int) (e : Ending) (W : World) : Prop :=
  (arenaE ws rs ≠ 0 ∧ e = .returned (.tuple #[.slice none 0 0, .int .i64 (arenaE ws rs)])) ∨ (arenaE ws rs = 0 ∧ ∃ fs sa sc, splitR ws = some fs ∧ e = .returned (.tuple #[.slice sa (stF 0 fs).length sc, .int .i64 0]) ∧ IntsF base W sa (stF 0 fs))

set_option maxRecDepth 100000 in
set_option maxHeartbeats 1000000 in
theorem astarts_c (aw ar : Option Addr) (cw cr : Nat) (ws rs : List Int) (B : Nat) (w : World) (hW : Wds B w aw ws) (hR : Wds B w ar rs) (hUW : U64 ws) (hUR : U64 rs) (hB : B ≤ w.heap.size) (hcap : ws.length ≤ cw) :
    Calls Try.prog 9 #[.agg #[.slice aw ws.length cw, .slice ar rs.length cr]] w fun e w' => StartRes w.heap.size ws rs e w' ∧ Below w.heap.size w w' := by
  have hb1 := (Below.refl w.heap.size w).alloc (Nat.le_refl _) (.cells #[.slice aw ws.length cw, .slice ar rs.length cr] 24)
  go_enter Try.func9, Try.ntmps9
  go_wp2_with fail
  refine (read_c _ _ _ _ ws rs B _ (hW.below (hb1.mono hB)) (hR.below (hb1.mono hB)) hUW hUR (by simp; omega) hcap).mono ?_
  rintro e w2 ⟨hres, hb2⟩
  obtain ⟨ao, no, co, ar', nr, cr', sa, ns, sc, rfl, h0, h1⟩ := hres.shape
  have H0 := hide h0
  have H1 := hide h1
  clear hres h0 h1
  simp only [World.size_alloc] at hb2 H1
  have hs2 := hb2.size
  simp only [World.size_alloc] at hs2
  go_wp2
  go_ret2
  refine ⟨?_, (hb1.trans (hb2.mono (by omega))).alloc (by omega) _⟩
  by_cases hE : arenaE ws rs = 0
  · obtain ⟨fs, e1, e2, e3, e4, h5, h6, h7⟩ := unhide H1 hE
    refine .inr ⟨hE, fs, sa, sc, e1, by rw [← e4]; exact congrArg (fun x => Ending.returned (.tuple #[.slice sa ns sc, .int .i64 x])) hE, (h7.below ((Below.refl _ _).alloc (Nat.le_refl _) _)).base (by omega)⟩
  · obtain ⟨_, _, _, _, _, _, rfl, rfl, rfl⟩ := unhide H0 hE
    exact .inl ⟨hE, rfl⟩

def AReadRes (base : Nat) (ws rs : List Int) (e : Ending) (W : World) : Prop :=
  (arenaE ws rs ≠ 0 ∧ e = .returned (.tuple #[.agg #[.slice none 0 0, .slice none 0 0], .int .i64 (arenaE ws rs)])) ∨
  (arenaE ws rs = 0 ∧ ∃ fs ao co ar cr, splitR ws = some fs ∧ e = .returned (.tuple #[.agg #[.slice ao (readG fs rs).objs.length co, .slice ar (readG fs rs).roots.length cr], .int .i64 0]) ∧ ObjsF base W ao (readG fs rs).objs ∧ ValsF base W ar (readG fs rs).roots)

set_option maxRecDepth 100000 in
set_option maxHeartbeats 1000000 in
theorem aread_c (aw ar : Option Addr) (cw cr : Nat) (ws rs : List Int) (B : Nat) (w : World) (hW : Wds B w aw ws) (hR : Wds B w ar rs) (hUW : U64 ws) (hUR : U64 rs) (hB : B ≤ w.heap.size) (hcap : ws.length ≤ cw) :
    Calls Try.prog 10 #[.agg #[.slice aw ws.length cw, .slice ar rs.length cr]] w fun e w' => AReadRes w.heap.size ws rs e w' ∧ Below w.heap.size w w' := by
  obtain ⟨W4, hW4⟩ : ∃ W4, (w.alloc (.cells #[.slice aw ws.length cw, .slice ar rs.length cr] 24)).alloc (.cells #[.slice none 0 0, .slice none 0 0] 33) = W4 := ⟨_, rfl⟩
  have hbA : Below w.heap.size w W4 := by rw [← hW4]; exact ((Below.refl w.heap.size w).alloc (Nat.le_refl _) _).alloc (by simp) _
  have hs4 : w.heap.size + 1 < W4.heap.size := by rw [← hW4]; simp
  have q0 : W4.cell? ⟨w.heap.size + 1, 0, none⟩ = some (.slice none 0 0) := by rw [← hW4]; simp [go_sem]
  have q1 : W4.cell? ⟨w.heap.size + 1, 1, none⟩ = some (.slice none 0 0) := by rw [← hW4]; simp [go_sem]
  have f0 : W4.frozen? ⟨w.heap.size + 1, 0, none⟩ = false := by rw [← hW4]; simp [go_sem]
  have f1 : W4.frozen? ⟨w.heap.size + 1, 1, none⟩ = false := by rw [← hW4]; simp [go_sem]
  have g0 : W4.cell? ⟨w.heap.size, 0, none⟩ = some (.slice aw ws.length cw) := by rw [← hW4]; simp [go_sem]
  have g1 : W4.cell? ⟨w.heap.size, 1, none⟩ = some (.slice ar rs.length cr) := by rw [← hW4]; simp [go_sem]
  have Hcall := hide (read_c aw ar cw cr ws rs B W4 (hW.below (hbA.mono hB)) (hR.below (hbA.mono hB)) hUW hUR (by omega) hcap)
  go_enter Try.func10, Try.ntmps10
  go_wp2_with fail
  refine (unhide Hcall).mono ?_
  rintro e w5 ⟨hres, hb5⟩
  clear hW4 Hcall g0 g1
  have hs5 := hb5.size
  replace q0 := (hb5.cell (p := ⟨w.heap.size + 1, 0, none⟩) (by simp; omega)).trans q0
  replace q1 := (hb5.cell (p := ⟨w.heap.size + 1, 1, none⟩) (by simp; omega)).trans q1
  replace f0 := (hb5.frozen (p := ⟨w.heap.size + 1, 0, none⟩) (by simp; omega)).trans f0
  replace f1 := (hb5.frozen (p := ⟨w.heap.size + 1, 1, none⟩) (by simp; omega)).trans f1
  have hbw5 : Below w.heap.size w w5 := hbA.trans (hb5.mono (by omega))
  obtain ⟨ao, no, co, ar', nr, cr', sa, ns, sc, rfl, h0, h1⟩ := hres.shape
  have H0 := hide h0
  have H1 := hide h1
  have hlt7 : w.heap.size + 1 < w5.heap.size := by omega
  clear hres h0 h1 hb5
  go_wp2
  refine bodyPost_ret (v := .tuple #[.agg #[.slice ao no co, .slice ar' nr cr'], .int .i64 (arenaE ws rs)]) (by simp [results, Try.results10, go_sem, q0, q1, f0, f1, hlt7]) rfl ?_
  have hbe : Below w5.heap.size ((w5.setCell ⟨w.heap.size + 1, 0, none⟩ (.slice ao no co)).setCell ⟨w.heap.size + 1, 1, none⟩ (.slice ar' nr cr')) (((w5.setCell ⟨w.heap.size + 1, 0, none⟩ (.slice ao no co)).setCell ⟨w.heap.size + 1, 1, none⟩ (.slice ar' nr cr')).alloc (.cells #[.slice ao no co, .slice ar' nr cr'] 33)) := (Below.refl _ _).alloc (by simp [World.setCell]) _
  have hse : ((w5.setCell ⟨w.heap.size + 1, 0, none⟩ (.slice ao no co)).setCell ⟨w.heap.size + 1, 1, none⟩ (.slice ar' nr cr')).heap.size = w5.heap.size := by simp [World.setCell]
  rw [← hse] at hbe
  refine ⟨?_, ((hbw5.setCell (p := ⟨w.heap.size + 1, 0, none⟩) (by simp) _).setCell (p := ⟨w.heap.size + 1, 1, none⟩) (by simp) _).trans (hbe.mono (by rw [hse]; omega))⟩
  by_cases hE : arenaE ws rs = 0
  · obtain ⟨fs, e1, e2, e3, e4, h5, h6, h7⟩ := unhide H1 hE
    refine .inr ⟨hE, fs, ao, co, ar', cr', e1, by rw [hE, ← e2, ← e3], ?_, ?_⟩
    · exact (((h5.setCell (p := ⟨w.heap.size + 1, 0, none⟩) (by simp; omega) _).setCell (p := ⟨w.heap.size + 1, 1, none⟩) (by simp; omega) _).below hbe).base (by omega)
    · exact (((h6.setCell (p := ⟨w.heap.size + 1, 0, none⟩) (by simp; omega) _).setCell (p := ⟨w.heap.size + 1, 1, none⟩) (by simp; omega) _).below hbe).base (by omega)
  · obtain ⟨rfl, rfl, rfl, rfl, rfl, rfl, _, _, _⟩ := unhide H0 hE
    exact .inl ⟨hE, rfl⟩

set_option maxRecDepth 100000 in
set_option maxHeartbeats 400000 in
theorem unsound_c (aw ar : Option Addr) (cw cr : Nat) (ws rs : List Int) (B : Nat) (w : World) (hW : Wds B w aw ws) (hR : Wds B w ar rs) (hUW : U64 ws) (hUR : U64 rs) (hB : B ≤ w.heap.size) (hcap : ws.length ≤ cw) :
    Calls Try.prog 23 #[.agg #[.slice aw ws.length cw, .slice ar rs.length cr]] w fun e w' => e = .returned (.bool (arenaE ws rs != 0)) ∧ Below w.heap.size w w' := by
  have hb1 := (Below.refl w.heap.size w).alloc (Nat.le_refl _) (.cells #[.slice aw ws.length cw, .slice ar rs.length cr] 24)
  go_enter Try.func23, Try.ntmps23
  go_wp2_with (go_at_call 8; go_must (refine (acheck_c _ _ _ _ ws rs B _ (hW.below (hb1.mono hB)) (hR.below (hb1.mono hB)) hUW hUR (by simp; omega) hcap).mono ?_); rintro e w2 ⟨rfl, hb2⟩)
  go_ret
  exact ⟨rfl, hb1.trans (hb2.mono (by simp))⟩

end Go.Proofs.Ytahdalejmfbkeaa
