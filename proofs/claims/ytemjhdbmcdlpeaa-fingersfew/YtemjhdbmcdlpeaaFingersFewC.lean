/- Merged texts: Bf Bg Ca Ea Ma Mc Sb Wb Xb Sh Si Sj Na Rf Rh Rb. -/
import Derived.Test.YtemjhdbmcdlpeaaProg
import Derived.Test.YtemjhdbmcdlpeaaFingersFewB
import Derived.RegionTactic
import Derived.Deep.RegionWith
import Derived.BigQuiet
import Derived.Deep.RegionLaw
import Derived.Deep.CutRange
import Derived.OwnWalk
import Derived.Deep.QuietTactic
import Derived.Maps.AppendAt

/- Walks: read. -/
namespace Go.Proofs.Ytemjhdbmcdlpeaa
set_option linter.unusedSimpArgs false
set_option linter.unusedVariables false
open Go.RowKit Go.Shelf

/-- A slice of numbers in new memory. -/
def IntsF (base : Nat) (W : World) (a : Option Addr) (l : List Int) : Prop := Ints W.heap.size W a l ∧ ∀ b off, a = some ⟨b, off, none⟩ → base ≤ b

theorem IntsF.below {base : Nat} {W W' : World} {a : Option Addr} {l : List Int} (h : IntsF base W a l) (hb : Below W.heap.size W W') : IntsF base W' a l := ⟨(h.1.below hb).mono hb.size, h.2⟩
theorem IntsF.setCell {base : Nat} {W : World} {a : Option Addr} {l : List Int} (h : IntsF base W a l) {p : Addr} (hp : p.block < base) (u : Value) : IntsF base (W.setCell p u) a l := by
  have hs : (W.setCell p u).heap.size = W.heap.size := by simp [World.setCell]
  refine ⟨⟨h.1.1, fun hne => ?_⟩, h.2⟩
  obtain ⟨b, off, rfl, hB, hc⟩ := h.1.2 hne
  have h3 := h.2 b off rfl
  refine ⟨b, off, rfl, by rw [hs]; exact hB, fun k v hk => ?_⟩
  exact (World.cell?_of_block (a := ⟨b, off + k, none⟩) (Below.heap_setCell W p u b (by omega))).trans (hc k v hk)
theorem IntsF.base {base base' : Nat} {W : World} {a : Option Addr} {l : List Int} (h : IntsF base W a l) (hb : base' ≤ base) : IntsF base' W a l := ⟨h.1, fun b off e => by have := h.2 b off e; omega⟩
theorem ValsF.base {base base' : Nat} {W : World} {a : Option Addr} {l : List V} (h : ValsF base W a l) (hb : base' ≤ base) : ValsF base' W a l := ⟨h.1, fun b off e => by have := h.2 b off e; omega⟩

def ReadRes (base : Nat) (ws rs : List Int) (e : Ending) (W : World) : Prop :=
  (arenaE ws rs ≠ 0 ∧ e = .returned (.tuple #[.agg #[.slice none 0 0, .slice none 0 0], .slice none 0 0, .int .i64 (arenaE ws rs)])) ∨
  (arenaE ws rs = 0 ∧ ∃ fs ao co ar cr sa sc, splitR ws = some fs ∧ e = .returned (.tuple #[.agg #[.slice ao (readG fs rs).objs.length co, .slice ar (readG fs rs).roots.length cr], .slice sa (stF 0 fs).length sc, .int .i64 0]) ∧
    ObjsF base W ao (readG fs rs).objs ∧ ValsF base W ar (readG fs rs).roots ∧ IntsF base W sa (stF 0 fs))

set_option maxRecDepth 100000 in
set_option maxHeartbeats 4000000 in
theorem read_c (aw ar : Option Addr) (cw cr : Nat) (ws rs : List Int) (B : Nat) (w : World) (hW : Wds B w aw ws) (hR : Wds B w ar rs) (hUW : U64 ws) (hUR : U64 rs) (hB : B ≤ w.heap.size) (hcap : ws.length ≤ cw) :
    Calls Try.prog 48 #[.agg #[.slice aw ws.length cw, .slice ar rs.length cr]] w fun e w' => ReadRes w.heap.size ws rs e w' ∧ Below w.heap.size w w' := by
  have hw1 := hW.1
  have hr1 := hR.1
  have hbA : Below w.heap.size w ((w.alloc (.cells #[.slice aw ws.length cw, .slice ar rs.length cr] 24)).alloc (.cells #[.slice none 0 0, .slice none 0 0] 43)) := ((Below.refl w.heap.size w).alloc (Nat.le_refl _) _).alloc (by simp) _
  by_cases h256 : ws.length ≤ 256
  · by_cases h8 : rs.length ≤ 8
    · have d1 : decide (256 < (ws.length : Int)) = false := by simp; omega
      have d2 : decide (8 < (rs.length : Int)) = false := by simp; omega
      obtain ⟨W4, hW4⟩ : ∃ W4, (w.alloc (.cells #[.slice aw ws.length cw, .slice ar rs.length cr] 24)).alloc (.cells #[.slice none 0 0, .slice none 0 0] 43) = W4 := ⟨_, rfl⟩
      rw [hW4] at hbA
      have hs4 : w.heap.size + 1 < W4.heap.size := by rw [← hW4]; simp
      have q0 : W4.cell? ⟨w.heap.size + 1, 0, none⟩ = some (.slice none 0 0) := by rw [← hW4]; simp [go_sem]
      have q1 : W4.cell? ⟨w.heap.size + 1, 1, none⟩ = some (.slice none 0 0) := by rw [← hW4]; simp [go_sem]
      have f0 : W4.frozen? ⟨w.heap.size + 1, 0, none⟩ = false := by rw [← hW4]; simp [go_sem]
      have f1 : W4.frozen? ⟨w.heap.size + 1, 1, none⟩ = false := by rw [← hW4]; simp [go_sem]
      have g0 : W4.cell? ⟨w.heap.size, 0, none⟩ = some (.slice aw ws.length cw) := by rw [← hW4]; simp [go_sem]
      have g1 : W4.cell? ⟨w.heap.size, 1, none⟩ = some (.slice ar rs.length cr) := by rw [← hW4]; simp [go_sem]
      have Hcall := hide (split_c aw cw ws B W4 (hW.below (hbA.mono hB)) hUW h256 hcap (by omega))
      go_enter Try.func48, Try.ntmps48
      go_wp2_with fail
      refine (unhide Hcall).mono ?_
      rintro e w5 ⟨hres, hb5⟩
      clear hW4 Hcall
      have hs5 := hb5.size
      replace q0 := (hb5.cell (p := ⟨w.heap.size + 1, 0, none⟩) (by simp; omega)).trans q0
      replace q1 := (hb5.cell (p := ⟨w.heap.size + 1, 1, none⟩) (by simp; omega)).trans q1
      replace f0 := (hb5.frozen (p := ⟨w.heap.size + 1, 0, none⟩) (by simp; omega)).trans f0
      replace f1 := (hb5.frozen (p := ⟨w.heap.size + 1, 1, none⟩) (by simp; omega)).trans f1
      replace g1 := (hb5.cell (p := ⟨w.heap.size, 1, none⟩) (by simp; omega)).trans g1
      have hbw5 : Below w.heap.size w w5 := hbA.trans (hb5.mono (by omega))
      have hbB5 : Below B W4 w5 := hb5.mono (by omega)
      obtain ⟨mb, vs, vf, es, M, D, er, rfl, hmb, hD, hRd, hor⟩ := hres
      obtain ⟨sa, sc, rfl⟩ := ownsRow_slice hRd.st
      obtain ⟨fa, fc, rfl⟩ := ownsRow_slice hRd.fl
      have hlt5 : w.heap.size + 1 < w5.heap.size := by omega
      have hlt6 : w.heap.size < w5.heap.size := by omega
      rcases hor with ⟨hs, rfl⟩ | ⟨hs, rfl⟩
      · have HE := hide (arenaE_form h256 h8 hs)
        clear hs hb5 hbB5 hRd
        go_wp2
        refine bodyPost_ret (v := .tuple #[.agg #[.slice none 0 0, .slice none 0 0], .slice none 0 0, .int .i64 4]) (by simp [results, Try.results48, go_sem, q0, q1, f0, f1, hlt5]) rfl ?_
        refine ⟨.inl ⟨by rw [unhide HE]; omega, by rw [unhide HE]⟩, ?_⟩
        exact ((hbw5.setCell (p := ⟨w.heap.size + 1, 0, none⟩) (by simp) _).setCell (p := ⟨w.heap.size + 1, 1, none⟩) (by simp) _).alloc (by simp [World.setCell]; omega) _
      · have hel : Rowd w5 w5 B mb D (.slice sa D.length sc) (.slice fa D.length fc) es M := by
          refine ⟨hRd.box, hRd.st, hRd.fl, fun k f hk => ?_, hRd.map, hRd.plc, hRd.apart⟩
          obtain ⟨ai, ci, h1, h2⟩ := hRd.el k f hk
          exact ⟨ai, ci, h1, h2.below hbB5⟩
        obtain ⟨fa', fc', hv, hT⟩ := hel.tab (by omega) hD
        injection hv with e1 _ e3
        subst e1 e3
        obtain ⟨sa', sc', hv, hI, hr9⟩ := ints_of_owns hRd.st (stF_len D 0).symm (by omega)
        injection hv with e1 e2 e3
        subst e1 e3
        clear e2
        have HIF : Hid (IntsF (w.heap.size + 2) w5 sa (stF 0 D)) := ⟨hI, fun b off e => by have := hr9 b off e; omega⟩
        clear hr9
        obtain ⟨ht, h4⟩ := splitR_st hs
        have hUf := u64_fields hs hUW
        have hb6 := (Below.refl w5.heap.size w5).alloc (Nat.le_refl _) (.cells #[.slice sa D.length sc, .slice fa D.length fc, .map (some mb)] 104)
        have Hcall2 := hide (asGraph_c sa D.length sc fa fc D mb D.length M ar cr rs w5.heap.size (w5.alloc (.cells #[.slice sa D.length sc, .slice fa D.length fc, .map (some mb)] 104)) (hT.below hb6) (((hR.below (hbw5.mono hB)).mono (by omega)).below hb6) hUR hUf (by simp) h8 h4 hD (hRd.map.alloc _) hRd.plc)
        have Hs := hide hs
        have Hst := hide (stF_len D 0)
        clear hs hb5 hbB5 hRd hel hT ht hI hUf h4
        go_wp2_with fail
        refine (unhide Hcall2).mono ?_
        rintro e w7 ⟨hres7, hb7⟩
        have hs7 := hb7.size
        simp only [World.size_alloc] at hs7 hb7
        have hbw7 : Below w.heap.size w w7 := hbw5.trans ((hb6.mono (by omega)).trans (hb7.mono (by omega)))
        replace q0 := (hb7.cell (p := ⟨w.heap.size + 1, 0, none⟩) (by simp; omega)).trans ((hb6.cell (p := ⟨w.heap.size + 1, 0, none⟩) (by simp; omega)).trans q0)
        replace q1 := (hb7.cell (p := ⟨w.heap.size + 1, 1, none⟩) (by simp; omega)).trans ((hb6.cell (p := ⟨w.heap.size + 1, 1, none⟩) (by simp; omega)).trans q1)
        replace f0 := (hb7.frozen (p := ⟨w.heap.size + 1, 0, none⟩) (by simp; omega)).trans ((hb6.frozen (p := ⟨w.heap.size + 1, 0, none⟩) (by simp; omega)).trans f0)
        replace f1 := (hb7.frozen (p := ⟨w.heap.size + 1, 1, none⟩) (by simp; omega)).trans ((hb6.frozen (p := ⟨w.heap.size + 1, 1, none⟩) (by simp; omega)).trans f1)
        have s0 := (hb7.cell (p := ⟨w5.heap.size, 0, none⟩) (by simp)).trans (c := some (.slice sa D.length sc)) (by simp [go_sem])
        have hlt7 : w.heap.size + 1 < w7.heap.size := by omega
        have hlt8 : w5.heap.size < w7.heap.size := by omega
        clear Hcall2 g1
        rcases hres7 with ⟨hno, rfl⟩ | ⟨hok, ao7, co7, ar7, cr7, rfl, hO7, hV7⟩
        · have HE := hide (arenaE_bad h256 h8 (unhide Hs) hno)
          clear hno
          go_wp2
          refine bodyPost_ret (v := .tuple #[.agg #[.slice none 0 0, .slice none 0 0], .slice none 0 0, .int .i64 2]) (by simp [results, Try.results48, go_sem, q0, q1, f0, f1, hlt7]) rfl ?_
          refine ⟨.inl ⟨by rw [unhide HE]; omega, by rw [unhide HE]⟩, ?_⟩
          exact ((hbw7.setCell (p := ⟨w.heap.size + 1, 0, none⟩) (by simp) _).setCell (p := ⟨w.heap.size + 1, 1, none⟩) (by simp) _).alloc (by simp [World.setCell]; omega) _
        · have HE := hide (arenaE_ok h256 h8 (unhide Hs) hok)
          have HO7 := hide hO7
          have HV7 := hide hV7
          clear hok hO7 hV7
          go_wp2
          go_region
          all_goals
            go_wp2
            refine bodyPost_ret (v := .tuple #[.agg #[.slice ao7 (objsOf (stF 0 D) D).length co7, .slice ar7 rs.length cr7], .slice sa D.length sc, .int .i64 0]) (by simp [results, Try.results48, go_sem, q0, q1, f0, f1, hlt7]) rfl ?_
            have hbe : Below w7.heap.size ((w7.setCell ⟨w.heap.size + 1, 0, none⟩ (.slice ao7 (objsOf (stF 0 D) D).length co7)).setCell ⟨w.heap.size + 1, 1, none⟩ (.slice ar7 rs.length cr7)) (((w7.setCell ⟨w.heap.size + 1, 0, none⟩ (.slice ao7 (objsOf (stF 0 D) D).length co7)).setCell ⟨w.heap.size + 1, 1, none⟩ (.slice ar7 rs.length cr7)).alloc (.cells #[.slice ao7 (objsOf (stF 0 D) D).length co7, .slice ar7 rs.length cr7] 43)).drew := ((Below.refl _ _).alloc (by simp [World.setCell]) _).trans (Below.refl _ _).drew
            have hse : ((w7.setCell ⟨w.heap.size + 1, 0, none⟩ (.slice ao7 (objsOf (stF 0 D) D).length co7)).setCell ⟨w.heap.size + 1, 1, none⟩ (.slice ar7 rs.length cr7)).heap.size = w7.heap.size := by simp [World.setCell]
            rw [← hse] at hbe
            refine ⟨.inr ⟨unhide HE, D, ao7, co7, ar7, cr7, sa, sc, unhide Hs, ?_, ?_, ?_, ?_⟩, ?_⟩
            · rw [unhide Hst]; simp [readG, objsOf]
            · exact ((((unhide HO7).setCell (p := ⟨w.heap.size + 1, 0, none⟩) (by simp; omega) _).setCell (p := ⟨w.heap.size + 1, 1, none⟩) (by simp; omega) _).below hbe).base (by simp; omega)
            · exact ((((unhide HV7).setCell (p := ⟨w.heap.size + 1, 0, none⟩) (by simp; omega) _).setCell (p := ⟨w.heap.size + 1, 1, none⟩) (by simp; omega) _).below hbe).base (by simp; omega)
            · have h7 : IntsF (w.heap.size + 2) w7 sa (stF 0 D) := (((unhide HIF).below hb6).below (by simpa using hb7))
              exact (((h7.setCell (p := ⟨w.heap.size + 1, 0, none⟩) (by simp) _).setCell (p := ⟨w.heap.size + 1, 1, none⟩) (by simp) _).below hbe).base (by omega)
            · exact ((hbw7.setCell (p := ⟨w.heap.size + 1, 0, none⟩) (by simp) _).setCell (p := ⟨w.heap.size + 1, 1, none⟩) (by simp) _).trans (hbe.mono (by rw [hse]; omega))
    · have HE := hide (arenaE_large (ws := ws) (.inr (show 8 < rs.length by omega)))
      have d1 : decide (256 < (ws.length : Int)) = false := by simp; omega
      have d2 : decide (8 < (rs.length : Int)) = true := by simp; omega
      go_enter Try.func48, Try.ntmps48
      go_wp2
      exact bodyPost_ret (v := .tuple #[.agg #[.slice none 0 0, .slice none 0 0], .slice none 0 0, .int .i64 1]) (by simp [results, Try.results48, go_sem]) rfl ⟨.inl ⟨by rw [unhide HE]; omega, by rw [unhide HE]⟩, hbA⟩
  · have HE := hide (arenaE_large (rs := rs) (.inl (show 256 < ws.length by omega)))
    have d1 : decide (256 < (ws.length : Int)) = true := by simp; omega
    go_enter Try.func48, Try.ntmps48
    go_wp2
    exact bodyPost_ret (v := .tuple #[.agg #[.slice none 0 0, .slice none 0 0], .slice none 0 0, .int .i64 1]) (by simp [results, Try.results48, go_sem]) rfl ⟨.inl ⟨by rw [unhide HE]; omega, by rw [unhide HE]⟩, hbA⟩

end Go.Proofs.Ytemjhdbmcdlpeaa

/- Walks: Check, Starts, Read; unsound. -/
namespace Go.Proofs.Ytemjhdbmcdlpeaa
set_option linter.unusedSimpArgs false
set_option linter.unusedVariables false
open Go.RowKit Go.Shelf

/-- What is told, whether an arena may be or not. -/
theorem ReadRes.shape {base : Nat} {ws rs : List Int} {e : Ending} {W : World} (h : ReadRes base ws rs e W) : ∃ ao no co ar nr cr sa ns sc, e = .returned (.tuple #[.agg #[.slice ao no co, .slice ar nr cr], .slice sa ns sc, .int .i64 (arenaE ws rs)]) ∧
    (arenaE ws rs ≠ 0 → ao = none ∧ no = 0 ∧ co = 0 ∧ ar = none ∧ nr = 0 ∧ cr = 0 ∧ sa = none ∧ ns = 0 ∧ sc = 0) ∧
    (arenaE ws rs = 0 → ∃ fs, splitR ws = some fs ∧ no = (readG fs rs).objs.length ∧ nr = (readG fs rs).roots.length ∧ ns = (stF 0 fs).length ∧ ObjsF base W ao (readG fs rs).objs ∧ ValsF base W ar (readG fs rs).roots ∧ IntsF base W sa (stF 0 fs)) := by
  rcases h with ⟨h1, h2⟩ | ⟨h1, fs, ao, co, ar, cr, sa, sc, h2, h3, h4, h5, h6⟩
  · exact ⟨_, _, _, _, _, _, _, _, _, h2, fun _ => ⟨rfl, rfl, rfl, rfl, rfl, rfl, rfl, rfl, rfl⟩, fun h => absurd h h1⟩
  · exact ⟨_, _, _, _, _, _, _, _, _, by rw [h3, h1], fun h => absurd h1 h, fun _ => ⟨fs, h2, rfl, rfl, rfl, h4, h5, h6⟩⟩

set_option maxRecDepth 100000 in
set_option maxHeartbeats 1000000 in
theorem acheck_c (aw ar : Option Addr) (cw cr : Nat) (ws rs : List Int) (B : Nat) (w : World) (hW : Wds B w aw ws) (hR : Wds B w ar rs) (hUW : U64 ws) (hUR : U64 rs) (hB : B ≤ w.heap.size) (hcap : ws.length ≤ cw) :
    Calls Try.prog 33 #[.agg #[.slice aw ws.length cw, .slice ar rs.length cr]] w fun e w' => e = .returned (.int .i64 (arenaE ws rs)) ∧ Below w.heap.size w w' := by
  have hb1 := (Below.refl w.heap.size w).alloc (Nat.le_refl _) (.cells #[.slice aw ws.length cw, .slice ar rs.length cr] 24)
  go_enter Try.func33, Try.ntmps33
  go_wp2_with fail
  refine (read_c _ _ _ _ ws rs B _ (hW.below (hb1.mono hB)) (hR.below (hb1.mono hB)) hUW hUR (by simp; omega) hcap).mono ?_
  rintro e w2 ⟨hres, hb2⟩
  obtain ⟨ao, no, co, ar', nr, cr', sa, ns, sc, rfl, _, _⟩ := hres.shape
  clear hres
  simp only [World.size_alloc] at hb2
  have hs2 := hb2.size
  simp only [World.size_alloc] at hs2
  go_wp2
  go_ret
  exact ⟨rfl, (hb1.trans (hb2.mono (by omega))).alloc (by omega) _⟩

def StartRes (base : Nat) (ws rs : List Int) (e : Ending) (W : World) : Prop :=
  (arenaE ws rs ≠ 0 ∧ e = .returned (.tuple #[.slice none 0 0, .int .i64 (arenaE ws rs)])) ∨ (arenaE ws rs = 0 ∧ ∃ fs sa sc, splitR ws = some fs ∧ e = .returned (.tuple #[.slice sa (stF 0 fs).length sc, .int .i64 0]) ∧ IntsF base W sa (stF 0 fs))

def AReadRes (base : Nat) (ws rs : List Int) (e : Ending) (W : World) : Prop :=
  (arenaE ws rs ≠ 0 ∧ e = .returned (.tuple #[.agg #[.slice none 0 0, .slice none 0 0], .int .i64 (arenaE ws rs)])) ∨
  (arenaE ws rs = 0 ∧ ∃ fs ao co ar cr, splitR ws = some fs ∧ e = .returned (.tuple #[.agg #[.slice ao (readG fs rs).objs.length co, .slice ar (readG fs rs).roots.length cr], .int .i64 0]) ∧ ObjsF base W ao (readG fs rs).objs ∧ ValsF base W ar (readG fs rs).roots)

set_option maxRecDepth 100000 in
set_option maxHeartbeats 400000 in
theorem unsound_c (aw ar : Option Addr) (cw cr : Nat) (ws rs : List Int) (B : Nat) (w : World) (hW : Wds B w aw ws) (hR : Wds B w ar rs) (hUW : U64 ws) (hUR : U64 rs) (hB : B ≤ w.heap.size) (hcap : ws.length ≤ cw) :
    Calls Try.prog 12 #[.agg #[.slice aw ws.length cw, .slice ar rs.length cr]] w fun e w' => e = .returned (.bool (arenaE ws rs != 0)) ∧ Below w.heap.size w w' := by
  have hb1 := (Below.refl w.heap.size w).alloc (Nat.le_refl _) (.cells #[.slice aw ws.length cw, .slice ar rs.length cr] 24)
  go_enter Try.func12, Try.ntmps12
  go_wp2_with (go_at_call 33; go_must (refine (acheck_c _ _ _ _ ws rs B _ (hW.below (hb1.mono hB)) (hR.below (hb1.mono hB)) hUW hUR (by simp; omega) hcap).mono ?_); rintro e w2 ⟨rfl, hb2⟩)
  go_ret
  exact ⟨rfl, hb1.trans (hb2.mono (by simp))⟩

end Go.Proofs.Ytemjhdbmcdlpeaa

/- Walks: ArenaCovers. -/
namespace Go.Proofs.Ytemjhdbmcdlpeaa
set_option linter.unusedSimpArgs false
set_option linter.unusedVariables false
open Go.RowKit Go.Shelf

theorem readG_len (fs : List (List Int)) (rs : List Int) : (readG fs rs).objs.length = fs.length := by simp [readG]
theorem readG_rlen (fs : List (List Int)) (rs : List Int) : (readG fs rs).roots.length = rs.length := by simp [readG]
theorem readG_flen {fs : List (List Int)} {rs : List Int} {k : Nat} {l : List V} (h : (readG fs rs).objs[k]? = some l) : ∃ hk : k < fs.length, l.length = fs[k].length := by
  have hk : k < fs.length := by have := (List.getElem?_eq_some_iff.1 h).1; rw [readG_len] at this; exact this
  refine ⟨hk, ?_⟩
  simp [readG, hk] at h
  rw [← h]
  simp

end Go.Proofs.Ytemjhdbmcdlpeaa

/- Plain: what is laid is read as it was; what is read is laid as it stood. -/
namespace Go.Proofs.Ytemjhdbmcdlpeaa
set_option linter.unusedSimpArgs false
set_option linter.unusedVariables false
open Go.RowKit

theorem uh_of_zero {x : Int} (h : uhE x = 0) : unheadOk x = true := by
  cases e : unheadOk x
  · simp [uhE, e] at h
  · rfl

theorem head_plain {n : Nat} (h : n ≤ 4) : unheadOk (headW (n : Int) false 0) = true ∧ wlen (headW (n : Int) false 0) = n ∧ 0 ≤ headW (n : Int) false 0 ∧ headW (n : Int) false 0 < 18446744073709551616 := by
  have he : headE (n : Int) 0 = 0 := by
    have : headOk (n : Int) 0 = true := by simp [headOk]; omega
    simp [headE, this]
  obtain ⟨h1, h2, h3, _, _, h6⟩ := un_head (n : Int) 0 false he
  have hk := uh_of_zero h6
  refine ⟨hk, ?_, h1, h2⟩
  have := uhL_wlen hk
  omega

theorem placeOf_nodup {st : List Int} (hn : st.Nodup) {k : Nat} {x : Int} (h : st[k]? = some x) : placeOf st x = (k : Int) := by
  have hm := List.mem_of_getElem? h
  have hi := List.idxOf_lt_length_iff.2 hm
  have hg := List.getElem_idxOf hi
  rw [placeOf, if_pos hm]
  have := (List.getElem?_inj hi hn).1 ((List.getElem?_eq_getElem hi).trans (by rw [hg, h]))
  omega

theorem packE_num {n : Int} (h1 : -4611686018427387904 ≤ n) (h2 : n ≤ 4611686018427387903) : packE false n = 0 := by
  simp only [packE, Bool.false_eq_true, if_false]; rw [if_neg (by omega)]
theorem packE_ref {n : Int} (h1 : 0 ≤ n) (h2 : n < 256) : packE true n = 0 := by
  simp only [packE, if_true]; rw [if_neg (by omega)]
theorem num_of_packE {n : Int} (h : packE false n = 0) : -4611686018427387904 ≤ n ∧ n ≤ 4611686018427387903 := by
  simp only [packE, Bool.false_eq_true, if_false] at h
  split at h <;> omega

/-- One value, there and back. -/
theorem value_back {L : List (List V)} (ht : tot L ≤ 256) {v : V} (hr : v.1 = true → 0 ≤ v.2 ∧ v.2 < L.length) (hn : v.1 = false → -4611686018427387904 ≤ v.2 ∧ v.2 ≤ 4611686018427387903) :
    okW (stF 0 L) (packV (stF 0 L) v) = true ∧ valW (stF 0 L) (packV (stF 0 L) v) = v ∧ 0 ≤ packV (stF 0 L) v ∧ packV (stF 0 L) v < 18446744073709551616 := by
  obtain ⟨r, n⟩ := v
  cases r
  · have h := hn rfl
    rw [packV_num]
    obtain ⟨h1, h2, h3, h4, h5⟩ := packE_eq false n (packE_num h.1 h.2)
    exact ⟨by simp [okW, h3, h5], by simp [valW, h3, h4], h1, h2⟩
  · have h := hr rfl
    obtain ⟨m, rfl⟩ := Int.eq_ofNat_of_zero_le h.1
    have hm : m < L.length := by have := h.2; simp at this; omega
    rw [packV_ref (by omega) (by simpa using hm)]
    simp only [Int.toNat_natCast]
    have hg := stF_get L 0 m hm
    rw [Nat.zero_add] at hg
    have hlt : tot (L.take m) < 256 := by
      have h1 := tot_take_succ hm
      have h2 := tot_take_le L (m + 1)
      omega
    obtain ⟨h1, h2, h3, h4, h5⟩ := packE_eq true ((tot (L.take m) : Nat) : Int) (packE_ref (by omega) (by omega))
    have hmem := List.mem_of_getElem? hg
    refine ⟨by simp [okW, h3, h5, h4, hmem], ?_, h1, h2⟩
    simp only [valW, h3, h4, if_true]
    rw [placeOf_nodup (stF_nodup L 0) hg]

theorem lens_fields (st : List Int) (L : List (List V)) : (layFields st L).map List.length = L.map List.length := by
  unfold layFields; rw [List.map_map]; apply List.map_congr_left; intro l _; simp

theorem map_back {L : List (List V)} (ht : tot L ≤ 256) {l : List V} (hr : ∀ v ∈ l, v.1 = true → 0 ≤ v.2 ∧ v.2 < L.length) (hn : NumOk l) :
    (l.map (packV (stF 0 L))).map (valW (stF 0 L)) = l ∧ (∀ x ∈ l.map (packV (stF 0 L)), okW (stF 0 L) x = true) ∧ U64 (l.map (packV (stF 0 L))) := by
  refine ⟨?_, ?_, ?_⟩
  · rw [List.map_map]
    conv => rhs; rw [← List.map_id l]
    apply List.map_congr_left
    intro v hv
    exact (value_back ht (hr v hv) (hn.num v hv)).2.1
  · intro x hx
    obtain ⟨v, hv, rfl⟩ := List.mem_map.1 hx
    exact (value_back ht (hr v hv) (hn.num v hv)).1
  · intro x hx
    obtain ⟨v, hv, rfl⟩ := List.mem_map.1 hx
    exact (value_back ht (hr v hv) (hn.num v hv)).2.2

theorem joinW_mem : ∀ (hs : List Int) (fs : List (List Int)) (x : Int), x ∈ joinW hs fs → x ∈ hs ∨ ∃ f ∈ fs, x ∈ f
  | h :: hs, f :: fs, x, hx => by
    simp only [joinW, List.mem_cons, List.mem_append] at hx
    rcases hx with rfl | hx | hx
    · exact .inl (by simp)
    · exact .inr ⟨f, by simp, hx⟩
    · rcases joinW_mem hs fs x hx with h1 | ⟨g, h1, h2⟩
      · exact .inl (by simp [h1])
      · exact .inr ⟨g, by simp [h1], h2⟩
  | [], _, x, hx => by simp [joinW] at hx
  | _ :: _, [], x, hx => by simp [joinW] at hx

/-- One word, there and back. -/
theorem word_back {st : List Int} (hn : st.Nodup) {x : Int} (h1 : 0 ≤ x) (h2 : x < 18446744073709551616) (h : okW st x = true) :
    packV st (valW st x) = x ∧ ((valW st x).1 = true → 0 ≤ (valW st x).2 ∧ (valW st x).2 < st.length) ∧ ((valW st x).1 = false → -4611686018427387904 ≤ (valW st x).2 ∧ (valW st x).2 ≤ 4611686018427387903) := by
  simp only [okW, Bool.and_eq_true, beq_iff_eq, Bool.or_eq_true, Bool.not_eq_true', decide_eq_true_eq] at h
  obtain ⟨he, ho⟩ := h
  obtain ⟨p1, p2⟩ := pack_un x h1 h2 he
  cases hr : unRef x
  · rw [hr] at p1 p2
    rw [valW_num hr, packV_num]
    exact ⟨p2, fun e => (by cases e), fun _ => num_of_packE p1⟩
  · rw [hr] at p2
    have hm := ho.resolve_left (by rw [hr]; simp)
    have hi := List.idxOf_lt_length_iff.2 hm
    have hg := List.getElem_idxOf hi
    rw [valW_ref hr]
    have hp : placeOf st (unNum x) = ((st.idxOf (unNum x) : Nat) : Int) := by rw [placeOf, if_pos hm]
    refine ⟨?_, fun _ => by rw [hp]; omega, fun e => by cases e⟩
    simp only [packV, if_true, hp, Int.toNat_natCast]
    rw [List.getD_eq_getElem?_getD, List.getElem?_eq_getElem hi, Option.getD_some, hg]
    exact p2

theorem lens_read (fs : List (List Int)) (rs : List Int) : (readG fs rs).objs.map List.length = fs.map List.length := by
  unfold readG; simp only; rw [List.map_map]; apply List.map_congr_left; intro l _; simp

theorem map_word_back {st l : List Int} (hn : st.Nodup) (hU : U64 l) (h : ∀ x ∈ l, okW st x = true) : (l.map (valW st)).map (packV st) = l := by
  rw [List.map_map]
  conv => rhs; rw [← List.map_id l]
  apply List.map_congr_left
  intro x hx
  exact (word_back hn (hU x hx).1 (hU x hx).2 (h x hx)).1

/-- What is read of an arena that may be. -/
theorem read_only {ws rs : List Int} {fs : List (List Int)} (hUW : U64 ws) (hUR : U64 rs) (hE : arenaE ws rs = 0) (hs : splitR ws = some fs) :
    (fs.length ≤ 24 → checkG (readG fs rs) = 0) ∧ layRoots (readG fs rs) = rs ∧ (layWords (readG fs rs)).length = ws.length ∧ ∀ i : Nat, (i : Int) ∈ stF 0 fs ∨ ws[i]? = (layWords (readG fs rs))[i]? := by
  have hsz : ws.length ≤ 256 ∧ rs.length ≤ 8 := by
    unfold arenaE at hE
    split at hE
    · omega
    · rename_i h; omega
  have hall : (rs ++ fs.flatten).all (okW (stF 0 fs)) = true := by
    unfold arenaE at hE
    rw [if_neg (by omega), hs] at hE
    simp only at hE
    split at hE
    · assumption
    · omega
  rw [List.all_eq_true] at hall
  have hokr : ∀ x ∈ rs, okW (stF 0 fs) x = true := fun x hx => hall x (List.mem_append.2 (.inl hx))
  have hokf : ∀ f ∈ fs, ∀ x ∈ f, okW (stF 0 fs) x = true := fun f hf x hx => hall x (List.mem_append.2 (.inr (List.mem_flatten.2 ⟨f, hf, hx⟩)))
  have hUf := u64_fields hs hUW
  have hnd := stF_nodup fs 0
  have hst : stF 0 (readG fs rs).objs = stF 0 fs := stF_same _ _ _ (lens_read fs rs)
  have hlf : layFields (stF 0 fs) (readG fs rs).objs = fs := by
    unfold layFields readG
    simp only
    rw [List.map_map]
    conv => rhs; rw [← List.map_id fs]
    apply List.map_congr_left
    intro f hf
    exact map_word_back hnd (hUf f hf) (hokf f hf)
  obtain ⟨hs', h1, h2, h3⟩ := split_join ws.length ws fs (Nat.le_refl _) hs
  have hhl : (layHeads (readG fs rs).objs).length = fs.length := by simp [layHeads, readG]
  have hlw : layWords (readG fs rs) = joinW (layHeads (readG fs rs).objs) fs := by unfold layWords; rw [hst, hlf]
  refine ⟨fun h24 => ?_, ?_, ?_, fun i => ?_⟩
  · have hlen : (readG fs rs).objs.length = fs.length := readG_len fs rs
    have hvals : ∀ v ∈ allV (readG fs rs), badV v (readG fs rs).objs.length = 0 := by
      intro v hv
      rw [hlen]
      have key : ∃ x, v = valW (stF 0 fs) x ∧ 0 ≤ x ∧ x < 18446744073709551616 ∧ okW (stF 0 fs) x = true := by
        unfold allV readG at hv
        rcases List.mem_append.1 hv with hv | hv
        · obtain ⟨x, hx, rfl⟩ := List.mem_map.1 hv
          exact ⟨x, rfl, (hUR x hx).1, (hUR x hx).2, hokr x hx⟩
        · obtain ⟨l, hl, hv⟩ := List.mem_flatten.1 hv
          obtain ⟨f, hf, rfl⟩ := List.mem_map.1 hl
          obtain ⟨x, hx, rfl⟩ := List.mem_map.1 hv
          exact ⟨x, rfl, (hUf f hf x hx).1, (hUf f hf x hx).2, hokf f hf x hx⟩
      obtain ⟨x, rfl, b1, b2, b3⟩ := key
      obtain ⟨_, w1, w2⟩ := word_back hnd b1 b2 b3
      unfold badV
      cases hr : (valW (stF 0 fs) x).1
      · have := w2 hr
        simp; omega
      · have := w1 hr
        rw [stF_len] at this
        simp; omega
    have hl : isLargeG (readG fs rs) = false := by
      unfold isLargeG
      rw [hlen, readG_rlen]
      simp only [Bool.or_eq_false_iff, decide_eq_false_iff_not, List.any_eq_false, decide_eq_true_eq]
      refine ⟨⟨by omega, by omega⟩, ?_⟩
      intro l hl
      unfold readG at hl
      obtain ⟨f, hf, rfl⟩ := List.mem_map.1 hl
      have := h3 f hf
      simp; omega
    unfold checkG
    rw [hl]
    have a2 : (allV (readG fs rs)).any (fun v => badV v (readG fs rs).objs.length == 2) = false := by
      rw [List.any_eq_false]; intro v hv; rw [hvals v hv]; simp
    have a3 : (allV (readG fs rs)).any (fun v => badV v (readG fs rs).objs.length == 3) = false := by
      rw [List.any_eq_false]; intro v hv; rw [hvals v hv]; simp
    rw [a2, a3]; rfl
  · unfold layRoots
    rw [hst]
    exact map_word_back hnd hUR hokr
  · rw [hlw, joinW_len _ _ hhl, ← (splitR_st hs).1]
  · rw [hlw]
    have := join_same hs' (layHeads (readG fs rs).objs) fs 0 i h1 hhl
    rw [Nat.zero_add, ← h2] at this
    exact this

end Go.Proofs.Ytemjhdbmcdlpeaa

/- Plain: an arena as headers and fields; marks. -/
namespace Go.Proofs.Ytemjhdbmcdlpeaa
set_option linter.unusedSimpArgs false
set_option linter.unusedVariables false
open Go.RowKit

/-- A header's word, with this mark. -/
def reh (b : Bool) (x : Int) : Int := headW (uhL x) b (uhA x)

theorem headE_un (x : Int) : headE (uhL x) (uhA x) = 0 := by
  have h : headOk (uhL x) (uhA x) = true := by
    unfold headOk uhL uhA
    split
    · rename_i h
      simp [unheadOk] at h
      simp
      omega
    · simp
  simp [headE, h]

theorem reh_ok (b : Bool) (x : Int) : unheadOk (reh b x) = true ∧ uhL (reh b x) = uhL x ∧ uhM (reh b x) = b ∧ uhA (reh b x) = uhA x ∧ 0 ≤ reh b x ∧ reh b x < 18446744073709551616 := by
  obtain ⟨h1, h2, h3, h4, h5, h6⟩ := un_head (uhL x) (uhA x) b (headE_un x)
  exact ⟨uh_of_zero h6, h3, h4, h5, h1, h2⟩

theorem reh_reh (b c : Bool) (x : Int) : reh b (reh c x) = reh b x := by
  have := reh_ok c x
  unfold reh at *
  rw [this.2.1, this.2.2.2.1]

theorem reh_self {x : Int} (h1 : 0 ≤ x) (h2 : x < 18446744073709551616) (h : unheadOk x = true) : reh (uhM x) x = x :=
  (head_un x h1 h2 (by simp [uhE, h])).2

theorem reh_wlen {b : Bool} {x : Int} (h : unheadOk x = true) : wlen (reh b x) = wlen x := by
  have h1 := reh_ok b x
  have h2 := uhL_wlen h1.1
  have h3 := uhL_wlen h
  have := h1.2.1
  omega

/-- Headers and fields that fit. -/
structure Fit (hs : List Int) (fs : List (List Int)) : Prop where
  len : hs.length = fs.length
  ok : ∀ (k : Nat) (x : Int) (f : List Int), hs[k]? = some x → fs[k]? = some f → unheadOk x = true ∧ wlen x = f.length ∧ 0 ≤ x ∧ x < 18446744073709551616

theorem split_fit : ∀ (n : Nat) (ws : List Int) (fs : List (List Int)), ws.length ≤ n → U64 ws → splitR ws = some fs → ∃ hs, Fit hs fs ∧ ws = joinW hs fs
  | n, [], fs, _, _, h => by
    rw [splitR_nil] at h
    injection h with h
    subst h
    exact ⟨[], ⟨rfl, by simp⟩, rfl⟩
  | 0, x :: r, fs, hn, _, h => by simp at hn
  | n + 1, x :: r, fs, hn, hU, h => by
    rw [splitR_cons] at h
    split at h
    · rename_i hc
      cases hs : splitR (r.drop (wlen x)) with
      | none => rw [hs] at h; simp at h
      | some gs =>
        rw [hs] at h
        simp only [Option.map_some, Option.some.injEq] at h
        subst h
        obtain ⟨hs', h1, h2⟩ := split_fit n _ gs (by simp at hn ⊢; omega) (U64.drop (fun y hy => hU y (by simp [hy])) _) hs
        refine ⟨x :: hs', ⟨by simp [h1.len], ?_⟩, ?_⟩
        · intro k y f hy hf
          cases k with
          | zero =>
            simp at hy hf
            subst hy hf
            have := hU x (by simp)
            exact ⟨hc.1, by rw [List.length_take]; omega, this.1, this.2⟩
          | succ k => exact h1.ok k y f (by simpa using hy) (by simpa using hf)
        · simp only [joinW, ← h2, List.take_append_drop]
    · cases h

theorem joinW_get : ∀ (hs : List Int) (fs : List (List Int)) (k : Nat), hs.length = fs.length → k < fs.length → (joinW hs fs)[tot (fs.take k)]? = hs[k]?
  | x :: hs, f :: fs, 0, _, _ => by simp [joinW, tot]
  | x :: hs, f :: fs, k + 1, h, hk => by
    have ih := joinW_get hs fs k (by simpa using h) (by simpa using hk)
    rw [List.take_succ_cons, tot_cons, show f.length + 1 + tot (fs.take k) = (f.length + tot (fs.take k)) + 1 from by omega]
    simp only [joinW, List.getElem?_cons_succ]
    rw [List.getElem?_append_right (by omega), show f.length + tot (fs.take k) - f.length = tot (fs.take k) from by omega]
    exact ih
  | _, [], k, _, hk => by simp at hk
  | [], f :: fs, k, h, _ => by simp at h

theorem joinW_set : ∀ (hs : List Int) (fs : List (List Int)) (k : Nat) (y : Int), hs.length = fs.length → k < fs.length → (joinW hs fs).set (tot (fs.take k)) y = joinW (hs.set k y) fs
  | x :: hs, f :: fs, 0, y, _, _ => by simp [joinW, tot]
  | x :: hs, f :: fs, k + 1, y, h, hk => by
    have ih := joinW_set hs fs k y (by simpa using h) (by simpa using hk)
    rw [List.take_succ_cons, tot_cons, show f.length + 1 + tot (fs.take k) = (f.length + tot (fs.take k)) + 1 from by omega]
    simp only [joinW, List.set_cons_succ]
    rw [List.set_append_right _ _ (by omega), show f.length + tot (fs.take k) - f.length = tot (fs.take k) from by omega, ih]
  | _, [], k, y, _, hk => by simp at hk
  | [], f :: fs, k, y, h, _ => by simp at h

theorem joinW_fields : ∀ (hs : List Int) (fs : List (List Int)) (k : Nat) (f : List Int), hs.length = fs.length → fs[k]? = some f → ((joinW hs fs).drop (tot (fs.take k) + 1)).take f.length = f
  | x :: hs, f :: fs, 0, g, _, hk => by
    simp at hk
    subst hk
    simp [joinW, tot]
  | x :: hs, f :: fs, k + 1, g, h, hk => by
    have ih := joinW_fields hs fs k g (by simpa using h) (by simpa using hk)
    rw [List.take_succ_cons, tot_cons, show f.length + 1 + tot (fs.take k) + 1 = (f.length + (tot (fs.take k) + 1)) + 1 from by omega]
    simp only [joinW, List.drop_succ_cons]
    rw [List.drop_append, List.drop_of_length_le (by omega), List.nil_append, show f.length + (tot (fs.take k) + 1) - f.length = tot (fs.take k) + 1 from by omega]
    exact ih
  | _, [], k, g, _, hk => by simp at hk
  | [], f :: fs, k, g, h, _ => by simp at h

/-- Headers, with these marks. -/
def mkH (hs : List Int) (p : Nat → Bool) : List Int := hs.mapIdx fun i x => reh (p i) x

theorem mkH_len (hs : List Int) (p : Nat → Bool) : (mkH hs p).length = hs.length := by simp [mkH]
theorem mkH_get (hs : List Int) (p : Nat → Bool) (k : Nat) : (mkH hs p)[k]? = (hs[k]?).map (reh (p k)) := by simp [mkH, List.getElem?_mapIdx]

/-- One mark more. -/
def upd (p : Nat → Bool) (i : Nat) : Nat → Bool := fun k => k == i || p k

theorem mkH_set {hs : List Int} {p : Nat → Bool} {i : Nat} {x : Int} (h : hs[i]? = some x) : (mkH hs p).set i (reh true x) = mkH hs (upd p i) := by
  apply List.ext_getElem?
  intro k
  rw [List.getElem?_set, mkH_get, mkH_get, mkH_len]
  have hi : i < hs.length := (List.getElem?_eq_some_iff.1 h).1
  by_cases e : i = k
  · subst e
    rw [if_pos rfl, if_pos hi, h]
    simp [upd]
  · rw [if_neg e]
    have : upd p i k = p k := by simp [upd]; omega
    rw [this]

/-- The first k headers without marks. -/
def mkF (hs : List Int) (n : Nat) : List Int := hs.mapIdx fun i x => if i < n then reh false x else x

theorem mkF_len (hs : List Int) (n : Nat) : (mkF hs n).length = hs.length := by simp [mkF]
theorem mkF_get (hs : List Int) (n k : Nat) : (mkF hs n)[k]? = (hs[k]?).map (fun x => if k < n then reh false x else x) := by simp [mkF, List.getElem?_mapIdx]
theorem mkF_zero (hs : List Int) : mkF hs 0 = hs := by
  apply List.ext_getElem?
  intro k
  rw [mkF_get]
  cases hs[k]? <;> simp
theorem mkF_all (hs : List Int) (n : Nat) (h : hs.length ≤ n) : mkF hs n = mkH hs (fun _ => false) := by
  apply List.ext_getElem?
  intro k
  rw [mkF_get, mkH_get]
  cases e : hs[k]? with
  | none => rfl
  | some x =>
    have := (List.getElem?_eq_some_iff.1 e).1
    simp only [Option.map_some]
    rw [if_pos (by omega)]
theorem mkF_set {hs : List Int} {i : Nat} {x : Int} (h : hs[i]? = some x) : (mkF hs i).set i (reh false x) = mkF hs (i + 1) := by
  apply List.ext_getElem?
  intro k
  rw [List.getElem?_set, mkF_get, mkF_get, mkF_len]
  have hi : i < hs.length := (List.getElem?_eq_some_iff.1 h).1
  by_cases e : i = k
  · subst e
    rw [if_pos rfl, if_pos hi, h]
    simp
  · rw [if_neg e]
    cases hs[k]? with
    | none => rfl
    | some y =>
      simp only [Option.map_some]
      congr 1
      by_cases hk : k < i
      · rw [if_pos hk, if_pos (by omega)]
      · rw [if_neg hk, if_neg (by omega)]

theorem fit_mkH {hs : List Int} {fs : List (List Int)} (h : Fit hs fs) (p : Nat → Bool) : Fit (mkH hs p) fs := by
  refine ⟨by rw [mkH_len]; exact h.len, fun k x f hx hf => ?_⟩
  rw [mkH_get] at hx
  cases e : hs[k]? with
  | none => rw [e] at hx; cases hx
  | some y =>
    rw [e] at hx
    simp at hx
    subst hx
    have h1 := h.ok k y f e hf
    have h2 := reh_ok (p k) y
    exact ⟨h2.1, by rw [reh_wlen h1.1]; exact h1.2.1, h2.2.2.2.2.1, h2.2.2.2.2.2⟩

theorem fit_mkF {hs : List Int} {fs : List (List Int)} (h : Fit hs fs) (n : Nat) : Fit (mkF hs n) fs := by
  refine ⟨by rw [mkF_len]; exact h.len, fun k x f hx hf => ?_⟩
  rw [mkF_get] at hx
  cases e : hs[k]? with
  | none => rw [e] at hx; cases hx
  | some y =>
    rw [e] at hx
    simp only [Option.map_some, Option.some.injEq] at hx
    have h1 := h.ok k y f e hf
    split at hx
    · subst hx
      have h2 := reh_ok false y
      exact ⟨h2.1, by rw [reh_wlen h1.1]; exact h1.2.1, h2.2.2.2.2.1, h2.2.2.2.2.2⟩
    · subst hx
      exact h1

theorem fit_split {hs : List Int} {fs : List (List Int)} (h : Fit hs fs) : splitR (joinW hs fs) = some fs :=
  join_split hs fs h.len fun k x f hx hf => ⟨(h.ok k x f hx hf).1, (h.ok k x f hx hf).2.1⟩

/-- Words that refer to object j. -/
def To (fs : List (List Int)) (l : List Int) (j : Nat) : Prop := ∃ x ∈ l, unRef x = true ∧ (stF 0 fs)[j]? = some (unNum x)

/-- What can be come to. -/
def Rch (fs : List (List Int)) (rs : List Int) (j : Nat) : Prop :=
  ∀ P : Nat → Prop, (∀ j, To fs rs j → P j) → (∀ i f j, fs[i]? = some f → P i → To fs f j → P j) → P j

theorem rch_root {fs : List (List Int)} {rs : List Int} {j : Nat} (h : To fs rs j) : Rch fs rs j := fun P h1 _ => h1 j h
theorem rch_step {fs : List (List Int)} {rs : List Int} {i j : Nat} {f : List Int} (hi : Rch fs rs i) (hf : fs[i]? = some f) (h : To fs f j) : Rch fs rs j :=
  fun P h1 h2 => h2 i f j hf (hi P h1 h2) h

/-- An arena that may be. -/
structure Arn (hs : List Int) (fs : List (List Int)) (rs : List Int) : Prop where
  fit : Fit hs fs
  n256 : tot fs ≤ 256
  n8 : rs.length ≤ 8
  ur : U64 rs
  uf : ∀ f ∈ fs, U64 f
  okr : ∀ x ∈ rs, okW (stF 0 fs) x = true
  okf : ∀ f ∈ fs, ∀ x ∈ f, okW (stF 0 fs) x = true

theorem arn_of {ws rs : List Int} (hUW : U64 ws) (hUR : U64 rs) (hE : arenaE ws rs = 0) : ∃ hs fs, Arn hs fs rs ∧ ws = joinW hs fs := by
  have hsz : ws.length ≤ 256 ∧ rs.length ≤ 8 := by
    unfold arenaE at hE
    split at hE
    · omega
    · rename_i h; omega
  cases hs : splitR ws with
  | none =>
    unfold arenaE at hE
    rw [if_neg (by omega), hs] at hE
    simp at hE
  | some fs =>
    have hall : (rs ++ fs.flatten).all (okW (stF 0 fs)) = true := by
      unfold arenaE at hE
      rw [if_neg (by omega), hs] at hE
      simp only at hE
      split at hE
      · assumption
      · omega
    rw [List.all_eq_true] at hall
    obtain ⟨h, h1, h2⟩ := split_fit ws.length ws fs (Nat.le_refl _) hUW hs
    exact ⟨h, fs, ⟨h1, by have := (splitR_st hs).1; omega, hsz.2, hUR, u64_fields hs hUW, fun x hx => hall x (List.mem_append.2 (.inl hx)), fun f hf x hx => hall x (List.mem_append.2 (.inr (List.mem_flatten.2 ⟨f, hf, hx⟩)))⟩, h2⟩

theorem joinW_u64 {hs : List Int} {fs : List (List Int)} {rs : List Int} (h : Arn hs fs rs) {hs' : List Int} (h' : Fit hs' fs) : U64 (joinW hs' fs) := by
  intro x hx
  rcases joinW_mem _ _ x hx with hx | ⟨f, hf, hx⟩
  · obtain ⟨k, hk⟩ := List.getElem?_of_mem hx
    have hlt : k < fs.length := by have := (List.getElem?_eq_some_iff.1 hk).1; have := h'.len; omega
    exact (h'.ok k x _ hk (List.getElem?_eq_getElem hlt)).2.2
  · exact h.uf f hf x hx

theorem Arn.same {hs : List Int} {fs : List (List Int)} {rs : List Int} (h : Arn hs fs rs) {hs' : List Int} (h' : Fit hs' fs) : Arn hs' fs rs := ⟨h', h.n256, h.n8, h.ur, h.uf, h.okr, h.okf⟩

theorem Arn.check {hs : List Int} {fs : List (List Int)} {rs : List Int} (h : Arn hs fs rs) : arenaE (joinW hs fs) rs = 0 := by
  refine arenaE_ok (by rw [joinW_len _ _ h.fit.len]; exact h.n256) h.n8 (fit_split h.fit) ?_
  rw [List.all_eq_true]
  intro x hx
  rcases List.mem_append.1 hx with hx | hx
  · exact h.okr x hx
  · obtain ⟨f, hf, hx⟩ := List.mem_flatten.1 hx
    exact h.okf f hf x hx

theorem ok_ref {st : List Int} {x : Int} (h : okW st x = true) : unErr x = 0 ∧ (unRef x = true → ∃ j : Nat, st[j]? = some (unNum x)) := by
  simp only [okW, Bool.and_eq_true, beq_iff_eq, Bool.or_eq_true, Bool.not_eq_true', decide_eq_true_eq] at h
  refine ⟨h.1, fun hr => ?_⟩
  rcases h.2 with h2 | h2
  · rw [hr] at h2; cases h2
  · exact List.getElem?_of_mem h2

theorem st_inj {fs : List (List Int)} {i j : Nat} {x : Int} (h1 : (stF 0 fs)[i]? = some x) (h2 : (stF 0 fs)[j]? = some x) : i = j :=
  (List.getElem?_inj (List.getElem?_eq_some_iff.1 h1).1 (stF_nodup fs 0)).1 (h1.trans h2.symm)

/-- How many are not marked. -/
def unm (n : Nat) (p : Nat → Bool) : Nat := ((List.range n).filter (fun (i : Nat) => !p i)).length

theorem filter_upd (p : Nat → Bool) (i : Nat) : ∀ (l : List Nat), l.Nodup → i ∈ l → p i = false → (l.filter fun k => !upd p i k).length + 1 = (l.filter fun k => !p k).length
  | [], _, h, _ => by simp at h
  | a :: l, hn, h, hp => by
    rw [List.nodup_cons] at hn
    by_cases e : a = i
    · subst e
      have h1 : (l.filter fun k => !upd p a k) = l.filter fun k => !p k := by
        apply List.filter_congr
        intro k hk
        have : k ≠ a := fun e => hn.1 (e ▸ hk)
        simp [upd, this]
      simp [List.filter_cons, hp, upd]
      have h2 : (l.filter fun k => !(k == a) && !p k) = l.filter fun k => !p k := by
        apply List.filter_congr
        intro k hk
        have : k ≠ a := fun e => hn.1 (e ▸ hk)
        simp [this]
      rw [h2]
    · have hm : i ∈ l := by simpa [Ne.symm e] using h
      have ih := filter_upd p i l hn.2 hm hp
      have ea : upd p i a = p a := by simp [upd, e]
      simp only [List.filter_cons, ea]
      split
      · simp only [List.length_cons]; omega
      · exact ih

theorem unm_upd {n : Nat} {p : Nat → Bool} {i : Nat} (hi : i < n) (hp : p i = false) : unm n (upd p i) + 1 = unm n p :=
  filter_upd p i _ List.nodup_range (List.mem_range.2 hi) hp

theorem upd_le {p : Nat → Bool} {i k : Nat} (h : p k = true) : upd p i k = true := by simp [upd, h]
theorem upd_self (p : Nat → Bool) (i : Nat) : upd p i i = true := by simp [upd]
theorem upd_inv {p : Nat → Bool} {i k : Nat} (h : upd p i k = true) : k = i ∨ p k = true := by simpa [upd] using h

/-- Is all that an object refers to marked? -/
def Cl (fs : List (List Int)) (p : Nat → Bool) (i : Nat) : Prop := ∀ f j, fs[i]? = some f → To fs f j → p j = true

theorem Cl.upd {fs : List (List Int)} {p : Nat → Bool} {i k : Nat} (h : Cl fs p k) : Cl fs (upd p i) k := fun f j hf ht => upd_le (h f j hf ht)

/-- All is marked that can be come to. -/
theorem marked_all {fs : List (List Int)} {rs : List Int} {p : Nat → Bool} (h1 : ∀ j, p j = true → Rch fs rs j) (h2 : ∀ j, To fs rs j → p j = true) (h3 : ∀ i, p i = true → Cl fs p i) (j : Nat) : p j = true ↔ Rch fs rs j :=
  ⟨h1 j, fun h => h (fun j => p j = true) h2 (fun i f j hf hi ht => h3 i hi f j hf ht)⟩

end Go.Proofs.Ytemjhdbmcdlpeaa

/- Small things: a header's fields, places, blocks. -/
namespace Go.Proofs.Ytemjhdbmcdlpeaa
set_option linter.unusedSimpArgs false
set_option linter.unusedVariables false
open Go.RowKit Go.Shelf

theorem field47_0 (l a : Int) (m : Bool) (w : World) : Sem.run Try.prog (Instr.field 32 (.agg #[.int .i64 l, .bool m, .int .i64 a]) 0) w = Result.ok (.int .i64 l) w := by
  simp [Instr.field, asAgg, go_sem, Try.underlying32]

theorem Try.info56m : (Try.prog.info? 56).map (fun i => (i.zero, i.size, i.bytes)) = some (some (.int .u64 0), 1, 8) := by kernel_rfl

theorem grown_set (W : World) (b j : Nat) (u : Value) : W.grownBy (W.setCell ⟨b, j, none⟩ u) (some b) :=
  ⟨rfl, rfl, rfl, by simp [World.setCell], fun k _ hk => Below.heap_setCell _ _ _ _ (fun e => hk (by simp [e]))⟩

theorem or_ne {v : Value} {k : Nat} (h : v.ownBlock ≠ some k) : v.ownBlock = none ∨ v.ownBlock ≠ some k := .inr h

theorem place_lt {fs : List (List Int)} {i : Nat} (h : i < fs.length) : tot (fs.take i) < tot fs := by
  have h1 := tot_take_succ h
  have h2 := tot_take_le fs (i + 1)
  omega

theorem fit_at {hs : List Int} {fs : List (List Int)} (h : Fit hs fs) {i : Nat} (hi : i < fs.length) : ∃ x, hs[i]? = some x ∧ unheadOk x = true ∧ wlen x = fs[i].length ∧ 0 ≤ x ∧ x < 18446744073709551616 := by
  have hi' : i < hs.length := by have := h.len; omega
  exact ⟨hs[i], List.getElem?_eq_getElem hi', h.ok i _ _ (List.getElem?_eq_getElem hi') (List.getElem?_eq_getElem hi)⟩

theorem pl_inj {fs : List (List Int)} {i k : Nat} (hi : i < fs.length) (hk : k < fs.length) (h : tot (fs.take i) = tot (fs.take k)) : i = k := by
  have h1 := stF_get fs 0 i hi
  have h2 := stF_get fs 0 k hk
  rw [Nat.zero_add] at h1 h2
  rw [h] at h1
  exact st_inj h1 h2

end Go.Proofs.Ytemjhdbmcdlpeaa

/- Walks: lists of numbers: Ints, rising, within, inside. -/
namespace Go.Proofs.Ytemjhdbmcdlpeaa
set_option linter.unusedSimpArgs false
set_option linter.unusedVariables false
open Go.RowKit

/-- A list that rises, strictly. -/
def risingL (l : List Int) : Bool := (List.range (l.length - 1)).all fun k => decide (l.getD k 0 < l.getD (k + 1) 0)

end Go.Proofs.Ytemjhdbmcdlpeaa

/- Walks. -/
namespace Go.Proofs.Ytemjhdbmcdlpeaa
set_option linter.unusedSimpArgs false
set_option linter.unusedVariables false
open Go.RowKit

set_option maxHeartbeats 400000 in
theorem refers_c (a : Option Addr) (cap : Nat) (l : List V) (j : Int) (B : Nat) (w : World) (hl : Vals B w a l) (hB : B ≤ w.heap.size) :
    Calls Try.prog 50 #[.slice a l.length cap, .int .i64 j] w fun e w' => e = .returned (.bool (refers l j)) ∧ Below B w w' := by
  have hlen := hl.1
  go_enter Try.func50, Try.ntmps50
  go_wp2
  go_loopw [9] (fun i wr => ∃ k : Nat, k ≤ l.length ∧ i = .int .i64 k ∧ refers (l.take k) j = false ∧ Below B w wr) (fun i _ => l.length - (intOf i).toNat)
  case atStart => exact ⟨0, Nat.zero_le _, rfl, by simp [refers], Below.refl _ _⟩
  case round =>
    obtain ⟨k, hk, rfl, hno, hb⟩ := hrel
    by_cases hlt : k < l.length
    · obtain ⟨b, off, r, n, rfl, hbB, hc1, hc2, Hv⟩ := (hl.below hb).at hlt
      have HT := hide (refers_take (j := j) hlt Hv.out)
      cases r
      · go_wp2
        go_roundw
        case rel => exact ⟨k + 1, by omega, by go_num, by rw [unhide HT, hno]; rfl, hb.alloc (by have := hb.size; omega) _⟩
        case measure => simp [intOf]; omega
      · by_cases hj : n = j
        · have hj' : (n == j) = true := by simp [hj]
          go_wp2
          go_ret
          exact ⟨ret_bool (refers_of_take (k := k + 1) (by rw [unhide HT, hno]; simpa using hj)).symm, hb.alloc (by have := hb.size; omega) _⟩
        · have hj' : (n == j) = false := by simp [hj]
          go_wp2
          go_roundw
          case rel => exact ⟨k + 1, by omega, by go_num, by rw [unhide HT, hno]; simpa using hj, hb.alloc (by have := hb.size; omega) _⟩
          case measure => simp [intOf]; omega
    · go_wp2
      go_ret
      exact ⟨ret_bool (by rw [List.take_of_length_le (by omega)] at hno; exact hno.symm), hb⟩

end Go.Proofs.Ytemjhdbmcdlpeaa

/- How far objects are: plain facts. -/
namespace Go.Proofs.Ytemjhdbmcdlpeaa
set_option linter.unusedSimpArgs false
set_option linter.unusedVariables false

/-- The best of what stands before the first k. -/
def bestK (D : Nat → Int) (R : Nat → Bool) : Nat → Int
  | 0 => -1
  | i + 1 => if 0 ≤ D i ∧ R i = true ∧ (bestK D R i < 0 ∨ D i + 1 < bestK D R i) then D i + 1 else bestK D R i

theorem bestK_spec (D : Nat → Int) (R : Nat → Bool) : ∀ k, (bestK D R k = -1 ∧ ∀ i, i < k → ¬ (0 ≤ D i ∧ R i = true)) ∨ (∃ i, i < k ∧ 0 ≤ D i ∧ R i = true ∧ bestK D R k = D i + 1 ∧ ∀ i', i' < k → 0 ≤ D i' → R i' = true → D i ≤ D i')
  | 0 => .inl ⟨rfl, fun i h => by omega⟩
  | k + 1 => by
    have ih := bestK_spec D R k
    by_cases hc : 0 ≤ D k ∧ R k = true
    · rcases ih with ⟨h1, h2⟩ | ⟨i, h1, h2, h3, h4, h5⟩
      · refine .inr ⟨k, by omega, hc.1, hc.2, ?_, ?_⟩
        · show (if _ then _ else _) = _
          rw [if_pos ⟨hc.1, hc.2, .inl (by omega)⟩]
        · intro i' hi' h0 hr
          by_cases e : i' = k
          · subst e; omega
          · exact absurd ⟨h0, hr⟩ (h2 i' (by omega))
      · by_cases hb : D k + 1 < bestK D R k
        · refine .inr ⟨k, by omega, hc.1, hc.2, ?_, ?_⟩
          · show (if _ then _ else _) = _
            rw [if_pos ⟨hc.1, hc.2, .inr hb⟩]
          · intro i' hi' h0 hr
            by_cases e : i' = k
            · subst e; omega
            · have := h5 i' (by omega) h0 hr; omega
        · refine .inr ⟨i, by omega, h2, h3, ?_, ?_⟩
          · show (if _ then _ else _) = _
            rw [if_neg (by rintro ⟨_, _, h | h⟩ <;> omega)]; exact h4
          · intro i' hi' h0 hr
            by_cases e : i' = k
            · subst e; omega
            · exact h5 i' (by omega) h0 hr
    · have e : bestK D R (k + 1) = bestK D R k := by
        show (if _ then _ else _) = _
        rw [if_neg (fun h => hc ⟨h.1, h.2.1⟩)]
      rw [e]
      rcases ih with ⟨h1, h2⟩ | ⟨i, h1, h2, h3, h4, h5⟩
      · refine .inl ⟨h1, fun i hi => ?_⟩
        by_cases e : i = k
        · subst e; exact hc
        · exact h2 i (by omega)
      · refine .inr ⟨i, by omega, h2, h3, h4, fun i' hi' h0 hr => ?_⟩
        by_cases e : i' = k
        · subst e; exact absurd ⟨h0, hr⟩ hc
        · exact h5 i' (by omega) h0 hr

theorem idx_of {l : List Int} (h : l.Nodup) {m : Nat} {o : Int} (hm : l[m]? = some o) : l.idxOf o = m := by
  obtain ⟨hlt, rfl⟩ := List.getElem?_eq_some_iff.1 hm
  have h1 : l.idxOf l[m] < l.length := List.idxOf_lt_length_iff.2 (List.getElem_mem hlt)
  have h2 := List.getElem_idxOf h1
  rw [List.nodup_iff_pairwise_ne, List.pairwise_iff_getElem] at h
  rcases Nat.lt_trichotomy (l.idxOf l[m]) m with h3 | h3 | h3
  · exact absurd h2 (h _ _ h1 hlt h3)
  · exact h3
  · exact absurd h2.symm (h _ _ hlt h1 h3)

theorem distAt_of {g : Gr} (h : Good g) {m : Nat} {o d : Int} (hm : (orderOf g)[m]? = some o) (hd : (distOf g)[m]? = some d) : distAt g o = d := by
  unfold distAt
  rw [if_pos (List.mem_of_getElem? hm), idx_of (order_nodup h) hm, hd]; rfl

theorem distAt_mem {g : Gr} (h : Good g) {o : Int} (ho : o ∈ orderOf g) : ∃ (m : Nat) (d : Int), (orderOf g)[m]? = some o ∧ (distOf g)[m]? = some d ∧ distAt g o = d ∧ 0 ≤ d ∧ d ≤ m := by
  obtain ⟨m, hm, rfl⟩ := List.getElem_of_mem ho
  have hok := searchN_ok h g.objs.length
  have hm2 : m < (distOf g).length := by rw [show (distOf g).length = (orderOf g).length from hok.len]; exact hm
  have h1 := List.getElem?_eq_getElem hm
  have h2 := List.getElem?_eq_getElem hm2
  have h3 := hok.pos m _ h2
  exact ⟨m, _, h1, h2, distAt_of h h1 h2, h3.1, h3.2⟩

theorem distAt_nonneg {g : Gr} (h : Good g) (o : Int) : 0 ≤ distAt g o ↔ o ∈ orderOf g := by
  constructor
  · intro h0
    unfold distAt at h0
    split at h0
    · assumption
    · omega
  · intro ho
    obtain ⟨_, d, _, _, e, h0, _⟩ := distAt_mem h ho
    omega

theorem distAt_bounds {g : Gr} (h : Good g) (o : Int) : -1 ≤ distAt g o ∧ distAt g o ≤ 256 := by
  by_cases ho : o ∈ orderOf g
  · obtain ⟨m, d, h1, _, e, h0, h2⟩ := distAt_mem h ho
    have := (List.getElem?_eq_some_iff.1 h1).1
    have := (searchN_ok h g.objs.length).le
    have := h.n24
    unfold orderOf at *
    omega
  · unfold distAt
    rw [if_neg ho]; omega

/-- An object is as far as one more than the nearest that refers to it. -/
theorem steps_eq {g : Gr} (h : Good g) {j : Nat} (hj : j < g.objs.length) :
    distAt g (j : Int) = if refers g.roots (j : Int) = true then 0 else bestK (fun i => distAt g (i : Int)) (fun i => refers (fieldsOf g (i : Int)) (j : Int)) g.objs.length := by
  have hB := bfs g g.objs.length
  have hR := refers_iff h.refsRoots (j : Int)
  have hF : ∀ (i : Nat), i < g.objs.length → (refers (fieldsOf g (i : Int)) (j : Int) = true ↔ (j : Int) ∈ refsL (fieldsOf g (i : Int))) := fun i hi => refers_iff (h.refsObjs (fieldsOf_mem (by omega) (by omega))) _
  have hlen := (searchN_ok h g.objs.length).le
  by_cases hjo : (j : Int) ∈ orderOf g
  · obtain ⟨p, dp, hp, hd, e, h0, _⟩ := distAt_mem h hjo
    rw [e]
    rcases hB.cause p (j : Int) dp hp hd with ⟨h1, h2⟩ | ⟨h1, m, om, dm, hm, h2, h3, h4, h5, h6⟩
    · rw [if_pos (hR.2 h1)]; exact h2
    · rw [if_neg (fun hh => h1 (hR.1 hh))]
      have hom : om ∈ orderOf g := List.mem_of_getElem? h2
      have hor := order_ok h hom
      obtain ⟨om, rfl⟩ := Int.eq_ofNat_of_zero_le hor.1
      have hdm := distAt_of h h2 h3
      have hdm0 := (distAt_nonneg h (om : Int)).2 hom
      rcases bestK_spec (fun i => distAt g (i : Int)) (fun i => refers (fieldsOf g (i : Int)) (j : Int)) g.objs.length with ⟨_, hno⟩ | ⟨i, hi, b1, b2, b3, b4⟩
      · exact absurd ⟨hdm0, (hF om (by omega)).2 h4⟩ (hno om (by omega))
      · rw [b3]
        have hle := b4 om (by omega) hdm0 ((hF om (by omega)).2 h4)
        have hio := (distAt_nonneg h (i : Int)).1 b1
        obtain ⟨q, dq, hq, hdq, eq, _, _⟩ := distAt_mem h hio
        have hji := (hF i hi).1 b2
        have hmq : m ≤ q := by
          rcases Nat.lt_or_ge q m with hlt | hge
          · exact absurd hji (h6 q (i : Int) hlt hq)
          · exact hge
        have := hB.mono m q dm dq hmq h3 hdq
        omega
  · have e : distAt g (j : Int) = -1 := by unfold distAt; rw [if_neg hjo]
    rw [e, if_neg (fun hh => hjo (order_roots g _ (hR.1 hh)))]
    rcases bestK_spec (fun i => distAt g (i : Int)) (fun i => refers (fieldsOf g (i : Int)) (j : Int)) g.objs.length with ⟨h1, _⟩ | ⟨i, hi, b1, b2, _, _⟩
    · exact h1.symm
    · exact absurd (order_closed h ((distAt_nonneg h (i : Int)).1 b1) _ ((hF i hi).1 b2)) hjo

theorem bestK_bounds {D : Nat → Int} {R : Nat → Bool} (hD : ∀ i, -1 ≤ D i ∧ D i ≤ 256) (k : Nat) : -1 ≤ bestK D R k ∧ bestK D R k ≤ 257 := by
  rcases bestK_spec D R k with ⟨h1, _⟩ | ⟨i, _, h2, _, h3, _⟩
  · omega
  · have := hD i; omega

end Go.Proofs.Ytemjhdbmcdlpeaa

/- How far objects are, level by level: plain facts. -/
namespace Go.Proofs.Ytemjhdbmcdlpeaa
set_option linter.unusedSimpArgs false
set_option linter.unusedVariables false

/-- What is known behind s levels. -/
def lev (D : Nat → Int) (s j : Nat) : Int := if 0 ≤ D j ∧ D j ≤ (s : Int) then D j else -1
/-- One of the first i that stand at level s refers to j. -/
def hit (D : Nat → Int) (R : Nat → Nat → Bool) (s i j : Nat) : Bool := (List.range i).any fun i' => decide (D i' = (s : Int)) && R i' j
def mid (D : Nat → Int) (R : Nat → Nat → Bool) (s i j : Nat) : Int := if 0 ≤ lev D s j then lev D s j else if hit D R s i j = true then (s : Int) + 1 else -1

theorem hit_succ (D : Nat → Int) (R : Nat → Nat → Bool) (s i j : Nat) : hit D R s (i + 1) j = (hit D R s i j || (decide (D i = (s : Int)) && R i j)) := by
  unfold hit; rw [List.range_succ, List.any_append]; simp

theorem hit_iff (D : Nat → Int) (R : Nat → Nat → Bool) (s i j : Nat) : hit D R s i j = true ↔ ∃ i', i' < i ∧ D i' = (s : Int) ∧ R i' j = true := by
  unfold hit; simp [List.any_eq_true]

theorem lev_cases (D : Nat → Int) (s j : Nat) : (0 ≤ lev D s j ∧ lev D s j = D j ∧ D j ≤ (s : Int)) ∨ (lev D s j = -1 ∧ ¬ (0 ≤ D j ∧ D j ≤ (s : Int))) := by
  unfold lev; split
  · left; omega
  · right; omega

theorem mid_zero (D : Nat → Int) (R : Nat → Nat → Bool) (s j : Nat) : mid D R s 0 j = lev D s j := by
  unfold mid
  rcases lev_cases D s j with ⟨h, _, _⟩ | ⟨h, _⟩
  · rw [if_pos h]
  · rw [if_neg (by omega), if_neg (by simp [hit]), h]

theorem mid_skip {D : Nat → Int} {R : Nat → Nat → Bool} {s i j : Nat} (h : D i ≠ (s : Int)) : mid D R s (i + 1) j = mid D R s i j := by
  unfold mid; rw [hit_succ]; simp [h]

theorem mid_set {D : Nat → Int} {R : Nat → Nat → Bool} {s i j : Nat} (h1 : mid D R s i j < 0) (h2 : D i = (s : Int)) (h3 : R i j = true) : mid D R s (i + 1) j = (s : Int) + 1 := by
  unfold mid at *
  rcases lev_cases D s j with ⟨h, _, _⟩ | ⟨h, _⟩
  · rw [if_pos h] at h1; omega
  · rw [if_neg (by omega), if_pos (by rw [hit_succ]; simp [h2, h3])]

theorem mid_keep {D : Nat → Int} {R : Nat → Nat → Bool} {s i j : Nat} (h : 0 ≤ mid D R s i j ∨ R i j = false) : mid D R s (i + 1) j = mid D R s i j := by
  unfold mid at *
  rcases lev_cases D s j with ⟨h0, _, _⟩ | ⟨h0, _⟩
  · rw [if_pos h0, if_pos h0]
  · have hn : ¬ 0 ≤ lev D s j := by omega
    simp only [if_neg hn] at h ⊢
    rcases h with h | h
    · by_cases hh : hit D R s i j = true
      · rw [if_pos hh, if_pos (by rw [hit_succ, hh]; rfl)]
      · rw [if_neg hh] at h; omega
    · rw [hit_succ, h]; simp

theorem mid_self {D : Nat → Int} {R : Nat → Nat → Bool} {s i k : Nat} : mid D R s k i = (s : Int) ↔ D i = (s : Int) := by
  unfold mid
  rcases lev_cases D s i with ⟨h, h1, h2⟩ | ⟨h, h1⟩
  · rw [if_pos h, h1]
  · rw [if_neg (by omega)]
    split
    · constructor
      · intro e; omega
      · intro e; exfalso; apply h1; omega
    · constructor
      · intro e; omega
      · intro e; exfalso; apply h1; omega

theorem mid_bounds {D : Nat → Int} {R : Nat → Nat → Bool} (s i j : Nat) : -1 ≤ mid D R s i j ∧ mid D R s i j ≤ (s : Int) + 1 := by
  unfold mid
  rcases lev_cases D s j with ⟨h, h1, h2⟩ | ⟨h, h1⟩
  · rw [if_pos h]; omega
  · rw [if_neg (by omega)]; split <;> omega

def dG (g : Gr) (i : Nat) : Int := distAt g (i : Int)
def rG (g : Gr) (i j : Nat) : Bool := refers (fieldsOf g (i : Int)) (j : Int)

theorem mid_end {g : Gr} (h : Good g) {s j : Nat} (hj : j < g.objs.length) : mid (dG g) (rG g) s g.objs.length j = lev (dG g) (s + 1) j := by
  have hst := steps_eq h hj
  have hb := distAt_bounds h (j : Int)
  have hsp := bestK_spec (dG g) (fun i => rG g i j) g.objs.length
  have hst : dG g j = if refers g.roots (j : Int) = true then 0 else bestK (dG g) (fun i => rG g i j) g.objs.length := hst
  have hb1 : -1 ≤ dG g j := hb.1
  unfold mid
  rcases lev_cases (dG g) s j with ⟨h0, h1, h2⟩ | ⟨h0, h1⟩
  · rw [if_pos h0, h1]; unfold lev; rw [if_pos ⟨by omega, by omega⟩]
  · rw [if_neg (by omega)]
    by_cases hh : hit (dG g) (rG g) s g.objs.length j = true
    · rw [if_pos hh]
      obtain ⟨i', hi', e1, e2⟩ := (hit_iff _ _ _ _ _).1 hh
      have : dG g j = (s : Int) + 1 := by
        by_cases hr : refers g.roots (j : Int) = true
        · rw [if_pos hr] at hst; omega
        · rw [if_neg hr] at hst
          rcases hsp with ⟨_, hno⟩ | ⟨i, hi, b1, b2, b3, b4⟩
          · exact absurd ⟨by omega, e2⟩ (hno i' hi')
          · have := b4 i' hi' (by omega) e2
            omega
      unfold lev; rw [if_pos (by omega), this]
    · rw [if_neg hh]
      unfold lev
      rw [if_neg]
      intro hc
      have hs1 : dG g j = (s : Int) + 1 := by omega
      by_cases hr : refers g.roots (j : Int) = true
      · rw [if_pos hr] at hst; omega
      · rw [if_neg hr] at hst
        rcases hsp with ⟨hno, _⟩ | ⟨i, hi, b1, b2, b3, b4⟩
        · omega
        · exact hh ((hit_iff _ _ _ _ _).2 ⟨i, hi, by omega, b2⟩)

theorem lev_start {g : Gr} (h : Good g) {j : Nat} (hj : j < g.objs.length) : lev (dG g) 0 j = if refers g.roots (j : Int) = true then 0 else -1 := by
  have hst := steps_eq h hj
  have hsp := bestK_spec (dG g) (fun i => rG g i j) g.objs.length
  have hst : dG g j = if refers g.roots (j : Int) = true then 0 else bestK (dG g) (fun i => rG g i j) g.objs.length := hst
  unfold lev
  by_cases hr : refers g.roots (j : Int) = true
  · rw [if_pos hr] at hst; rw [if_pos hr, if_pos (by omega), hst]
  · rw [if_neg hr] at hst; rw [if_neg hr, if_neg]
    rcases hsp with ⟨hno, _⟩ | ⟨i, hi, b1, b2, b3, b4⟩ <;> omega

theorem lev_end {g : Gr} (h : Good g) {j : Nat} : lev (dG g) g.objs.length j = dG g j := by
  have hb : -1 ≤ dG g j := (distAt_bounds h (j : Int)).1
  unfold lev
  by_cases h0 : 0 ≤ dG g j
  · obtain ⟨m, d, hm, _, e, _, h2⟩ := distAt_mem h ((distAt_nonneg h (j : Int)).1 h0)
    have h3 := (List.getElem?_eq_some_iff.1 hm).1
    have h4 := (searchN_ok h g.objs.length).le
    have h3 : m < (searchN g g.objs.length).1.length := h3
    rw [if_pos ⟨h0, by unfold dG; omega⟩]
  · rw [if_neg (by omega)]; omega

/-- A list that holds a function's values. -/
def Holds' (dl : List Int) (n : Nat) (f : Nat → Int) : Prop := dl.length = n ∧ ∀ j, j < n → dl[j]? = some (f j)

theorem Holds'.set {dl : List Int} {n : Nat} {f f' : Nat → Int} (h : Holds' dl n f) {j : Nat} (hj : j < n) {v : Int} (hv : f' j = v) (ho : ∀ q, q < n → q ≠ j → f' q = f q) : Holds' (dl.set j v) n f' := by
  refine ⟨by rw [List.length_set]; exact h.1, fun q hq => ?_⟩
  by_cases e : q = j
  · subst e; rw [List.getElem?_set_self (by rw [h.1]; exact hq), hv]
  · rw [List.getElem?_set_ne (fun h => e h.symm), h.2 q hq, ho q hq e]

theorem Holds'.congr {dl : List Int} {n : Nat} {f f' : Nat → Int} (h : Holds' dl n f) (ho : ∀ q, q < n → f' q = f q) : Holds' dl n f' := ⟨h.1, fun q hq => by rw [h.2 q hq, ho q hq]⟩

theorem Holds'.dist {g : Gr} {dl : List Int} (h : Holds' dl g.objs.length (dG g)) : dl = distL g := by
  apply List.ext_getElem?
  intro i
  by_cases hi : i < g.objs.length
  · rw [h.2 i hi]; simp [distL, List.getElem?_map, List.getElem?_range hi, dG]
  · rw [List.getElem?_eq_none (by rw [h.1]; omega), List.getElem?_eq_none (by rw [distL_len]; omega)]

end Go.Proofs.Ytemjhdbmcdlpeaa

/- Walks: the document's answer: Dist. -/
namespace Go.Proofs.Ytemjhdbmcdlpeaa
set_option linter.unusedSimpArgs false
set_option linter.unusedVariables false
open Go.RowKit

/-- A row of numbers in a block of the call's own. -/
structure DRow (W : World) (b n : Nat) (dl : List Int) : Prop where
  own : W.ownsRow b 3 1 (.slice (some ⟨b, 0, none⟩) n n) n (intsV dl)
  len : dl.length = n

theorem DRow.below {W W' : World} {b n : Nat} {dl : List Int} (h : DRow W b n dl) (hb : Below W.heap.size W W') : DRow W' b n dl :=
  ⟨h.own.kept (grown_of_below hb) (Classical.em _), h.len⟩

theorem DRow.lt {W : World} {b n : Nat} {dl : List Int} (h : DRow W b n dl) : b < W.heap.size := (h.own.lt b rfl).2

theorem DRow.cell {W : World} {b n : Nat} {dl : List Int} (h : DRow W b n dl) {k : Nat} {x : Int} (hx : dl[k]? = some x) : W.cell? ⟨b, k, none⟩ = some (.int .i64 x) := by
  have := h.own.cells (g := b) rfl k (.int .i64 x) (by simp [intsV, hx])
  have hadd : (⟨b, 0, none⟩ : Addr).add k = ⟨b, k, none⟩ := by unfold Addr.add; split <;> simp_all
  rwa [hadd] at this

theorem DRow.set {W : World} {b n : Nat} {dl : List Int} (h : DRow W b n dl) (k : Nat) (x : Int) : DRow (W.setCell ⟨b, k, none⟩ (.int .i64 x)) b n (dl.set k x) := by
  refine ⟨?_, by rw [List.length_set]; exact h.len⟩
  have := (h.own.stored k (.int .i64 x)).1
  have e : intsV (dl.set k x) = (intsV dl).set k (.int .i64 x) := by simp [intsV, List.map_set]
  rw [e]; exact this

theorem DRow.frozen {W : World} {b n : Nat} {dl : List Int} (h : DRow W b n dl) (k : Nat) : W.frozen? ⟨b, k, none⟩ = false := h.own.frozenAt k

theorem made_ints (n : Nat) : (madeCells (Value.int .i64 0).cells (n * 1)).toList = intsV (List.replicate n 0) := by
  rw [Nat.mul_one]
  have hc : (Value.int .i64 0).cells = #[Value.int .i64 0] := rfl
  rw [hc]
  apply List.ext_getElem?
  intro i
  simp only [madeCells, intsV, Array.toList_map, Array.toList_range, List.getElem?_map, List.getElem?_replicate]
  by_cases hi : i < n
  · rw [List.getElem?_range hi, if_pos hi]; simp [Nat.mod_one]
  · rw [List.getElem?_eq_none (by simp; omega), if_neg hi]; rfl

def start1 (g : Gr) (k j : Nat) : Int := if j < k then lev (dG g) 0 j else 0

set_option maxRecDepth 100000 in
set_option maxHeartbeats 4000000 in
theorem refDist_c (ao ar : Option Addr) (co cr : Nat) (g : Gr) (B : Nat) (w : World) (ho : Objs B w ao g.objs) (hr : Vals B w ar g.roots) (hB : B ≤ w.heap.size) (hG : Good g) :
    Calls Try.prog 35 #[.agg #[.slice ao g.objs.length co, .slice ar g.roots.length cr]] w fun e w' => ∃ a cap, e = .returned (.slice a (distL g).length cap) ∧ Ints w'.heap.size w' a (distL g) ∧ Below w.heap.size w w' := by
  obtain ⟨i0, hi, hz0, hz1, hz2⟩ := info_parts Try.info3
  have hn24 := hG.n24
  obtain ⟨W4, hW4⟩ : ∃ W4, w.alloc (.cells #[.slice ao g.objs.length co, .slice ar g.roots.length cr] 43) = W4 := ⟨_, rfl⟩
  have hb0 : Below w.heap.size w W4 := by rw [← hW4]; exact (Below.refl _ _).alloc (Nat.le_refl _) _
  have hs0 : w.heap.size < W4.heap.size := by rw [← hW4]; simp
  have g0 : W4.cell? ⟨w.heap.size, 0, none⟩ = some (.slice ao g.objs.length co) := by rw [← hW4]; simp [go_sem]
  have g1 : W4.cell? ⟨w.heap.size, 1, none⟩ = some (.slice ar g.roots.length cr) := by rw [← hW4]; simp [go_sem]
  go_enter Try.func35, Try.ntmps35
  go_wp2_with (at_make; go_must (refine wpList_make_full _ rfl _ _ 38 rfl W4.heap.size 3 i0 _ 1 Try.underlying38 hi hz0 hz1 .i64 .i64 _ _ g.objs.length rfl rfl rfl rfl (by rw [hz2]; omega) (by simp only [maxLen]; omega) (Nat.le_refl _) ?_); go_must (intro w5 hown hg5))
  clear hW4
  have hb5 : Below W4.heap.size W4 w5 := (Below.refl _ W4).grown hg5 (Nat.le_refl _) (fun k e => by cases e)
  obtain ⟨dl5, hD5⟩ : ∃ dl5, DRow w5 W4.heap.size g.objs.length dl5 := by
    refine ⟨List.replicate g.objs.length 0, ⟨?_, by simp⟩⟩
    have e : (madeCells (Value.int .i64 0).cells (g.objs.length * 1)).toList = intsV (List.replicate g.objs.length 0) := made_ints _
    rw [e] at hown
    exact hown
  clear hown hg5
  go_loopw [4] (fun i wr => ∃ (k : Nat) (dl : List Int), k ≤ g.objs.length ∧ i = .int .i64 k ∧ DRow wr W4.heap.size g.objs.length dl ∧ Hid (∀ j, j < k → dl[j]? = some (lev (dG g) 0 j)) ∧ Below W4.heap.size W4 wr) (fun i _ => g.objs.length - (intOf i).toNat)
  case atStart => exact ⟨0, dl5, Nat.zero_le _, rfl, hD5, fun j hj => by omega, hb5⟩
  case round =>
    clear hD5 hb5
    obtain ⟨k, dl, hk, rfl, hD, Hd, hb⟩ := hrel
    have hsz := hb.size
    have hlt0 := hD.lt
    by_cases hlt : k < g.objs.length
    · have hltd : k < dl.length := by rw [hD.len]; exact hlt
      have hx0 := hD.cell (List.getElem?_eq_getElem hltd)
      have hf0 := hD.frozen k
      have hltI : (k : Int) < (g.objs.length : Int) := by omega
      have hD1 := hD.set k (-1)
      have hb1 : Below W4.heap.size W4 (wr.setCell ⟨W4.heap.size, k, none⟩ (.int .i64 (-1))) := hb.setCell (p := ⟨W4.heap.size, k, none⟩) (Nat.le_refl _) _
      obtain ⟨W6, hW6⟩ : ∃ W6, wr.setCell ⟨W4.heap.size, k, none⟩ (.int .i64 (-1)) = W6 := ⟨_, rfl⟩
      rw [hW6] at hD1 hb1
      have hs6 := hb1.size
      have q1 := (hb1.cell (p := ⟨w.heap.size, 1, none⟩) (by simp; omega)).trans g1
      have hV6 := (hr.below ((hb0.mono hB).trans (hb1.mono (by omega)))).mono (B' := W6.heap.size) (by omega)
      have HL := hide (lev_start hG hlt)
      have Hd1 : Hid (∀ j, j < k → (dl.set k (-1))[j]? = some (lev (dG g) 0 j)) := fun j hj => by rw [List.getElem?_set_ne (by omega)]; exact unhide Hd j hj
      have hl1 : (dl.set k (-1)).length = g.objs.length := hD1.len
      clear hD hb Hd
      cases hrf : refers g.roots (k : Int)
      · have HL : Hid (lev (dG g) 0 k = -1) := by have := unhide HL; rw [hrf] at this; exact this
        go_wp2_with (go_at_call 50; go_must (refine (refers_c ar cr g.roots (k : Int) W6.heap.size W6 hV6 (Nat.le_refl _)).mono ?_); go_must (rintro e w7 ⟨he, hb7⟩; rw [hrf] at he; subst he))
        go_roundw
        case rel =>
          refine ⟨k + 1, dl.set k (-1), by omega, by go_num, hD1.below hb7, ?_, hb1.trans (hb7.mono hs6)⟩
          intro j hj
          rcases Nat.lt_or_ge j k with h | h
          · exact unhide Hd1 j h
          · obtain rfl : j = k := by omega
            rw [List.getElem?_set_self hltd, unhide HL]
        case measure => simp [intOf]; omega
      · have HL : Hid (lev (dG g) 0 k = 0) := by have := unhide HL; rw [hrf] at this; exact this
        go_wp2_with (go_at_call 50; go_must (refine (refers_c ar cr g.roots (k : Int) W6.heap.size W6 hV6 (Nat.le_refl _)).mono ?_); go_must (rintro e w7 ⟨he, hb7⟩; rw [hrf] at he; subst he; have hD7 := hD1.below hb7; have hx7 := hD7.cell (List.getElem?_set_self hltd); have hf7 := hD7.frozen k))
        go_roundw
        case rel =>
          refine ⟨k + 1, (dl.set k (-1)).set k 0, by omega, by go_num, hD7.set k 0, ?_, (hb1.trans (hb7.mono hs6)).setCell (p := ⟨W4.heap.size, k, none⟩) (Nat.le_refl _) _⟩
          intro j hj
          rcases Nat.lt_or_ge j k with h | h
          · rw [List.getElem?_set_ne (by omega)]; exact unhide Hd1 j h
          · obtain rfl : j = k := by omega
            rw [List.getElem?_set_self (by omega), unhide HL]
        case measure => simp [intOf]; omega
    · obtain rfl : k = g.objs.length := by omega
      have Hh : Hid (Holds' dl g.objs.length (lev (dG g) 0)) := ⟨hD.len, unhide Hd⟩
      clear Hd
      go_wp2
      go_loopw [5] (fun i wr => ∃ (s : Nat) (dl : List Int), s ≤ g.objs.length ∧ i = .int .i64 s ∧ DRow wr W4.heap.size g.objs.length dl ∧ Hid (Holds' dl g.objs.length (lev (dG g) s)) ∧ Below W4.heap.size W4 wr) (fun i _ => g.objs.length - (intOf i).toNat)
      case atStart => exact ⟨0, dl, Nat.zero_le _, rfl, hD, Hh, hb⟩
      case round =>
        clear hD hb hsz hlt0 Hh
        obtain ⟨s, dl, hs, rfl, hD, Hh, hb⟩ := hrel
        by_cases hlts : s < g.objs.length
        · have hltI : (s : Int) < (g.objs.length : Int) := by omega
          have Hh : Hid (Holds' dl g.objs.length (mid (dG g) (rG g) s 0)) := (unhide Hh).congr (fun q _ => mid_zero _ _ _ _)
          go_wp2
          go_loopw [6] (fun i wr => ∃ (p : Nat) (dl : List Int), p ≤ g.objs.length ∧ i = .int .i64 p ∧ DRow wr W4.heap.size g.objs.length dl ∧ Hid (Holds' dl g.objs.length (mid (dG g) (rG g) s p)) ∧ Below W4.heap.size W4 wr) (fun i _ => g.objs.length - (intOf i).toNat)
          case atStart => exact ⟨0, dl, Nat.zero_le _, rfl, hD, Hh, hb⟩
          case round =>
            clear hD hb Hh
            obtain ⟨p, dl, hp, rfl, hD, Hh, hb⟩ := hrel
            by_cases hltp : p < g.objs.length
            · have hltpI : (p : Int) < (g.objs.length : Int) := by omega
              obtain ⟨bo, oo, ai, ci, rfl, hboB, hcb, hva⟩ := ho.at hltp
              have Hfs := hide (show fieldsOf g (p : Int) = g.objs[p] by simp [fieldsOf, hltp])
              have HR : Hid (∀ q : Nat, rG g p q = refers g.objs[p] (q : Int)) := fun q => by unfold rG; rw [unhide Hfs]
              generalize g.objs[p] = fs at *
              by_cases hds : dG g p = (s : Int)
              · have Hds := hide hds
                clear hds
                go_wp2
                go_loopw [7] (fun i wr => ∃ (q : Nat) (dl : List Int), q ≤ g.objs.length ∧ i = .int .i64 q ∧ DRow wr W4.heap.size g.objs.length dl ∧ Hid (Holds' dl g.objs.length (fun j => if j < q then mid (dG g) (rG g) s (p + 1) j else mid (dG g) (rG g) s p j)) ∧ Below W4.heap.size W4 wr) (fun i _ => g.objs.length - (intOf i).toNat)
                case atStart => exact ⟨0, dl, Nat.zero_le _, rfl, hD, (unhide Hh).congr (fun q _ => by rw [if_neg (by omega)]), hb⟩
                case round =>
                  clear hD hb Hh
                  obtain ⟨q, dl, hq, rfl, hD, Hh, hb⟩ := hrel
                  have hsz := hb.size
                  have hlt0 := hD.lt
                  have hbw : Below B w wr := (hb0.mono hB).trans (hb.mono (by omega))
                  have hxp : ∃ x, dl[p]? = some x ∧ x = (s : Int) := by
                    refine ⟨_, (unhide Hh).2 p hltp, ?_⟩
                    show (if p < q then mid (dG g) (rG g) s (p + 1) p else mid (dG g) (rG g) s p p) = (s : Int)
                    split <;> exact mid_self.2 (unhide Hds)
                  obtain ⟨x, hxp, hxs⟩ := hxp
                  subst hxs
                  have hcp := hD.cell hxp
                  have dss : ((s : Int) == (s : Int)) = true := by simp
                  by_cases hltq : q < g.objs.length
                  · have hltqI : (q : Int) < (g.objs.length : Int) := by omega
                    have hxq := (unhide Hh).2 q hltq
                    simp only [Nat.lt_irrefl, if_false] at hxq
                    have hmb := mid_bounds (D := dG g) (R := rG g) s p q
                    have hcq := hD.cell hxq
                    have hfq := hD.frozen q
                    have q0 := (hb.cell (p := ⟨w.heap.size, 0, none⟩) (by simp; omega)).trans g0
                    have hcb2 := (hbw.cell (p := ⟨bo, oo + p, none⟩) (by simpa using hboB)).trans hcb
                    have hva2 := (hva.below hbw).mono (B' := wr.heap.size) (by omega)
                    have Hset : Hid (mid (dG g) (rG g) s p q < 0 → refers fs (q : Int) = true → mid (dG g) (rG g) s (p + 1) q = (s : Int) + 1) := fun h1 h2 => mid_set h1 (unhide Hds) (by rw [unhide HR q]; exact h2)
                    have Hkeep : Hid (0 ≤ mid (dG g) (rG g) s p q ∨ refers fs (q : Int) = false → mid (dG g) (rG g) s (p + 1) q = mid (dG g) (rG g) s p q) := fun h => mid_keep (h.imp id (fun h => by rw [unhide HR q]; exact h))
                    have Hnext : Hid (mid (dG g) (rG g) s (p + 1) q = mid (dG g) (rG g) s p q → Holds' dl g.objs.length (fun j => if j < q + 1 then mid (dG g) (rG g) s (p + 1) j else mid (dG g) (rG g) s p j)) := fun h => (unhide Hh).congr (fun j _ => by
                      rcases Nat.lt_trichotomy j q with h1 | h1 | h1
                      · rw [if_pos (by omega), if_pos h1]
                      · subst h1; rw [if_pos (by omega), if_neg (by omega), h]
                      · rw [if_neg (by omega), if_neg (by omega)])
                    have Hnew : Hid (mid (dG g) (rG g) s (p + 1) q = (s : Int) + 1 → Holds' (dl.set q ((s : Int) + 1)) g.objs.length (fun j => if j < q + 1 then mid (dG g) (rG g) s (p + 1) j else mid (dG g) (rG g) s p j)) := fun h => (unhide Hh).set hltq (by rw [if_pos (by omega)]; exact h) (fun j _ hj => by
                      rcases Nat.lt_trichotomy j q with h1 | h1 | h1
                      · rw [if_pos (by omega), if_pos h1]
                      · exact absurd h1 hj
                      · rw [if_neg (by omega), if_neg (by omega)])
                    generalize mid (dG g) (rG g) s p q = y at *
                    generalize mid (dG g) (rG g) s (p + 1) q = y1 at *
                    by_cases hy : y < 0
                    · cases hrf : refers fs (q : Int)
                      · have HN := hide (unhide Hnext (unhide Hkeep (.inr hrf)))
                        go_wp2_with (go_at_call 50; go_must (refine (refers_c ai ci fs (q : Int) wr.heap.size wr hva2 (Nat.le_refl _)).mono ?_); go_must (rintro e w7 ⟨he, hb7⟩; rw [hrf] at he; subst he))
                        go_roundw
                        case rel => exact ⟨q + 1, dl, by omega, by go_num, hD.below hb7, HN, hb.trans (hb7.mono hsz)⟩
                        case measure => simp [intOf]; omega
                      · have HN := hide (unhide Hnew (unhide Hset hy hrf))
                        have hw1 : IntKind.i64.wrap ((s : Int) + 1) = (s : Int) + 1 := by rw [IntKind.wrap_i64]; omega
                        go_wp2_with (go_at_call 50; go_must (refine (refers_c ai ci fs (q : Int) wr.heap.size wr hva2 (Nat.le_refl _)).mono ?_); go_must (rintro e w7 ⟨he, hb7⟩; rw [hrf] at he; subst he; have hD7 := hD.below hb7; have hx7 := hD7.cell hxq; have hf7 := hD7.frozen q))
                        go_roundw
                        case rel => exact ⟨q + 1, dl.set q ((s : Int) + 1), by omega, by go_num, hD7.set q _, HN, (hb.trans (hb7.mono hsz)).setCell (p := ⟨W4.heap.size, q, none⟩) (Nat.le_refl _) _⟩
                        case measure => simp [intOf]; omega
                    · have HN := hide (unhide Hnext (unhide Hkeep (.inl (by omega))))
                      have dy : decide (y < 0) = false := by simp; omega
                      go_wp2
                      go_roundw
                      case rel => exact ⟨q + 1, dl, by omega, by go_num, hD, HN, hb⟩
                      case measure => simp [intOf]; omega
                  · obtain rfl : q = g.objs.length := by omega
                    have HN : Hid (Holds' dl g.objs.length (mid (dG g) (rG g) s (p + 1))) := (unhide Hh).congr (fun j hj => by rw [if_pos hj])
                    go_wp2
                    go_roundw
                    case rel => exact ⟨p + 1, dl, by omega, by go_num, hD, HN, hb⟩
                    case measure => simp [intOf]; omega
              · have HN : Hid (Holds' dl g.objs.length (mid (dG g) (rG g) s (p + 1))) := (unhide Hh).congr (fun j _ => mid_skip hds)
                have Hxp := (unhide Hh).2 p hltp
                have hcp := hD.cell Hxp
                have dne : (mid (dG g) (rG g) s p p == (s : Int)) = false := by simp; exact fun h => hds (mid_self.1 h)
                have hlt0 := hD.lt
                clear hds
                generalize mid (dG g) (rG g) s p p = y at *
                go_wp2
                go_loopw [7] (fun i wq => i = .int .i64 0 ∧ wq = wr) (fun _ _ => 0)
                case atStart => exact ⟨rfl, rfl⟩
                case round =>
                  obtain ⟨rfl, rfl⟩ := hrel
                  go_wp2
                  go_roundw
                  case rel => exact ⟨p + 1, dl, by omega, by go_num, hD, HN, hb⟩
                  case measure => simp [intOf]; omega
            · obtain rfl : p = g.objs.length := by omega
              have HN : Hid (Holds' dl g.objs.length (lev (dG g) (s + 1))) := (unhide Hh).congr (fun j hj => (mid_end hG hj).symm)
              go_wp2
              go_roundw
              case rel => exact ⟨s + 1, dl, by omega, by go_num, hD, HN, hb⟩
              case measure => simp [intOf]; omega
        · obtain rfl : s = g.objs.length := by omega
          have HN : Hid (dl = distL g) := ((unhide Hh).congr (fun j _ => (lev_end hG).symm)).dist
          have hown := hD.own
          rw [unhide HN] at hown
          obtain ⟨a', cap', hv, hV, _⟩ := ints_of_owns hown (distL_len g).symm (by omega)
          have Hv := hide hv
          clear hv
          go_wp2
          go_ret
          exact ⟨a', cap', congrArg Ending.returned (unhide Hv), hV, hb0.trans (hb.mono (by omega))⟩

end Go.Proofs.Ytemjhdbmcdlpeaa

/- Walks: the document's answer: Reach; GraphTells. -/
namespace Go.Proofs.Ytemjhdbmcdlpeaa
set_option linter.unusedSimpArgs false
set_option linter.unusedVariables false
open Go.RowKit

/-- The first k objects, those that can be come to. -/
def reachK (g : Gr) (k : Nat) : List Int := ((List.range k).filter (fun (i : Nat) => decide (0 ≤ dG g i))).map (fun (i : Nat) => (i : Int))

theorem reachK_yes {g : Gr} {k : Nat} (h : 0 ≤ dG g k) : reachK g (k + 1) = reachK g k ++ [(k : Int)] := by
  unfold reachK; rw [List.range_succ, List.filter_append, List.map_append]; simp [h]
theorem reachK_no {g : Gr} {k : Nat} (h : dG g k < 0) : reachK g (k + 1) = reachK g k := by
  unfold reachK; rw [List.range_succ, List.filter_append, List.map_append]; simp; omega
theorem reachK_len (g : Gr) (k : Nat) : (reachK g k).length ≤ k := by
  unfold reachK; rw [List.length_map]; have := List.length_filter_le (fun i => decide (0 ≤ dG g i)) (List.range k); simpa using this

set_option maxRecDepth 100000 in
set_option maxHeartbeats 1000000 in
theorem refReach_c (ao ar : Option Addr) (co cr : Nat) (g : Gr) (B : Nat) (w : World) (ho : Objs B w ao g.objs) (hr : Vals B w ar g.roots) (hB : B ≤ w.heap.size) (hG : Good g) :
    Calls Try.prog 14 #[.agg #[.slice ao g.objs.length co, .slice ar g.roots.length cr]] w fun e w' => ∃ a cap, e = .returned (.slice a (reachK g g.objs.length).length cap) ∧ Ints w'.heap.size w' a (reachK g g.objs.length) ∧ Below w.heap.size w w' := by
  obtain ⟨i0, hi, hz0, hz1, hz2⟩ := info_parts Try.info3
  have hn24 := hG.n24
  have hb1 := (Below.refl w.heap.size w).alloc (Nat.le_refl _) (.cells #[.slice ao g.objs.length co, .slice ar g.roots.length cr] 43)
  go_enter Try.func14, Try.ntmps14
  go_wp2_with fail
  refine (refDist_c ao ar co cr g B _ (ho.below (hb1.mono hB)) (hr.below (hb1.mono hB)) (by simp; omega) hG).mono ?_
  rintro e w2 ⟨ad, cd, rfl, hI2, hb2⟩
  have hbw2 : Below w.heap.size w w2 := hb1.trans (hb2.mono (by simp))
  clear hb1 hb2
  have hlD : (distL g).length = g.objs.length := distL_len g
  have HlD := hide hlD
  have hDk : Hid (∀ k, k < g.objs.length → (distL g)[k]? = some (dG g k)) := fun k hk => by simp [distL, List.getElem?_map, List.getElem?_range hk, dG]
  rw [hlD]
  clear hlD
  generalize distL g = D at *
  go_wp2
  go_loopw [3, 9] (fun s i wr => ∃ k : Nat, k ≤ g.objs.length ∧ i = .int .i64 k ∧ wr.ownsRow w2.heap.size 3 1 s (reachK g k).length (intsV (reachK g k)) ∧ Below w2.heap.size w2 wr) (fun _ i _ => g.objs.length - (intOf i).toNat)
  case atStart => exact ⟨0, Nat.zero_le _, rfl, World.ownsRow_nil _ _ _ _, Below.refl _ _⟩
  case round =>
    obtain ⟨k, hk, rfl, hown, hb⟩ := hrel
    have hsz := hb.size
    have hkl := reachK_len g k
    by_cases hlt : k < g.objs.length
    · have hltD : k < D.length := by rw [unhide HlD]; exact hlt
      obtain ⟨bd, od, rfl, hbd, hcd⟩ := (hI2.below hb).at hltD
      have hx := unhide hDk k hlt
      rw [List.getElem?_eq_getElem hltD] at hx
      injection hx with hx
      rw [hx] at hcd
      have Hyes := hide (fun h => reachK_yes (g := g) (k := k) h)
      have Hno := hide (fun h => reachK_no (g := g) (k := k) h)
      clear hx
      generalize dG g k = x at *
      have hmx : (reachK g k).length + 1 ≤ maxLen := by simp only [maxLen]; omega
      have hmy : ((reachK g k).length + 1) * 8 ≤ 140737488355328 := by omega
      by_cases hx0 : 0 ≤ x
      · have d : decide (x ≥ 0) = true := by simpa using hx0
        have d' : decide (0 ≤ x) = true := by simpa using hx0
        have HT := hide (unhide Hyes hx0)
        go_wp2_with (at_builtin; go_must (refine wpList_append_own _ rfl _ _ 38 rfl w2.heap.size 3 i0 _ 1 8 Try.underlying38 hi hz0 hz1 hz2 rfl (by decide) _ _ _ rfl (hown.alloc _) ⟨wr.heap.size, 0, none⟩ 1 1 [.int .i64 k] rfl rfl (cell_one_at _ _ _ _ (by simp)) (by simp [Value.oneCell']) hmx hmy (by simp; omega) ?_); intro v' w1 hown' hgrow _)
        go_roundw
        case rel => exact ⟨k + 1, by omega, by go_num, by rw [unhide HT, intsV_snoc, List.length_append]; exact hown', (hb.alloc hsz _).grown hgrow (by simp; omega) (fun q e => (hown.lt q e).1)⟩
        case measure => simp [intOf]; omega
      · have d : decide (x ≥ 0) = false := by simp; omega
        have d' : decide (0 ≤ x) = false := by simp; omega
        have HT := hide (unhide Hno (by omega))
        go_wp2
        go_roundw
        case rel => exact ⟨k + 1, by omega, by go_num, by rw [unhide HT]; exact hown, hb⟩
        case measure => simp [intOf]; omega
    · obtain rfl : k = g.objs.length := by omega
      obtain ⟨a', cap', hv, hV, _⟩ := ints_of_owns hown rfl (by omega)
      have Hv := hide hv
      clear hv
      go_wp2
      go_ret
      exact ⟨a', cap', congrArg Ending.returned (unhide Hv), hV, hbw2.trans (hb.mono hbw2.size)⟩

end Go.Proofs.Ytemjhdbmcdlpeaa

/- Plain: what can be come to in an arena is what can be come to in its graph. -/
namespace Go.Proofs.Ytemjhdbmcdlpeaa
set_option linter.unusedSimpArgs false
set_option linter.unusedVariables false
open Go.RowKit

theorem Arn.f4 {hs : List Int} {fs : List (List Int)} {rs : List Int} (h : Arn hs fs rs) : ∀ f ∈ fs, f.length ≤ 4 := by
  intro f hf
  obtain ⟨k, hk⟩ := List.getElem?_of_mem hf
  have hlt : k < hs.length := by have := (List.getElem?_eq_some_iff.1 hk).1; have := h.fit.len; omega
  have := h.fit.ok k _ f (List.getElem?_eq_getElem hlt) hk
  rw [← this.2.1]
  exact wlen_le this.1

theorem good_read {hs : List Int} {fs : List (List Int)} {rs : List Int} (h : Arn hs fs rs) : Good (readG fs rs) := by
  have hnd := stF_nodup fs 0
  refine ⟨?_, ?_, ?_, ?_, ?_⟩
  · rw [readG_len]; have := tot_len fs; have := h.n256; omega
  · rw [readG_rlen]; exact h.n8
  · intro l hl
    unfold readG at hl
    obtain ⟨f, hf, rfl⟩ := List.mem_map.1 hl
    have := h.f4 f hf
    simp; omega
  · intro v hv hr
    unfold readG at hv
    obtain ⟨x, hx, rfl⟩ := List.mem_map.1 hv
    have := (word_back hnd (h.ur x hx).1 (h.ur x hx).2 (h.okr x hx)).2.1 hr
    rw [stF_len] at this
    rw [readG_len]
    exact this
  · intro l hl v hv hr
    unfold readG at hl
    obtain ⟨f, hf, rfl⟩ := List.mem_map.1 hl
    obtain ⟨x, hx, rfl⟩ := List.mem_map.1 hv
    have := (word_back hnd (h.uf f hf x hx).1 (h.uf f hf x hx).2 (h.okf f hf x hx)).2.1 hr
    rw [stF_len] at this
    rw [readG_len]
    exact this

/-- References of words, and of their values. -/
theorem to_iff {fs : List (List Int)} {l : List Int} (hok : ∀ x ∈ l, okW (stF 0 fs) x = true) (j : Nat) : To fs l j ↔ (true, (j : Int)) ∈ l.map (valW (stF 0 fs)) := by
  constructor
  · rintro ⟨x, hx, hr, hj⟩
    refine List.mem_map.2 ⟨x, hx, ?_⟩
    rw [valW_ref hr, placeOf_nodup (stF_nodup fs 0) hj]
  · intro h
    obtain ⟨x, hx, he⟩ := List.mem_map.1 h
    cases hr : unRef x
    · rw [valW_num hr] at he; simp at he
    · obtain ⟨k, hk⟩ := (ok_ref (hok x hx)).2 hr
      rw [valW_ref hr, placeOf_nodup (stF_nodup fs 0) hk] at he
      have : k = j := by simp at he; omega
      subst this
      exact ⟨x, hx, hr, hk⟩

theorem fieldsOf_read {fs : List (List Int)} {rs : List Int} {i : Nat} {f : List Int} (hf : fs[i]? = some f) : fieldsOf (readG fs rs) (i : Int) = f.map (valW (stF 0 fs)) := by
  simp [fieldsOf, readG, hf]

theorem rch_order {hs : List Int} {fs : List (List Int)} {rs : List Int} (h : Arn hs fs rs) (j : Nat) : Rch fs rs j ↔ (j : Int) ∈ orderOf (readG fs rs) := by
  have hG := good_read h
  have hfo : ∀ {i : Nat} {f : List Int}, fs[i]? = some f → RefsOk (f.map (valW (stF 0 fs))) := fun {i f} hf => by
    refine hG.refsObjs ?_
    unfold readG
    exact List.mem_map.2 ⟨f, List.mem_of_getElem? hf, rfl⟩
  constructor
  · intro hr
    refine hr (fun j => (j : Int) ∈ orderOf (readG fs rs)) (fun j ht => ?_) (fun i f j hf hi ht => ?_)
    · refine order_roots _ _ ((mem_refsL hG.refsRoots _).2 ?_)
      exact (to_iff h.okr j).1 ht
    · refine order_closed hG hi _ ?_
      rw [fieldsOf_read hf]
      exact (mem_refsL (hfo hf) _).2 ((to_iff (h.okf f (List.mem_of_getElem? hf)) j).1 ht)
  · intro hj
    have key : ∀ (n p : Nat) (o dp : Int), (orderOf (readG fs rs))[p]? = some o → (distOf (readG fs rs))[p]? = some dp → dp.toNat ≤ n → ∃ j : Nat, o = (j : Int) ∧ Rch fs rs j := by
      intro n
      induction n with
      | zero =>
        intro p o dp h1 h2 h3
        have hpos := (searchN_ok hG _).pos p dp h2
        rcases (bfs (readG fs rs) (readG fs rs).objs.length).cause p o dp h1 h2 with ⟨hr, _⟩ | ⟨_, m, om, dm, _, e1, e2, _, e4, _⟩
        · have hro := hG.roots o hr
          obtain ⟨j, rfl⟩ := Int.eq_ofNat_of_zero_le hro.1
          exact ⟨j, rfl, rch_root ((to_iff h.okr j).2 ((mem_refsL hG.refsRoots _).1 hr))⟩
        · have := (searchN_ok hG _).pos m dm e2
          omega
      | succ n ih =>
        intro p o dp h1 h2 h3
        rcases (bfs (readG fs rs) (readG fs rs).objs.length).cause p o dp h1 h2 with ⟨hr, _⟩ | ⟨_, m, om, dm, _, e1, e2, e3, e4, _⟩
        · have hro := hG.roots o hr
          obtain ⟨j, rfl⟩ := Int.eq_ofNat_of_zero_le hro.1
          exact ⟨j, rfl, rch_root ((to_iff h.okr j).2 ((mem_refsL hG.refsRoots _).1 hr))⟩
        · have hdm := (searchN_ok hG _).pos m dm e2
          obtain ⟨i, rfl, hi⟩ := ih m om dm e1 e2 (by omega)
          have hil := (order_ok hG (List.mem_of_getElem? e1)).2
          rw [readG_len] at hil
          have hf : fs[i]? = some fs[i] := List.getElem?_eq_getElem (by omega)
          rw [fieldsOf_read hf] at e3
          have hmem : fs[i] ∈ fs := List.getElem_mem (by omega)
          have ho := (mem_refsL (hfo hf) _).1 e3
          have hob : 0 ≤ o := (hfo hf (true, o) ho rfl).1
          obtain ⟨j, rfl⟩ := Int.eq_ofNat_of_zero_le hob
          exact ⟨j, rfl, rch_step hi hf ((to_iff (h.okf _ hmem) j).2 ho)⟩
    obtain ⟨p, hp⟩ := List.getElem?_of_mem hj
    have hlen := (searchN_ok hG (readG fs rs).objs.length).len
    have hlt : p < (distOf (readG fs rs)).length := by
      have := (List.getElem?_eq_some_iff.1 hp).1
      unfold orderOf at this
      unfold distOf
      omega
    obtain ⟨j', e, hr⟩ := key _ p _ _ hp (List.getElem?_eq_getElem hlt) (Nat.le_refl _)
    have : j = j' := by omega
    subst this
    exact hr

/-- The first k objects, as told by reachK. -/
theorem mem_reachK {hs : List Int} {fs : List (List Int)} {rs : List Int} (h : Arn hs fs rs) (j : Nat) : (j : Int) ∈ reachK (readG fs rs) (readG fs rs).objs.length ↔ Rch fs rs j := by
  have hG := good_read h
  rw [rch_order h, ← distAt_nonneg hG]
  unfold reachK dG
  simp only [List.mem_map, List.mem_filter, List.mem_range, decide_eq_true_eq]
  constructor
  · rintro ⟨i, ⟨_, hd⟩, e⟩
    have : i = j := by omega
    subst this
    exact hd
  · intro hd
    have := order_ok hG ((distAt_nonneg hG _).1 hd)
    exact ⟨j, ⟨by omega, hd⟩, rfl⟩

end Go.Proofs.Ytemjhdbmcdlpeaa

/- Walks: the document's answer: pair. -/
namespace Go.Proofs.Ytemjhdbmcdlpeaa
set_option linter.unusedSimpArgs false
set_option linter.unusedVariables false
open Go.RowKit

/-- Two values stand for each other; what is new is noted. -/
def pstep (F T : List Int) (x y : V) : Option (List Int × List Int) :=
  if x.1 = true ∧ y.1 = true then
    (if x.2 ∈ F then (if y.2 ∈ T then (if T[F.idxOf x.2]? = some y.2 then some (F, T) else none) else none) else (if y.2 ∈ T then none else some (F ++ [x.2], T ++ [y.2])))
  else (if x = y then some (F, T) else none)

def prun (F T : List Int) : List V → List V → Option (List Int × List Int)
  | [], [] => some (F, T)
  | x :: xs, y :: ys => (pstep F T x y).bind (fun s => prun s.1 s.2 xs ys)
  | _, _ => none

theorem prun_len {F T : List Int} : ∀ {la lb : List V}, la.length ≠ lb.length → prun F T la lb = none := by
  intro la
  induction la generalizing F T with
  | nil => intro lb h; cases lb with
    | nil => simp at h
    | cons y ys => rfl
  | cons x xs ih => intro lb h; cases lb with
    | nil => rfl
    | cons y ys =>
      simp only [prun]
      cases pstep F T x y with
      | none => rfl
      | some s => exact ih (by simpa using h)

/-- The two lists of numbers that pair keeps, behind pointers. -/
structure PS (W : World) (pf pt : Nat) (F T : List Int) (vf vt : Value) : Prop where
  cf : W.cell? ⟨pf, 0, none⟩ = some vf
  ct : W.cell? ⟨pt, 0, none⟩ = some vt
  ff : W.frozen? ⟨pf, 0, none⟩ = false
  ft : W.frozen? ⟨pt, 0, none⟩ = false
  rf : W.ownsRow (pt + 1) 3 1 vf F.length (intsV F)
  rt : W.ownsRow (pt + 1) 3 1 vt T.length (intsV T)
  ap : ∀ k, vf.ownBlock = some k → vt.ownBlock ≠ some k
  lt : pf < pt

theorem PS.drew {W : World} {pf pt : Nat} {F T : List Int} {vf vt : Value} (h : PS W pf pt F T vf vt) : PS W.drew pf pt F T vf vt :=
  ⟨h.cf, h.ct, h.ff, h.ft, h.rf, h.rt, h.ap, h.lt⟩

theorem PS.sz {W : World} {pf pt : Nat} {F T : List Int} {vf vt : Value} (h : PS W pf pt F T vf vt) : pt < W.heap.size := World.block_lt_of_cell? W _ h.ct

theorem PS.below {W W' : World} {pf pt : Nat} {F T : List Int} {vf vt : Value} (h : PS W pf pt F T vf vt) (hb : Below W.heap.size W W') : PS W' pf pt F T vf vt := by
  have hs := h.sz
  have hl := h.lt
  have hg : W.grownBy W' none := ⟨hb.os, hb.tape, hb.output, hb.size, fun k hk _ => hb.block k hk⟩
  exact ⟨(hb.cell (p := ⟨pf, 0, none⟩) (by simp; omega)).trans h.cf, (hb.cell (p := ⟨pt, 0, none⟩) hs).trans h.ct, (hb.frozen (p := ⟨pf, 0, none⟩) (by simp; omega)).trans h.ff, (hb.frozen (p := ⟨pt, 0, none⟩) hs).trans h.ft,
    h.rf.kept hg (by cases hv : vf.ownBlock <;> simp), h.rt.kept hg (by cases hv : vt.ownBlock <;> simp), h.ap, h.lt⟩

theorem below_drewN {B : Nat} {a w : World} (h : Below B a w) (n : Nat) : Below B a (w.drewN n) := ⟨h.os, h.tape, h.output, h.size, h.block⟩

theorem PS.drewN {W : World} {pf pt : Nat} {F T : List Int} {vf vt : Value} (h : PS W pf pt F T vf vt) (n : Nat) : PS (W.drewN n) pf pt F T vf vt :=
  h.below (below_drewN (Below.refl _ _) n)

/-- What two numbers more turn in memory. -/
theorem pair_step {X w2 w3 : World} {pf pt : Nat} {F T : List Int} {vf vt v1 v2 : Value} {x y : Int} {o1 o2 : Obj}
    (hP : PS X pf pt F T vf vt)
    (hf2 : w2.ownsRow (pt + 1) 3 1 v1 (F.length + 1) (intsV F ++ [.int .i64 x])) (hg2 : (X.alloc o1).grownBy w2 vf.ownBlock) (hat2 : v1.ownBlock = vf.ownBlock ∨ v1.ownBlock = some (X.alloc o1).heap.size)
    (ht4 : w3.ownsRow (pt + 1) 3 1 v2 (T.length + 1) (intsV T ++ [.int .i64 y])) (hg3 : ((w2.setCell ⟨pf, 0, none⟩ v1).alloc o2).grownBy w3 vt.ownBlock)
    (hat3 : v2.ownBlock = vt.ownBlock ∨ v2.ownBlock = some ((w2.setCell ⟨pf, 0, none⟩ v1).alloc o2).heap.size) :
    PS (w3.setCell ⟨pt, 0, none⟩ v2) pf pt (F ++ [x]) (T ++ [y]) v1 v2 ∧ Below pf X (w3.setCell ⟨pt, 0, none⟩ v2) := by
  have hlX := hP.sz
  have hlt := hP.lt
  have hs2 := hg2.size
  have hs3 := hg3.size
  simp only [World.size_alloc] at hs2 hat2
  have hsz : ((w2.setCell ⟨pf, 0, none⟩ v1).alloc o2).heap.size = w2.heap.size + 1 := by simp [World.setCell]
  rw [hsz] at hs3 hat3
  have lf := fun k e => (hP.rf.lt k e)
  have lt := fun k e => (hP.rt.lt k e)
  have b1 : Below (pt + 1) X (X.alloc o1) := (Below.refl _ _).alloc (by omega) o1
  have b2 : Below (pt + 1) X w2 := b1.grown hg2 (by simp; omega) (fun k e => (lf k e).1)
  have b3 : Below (pt + 1) (w2.setCell ⟨pf, 0, none⟩ v1) w3 := ((Below.refl _ _).alloc (by simp [World.setCell]; omega) o2).grown hg3 (by rw [hsz]; omega) (fun k e => (lt k e).1)
  have cf2 : w2.cell? ⟨pf, 0, none⟩ = some vf := (b2.cell (p := ⟨pf, 0, none⟩) (by simp; omega)).trans hP.cf
  have ct2 : w2.cell? ⟨pt, 0, none⟩ = some vt := (b2.cell (p := ⟨pt, 0, none⟩) (by simp)).trans hP.ct
  have ff2 : w2.frozen? ⟨pf, 0, none⟩ = false := (b2.frozen (p := ⟨pf, 0, none⟩) (by simp; omega)).trans hP.ff
  have ft2 : w2.frozen? ⟨pt, 0, none⟩ = false := (b2.frozen (p := ⟨pt, 0, none⟩) (by simp)).trans hP.ft
  have hne : (⟨pf, 0, none⟩ : Addr) ≠ ⟨pt, 0, none⟩ := fun e => by injection e; omega
  have hne' : (⟨pt, 0, none⟩ : Addr) ≠ ⟨pf, 0, none⟩ := fun e => by injection e; omega
  have cf3 := World.cell?_setCell_same' w2 ⟨pf, 0, none⟩ v1 (by rw [cf2]; rfl)
  have ct3 := (World.cell?_setCell_other w2 ⟨pf, 0, none⟩ ⟨pt, 0, none⟩ v1 hne).trans ct2
  have ff3 : (w2.setCell ⟨pf, 0, none⟩ v1).frozen? ⟨pf, 0, none⟩ = false := by rw [World.frozen?_setCell]; exact ff2
  have ft3 : (w2.setCell ⟨pf, 0, none⟩ v1).frozen? ⟨pt, 0, none⟩ = false := by rw [World.frozen?_setCell]; exact ft2
  have cf4 := (b3.cell (p := ⟨pf, 0, none⟩) (by simp; omega)).trans cf3
  have ct4 := (b3.cell (p := ⟨pt, 0, none⟩) (by simp)).trans ct3
  have ff4 := (b3.frozen (p := ⟨pf, 0, none⟩) (by simp; omega)).trans ff3
  have ft4 := (b3.frozen (p := ⟨pt, 0, none⟩) (by simp)).trans ft3
  have hap2 : ∀ k, v1.ownBlock = some k → vt.ownBlock ≠ some k := by
    intro k hk hd
    rcases hat2 with h | h
    · exact hP.ap k (h ▸ hk) hd
    · have := (lt k hd).2; rw [h] at hk; injection hk; omega
  have hf3 := ownsRow_setCell_below hf2 (a := ⟨pf, 0, none⟩) (by simp; omega) v1
  have hf4 := (hf3.alloc o2).kept hg3 (by cases hv : v1.ownBlock with | none => exact .inl rfl | some k => exact .inr fun e => hap2 k hv e.symm)
  refine ⟨⟨?_, ?_, ?_, ?_, ?_, ?_, ?_, hlt⟩, ?_⟩
  · exact (World.cell?_setCell_other w3 ⟨pt, 0, none⟩ ⟨pf, 0, none⟩ v2 hne').trans cf4
  · exact World.cell?_setCell_same' w3 ⟨pt, 0, none⟩ v2 (by rw [ct4]; rfl)
  · rw [World.frozen?_setCell]; exact ff4
  · rw [World.frozen?_setCell]; exact ft4
  · rw [intsV_snoc, List.length_append]; exact ownsRow_setCell_below hf4 (a := ⟨pt, 0, none⟩) (by simp) v2
  · rw [intsV_snoc, List.length_append]; exact ownsRow_setCell_below ht4 (a := ⟨pt, 0, none⟩) (by simp) v2
  · intro k hk hd
    rcases hat3 with h | h
    · exact hap2 k hk (h ▸ hd)
    · have := (hf2.lt k hk).2; rw [h] at hd; injection hd; omega
  · exact (((b2.mono (by omega)).setCell (p := ⟨pf, 0, none⟩) (by simp) v1).trans (b3.mono (by omega))).setCell (p := ⟨pt, 0, none⟩) (by simp; omega) v2


end Go.Proofs.Ytemjhdbmcdlpeaa

/- Two searches side by side: pairs go together just if what is left is one. -/
namespace Go.Proofs.Ytemjhdbmcdlpeaa
set_option linter.unusedSimpArgs false
set_option linter.unusedVariables false
open Go.RowKit

/-- One value more: what it refers to is found. -/
def ins (F : List Int) (x : V) : List Int := if x.1 = true then (if x.2 ∈ F then F else F ++ [x.2]) else F
def insA (F : List Int) (l : List V) : List Int := l.foldl ins F

theorem ins_prefix (F : List Int) (x : V) : F <+: ins F x := by
  unfold ins; split
  · split
    · exact List.prefix_refl _
    · exact List.prefix_append _ _
  · exact List.prefix_refl _

theorem insA_prefix : ∀ (l : List V) (F : List Int), F <+: insA F l
  | [], F => List.prefix_refl _
  | x :: xs, F => (ins_prefix F x).trans (insA_prefix xs (ins F x))

theorem ins_nodup {F : List Int} (h : F.Nodup) (x : V) : (ins F x).Nodup := by
  unfold ins; split
  · split
    · exact h
    · rename_i hx
      rw [List.nodup_append]; exact ⟨h, by simp, by intro a ha b hb; simp at hb; subst hb; exact fun e => hx (e ▸ ha)⟩
  · exact h

theorem ins_mem {F : List Int} {x : V} (h : x.1 = true) : x.2 ∈ ins F x := by
  unfold ins; rw [if_pos h]; split
  · assumption
  · simp

theorem idxOf_append_left {F G : List Int} {x : Int} (h : x ∈ F) : (F ++ G).idxOf x = F.idxOf x := by
  have h1 := List.idxOf_lt_length_iff.2 h
  refine idxOf_first (by simp; omega) ?_ ?_
  · rw [List.getElem_append_left h1]; exact List.getElem_idxOf h1
  · rw [List.take_append_of_le_length (by omega)]
    intro hm
    rw [List.mem_take_iff_getElem] at hm
    obtain ⟨j, hj, hj2⟩ := hm
    have h4 := List.not_of_lt_findIdx (p := (· == x)) (xs := F) (i := j) (show j < F.idxOf x by omega)
    simp [hj2] at h4

theorem placeOf_prefix {F G : List Int} (h : F <+: G) {x : Int} (hx : x ∈ F) : placeOf G x = placeOf F x := by
  obtain ⟨H, rfl⟩ := h
  unfold placeOf
  rw [if_pos hx, if_pos (by simp [hx]), idxOf_append_left hx]

theorem renV_prefix {F G : List Int} (h : F <+: G) {x : V} (hx : x.1 = true → x.2 ∈ F) : renV G x = renV F x := by
  unfold renV
  split
  · rename_i h1; rw [placeOf_prefix h (hx h1)]
  · rfl

theorem idxOf_ge {l : List Int} {x : Int} (h : x ∉ l) : (l ++ [x]).idxOf x = l.length :=
  idxOf_first (by simp) (by simp) (by rw [List.take_left' rfl]; exact h)

theorem pstep_iff {F T F' T' : List Int} {x y : V} (hl : F.length = T.length) (hT : T.Nodup) :
    pstep F T x y = some (F', T') ↔ F' = ins F x ∧ T' = ins T y ∧ renV F' x = renV T' y := by
  obtain ⟨rx, nx⟩ := x
  obtain ⟨ry, ny⟩ := y
  cases rx
  · cases ry
    · simp only [pstep, ins, renV, Bool.false_eq_true, false_and, if_false]
      by_cases e : nx = ny
      · subst e; simp [eq_comm]
      · simp [e]
    · simp [pstep, ins, renV]
  · cases ry
    · simp [pstep, ins, renV]
    · simp only [pstep, ins, renV, and_self, if_true]
      by_cases hx : nx ∈ F
      · by_cases hy : ny ∈ T
        · simp only [hx, hy, if_true]
          have hix := List.idxOf_lt_length_iff.2 hx
          have hiy := List.idxOf_lt_length_iff.2 hy
          have key : T[F.idxOf nx]? = some ny ↔ placeOf F nx = placeOf T ny := by
            unfold placeOf
            rw [if_pos hx, if_pos hy, List.getElem?_eq_getElem (by omega)]
            constructor
            · intro h
              injection h with h
              congr 1
              have h2 := List.getElem_idxOf hiy
              exact (List.getElem?_inj (show F.idxOf nx < T.length by omega) hT).1 (by rw [List.getElem?_eq_getElem (show F.idxOf nx < T.length by omega), List.getElem?_eq_getElem hiy, h, h2])
            · intro h
              have h : F.idxOf nx = T.idxOf ny := by omega
              simp only [h]
              rw [List.getElem_idxOf hiy]
          by_cases hk : T[F.idxOf nx]? = some ny
          · simp only [hk, if_true]
            constructor
            · intro h; injection h with h; injection h with h1 h2; subst h1 h2; exact ⟨rfl, rfl, by rw [key.1 hk]⟩
            · rintro ⟨rfl, rfl, _⟩; rfl
          · rw [if_neg hk]
            constructor
            · intro h; cases h
            · rintro ⟨rfl, rfl, h⟩; injection h with _ h; exact absurd (key.2 h) hk
        · simp only [hx, hy, if_true, if_false]
          constructor
          · intro h; cases h
          · rintro ⟨rfl, rfl, h⟩
            injection h with _ h
            unfold placeOf at h
            have hix := List.idxOf_lt_length_iff.2 hx
            rw [if_pos hx, if_pos (by simp), idxOf_ge hy] at h
            omega
      · by_cases hy : ny ∈ T
        · simp only [hx, hy, if_true, if_false]
          constructor
          · intro h; cases h
          · rintro ⟨rfl, rfl, h⟩
            injection h with _ h
            unfold placeOf at h
            have hiy := List.idxOf_lt_length_iff.2 hy
            rw [if_pos hy, if_pos (by simp), idxOf_ge hx] at h
            omega
        · simp only [hx, hy, if_false]
          constructor
          · intro h; injection h with h; injection h with h1 h2; subst h1 h2
            refine ⟨rfl, rfl, ?_⟩
            unfold placeOf
            rw [if_pos (by simp), if_pos (by simp), idxOf_ge hx, idxOf_ge hy, hl]
          · rintro ⟨rfl, rfl, _⟩; rfl

theorem pstep_len {F T F' T' : List Int} {x y : V} (hl : F.length = T.length) (h : pstep F T x y = some (F', T')) : F'.length = T'.length := by
  unfold pstep at h
  split at h
  · split at h
    · split at h
      · split at h
        · injection h with h; injection h with h1 h2; subst h1 h2; exact hl
        · cases h
      · cases h
    · split at h
      · cases h
      · injection h with h; injection h with h1 h2; subst h1 h2; simp [hl]
  · split at h
    · injection h with h; injection h with h1 h2; subst h1 h2; exact hl
    · cases h

theorem prun_iff : ∀ (la lb : List V) (F T F' T' : List Int), F.length = T.length → T.Nodup →
    (prun F T la lb = some (F', T') ↔ F' = insA F la ∧ T' = insA T lb ∧ la.map (renV F') = lb.map (renV T'))
  | [], [], F, T, F', T', hl, hT => by simp [prun, insA, eq_comm]
  | [], y :: ys, F, T, F', T', hl, hT => by simp [prun]
  | x :: xs, [], F, T, F', T', hl, hT => by simp [prun]
  | x :: xs, y :: ys, F, T, F', T', hl, hT => by
    simp only [prun, List.map_cons]
    constructor
    · intro h
      cases hs : pstep F T x y with
      | none => rw [hs] at h; cases h
      | some s =>
        obtain ⟨F1, T1⟩ := s
        rw [hs] at h
        have h1 := (pstep_iff hl hT).1 hs
        have h2 := pstep_len hl hs
        obtain ⟨rfl, rfl, h3⟩ := h1
        have h4 := (prun_iff xs ys _ _ F' T' h2 (ins_nodup hT y)).1 h
        obtain ⟨rfl, rfl, h5⟩ := h4
        refine ⟨rfl, rfl, ?_⟩
        rw [h5, renV_prefix (insA_prefix xs (ins F x)) (fun h => ins_mem h), renV_prefix (insA_prefix ys (ins T y)) (fun h => ins_mem h), h3]
    · rintro ⟨rfl, rfl, h⟩
      injection h with h1 h2
      change renV (insA (ins F x) xs) x = renV (insA (ins T y) ys) y at h1
      rw [renV_prefix (insA_prefix xs (ins F x)) (fun h => ins_mem h), renV_prefix (insA_prefix ys (ins T y)) (fun h => ins_mem h)] at h1
      have hs := (pstep_iff (F' := ins F x) (T' := ins T y) (x := x) (y := y) hl hT).2 ⟨rfl, rfl, h1⟩
      rw [hs]
      exact (prun_iff xs ys _ _ _ _ (pstep_len hl hs) (ins_nodup hT y)).2 ⟨rfl, rfl, h2⟩

theorem prun_len' : ∀ (la lb : List V) (F T F' T' : List Int), F.length = T.length → prun F T la lb = some (F', T') → F'.length = T'.length
  | [], [], F, T, F', T', hl, h => by simp only [prun] at h; injection h with h; injection h with h1 h2; subst h1 h2; exact hl
  | [], y :: ys, F, T, F', T', hl, h => by simp [prun] at h
  | x :: xs, [], F, T, F', T', hl, h => by simp [prun] at h
  | x :: xs, y :: ys, F, T, F', T', hl, h => by
    simp only [prun] at h
    cases hs : pstep F T x y with
    | none => rw [hs] at h; cases h
    | some s =>
      rw [hs] at h
      exact prun_len' xs ys _ _ _ _ (pstep_len hl hs) h

theorem insA_findA (d : Int) : ∀ (l : List V), RefsOk l → ∀ (st : List Int × List Int), (findA d st (refsL l)).1 = insA st.1 l
  | [], _, st => rfl
  | (false, n) :: xs, h, st => by
    have ih := insA_findA d xs (fun v hv => h v (List.mem_cons_of_mem _ hv)) st
    have e : refsL ((false, n) :: xs) = refsL xs := by simp [refsL, valsOf, obsOf, obOf]
    rw [e, ih]; simp [insA, ins]
  | (true, n) :: xs, h, st => by
    have hn := h (true, n) (by simp) rfl
    have ih := insA_findA d xs (fun v hv => h v (List.mem_cons_of_mem _ hv)) (findS d st n)
    have e : refsL ((true, n) :: xs) = n :: refsL xs := by simp [refsL, valsOf, obsOf, obOf, hn]
    rw [e]
    show (findA d (findS d st n) (refsL xs)).1 = _
    rw [ih]
    simp only [insA, List.foldl_cons]
    congr 1
    simp only [findS, ins, if_true]
    split <;> rfl

/-- Two graphs, side by side: k objects' fields are paired. -/
def sameN (a b : Gr) : Nat → Option (List Int × List Int)
  | 0 => prun [] [] a.roots b.roots
  | k + 1 => (sameN a b k).bind fun s => match s.1[k]?, s.2[k]? with
    | some x, some y => prun s.1 s.2 (fieldsOf a x) (fieldsOf b y)
    | _, _ => some s

theorem map_renV {F G : List Int} (h : F <+: G) {l : List V} (hl : RefsOk l) (hm : ∀ x ∈ refsL l, x ∈ F) : l.map (renV G) = l.map (renV F) := by
  refine List.map_congr_left fun v hv => renV_prefix h fun h1 => hm _ ((mem_refsL hl _).2 ?_)
  obtain ⟨r, n⟩ := v
  simp only at h1
  subst h1
  exact hv

theorem search_prefix (g : Gr) (k : Nat) : (searchN g k).1 <+: (searchN g (k + 1)).1 := by
  rw [searchN_succ]
  cases (searchN g k).1[k]? with
  | none => exact List.prefix_refl _
  | some o => exact (findA_prefix _ _ _).1

theorem search_prefix_le (g : Gr) {k m : Nat} (h : k ≤ m) : (searchN g k).1 <+: (searchN g m).1 := by
  induction m with
  | zero => obtain rfl : k = 0 := by omega
            exact List.prefix_refl _
  | succ m ih =>
    rcases Nat.lt_or_ge m k with h1 | h1
    · obtain rfl : k = m + 1 := by omega
      exact List.prefix_refl _
    · exact (ih h1).trans (search_prefix g m)

theorem search_stable {g : Gr} (h : Good g) {m : Nat} (hm : g.objs.length ≤ m) : searchN g m = searchN g g.objs.length := by
  induction m with
  | zero => rw [show g.objs.length = 0 by omega]
  | succ m ih =>
    rcases Nat.lt_or_ge m g.objs.length with h1 | h1
    · rw [show g.objs.length = m + 1 by omega]
    · rw [searchN_succ, ih h1, List.getElem?_eq_none (by have := (searchN_ok h g.objs.length).le; omega)]

theorem order_prefix {g : Gr} (h : Good g) (k : Nat) : (searchN g k).1 <+: orderOf g := by
  rcases Nat.le_total k g.objs.length with h1 | h1
  · exact search_prefix_le g h1
  · rw [search_stable h h1]; exact List.prefix_refl _

theorem fields_ok {g : Gr} (h : Good g) {o : Int} {k : Nat} (ho : o ∈ (searchN g k).1) : RefsOk (fieldsOf g o) := by
  have h1 := (searchN_ok h k).rng o ho
  exact h.refsObjs (fieldsOf_mem h1.1 h1.2)

theorem same_fwd {a b : Gr} (ha : Good a) (hb : Good b) : ∀ (k : Nat) (F T : List Int), sameN a b k = some (F, T) →
    F = (searchN a k).1 ∧ T = (searchN b k).1 ∧ F.length = T.length ∧ a.roots.map (renV F) = b.roots.map (renV T) ∧
      ∀ (i : Nat) (x y : Int), i < k → F[i]? = some x → T[i]? = some y → (fieldsOf a x).map (renV F) = (fieldsOf b y).map (renV T)
  | 0, F, T, h => by
    have h1 := (prun_iff a.roots b.roots [] [] F T rfl (by simp)).1 h
    have h2 := prun_len' _ _ _ _ _ _ rfl h
    obtain ⟨h3, h4, h5⟩ := h1
    exact ⟨by rw [h3]; exact (insA_findA 0 a.roots ha.refsRoots ([], [])).symm, by rw [h4]; exact (insA_findA 0 b.roots hb.refsRoots ([], [])).symm, h2, h5, fun i x y hi => by omega⟩
  | k + 1, F, T, h => by
    simp only [sameN] at h
    cases hs : sameN a b k with
    | none => rw [hs] at h; cases h
    | some s =>
      obtain ⟨F0, T0⟩ := s
      rw [hs] at h
      obtain ⟨e1, e2, e3, e4, e5⟩ := same_fwd ha hb k F0 T0 hs
      simp only [Option.bind_some] at h
      by_cases hk : k < F0.length
      · have hk2 : k < T0.length := by omega
        have g1 := List.getElem?_eq_getElem hk
        have g2 := List.getElem?_eq_getElem hk2
        rw [g1, g2] at h
        simp only at h
        generalize F0[k] = x at *
        generalize T0[k] = y at *
        have hT0 : T0.Nodup := by rw [e2]; exact (searchN_ok hb k).nd
        have h1 := (prun_iff _ _ F0 T0 F T e3 hT0).1 h
        have h2 := prun_len' _ _ _ _ _ _ e3 h
        obtain ⟨h3, h4, h5⟩ := h1
        have hxF : x ∈ (searchN a k).1 := by rw [← e1]; exact List.mem_of_getElem? g1
        have hyT : y ∈ (searchN b k).1 := by rw [← e2]; exact List.mem_of_getElem? g2
        have q1 : F = (searchN a (k + 1)).1 := by
          rw [searchN_succ, ← e1, g1]
          simp only
          rw [insA_findA _ _ (fields_ok ha hxF), ← e1, h3]
        have q2 : T = (searchN b (k + 1)).1 := by
          rw [searchN_succ, ← e2, g2]
          simp only
          rw [insA_findA _ _ (fields_ok hb hyT), ← e2, h4]
        have p1 : F0 <+: F := by rw [h3]; exact insA_prefix _ _
        have p2 : T0 <+: T := by rw [h4]; exact insA_prefix _ _
        refine ⟨q1, q2, h2, ?_, ?_⟩
        · rw [map_renV p1 ha.refsRoots (by rw [e1]; exact (bfs a k).roots), map_renV p2 hb.refsRoots (by rw [e2]; exact (bfs b k).roots)]; exact e4
        · intro i x' y' hi hx' hy'
          rcases Nat.lt_or_ge i k with hik | hik
          · have i1 : i < F0.length := by omega
            have i2 : i < T0.length := by omega
            have z1 := prefix_get' p1 hx' i1
            have z2 := prefix_get' p2 hy' i2
            have m1 : x' ∈ (searchN a k).1 := by rw [← e1]; exact List.mem_of_getElem? z1
            have m2 : y' ∈ (searchN b k).1 := by rw [← e2]; exact List.mem_of_getElem? z2
            rw [map_renV p1 (fields_ok ha m1) (by rw [e1]; exact (bfs a k).done i x' hik (by rw [← e1]; exact z1)), map_renV p2 (fields_ok hb m2) (by rw [e2]; exact (bfs b k).done i y' hik (by rw [← e2]; exact z2))]
            exact e5 i x' y' hik z1 z2
          · obtain rfl : i = k := by omega
            rw [prefix_get p1 g1] at hx'
            rw [prefix_get p2 g2] at hy'
            injection hx' with hx'
            injection hy' with hy'
            subst hx' hy'
            exact h5
      · have g1 : F0[k]? = none := List.getElem?_eq_none (by omega)
        have g2 : T0[k]? = none := List.getElem?_eq_none (by omega)
        rw [g1, g2] at h
        simp only at h
        injection h with h
        injection h with h1 h2
        subst h1 h2
        refine ⟨?_, ?_, e3, e4, ?_⟩
        · rw [searchN_succ, ← e1, g1]; exact e1
        · rw [searchN_succ, ← e2, g2]; exact e2
        · intro i x y hi hx hy
          have : i < F0.length := (List.getElem?_eq_some_iff.1 hx).1
          exact e5 i x y (by omega) hx hy

theorem same_bwd {a b : Gr} (ha : Good a) (hb : Good b) (hc : canonG a = canonG b) : ∀ (k : Nat), sameN a b k = some ((searchN a k).1, (searchN b k).1) ∧ (searchN a k).1.length = (searchN b k).1.length
  | 0 => by
    have hr : a.roots.map (renV (orderOf a)) = b.roots.map (renV (orderOf b)) := congrArg Gr.roots hc
    rw [map_renV (order_prefix ha 0) ha.refsRoots (bfs a 0).roots, map_renV (order_prefix hb 0) hb.refsRoots (bfs b 0).roots] at hr
    have h1 : sameN a b 0 = some ((searchN a 0).1, (searchN b 0).1) := (prun_iff a.roots b.roots [] [] _ _ rfl (by simp)).2 ⟨insA_findA 0 a.roots ha.refsRoots ([], []), insA_findA 0 b.roots hb.refsRoots ([], []), hr⟩
    exact ⟨h1, prun_len' _ _ _ _ _ _ rfl h1⟩
  | k + 1 => by
    obtain ⟨ih, il⟩ := same_bwd ha hb hc k
    have ho : (orderOf a).map (fun o => (fieldsOf a o).map (renV (orderOf a))) = (orderOf b).map (fun o => (fieldsOf b o).map (renV (orderOf b))) := congrArg Gr.objs hc
    have key : sameN a b (k + 1) = some ((searchN a (k + 1)).1, (searchN b (k + 1)).1) ∧ (searchN a (k + 1)).1.length = (searchN b (k + 1)).1.length := by
      simp only [sameN]
      rw [ih]
      simp only [Option.bind_some]
      by_cases hk : k < (searchN a k).1.length
      · have hk2 : k < (searchN b k).1.length := by omega
        have g1 := List.getElem?_eq_getElem hk
        have g2 := List.getElem?_eq_getElem hk2
        rw [g1, g2]
        generalize (searchN a k).1[k] = x at *
        generalize (searchN b k).1[k] = y at *
        simp only
        have hxF := List.mem_of_getElem? g1
        have hyT := List.mem_of_getElem? g2
        have q1 : (searchN a (k + 1)).1 = insA (searchN a k).1 (fieldsOf a x) := by
          rw [searchN_succ, g1]
          simp only
          rw [insA_findA _ _ (fields_ok ha hxF)]
        have q2 : (searchN b (k + 1)).1 = insA (searchN b k).1 (fieldsOf b y) := by
          rw [searchN_succ, g2]
          simp only
          rw [insA_findA _ _ (fields_ok hb hyT)]
        have s1 := (bfs a (k + 1)).done k x (by omega) (prefix_get (search_prefix a k) g1)
        have s2 := (bfs b (k + 1)).done k y (by omega) (prefix_get (search_prefix b k) g2)
        have o1 := prefix_get (order_prefix ha k) g1
        have o2 := prefix_get (order_prefix hb k) g2
        have hk3 := congrArg (fun l => l[k]?) ho
        simp only [List.getElem?_map, o1, o2, Option.map_some] at hk3
        injection hk3 with hk3
        rw [map_renV (order_prefix ha (k + 1)) (fields_ok ha hxF) s1, map_renV (order_prefix hb (k + 1)) (fields_ok hb hyT) s2] at hk3
        have h1 := (prun_iff (fieldsOf a x) (fieldsOf b y) _ _ _ _ il (searchN_ok hb k).nd).2 ⟨q1, q2, hk3⟩
        exact ⟨h1, prun_len' _ _ _ _ _ _ il h1⟩
      · have g1 : (searchN a k).1[k]? = none := List.getElem?_eq_none (by omega)
        have g2 : (searchN b k).1[k]? = none := List.getElem?_eq_none (by omega)
        rw [searchN_succ, searchN_succ, g1, g2]
        exact ⟨rfl, il⟩
    exact key

theorem same_iff {a b : Gr} (ha : Good a) (hb : Good b) : (sameN a b 256).isSome = true ↔ canonG a = canonG b := by
  constructor
  · intro h
    obtain ⟨⟨F, T⟩, hs⟩ := Option.isSome_iff_exists.1 h
    obtain ⟨e1, e2, e3, e4, e5⟩ := same_fwd ha hb 256 F T hs
    rw [search_stable ha ha.n24] at e1
    rw [search_stable hb hb.n24] at e2
    have e1 : F = orderOf a := e1
    have e2 : T = orderOf b := e2
    subst e1 e2
    have hla := (searchN_ok ha a.objs.length).le
    have hlb := (searchN_ok hb b.objs.length).le
    have na := ha.n24
    simp only [canonG, Gr.mk.injEq]
    refine ⟨?_, e4⟩
    apply List.ext_getElem?
    intro i
    simp only [List.getElem?_map]
    by_cases hi : i < (orderOf a).length
    · have hi2 : i < (orderOf b).length := by omega
      have g1 := List.getElem?_eq_getElem hi
      have g2 := List.getElem?_eq_getElem hi2
      rw [g1, g2, Option.map_some, Option.map_some]
      rw [e5 i _ _ (by unfold orderOf at hi; omega) g1 g2]
    · rw [List.getElem?_eq_none (by omega), List.getElem?_eq_none (by omega)]; rfl
  · intro h
    rw [(same_bwd ha hb h 256).1]; rfl

theorem sameN_none {a b : Gr} {k m : Nat} (h : sameN a b k = none) (hm : k ≤ m) : sameN a b m = none := by
  induction m with
  | zero => obtain rfl : k = 0 := by omega
            exact h
  | succ m ih =>
    rcases Nat.lt_or_ge m k with h1 | h1
    · obtain rfl : k = m + 1 := by omega
      exact h
    · simp only [sameN]; rw [ih h1]; rfl

theorem sameN_stay {a b : Gr} {k m : Nat} {F T : List Int} (h : sameN a b k = some (F, T)) (hl : F.length ≤ k) (hm : k ≤ m) : sameN a b m = some (F, T) := by
  induction m with
  | zero => obtain rfl : k = 0 := by omega
            exact h
  | succ m ih =>
    rcases Nat.lt_or_ge m k with h1 | h1
    · obtain rfl : k = m + 1 := by omega
      exact h
    · simp only [sameN]; rw [ih h1]; simp only [Option.bind_some]
      rw [List.getElem?_eq_none (show F.length ≤ m by omega)]

end Go.Proofs.Ytemjhdbmcdlpeaa

/- Walks: the document's answer: Renumber. -/
namespace Go.Proofs.Ytemjhdbmcdlpeaa
set_option linter.unusedSimpArgs false
set_option linter.unusedVariables false
open Go.RowKit

/-- The objects of a list alone. -/
def renG (g : Gr) (l : List Int) : Gr := { objs := l.map (fun o => (fieldsOf g o).map (renV l)), roots := g.roots.map (renV l) }

set_option maxRecDepth 100000 in
set_option maxHeartbeats 1000000 in
theorem renum_c (ao ar al : Option Addr) (co cr cl : Nat) (g : Gr) (l : List Int) (w : World) (ho : Objs w.heap.size w ao g.objs) (hr : Vals w.heap.size w ar g.roots) (hl : Ints w.heap.size w al l)
    (hG : Good g) (hln : l.length ≤ 256) (hin : ∀ o ∈ l, 0 ≤ o ∧ o < g.objs.length) :
    Calls Try.prog 31 #[.agg #[.slice ao g.objs.length co, .slice ar g.roots.length cr], .slice al l.length cl] w fun e w' => ∃ ao' co' ar' cr', e = .returned (.agg #[.slice ao' (renG g l).objs.length co', .slice ar' (renG g l).roots.length cr']) ∧
      (∃ base es, w.heap.size ≤ base ∧ ObjRow w' base (.slice ao' (renG g l).objs.length co') (renG g l).objs es) ∧ Vals w'.heap.size w' ar' (renG g l).roots ∧ (∀ b off, ar' = some ⟨b, off, none⟩ → w.heap.size ≤ b) ∧ Below w.heap.size w w' := by
  have hn8 := hG.n8
  obtain ⟨W4, hW4⟩ : ∃ W4, (w.alloc (.cells #[.slice ao g.objs.length co, .slice ar g.roots.length cr] 43)).alloc (.cells #[.slice none 0 0, .slice none 0 0] 43) = W4 := ⟨_, rfl⟩
  have hb1 : Below w.heap.size w W4 := by rw [← hW4]; exact ((Below.refl w.heap.size w).alloc (Nat.le_refl _) _).alloc (by simp) _
  have hs4 : w.heap.size + 1 < W4.heap.size := by rw [← hW4]; simp
  have q0 : W4.cell? ⟨w.heap.size + 1, 0, none⟩ = some (.slice none 0 0) := by rw [← hW4]; simp [go_sem]
  have q1 : W4.cell? ⟨w.heap.size + 1, 1, none⟩ = some (.slice none 0 0) := by rw [← hW4]; simp [go_sem]
  have f0 : W4.frozen? ⟨w.heap.size + 1, 0, none⟩ = false := by rw [← hW4]; simp [go_sem]
  have f1 : W4.frozen? ⟨w.heap.size + 1, 1, none⟩ = false := by rw [← hW4]; simp [go_sem]
  have g0 : W4.cell? ⟨w.heap.size, 0, none⟩ = some (.slice ao g.objs.length co) := by rw [← hW4]; simp [go_sem]
  have g1 : W4.cell? ⟨w.heap.size, 1, none⟩ = some (.slice ar g.roots.length cr) := by rw [← hW4]; simp [go_sem]
  go_enter Try.func31, Try.ntmps31
  go_wp2_with fail
  refine (turned_c ar al cr cl g.roots l W4 ((hr.below hb1).mono (by omega)) ((hl.below hb1).mono (by omega)) (by omega)).mono ?_
  rintro e w5 ⟨ar', cr', rfl, hV5, hbs5, hb5⟩
  clear hW4
  have hs5 := hb5.size
  have q0 := (hb5.cell (p := ⟨w.heap.size + 1, 0, none⟩) (by simp; omega)).trans q0
  have q1 := (hb5.cell (p := ⟨w.heap.size + 1, 1, none⟩) (by simp; omega)).trans q1
  have f0 := (hb5.frozen (p := ⟨w.heap.size + 1, 0, none⟩) (by simp; omega)).trans f0
  have f1 := (hb5.frozen (p := ⟨w.heap.size + 1, 1, none⟩) (by simp; omega)).trans f1
  have g0 := (hb5.cell (p := ⟨w.heap.size, 0, none⟩) (by simp; omega)).trans g0
  have hbw5 : Below w.heap.size w w5 := hb1.trans (hb5.mono (by omega))
  clear hb1 hb5 g1
  go_wp2
  go_loopw [15] (fun i wr => ∃ (k : Nat) (v : Value) (es : List Value), k ≤ l.length ∧ i = .int .i64 k ∧ Below w5.heap.size w5 wr ∧ wr.cell? ⟨w5.heap.size, 0, none⟩ = some v ∧ wr.frozen? ⟨w5.heap.size, 0, none⟩ = false ∧ wr.cell? ⟨w5.heap.size, 1, none⟩ = some (.slice ar' g.roots.length cr') ∧
      ObjRow wr (w5.heap.size + 1) v ((l.take k).map (fun o => (fieldsOf g o).map (renV l))) es) (fun i _ => l.length - (intOf i).toNat)
  case atStart => exact ⟨0, .slice none 0 0, [], Nat.zero_le _, rfl, (Below.refl _ _).alloc (Nat.le_refl _) _, by simp [go_sem], by simp [go_sem], by simp [go_sem], objRow_nil _ _⟩
  case round =>
    obtain ⟨k, v, es, hk, rfl, hb, c0, cf0, c1, hrow⟩ := hrel
    have hsz := hb.size
    have hbwr : Below w.heap.size w wr := hbw5.trans (hb.mono (by have := hbw5.size; omega))
    by_cases hlt : k < l.length
    · have g0 := (hb.cell (p := ⟨w.heap.size, 0, none⟩) (by simp; omega)).trans g0
      obtain ⟨gg, ogg, rfl, hgl1, hx1⟩ := (hl.below hbwr).at hlt
      have hro := hin _ (List.getElem_mem hlt)
      have HT := hide (List.take_succ_eq_append_getElem hlt)
      generalize l[k] = o at *
      obtain ⟨o, rfl⟩ := Int.eq_ofNat_of_zero_le hro.1
      have hoN : o < g.objs.length := by omega
      obtain ⟨b, off, ai, ci, rfl, hbB, hcb, hva⟩ := (ho.below hbwr).at hoN
      have Hfs := hide (show fieldsOf g (o : Int) = g.objs[o] by simp [fieldsOf, hoN])
      have hl4 := hG.n4 _ (List.getElem_mem hoN)
      generalize g.objs[o] = fs at *
      have hLk : ((l.take k).map (fun o => (fieldsOf g o).map (renV l))).length = k := by simp; omega
      have hrr := hrow.row
      rw [hLk] at hrr
      obtain ⟨ca, cc, rfl⟩ := ownsRow_slice hrr
      obtain ⟨i0, hi, hz0, hz1, hz2⟩ := info_parts Try.info76
      have hoI : (o : Int) < (g.objs.length : Int) := by omega
      have hq : w5.heap.size < wr.heap.size := World.block_lt_of_cell? wr _ c0
      have hvr : Vals wr.drew.heap.size wr.drew ai fs := (hva.mono (B' := wr.heap.size) (by have := hbwr.size; omega)).below (Below.refl _ _).drew
      have hlr : Ints wr.drew.heap.size wr.drew (some ⟨gg, ogg, none⟩) l := ((hl.below hbwr).mono (B' := wr.heap.size) hbwr.size).below (Below.refl _ _).drew
      have hfl : fs.length ≤ 1000 := by omega
      have hmx : k + 1 ≤ maxLen := by simp only [maxLen]; omega
      have hmy : (k + 1) * 24 ≤ 140737488355328 := by omega
      have HL := hide hLk
      have HR := hide hrow
      clear hLk
      go_wp2
      go_region_law (first
        | (refine step_append_at rfl _ _ 40 rfl (w5.heap.size + 1) 76 i0 _ 1 24 Try.underlying40 hi hz0 hz1 hz2 rfl (Nat.zero_lt_one) (.slice ca k cc) k es rfl hrow6 ⟨w6.heap.size, 0, none⟩ 1 1 [.slice a6 fs.length c6] rfl rfl (cell_one_at _ _ _ _ rfl) hone hmx hmy hbase6 ?_; intro v' w7 hrow7 hg7 hat7; obtain ⟨g7, cap7, hv7⟩ := ownsRow_succ hrow7; subst hv7; have c07 := hg7.cell ((World.grownBy_alloc w6 (.cells #[.slice a6 fs.length c6] 76) none).cell c06 (by simp)) (fun e => hncb e.symm); have cf7 := (hg7.block w5.heap.size (by simp; omega) (fun e => hncb e.symm)); have cf8 := (World.frozen?_of_block (a := ⟨w5.heap.size, 0, none⟩) cf7).trans cf6a; have Hcf7 := hide cf7; clear cf7)
        | (refine step_call rfl 47 #[.slice ai fs.length ci, .slice (some ⟨gg, ogg, none⟩) l.length cl] (by go_simp) (fun v w6 => ∃ a6 c6, v = .slice a6 fs.length c6 ∧ Vals w6.heap.size w6 a6 (fs.map (renV l)) ∧ (∀ b off, a6 = some ⟨b, off, none⟩ → wr.heap.size ≤ b) ∧ Below wr.heap.size wr w6) ((turned_c ai (some ⟨gg, ogg, none⟩) ci cl fs l _ hvr hlr hfl).mono (by rintro e w6 ⟨a6, c6, rfl, hV6, hbs6, hb6⟩; exact ⟨_, rfl, a6, c6, rfl, hV6, hbs6, (Below.refl _ _).drew.trans hb6⟩)) ?_; rintro v6 w6 ⟨a6, c6, rfl, hV6, hbs6, hb6'⟩; have hrow6 := (hrr.kept (grown_of_below hb6') (by cases hv : Value.ownBlock (.slice ca k cc) <;> simp)).alloc (.cells #[.slice a6 fs.length c6] 76); have hs6 := hb6'.size; have c06 := (hb6'.cell (p := ⟨w5.heap.size, 0, none⟩) hq).trans c0; have cf6 := (hb6'.frozen (p := ⟨w5.heap.size, 0, none⟩) hq).trans cf0; have hq6 : w5.heap.size < w6.heap.size := Nat.lt_of_lt_of_le hq hs6; have cf6a : (w6.alloc (.cells #[.slice a6 fs.length c6] 76)).frozen? ⟨w5.heap.size, 0, none⟩ = false := (World.frozen?_of_block (a := ⟨w5.heap.size, 0, none⟩) (Below.heap_alloc w6 _ _ hq6)).trans cf6; have hone : ∀ u ∈ ([.slice a6 fs.length c6] : List Value), u.oneCell' = true := (by simp [Value.oneCell']); have hbase6 : w5.heap.size + 1 ≤ (w6.alloc (.cells #[.slice a6 fs.length c6] 76)).heap.size := (by simp; omega); have hncb : Value.ownBlock (.slice ca k cc) ≠ some w5.heap.size := (fun e => by have := (hrr.lt _ e).1; omega)))
      all_goals
        go_wp2
        go_roundw
        case rel =>
          obtain ⟨r1, r2⟩ := obj_step (l := fs.map (renV l)) (ci := c6) (unhide HR) (by omega) hV6 hb6' hbs6 (by rw [unhide HL, List.length_map]; exact hrow7) hg7 hat7 rfl
          refine ⟨k + 1, _, _, by omega, by go_num, hb.trans r2, World.cell?_setCell_same' _ _ _ (by rw [c07]; rfl), by rw [World.frozen?_setCell]; exact cf8, ?_, by rw [unhide HT, List.map_append, List.map_cons, List.map_nil, unhide Hfs]; exact r1⟩
          rw [World.cell?_setCell_other _ _ _ _ (by simp)]
          exact (World.cell?_of_block (a := ⟨w5.heap.size, 1, none⟩) (unhide Hcf7)).trans ((World.cell?_of_block (a := ⟨w5.heap.size, 1, none⟩) (Below.heap_alloc w6 _ _ hq6)).trans ((hb6'.cell (p := ⟨w5.heap.size, 1, none⟩) hq).trans c1))
        case measure => simp [intOf]; omega
    · obtain rfl : k = l.length := by omega
      rw [List.take_length] at hrow
      have hL : (l.map (fun o => (fieldsOf g o).map (renV l))) = (renG g l).objs := rfl
      have hR : g.roots.map (renV l) = (renG g l).roots := rfl
      rw [hL] at hrow
      rw [hR] at hV5
      have hLl : (renG g l).objs.length = l.length := by rw [← hL]; simp
      have hRl : (renG g l).roots.length = g.roots.length := by rw [← hR]; simp
      obtain ⟨va, vc, hv, hO⟩ := hrow.objs (by omega)
      subst hv
      have hV6 := (hV5.below hb).mono (B' := wr.heap.size) (by omega)
      have HLl := hide hLl
      have HRl := hide hRl
      clear hL hR hLl hRl
      have q0 := (hb.cell (p := ⟨w.heap.size + 1, 0, none⟩) (by simp; omega)).trans q0
      have q1 := (hb.cell (p := ⟨w.heap.size + 1, 1, none⟩) (by simp; omega)).trans q1
      have f0 := (hb.frozen (p := ⟨w.heap.size + 1, 0, none⟩) (by simp; omega)).trans f0
      have f1 := (hb.frozen (p := ⟨w.heap.size + 1, 1, none⟩) (by simp; omega)).trans f1
      have HR := hide hrow
      clear hO hrow
      go_wp2
      refine bodyPost_ret (v := .agg #[.slice va (renG g l).objs.length vc, .slice ar' g.roots.length cr']) (by simp [results, Try.results31, go_sem, q0, q1]) rfl ?_
      have hO := ((unhide HR).setCell (p := ⟨w.heap.size + 1, 0, none⟩) (by simp; omega) (.slice va (renG g l).objs.length vc)).setCell (p := ⟨w.heap.size + 1, 1, none⟩) (by simp; omega) (.slice ar' g.roots.length cr')
      refine ⟨_, _, ar', cr', by rw [unhide HRl], ⟨_, _, by omega, hO⟩, ?_, fun b off e => by have := hbs5 b off e; omega, ?_⟩
      · refine Vals.mono ((hV6.setCell ⟨w.heap.size + 1, 0, none⟩ (.slice va (renG g l).objs.length vc) (fun b off e => ?_)).setCell ⟨w.heap.size + 1, 1, none⟩ (.slice ar' g.roots.length cr') (fun b off e => ?_)) (by simp [World.setCell])
        · have := hbs5 b off e; simp; omega
        · have := hbs5 b off e; simp; omega
      · exact (hbwr.setCell (p := ⟨w.heap.size + 1, 0, none⟩) (by simp) _).setCell (p := ⟨w.heap.size + 1, 1, none⟩) (by simp) _

end Go.Proofs.Ytemjhdbmcdlpeaa
