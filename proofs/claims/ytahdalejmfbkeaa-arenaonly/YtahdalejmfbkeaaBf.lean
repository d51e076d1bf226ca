/- Walks: read. -/
import Derived.Test.YtahdalejmfbkeaaBe
import Derived.RegionTactic
namespace Go.Proofs.Ytahdalejmfbkeaa
set_option linter.unusedSimpArgs false
set_option linter.unusedVariables false
open Go.RowKit Go.Shelf

/-- A slice of numbers in new memory. -/
def IntsF (base : Nat) (W : World) (a : Option Addr) (l : List Int) : Prop := Ints W.heap.size W a l ∧ ∀ b off, a = some ⟨b, off, none⟩ → base ≤ b

theorem IntsF.below {base : Nat} {W W' : World} {a : Option Addr} {l : List Int} (h : IntsF base W a l) (hb : Below W.heap.size W W') : IntsF base W' a l := ⟨(h.1.below hb).mono hb.size, h.2⟩
theorem IntsF.setCell {base : Nat} {W : World} {a : Option Addr} {l : List Int} (h : IntsF base W a l) {p : Addr} (hp : p.block < base) (u : Value) : IntsF base (W.setCell p u) a l := by
  have hs : (W.setCell p u).heap.size = W.heap.size := by simp [World.setCell]
  refine ⟨⟨h.1.1, fun hne => ?_⟩, h.2⟩
  obtain ⟨b, off, rfl, hB, hc⟩ := h.1.2 hne
  have h3 := h.2 b off rfl
  refine ⟨b, off, rfl, by rw [hs]; exact hB, fun k v hk => ?_⟩
  exact (World.cell?_of_block (a := ⟨b, off + k, none⟩) (Below.heap_setCell W p u b (by omega))).trans (hc k v hk)
theorem IntsF.base {base base' : Nat} {W : World} {a : Option Addr} {l : List Int} (h : IntsF base W a l) (hb : base' ≤ base) : IntsF base' W a l := ⟨h.1, fun b off e => by have := h.2 b off e; omega⟩
theorem ValsF.base {base base' : Nat} {W : World} {a : Option Addr} {l : List V} (h : ValsF base W a l) (hb : base' ≤ base) : ValsF base' W a l := ⟨h.1, fun b off e => by have := h.2 b off e; omega⟩

def ReadRes (base : Nat) (ws rs : List Int) (e : Ending) (W : World) : Prop :=
  (arenaE ws rs ≠ 0 ∧ e = .returned (.tuple #[.agg #[.slice none 0 0, .slice none 0 0], .slice none 0 0, .int .i64 (arenaE ws rs)])) ∨
  (arenaE ws rs = 0 ∧ ∃ fs ao co ar cr sa sc, splitR ws = some fs ∧ e = .returned (.tuple #[.agg #[.slice ao (readG fs rs).objs.length co, .slice ar (readG fs rs).roots.length cr], .slice sa (stF 0 fs).length sc, .int .i64 0]) ∧
    ObjsF base W ao (readG fs rs).objs ∧ ValsF base W ar (readG fs rs).roots ∧ IntsF base W sa (stF 0 fs))

set_option maxRecDepth 100000 in
set_option maxHeartbeats 4000000 in
theorem read_c (aw ar : Option Addr) (cw cr : Nat) (ws rs : List Int) (B : Nat) (w : World) (hW : Wds B w aw ws) (hR : Wds B w ar rs) (hUW : U64 ws) (hUR : U64 rs) (hB : B ≤ w.heap.size) (hcap : ws.length ≤ cw) :
    Calls Try.prog 26 #[.agg #[.slice aw ws.length cw, .slice ar rs.length cr]] w fun e w' => ReadRes w.heap.size ws rs e w' ∧ Below w.heap.size w w' := by
  have hw1 := hW.1
  have hr1 := hR.1
  have hbA : Below w.heap.size w ((w.alloc (.cells #[.slice aw ws.length cw, .slice ar rs.length cr] 24)).alloc (.cells #[.slice none 0 0, .slice none 0 0] 33)) := ((Below.refl w.heap.size w).alloc (Nat.le_refl _) _).alloc (by simp) _
  by_cases h256 : ws.length ≤ 256
  · by_cases h8 : rs.length ≤ 8
    · have d1 : decide (256 < (ws.length : Int)) = false := by simp; omega
      have d2 : decide (8 < (rs.length : Int)) = false := by simp; omega
      obtain ⟨W4, hW4⟩ : ∃ W4, (w.alloc (.cells #[.slice aw ws.length cw, .slice ar rs.length cr] 24)).alloc (.cells #[.slice none 0 0, .slice none 0 0] 33) = W4 := ⟨_, rfl⟩
      rw [hW4] at hbA
      have hs4 : w.heap.size + 1 < W4.heap.size := by rw [← hW4]; simp
      have q0 : W4.cell? ⟨w.heap.size + 1, 0, none⟩ = some (.slice none 0 0) := by rw [← hW4]; simp [go_sem]
      have q1 : W4.cell? ⟨w.heap.size + 1, 1, none⟩ = some (.slice none 0 0) := by rw [← hW4]; simp [go_sem]
      have f0 : W4.frozen? ⟨w.heap.size + 1, 0, none⟩ = false := by rw [← hW4]; simp [go_sem]
      have f1 : W4.frozen? ⟨w.heap.size + 1, 1, none⟩ = false := by rw [← hW4]; simp [go_sem]
      have g0 : W4.cell? ⟨w.heap.size, 0, none⟩ = some (.slice aw ws.length cw) := by rw [← hW4]; simp [go_sem]
      have g1 : W4.cell? ⟨w.heap.size, 1, none⟩ = some (.slice ar rs.length cr) := by rw [← hW4]; simp [go_sem]
      have Hcall := hide (split_c aw cw ws B W4 (hW.below (hbA.mono hB)) hUW h256 hcap (by omega))
      go_enter Try.func26, Try.ntmps26
      go_wp2_with fail
      refine (unhide Hcall).mono ?_
      rintro e w5 ⟨hres, hb5⟩
      clear hW4 Hcall
      have hs5 := hb5.size
      replace q0 := (hb5.cell (p := ⟨w.heap.size + 1, 0, none⟩) (by simp; omega)).trans q0
      replace q1 := (hb5.cell (p := ⟨w.heap.size + 1, 1, none⟩) (by simp; omega)).trans q1
      replace f0 := (hb5.frozen (p := ⟨w.heap.size + 1, 0, none⟩) (by simp; omega)).trans f0
      replace f1 := (hb5.frozen (p := ⟨w.heap.size + 1, 1, none⟩) (by simp; omega)).trans f1
      replace g1 := (hb5.cell (p := ⟨w.heap.size, 1, none⟩) (by simp; omega)).trans g1
      have hbw5 : Below w.heap.size w w5 := hbA.trans (hb5.mono (by omega))
      have hbB5 : Below B W4 w5 := hb5.mono (by omega)
      obtain ⟨mb, vs, vf, es, M, D, er, rfl, hmb, hD, hRd, hor⟩ := hres
      obtain ⟨sa, sc, rfl⟩ := ownsRow_slice hRd.st
      obtain ⟨fa, fc, rfl⟩ := ownsRow_slice hRd.fl
      have hlt5 : w.heap.size + 1 < w5.heap.size := by omega
      have hlt6 : w.heap.size < w5.heap.size := by omega
      rcases hor with ⟨hs, rfl⟩ | ⟨hs, rfl⟩
      · have HE := hide (arenaE_form h256 h8 hs)
        clear hs hb5 hbB5 hRd
        go_wp2
        refine bodyPost_ret (v := .tuple #[.agg #[.slice none 0 0, .slice none 0 0], .slice none 0 0, .int .i64 4]) (by simp [results, Try.results26, go_sem, q0, q1, f0, f1, hlt5]) rfl ?_
        refine ⟨.inl ⟨by rw [unhide HE]; omega, by rw [unhide HE]⟩, ?_⟩
        exact ((hbw5.setCell (p := ⟨w.heap.size + 1, 0, none⟩) (by simp) _).setCell (p := ⟨w.heap.size + 1, 1, none⟩) (by simp) _).alloc (by simp [World.setCell]; omega) _
      · have hel : Rowd w5 w5 B mb D (.slice sa D.length sc) (.slice fa D.length fc) es M := by
          refine ⟨hRd.box, hRd.st, hRd.fl, fun k f hk => ?_, hRd.map, hRd.plc, hRd.apart⟩
          obtain ⟨ai, ci, h1, h2⟩ := hRd.el k f hk
          exact ⟨ai, ci, h1, h2.below hbB5⟩
        obtain ⟨fa', fc', hv, hT⟩ := hel.tab (by omega) hD
        injection hv with e1 _ e3
        subst e1 e3
        obtain ⟨sa', sc', hv, hI, hr9⟩ := ints_of_owns hRd.st (stF_len D 0).symm (by omega)
        injection hv with e1 e2 e3
        subst e1 e3
        clear e2
        have HIF : Hid (IntsF (w.heap.size + 2) w5 sa (stF 0 D)) := ⟨hI, fun b off e => by have := hr9 b off e; omega⟩
        clear hr9
        obtain ⟨ht, h4⟩ := splitR_st hs
        have hUf := u64_fields hs hUW
        have hb6 := (Below.refl w5.heap.size w5).alloc (Nat.le_refl _) (.cells #[.slice sa D.length sc, .slice fa D.length fc, .map (some mb)] 79)
        have Hcall2 := hide (asGraph_c sa D.length sc fa fc D mb D.length M ar cr rs w5.heap.size (w5.alloc (.cells #[.slice sa D.length sc, .slice fa D.length fc, .map (some mb)] 79)) (hT.below hb6) (((hR.below (hbw5.mono hB)).mono (by omega)).below hb6) hUR hUf (by simp) h8 h4 hD (hRd.map.alloc _) hRd.plc)
        have Hs := hide hs
        have Hst := hide (stF_len D 0)
        clear hs hb5 hbB5 hRd hel hT ht hI hUf h4
        go_wp2_with fail
        refine (unhide Hcall2).mono ?_
        rintro e w7 ⟨hres7, hb7⟩
        have hs7 := hb7.size
        simp only [World.size_alloc] at hs7 hb7
        have hbw7 : Below w.heap.size w w7 := hbw5.trans ((hb6.mono (by omega)).trans (hb7.mono (by omega)))
        replace q0 := (hb7.cell (p := ⟨w.heap.size + 1, 0, none⟩) (by simp; omega)).trans ((hb6.cell (p := ⟨w.heap.size + 1, 0, none⟩) (by simp; omega)).trans q0)
        replace q1 := (hb7.cell (p := ⟨w.heap.size + 1, 1, none⟩) (by simp; omega)).trans ((hb6.cell (p := ⟨w.heap.size + 1, 1, none⟩) (by simp; omega)).trans q1)
        replace f0 := (hb7.frozen (p := ⟨w.heap.size + 1, 0, none⟩) (by simp; omega)).trans ((hb6.frozen (p := ⟨w.heap.size + 1, 0, none⟩) (by simp; omega)).trans f0)
        replace f1 := (hb7.frozen (p := ⟨w.heap.size + 1, 1, none⟩) (by simp; omega)).trans ((hb6.frozen (p := ⟨w.heap.size + 1, 1, none⟩) (by simp; omega)).trans f1)
        have s0 := (hb7.cell (p := ⟨w5.heap.size, 0, none⟩) (by simp)).trans (c := some (.slice sa D.length sc)) (by simp [go_sem])
        have hlt7 : w.heap.size + 1 < w7.heap.size := by omega
        have hlt8 : w5.heap.size < w7.heap.size := by omega
        clear Hcall2 g1
        rcases hres7 with ⟨hno, rfl⟩ | ⟨hok, ao7, co7, ar7, cr7, rfl, hO7, hV7⟩
        · have HE := hide (arenaE_bad h256 h8 (unhide Hs) hno)
          clear hno
          go_wp2
          refine bodyPost_ret (v := .tuple #[.agg #[.slice none 0 0, .slice none 0 0], .slice none 0 0, .int .i64 2]) (by simp [results, Try.results26, go_sem, q0, q1, f0, f1, hlt7]) rfl ?_
          refine ⟨.inl ⟨by rw [unhide HE]; omega, by rw [unhide HE]⟩, ?_⟩
          exact ((hbw7.setCell (p := ⟨w.heap.size + 1, 0, none⟩) (by simp) _).setCell (p := ⟨w.heap.size + 1, 1, none⟩) (by simp) _).alloc (by simp [World.setCell]; omega) _
        · have HE := hide (arenaE_ok h256 h8 (unhide Hs) hok)
          have HO7 := hide hO7
          have HV7 := hide hV7
          clear hok hO7 hV7
          go_wp2
          go_region
          all_goals
            go_wp2
            refine bodyPost_ret (v := .tuple #[.agg #[.slice ao7 (objsOf (stF 0 D) D).length co7, .slice ar7 rs.length cr7], .slice sa D.length sc, .int .i64 0]) (by simp [results, Try.results26, go_sem, q0, q1, f0, f1, hlt7]) rfl ?_
            have hbe : Below w7.heap.size ((w7.setCell ⟨w.heap.size + 1, 0, none⟩ (.slice ao7 (objsOf (stF 0 D) D).length co7)).setCell ⟨w.heap.size + 1, 1, none⟩ (.slice ar7 rs.length cr7)) (((w7.setCell ⟨w.heap.size + 1, 0, none⟩ (.slice ao7 (objsOf (stF 0 D) D).length co7)).setCell ⟨w.heap.size + 1, 1, none⟩ (.slice ar7 rs.length cr7)).alloc (.cells #[.slice ao7 (objsOf (stF 0 D) D).length co7, .slice ar7 rs.length cr7] 33)).drew := ((Below.refl _ _).alloc (by simp [World.setCell]) _).trans (Below.refl _ _).drew
            have hse : ((w7.setCell ⟨w.heap.size + 1, 0, none⟩ (.slice ao7 (objsOf (stF 0 D) D).length co7)).setCell ⟨w.heap.size + 1, 1, none⟩ (.slice ar7 rs.length cr7)).heap.size = w7.heap.size := by simp [World.setCell]
            rw [← hse] at hbe
            refine ⟨.inr ⟨unhide HE, D, ao7, co7, ar7, cr7, sa, sc, unhide Hs, ?_, ?_, ?_, ?_⟩, ?_⟩
            · rw [unhide Hst]; simp [readG, objsOf]
            · exact ((((unhide HO7).setCell (p := ⟨w.heap.size + 1, 0, none⟩) (by simp; omega) _).setCell (p := ⟨w.heap.size + 1, 1, none⟩) (by simp; omega) _).below hbe).base (by simp; omega)
            · exact ((((unhide HV7).setCell (p := ⟨w.heap.size + 1, 0, none⟩) (by simp; omega) _).setCell (p := ⟨w.heap.size + 1, 1, none⟩) (by simp; omega) _).below hbe).base (by simp; omega)
            · have h7 : IntsF (w.heap.size + 2) w7 sa (stF 0 D) := (((unhide HIF).below hb6).below (by simpa using hb7))
              exact (((h7.setCell (p := ⟨w.heap.size + 1, 0, none⟩) (by simp) _).setCell (p := ⟨w.heap.size + 1, 1, none⟩) (by simp) _).below hbe).base (by omega)
            · exact ((hbw7.setCell (p := ⟨w.heap.size + 1, 0, none⟩) (by simp) _).setCell (p := ⟨w.heap.size + 1, 1, none⟩) (by simp) _).trans (hbe.mono (by rw [hse]; omega))
    · have HE := hide (arenaE_large (ws := ws) (.inr (show 8 < rs.length by omega)))
      have d1 : decide (256 < (ws.length : Int)) = false := by simp; omega
      have d2 : decide (8 < (rs.length : Int)) = true := by simp; omega
      go_enter Try.func26, Try.ntmps26
      go_wp2
      exact bodyPost_ret (v := .tuple #[.agg #[.slice none 0 0, .slice none 0 0], .slice none 0 0, .int .i64 1]) (by simp [results, Try.results26, go_sem]) rfl ⟨.inl ⟨by rw [unhide HE]; omega, by rw [unhide HE]⟩, hbA⟩
  · have HE := hide (arenaE_large (rs := rs) (.inl (show 256 < ws.length by omega)))
    have d1 : decide (256 < (ws.length : Int)) = true := by simp; omega
    go_enter Try.func26, Try.ntmps26
    go_wp2
    exact bodyPost_ret (v := .tuple #[.agg #[.slice none 0 0, .slice none 0 0], .slice none 0 0, .int .i64 1]) (by simp [results, Try.results26, go_sem]) rfl ⟨.inl ⟨by rw [unhide HE]; omega, by rw [unhide HE]⟩, hbA⟩

end Go.Proofs.Ytahdalejmfbkeaa
