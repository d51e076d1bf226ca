/- Walks: ArenaCovers. -/
import Derived.Test.YtahdalejmfbkeaaBg
namespace Go.Proofs.Ytahdalejmfbkeaa
set_option linter.unusedSimpArgs false
set_option linter.unusedVariables false
open Go.RowKit Go.Shelf

theorem readG_len (fs : List (List Int)) (rs : List Int) : (readG fs rs).objs.length = fs.length := by simp [readG]
theorem readG_rlen (fs : List (List Int)) (rs : List Int) : (readG fs rs).roots.length = rs.length := by simp [readG]
theorem readG_flen {fs : List (List Int)} {rs : List Int} {k : Nat} {l : List V} (h : (readG fs rs).objs[k]? = some l) : ∃ hk : k < fs.length, l.length = fs[k].length := by
  have hk : k < fs.length := by have := (List.getElem?_eq_some_iff.1 h).1; rw [readG_len] at this; exact this
  refine ⟨hk, ?_⟩
  simp [readG, hk] at h
  rw [← h]
  simp

set_option maxRecDepth 100000 in
set_option maxHeartbeats 2000000 in
theorem covers_c (aw ar : Option Addr) (cw cr : Nat) (ws rs : List Int) (w : World) (hW : Wds w.heap.size w aw ws) (hR : Wds w.heap.size w ar rs) (hUW : U64 ws) (hUR : U64 rs) (hcap : ws.length ≤ cw) :
    Calls Try.prog 6 #[.agg #[.slice aw ws.length cw, .slice ar rs.length cr]] w fun e w' => e = .returned (.bool true) ∧ Below w.heap.size w w' := by
  obtain ⟨W1, hW1⟩ : ∃ W1, w.alloc (.cells #[.slice aw ws.length cw, .slice ar rs.length cr] 24) = W1 := ⟨_, rfl⟩
  have hb1 : Below w.heap.size w W1 := by rw [← hW1]; exact (Below.refl w.heap.size w).alloc (Nat.le_refl _) _
  have hs1 : w.heap.size < W1.heap.size := by rw [← hW1]; simp
  have g0 : W1.cell? ⟨w.heap.size, 0, none⟩ = some (.slice aw ws.length cw) := by rw [← hW1]; simp [go_sem]
  have g1 : W1.cell? ⟨w.heap.size, 1, none⟩ = some (.slice ar rs.length cr) := by rw [← hW1]; simp [go_sem]
  have Hc1 := hide (sound_c aw ar cw cr ws rs w.heap.size W1 (hW.below hb1) (hR.below hb1) hUW hUR (by omega))
  go_enter Try.func6, Try.ntmps6
  go_wp2_with fail
  refine (unhide Hc1).mono ?_
  rintro e w2 ⟨rfl, hb2⟩
  clear hW1 Hc1
  have hs2 := hb2.size
  have hbw2 : Below w.heap.size w w2 := hb1.trans (hb2.mono (by omega))
  replace g0 := (hb2.cell (p := ⟨w.heap.size, 0, none⟩) hs1).trans g0
  replace g1 := (hb2.cell (p := ⟨w.heap.size, 1, none⟩) hs1).trans g1
  by_cases hE : arenaE ws rs = 0
  · have d0 : (arenaE ws rs == 0) = true := by simp [hE]
    rw [d0]
    have Hc2 := hide (astarts_c aw ar cw cr ws rs w.heap.size w2 (hW.below hbw2) (hR.below hbw2) hUW hUR (by omega) hcap)
    clear hb1 hb2
    go_wp2_with fail
    refine (unhide Hc2).mono ?_
    rintro e w3 ⟨hres, hb3⟩
    obtain ⟨_, fs, sa, sc, hs, rfl, hI⟩ := hres.resolve_left (fun h => h.1 hE)
    have hs3 := hb3.size
    have hbw3 : Below w.heap.size w w3 := hbw2.trans (hb3.mono (by omega))
    replace g0 := (hb3.cell (p := ⟨w.heap.size, 0, none⟩) (by simp; omega)).trans g0
    replace g1 := (hb3.cell (p := ⟨w.heap.size, 1, none⟩) (by simp; omega)).trans g1
    have Hc3 := hide (aread_c aw ar cw cr ws rs w.heap.size w3 (hW.below hbw3) (hR.below hbw3) hUW hUR (by omega) hcap)
    clear Hc2 hb3
    have HI := hide hI
    clear hI
    go_wp2_with fail
    refine (unhide Hc3).mono ?_
    rintro e w4 ⟨hres, hb4⟩
    obtain ⟨_, fs', ao, co, ar', cr', hs', rfl, hO, hV⟩ := hres.resolve_left (fun h => h.1 hE)
    rw [hs] at hs'
    injection hs' with hs'
    subst hs'
    have hs4 := hb4.size
    have hbw4 : Below w.heap.size w w4 := hbw3.trans (hb4.mono (by omega))
    replace g0 := (hb4.cell (p := ⟨w.heap.size, 0, none⟩) (by simp; omega)).trans g0
    replace g1 := (hb4.cell (p := ⟨w.heap.size, 1, none⟩) (by simp; omega)).trans g1
    have hlt4 : w.heap.size < w4.heap.size := by omega
    have hst := stF_len fs 0
    have htot := (splitR_st hs).1
    have h256 : ws.length ≤ 256 := by
      unfold arenaE at hE
      split at hE
      · omega
      · rename_i h; omega
    have hfl := tot_len fs
    have HO := hide hO.objs
    have HI4 := hide ((unhide HI).1.below hb4)
    have HO4 := hide (hO.objs.below ((Below.refl _ _).alloc (Nat.le_refl _) (.cells #[.slice ao (readG fs rs).objs.length co, .slice ar' (readG fs rs).roots.length cr'] 33)))
    have hgl := readG_len fs rs
    have hgr := readG_rlen fs rs
    have Hg := hide (fun k l h => readG_flen (rs := rs) (fs := fs) (k := k) (l := l) h)
    have Hsg := hide (fun k h => stF_get fs 0 k h)
    have Hts := hide (fun k (h : k < fs.length) => tot_take_succ h)
    have d1 : (((readG fs rs).objs.length : Int) != ((stF 0 fs).length : Int)) = false := by rw [hgl, hst]; simp
    have d2 : (((readG fs rs).roots.length : Int) != (rs.length : Int)) = false := by rw [hgr]; simp
    clear hs hE d0 Hc3 HI hO hV HO hb4 hres
    generalize hL : (readG fs rs).objs = L at *
    generalize hrr : (readG fs rs).roots.length = rl at *
    generalize hS : stF 0 fs = S at *
    have HSl := hide hst
    have HLl := hide hgl
    have hSle : S.length ≤ fs.length := by omega
    have hSge : fs.length ≤ S.length := by omega
    have hLle : L.length ≤ fs.length := by omega
    have hLge : fs.length ≤ L.length := by omega
    have Htot := hide htot
    have htle : tot fs ≤ ws.length := by omega
    clear hL hrr hS hst hgl hgr htot
    go_wp2
    go_loopw [7, 8] (fun nx i wr => ∃ k : Nat, k ≤ fs.length ∧ i = .int .i64 k ∧ nx = .int .i64 (tot (fs.take k) : Nat) ∧ Below (w4.heap.size + 1) (w4.alloc (.cells #[.slice ao L.length co, .slice ar' rl cr'] 33)) wr) (fun _ i _ => fs.length - (intOf i).toNat)
    case atStart => exact ⟨0, Nat.zero_le _, rfl, rfl, Below.refl _ _⟩
    case round =>
      obtain ⟨k, hk, rfl, rfl, hb⟩ := hrel
      have hsz := hb.size
      simp only [World.size_alloc] at hsz
      have hbA : Below w4.heap.size w4 wr := ((Below.refl _ _).alloc (Nat.le_refl _) _).trans (hb.mono (by omega))
      have bx : wr.cell? ⟨w4.heap.size, 0, none⟩ = some (.slice ao L.length co) := by rw [hb.cell (p := ⟨w4.heap.size, 0, none⟩) (by simp)]; simp [go_sem]
      by_cases hlt : k < fs.length
      · have hltS : k < S.length := by omega
        have hltL : k < L.length := by omega
        obtain ⟨b1, o1, rfl, hbB1, hx1⟩ := ((unhide HI4).below (hbA.mono (by omega))).at hltS
        obtain ⟨b2, o2, ai, ci, rfl, hbB2, hx2, _⟩ := ((unhide HO4).below (hb.mono (by omega))).at hltL
        have h1 := unhide Hsg k hlt
        rw [List.getElem?_eq_getElem hltS, Option.some.injEq, Nat.zero_add] at h1
        rw [h1] at hx1
        obtain ⟨_, h2⟩ := unhide Hg k _ (List.getElem?_eq_getElem hltL)
        rw [h2] at hx2
        have HN := hide (unhide Hts k hlt)
        have hle := tot_take_le fs (k + 1)
        rw [unhide HN] at hle
        have hkI : (k : Int) < (S.length : Int) := by omega
        have hkL : (k : Int) < (L.length : Int) := by omega
        clear h1 h2
        generalize fs[k].length = n at *
        generalize tot (fs.take k) = p at *
        have d5 : ((p : Int) != (p : Int)) = false := by simp
        go_wp2
        go_roundw
        case rel => exact ⟨k + 1, by omega, by go_num, by rw [unhide HN]; go_num, hb⟩
        case measure => simp [intOf]; omega
      · obtain rfl : k = fs.length := by omega
        have hkI : ¬ ((fs.length : Int) < (S.length : Int)) := by omega
        have g0r := (hbA.cell (p := ⟨w.heap.size, 0, none⟩) hlt4).trans g0
        have e0 : tot (fs.take fs.length) = ws.length := by rw [List.take_length]; exact unhide Htot
        rw [e0]
        go_wp2
        go_ret
        exact ⟨ret_bool (by simp), hbw4.trans (hbA.mono (by omega))⟩
  · have d0 : (arenaE ws rs == 0) = false := by simp [hE]
    have HE := hide hE
    rw [d0]
    have Hc2 := hide (unsound_c aw ar cw cr ws rs w.heap.size w2 (hW.below hbw2) (hR.below hbw2) hUW hUR (by omega) hcap)
    clear hE
    go_wp2_with fail
    refine (unhide Hc2).mono ?_
    rintro e w3 ⟨he, hb3⟩
    have d3 : (arenaE ws rs != 0) = true := by simpa using unhide HE
    rw [d3] at he
    subst he
    go_wp2
    go_ret
    exact ⟨rfl, hbw2.trans (hb3.mono (by omega))⟩

end Go.Proofs.Ytahdalejmfbkeaa
