/- Walks: Idom. -/
import Derived.Test.YtkoidbekfjlfjaaProg
import Derived.Test.YtkoidbekfjlfjaaMem
import Derived.Test.YtkoidbekfjlfjaaKg
namespace Go.Proofs.Ytkoidbekfjlfjaa
set_option linter.unusedSimpArgs false
set_option linter.unusedVariables false
open Go.RowKit Go.Shelf

set_option maxRecDepth 100000 in
set_option maxHeartbeats 1000000 in
theorem idom_bad (ao ar : Option Addr) (co cr : Nat) (g : Gr) (B : Nat) (w : World) (ho : Objs B w ao g.objs) (hr : Vals B w ar g.roots) (hB : B ≤ w.heap.size) (hc : checkG g ≠ 0) :
    Calls Try.prog 8 #[.agg #[.slice ao g.objs.length co, .slice ar g.roots.length cr]] w fun e w' => e = .returned (.tuple #[.slice none 0 0, .int .i64 (checkG g)]) ∧ Below w.heap.size w w' := by
  have hd : (checkG g != 0) = true := by simpa using hc
  clear hc
  have hb1 := (Below.refl w.heap.size w).alloc (Nat.le_refl _) (.cells #[.slice ao g.objs.length co, .slice ar g.roots.length cr] 25)
  go_enter Try.func8, Try.ntmps8
  go_wp2_with (go_at_call 24; go_must (refine (check_c _ _ _ _ g B _ (ho.below (hb1.mono hB)) (hr.below (hb1.mono hB)) (by simp; omega)).mono ?_); go_must (rintro e w2 ⟨rfl, hb2⟩))
  go_ret2
  exact ⟨rfl, hb1.trans (hb2.mono (by simp))⟩

/-- The first n on the way back are told. -/
def idomP (N : Nat) (ord K : List Int) (n : Nat) : List Int := (List.range N).map fun (i : Nat) => if (i : Int) ∈ ord.take n then idomAt ord K i else -2

theorem idomP_zero (N : Nat) (ord K : List Int) : idomP N ord K 0 = List.replicate N (-2) := by
  refine List.ext_getElem (by simp [idomP]) fun i h1 h2 => ?_
  simp [idomP]

theorem idomP_len (N : Nat) (ord K : List Int) (n : Nat) : (idomP N ord K n).length = N := by simp [idomP]

theorem idomP_end (N : Nat) (ord K : List Int) : idomP N ord K ord.length = idomL N ord K := by
  refine List.ext_getElem (by simp [idomP, idomL]) fun i h1 h2 => ?_
  simp only [idomP, idomL, List.getElem_map, List.getElem_range, List.take_length]
  split
  · rfl
  · rename_i h
    unfold idomAt
    rw [if_neg h]

theorem idomP_succ {N : Nat} {ord K : List Int} (hnd : ord.Nodup) {n : Nat} (hn : n < ord.length) {x : Nat} (hx : ord[n] = (x : Int)) : idomP N ord K (n + 1) = (idomP N ord K n).set x (idomAt ord K x) := by
  refine List.ext_getElem (by simp [idomP]) fun i h1 h2 => ?_
  have hiN : i < N := by simpa [idomP] using h1
  by_cases e : i = x
  · subst e
    rw [List.getElem_set_self]
    simp only [idomP, List.getElem_map, List.getElem_range]
    rw [if_pos (by rw [List.take_succ_eq_append_getElem hn, hx]; simp)]
  · rw [List.getElem_set_ne (fun h => e h.symm)]
    simp only [idomP, List.getElem_map, List.getElem_range]
    have : (i : Int) ∈ ord.take (n + 1) ↔ (i : Int) ∈ ord.take n := by
      rw [List.take_succ_eq_append_getElem hn, hx, List.mem_append, List.mem_singleton]
      exact ⟨fun h => h.resolve_right (by omega), .inl⟩
    simp only [this]

theorem idomAt_get {ord K : List Int} (hnd : ord.Nodup) {n : Nat} (hn : n < ord.length) (hnK : n < K.length) : idomAt ord K ord[n] = if K[n] < (ord.length : Int) then ord.getD K[n].toNat 0 else -1 := by
  unfold idomAt
  rw [if_pos (List.getElem_mem hn)]
  have e : ord.idxOf ord[n] = n := by
    have h1 : ord.idxOf ord[n] < ord.length := List.idxOf_lt_length_iff.2 (List.getElem_mem hn)
    exact nd_inj hnd h1 hn (List.getElem_idxOf h1)
  rw [e]
  simp [hnK]

set_option maxRecDepth 100000 in
set_option maxHeartbeats 4000000 in
theorem idom_ok (ao ar : Option Addr) (co cr : Nat) (g : Gr) (B : Nat) (w : World) (ho : Objs B w ao g.objs) (hr : Vals B w ar g.roots) (hB : B ≤ w.heap.size) (hc : checkG g = 0) :
    Calls Try.prog 8 #[.agg #[.slice ao g.objs.length co, .slice ar g.roots.length cr]] w fun e w' => ∃ a cap D, e = .returned (.tuple #[.slice a g.objs.length cap, .int .i64 0]) ∧ Hid (D.length = g.objs.length) ∧ Ints w'.heap.size w' a D ∧ Hid (∀ i : Nat, i < g.objs.length → ∃ d, D[i]? = some d ∧ Near g i d) ∧ Below w.heap.size w w' := by
  have Hc := hide hc
  have hG := good_of_check hc
  have ho1 := ho.1
  have hr1 := hr.1
  have hn24 := hG.n24
  clear hc
  have hb1 := (Below.refl w.heap.size w).alloc (Nat.le_refl _) (.cells #[.slice ao g.objs.length co, .slice ar g.roots.length cr] 25)
  go_enter Try.func8, Try.ntmps8
  go_wp2_with fail
  refine (check_c _ _ _ _ g B _ (ho.below (hb1.mono hB)) (hr.below (hb1.mono hB)) (by simp; omega)).mono ?_
  rintro e w2 ⟨he, hb2⟩
  rw [unhide Hc] at he
  subst he
  simp only [World.size_alloc] at hb2
  have hs2 := hb2.size
  simp at hs2
  have hk2 : Below (w.heap.size + 1) (w.alloc (.cells #[.slice ao g.objs.length co, .slice ar g.roots.length cr] 25)) w2 := hb2
  have g0 := hb2.cell (p := ⟨w.heap.size, 0, none⟩) (by simp)
  have g1 := hb2.cell (p := ⟨w.heap.size, 1, none⟩) (by simp)
  simp [go_sem] at g0 g1
  have hbw2 : Below w.heap.size w w2 := hb1.trans (hb2.mono (by omega))
  clear hb1 hb2 hk2
  go_wp2_with fail
  refine (wayBack_c _ _ _ _ g (-1) B _ (ho.below (hbw2.mono hB)) (hr.below (hbw2.mono hB)) (by omega) hG).mono ?_
  rintro e w3 ⟨vo, gb, rfl, hne, hro3, hrn3, hb3⟩
  obtain ⟨oa, oc, rfl⟩ := ownsRow_slice hro3
  have hs3 := hb3.size
  have hbw3 : Below w.heap.size w w3 := hbw2.trans (hb3.mono (by omega))
  have g0 := (hb3.cell (p := ⟨w.heap.size, 0, none⟩) (by simp; omega)).trans g0
  have g1 := (hb3.cell (p := ⟨w.heap.size, 1, none⟩) (by simp; omega)).trans g1
  have hol := back_len hG (-1)
  have Hnd := hide (back_nodup hG (-1))
  have Hrg := hide (back_rng hG)
  have Hnear := hide (fun K hK hfix i => idom_near hG (K := K) hK hfix i)
  have HPar := hide (fun m (hm : m < (backL g (-1)).length) => back_par hG hm)
  have Heof := hide (fun p m => eof_eg (back_nodup hG (-1)) (back_cl hG) (back_rt hG) p m)
  have Hmem := hide (fun m (hm : m < (backL g (-1)).length) y => fromL_mem (back_nodup hG (-1)) (back_cl hG) (back_rt hG) hm y)
  obtain ⟨oa', oc', hv', hIo3, hr9⟩ := ints_of_owns hro3 rfl (by omega)
  injection hv' with e1 e2 e3
  subst e1 e3
  obtain ⟨na', nc', hv2, hIn3, hr8⟩ := ints_of_owns hrn3 (by rw [numL_len]) (by omega)
  injection hv2 with e4 e5 e6
  subst e4 e6
  clear hr8 hr9 e2 e5 hro3 hrn3 hne
  obtain ⟨W4, hW4⟩ : ∃ W4, w3.alloc (.cells #[.slice oa (backL g (-1)).length oc, .slice (some ⟨gb, 0, none⟩) g.objs.length g.objs.length] 43) = W4 := ⟨_, rfl⟩
  have hb4 : Below w3.heap.size w3 W4 := by rw [← hW4]; exact (Below.refl _ _).alloc (Nat.le_refl _) _
  have hs4 : W4.heap.size = w3.heap.size + 1 := by rw [← hW4]; simp
  have c40 : W4.cell? ⟨w3.heap.size, 0, none⟩ = some (.slice oa (backL g (-1)).length oc) := by rw [← hW4]; simp [go_sem]
  have c41 : W4.cell? ⟨w3.heap.size, 1, none⟩ = some (.slice (some ⟨gb, 0, none⟩) g.objs.length g.objs.length) := by rw [← hW4]; simp [go_sem]
  have g0 := (hb4.cell (p := ⟨w.heap.size, 0, none⟩) (by simp; omega)).trans g0
  have g1 := (hb4.cell (p := ⟨w.heap.size, 1, none⟩) (by simp; omega)).trans g1
  have hbw4 : Below w.heap.size w W4 := hbw3.trans (hb4.mono (by omega))
  have hIo4 := (hIo3.below hb4).mono (B' := W4.heap.size) (by omega)
  have hIn4 := (hIn3.below hb4).mono (B' := W4.heap.size) (by omega)
  have ho4 := (ho.below (hbw4.mono hB)).mono (B' := W4.heap.size) (by omega)
  have hr4 := (hr.below (hbw4.mono hB)).mono (B' := W4.heap.size) (by omega)
  have hlt34 : w3.heap.size < W4.heap.size := by omega
  have hltw4 : w.heap.size < W4.heap.size := by omega
  have Hs4 := hide hs4
  have Href := hide (referrers_c oa ao ar oc co cr gb g (backL g (-1)) W4 hIo4 hIn4 ho4 hr4 hG (back_rng hG) (by omega) (back_cl hG) (back_rt hG))
  clear hs4 hIn4 hIn3 ho4 hr4 hIo3
  go_wp2_with fail
  clear hW4
  refine (unhide Href).mono ?_
  rintro e w5 ⟨rfl, hT5, hb5⟩
  clear Href
  have Hlen := hide (fromL_len g (backL g (-1)))
  generalize backL g (-1) = ord at *
  have hs5 := hb5.size
  have hkp := keepers_c (some ⟨W4.heap.size + 2, 0, none⟩) ord.length (fromL g ord) w5 hT5 (by rw [unhide Hlen]; omega) (by
    intro l hl y hy
    obtain ⟨m, hm, rfl⟩ := List.mem_iff_getElem.1 hl
    have hm' : m < ord.length := by rw [← unhide Hlen]; exact hm
    obtain ⟨p, rfl, hE⟩ := (unhide Hmem m hm' y).1 (by simp [hm]; exact hy)
    rw [unhide Hlen]
    obtain ⟨_, ⟨hp, _⟩ | ⟨hp, _⟩⟩ := hE
    · omega
    · omega) (by
    intro m hm
    rw [unhide Hlen] at hm
    obtain ⟨p, h1, h2⟩ := unhide HPar m hm
    exact ⟨p, h1, (unhide Heof p m).2 h2⟩)
  have Hnear2 : Hid (∀ K, KSt (fromL g ord) 0 K → (∀ n, n < (fromL g ord).length → FixAt (fromL g ord) K n) → K.length = ord.length + 1 ∧ (∀ n, n < ord.length → ∃ k : Nat, K.getD n 0 = (k : Int) ∧ k ≤ ord.length) ∧ ∀ i, Near g i (idomAt ord K i)) := fun K h1 h2 => by
    have e := h1.len
    have hok := h1.ok
    rw [unhide Hlen] at e hok
    refine ⟨e, fun n hn => ?_, fun i => unhide Hnear K h1 h2 i⟩
    have hkn := hok.seen n (Nat.zero_le _) (by omega)
    have hnK : n < K.length := by omega
    refine ⟨kf K n, ?_, hok.bnd _ (hok.knf hkn)⟩
    rw [List.getD_eq_getElem?_getD, List.getElem?_eq_getElem hnK]
    exact kf_get hnK hkn
  rw [unhide Hlen] at hkp Hnear2
  have Hkp := hide hkp
  clear hkp Hnear HPar Heof Hmem hT5
  generalize fromL g ord = F at *
  go_wp2_with fail
  refine (unhide Hkp).mono ?_
  rintro e w6 ⟨K, rfl, hown6, hst6, hfix6, hb6⟩
  obtain ⟨hKl, hKk, hnear⟩ := unhide Hnear2 K hst6 hfix6
  have HKl := hide hKl
  have HKk := hide hKk
  have Hnear := hide hnear
  obtain ⟨ka', kc', hv7, hIk6, hr7⟩ := ints_of_owns hown6 hKl.symm (by omega)
  injection hv7 with e7 e8 e9
  subst e7 e9
  have hs6 := hb6.size
  have hk46 : Below W4.heap.size W4 w6 := hb5.trans (hb6.mono hs5)
  have g0 := (hk46.cell (p := ⟨w.heap.size, 0, none⟩) (by simp; omega)).trans g0
  have c40 := (hk46.cell (p := ⟨w3.heap.size, 0, none⟩) (by simp; omega)).trans c40
  have hIo6 := (hIo4.below hk46).mono (B' := w6.heap.size) (by omega)
  have hbw6 : Below w.heap.size w w6 := hbw4.trans (hk46.mono (by omega))
  clear hr7 e8 hst6 hfix6 hKl hKk hnear Hkp Hnear2 hIo4 hown6 g1 c41
  go_wp2_with fail
  refine (filled_c g.objs.length (-2) w6 (by omega)).mono ?_
  rintro e w7 ⟨rfl, hrow7, hb7, hs7, hko7⟩
  clear hko7 hs7
  have c40' := (hb7.cell (p := ⟨w3.heap.size, 0, none⟩) (by simp; omega)).trans c40
  rw [← idomP_zero g.objs.length ord K] at hrow7
  go_wp2
  clear c40'
  go_loopw [29] (fun i wr => ∃ n : Nat, n ≤ ord.length ∧ i = .int .i64 n ∧ wr.ownsRow w6.heap.size 3 1 (.slice (some ⟨w6.heap.size, 0, none⟩) g.objs.length g.objs.length) g.objs.length (intsV (idomP g.objs.length ord K n)) ∧ Below w6.heap.size w6 wr) (fun i _ => ord.length - (intOf i).toNat)
  case atStart => exact ⟨0, Nat.zero_le _, rfl, hrow7, hb7⟩
  case round =>
    clear hrow7 hb7
    obtain ⟨n, hn, rfl, hown, hb⟩ := hrel
    by_cases hlt : n < ord.length
    · have hnK : n < K.length := by rw [unhide HKl]; omega
      obtain ⟨b, off, rfl, hbB, hcx⟩ := (hIo6.below hb).at hlt
      have hxr := unhide Hrg _ (List.getElem_mem hlt)
      have hat := idomAt_get (K := K) (unhide Hnd) hlt hnK
      have hsu := fun x => idomP_succ (N := g.objs.length) (K := K) (unhide Hnd) hlt (x := x)
      obtain ⟨kz, hkz, hkr⟩ := unhide HKk n hlt
      rw [List.getD_eq_getElem?_getD, List.getElem?_eq_getElem hnK, Option.getD_some] at hkz
      have hKn := ((hIk6.mono (B' := w6.heap.size) (Nat.le_refl _)).below hb).at hnK
      obtain ⟨b3, off3, e3, hb3', hcK⟩ := hKn
      injection e3 with e3
      injection e3 with e31 e32
      subst e31 e32
      rw [hkz, Nat.zero_add] at hcK
      rw [hkz] at hat
      clear hkz
      generalize ord[n] = x at *
      obtain ⟨x, rfl⟩ := Int.eq_ofNat_of_zero_le hxr.1
      have hxN : x < g.objs.length := by omega
      have hxI : (x : Int) < (g.objs.length : Int) := by omega
      have hsu := hsu x rfl
      have hpx : ∃ u, (intsV (idomP g.objs.length ord K n))[x]? = some u := ⟨_, List.getElem?_eq_getElem (by simp [intsV, idomP_len]; exact hxN)⟩
      obtain ⟨u0, hu0⟩ := hpx
      have hcl := row_at hown hu0
      have hfz := hown.frozenAt x
      have hst := (hown.stored x (.int .i64 (-1))).1
      obtain ⟨X1, hX1⟩ : ∃ X1, wr.setCell ⟨w6.heap.size, x, none⟩ (.int .i64 (-1)) = X1 := ⟨_, rfl⟩
      have hbX : Below w6.heap.size w6 X1 := by rw [← hX1]; exact hb.setCell (p := ⟨w6.heap.size, x, none⟩) (Nat.le_refl _) _
      rw [hX1] at hst
      have hclX : X1.cell? ⟨w6.heap.size, x, none⟩ = some (.int .i64 (-1)) := row_at hst (by rw [List.getElem?_set_self (by simp [intsV, idomP_len]; exact hxN)])
      have hfzX := hst.frozenAt x
      have c40X := (hbX.cell (p := ⟨w3.heap.size, 0, none⟩) (by simp; omega)).trans c40
      have hcKX := (hbX.cell (p := ⟨w5.heap.size, n, none⟩) (by simp; omega)).trans ((hb.cell (p := ⟨w5.heap.size, n, none⟩) (by simp; omega)).symm.trans hcK)
      have c40r := (hb.cell (p := ⟨w3.heap.size, 0, none⟩) (by simp; omega)).trans c40
      have hnI : (n : Int) < ((ord.length + 1 : Nat) : Int) := by omega
      have Hst := hide hst
      have Hat := hide hat
      have Hsu := hide hsu
      clear hst hat hsu hu0
      by_cases hkl : kz < ord.length
      · have hklI : (kz : Int) < (ord.length : Int) := by omega
        have dk : decide ((kz : Int) < (ord.length : Int)) = true := by simpa using hkl
        obtain ⟨b4, off4, e4, hb4', hcy⟩ := (hIo6.below hbX).at hkl
        injection e4 with e4
        injection e4 with e41 e42
        subst e41 e42
        have Hat2 : Hid (idomAt ord K (x : Int) = ord[kz]) := by show _ = _; rw [unhide Hat, if_pos hklI]; simp [hkl]
        generalize ord[kz] = y at *
        have hst2 := ((unhide Hst).stored x (.int .i64 y)).1
        have Hrow2 : Hid ((X1.setCell ⟨w6.heap.size, x, none⟩ (.int .i64 y)).ownsRow w6.heap.size 3 1 (.slice (some ⟨w6.heap.size, 0, none⟩) g.objs.length g.objs.length) g.objs.length (intsV (idomP g.objs.length ord K (n + 1)))) := by
          rw [List.set_set, intsV_set] at hst2
          rw [unhide Hsu, unhide Hat2]
          exact hst2
        have hbY : Below w6.heap.size w6 (X1.setCell ⟨w6.heap.size, x, none⟩ (.int .i64 y)) := hbX.setCell (p := ⟨w6.heap.size, x, none⟩) (Nat.le_refl _) _
        clear hst2
        go_wp2
        go_roundw
        case rel => exact ⟨n + 1, by omega, by go_num, unhide Hrow2, hbY⟩
        case measure => simp [intOf]; omega
      · have hklI : ¬ (kz : Int) < (ord.length : Int) := by omega
        have dk : decide ((kz : Int) < (ord.length : Int)) = false := by simpa using hkl
        have Hrow2 : Hid (X1.ownsRow w6.heap.size 3 1 (.slice (some ⟨w6.heap.size, 0, none⟩) g.objs.length g.objs.length) g.objs.length (intsV (idomP g.objs.length ord K (n + 1)))) := by
          have h2 := unhide Hst
          rw [intsV_set] at h2
          rw [unhide Hsu, unhide Hat, if_neg hklI]
          exact h2
        go_wp2
        go_roundw
        case rel => exact ⟨n + 1, by omega, by go_num, unhide Hrow2, hbX⟩
        case measure => simp [intOf]; omega
    · obtain rfl : n = ord.length := by omega
      rw [idomP_end] at hown
      have Hdl : Hid ((idomL g.objs.length ord K).length = g.objs.length) := by show _ = _; simp [idomL]
      obtain ⟨da, dc, hv8, hI8, hr8⟩ := ints_of_owns hown (unhide Hdl).symm (by omega)
      injection hv8 with e1 e2 e3
      subst e1 e3
      clear hr8 e2
      go_wp2
      go_ret2
      refine ⟨_, _, idomL g.objs.length ord K, rfl, Hdl, hI8, hide (fun i hi => ⟨idomAt ord K i, by simp [idomL, hi], unhide Hnear i⟩), hbw6.trans (hb.mono (by have := hbw6.size; omega))⟩

end Go.Proofs.Ytkoidbekfjlfjaa
