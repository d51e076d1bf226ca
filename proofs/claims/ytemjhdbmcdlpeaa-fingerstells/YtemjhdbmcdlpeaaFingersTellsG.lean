/- Merged texts: Lj Lh Lg Mq Lk Ll Lm. -/
import Derived.Test.YtemjhdbmcdlpeaaProg
import Derived.Test.YtemjhdbmcdlpeaaFingersTellsF
import Derived.Deep.RegionLaw
import Derived.Lib.SliceRun
import Derived.Lib.SmallJoins
import Derived.Deep.RegionWith

/- Walks: fill. -/
namespace Go.Proofs.Ytemjhdbmcdlpeaa
set_option linter.unusedSimpArgs false
set_option linter.unusedVariables false
open Go.RowKit Go.Shelf
attribute [local go_sem] field51_0 field51_1

set_option maxRecDepth 100000 in
set_option maxHeartbeats 4000000 in
theorem fill_c (a : Option Addr) (cw : Nat) (hs : List Int) (fs : List (List Int)) (p : Nat → Bool) (s gw N2 T : Nat) (w : World) (hF : Fit hs fs) (hu : Unif s fs) (hs1 : 1 ≤ s) (hs5 : s ≤ 5) (hT : T = fs.length * s) (h256 : T ≤ 256) (hcw : T ≤ cw) (hgm : gw ≠ w.heap.size)
    (hrow : fs ≠ [] → a = some ⟨gw, 0, none⟩ ∧ w.ownsRow N2 56 1 (.slice (some ⟨gw, 0, none⟩) T cw) T (wordsV (mW hs fs p))) :
    Calls Try.prog 21 #[.slice a (T : Nat) cw, .int .i64 (s : Nat)] w fun e w' => e = .returned (.tuple #[.map (some w.heap.size), .int .i64 ((mL p fs.length).length * s : Nat)]) ∧ FiS w w' s hs fs p gw N2 T cw (mL p fs.length).length (mL p fs.length).length := by
  have hmm := @run_makeMap Try.prog
  obtain ⟨i0, hi0, hz0, hz1, hz2⟩ := info_parts Try.info56m
  have hst : FiS w (w.alloc (.map #[] 0)) s hs fs p gw N2 T cw 0 fs.length := by
    refine ⟨Fi.start p _, ⟨rfl, rfl, rfl, by simp, fun k hk _ => Below.heap_alloc w _ _ hk⟩, ⟨.map [], World.ownsMap_made (H := Unit) w Try.prog 3 (plainElem Try.prog 3), Nat.le_refl _, wnD_nil s p _, by simp [Maps.size, fgP]⟩, fun hne => ?_⟩
    rw [fgW_zero]
    exact (hrow hne).2.alloc _
  have ha : fs ≠ [] → a = some ⟨gw, 0, none⟩ := fun h => (hrow h).1
  have Hst := hide hst
  have HF := hide hF
  have Hu := hide hu
  have Ha := hide ha
  have HT := hide hT
  have hw0 : IntKind.i64.wrap ((T : Int) - (s : Int)) = (T : Int) - (s : Int) := by rw [IntKind.wrap_i64]; omega
  clear hst hF hu ha hrow hT
  go_enter Try.func21, Try.ntmps21
  go_wp2
  go_loopw [4, 6, 7] (fun v x y wr => ∃ (i u : Nat) (l : Int), v = .map (some w.heap.size) ∧ x = .int .i64 (i * s : Nat) ∧ y = .int .i64 l ∧ l = ((u * s : Nat) : Int) - (s : Int) ∧ i ≤ u ∧ u ≤ fs.length ∧ Hid (FiS w wr s hs fs p gw N2 T cw i u)) (fun _ x y _ => (intOf y + (s : Int) - intOf x).toNat)
  case atStart => exact ⟨0, fs.length, _, rfl, by simp, rfl, by rw [unhide HT], Nat.zero_le _, Nat.le_refl _, Hst⟩
  case round =>
    clear Hst
    obtain ⟨i, u, l, rfl, rfl, rfl, hl, hiu, hun, HI⟩ := hrel
    have Hl : Hid (l = ((u * s : Nat) : Int) - (s : Int)) := hl
    clear hl
    go_wp2
    go_loopw [6] (fun x wq => ∃ i1 : Nat, x = .int .i64 (i1 * s : Nat) ∧ i ≤ i1 ∧ i1 ≤ u ∧ Hid (FiS w wq s hs fs p gw N2 T cw i1 u)) (fun x _ => T - (intOf x).toNat)
    case atStart => exact ⟨i, rfl, Nat.le_refl _, hiu, HI⟩
    case round =>
      clear HI
      obtain ⟨i1, rfl, hi1, hiu1, HI⟩ := hrel
      by_cases hlt : i1 < u
      · have hin : i1 < fs.length := by omega
        have hne : fs ≠ [] := by intro e; rw [e] at hin; simp at hin
        obtain ⟨x, hx, hx1, hx2, hxm⟩ := (unhide HI).head (unhide HF) (unhide Hu) (Nat.le_refl i1) hin
        have haw := unhide Ha hne
        have hgl : gw < wr.heap.size := World.block_lt_of_cell? wr _ hx
        have hq1 : (i1 + 1) * s ≤ u * s := Nat.mul_le_mul_right s hlt
        have hq2 : u * s ≤ fs.length * s := Nat.mul_le_mul_right s hun
        rw [← unhide HT] at hq2
        rw [Nat.succ_mul] at hq1
        have Hnx : Hid ((i1 + 1) * s = i1 * s + s) := Nat.succ_mul i1 s
        have hii : i * s ≤ i1 * s := Nat.mul_le_mul_right s hi1
        have Hc := hide (fheader_c x wr hx1 hx2)
        subst haw
        generalize hqe : i1 * s = q at *
        have Hqe := hide hqe
        clear hqe
        generalize hUe : u * s = U at *
        have HUe := hide hUe
        clear hUe
        have hqT : q < T := by omega
        have hqI : (q : Int) < (T : Int) := by omega
        have hle : (q : Int) ≤ l := by have := unhide Hl; omega
        have d1 : decide ((q : Int) ≤ l) = true := by simpa using hle
        have hw1 : IntKind.i64.wrap ((q : Int) + (s : Int)) = (q : Int) + (s : Int) := by rw [IntKind.wrap_i64]; omega
        go_wp2_with fail
        refine (unhide Hc).mono ?_
        rintro e w3 ⟨rfl, hb3⟩
        rw [hxm]
        have HI3 := hide ((unhide HI).below hb3)
        clear HI hx hxm Hc hb3 hgl
        cases hp : p i1
        · -- a hole
          go_wp2
          go_loopw [7] (fun y wz => ∃ (u1 : Nat) (l1 : Int), y = .int .i64 l1 ∧ Hid (l1 = ((u1 * s : Nat) : Int) - (s : Int)) ∧ i1 ≤ u1 ∧ u1 ≤ u ∧ Hid (FiS w wz s hs fs p gw N2 T cw i1 u1)) (fun y _ => (intOf y + (s : Int)).toNat)
          case atStart => exact ⟨u, l, rfl, by show _ = _; rw [unhide HUe]; exact unhide Hl, hiu1, Nat.le_refl _, HI3⟩
          case round =>
            clear HI3
            obtain ⟨u1, l1, rfl, Hl1, hiu2, hu1, HI3⟩ := hrel
            by_cases hlt2 : i1 < u1
            · obtain ⟨v, rfl⟩ : ∃ v, u1 = v + 1 := ⟨u1 - 1, by omega⟩
              have hl1 : l1 = ((v * s : Nat) : Int) := by have := unhide Hl1; rw [Nat.succ_mul] at this; omega
              have hvn : v < fs.length := by omega
              obtain ⟨y, hy, hy1, hy2, hym⟩ := (unhide HI3).head (unhide HF) (unhide Hu) (show i1 ≤ v by omega) hvn
              have hgl2 : gw < wr.heap.size := World.block_lt_of_cell? wr _ hy
              have hv1 : (v + 1) * s ≤ fs.length * s := Nat.mul_le_mul_right s (by omega)
              rw [← unhide HT, Nat.succ_mul] at hv1
              have hqv : i1 * s ≤ v * s := Nat.mul_le_mul_right s (by omega)
              rw [unhide Hqe] at hqv
              have hvU : (v + 1) * s ≤ u * s := Nat.mul_le_mul_right s hu1
              rw [unhide HUe, Nat.succ_mul] at hvU
              have hqv2 : i1 < v → q + s ≤ v * s := fun h => by
                have h1 := Nat.mul_le_mul_right s h
                rw [Nat.succ_mul, unhide Hqe] at h1
                exact h1
              have Hcv := hide (fheader_c y wr hy1 hy2)
              subst hl1
              clear Hl1
              generalize hre : v * s = r at *
              have Hre := hide hre
              clear hre
              have hrT : r < T := by omega
              have hrI : (r : Int) < (T : Int) := by omega
              have hqr : (q : Int) ≤ (r : Int) := by omega
              have d4 : decide ((q : Int) ≤ (r : Int)) = true := by simpa using hqr
              have hw2 : IntKind.i64.wrap ((r : Int) - (s : Int)) = (r : Int) - (s : Int) := by rw [IntKind.wrap_i64]; omega
              go_wp2_with fail
              refine (unhide Hcv).mono ?_
              rintro e w5 ⟨rfl, hb5⟩
              rw [hym]
              have HI5 := hide ((unhide HI3).below hb5)
              clear HI3 hy hym Hcv hb5 hgl2
              cases hq : p v
              · have HI6 := hide ((unhide HI5).down (by omega) hq)
                go_wp2
                go_roundw
                case rel => exact ⟨v, _, rfl, by show _ = _; rw [unhide Hre], by omega, by omega, HI6⟩
                case measure => simp [intOf]; omega
              · have hiv : i1 < v := by
                  have : i1 ≠ v := fun e => by rw [e, hq] at hp; cases hp
                  omega
                have hqsr := hqv2 hiv
                have d5 : decide ((q : Int) > (r : Int)) = false := by simp; omega
                have d6 : decide ((r : Int) < (q : Int)) = false := by simp; omega
                obtain ⟨cs, hcl, hcells, cur, hcur, hcs, hnew⟩ := ((unhide HI5).below (Below.refl _ _).drew).copy (unhide HF) (unhide Hu) hs1 (unhide HT) (by omega) hp hq
                rw [unhide Hqe] at hcs hnew
                rw [unhide Hre] at hcells
                have hwl : (wordsV cs).length = s := by rw [wordsV_len, hcl]
                obtain ⟨M, hm, hfin⟩ := ((unhide HI5).below (Below.refl _ _).drew).swap hs1 hgm (by omega) hp hq rfl hnew
                have hti : (fgP (mL p fs.length) i1).2 ≤ i1 := fgP_le _ _
                have hi256 : i1 ≤ 256 := by
                  have h1 := Nat.mul_le_mul_left i1 hs1
                  have h2 := unhide Hqe
                  omega
                rw [unhide Hre, unhide Hqe] at hfin
                have Hfin := hide hfin
                have H1 : Hid (∀ ty, (Builtin.copy_ #[22, 22] ty #[.slice (some ⟨gw, q, none⟩) (T - q) (cw - q), .slice (some ⟨gw, r, none⟩) s (cw - r)]).run Try.prog w5.drew = .ok (goInt s) (w5.drew.setRow gw (cur.toList.take q ++ wordsV cs ++ cur.toList.drop (q + (wordsV cs).length)).toArray)) := fun ty => by
                  have := run_copy_row (P := Try.prog) w5.drew 22 22 ty 56 gw q (T - q) (cw - q) ⟨gw, r, none⟩ s (cw - r) cur 56 (wordsV cs) Try.underlying22 (by rw [hi0]; simp [hz1]) hcur (by rw [hwl]; exact (Nat.min_eq_left (by omega)).symm) hcells (by rw [hwl]; exact hcs) (wordsV_one cs)
                  rw [hwl] at this
                  rw [hwl]
                  exact this
                have Hkey := hide (Maps.keyOf_int_mk Try.underlying3 (wf_i64 (x := (r : Int)) (by omega) (by omega)))
                have Hval := hide (show plainElem (H := Unit) Try.prog 3 (.int .i64 (q : Int)) = some (.lit (.int .i64 (q : Int)), []) from plainElem_int Try.underlying3 (wf_i64 (by omega) (by omega)))
                clear hfin hcells hcur hnew hcs hwl
                generalize w5.drew.setRow gw (cur.toList.take q ++ wordsV cs ++ cur.toList.drop (q + (wordsV cs).length)).toArray = Y at *
                have hqc : q < cw := by omega
                have hrc : r < cw := by omega
                have hsl1 : (0 : Int) ≤ (q : Int) ∧ (q : Int) ≤ (T : Int) := by omega
                have hsl2 : (0 : Int) ≤ (r : Int) ∧ (r : Int) ≤ (T : Int) := by omega
                have hsl3 : (0 : Int) ≤ (s : Int) ∧ (s : Int) ≤ ((cw - r : Nat) : Int) := by omega
                have hsl4 : (s : Int) ≤ ((cw - r : Nat) : Int) := by omega
                have hsl5 : s ≤ cw - r := by omega
                have hsl6 : q ≤ T := by omega
                have hsl7 : r ≤ T := by omega
                go_upto_region 9 with fail
                go_region_law (refine step_cp rfl _ _ 22 22 rfl (.slice (some ⟨gw, q, none⟩) (T - q) (cw - q)) (.slice (some ⟨gw, r, none⟩) s (cw - r)) (by simp [Act.eval, Act.put] <;> omega) (by simp [Act.eval, Act.put] <;> omega) (unhide H1 _) ?_)
                all_goals
                  go_wp2_with (at_mapUpdate; go_must (refine wpList_mapUpdate_own _ rfl _ _ _ 52 rfl 3 3 (Maps.int_keyed Try.underlying3) Try.underlying52 _ w.heap.size _ M rfl hm (by simp only [maxLen]; omega) _ _ _ rfl rfl (unhide Hkey) _ [] (unhide Hval) ?_); go_must (intro w7 hm7 hg7; have H7 := hide (unhide Hfin w7 hm7 hg7); clear hm7 hg7))
                  go_roundw
                  case rel => exact ⟨i1 + 1, v, _, rfl, by rw [unhide Hnx]; go_num, rfl, by rw [unhide Hre], by omega, by omega, H7⟩
                  case measure => have h1 := unhide Hl; simp [intOf]; omega
            · obtain rfl : i1 = u1 := by omega
              have hgt : ¬ (q : Int) ≤ l1 := by have := unhide Hl1; rw [unhide Hqe] at this; omega
              have d4 : decide ((q : Int) ≤ l1) = false := by simpa using hgt
              have d5 : decide ((q : Int) > l1) = true := by simpa using hgt
              have d6 : decide (l1 < (q : Int)) = true := by simpa using hgt
              have Hm := hide (unhide HI3).fi.meet
              have HIe := hide (show FiS w wr s hs fs p gw N2 T cw (mL p fs.length).length (mL p fs.length).length by rw [← unhide Hm]; exact unhide HI3)
              clear HI3
              go_wp2
              refine bodyPost_ret (v := .tuple #[.map (some w.heap.size), .int .i64 (q : Int)]) (by simp [results, Try.results21, go_sem]) rfl ?_
              exact ⟨by have h1 := unhide Hm; have h2 := unhide Hqe; rw [← h1, ← h2]; simp, unhide HIe⟩
        · have HI4 := hide ((unhide HI3).keep (unhide HF) hlt hp)
          go_wp2
          go_roundw
          case rel => exact ⟨i1 + 1, by rw [unhide Hnx]; go_num, by omega, by omega, HI4⟩
          case measure => simp [intOf]; omega
      · obtain rfl : i1 = u := by omega
        generalize hqe : i1 * s = q at *
        have Hqe := hide hqe
        clear hqe
        have hgt : ¬ (q : Int) ≤ l := by have := unhide Hl; omega
        have d1 : decide ((q : Int) ≤ l) = false := by simpa using hgt
        have d2 : decide ((q : Int) > l) = true := by simpa using hgt
        have d3 : decide (l < (q : Int)) = true := by simpa using hgt
        have Hm := hide (unhide HI).fi.meet
        have HIe := hide (show FiS w wr s hs fs p gw N2 T cw (mL p fs.length).length (mL p fs.length).length by rw [← unhide Hm]; exact unhide HI)
        have hq0 : q ≤ 256 := by
          have h1 := Nat.mul_le_mul_right s hun
          rw [← unhide HT, unhide Hqe] at h1
          omega
        clear HI
        go_wp2
        go_loopw [7] (fun y wz => y = .int .i64 l ∧ Hid (FiS w wz s hs fs p gw N2 T cw (mL p fs.length).length (mL p fs.length).length)) (fun _ _ => 0)
        case atStart => exact ⟨rfl, HIe⟩
        case round =>
          clear HIe
          obtain ⟨rfl, HIe⟩ := hrel
          go_wp2
          refine bodyPost_ret (v := .tuple #[.map (some w.heap.size), .int .i64 (q : Int)]) (by simp [results, Try.results21, go_sem]) rfl ?_
          exact ⟨by have h1 := unhide Hm; have h2 := unhide Hqe; rw [← h1, ← h2], unhide HIe⟩

end Go.Proofs.Ytemjhdbmcdlpeaa

/- Walks: allHave, slices.Clone. -/
namespace Go.Proofs.Ytemjhdbmcdlpeaa
set_option linter.unusedSimpArgs false
set_option linter.unusedVariables false
open Go.RowKit Go.Shelf
attribute [local go_sem] field51_0 field51_1

set_option maxRecDepth 100000 in
set_option maxHeartbeats 2000000 in
theorem allHave_c (a : Option Addr) (cap : Nat) (hs : List Int) (fs : List (List Int)) (p : Nat → Bool) (s N : Nat) (w : World) (hF : Fit hs fs) (h256 : tot fs ≤ 256) (hs5 : s ≤ 5) (hW : Wds N w a (mW hs fs p)) (hN : N ≤ w.heap.size) :
    Calls Try.prog 20 #[.slice a (tot fs : Nat) cap, .int .i64 (s : Nat)] w fun e w' => (∃ b, e = .returned (.bool b) ∧ (b = true ↔ Unif s fs)) ∧ Below w.heap.size w w' := by
  have HF := hide hF
  have HW := hide hW
  clear hF hW
  go_enter Try.func20, Try.ntmps20
  go_wp2
  go_loopw [5] (fun i wr => ∃ k : Nat, k ≤ fs.length ∧ i = .int .i64 (tot (fs.take k) : Nat) ∧ Hid (Unif s (fs.take k)) ∧ Below w.heap.size w wr) (fun i _ => tot fs - (intOf i).toNat)
  case atStart => exact ⟨0, Nat.zero_le _, rfl, hide (by simp [Unif]), Below.refl _ _⟩
  case round =>
    obtain ⟨k, hk, rfl, Hu, hb⟩ := hrel
    have hsz := hb.size
    by_cases hlt : k < fs.length
    · obtain ⟨wb, off, x, rfl, hwb, hc, h1, h2, h3, h4, h5, y, hy, hxy⟩ := mW_at (unhide HF) p hlt (((unhide HW).below (hb.mono hN)))
      have hpl := place_lt hlt
      have hts := tot_take_succ hlt
      have htl := tot_take_le fs (k + 1)
      have HL := hide (uhL_wlen h3)
      rw [h4] at HL
      have hwl : wb < wr.heap.size := World.block_lt_of_cell? wr _ hc
      have Hc := hide (fheader_c x wr h1 h2)
      have Hyes : Hid (fs[k].length + 1 = s → Unif s (fs.take (k + 1))) := fun e f hf => by
        rw [List.take_succ_eq_append_getElem hlt] at hf
        rcases List.mem_append.1 hf with hf | hf
        · exact unhide Hu f hf
        · simp only [List.mem_singleton] at hf; subst hf; exact e
      have Hno : Hid (fs[k].length + 1 ≠ s → ¬ Unif s fs) := fun e h => e (h.len hlt)
      have HN : Hid (tot (fs.take (k + 1)) = tot (fs.take k) + (fs[k].length + 1)) := hts
      have hle : tot (fs.take k) + 1 + fs[k].length ≤ 256 := by omega
      clear h3 h4 h5 hy hxy hts htl
      generalize fs[k].length = l at *
      generalize tot (fs.take k) = q at *
      generalize tot fs = n at *
      have hqI : (q : Int) < (n : Int) := by omega
      have hw1 : IntKind.i64.wrap (1 + (l : Int)) = 1 + (l : Int) := by rw [IntKind.wrap_i64]; omega
      have hw2 : IntKind.i64.wrap ((q : Int) + (s : Int)) = (q : Int) + (s : Int) := by rw [IntKind.wrap_i64]; omega
      go_wp2_with fail
      refine (unhide Hc).mono ?_
      rintro e w2 ⟨rfl, hb2⟩
      rw [unhide HL]
      have hbw2 := hb.trans (hb2.mono hsz)
      by_cases hl : l + 1 = s
      · have d1 : ((1 + (l : Int)) != (s : Int)) = false := by simp; omega
        have Hu2 := hide (unhide Hyes hl)
        clear Hno Hyes hb2 hc
        go_wp2
        go_roundw
        case rel => exact ⟨k + 1, by omega, by rw [unhide HN]; go_num, Hu2, hbw2⟩
        case measure => simp [intOf]; omega
      · have d1 : ((1 + (l : Int)) != (s : Int)) = true := by simp; omega
        have Hn := hide (unhide Hno hl)
        clear Hno Hyes hb2 hc
        go_wp2
        go_ret
        exact ⟨⟨_, rfl, by simp; exact unhide Hn⟩, hbw2⟩
    · obtain rfl : k = fs.length := by omega
      have e0 : tot (fs.take fs.length) = tot fs := by rw [List.take_length]
      have hu := unhide Hu
      rw [List.take_length] at hu
      have Hu2 := hide hu
      clear hu Hu
      rw [e0]
      generalize tot fs = n at *
      go_wp2
      go_ret
      exact ⟨⟨_, rfl, by simp; exact unhide Hu2⟩, hb⟩

set_option maxRecDepth 100000 in
set_option maxHeartbeats 2000000 in
theorem clone_c (a : Option Addr) (cap : Nat) (l : List Int) (w : World) (hW : Wds w.heap.size w a l) (hl : l.length ≤ 256) (hc : a = none → cap = 0) :
    Calls Try.prog 22 #[.slice a l.length cap] w fun e w' => (∃ v, e = .returned v ∧ w'.ownsRow w.heap.size 56 1 v l.length (wordsV l)) ∧ Below w.heap.size w w' := by
  have q22 : ∀ (w : World) (a : Option Addr) (n c : Nat), (binOp .eql 22 (.slice a n c) (.slice none 0 0)).run Try.prog w = .ok (.bool a.isNone) w := fun w a n c => Lib.run_eql_slice_nil w _ _ a n c 0 0 Try.underlying22
  cases a with
  | none =>
    have hc0 := hc rfl
    subst hc0
    have hl0 : l = [] := by
      by_cases h : l = []
      · exact h
      · obtain ⟨b, off, e, _⟩ := hW.2 h; cases e
    subst hl0
    go_enter Try.func22, Try.ntmps22
    go_wp2
    go_ret
    exact ⟨⟨_, rfl, World.ownsRow_nil _ _ _ _⟩, Below.refl _ _⟩
  | some ad =>
    obtain ⟨i0, hi0, hz0, hz1, hz2⟩ := info_parts Try.info56m
    have hrow0 : (w.alloc (.cells #[] 56)).ownsRow w.heap.size 56 1 (.slice (some ⟨w.heap.size, 0, none⟩) 0 0) 0 [] := World.ownsRow_made w #[] 0 (Nat.le_refl _) (by simp [maxLen]) rfl
    have hb0 : Below w.heap.size w (w.alloc (.cells #[] 56)) := (Below.refl _ _).alloc (Nat.le_refl _) _
    have hcells : ∀ j u, (wordsV l)[j]? = some u → (w.alloc (.cells #[] 56)).cell? (ad.add j) = some u := fun j u hj => by
      have hne : l ≠ [] := by rintro rfl; simp [wordsV] at hj
      obtain ⟨b, off, e, hB, hcs⟩ := (hW.below hb0).2 hne
      have e' := Option.some.inj e
      subst e'
      have hadd : (⟨b, off, none⟩ : Addr).add j = ⟨b, off + j, none⟩ := by unfold Addr.add; split <;> simp_all
      rw [hadd]
      simp only [wordsV, List.getElem?_map, Option.map_eq_some_iff] at hj
      obtain ⟨x, hx, rfl⟩ := hj
      exact hcs j x hx
    have hwl := wordsV_len l
    have hone := wordsV_one l
    have Hfin : Hid (∀ v' w', w'.ownsRow w.heap.size 56 1 v' (0 + l.length) ([] ++ wordsV l) → (w.alloc (.cells #[] 56)).grownBy w' (some w.heap.size) → w'.ownsRow w.heap.size 56 1 v' l.length (wordsV l) ∧ Below w.heap.size w w') := fun v' w' h hg => by
      rw [Nat.zero_add, List.nil_append] at h
      exact ⟨h, hb0.grown hg (by simp) (fun k e => by injection e with e; omega)⟩
    clear hW
    go_enter Try.func22, Try.ntmps22
    go_wp2_with (at_builtin; go_must (refine wpList_append_own_at _ rfl _ _ 22 rfl w.heap.size 56 i0 _ 1 8 Try.underlying22 hi0 hz0 hz1 hz2 rfl (by decide) _ _ _ rfl hrow0 ad l.length cap (wordsV l) rfl (by rw [hwl, Nat.mul_one]) hcells hone (by simp only [maxLen]; omega) (by omega) (by simp) ?_); go_must (intro v8 w8 hrow8 hg8 _ hat8; have Hr8 := hide hrow8; have Hg8 := hide hg8; clear hrow8 hg8 hat8))
    go_ret
    have hf := unhide Hfin v8 w8 (unhide Hr8) (unhide Hg8)
    exact ⟨⟨_, rfl, hf.1⟩, hf.2⟩

end Go.Proofs.Ytemjhdbmcdlpeaa

/- Walks: settle. -/
namespace Go.Proofs.Ytemjhdbmcdlpeaa
set_option linter.unusedSimpArgs false
set_option linter.unusedVariables false
open Go.RowKit Go.Shelf
attribute [local go_sem] field51_0 field51_1

set_option maxRecDepth 100000 in
set_option maxHeartbeats 4000000 in
theorem settle_c (aw ar : Option Addr) (cw cr cw' cr' : Nat) (hs : List Int) (fs : List (List Int)) (rs L : List Int) (s : Nat) (p : Nat → Bool) (N N2 mb pb t gw gr : Nat) (w : World) (hA : Arn hs fs rs) (hu : Unif s fs) (hs1 : 1 ≤ s) (hO : OOk fs L)
    (hpb : w.cell? ⟨pb, 0, none⟩ = some (.map (some mb))) (hM : WnM w N mb s p fs.length L.length t L) (hroot : ∀ j : Nat, To fs rs j → (j : Int) ∈ L ∧ p j = true) (hin : ∀ i j : Nat, ∀ hi : i < fs.length, (i : Int) ∈ L → To fs fs[i] j → (j : Int) ∈ L ∧ p j = true)
    (hown : ∀ j : Nat, j < L.length → p j = true → L[j]? = some (j : Int)) (hpw : pb ≠ gw) (hpr : pb ≠ gr) (hmw : mb ≠ gw) (hmr : mb ≠ gr) (hwr : gw ≠ gr) (hw0 : gw ≠ w.heap.size) (hr0 : gr ≠ w.heap.size) (hcap : L.length * s ≤ cw)
    (hrow : L ≠ [] → aw = some ⟨gw, 0, none⟩ ∧ w.ownsRow N2 56 1 (.slice (some ⟨gw, 0, none⟩) (L.length * s) cw) (L.length * s) (wordsV (setW hs fs L 0)))
    (hroots : rs ≠ [] → ar = some ⟨gr, 0, none⟩ ∧ w.ownsRow N2 56 1 (.slice (some ⟨gr, 0, none⟩) rs.length cr) rs.length (wordsV rs)) :
    Calls Try.prog 23 #[.agg #[.slice aw (L.length * s : Nat) cw, .slice ar rs.length cr], .int .i64 (s : Nat), .func (.func 42) #[] #[.pointer (some ⟨pb, 0, none⟩)]] w fun e w' => e = .returned (.tuple #[]) ∧ StI w gw gr N2 (L.length * s) cw cr (setW hs fs L L.length) (sR fs L rs) w' := by
  obtain ⟨W1, hW1⟩ : ∃ W1, w.alloc (.cells #[.slice aw (L.length * s : Nat) cw, .slice ar rs.length cr] 24) = W1 := ⟨_, rfl⟩
  have hb1 : Below w.heap.size w W1 := by rw [← hW1]; exact (Below.refl _ _).alloc (Nat.le_refl _) _
  have hs1' : W1.heap.size = w.heap.size + 1 := by rw [← hW1]; simp
  have k0 : W1.cell? ⟨w.heap.size, 0, none⟩ = some (.slice aw (L.length * s : Nat) cw) := by rw [← hW1]; simp [go_sem]
  have k1 : W1.cell? ⟨w.heap.size, 1, none⟩ = some (.slice ar rs.length cr) := by rw [← hW1]; simp [go_sem]
  have hpl : pb < w.heap.size := World.block_lt_of_cell? w _ hpb
  have hml := hM.lt
  have hpb1 := (hb1.cell (p := ⟨pb, 0, none⟩) hpl).trans hpb
  have hM1 := hM.below hb1
  have h256 := hA.n256
  have Hc1 := hide (tall_c ar cr rs fs L s p N N2 mb pb t gr 0 rs.length cr rs W1 hA.ur hA.okr hu hO hpb1 hM1 hroot hown h256 hpr hmr (by have := hA.n8; omega) (fun h => ⟨(hroots h).1, ownsRow_below (hroots h).2 hb1, by simp⟩))
  have HA := hide hA
  have Hu := hide hu
  have HO := hide hO
  have Hin := hide hin
  have Hown := hide hown
  have Hrow := hide hrow
  have Hpb1 := hide hpb1
  have HM1 := hide hM1
  clear hroots hroot hin hown hpb hpb1 hM hM1 hA hu hO
  go_enter Try.func23, Try.ntmps23
  go_wp2_with fail
  refine (unhide Hc1).mono ?_
  rintro e w2 ⟨rfl, hg2, hr2⟩
  clear hW1 Hc1
  have hs2 := hg2.size
  have hl1 : w.heap.size < W1.heap.size := by omega
  have K0 := hide k0
  have hkr : some w.heap.size ≠ some gr := fun e => hr0 (by injection e with e; exact e.symm)
  replace k0 := hg2.cell (a := ⟨w.heap.size, 0, none⟩) k0 hkr
  have hSl : (sR fs L rs).length = rs.length := by simp [sR]
  have hsp0 : splW rs 0 (rs.map (twW fs L)) = sR fs L rs := by
    unfold splW sR
    rw [List.take_zero, List.nil_append, List.drop_of_length_le (by simp), List.append_nil]
  have HI : Hid (StI W1 gw gr N2 (L.length * s) cw cr (setW hs fs L 0) (sR fs L rs) w2) := by
    have hz := setW_len (hs := hs) (unhide Hu) (unhide HO) (k := 0) (Nat.zero_le _)
    refine ⟨(Gb2.refl _ _ _).grown hg2 (.inr (.inl rfl)), fun h => ?_, fun h => ?_⟩
    · have hne : L ≠ [] := fun e => h (by subst e; simp [setW, mix, sH, sF, joinW])
      exact ((ownsRow_below (unhide Hrow hne).2 hb1)).kept hg2 (or_ne (by simp [Value.ownBlock]; omega))
    · have hne : rs ≠ [] := fun e => h (by subst e; rfl)
      have := hr2 hne
      rw [hsp0] at this
      rw [hSl]; exact this
  clear hg2 hr2 k1 hrow
  go_wp2
  go_loopw [6] (fun i wr => ∃ k : Nat, k ≤ L.length ∧ i = .int .i64 (k * s : Nat) ∧ Hid (StI W1 gw gr N2 (L.length * s) cw cr (setW hs fs L k) (sR fs L rs) wr)) (fun i _ => L.length * s - (intOf i).toNat)
  case atStart => exact ⟨0, Nat.zero_le _, by simp, HI⟩
  case round =>
    clear HI
    obtain ⟨k, hk, rfl, HI⟩ := hrel
    have hgr := (unhide HI).g
    have k0r := hgr.cell (fun e => hw0 e.symm) (fun e => hr0 e.symm) (unhide K0)
    have hT : L.length * s ≤ 256 := by
      have h7 := ((unhide Hu).map (unhide HO).rng).all
      have h8 := (unhide HO).tot_le
      rw [h7, List.length_map] at h8
      omega
    have hsz := hgr.size
    have hlr : w.heap.size < wr.heap.size := by omega
    by_cases hlt : k < L.length
    · obtain ⟨j, y, hLk, hj, hy, hy1, hy2, hat, hset, hsub, hspl⟩ := setW_at (unhide HA).fit (unhide Hu) (unhide HO) hlt
      have hq : (k + 1) * s ≤ L.length * s := Nat.mul_le_mul_right s hlt
      rw [Nat.succ_mul] at hq
      have hwl := setW_len (hs := hs) (unhide Hu) (unhide HO) (k := k) hk
      have hne : L ≠ [] := by intro e; subst e; simp at hlt
      have hwne : setW hs fs L k ≠ [] := by intro e; rw [e] at hwl; simp at hwl; omega
      have haw := (unhide Hrow hne).1
      have hrow := (unhide HI).row hwne
      obtain ⟨hx, hxf⟩ := own_cell hrow hat
      have hgw : gw < wr.heap.size := World.block_lt_of_cell? wr _ hx
      have hrx := reh_ok true y
      have Hnx : Hid ((k + 1) * s = k * s + s) := Nat.succ_mul k s
      have hkT : k * s < L.length * s := by omega
      have Hrx := hide hrx
      have Huy := hide (uhL_wlen hy1)
      subst haw
      generalize hqe : k * s = q at *
      generalize hTe : L.length * s = T at *
      generalize reh true y = x at *
      have hqI : (q : Int) < (T : Int) := by omega
      have Hc2 := hide (fheader_c x wr hrx.2.2.2.2.1 hrx.2.2.2.2.2)
      have Hset := hide hset
      have Hsub := hide hsub
      have Hspl := hide hspl
      have Hhw : Hid (headW (uhL x) false (uhA x) = reh false y) := by show _ = _; rw [hrx.2.1, hrx.2.2.2.1]; rfl
      have Hwl := hide hwl
      have HL1 := hide (hrx.2.1.trans (uhL_wlen hy1))
      clear hat hset hsub hspl hrx hrow hwl
      go_wp2_with fail
      refine (unhide Hc2).mono ?_
      rintro e w3 ⟨rfl, hb3⟩
      go_upto_region 7 with fail
      have hs3 := hb3.size
      have hb3' : Below wr.heap.size wr (w3.alloc (.cells #[.int .i64 (uhL x), .bool false, .int .i64 (uhA x)] 32)) := hb3.alloc hs3 _
      have HX := hide ((unhide HI).below hb3')
      have h0X : (w3.alloc (.cells #[.int .i64 (uhL x), .bool false, .int .i64 (uhA x)] 32)).cell? ⟨w3.heap.size, 0, none⟩ = some (.int .i64 (uhL x)) := by simp [go_sem]
      have h1X : (w3.alloc (.cells #[.int .i64 (uhL x), .bool false, .int .i64 (uhA x)] 32)).cell? ⟨w3.heap.size, 1, none⟩ = some (.bool false) := by simp [go_sem]
      have h2X : (w3.alloc (.cells #[.int .i64 (uhL x), .bool false, .int .i64 (uhA x)] 32)).cell? ⟨w3.heap.size, 2, none⟩ = some (.int .i64 (uhA x)) := by simp [go_sem]
      have k0X := (hb3'.cell (p := ⟨w.heap.size, 0, none⟩) hlr).trans k0r
      have xX := (hb3'.cell (p := ⟨gw, q, none⟩) hgw).trans hx
      have zX := (hb3'.frozen (p := ⟨gw, q, none⟩) hgw).trans hxf
      have hlX : w3.heap.size < (w3.alloc (.cells #[.int .i64 (uhL x), .bool false, .int .i64 (uhA x)] 32)).heap.size := by simp
      have hhw : w3.heap.size ≠ gw := by omega
      generalize w3.alloc (.cells #[.int .i64 (uhL x), .bool false, .int .i64 (uhA x)] 32) = X at *
      have hgX : gw < X.heap.size := by omega
      have hkX : w.heap.size < X.heap.size := by omega
      have hdr : Below X.heap.size X X.drew := (Below.refl _ _).drew
      generalize w3.heap.size = hd at *
      have Hc3 := hide (fun W => head_c (uhL x) (uhA x) false W)
      clear hx hxf k0r k0 Hc2 hb3 hb3' HI hs3
      generalize uhL x = xl at *
      generalize uhA x = xa at *
      generalize uhM x = xm at *
      go_cut [27] from 27 to 35 (fun s27 wx => Hid (StI W1 gw gr N2 T cw cr ((setW hs fs L k).set q (headW xl false xa)) (sR fs L rs) wx) ∧ wx.cell? ⟨hd, 0, none⟩ = some (.int .i64 xl) ∧ X.heap.size ≤ wx.heap.size)
      case first =>
        go_region_with (go_at_call 41; go_must (refine (unhide Hc3 _).mono ?_); go_must (rintro e w6 ⟨he, hb6⟩; subst he; have hb6' := hdr.trans hb6; have k06 := (hb6'.cell (p := ⟨w.heap.size, 0, none⟩) hkX).trans k0X; have x6 := (hb6'.cell (p := ⟨gw, q, none⟩) hgX).trans xX; have z6 := (hb6'.frozen (p := ⟨gw, q, none⟩) hgX).trans zX))
        all_goals
          go_wp2_with fail
          go_meet
          case rel =>
            have hst := (unhide HX).below hb6'
            have hsz6 := hb6'.size
            refine ⟨hide (hst.grown (grown_set w6 gw q (.int .u64 (headW xl false xa))) hwr (fun _ => own_set (hst.row hwne) q _)), ?_, by simp [World.setCell]; exact hsz6⟩
            rw [World.cell?_setCell_other _ _ _ _ (by simp [hhw.symm])]
            exact (hb6'.cell (p := ⟨hd, 0, none⟩) hlX).trans h0X
      case rest =>
      obtain ⟨Hcc, h0c, hsc⟩ := hcut
      rw [unhide Hhw] at Hcc
      have Hcg := (unhide Hcc).g
      have k0c := Hcg.cell (fun e => hw0 e.symm) (fun e => hr0 e.symm) (unhide K0)
      have hlc : w.heap.size < wc.heap.size := by omega
      have hdc : hd < wc.heap.size := by omega
      have hwl' : ((setW hs fs L k).set q (reh false y)).length = T := by rw [List.length_set]; exact unhide Hwl
      have hrowc := (unhide Hcc).row (by intro e; rw [e] at hwl'; simp at hwl'; omega)
      have hpbc := Hcg.cell hpw hpr (unhide Hpb1)
      have hMc := (unhide HM1).gb2 Hcg hmw hmr
      have hfl := (unhide Hu).len hj
      obtain rfl : xl = ((fs[j].length : Nat) : Int) := by rw [unhide HL1]; omega
      have hwlw : IntKind.i64.wrap ((q : Int) + 1) = (q : Int) + 1 := by rw [IntKind.wrap_i64]; omega
      have hwls : IntKind.i64.wrap ((q : Int) + (s : Int)) = (q : Int) + (s : Int) := by rw [IntKind.wrap_i64]; omega
      have Hct : Hid (∀ (a : Option Addr) (cap : Nat), (fs[j].length ≠ 0 → a = some ⟨gw, q + 1, none⟩) → Calls Try.prog 40 #[.slice a (fs[j].length : Nat) cap, .func (.func 42) #[] #[.pointer (some ⟨pb, 0, none⟩)]] wc.drew fun e w' => ∃ v, e = .returned v ∧ v = .tuple #[] ∧ StI W1 gw gr N2 T cw cr (setW hs fs L (k + 1)) (sR fs L rs) w') := by
        intro a cap ha
        have hbd : Below wc.heap.size wc wc.drew := (Below.refl _ _).drew
        refine (tpart_c a cap fs[j] fs L s p N N2 mb pb t gw (q + 1) T cw _ wc.drew ((unhide HA).uf _ (List.getElem_mem hj)) ((unhide HA).okf _ (List.getElem_mem hj)) (unhide Hu) (unhide HO) hpbc (hMc.below hbd) (fun j' h => unhide Hin j j' hj (by rw [← hLk]; exact List.getElem_mem hlt) h) (unhide Hown) h256 hpw hmw (by omega) (ownsRow_below hrowc hbd) (fun h => ha (fun e => h (List.eq_nil_of_length_eq_zero e))) (unhide Hsub)).mono ?_
        rintro e w' ⟨rfl, hg, hr⟩
        rw [unhide Hspl] at hr
        exact ⟨_, rfl, rfl, ((unhide Hcc).below hbd).grown hg hwr (fun _ => hr)⟩
      clear Hsub Hspl Hset Hcc HX HA Hu HO Hin Hown Hrow Hc3 hrowc hpbc hMc Hcg k0X h0X h1X h2X xX zX Hpb1 HM1 Hwl Hhw HL1 Huy Hrx
      generalize hfe : fs[j].length = fl at *
      have hsl : (0 : Int) ≤ (q : Int) + 1 ∧ (q : Int) + 1 ≤ (T : Int) := by omega
      by_cases hcp : cw = q + 1
      · obtain rfl : fl = 0 := by omega
        subst hcp
        go_upto_region 8 with fail
        go_region_law (refine step_call_w (by rfl) 40 #[.slice (some ⟨gw, 0, none⟩) 0 (0), .func (.func 42) #[] #[.pointer (some ⟨pb, 0, none⟩)]] (by go_simp) (fun v w' => v = .tuple #[] ∧ StI W1 gw gr N2 T (q + 1) cr (setW hs fs L (k + 1)) (sR fs L rs) w') (unhide Hct (some ⟨gw, 0, none⟩) (0) (fun h => absurd rfl h)) ?_; rintro vT w9 ⟨rfl, hF9⟩; have H9 := hide hF9)
        all_goals
          clear hF9
          go_wp2
          go_roundw
          case rel => exact ⟨k + 1, by omega, by rw [unhide Hnx]; go_num, H9⟩
          case measure => simp [intOf]; omega
      · have hcp1 : q + 1 < cw := by omega
        have hsl2 : (0 : Int) ≤ (fl : Int) ∧ (fl : Int) ≤ ((cw - (q + 1) : Nat) : Int) := by omega
        have hsl3 : (fl : Int) ≤ ((cw - (q + 1) : Nat) : Int) := by omega
        have hsl4 : fl ≤ cw - (q + 1) := by omega
        go_upto_region 8 with fail
        go_region_law (refine step_call_w (by rfl) 40 #[.slice (some ⟨gw, q + 1, none⟩) (fl : Nat) (cw - (q + 1)), .func (.func 42) #[] #[.pointer (some ⟨pb, 0, none⟩)]] (by go_simp) (fun v w' => v = .tuple #[] ∧ StI W1 gw gr N2 T cw cr (setW hs fs L (k + 1)) (sR fs L rs) w') (unhide Hct (some ⟨gw, q + 1, none⟩) (cw - (q + 1)) (fun _ => rfl)) ?_; rintro vT w9 ⟨rfl, hF9⟩; have H9 := hide hF9)
        all_goals
          clear hF9
          go_wp2
          go_roundw
          case rel => exact ⟨k + 1, by omega, by rw [unhide Hnx]; go_num, H9⟩
          case measure => simp [intOf]; omega
    · obtain rfl : k = L.length := by omega
      have hfin := unhide HI
      have HF : Hid (StI w gw gr N2 (L.length * s) cw cr (setW hs fs L L.length) (sR fs L rs) wr) := ⟨⟨hfin.g.os.trans hb1.os, hfin.g.tape.trans hb1.tape, hfin.g.output.trans hb1.output, by have := hfin.g.size; omega, fun k h1 h2 h3 => (hfin.g.block k (by omega) h2 h3).trans (hb1.block k h1)⟩, hfin.row, hfin.roots⟩
      clear hfin HI
      generalize hTe : L.length * s = T at *
      go_wp2
      exact bodyPost_end (v := .tuple #[]) (results_none rfl _ _ _) rfl ⟨rfl, by rw [hTe]; exact unhide HF⟩

end Go.Proofs.Ytemjhdbmcdlpeaa

/- Walks: Mark, in memory of its own. -/
namespace Go.Proofs.Ytemjhdbmcdlpeaa
set_option linter.unusedSimpArgs false
set_option linter.unusedVariables false
open Go.RowKit Go.Shelf

/-- What Mark tells of an arena that may be, and a room that may be: its words and its roots lie each in a row of its own. -/
def MrkOwn (N : Nat) (ws rs : List Int) (e : Ending) (W : World) : Prop :=
  ∃ hs fs p a c a' c', Arn hs fs rs ∧ ws = joinW hs fs ∧ (∀ j, p j = true ↔ Rch fs rs j) ∧ e = .returned (.tuple #[.agg #[.slice a (mW hs fs p).length c, .slice a' rs.length c'], .int .i64 0]) ∧
    W.ownsRow N 56 1 (.slice a (mW hs fs p).length c) (mW hs fs p).length (wordsV (mW hs fs p)) ∧ W.ownsRow N 56 1 (.slice a' rs.length c') rs.length (wordsV rs) ∧ ∀ k, (Value.slice a (mW hs fs p).length c).ownBlock = some k → (Value.slice a' rs.length c').ownBlock ≠ some k

/-- What Mark tells. -/
def MrkResO (N : Nat) (ws rs : List Int) (room : Int) (e : Ending) (W : World) : Prop :=
  (arenaE ws rs ≠ 0 ∧ e = .returned (.tuple #[.agg #[.slice none 0 0, .slice none 0 0], .int .i64 (arenaE ws rs)])) ∨
  (arenaE ws rs = 0 ∧ (room < 1 ∨ 64 < room) ∧ e = .returned (.tuple #[.agg #[.slice none 0 0, .slice none 0 0], .int .i64 3])) ∨
  (arenaE ws rs = 0 ∧ 1 ≤ room ∧ room ≤ 64 ∧ MrkOwn N ws rs e W)

set_option maxRecDepth 100000 in
set_option maxHeartbeats 2000000 in
theorem markO_c (aw ar : Option Addr) (cw cr : Nat) (ws rs : List Int) (room : Int) (B : Nat) (w : World) (hW : Wds B w aw ws) (hR : Wds B w ar rs) (hUW : U64 ws) (hUR : U64 rs) (hB : B ≤ w.heap.size) (hcap : ws.length ≤ cw) :
    Calls Try.prog 19 #[.agg #[.slice aw ws.length cw, .slice ar rs.length cr], .int .i64 room] w fun e w' => MrkResO w.heap.size ws rs room e w' ∧ Below w.heap.size w w' := by
  obtain ⟨W1, hW1⟩ : ∃ W1, (w.alloc (.cells #[.slice aw ws.length cw, .slice ar rs.length cr] 24)).alloc (.cells #[.slice none 0 0, .slice none 0 0] 24) = W1 := ⟨_, rfl⟩
  have hb1 : Below w.heap.size w W1 := by rw [← hW1]; exact ((Below.refl w.heap.size w).alloc (Nat.le_refl _) _).alloc (by simp) _
  have hs1 : w.heap.size + 1 < W1.heap.size := by rw [← hW1]; simp
  have g0 : W1.cell? ⟨w.heap.size, 0, none⟩ = some (.slice aw ws.length cw) := by rw [← hW1]; simp [go_sem]
  have g1 : W1.cell? ⟨w.heap.size, 1, none⟩ = some (.slice ar rs.length cr) := by rw [← hW1]; simp [go_sem]
  have r0 : W1.cell? ⟨w.heap.size + 1, 0, none⟩ = some (.slice none 0 0) := by rw [← hW1]; simp [go_sem]
  have r1 : W1.cell? ⟨w.heap.size + 1, 1, none⟩ = some (.slice none 0 0) := by rw [← hW1]; simp [go_sem]
  have z0 : W1.frozen? ⟨w.heap.size + 1, 0, none⟩ = false := by rw [← hW1]; simp [go_sem]
  have z1 : W1.frozen? ⟨w.heap.size + 1, 1, none⟩ = false := by rw [← hW1]; simp [go_sem]
  have Hc1 := hide (acheck_c aw ar cw cr ws rs B W1 (hW.below (hb1.mono hB)) (hR.below (hb1.mono hB)) hUW hUR (by omega) hcap)
  go_enter Try.func19, Try.ntmps19
  go_wp2_with fail
  refine (unhide Hc1).mono ?_
  rintro e w2 ⟨rfl, hb2⟩
  clear hW1 Hc1
  have hs2 := hb2.size
  have hbw2 : Below w.heap.size w w2 := hb1.trans (hb2.mono (by omega))
  replace g0 := (hb2.cell (p := ⟨w.heap.size, 0, none⟩) (by simp; omega)).trans g0
  replace g1 := (hb2.cell (p := ⟨w.heap.size, 1, none⟩) (by simp; omega)).trans g1
  replace r0 := (hb2.cell (p := ⟨w.heap.size + 1, 0, none⟩) hs1).trans r0
  replace r1 := (hb2.cell (p := ⟨w.heap.size + 1, 1, none⟩) hs1).trans r1
  replace z0 := (hb2.frozen (p := ⟨w.heap.size + 1, 0, none⟩) hs1).trans z0
  replace z1 := (hb2.frozen (p := ⟨w.heap.size + 1, 1, none⟩) hs1).trans z1
  have hl2 : w.heap.size + 1 < w2.heap.size := by omega
  have hl2' : w.heap.size < w2.heap.size := by omega
  clear hb1 hb2
  by_cases hE : arenaE ws rs = 0
  · by_cases hr : room < 1 ∨ 64 < room
    · have HE := hide hE
      have Hr := hide hr
      rw [hE]
      have hfin : Hid (∀ W, Below w.heap.size w W → MrkResO w.heap.size ws rs room (.returned (.tuple #[.agg #[.slice none 0 0, .slice none 0 0], .int .i64 3])) W ∧ Below w.heap.size w W) := fun W h => ⟨.inr (.inl ⟨unhide HE, unhide Hr, rfl⟩), h⟩
      clear hE
      rcases hr with hr | hr
      · have d1 : decide (room < 1) = true := by simpa using hr
        go_wp2
        refine bodyPost_ret (v := .tuple #[.agg #[.slice none 0 0, .slice none 0 0], .int .i64 3]) (by simp [results, Try.results19, go_sem, r0, r1]) rfl (unhide hfin _ ((hbw2.setCell (p := ⟨w.heap.size + 1, 0, none⟩) (by simp) _).setCell (p := ⟨w.heap.size + 1, 1, none⟩) (by simp) _))
      · have d1 : decide (room < 1) = false := by simp; omega
        have d2 : decide (room > 64) = true := by simp; omega
        have d3 : decide (64 < room) = true := by simp; omega
        go_wp2
        refine bodyPost_ret (v := .tuple #[.agg #[.slice none 0 0, .slice none 0 0], .int .i64 3]) (by simp [results, Try.results19, go_sem, r0, r1]) rfl (unhide hfin _ ((hbw2.setCell (p := ⟨w.heap.size + 1, 0, none⟩) (by simp) _).setCell (p := ⟨w.heap.size + 1, 1, none⟩) (by simp) _))
    · obtain ⟨rN, rfl⟩ := Int.eq_ofNat_of_zero_le (show 0 ≤ room by omega)
      have hr1 : 1 ≤ rN := by omega
      have hr2 : rN ≤ 64 := by omega
      obtain ⟨hs, fs, hA, hws⟩ := arn_of hUW hUR hE
      have hjl : tot fs = ws.length := by rw [hws, joinW_len _ _ hA.fit.len]
      have HA := hide hA
      have Hws := hide hws
      have HE := hide hE
      rw [hE]
      have Hc2 : Hid (Calls Try.prog 37 #[.agg #[.slice aw ws.length cw, .slice ar rs.length cr], .int .i64 (rN : Nat)] w2 fun e w' => NmRes w2.heap.size hs fs rs rN e w' ∧ Below w2.heap.size w2 w') := by
        have := newMarker_c aw ar cw cr hs fs rs rN w2 hA hr1 hr2 (by rw [← hws]; exact (hW.below (hbw2.mono hB)).mono (by omega)) ((hR.below (hbw2.mono hB)).mono (by omega))
        rw [hjl] at this
        exact this
      have d1 : decide ((rN : Int) < 1) = false := by simp; omega
      have d2 : decide ((rN : Int) > 64) = false := by simp; omega
      have d3 : decide (64 < (rN : Int)) = false := by simp; omega
      clear hE hr hA hws hjl
      go_wp2_with fail
      refine (unhide Hc2).mono ?_
      rintro e w3 ⟨⟨mb, vw, vr, he, hM3⟩, hb3⟩
      subst he
      have Hc3 := hide (markAll_c hs fs rs w2.heap.size mb vw vr rN w3 hM3 (unhide HA) hr1 hr2)
      clear hM3 Hc2
      go_wp2_with fail
      refine (unhide Hc3).mono ?_
      rintro e w4 ⟨⟨he, p, ⟨vk, hM4⟩, hp4⟩, hb4, _⟩
      subst he
      have hs3 := hb3.size
      have hs4 := hb4.size
      have hb34 : Below w2.heap.size w2 w4 := hb3.trans hb4
      have hbw4 : Below w.heap.size w w4 := hbw2.trans (hb34.mono (by omega))
      replace r0 := (hb34.cell (p := ⟨w.heap.size + 1, 0, none⟩) hl2).trans r0
      replace r1 := (hb34.cell (p := ⟨w.heap.size + 1, 1, none⟩) hl2).trans r1
      replace z0 := (hb34.frozen (p := ⟨w.heap.size + 1, 0, none⟩) hl2).trans z0
      replace z1 := (hb34.frozen (p := ⟨w.heap.size + 1, 1, none⟩) hl2).trans z1
      have hml := mW_len (unhide HA).fit p
      obtain ⟨wa, wc, hvw, hWw, hwc, hwn⟩ := row_wds (mb := 0) (u := .bool true) (off := 0) hM4.wo (by rw [hml]; exact (unhide HA).n256) (by omega)
      obtain ⟨ra, rc, hvr, hWr, _, hrn⟩ := row_wds (mb := 0) (u := .bool true) (off := 0) hM4.ro (by have := (unhide HA).n8; omega) (by omega)
      subst hvw hvr
      have q0 := hM4.box.c0
      have q1 := hM4.box.c1
      have hlm := hM4.box.lt
      have hl4 : w.heap.size + 1 < w4.heap.size := by omega
      have hmb : w2.heap.size ≤ mb := hM4.lo
      have Hfin : Hid (∀ W, W = (w4.setCell ⟨w.heap.size + 1, 0, none⟩ (.slice wa (mW hs fs p).length wc)).setCell ⟨w.heap.size + 1, 1, none⟩ (.slice ra rs.length rc) → MrkResO w.heap.size ws rs (rN : Int) (.returned (.tuple #[.agg #[.slice wa (mW hs fs p).length wc, .slice ra rs.length rc], .int .i64 0])) W ∧ Below w.heap.size w W) := fun W h => by
        subst h
        have hsz : ((w4.setCell ⟨w.heap.size + 1, 0, none⟩ (.slice wa (mW hs fs p).length wc)).setCell ⟨w.heap.size + 1, 1, none⟩ (.slice ra rs.length rc)).heap.size = w4.heap.size := by simp [World.setCell]
        have hwo := Joins.ownsRow_le (base' := w.heap.size) (ownsRow_setCell_below (ownsRow_setCell_below hM4.wo (a := ⟨w.heap.size + 1, 0, none⟩) (by show w.heap.size + 1 < _; omega) (.slice wa (mW hs fs p).length wc)) (a := ⟨w.heap.size + 1, 1, none⟩) (by show w.heap.size + 1 < _; omega) (.slice ra rs.length rc)) (by omega)
        have hro := Joins.ownsRow_le (base' := w.heap.size) (ownsRow_setCell_below (ownsRow_setCell_below hM4.ro (a := ⟨w.heap.size + 1, 0, none⟩) (by show w.heap.size + 1 < _; omega) (.slice wa (mW hs fs p).length wc)) (a := ⟨w.heap.size + 1, 1, none⟩) (by show w.heap.size + 1 < _; omega) (.slice ra rs.length rc)) (by omega)
        exact ⟨.inr (.inr ⟨unhide HE, by omega, by omega, hs, fs, p, wa, wc, ra, rc, unhide HA, unhide Hws, hp4, rfl, hwo, hro, hM4.wr⟩), (hbw4.setCell (p := ⟨w.heap.size + 1, 0, none⟩) (by simp) _).setCell (p := ⟨w.heap.size + 1, 1, none⟩) (by simp) _⟩
      clear hM4 hp4 hml hWw hWr hwn hrn Hc3 hb3 hb4 hb34 hwc
      generalize (mW hs fs p).length = n at *
      go_wp2
      exact bodyPost_ret (v := .tuple #[.agg #[.slice wa n wc, .slice ra rs.length rc], .int .i64 0]) (by simp [results, Try.results19, go_sem, r0, r1]) rfl (unhide Hfin _ rfl)
  · have HE := hide hE
    have hfin : Hid (∀ W, Below w.heap.size w W → MrkResO w.heap.size ws rs room (.returned (.tuple #[.agg #[.slice none 0 0, .slice none 0 0], .int .i64 (arenaE ws rs)])) W ∧ Below w.heap.size w W) := fun W h => ⟨.inl ⟨unhide HE, rfl⟩, h⟩
    generalize arenaE ws rs = E at *
    have d0 : (E != 0) = true := by simpa using hE
    clear hE
    go_wp2
    refine bodyPost_ret (v := .tuple #[.agg #[.slice none 0 0, .slice none 0 0], .int .i64 E]) (by simp [results, Try.results19, go_sem, r0, r1]) rfl (unhide hfin _ ((hbw2.setCell (p := ⟨w.heap.size + 1, 0, none⟩) (by simp) _).setCell (p := ⟨w.heap.size + 1, 1, none⟩) (by simp) _))

end Go.Proofs.Ytemjhdbmcdlpeaa

/- Walks: Squeeze. -/
namespace Go.Proofs.Ytemjhdbmcdlpeaa
set_option linter.unusedSimpArgs false
set_option linter.unusedVariables false
open Go.RowKit Go.Shelf

/-- The words of the arena whose holes are filled. -/
def fuL (hs : List Int) (fs : List (List Int)) (rs : List Int) : List Int := joinW (sH hs (fgL (rL fs rs))) (sF fs (fgL (rL fs rs)))
def fuR (fs : List (List Int)) (rs : List Int) : List Int := sR fs (fgL (rL fs rs)) rs

/-- What Squeeze tells. -/
def SqRes (base : Nat) (ws rs : List Int) (F : Int) (e : Ending) (W : World) : Prop :=
  (arenaE ws rs ≠ 0 ∧ e = .returned (.tuple #[.agg #[.slice none 0 0, .slice none 0 0], .int .i64 0, .int .i64 (arenaE ws rs)])) ∨
  (arenaE ws rs = 0 ∧ (F < 0 ∨ 4 < F) ∧ e = .returned (.tuple #[.agg #[.slice none 0 0, .slice none 0 0], .int .i64 0, .int .i64 3])) ∨
  (arenaE ws rs = 0 ∧ 0 ≤ F ∧ F ≤ 4 ∧ ∃ hs fs, Arn hs fs rs ∧ ws = joinW hs fs ∧
    ((¬ Unif (F.toNat + 1) fs ∧ e = .returned (.tuple #[.agg #[.slice none 0 0, .slice none 0 0], .int .i64 0, .int .i64 4])) ∨
     (Unif (F.toNat + 1) fs ∧ ∃ a c a' c', e = .returned (.tuple #[.agg #[.slice a (fuL hs fs rs).length c, .slice a' rs.length c'], .int .i64 (fgT (rL fs rs) : Nat), .int .i64 0]) ∧ WdsF base W a (fuL hs fs rs) ∧ (fuL hs fs rs).length ≤ c ∧ WdsF base W a' (fuR fs rs))))

theorem turner_c (mb : Nat) (w : World) : Calls Try.prog 24 #[.map (some mb)] w fun e w' => e = .returned (.func (.func 42) #[] #[.pointer (some ⟨w.heap.size, 0, none⟩)]) ∧ w' = w.alloc (.cells #[.map (some mb)] 52) := by
  go_enter Try.func24, Try.ntmps24
  go_wp2
  go_ret
  exact ⟨rfl, rfl⟩

theorem own_pick {W : World} {N n c : Nat} {a : Option Addr} {ws : List Int} (h : W.ownsRow N 56 1 (.slice a n c) n (wordsV ws)) (M : Nat) : ∃ g, (n ≠ 0 → a = some ⟨g, 0, none⟩ ∧ N ≤ g ∧ g < W.heap.size) ∧ (n = 0 → g = M) ∧ n ≤ c ∧ (a = none → c = 0) := by
  have hnc : n ≤ c ∧ (a = none → c = 0) := by
    rcases h.2 with ⟨hv, h0⟩ | ⟨g, cap, cur, hv, _, _, h1, _⟩
    · injection hv with e1 _ e3; subst e1 e3; exact ⟨by omega, fun _ => rfl⟩
    · injection hv with e1 _ e3; subst e1 e3; exact ⟨h1, fun e => by cases e⟩
  by_cases hn : n = 0
  · exact ⟨M, fun h => absurd hn h, fun _ => rfl, hnc⟩
  · obtain ⟨g, cap, hv⟩ := Joins.ownsRow_form h (by omega)
    injection hv with e1 _ e3
    subst e1 e3
    have := h.lt g rfl
    exact ⟨g, fun _ => ⟨rfl, this⟩, fun e => absurd e hn, hnc⟩

set_option maxRecDepth 100000 in
set_option maxHeartbeats 4000000 in
theorem squeeze_c (aw ar : Option Addr) (cw cr : Nat) (ws rs : List Int) (F : Int) (B : Nat) (w : World) (hW : Wds B w aw ws) (hR : Wds B w ar rs) (hUW : U64 ws) (hUR : U64 rs) (hB : B ≤ w.heap.size) (hcap : ws.length ≤ cw) :
    Calls Try.prog 6 #[.agg #[.slice aw ws.length cw, .slice ar rs.length cr], .int .i64 F] w fun e w' => SqRes w.heap.size ws rs F e w' ∧ Below w.heap.size w w' := by
  obtain ⟨W0, hW0⟩ : ∃ W0, (w.alloc (.cells #[.slice aw ws.length cw, .slice ar rs.length cr] 24)).alloc (.cells #[.slice none 0 0, .slice none 0 0] 24) = W0 := ⟨_, rfl⟩
  have hb0 : Below w.heap.size w W0 := by rw [← hW0]; exact ((Below.refl w.heap.size w).alloc (Nat.le_refl _) _).alloc (by simp) _
  have hs0 : w.heap.size + 1 < W0.heap.size := by rw [← hW0]; simp
  have g0 : W0.cell? ⟨w.heap.size, 0, none⟩ = some (.slice aw ws.length cw) := by rw [← hW0]; simp [go_sem]
  have g1 : W0.cell? ⟨w.heap.size, 1, none⟩ = some (.slice ar rs.length cr) := by rw [← hW0]; simp [go_sem]
  have r0 : W0.cell? ⟨w.heap.size + 1, 0, none⟩ = some (.slice none 0 0) := by rw [← hW0]; simp [go_sem]
  have r1 : W0.cell? ⟨w.heap.size + 1, 1, none⟩ = some (.slice none 0 0) := by rw [← hW0]; simp [go_sem]
  have z0 : W0.frozen? ⟨w.heap.size + 1, 0, none⟩ = false := by rw [← hW0]; simp [go_sem]
  have z1 : W0.frozen? ⟨w.heap.size + 1, 1, none⟩ = false := by rw [← hW0]; simp [go_sem]
  have Hc1 := hide (markO_c aw ar cw cr ws rs 64 B W0 (hW.below (hb0.mono hB)) (hR.below (hb0.mono hB)) hUW hUR (by omega) hcap)
  clear hW hR hUW hUR hcap
  go_enter Try.func6, Try.ntmps6
  go_wp2_with fail
  refine (unhide Hc1).mono ?_
  rintro e w1 ⟨hres, hb1⟩
  clear hW0 Hc1
  have hs1 := hb1.size
  replace g0 := (hb1.cell (p := ⟨w.heap.size, 0, none⟩) (by simp; omega)).trans g0
  replace g1 := (hb1.cell (p := ⟨w.heap.size, 1, none⟩) (by simp; omega)).trans g1
  replace r0 := (hb1.cell (p := ⟨w.heap.size + 1, 0, none⟩) hs0).trans r0
  replace r1 := (hb1.cell (p := ⟨w.heap.size + 1, 1, none⟩) hs0).trans r1
  replace z0 := (hb1.frozen (p := ⟨w.heap.size + 1, 0, none⟩) hs0).trans z0
  replace z1 := (hb1.frozen (p := ⟨w.heap.size + 1, 1, none⟩) hs0).trans z1
  have hbw1 : Below w.heap.size w w1 := hb0.trans (hb1.mono (by omega))
  have hl1 : w.heap.size + 1 < w1.heap.size := by omega
  have hl1' : w.heap.size < w1.heap.size := by omega
  clear hb0 hb1
  rcases hres with ⟨hE, he⟩ | ⟨_, hr, _⟩ | ⟨hE, _, _, hs, fs, p, a, c, a', c', hA, hws, hp, he, hWo, hRo, hapart⟩
  · subst he
    have HE := hide hE
    have dE : (arenaE ws rs != 0) = true := by simpa using hE
    clear hE
    generalize hEe : arenaE ws rs = E at *
    have HEe := hide hEe
    clear hEe
    have Hrd : Hid (∀ o, ((((w1.setCell ⟨w.heap.size + 1, 0, none⟩ (.slice none 0 0)).setCell ⟨w.heap.size + 1, 1, none⟩ (.slice none 0 0)).alloc o).cell? ⟨w.heap.size + 1, 0, none⟩ = some (.slice none 0 0)) ∧ ((((w1.setCell ⟨w.heap.size + 1, 0, none⟩ (.slice none 0 0)).setCell ⟨w.heap.size + 1, 1, none⟩ (.slice none 0 0)).alloc o).cell? ⟨w.heap.size + 1, 1, none⟩ = some (.slice none 0 0))) := fun o => by
      have hl : w.heap.size + 1 < ((w1.setCell ⟨w.heap.size + 1, 0, none⟩ (.slice none 0 0)).setCell ⟨w.heap.size + 1, 1, none⟩ (.slice none 0 0)).heap.size := by simp [World.setCell]; exact hl1
      have hb := (Below.refl ((w1.setCell ⟨w.heap.size + 1, 0, none⟩ (.slice none 0 0)).setCell ⟨w.heap.size + 1, 1, none⟩ (.slice none 0 0)).heap.size _).alloc (Nat.le_refl _) o
      refine ⟨(hb.cell (p := ⟨w.heap.size + 1, 0, none⟩) hl).trans (by simp [go_sem, r0, r1]), (hb.cell (p := ⟨w.heap.size + 1, 1, none⟩) hl).trans (by simp [go_sem, r0, r1])⟩
    go_wp2
    have h0 := (unhide Hrd (.cells #[.slice none 0 0, .slice none 0 0] 24)).1
    have h1 := (unhide Hrd (.cells #[.slice none 0 0, .slice none 0 0] 24)).2
    refine bodyPost_ret (v := .tuple #[.agg #[.slice none 0 0, .slice none 0 0], .int .i64 0, .int .i64 E]) (by simp [results, Try.results6, go_sem, h0, h1]) rfl ?_
    refine ⟨.inl ⟨by rw [unhide HEe]; exact unhide HE, by rw [unhide HEe]⟩, ?_⟩
    exact ((hbw1.setCell (p := ⟨w.heap.size + 1, 0, none⟩) (by simp) _).setCell (p := ⟨w.heap.size + 1, 1, none⟩) (by simp) _).alloc (by simp [World.setCell]; omega) _
  · exact absurd hr (by omega)
  · subst he
    have hml := mW_len hA.fit p
    have h256 := hA.n256
    have Hac := hide (fun (W : World) (N s : Nat) (a : Option Addr) (cap : Nat) (h1 : s ≤ 5) (h2 : Wds N W a (mW hs fs p)) (h3 : N ≤ W.heap.size) => allHave_c a cap hs fs p s N W hA.fit h256 h1 h2 h3)
    have Htl : Hid (fs.length ≤ tot fs) := tot_len fs
    have Hua : Hid (∀ s, Unif s fs → tot fs = fs.length * s) := fun s h => h.all
    have Hfc := hide (fun (w : World) (s gw N2 T : Nat) (a : Option Addr) (cw : Nat) => fill_c a cw hs fs p s gw N2 T w hA.fit)
    rw [hml] at hWo hapart ⊢
    generalize hTe : tot fs = T at *
    have HTe := hide hTe
    have Hml := hide hml
    clear hml hTe
    obtain ⟨W1, hW1⟩ : ∃ W1, w1.alloc (.cells #[.slice a (T : Nat) c, .slice a' rs.length c'] 24) = W1 := ⟨_, rfl⟩
    have hb1 : Below w1.heap.size w1 W1 := by rw [← hW1]; exact (Below.refl _ _).alloc (Nat.le_refl _) _
    have hs1' : w1.heap.size < W1.heap.size := by rw [← hW1]; simp
    have k0 : W1.cell? ⟨w1.heap.size, 0, none⟩ = some (.slice a (T : Nat) c) := by rw [← hW1]; simp [go_sem]
    have k1 : W1.cell? ⟨w1.heap.size, 1, none⟩ = some (.slice a' rs.length c') := by rw [← hW1]; simp [go_sem]
    have hbW1 : Below w.heap.size w W1 := hbw1.trans (hb1.mono (by omega))
    replace r0 := (hb1.cell (p := ⟨w.heap.size + 1, 0, none⟩) hl1).trans r0
    replace r1 := (hb1.cell (p := ⟨w.heap.size + 1, 1, none⟩) hl1).trans r1
    replace z0 := (hb1.frozen (p := ⟨w.heap.size + 1, 0, none⟩) hl1).trans z0
    replace z1 := (hb1.frozen (p := ⟨w.heap.size + 1, 1, none⟩) hl1).trans z1
    have hlW : w.heap.size + 1 < W1.heap.size := by omega
    have HE := hide hE
    have Hws := hide hws
    have HA := hide hA
    have Hp := hide hp
    by_cases hF : F < 0 ∨ 4 < F
    · have Hfin : Hid (∀ W, Below w.heap.size w W → SqRes w.heap.size ws rs F (.returned (.tuple #[.agg #[.slice none 0 0, .slice none 0 0], .int .i64 0, .int .i64 3])) W ∧ Below w.heap.size w W) := fun W h => ⟨.inr (.inl ⟨unhide HE, hF, rfl⟩), h⟩
      clear hE hA hws hp hWo hRo hapart g0 g1 k0 k1
      rcases hF with hF | hF
      · have d1 : decide (F < 0) = true := by simpa using hF
        go_wp2
        refine bodyPost_ret (v := .tuple #[.agg #[.slice none 0 0, .slice none 0 0], .int .i64 0, .int .i64 3]) (by simp [results, Try.results6, go_sem, r0, r1]) rfl (unhide Hfin _ ((hbW1.setCell (p := ⟨w.heap.size + 1, 0, none⟩) (by simp) _).setCell (p := ⟨w.heap.size + 1, 1, none⟩) (by simp) _))
      · have d1 : decide (F < 0) = false := by simp; omega
        have d2 : decide (F > 4) = true := by simp; omega
        have d3 : decide (4 < F) = true := by simp; omega
        go_wp2
        refine bodyPost_ret (v := .tuple #[.agg #[.slice none 0 0, .slice none 0 0], .int .i64 0, .int .i64 3]) (by simp [results, Try.results6, go_sem, r0, r1]) rfl (unhide Hfin _ ((hbW1.setCell (p := ⟨w.heap.size + 1, 0, none⟩) (by simp) _).setCell (p := ⟨w.heap.size + 1, 1, none⟩) (by simp) _))
    · obtain ⟨f, rfl⟩ := Int.eq_ofNat_of_zero_le (show 0 ≤ F by omega)
      have hf4 : f ≤ 4 := by omega
      have d1 : decide ((f : Int) < 0) = false := by simp
      have d2 : decide ((f : Int) > 4) = false := by simp; omega
      have d3 : decide (4 < (f : Int)) = false := by simp; omega
      obtain ⟨s, hsf⟩ : ∃ s, s = f + 1 := ⟨_, rfl⟩
      have hwf : IntKind.i64.wrap (1 + (f : Int)) = (s : Int) := by rw [IntKind.wrap_i64]; omega
      have hs1 : 1 ≤ s := by omega
      have hs5 : s ≤ 5 := by omega
      have Hsf := hide hsf
      clear hsf
      have Hlw := hide (fun k (h : (Value.slice a (T) c).ownBlock = some k) => hWo.lt k h)
      have Hlr := hide (fun k (h : (Value.slice a' rs.length c').ownBlock = some k) => hRo.lt k h)
      have hWo1 := ownsRow_below hWo (hb1.mono (Nat.le_refl _))
      have hRo1 := ownsRow_below hRo (hb1.mono (Nat.le_refl _))
      obtain ⟨a2, c2, hv2, hWds, _⟩ := words_of_owns hWo1 (unhide Hml).symm (by omega)
      injection hv2 with e1 e0 e2
      clear e0
      subst e1
      have Hc2 := hide (unhide Hac W1 W1.heap.size s a c hs5 hWds (Nat.le_refl _))
      have HWo := hide hWo1
      have HRo := hide hRo1
      have Hap := hide hapart
      clear hE hA hws hp hWo hRo hWo1 hRo1 hapart hWds e2 g0 g1
      go_wp2_with fail
      refine (unhide Hc2).mono ?_
      rintro e w2 ⟨⟨b, rfl, hb⟩, hb2⟩
      have Hb := hide hb
      clear hb hW1 Hc2
      have hs2 := hb2.size
      have hbw2 : Below w.heap.size w w2 := hbW1.trans (hb2.mono (by omega))
      replace r0 := (hb2.cell (p := ⟨w.heap.size + 1, 0, none⟩) hlW).trans r0
      replace r1 := (hb2.cell (p := ⟨w.heap.size + 1, 1, none⟩) hlW).trans r1
      replace z0 := (hb2.frozen (p := ⟨w.heap.size + 1, 0, none⟩) hlW).trans z0
      replace z1 := (hb2.frozen (p := ⟨w.heap.size + 1, 1, none⟩) hlW).trans z1
      replace k0 := (hb2.cell (p := ⟨w1.heap.size, 0, none⟩) hs1').trans k0
      replace k1 := (hb2.cell (p := ⟨w1.heap.size, 1, none⟩) hs1').trans k1
      have hl2 : w.heap.size + 1 < w2.heap.size := by omega
      have hl2' : w1.heap.size < w2.heap.size := by omega
      have HWo2 := hide (ownsRow_below (unhide HWo) hb2)
      have HRo2 := hide (ownsRow_below (unhide HRo) hb2)
      clear HWo HRo hb2 hb1 hbW1 hbw1
      cases b
      · have Hfin : Hid (∀ W, Below w.heap.size w W → SqRes w.heap.size ws rs (f : Int) (.returned (.tuple #[.agg #[.slice none 0 0, .slice none 0 0], .int .i64 0, .int .i64 4])) W ∧ Below w.heap.size w W) := fun W h => ⟨.inr (.inr ⟨unhide HE, by omega, by omega, hs, fs, unhide HA, unhide Hws, .inl ⟨by rw [Int.toNat_natCast, ← unhide Hsf]; intro h; exact absurd ((unhide Hb).2 h) (by simp), rfl⟩⟩), h⟩
        clear HE HA Hws Hp HWo2 HRo2 Hap Hb k0 k1
        go_wp2
        refine bodyPost_ret (v := .tuple #[.agg #[.slice none 0 0, .slice none 0 0], .int .i64 0, .int .i64 4]) (by simp [results, Try.results6, go_sem, r0, r1]) rfl (unhide Hfin _ ((hbw2.setCell (p := ⟨w.heap.size + 1, 0, none⟩) (by simp) _).setCell (p := ⟨w.heap.size + 1, 1, none⟩) (by simp) _))
      · have Hu : Hid (Unif s fs) := (unhide Hb).1 rfl
        clear Hb
        have HT := hide (unhide Hua s (unhide Hu))
        obtain ⟨gw, hgw1, hgw2, hgc, hga⟩ := own_pick (unhide HWo2) (w2.heap.size + 1)
        have hgl : T ≠ 0 → gw < w1.heap.size := fun h => (unhide Hlw gw (by rw [(hgw1 h).1]; rfl)).2
        have hgN : W0.heap.size ≤ gw := by
          by_cases h : T = 0
          · rw [hgw2 h]; omega
          · exact (hgw1 h).2.1
        have hgm : gw ≠ w2.heap.size := by
          by_cases h : T = 0
          · rw [hgw2 h]; omega
          · have := hgl h; omega
        have hgk : gw ≠ w1.heap.size := by
          by_cases h : T = 0
          · rw [hgw2 h]; omega
          · have := hgl h; omega
        have Hc4 := hide (unhide Hfc w2 s gw W0.heap.size T a c (unhide Hu) hs1 hs5 (unhide HT) h256 hgc hgm (fun hne => by
          have hn : T ≠ 0 := by
            have h1 := unhide Htl
            have h2 : 0 < fs.length := Nat.pos_of_ne_zero (fun h => hne (List.eq_nil_of_length_eq_zero h))
            omega
          have h := (hgw1 hn).1
          subst h
          exact ⟨rfl, unhide HWo2⟩))
        have hapg : (Value.slice a' rs.length c').ownBlock ≠ some gw := fun e => by
          by_cases h : T = 0
          · have := (unhide Hlr gw e).2; rw [hgw2 h] at this; omega
          · exact unhide Hap gw (by rw [(hgw1 h).1]; rfl) e
        go_wp2_with fail
        refine (unhide Hc4).mono ?_
        rintro e w4 ⟨rfl, hfi⟩
        clear Hc4 Hfc Hac
        have hR := mL_rL (unhide HA) (unhide Hp)
        have hR' := hR
        have hLl := fgP_len (mL p fs.length) (mL p fs.length).length
        have hLm : fgL (rL fs rs) = (fgP (mL p fs.length) (mL p fs.length).length).1 := by rw [← hR]; rfl
        have hTm : fgT (rL fs rs) = (fgP (mL p fs.length) (mL p fs.length).length).2 := by rw [← hR]; rfl
        have hmn := mL_len_le p fs.length
        have hg4 := hfi.g
        have hs4 := hg4.size
        have hbw4 : Below w.heap.size w w4 := ⟨hg4.os.trans hbw2.os, hg4.tape.trans hbw2.tape, hg4.output.trans hbw2.output, by have := hbw2.size; omega, fun k hk => (hg4.block k (by omega) (fun e => by injection e with e; omega)).trans (hbw2.block k hk)⟩
        have hr4 := hg4.block (w.heap.size + 1) (by omega) (fun e => by injection e with e; omega)
        replace r0 := (World.cell?_of_block (a := ⟨w.heap.size + 1, 0, none⟩) hr4).trans r0
        replace r1 := (World.cell?_of_block (a := ⟨w.heap.size + 1, 1, none⟩) hr4).trans r1
        replace z0 := (World.frozen?_of_block (a := ⟨w.heap.size + 1, 0, none⟩) hr4).trans z0
        replace z1 := (World.frozen?_of_block (a := ⟨w.heap.size + 1, 1, none⟩) hr4).trans z1
        replace k0 := hg4.cell (a := ⟨w1.heap.size, 0, none⟩) k0 (fun e => hgk (by injection e with e; exact e.symm))
        replace k1 := hg4.cell (a := ⟨w1.heap.size, 1, none⟩) k1 (fun e => hgk (by injection e with e; exact e.symm))
        have hl4 : w.heap.size + 1 < w4.heap.size := by omega
        have hl4' : w1.heap.size < w4.heap.size := by omega
        have HRo4 := hide ((unhide HRo2).kept hg4 (or_ne hapg))
        have hOk : OOk fs (fgL (rL fs rs)) := (whole_fgL (unhide HA)).ok
        have Hmap : Hid (WnM w4 w2.heap.size w2.heap.size s p fs.length (fgL (rL fs rs)).length (fgT (rL fs rs)) (fgL (rL fs rs))) := by
          rw [hTm, hLm, hLl]; exact hfi.map
        have Hown : Hid (∀ j : Nat, j < (fgL (rL fs rs)).length → p j = true → (fgL (rL fs rs))[j]? = some (j : Int)) := by
          rw [hLm, hLl]; exact hfi.fi.own
        have hlL : (fgL (rL fs rs)).length = (mL p fs.length).length := by rw [hLm, hLl]
        have hsl : (setW hs fs (fgL (rL fs rs)) 0).length = (fgL (rL fs rs)).length * s := setW_len (unhide Hu) hOk (Nat.zero_le _)
        have hET : (fgL (rL fs rs)).length * s ≤ T := by rw [unhide HT, hlL]; exact Nat.mul_le_mul_right s hmn
        have Hwds : Hid (Wds w4.heap.size w4 a (setW hs fs (fgL (rL fs rs)) 0)) := by
          by_cases h0 : (fgL (rL fs rs)).length * s = 0
          · have hnil : setW hs fs (fgL (rL fs rs)) 0 = [] := List.eq_nil_of_length_eq_zero (by omega)
            rw [hnil]
            exact ⟨by simp, fun h => absurd rfl h⟩
          · have hT0 : T ≠ 0 := by omega
            have hne : fs ≠ [] := by
              intro e
              have := unhide HT
              rw [e] at this
              simp at this
              exact hT0 this
            obtain ⟨a4, c4, hv4, hW4, _⟩ := words_of_owns (hfi.row hne) (by rw [fgW_len (unhide HA).fit (unhide Hu) hfi.fi]; exact unhide HT) (by omega)
            have e1 : some (⟨gw, 0, none⟩ : Addr) = a4 := by injection hv4
            subst e1
            have h1 := hW4.sub 0 ((mL p fs.length).length * s)
            have h2 := fgAB (unhide HA).fit (unhide Hu) hfi.fi
            have h3 : ((fgW hs fs p (mL p fs.length).length).drop 0).take ((mL p fs.length).length * s) = setW hs fs (fgL (rL fs rs)) 0 := by
              rw [List.drop_zero, setW_zero, hLm]
              unfold fgW
              rw [uj_take (h2.1.trans h2.2.1.symm) h2.2.2 (by rw [h2.2.1]; exact hmn), fgA_take hLl, fgB_take hLl]
            rw [h3] at h1
            rw [(hgw1 hT0).1]
            exact h1
        have hpre : ∀ j : Nat, (j : Int) ∈ rL fs rs → (j : Int) ∈ fgL (rL fs rs) ∧ p j = true := fun j hj => ⟨(mem_fgL_rL (unhide HA) _).2 hj, by rw [← hR] at hj; exact ((mem_mL p fs.length j).1 hj).2⟩
        have Hroot : Hid (∀ j : Nat, To fs rs j → (j : Int) ∈ fgL (rL fs rs) ∧ p j = true) := fun j hj => hpre j ((mem_reachK (unhide HA) j).2 (rch_root hj))
        have Hin : Hid (∀ i j : Nat, ∀ hi : i < fs.length, (i : Int) ∈ fgL (rL fs rs) → To fs fs[i] j → (j : Int) ∈ fgL (rL fs rs) ∧ p j = true) := fun i j hi hm hj => by
          have hpi := (hpre i ((mem_fgL_rL (unhide HA) _).1 hm)).2
          exact hpre j ((mem_reachK (unhide HA) j).2 (rch_step ((unhide Hp i).1 hpi) (List.getElem?_eq_getElem hi) hj))
        have HOk := hide hOk
        have hEq : ((mL p fs.length).length * s : Nat) = (fgL (rL fs rs)).length * s := by rw [hlL]
        rw [hEq]
        clear hR hR' hLl hLm hTm hmn hg4 hr4 hfi hOk hlL hpre Hp HWo2 HRo2 hEq
        have HfuL : Hid (setW hs fs (fgL (rL fs rs)) (fgL (rL fs rs)).length = fuL hs fs rs) := setW_all hs fs _
        have Hset := hide (fun (aw ar : Option Addr) (cw cr N N2 mb pb t gw gr : Nat) (W : World) => settle_c aw ar cw cr 0 0 hs fs rs (fgL (rL fs rs)) s p N N2 mb pb t gw gr W (unhide HA) (unhide Hu) hs1 (unhide HOk))
        have Hclo : Hid (∀ X, Below w4.heap.size w4 X → Calls Try.prog 22 #[.slice a ((fgL (rL fs rs)).length * s) c] X fun e w' => (∃ v, e = .returned v ∧ w'.ownsRow X.heap.size 56 1 v ((fgL (rL fs rs)).length * s) (wordsV (setW hs fs (fgL (rL fs rs)) 0))) ∧ Below X.heap.size X w') := fun X hb => by
          have h := clone_c a c (setW hs fs (fgL (rL fs rs)) 0) X (((unhide Hwds).below hb).mono hb.size) (by omega) hga
          rw [hsl] at h
          exact h
        have hslw : ∀ W, (Instr.slice 22 (.slice a T c) none (some (.int .i64 (((fgL (rL fs rs)).length * s : Nat) : Int))) none).run Try.prog W = .ok (.slice a ((fgL (rL fs rs)).length * s) c) W := fun W => by
          have h1 : (fgL (rL fs rs)).length * s ≤ c := by omega
          generalize (fgL (rL fs rs)).length * s = E at *
          have h2 : (0 : Int) ≤ (E : Int) ∧ (E : Int) ≤ (c : Int) := by omega
          cases a <;> simp [go_sem, Try.underlying22, h1, h2]
        have HET := hide hET
        have Hsl := hide hsl
        clear Hwds hET hsl
        generalize hEe : (fgL (rL fs rs)).length * s = E at *
        have HEe := hide hEe
        clear hEe
        have hE256 : E ≤ 256 := by have := unhide HET; omega
        go_upto_region 10 with fail
        go_cut [12] from 44 to 51 (fun s12 wx => ∃ tb va vc, s12 = .pointer (some ⟨tb, 0, none⟩) ∧ wx.cell? ⟨tb, 0, none⟩ = some (.slice va E vc) ∧ wx.cell? ⟨tb, 1, none⟩ = some (.slice a' rs.length c') ∧ Hid (wx.ownsRow w4.heap.size 56 1 (.slice va E vc) E (wordsV (setW hs fs (fgL (rL fs rs)) 0))) ∧ Hid (∀ k, (Value.slice va E vc).ownBlock = some k → k ≠ tb) ∧ w4.heap.size ≤ tb ∧ Below w4.heap.size w4 wx)
        case first =>
          have hbd : Below w4.heap.size w4 w4.drew := (Below.refl _ _).drew
          have hbda : Below w4.heap.size w4 (w4.alloc (.cells #[.slice none 0 0, .slice none 0 0] 24)).drew := ((Below.refl _ _).alloc (Nat.le_refl _) _).drew
          have Hclx : Hid (∀ X, Below w4.heap.size w4 X → Calls Try.prog 22 #[.slice a E c] X fun e w' => ∃ v, e = .returned v ∧ ((∃ va vc, v = .slice va E vc) ∧ Hid (w'.ownsRow X.heap.size 56 1 v E (wordsV (setW hs fs (fgL (rL fs rs)) 0))) ∧ Below w4.heap.size w4 w' ∧ Below X.heap.size X w')) := fun X hb => by
            refine (unhide Hclo X hb).mono ?_
            rintro e w' ⟨⟨v, rfl, hr⟩, hb2⟩
            obtain ⟨va, vc, hv⟩ := ownsRow_slice hr
            exact ⟨v, rfl, ⟨va, vc, hv⟩, hr, hb.trans (hb2.mono hb.size), hb2⟩
          have Hta : w4.heap.size < (w4.alloc (.cells #[.slice none 0 0, .slice none 0 0] 24)).drew.heap.size := by show w4.heap.size < (w4.alloc _).heap.size; simp
          have Hq0 : (w4.alloc (.cells #[.slice none 0 0, .slice none 0 0] 24)).drew.cell? ⟨w4.heap.size, 0, none⟩ = some (.slice none 0 0) := by show (w4.alloc _).cell? _ = _; simp [go_sem]
          have Hq1 : (w4.alloc (.cells #[.slice none 0 0, .slice none 0 0] 24)).drew.cell? ⟨w4.heap.size, 1, none⟩ = some (.slice none 0 0) := by show (w4.alloc _).cell? _ = _; simp [go_sem]
          have Hy0 : (w4.alloc (.cells #[.slice none 0 0, .slice none 0 0] 24)).drew.frozen? ⟨w4.heap.size, 0, none⟩ = false := by show (w4.alloc _).frozen? _ = _; simp [go_sem]
          have Hy1 : (w4.alloc (.cells #[.slice none 0 0, .slice none 0 0] 24)).drew.frozen? ⟨w4.heap.size, 1, none⟩ = false := by show (w4.alloc _).frozen? _ = _; simp [go_sem]
          go_region_law (first
            | (refine step_call_w (by rfl) 22 #[.slice a E c] (by go_simp) (fun v w' => (∃ va vc, v = .slice va E vc) ∧ Hid (w'.ownsRow w4.drew.heap.size 56 1 v E (wordsV (setW hs fs (fgL (rL fs rs)) 0))) ∧ Below w4.heap.size w4 w' ∧ Below w4.drew.heap.size w4.drew w') (unhide Hclx w4.drew hbd) ?_; rintro vC w9 ⟨⟨va, vc, rfl⟩, hr9, hb9, hx9⟩; have k09 := (hb9.cell (p := ⟨w1.heap.size, 0, none⟩) hl4').trans k0; have k19 := (hb9.cell (p := ⟨w1.heap.size, 1, none⟩) hl4').trans k1; have hl9 : w1.heap.size < w9.heap.size := Nat.lt_of_lt_of_le hl4' hb9.size)
            | (refine step_call_w (by rfl) 22 #[.slice a E c] (by go_simp) (fun v w' => (∃ va vc, v = .slice va E vc) ∧ Hid (w'.ownsRow (w4.alloc (.cells #[.slice none 0 0, .slice none 0 0] 24)).drew.heap.size 56 1 v E (wordsV (setW hs fs (fgL (rL fs rs)) 0))) ∧ Below w4.heap.size w4 w' ∧ Below (w4.alloc (.cells #[.slice none 0 0, .slice none 0 0] 24)).drew.heap.size (w4.alloc (.cells #[.slice none 0 0, .slice none 0 0] 24)).drew w') (unhide Hclx (w4.alloc (.cells #[.slice none 0 0, .slice none 0 0] 24)).drew hbda) ?_; rintro vC w9 ⟨⟨va, vc, rfl⟩, hr9, hb9, hx9⟩; have k09 := (hb9.cell (p := ⟨w1.heap.size, 0, none⟩) hl4').trans k0; have k19 := (hb9.cell (p := ⟨w1.heap.size, 1, none⟩) hl4').trans k1; have hl9 : w1.heap.size < w9.heap.size := Nat.lt_of_lt_of_le hl4' hb9.size; have ht4 : w4.heap.size < (w4.alloc (.cells #[.slice none 0 0, .slice none 0 0] 24)).drew.heap.size := Hta; have q0 := (hx9.cell (p := ⟨w4.heap.size, 0, none⟩) ht4).trans Hq0; have q1 := (hx9.cell (p := ⟨w4.heap.size, 1, none⟩) ht4).trans Hq1; have y0 := (hx9.frozen (p := ⟨w4.heap.size, 0, none⟩) ht4).trans Hy0; have y1 := (hx9.frozen (p := ⟨w4.heap.size, 1, none⟩) ht4).trans Hy1; have l9 : w4.heap.size < w9.heap.size := Nat.lt_of_lt_of_le ht4 hx9.size))
          all_goals
            go_wp2_with fail
            go_meet
            case rel => first
              | exact ⟨w9.heap.size, va, vc, rfl, by simp [go_sem], by simp [go_sem], hide (ownsRow_below (unhide hr9) ((Below.refl _ _).alloc (Nat.le_refl _) _)), hide (fun k h e => by have := ((unhide hr9).lt k h).2; omega), hb9.size, hb9.alloc hb9.size _⟩
              | exact ⟨w4.heap.size, va, vc, rfl, by simp [go_sem, q0, q1], by simp [go_sem, q0, q1], hide (Joins.ownsRow_le (ownsRow_setCell_below (ownsRow_setCell_below (unhide hr9) (a := ⟨w4.heap.size, 0, none⟩) ht4 _) (a := ⟨w4.heap.size, 1, none⟩) ht4 _) (Nat.le_of_lt ht4)), hide (fun k h e => by have := ((unhide hr9).lt k h).1; omega), Nat.le_refl _, (hb9.setCell (p := ⟨w4.heap.size, 0, none⟩) (Nat.le_refl _) _).setCell (p := ⟨w4.heap.size, 1, none⟩) (Nat.le_refl _) _⟩
        case rest =>
        obtain ⟨tb, va, vc, rfl, t0, t1, Hrow, Htb, htb, hbc⟩ := hcut
        have hsc := hbc.size
        have htl : tb < wc.heap.size := World.block_lt_of_cell? wc _ t0
        have hbwc : Below w.heap.size w wc := hbw4.trans (hbc.mono (by omega))
        replace r0 := (hbc.cell (p := ⟨w.heap.size + 1, 0, none⟩) hl4).trans r0
        replace r1 := (hbc.cell (p := ⟨w.heap.size + 1, 1, none⟩) hl4).trans r1
        replace z0 := (hbc.frozen (p := ⟨w.heap.size + 1, 0, none⟩) hl4).trans z0
        replace z1 := (hbc.frozen (p := ⟨w.heap.size + 1, 1, none⟩) hl4).trans z1
        have hlc : w.heap.size + 1 < wc.heap.size := by omega
        have HRoc := hide (ownsRow_below (unhide HRo4) hbc)
        have HMc := hide ((unhide Hmap).below hbc)
        have hm2 : w2.heap.size < wc.heap.size := (unhide HMc).lt
        have Hset2 : Hid (∀ (X : World) (pb : Nat), Below wc.heap.size wc X → X.cell? ⟨pb, 0, none⟩ = some (.map (some w2.heap.size)) → wc.heap.size ≤ pb → Calls Try.prog 23 #[.agg #[.slice va E vc, .slice a' rs.length c'], .int .i64 (s : Nat), .func (.func 42) #[] #[.pointer (some ⟨pb, 0, none⟩)]] X fun e w' => ∃ v, e = .returned v ∧ (w'.cell? ⟨tb, 0, none⟩ = some (.slice va E vc) ∧ w'.cell? ⟨tb, 1, none⟩ = some (.slice a' rs.length c') ∧ (w'.cell? ⟨w.heap.size + 1, 0, none⟩ = some (.slice none 0 0) ∧ w'.cell? ⟨w.heap.size + 1, 1, none⟩ = some (.slice none 0 0) ∧ w'.frozen? ⟨w.heap.size + 1, 0, none⟩ = false ∧ w'.frozen? ⟨w.heap.size + 1, 1, none⟩ = false) ∧ Hid (WdsF W0.heap.size w' va (fuL hs fs rs)) ∧ E ≤ vc ∧ Hid (WdsF W0.heap.size w' a' (fuR fs rs)) ∧ Below w.heap.size w w' ∧ (∀ ty, (Builtin.len_ #[52] ty #[.map (some w2.heap.size)]).run Try.prog w' = .ok (.int .i64 (fgT (rL fs rs) : Nat)) w'))) := by
          intro X pb hb hpb hpl
          have hsX := hb.size
          have hrX := Joins.ownsRow_le (base' := W0.heap.size) (ownsRow_below (unhide Hrow) hb) (by omega)
          have hrr := ownsRow_below (unhide HRoc) hb
          have hpx : pb < X.heap.size := World.block_lt_of_cell? X _ hpb
          obtain ⟨gv, gv1, gv2, gvc, _⟩ := own_pick hrX (X.heap.size + 1)
          obtain ⟨gr, gr1, gr2, _, _⟩ := own_pick hrr (X.heap.size + 2)
          have hv : E ≠ 0 → w4.heap.size ≤ gv ∧ gv < wc.heap.size ∧ gv ≠ tb := fun h => by
            have e : (Value.slice va E vc).ownBlock = some gv := by rw [(gv1 h).1]; rfl
            exact ⟨((unhide Hrow).lt gv e).1, ((unhide Hrow).lt gv e).2, unhide Htb gv e⟩
          have hr : rs.length ≠ 0 → W0.heap.size ≤ gr ∧ gr < w1.heap.size := fun h => unhide Hlr gr (by rw [(gr1 h).1]; rfl)
          have hgvN : W0.heap.size ≤ gv := by
            by_cases h : E = 0
            · rw [gv2 h]; omega
            · exact (gv1 h).2.1
          have hgrN : W0.heap.size ≤ gr := by
            by_cases h : rs.length = 0
            · rw [gr2 h]; omega
            · exact (hr h).1
          have ne1 : pb ≠ gv := by
            by_cases h : E = 0
            · rw [gv2 h]; omega
            · have := hv h; omega
          have ne2 : pb ≠ gr := by
            by_cases h : rs.length = 0
            · rw [gr2 h]; omega
            · have := hr h; omega
          have ne3 : w2.heap.size ≠ gv := by
            by_cases h : E = 0
            · rw [gv2 h]; omega
            · have := hv h
              have := (unhide Hmap).lt
              omega
          have ne4 : w2.heap.size ≠ gr := by
            by_cases h : rs.length = 0
            · rw [gr2 h]; omega
            · have := hr h; omega
          have ne5 : gv ≠ gr := by
            by_cases h : E = 0
            · by_cases h' : rs.length = 0
              · rw [gv2 h, gr2 h']; omega
              · have := hr h'; rw [gv2 h]; omega
            · have := hv h
              by_cases h' : rs.length = 0
              · rw [gr2 h']; omega
              · have := hr h'; omega
          have ne6 : gv ≠ X.heap.size := by
            by_cases h : E = 0
            · rw [gv2 h]; omega
            · have := hv h; omega
          have ne7 : gr ≠ X.heap.size := by
            by_cases h : rs.length = 0
            · rw [gr2 h]; omega
            · have := hr h; omega
          have ne8 : tb ≠ gv := by
            by_cases h : E = 0
            · rw [gv2 h]; omega
            · have := hv h; omega
          have ne9 : tb ≠ gr := by
            by_cases h : rs.length = 0
            · rw [gr2 h]; omega
            · have := hr h; omega
          have hEL : fgL (rL fs rs) ≠ [] → E ≠ 0 := fun h e => by
            have h1 := unhide HEe
            rw [e] at h1
            rcases Nat.mul_eq_zero.1 h1 with h2 | h2
            · exact h (List.eq_nil_of_length_eq_zero h2)
            · omega
          have hc := unhide Hset va a' vc c' w2.heap.size W0.heap.size w2.heap.size pb (fgT (rL fs rs)) gv gr X hpb ((unhide HMc).below hb) (unhide Hroot) (unhide Hin) (unhide Hown) ne1 ne2 ne3 ne4 ne5 ne6 ne7 gvc
            (fun h => by
              have h1 := gv1 (hEL h)
              have h2 := hrX
              rw [h1.1] at h2
              exact ⟨h1.1, h2⟩)
            (fun h => by
              have h1 := gr1 (fun e => h (List.eq_nil_of_length_eq_zero e))
              have h2 := hrr
              rw [h1.1] at h2
              exact ⟨h1.1, h2⟩)
          refine hc.mono ?_
          rintro e w' ⟨rfl, hst⟩
          have hg := hst.g
          have hcell : ∀ b j v, b < wc.heap.size → b ≠ gv → b ≠ gr → wc.cell? ⟨b, j, none⟩ = some v → w'.cell? ⟨b, j, none⟩ = some v := fun b j v h1 h2 h3 h4 => hg.cell h2 h3 ((hb.cell (p := ⟨b, j, none⟩) h1).trans h4)
          have hfroz : ∀ b j, b < wc.heap.size → b ≠ gv → b ≠ gr → wc.frozen? ⟨b, j, none⟩ = false → w'.frozen? ⟨b, j, none⟩ = false := fun b j h1 h2 h3 h4 => (World.frozen?_of_block (a := ⟨b, j, none⟩) (hg.block b (by omega) h2 h3)).trans ((hb.frozen (p := ⟨b, j, none⟩) h1).trans h4)
          have hfl : (fuL hs fs rs).length = E := by
            have := setW_len (hs := hs) (unhide Hu) (unhide HOk) (Nat.le_refl _)
            rw [unhide HfuL] at this
            rw [this]; exact unhide HEe
          have hrl : (sR fs (fgL (rL fs rs)) rs).length = rs.length := by simp [sR]
          refine ⟨_, rfl, hcell tb 0 _ htl ne8 ne9 t0, hcell tb 1 _ htl ne8 ne9 t1, ⟨hcell _ 0 _ hlc (by omega) (by omega) r0, hcell _ 1 _ hlc (by omega) (by omega) r1, hfroz _ 0 hlc (by omega) (by omega) z0, hfroz _ 1 hlc (by omega) (by omega) z1⟩, ?_, gvc, ?_, ?_, ?_⟩
          · by_cases h : E = 0
            · have hnil : fuL hs fs rs = [] := List.eq_nil_of_length_eq_zero (by omega)
              rw [hnil]
              refine ⟨⟨by simp, fun h => absurd rfl h⟩, fun b off e => ?_⟩
              have := (hrX.lt b (by rw [e]; rfl)).1
              exact this
            · have h1 := hst.row (by rw [unhide HfuL]; intro e; rw [e] at hfl; simp at hfl; omega)
              rw [unhide HfuL] at h1
              obtain ⟨a5, c5, h2, h3, _⟩ := wordsF_of_owns h1 (by omega) (by omega)
              injection h2 with h4 _ _
              rw [(gv1 h).1, h4]
              exact h3
          · by_cases h : rs.length = 0
            · have hnil : fuR fs rs = [] := List.eq_nil_of_length_eq_zero (by unfold fuR; omega)
              rw [hnil]
              refine ⟨⟨by simp, fun h => absurd rfl h⟩, fun b off e => ?_⟩
              have := (hrr.lt b (by rw [e]; rfl)).1
              exact this
            · have h1 := hst.roots (by intro e; rw [e] at hrl; simp at hrl; omega)
              have h8 := (unhide HA).n8
              obtain ⟨a5, c5, h2, h3, _⟩ := wordsF_of_owns h1 rfl (by omega)
              injection h2 with h4 _ _
              rw [(gr1 h).1, h4]
              exact h3
          · exact ⟨hg.os.trans (hb.os.trans hbwc.os), hg.tape.trans (hb.tape.trans hbwc.tape), hg.output.trans (hb.output.trans hbwc.output), by have := hg.size; omega, fun k hk => (hg.block k (by omega) (by omega) (by omega)).trans ((hb.block k (by omega)).trans (hbwc.block k hk))⟩
          · obtain ⟨M, hm, _, _, hz⟩ := ((unhide HMc).below hb).gb2 hg ne3 ne4
            intro ty
            rw [← hz]
            exact hm.len Try.underlying52 ty
        have Htur : Hid (Calls Try.prog 24 #[.map (some w2.heap.size)] wc.drew fun e w' => ∃ v, e = .returned v ∧ (v = .func (.func 42) #[] #[.pointer (some ⟨wc.heap.size, 0, none⟩)] ∧ w'.cell? ⟨wc.heap.size, 0, none⟩ = some (.map (some w2.heap.size)) ∧ w'.cell? ⟨tb, 0, none⟩ = some (.slice va E vc) ∧ w'.cell? ⟨tb, 1, none⟩ = some (.slice a' rs.length c') ∧ Below wc.heap.size wc w' ∧ tb < w'.heap.size)) := by
          refine (turner_c w2.heap.size wc.drew).mono ?_
          rintro e w' ⟨rfl, rfl⟩
          have hb : Below wc.heap.size wc (wc.drew.alloc (.cells #[.map (some w2.heap.size)] 52)) := (Below.refl _ _).drew.alloc (Nat.le_refl _) _
          exact ⟨_, rfl, rfl, by show (wc.drew.alloc _).cell? ⟨wc.drew.heap.size, 0, none⟩ = _; simp [go_sem], (hb.cell (p := ⟨tb, 0, none⟩) htl).trans t0, (hb.cell (p := ⟨tb, 1, none⟩) htl).trans t1, hb, Nat.lt_of_lt_of_le htl hb.size⟩
        clear Hrow Htb HRoc HMc Hset Hroot Hin Hown
        go_upto_region 11 with fail
        go_region_law (first
          | (refine step_call_w (by rfl) 24 #[.map (some w2.heap.size)] (by go_simp) (fun v w' => v = .func (.func 42) #[] #[.pointer (some ⟨wc.heap.size, 0, none⟩)] ∧ w'.cell? ⟨wc.heap.size, 0, none⟩ = some (.map (some w2.heap.size)) ∧ w'.cell? ⟨tb, 0, none⟩ = some (.slice va E vc) ∧ w'.cell? ⟨tb, 1, none⟩ = some (.slice a' rs.length c') ∧ Below wc.heap.size wc w' ∧ tb < w'.heap.size) (unhide Htur) ?_; rintro vT wt ⟨rfl, hpt, tt0, tt1, hbt, ttl⟩; have Hbt := hide hbt; have Hpt := hide hpt; clear hbt hpt)
          | (refine step_call_w (by rfl) 23 #[.agg #[.slice va E vc, .slice a' rs.length c'], .int .i64 (s : Nat), .func (.func 42) #[] #[.pointer (some ⟨wc.heap.size, 0, none⟩)]] (by go_simp) (fun v w' => w'.cell? ⟨tb, 0, none⟩ = some (.slice va E vc) ∧ w'.cell? ⟨tb, 1, none⟩ = some (.slice a' rs.length c') ∧ (w'.cell? ⟨w.heap.size + 1, 0, none⟩ = some (.slice none 0 0) ∧ w'.cell? ⟨w.heap.size + 1, 1, none⟩ = some (.slice none 0 0) ∧ w'.frozen? ⟨w.heap.size + 1, 0, none⟩ = false ∧ w'.frozen? ⟨w.heap.size + 1, 1, none⟩ = false) ∧ Hid (WdsF W0.heap.size w' va (fuL hs fs rs)) ∧ E ≤ vc ∧ Hid (WdsF W0.heap.size w' a' (fuR fs rs)) ∧ Below w.heap.size w w' ∧ (∀ ty, (Builtin.len_ #[52] ty #[.map (some w2.heap.size)]).run Try.prog w' = .ok (.int .i64 (fgT (rL fs rs) : Nat)) w')) (unhide Hset2 wt wc.heap.size (unhide Hbt) (unhide Hpt) (Nat.le_refl _)) ?_; rintro vS w9 ⟨s0, s1, ⟨r90, r91, z90, z91⟩, HF1, hvc, HF2, hb9, hlen⟩; have Hb9 := hide hb9; clear hb9))
        all_goals
          have lt9 : tb < w9.heap.size := World.block_lt_of_cell? w9 _ s0
          have lr9 : w.heap.size + 1 < w9.heap.size := World.block_lt_of_cell? w9 _ r90
          have hfl : Hid ((fuL hs fs rs).length = E) := by
            have := setW_len (hs := hs) (unhide Hu) (unhide HOk) (Nat.le_refl _)
            rw [unhide HfuL] at this
            show _ = _
            rw [this]; exact unhide HEe
          have Hvc : Hid (E ≤ vc) := hvc
          have Hfin : Hid (∀ W, W = (w9.setCell ⟨w.heap.size + 1, 0, none⟩ (.slice va E vc)).setCell ⟨w.heap.size + 1, 1, none⟩ (.slice a' rs.length c') → SqRes w.heap.size ws rs (f : Int) (.returned (.tuple #[.agg #[.slice va E vc, .slice a' rs.length c'], .int .i64 (fgT (rL fs rs) : Nat), .int .i64 0])) W ∧ Below w.heap.size w W) := fun W h => by
            subst h
            have h1 := (((unhide HF1).setCell (p := ⟨w.heap.size + 1, 0, none⟩) hs0 (.slice va E vc)).setCell (p := ⟨w.heap.size + 1, 1, none⟩) hs0 (.slice a' rs.length c')).base (base' := w.heap.size) (by omega)
            have h2 := (((unhide HF2).setCell (p := ⟨w.heap.size + 1, 0, none⟩) hs0 (.slice va E vc)).setCell (p := ⟨w.heap.size + 1, 1, none⟩) hs0 (.slice a' rs.length c')).base (base' := w.heap.size) (by omega)
            refine ⟨.inr (.inr ⟨unhide HE, by omega, by omega, hs, fs, unhide HA, unhide Hws, .inr ⟨by rw [Int.toNat_natCast, ← unhide Hsf]; exact unhide Hu, va, vc, a', c', by rw [unhide hfl], h1, by rw [unhide hfl]; exact unhide Hvc, h2⟩⟩), ((unhide Hb9).setCell (p := ⟨w.heap.size + 1, 0, none⟩) (by simp) _).setCell (p := ⟨w.heap.size + 1, 1, none⟩) (by simp) _⟩
          clear HF1 HF2 hvc Hb9 Hset2 Htur Hbt Hpt
          generalize fgT (rL fs rs) = tt at *
          go_wp2
          exact bodyPost_ret (v := .tuple #[.agg #[.slice va E vc, .slice a' rs.length c'], .int .i64 (tt : Nat), .int .i64 0]) (by simp [results, Try.results6, go_sem, r90, r91]) rfl (unhide Hfin _ rfl)

end Go.Proofs.Ytemjhdbmcdlpeaa

/- Walks: the document's Squeeze. -/
namespace Go.Proofs.Ytemjhdbmcdlpeaa
set_option linter.unusedSimpArgs false
set_option linter.unusedVariables false
open Go.RowKit Go.Shelf

/-- What the document's Squeeze tells. -/
def RSq (L R : List Int) (t : Nat) (e : Ending) (W : World) : Prop :=
  ∃ aw cw ar cr, e = .returned (.tuple #[.agg #[.slice aw L.length cw, .slice ar R.length cr], .int .i64 (t : Nat)]) ∧ Wds W.heap.size W aw L ∧ Wds W.heap.size W ar R

theorem lay_fing {hs : List Int} {fs : List (List Int)} {rs : List Int} (hA : Arn hs fs rs) (ao ar ah : Option Addr) (co cr ch : Nat) (X : World)
    (hO : Objs X.heap.size X ao (renL (readG fs rs) (fgL (rL fs rs))).objs) (hV : Vals X.heap.size X ar (renL (readG fs rs) (fgL (rL fs rs))).roots) (hH : Hdrs X.heap.size X ah (sdHd hs (fgL (rL fs rs)))) :
    Calls Try.prog 30 #[.agg #[.slice ao (renL (readG fs rs) (fgL (rL fs rs))).objs.length co, .slice ar (renL (readG fs rs) (fgL (rL fs rs))).roots.length cr], .slice ah (fgL (rL fs rs)).length ch] X fun e w' => ∃ v, e = .returned v ∧ LyS X (fuL hs fs rs) (fuR fs rs) v w' := by
  have hG := good_ren (good_read hA) (whole_fgL hA)
  obtain ⟨hnr, hno⟩ := num_renL hA (whole_fgL hA)
  have h := rlay_c ao ar ah co cr ch (renL (readG fs rs) (fgL (rL fs rs))) (sdHd hs (fgL (rL fs rs))) X.heap.size X hO hV hH (by rw [sdHd_len, renL_len]) (Nat.le_refl _) hG.n24 hG.n4 hG.n8 hG.rr hG.ro hnr hno
  rw [sdHd_len] at h
  refine h.mono ?_
  rintro e w' ⟨⟨aw', cw', ar', cr', he, h1, h2⟩, h3⟩
  have e1 : layHW (stF 0 (renL (readG fs rs) (fgL (rL fs rs))).objs) (sdHd hs (fgL (rL fs rs))) (renL (readG fs rs) (fgL (rL fs rs))).objs = fuL hs fs rs := by
    unfold layHW
    rw [sdHd_hW, ← sF_lay (whole_fgL hA)]
    rfl
  have e2 : fuR fs rs = _ := sR_lay (whole_fgL hA)
  rw [e1] at he h1
  rw [← e2] at he h2
  exact ⟨_, he, aw', cw', ar', cr', rfl, h1, h2, h3⟩

set_option maxRecDepth 100000 in
set_option maxHeartbeats 8000000 in
theorem rsqueeze_c (aw ar : Option Addr) (cw cr : Nat) (ws rs : List Int) (hs : List Int) (fs : List (List Int)) (B : Nat) (w : World) (hW : Wds B w aw ws) (hR : Wds B w ar rs) (hUW : U64 ws) (hUR : U64 rs) (hB : B ≤ w.heap.size) (hA : Arn hs fs rs) (hws : ws = joinW hs fs) :
    Calls Try.prog 10 #[.agg #[.slice aw ws.length cw, .slice ar rs.length cr]] w fun e w' => RSq (fuL hs fs rs) (fuR fs rs) (fgT (rL fs rs)) e w' ∧ Below w.heap.size w w' := by
  have hsp : splitR ws = some fs := by rw [hws]; exact fit_split hA.fit
  have h256 : ws.length ≤ 256 := by rw [hws, joinW_len _ _ hA.fit.len]; exact hA.n256
  obtain ⟨W1, hW1⟩ : ∃ W1, (w.alloc (.cells #[.slice aw ws.length cw, .slice ar rs.length cr] 24)).alloc (.cells #[.slice none 0 0, .slice none 0 0] 24) = W1 := ⟨_, rfl⟩
  have hb1 : Below w.heap.size w W1 := by rw [← hW1]; exact ((Below.refl w.heap.size w).alloc (Nat.le_refl _) _).alloc (by simp) _
  have hs1 : w.heap.size + 1 < W1.heap.size := by rw [← hW1]; simp
  have g0 : W1.cell? ⟨w.heap.size, 0, none⟩ = some (.slice aw ws.length cw) := by rw [← hW1]; simp [go_sem]
  have g1 : W1.cell? ⟨w.heap.size, 1, none⟩ = some (.slice ar rs.length cr) := by rw [← hW1]; simp [go_sem]
  have hr0 : W1.heap[w.heap.size + 1]? = some (.cells #[.slice none 0 0, .slice none 0 0] 24) := by
    have := heap_alloc_new (w.alloc (.cells #[.slice aw ws.length cw, .slice ar rs.length cr] 24)) (.cells #[.slice none 0 0, .slice none 0 0] 24)
    rw [hW1] at this
    simpa using this
  have Hc1 := hide (rread_c aw ar cw cr ws rs fs B W1 (hW.below (hb1.mono hB)) (hR.below (hb1.mono hB)) hUW hUR (by omega) h256 hA.n8 hsp)
  have HA := hide hA
  have HG := hide (good_read hA)
  have HWh := hide (whole_fgL hA)
  have Hws := hide hws
  have Hr0 := hide hr0
  have hOl : (rL fs rs).length ≤ 256 := by have := (whole_rL hA).ok.len; have := hA.n256; omega
  have HR := hide (fun o ho => (whole_fgL hA).ok.rng o ho)
  clear hA hws hsp hr0
  go_enter Try.func10, Try.ntmps10
  go_wp2_with fail
  refine (unhide Hc1).mono ?_
  rintro e w2 ⟨⟨ao, co, ar2, cr2, he, hO, hV⟩, hb2⟩
  subst he
  have hs2 := hb2.size
  have hbw2 : Below w.heap.size w w2 := hb1.trans (hb2.mono (by omega))
  obtain ⟨W2, hW2⟩ : ∃ W2, w2.alloc (.cells #[.slice ao (readG fs rs).objs.length co, .slice ar2 (readG fs rs).roots.length cr2] 43) = W2 := ⟨_, rfl⟩
  have hb2' : Below w2.heap.size w2 W2 := by rw [← hW2]; exact (Below.refl _ _).alloc (Nat.le_refl _) _
  have hs2' : w2.heap.size < W2.heap.size := by rw [← hW2]; simp
  have k0 : W2.cell? ⟨w2.heap.size, 0, none⟩ = some (.slice ao (readG fs rs).objs.length co) := by rw [← hW2]; simp [go_sem]
  have k1 : W2.cell? ⟨w2.heap.size, 1, none⟩ = some (.slice ar2 (readG fs rs).roots.length cr2) := by rw [← hW2]; simp [go_sem]
  replace g0 := (hb2'.cell (p := ⟨w.heap.size, 0, none⟩) (by simp; omega)).trans ((hb2.cell (p := ⟨w.heap.size, 0, none⟩) (by simp; omega)).trans g0)
  replace g1 := (hb2'.cell (p := ⟨w.heap.size, 1, none⟩) (by simp; omega)).trans ((hb2.cell (p := ⟨w.heap.size, 1, none⟩) (by simp; omega)).trans g1)
  have hbW2 : Below w.heap.size w W2 := hbw2.trans (hb2'.mono (by omega))
  have hwW2 : w.heap.size < W2.heap.size := by omega
  replace Hr0 := hide ((hb2'.block (w.heap.size + 1) (by omega)).trans ((hb2.block (w.heap.size + 1) (by omega)).trans (unhide Hr0)))
  have HO := hide ((hO.below hb2').mono (B' := W2.heap.size) (by omega))
  have HV := hide ((hV.below hb2').mono (B' := W2.heap.size) (by omega))
  have Hc2 := hide (show Calls Try.prog 14 #[.agg #[.slice ao (readG fs rs).objs.length co, .slice ar2 (readG fs rs).roots.length cr2]] W2 fun e w' => ∃ a cap, e = .returned (.slice a (rL fs rs).length cap) ∧ Ints w'.heap.size w' a (rL fs rs) ∧ Below W2.heap.size W2 w' from refReach_c ao ar2 co cr2 (readG fs rs) W2.heap.size W2 (unhide HO) (unhide HV) (Nat.le_refl _) (unhide HG))
  clear Hc1 hO hV hW1 hb1 hb2 hb2' hbw2
  go_wp2_with fail
  refine (unhide Hc2).mono ?_
  rintro e w3 ⟨la, lc, he, hI, hb3⟩
  subst he
  have hs3 := hb3.size
  replace k0 := (hb3.cell (p := ⟨w2.heap.size, 0, none⟩) hs2').trans k0
  replace k1 := (hb3.cell (p := ⟨w2.heap.size, 1, none⟩) hs2').trans k1
  replace g0 := (hb3.cell (p := ⟨w.heap.size, 0, none⟩) hwW2).trans g0
  replace g1 := (hb3.cell (p := ⟨w.heap.size, 1, none⟩) hwW2).trans g1
  replace Hr0 := hide ((hb3.block (w.heap.size + 1) (by omega)).trans (unhide Hr0))
  have hbw3 : Below w.heap.size w w3 := hbW2.trans (hb3.mono (by omega))
  have hl3 : w2.heap.size < w3.heap.size := by omega
  have hl3' : w.heap.size < w3.heap.size := by omega
  have hl3'' : w.heap.size + 1 < w3.heap.size := by omega
  have Hin := hide hI
  obtain ⟨i3, hi3, hz3, hz4, hz5⟩ := info_parts Try.info3
  clear hI
  generalize hRe : rL fs rs = R at *
  have HRe := hide hRe
  clear hRe
  go_wp2
  go_loopw [7, 8, 9] (fun v t i wr => ∃ k : Nat, k ≤ R.length ∧ i = .int .i64 k ∧ t = .int .i64 ((fgP R k).2 : Nat) ∧ wr.ownsRow w3.heap.size 3 1 v (fgP R k).1.length (intsV (fgP R k).1) ∧ Below w3.heap.size w3 wr) (fun _ _ i _ => R.length - (intOf i).toNat)
  case atStart => exact ⟨0, Nat.zero_le _, rfl, by simp [fgP], by simp [fgP, intsV]; exact World.ownsRow_nil _ _ _ _, Below.refl _ _⟩
  case round =>
  obtain ⟨k, hk, rfl, rfl, hown, hb⟩ := hrel
  have hsz := hb.size
  have hkl := fgP_len R k
  have hkt := fgP_le R k
  by_cases hlt : k < R.length
  · have hI2 := (unhide Hin).below hb
    have Hc3 := hide (has_c la lc R (k : Int) w3.heap.size wr hI2)
    have hkI : (k : Int) < (R.length : Int) := by omega
    have hmx : (fgP R k).1.length + 1 ≤ maxLen := by simp only [maxLen]; omega
    have hmy : ((fgP R k).1.length + 1) * 8 ≤ 140737488355328 := by omega
    by_cases hm : (k : Int) ∈ R
    · have dm : decide ((k : Int) ∈ R) = true := by simpa using hm
      rw [dm] at Hc3
      have HT := hide (fgP_yes hm)
      clear hI2 hkl
      go_wp2_with fail
      refine (unhide Hc3).mono ?_
      rintro e w4 ⟨rfl, hw4⟩
      obtain rfl := hw4.symm
      clear Hc3
      go_wp2_with (at_builtin; go_must (refine wpList_append_own _ rfl _ _ 38 rfl w3.heap.size 3 i3 _ 1 8 Try.underlying38 hi3 hz3 hz4 hz5 rfl (by decide) _ _ _ rfl (hown.alloc _) ⟨wr.heap.size, 0, none⟩ 1 1 [.int .i64 k] rfl rfl (cell_one_at _ _ _ _ (by simp)) (by simp [Value.oneCell']) hmx hmy (by simp; omega) ?_); intro v' w1' hown' hgrow _)
      go_roundw
      case rel => exact ⟨k + 1, by omega, by go_num, by rw [unhide HT], by rw [unhide HT, intsV_snoc, List.length_append]; exact hown', (hb.alloc hsz _).grown hgrow (by simp; omega) (fun q e => (hown.lt q e).1)⟩
      case measure => simp [intOf]; omega
    · have dm : decide ((k : Int) ∈ R) = false := by simpa using hm
      rw [dm] at Hc3
      have HT := hide (fgP_no hm)
      have hix : R.length - ((fgP R k).2 + 1) < R.length := by omega
      obtain ⟨b, off, rfl, hbB, hcl⟩ := hI2.at hix
      have hgd : R.getD (R.length - ((fgP R k).2 + 1)) 0 = R[R.length - ((fgP R k).2 + 1)] := by rw [List.getD_eq_getElem?_getD, List.getElem?_eq_getElem hix]; rfl
      rw [hgd] at HT
      have hwr1 : IntKind.i64.wrap (((fgP R k).2 : Int) + 1) = ((fgP R k).2 : Int) + 1 := by rw [IntKind.wrap_i64]; omega
      have hwr2 : IntKind.i64.wrap ((R.length : Int) - (((fgP R k).2 : Int) + 1)) = ((R.length - ((fgP R k).2 + 1) : Nat) : Int) := by rw [IntKind.wrap_i64]; omega
      have Htn : Hid (((fgP R (k + 1)).2 : Int) = ((fgP R k).2 : Int) + 1) := by show _ = _; rw [fgP_no hm]; simp
      generalize R[R.length - ((fgP R k).2 + 1)] = x at *
      generalize hje : R.length - ((fgP R k).2 + 1) = j at *
      have hjI : (j : Int) < (R.length : Int) := by omega
      have hbl : b < wr.heap.size := by omega
      clear hI2 hkl hgd hje
      go_wp2_with fail
      refine (unhide Hc3).mono ?_
      rintro e w4 ⟨rfl, hw4⟩
      obtain rfl := hw4.symm
      clear Hc3
      go_wp2_with (at_builtin; go_must (refine wpList_append_own _ rfl _ _ 38 rfl w3.heap.size 3 i3 _ 1 8 Try.underlying38 hi3 hz3 hz4 hz5 rfl (by decide) _ _ _ rfl (hown.alloc _) ⟨wr.heap.size, 0, none⟩ 1 1 [.int .i64 x] rfl rfl (cell_one_at _ _ _ _ (by simp)) (by simp [Value.oneCell']) hmx hmy (by simp; omega) ?_); intro v' w1' hown' hgrow _)
      go_roundw
      case rel => exact ⟨k + 1, by omega, by go_num, by rw [unhide Htn], by rw [unhide HT, intsV_snoc, List.length_append]; exact hown', (hb.alloc hsz _).grown hgrow (by simp; omega) (fun q e => (hown.lt q e).1)⟩
      case measure => simp [intOf]; omega
  · obtain rfl : k = R.length := by omega
    have hown2 : wr.ownsRow w3.heap.size 3 1 u7 (fgL R).length (intsV (fgL R)) := hown
    obtain ⟨a', cap', hv, hV', _⟩ := ints_of_owns hown2 rfl (by rw [fgL_len]; omega)
    subst hv
    replace k0 := (hb.cell (p := ⟨w2.heap.size, 0, none⟩) hl3).trans k0
    replace k1 := (hb.cell (p := ⟨w2.heap.size, 1, none⟩) hl3).trans k1
    replace g0 := (hb.cell (p := ⟨w.heap.size, 0, none⟩) hl3').trans g0
    replace g1 := (hb.cell (p := ⟨w.heap.size, 1, none⟩) hl3').trans g1
    replace Hr0 := hide ((hb.block (w.heap.size + 1) hl3'').trans (unhide Hr0))
    have hbwr : Below w.heap.size w wr := hbw3.trans (hb.mono (by omega))
    have hlr : w2.heap.size < wr.heap.size := by omega
    have hlr' : w.heap.size < wr.heap.size := by omega
    have hlr'' : w.heap.size + 1 < wr.heap.size := by omega
    have hb2r : Below W2.heap.size W2 wr := hb3.trans (hb.mono hs3)
    have Htt : Hid ((fgP R R.length).2 = fgT (rL fs rs)) := by show _ = _; rw [unhide HRe]; rfl
    obtain rfl := unhide HRe
    generalize (fgP (rL fs rs) (rL fs rs).length).2 = tt at *
    have hOl2 : (fgL (rL fs rs)).length ≤ 256 := by rw [fgL_len]; exact hOl
    have hO3 : Objs wr.heap.size wr ao (readG fs rs).objs := ((unhide HO).below hb2r).mono hb2r.size
    have hV3 : Vals wr.heap.size wr ar2 (readG fs rs).roots := ((unhide HV).below hb2r).mono hb2r.size
    have HcA : Hid (∀ X, Below wr.heap.size wr X → Calls Try.prog 31 #[.agg #[.slice ao (readG fs rs).objs.length co, .slice ar2 (readG fs rs).roots.length cr2], .slice a' (fgL (rL fs rs)).length cap'] X fun e w' => ∃ v, e = .returned v ∧ RnS X (readG fs rs) (fgL (rL fs rs)) v w') := by
      intro X hb
      refine (renum_c ao ar2 a' co cr2 cap' (readG fs rs) (fgL (rL fs rs)) X ((hO3.below hb).mono hb.size) ((hV3.below hb).mono hb.size) ((hV'.below hb).mono hb.size) (unhide HG) hOl2 (fun o ho => (unhide HWh).rng o ho)).mono ?_
      rintro e w' ⟨x1, x2, x3, x4, rfl, ⟨base, es, _, hrow⟩, h6, _, h8⟩
      obtain ⟨va, vc, hv, hO'⟩ := hrow.objs (by have := (good_ren (unhide HG) (unhide HWh)).n24; exact Nat.le_trans this (by omega))
      injection hv with h1 _ h3
      subst h1 h3
      exact ⟨_, rfl, _, _, _, _, rfl, hO', h6, h8⟩
    have HcH : Hid (∀ X, Below wr.heap.size wr X → Calls Try.prog 32 #[.agg #[.slice aw ws.length cw, .slice ar rs.length cr], .slice a' (fgL (rL fs rs)).length cap', .int .i64 0] X fun e w' => ∃ v, e = .returned v ∧ HdS X hs (fgL (rL fs rs)) v w') := by
      intro X hb
      have hbX : Below w.heap.size w X := hbwr.trans (hb.mono (by omega))
      refine (headsOf0_c aw ar a' cw rs.length cr cap' ws hs fs (fgL (rL fs rs)) X.heap.size X ((hW.below (hbX.mono hB)).mono (by have := hbX.size; omega)) hUW (Nat.le_refl _) (unhide HA).fit (unhide Hws) h256 ((hV'.below hb).mono hb.size) (unhide HR) hOl2).mono ?_
      rintro e w' ⟨⟨a, c, rfl, h1⟩, h2⟩
      exact ⟨_, rfl, a, c, rfl, h1, h2⟩
    have HcL := hide (fun X ao ar ah co cr ch h1 h2 h3 => lay_fing (unhide HA) ao ar ah co cr ch X h1 h2 h3)
    clear hW2 hb3 hO3 hV3 hV' HO HV Hc2 hW hR
    generalize readG fs rs = g at *
    go_wp2_with fail
    have hbd : Below wr.heap.size wr wr.drew := (Below.refl _ _).drew
    have hbwd : Below w.heap.size w wr.drew := hbwr.trans (hbd.mono (by omega))
    go_region_law (first
      | (refine step_call rfl 31 #[.agg #[.slice ao g.objs.length co, .slice ar2 g.roots.length cr2], .slice a' (fgL (rL fs rs)).length cap'] (by go_simp) (fun v w' => RnS wr.drew g (fgL (rL fs rs)) v w') (unhide HcA _ hbd) ?_; rintro vA wA ⟨a6, c6, r6, d6, rfl, hOA, hVA, hbA⟩; have hsA := hbA.size; have hb3A : Below wr.heap.size wr wA := hbd.trans hbA; have g0A := (hbA.cell (p := ⟨w.heap.size, 0, none⟩) hlr').trans g0; have g1A := (hbA.cell (p := ⟨w.heap.size, 1, none⟩) hlr').trans g1)
      | (refine step_call rfl 32 #[.agg #[.slice aw ws.length cw, .slice ar rs.length cr], .slice a' (fgL (rL fs rs)).length cap', .int .i64 0] (by go_simp) (fun v w' => HdS wr.drew hs (fgL (rL fs rs)) v w') (unhide HcH _ hbd) ?_; rintro vH wH ⟨ha, hc, rfl, hHH0, hbH0⟩; have hsH0 := hbH0.size; have hb3H : Below wr.heap.size wr wH := hbd.trans hbH0; have k0H := (hbH0.cell (p := ⟨w2.heap.size, 0, none⟩) hlr).trans k0; have k1H := (hbH0.cell (p := ⟨w2.heap.size, 1, none⟩) hlr).trans k1)
      | (refine step_call rfl 32 #[.agg #[.slice aw ws.length cw, .slice ar rs.length cr], .slice a' (fgL (rL fs rs)).length cap', .int .i64 0] (by go_simp) (fun v w' => HdS wA hs (fgL (rL fs rs)) v w') (unhide HcH _ hb3A) ?_; rintro vH wH ⟨ha, hc, rfl, hHH, hbH⟩; have hsH := hbH.size; have hOH := (hOA.below hbH).mono hbH.size; have hVH := (hVA.below hbH).mono hbH.size; have hb3Z : Below wr.heap.size wr wH := hb3A.trans (hbH.mono hsA))
      | (refine step_call rfl 31 #[.agg #[.slice ao g.objs.length co, .slice ar2 g.roots.length cr2], .slice a' (fgL (rL fs rs)).length cap'] (by go_simp) (fun v w' => RnS wH g (fgL (rL fs rs)) v w') (unhide HcA _ hb3H) ?_; rintro vA wA ⟨a6, c6, r6, d6, rfl, hOA1, hVA1, hbA1⟩; have hsA1 := hbA1.size; have hHA := (hHH0.below hbA1).mono hbA1.size; have hb3Z : Below wr.heap.size wr wA := hb3H.trans (hbA1.mono hsH0))
      | (refine step_call rfl 30 #[.agg #[.slice a6 (renL g (fgL (rL fs rs))).objs.length c6, .slice r6 (renL g (fgL (rL fs rs))).roots.length d6], .slice ha (fgL (rL fs rs)).length hc] (by go_simp) (fun v w' => LyS wH (fuL hs fs rs) (fuR fs rs) v w') (unhide HcL _ _ _ _ _ _ _ hOH hVH hHH) ?_; rintro vL w5 ⟨aw', cw', ar', cr', rfl, h1, h2, hbL⟩; have hbZ : Below wr.heap.size wr w5 := hb3Z.trans (hbL.mono hb3Z.size); have hs5 := hbZ.size; have hrb5 : w5.heap[w.heap.size + 1]? = some (.cells #[.slice none 0 0, .slice none 0 0] 24) := (hbZ.block (w.heap.size + 1) (by omega)).trans (unhide Hr0); have r0 : w5.cell? ⟨w.heap.size + 1, 0, none⟩ = some (.slice none 0 0) := by { rw [cell_of_row w5 (w.heap.size + 1) 0 _ 24 (0, 0) hrb5]; rfl }; have r1 : w5.cell? ⟨w.heap.size + 1, 1, none⟩ = some (.slice none 0 0) := by { rw [cell_of_row w5 (w.heap.size + 1) 1 _ 24 (0, 0) hrb5]; rfl }; have z0 : w5.frozen? ⟨w.heap.size + 1, 0, none⟩ = false := frozen_of_row _ _ 0 _ 24 hrb5; have z1 : w5.frozen? ⟨w.heap.size + 1, 1, none⟩ = false := frozen_of_row _ _ 1 _ 24 hrb5; have hl5 : w.heap.size + 1 < w5.heap.size := by omega)
      | (refine step_call rfl 30 #[.agg #[.slice a6 (renL g (fgL (rL fs rs))).objs.length c6, .slice r6 (renL g (fgL (rL fs rs))).roots.length d6], .slice ha (fgL (rL fs rs)).length hc] (by go_simp) (fun v w' => LyS wA (fuL hs fs rs) (fuR fs rs) v w') (unhide HcL _ _ _ _ _ _ _ hOA1 hVA1 hHA) ?_; rintro vL w5 ⟨aw', cw', ar', cr', rfl, h1, h2, hbL⟩; have hbZ : Below wr.heap.size wr w5 := hb3Z.trans (hbL.mono hb3Z.size); have hs5 := hbZ.size; have hrb5 : w5.heap[w.heap.size + 1]? = some (.cells #[.slice none 0 0, .slice none 0 0] 24) := (hbZ.block (w.heap.size + 1) (by omega)).trans (unhide Hr0); have r0 : w5.cell? ⟨w.heap.size + 1, 0, none⟩ = some (.slice none 0 0) := by { rw [cell_of_row w5 (w.heap.size + 1) 0 _ 24 (0, 0) hrb5]; rfl }; have r1 : w5.cell? ⟨w.heap.size + 1, 1, none⟩ = some (.slice none 0 0) := by { rw [cell_of_row w5 (w.heap.size + 1) 1 _ 24 (0, 0) hrb5]; rfl }; have z0 : w5.frozen? ⟨w.heap.size + 1, 0, none⟩ = false := frozen_of_row _ _ 0 _ 24 hrb5; have z1 : w5.frozen? ⟨w.heap.size + 1, 1, none⟩ = false := frozen_of_row _ _ 1 _ 24 hrb5; have hl5 : w.heap.size + 1 < w5.heap.size := by omega))
    all_goals
      have hnn : NoNum w5 (w.heap.size + 1) := ⟨_, 24, hrb5, fun i k x => by
        match i with
        | 0 => simp
        | 1 => simp
        | i + 2 => simp⟩
      have Hfin : Hid (∀ W, W = (w5.setCell ⟨w.heap.size + 1, 0, none⟩ (.slice aw' (fuL hs fs rs).length cw')).setCell ⟨w.heap.size + 1, 1, none⟩ (.slice ar' (fuR fs rs).length cr') → RSq (fuL hs fs rs) (fuR fs rs) (fgT (rL fs rs)) (.returned (.tuple #[.agg #[.slice aw' (fuL hs fs rs).length cw', .slice ar' (fuR fs rs).length cr'], .int .i64 (tt : Nat)])) W ∧ Below w.heap.size w W) := fun W h => by
        subst h
        have hsz5 : ((w5.setCell ⟨w.heap.size + 1, 0, none⟩ (.slice aw' (fuL hs fs rs).length cw')).setCell ⟨w.heap.size + 1, 1, none⟩ (.slice ar' (fuR fs rs).length cr')).heap.size = w5.heap.size := by simp [World.setCell]
        have hn1 := hnn.set (j := 0) (u := .slice aw' (fuL hs fs rs).length cw') (by simp)
        refine ⟨⟨aw', cw', ar', cr', by rw [unhide Htt], ?_, ?_⟩, ((hbwr.trans (hbZ.mono (by omega))).setCell (p := ⟨w.heap.size + 1, 0, none⟩) (by simp) _).setCell (p := ⟨w.heap.size + 1, 1, none⟩) (by simp) _⟩
        · rw [hsz5]; exact hn1.wds (hnn.wds h1 _) _
        · rw [hsz5]; exact hn1.wds (hnn.wds h2 _) _
      clear h1 h2 hnn hrb5
      generalize (fuL hs fs rs).length = n at *
      generalize (fuR fs rs).length = m at *
      go_wp2
      exact bodyPost_ret (v := .tuple #[.agg #[.slice aw' n cw', .slice ar' m cr'], .int .i64 (tt : Nat)]) (by simp [results, Try.results10, go_sem, r0, r1]) rfl (unhide Hfin _ rfl)

end Go.Proofs.Ytemjhdbmcdlpeaa

/- Walks: FingersTells. -/
namespace Go.Proofs.Ytemjhdbmcdlpeaa
set_option linter.unusedSimpArgs false
set_option linter.unusedVariables false
open Go.RowKit Go.Shelf

theorem SqRes.use {base : Nat} {ws rs : List Int} {F : Int} {e : Ending} {W : World} (h : SqRes base ws rs F e W) : (∃ E, E ≠ 0 ∧ e = .returned (.tuple #[.agg #[.slice none 0 0, .slice none 0 0], .int .i64 0, .int .i64 E]) ∧ ((arenaE ws rs = E) ∨ (arenaE ws rs = 0 ∧ (F < 0 ∨ 4 < F) ∧ E = 3) ∨ (arenaE ws rs = 0 ∧ 0 ≤ F ∧ F ≤ 4 ∧ E = 4 ∧ ∃ hs fs, Arn hs fs rs ∧ ws = joinW hs fs ∧ ¬ Unif (F.toNat + 1) fs))) ∨
    (arenaE ws rs = 0 ∧ 0 ≤ F ∧ F ≤ 4 ∧ ∃ hs fs a c a' c', Arn hs fs rs ∧ ws = joinW hs fs ∧ Unif (F.toNat + 1) fs ∧ e = .returned (.tuple #[.agg #[.slice a (fuL hs fs rs).length c, .slice a' (fuR fs rs).length c'], .int .i64 (fgT (rL fs rs) : Nat), .int .i64 0]) ∧ Wds W.heap.size W a (fuL hs fs rs) ∧ Wds W.heap.size W a' (fuR fs rs) ∧ (fuL hs fs rs).length ≤ c) := by
  rcases h with ⟨h1, h2⟩ | ⟨h1, h2, h3⟩ | ⟨h1, h2, h3, hs, fs, hA, hws, ⟨h4, h5⟩ | ⟨h4, a, c, a', c', h5, h6, h7, h8⟩⟩
  · exact .inl ⟨_, h1, h2, .inl rfl⟩
  · exact .inl ⟨3, by simp, h3, .inr (.inl ⟨h1, h2, rfl⟩)⟩
  · exact .inl ⟨4, by simp, h5, .inr (.inr ⟨h1, h2, h3, rfl, hs, fs, hA, hws, h4⟩)⟩
  · exact .inr ⟨h1, h2, h3, hs, fs, a, c, a', c', hA, hws, h4, by rw [h5]; simp [fuR, sR], h6.1, h8.1, h7⟩

set_option maxRecDepth 100000 in
set_option maxHeartbeats 8000000 in
theorem ftells_c (aw ar : Option Addr) (cw cr : Nat) (ws rs : List Int) (F : Int) (w : World) (hW : Wds w.heap.size w aw ws) (hR : Wds w.heap.size w ar rs) (hUW : U64 ws) (hUR : U64 rs) (hcap : ws.length ≤ cw) :
    Calls Try.prog 3 #[.agg #[.slice aw ws.length cw, .slice ar rs.length cr], .int .i64 F] w fun e w' => e = .returned (.bool true) ∧ Below w.heap.size w w' := by
  obtain ⟨W1, hW1⟩ : ∃ W1, w.alloc (.cells #[.slice aw ws.length cw, .slice ar rs.length cr] 24) = W1 := ⟨_, rfl⟩
  have hb1 : Below w.heap.size w W1 := by rw [← hW1]; exact (Below.refl w.heap.size w).alloc (Nat.le_refl _) _
  have hs1 : w.heap.size < W1.heap.size := by rw [← hW1]; simp
  have g0 : W1.cell? ⟨w.heap.size, 0, none⟩ = some (.slice aw ws.length cw) := by rw [← hW1]; simp [go_sem]
  have g1 : W1.cell? ⟨w.heap.size, 1, none⟩ = some (.slice ar rs.length cr) := by rw [← hW1]; simp [go_sem]
  have Hc1 := hide (squeeze_c aw ar cw cr ws rs F w.heap.size W1 (hW.below hb1) (hR.below hb1) hUW hUR (by omega) hcap)
  go_enter Try.func3, Try.ntmps3
  go_wp2_with fail
  refine (unhide Hc1).mono ?_
  rintro e w2 ⟨hres, hb2⟩
  have hs2 := hb2.size
  have hbw2 : Below w.heap.size w w2 := hb1.trans (hb2.mono (by omega))
  replace g0 := (hb2.cell (p := ⟨w.heap.size, 0, none⟩) hs1).trans g0
  replace g1 := (hb2.cell (p := ⟨w.heap.size, 1, none⟩) hs1).trans g1
  have hl2 : w.heap.size < w2.heap.size := by omega
  clear hb1 hb2 Hc1 hW1
  rcases hres.use with ⟨E, hE0, he, hcase⟩ | ⟨hE, hF0, hF4, hs, fs, ba, bc, ba', bc', hA, hws, hU, he, hBL, hBR, _⟩
  · subst he
    clear hres
    obtain ⟨W2, hW2⟩ : ∃ W2, w2.alloc (.cells #[.slice none 0 0, .slice none 0 0] 24) = W2 := ⟨_, rfl⟩
    have hb2' : Below w2.heap.size w2 W2 := by rw [← hW2]; exact (Below.refl _ w2).alloc (Nat.le_refl _) _
    have hs2' : w2.heap.size < W2.heap.size := by rw [← hW2]; simp
    have k0 : W2.cell? ⟨w2.heap.size, 0, none⟩ = some (.slice none 0 0) := by rw [← hW2]; simp [go_sem]
    have k1 : W2.cell? ⟨w2.heap.size, 1, none⟩ = some (.slice none 0 0) := by rw [← hW2]; simp [go_sem]
    have hbW2 : Below w.heap.size w W2 := hbw2.trans (hb2'.mono (by omega))
    have hwW2 : w.heap.size < W2.heap.size := by omega
    have Hc3 := hide (rcheck_c aw ar cw cr ws rs w.heap.size W2 (hW.below hbW2) (hR.below hbW2) hUW hUR (by omega))
    have Hc7 : Hid (∀ W : World, Calls Try.prog 9 #[.agg #[.slice none 0 0, .slice none 0 0], .agg #[.slice none 0 0, .slice none 0 0]] W fun e w' => e = .returned (.bool true) ∧ Below W.heap.size W w') := fun W => by
      have := arenas_eq_c none none none none 0 0 0 0 [] [] [] [] W.heap.size W (wds_nil rfl) (wds_nil rfl) (wds_nil rfl) (wds_nil rfl) (Nat.le_refl _)
      simp only [decide_true, Bool.and_self] at this
      exact this
    have HW2 := hide hW2
    clear hW2
    have dE : (E != 0) = true := by simpa using hE0
    have dE' : (E == 0) = false := by simpa using hE0
    have dEE : (E == E) = true := by simp
    have d00 : ((0 : Int) == 0) = true := by simp
    clear hbw2
    rcases hcase with hEq | ⟨hEq, hF, rfl⟩ | ⟨hEq, hF0, hF4, rfl, hs, fs, hA, hws, hU⟩
    · rw [hEq] at Hc3
      clear hEq
      go_wp2_with fail
      rw [unhide HW2]
      refine (unhide Hc3).mono ?_
      rintro e w4 ⟨he, hb4⟩
      subst he
      have hs4 := hb4.size
      have hbw4 : Below w.heap.size w w4 := hbW2.trans (hb4.mono (by omega))
      replace g0 := (hb4.cell (p := ⟨w.heap.size, 0, none⟩) hwW2).trans ((hb2'.cell (p := ⟨w.heap.size, 0, none⟩) hl2).trans g0)
      replace g1 := (hb4.cell (p := ⟨w.heap.size, 1, none⟩) hwW2).trans ((hb2'.cell (p := ⟨w.heap.size, 1, none⟩) hl2).trans g1)
      replace k0 := (hb4.cell (p := ⟨w2.heap.size, 0, none⟩) hs2').trans k0
      replace k1 := (hb4.cell (p := ⟨w2.heap.size, 1, none⟩) hs2').trans k1
      have hw4 : w.heap.size < w4.heap.size := by omega
      have hw4' : w2.heap.size < w4.heap.size := by omega
      clear Hc3 hb4 hb2'
      go_wp2_with fail
      refine (unhide Hc7 _).mono ?_
      rintro e w7 ⟨he, hb7⟩
      subst he
      clear Hc7
      go_wp2
      go_ret
      exact ⟨rfl, hbw4.trans (hb7.mono (by have := hbw4.size; omega))⟩
    · rw [hEq] at Hc3
      clear hEq
      go_wp2_with fail
      rw [unhide HW2]
      refine (unhide Hc3).mono ?_
      rintro e w4 ⟨he, hb4⟩
      subst he
      have hs4 := hb4.size
      have hbw4 : Below w.heap.size w w4 := hbW2.trans (hb4.mono (by omega))
      replace g0 := (hb4.cell (p := ⟨w.heap.size, 0, none⟩) hwW2).trans ((hb2'.cell (p := ⟨w.heap.size, 0, none⟩) hl2).trans g0)
      replace g1 := (hb4.cell (p := ⟨w.heap.size, 1, none⟩) hwW2).trans ((hb2'.cell (p := ⟨w.heap.size, 1, none⟩) hl2).trans g1)
      replace k0 := (hb4.cell (p := ⟨w2.heap.size, 0, none⟩) hs2').trans k0
      replace k1 := (hb4.cell (p := ⟨w2.heap.size, 1, none⟩) hs2').trans k1
      have hw4 : w.heap.size < w4.heap.size := by omega
      have hw4' : w2.heap.size < w4.heap.size := by omega
      clear Hc3 hb4 hb2'
      have d33 : ((3 : Int) == 3) = true := by simp
      rcases hF with hF | hF
      · have d1 : decide (F < 0) = true := by simpa using hF
        go_wp2_with fail
        refine (unhide Hc7 _).mono ?_
        rintro e w7 ⟨he, hb7⟩
        subst he
        clear Hc7
        go_wp2
        go_ret
        exact ⟨rfl, hbw4.trans (hb7.mono (by have := hbw4.size; omega))⟩
      · have d1 : decide (F < 0) = false := by simp; omega
        have d2 : decide (F > 4) = true := by simp; omega
        have d3 : decide (4 < F) = true := by simp; omega
        go_wp2_with fail
        refine (unhide Hc7 _).mono ?_
        rintro e w7 ⟨he, hb7⟩
        subst he
        clear Hc7
        go_wp2
        go_ret
        exact ⟨rfl, hbw4.trans (hb7.mono (by have := hbw4.size; omega))⟩
    · rw [hEq] at Hc3
      have d1 : decide (F < 0) = false := by simp; omega
      have d2 : decide (F > 4) = false := by simp; omega
      have d3 : decide (4 < F) = false := by simp; omega
      have hjl : tot fs = ws.length := by rw [hws, joinW_len _ _ hA.fit.len]
      have h256 : ws.length ≤ 256 := by have := hA.n256; omega
      have hfl := hA.fit.len
      have Hhd : Hid (∀ X, Below w.heap.size w X → Calls Try.prog 8 #[.agg #[.slice aw ws.length cw, .slice ar rs.length cr]] X fun e w' => (∃ a c, e = .returned (.slice a hs.length c) ∧ Hdrs w'.heap.size w' a (headsH hs)) ∧ Below X.heap.size X w') := fun X hb => by
        refine (heads_c aw ar cw rs.length cr ws hs fs w.heap.size X (hW.below hb) hUW hb.size hA.fit hws h256).mono ?_
        rintro e w' ⟨⟨v, rfl, hr⟩, hb'⟩
        obtain ⟨a, c, hv, hH⟩ := hdrs_of_owns hr (by rw [headsH_len]) (by have := tot_len fs; omega)
        rw [headsH_len] at hv
        subst hv
        exact ⟨⟨a, c, rfl, hH⟩, hb'⟩
      have Hun : Hid (∀ k, k < hs.length → (headsH hs)[k]? = some ((((fs.getD k []).length : Nat) : Int), uhM (hs.getD k 0), uhA (hs.getD k 0))) := fun k hk => by
        have hkf : k < fs.length := by omega
        obtain ⟨y, hy, h1, h2, _⟩ := fit_at hA.fit hkf
        have e1 : fs.getD k [] = fs[k] := by rw [List.getD_eq_getElem?_getD, List.getElem?_eq_getElem hkf]; rfl
        have e2 : hs.getD k 0 = y := by rw [List.getD_eq_getElem?_getD, hy]; rfl
        rw [e1, e2]
        unfold headsH
        rw [List.getElem?_map, hy]
        simp only [Option.map_some]
        rw [uhL_wlen h1, h2]
      have Hfs : Hid (hs.length = fs.length) := hfl
      have Hwsx := hide hws
      have hn256 : hs.length ≤ 256 := by have := tot_len fs; omega
      clear hEq
      have hU0 := hide hU
      clear hws hjl hfl
      go_wp2_with fail
      rw [unhide HW2]
      refine (unhide Hc3).mono ?_
      rintro e w4 ⟨he, hb4⟩
      subst he
      have hs4 := hb4.size
      have hbw4 : Below w.heap.size w w4 := hbW2.trans (hb4.mono (by omega))
      replace g0 := (hb4.cell (p := ⟨w.heap.size, 0, none⟩) hwW2).trans ((hb2'.cell (p := ⟨w.heap.size, 0, none⟩) hl2).trans g0)
      replace g1 := (hb4.cell (p := ⟨w.heap.size, 1, none⟩) hwW2).trans ((hb2'.cell (p := ⟨w.heap.size, 1, none⟩) hl2).trans g1)
      replace k0 := (hb4.cell (p := ⟨w2.heap.size, 0, none⟩) hs2').trans k0
      replace k1 := (hb4.cell (p := ⟨w2.heap.size, 1, none⟩) hs2').trans k1
      have hw4 : w.heap.size < w4.heap.size := by omega
      have hw4' : w2.heap.size < w4.heap.size := by omega
      clear Hc3 hb4
      go_wp2_with fail
      refine (unhide Hhd w4 hbw4).mono ?_
      rintro e w5 ⟨⟨ha, hc, rfl, hH⟩, hb5⟩
      have hs5 := hb5.size
      have hbw5 : Below w.heap.size w w5 := hbw4.trans (hb5.mono (by omega))
      replace g0 := (hb5.cell (p := ⟨w.heap.size, 0, none⟩) hw4).trans g0
      replace g1 := (hb5.cell (p := ⟨w.heap.size, 1, none⟩) hw4).trans g1
      replace k0 := (hb5.cell (p := ⟨w2.heap.size, 0, none⟩) hw4').trans k0
      replace k1 := (hb5.cell (p := ⟨w2.heap.size, 1, none⟩) hw4').trans k1
      have hw5 : w.heap.size < w5.heap.size := by omega
      have hw5' : w2.heap.size < w5.heap.size := by omega
      have HH := hide hH
      have hb54 := hb5
      clear hH hb5 Hhd
      go_wp2
      go_loopw [8, 37] (fun x i wr => ∃ k : Nat, k ≤ hs.length ∧ i = .int .i64 k ∧ (∃ e : Int, x = .int .i64 e ∧ Hid ((e = 0 ∧ ∀ j, j < k → (((fs.getD j []).length : Nat) : Int) = F) ∨ (e = 4 ∧ ∃ j, j < hs.length ∧ (((fs.getD j []).length : Nat) : Int) ≠ F))) ∧ Below w5.heap.size w5 wr) (fun _ i _ => hs.length - (intOf i).toNat)
      case atStart => exact ⟨0, Nat.zero_le _, rfl, ⟨0, rfl, .inl ⟨rfl, fun j h => by omega⟩⟩, Below.refl _ _⟩
      case round =>
      obtain ⟨k, hk, rfl, ⟨x, rfl, Hx⟩, hb⟩ := hrel
      have hsz := hb.size
      by_cases hlt : k < hs.length
      · have hat := ((unhide HH).below hb).at (k := k) (by rw [headsH_len]; exact hlt)
        obtain ⟨b2, o2, n, m, a, rfl, hB2, hd1, hd2, hd3, He⟩ := hat
        have Hn : Hid (n = (((fs.getD k []).length : Nat) : Int)) := by
          have h1 := unhide Hun k hlt
          rw [List.getElem?_eq_getElem (by rw [headsH_len]; exact hlt), He.out] at h1
          injection h1 with h1
          injection h1 with h1 _
        have hkI : (k : Int) < (hs.length : Int) := by omega
        have hq2 : b2 < wr.heap.size := by omega
        clear He
        by_cases hnF : n = F
        · have d7 : (n != F) = false := by simpa using hnF
          have Hx2 : Hid ((x = 0 ∧ ∀ j, j < k + 1 → (((fs.getD j []).length : Nat) : Int) = F) ∨ (x = 4 ∧ ∃ j, j < hs.length ∧ (((fs.getD j []).length : Nat) : Int) ≠ F)) := by
            rcases unhide Hx with ⟨h1, h2⟩ | h1
            · refine .inl ⟨h1, fun j hj => ?_⟩
              by_cases e : j = k
              · subst e; rw [← unhide Hn]; exact hnF
              · exact h2 j (by omega)
            · exact .inr h1
          clear Hn hnF
          go_wp2
          go_roundw
          case rel => exact ⟨k + 1, by omega, by go_num, ⟨x, rfl, Hx2⟩, hb.alloc hsz _⟩
          case measure => simp [intOf]; omega
        · have d7 : (n != F) = true := by simpa using hnF
          have Hx2 : Hid (((4 : Int) = 0 ∧ ∀ j, j < k + 1 → (((fs.getD j []).length : Nat) : Int) = F) ∨ ((4 : Int) = 4 ∧ ∃ j, j < hs.length ∧ (((fs.getD j []).length : Nat) : Int) ≠ F)) := .inr ⟨rfl, k, hlt, by rw [← unhide Hn]; exact hnF⟩
          clear Hn hnF
          go_wp2
          go_roundw
          case rel => exact ⟨k + 1, by omega, by go_num, ⟨4, rfl, Hx2⟩, hb.alloc hsz _⟩
          case measure => simp [intOf]; omega
      · obtain rfl : k = hs.length := by omega
        have hbwr : Below w.heap.size w wr := hbw5.trans (hb.mono (by omega))
        replace g0 := (hb.cell (p := ⟨w.heap.size, 0, none⟩) hw5).trans g0
        replace g1 := (hb.cell (p := ⟨w.heap.size, 1, none⟩) hw5).trans g1
        replace k0 := (hb.cell (p := ⟨w2.heap.size, 0, none⟩) hw5').trans k0
        replace k1 := (hb.cell (p := ⟨w2.heap.size, 1, none⟩) hw5').trans k1
        have hwr : w.heap.size < wr.heap.size := by omega
        have hwr' : w2.heap.size < wr.heap.size := by omega
        have d44 : ((4 : Int) == 4) = true := by simp
        have hx4 : x = 4 := by
          rcases unhide Hx with ⟨_, h2⟩ | ⟨h1, _⟩
          · exfalso
            apply hU
            intro f hf
            obtain ⟨j, hj, rfl⟩ := List.getElem_of_mem hf
            have h3 := h2 j (by rw [unhide Hfs]; exact hj)
            rw [List.getD_eq_getElem?_getD, List.getElem?_eq_getElem hj, Option.getD_some] at h3
            omega
          · exact h1
        subst hx4
        clear Hx
        go_wp2_with fail
        refine (unhide Hc7 _).mono ?_
        rintro e w7 ⟨he, hb7⟩
        subst he
        clear Hc7
        go_wp2
        go_ret
        exact ⟨rfl, hbwr.trans (hb7.mono (by have := hbwr.size; omega))⟩
  · subst he
    clear hres
    have hEq := hE
    obtain ⟨W2, hW2⟩ : ∃ W2, w2.alloc (.cells #[.slice ba (fuL hs fs rs).length bc, .slice ba' (fuR fs rs).length bc'] 24) = W2 := ⟨_, rfl⟩
    have hb2' : Below w2.heap.size w2 W2 := by rw [← hW2]; exact (Below.refl _ w2).alloc (Nat.le_refl _) _
    have hs2' : w2.heap.size < W2.heap.size := by rw [← hW2]; simp
    have k0 : W2.cell? ⟨w2.heap.size, 0, none⟩ = some (.slice ba (fuL hs fs rs).length bc) := by rw [← hW2]; simp [go_sem]
    have k1 : W2.cell? ⟨w2.heap.size, 1, none⟩ = some (.slice ba' (fuR fs rs).length bc') := by rw [← hW2]; simp [go_sem]
    replace g0 := (hb2'.cell (p := ⟨w.heap.size, 0, none⟩) hl2).trans g0
    replace g1 := (hb2'.cell (p := ⟨w.heap.size, 1, none⟩) hl2).trans g1
    have hbW2 : Below w.heap.size w W2 := hbw2.trans (hb2'.mono (by omega))
    have hwW2 : w.heap.size < W2.heap.size := by omega
    have Hc3 := hide (rcheck_c aw ar cw cr ws rs w.heap.size W2 (hW.below hbW2) (hR.below hbW2) hUW hUR (by omega))
    have HBL := hide ((hBL.below hb2').mono (Nat.le_of_lt hs2'))
    have HBR := hide ((hBR.below hb2').mono (Nat.le_of_lt hs2'))
    clear hBL hBR
    rw [hEq] at Hc3
    have d1 : decide (F < 0) = false := by simp; omega
    have d2 : decide (F > 4) = false := by simp; omega
    have d3 : decide (4 < F) = false := by simp; omega
    have hjl : tot fs = ws.length := by rw [hws, joinW_len _ _ hA.fit.len]
    have h256 : ws.length ≤ 256 := by have := hA.n256; omega
    have hfl := hA.fit.len
    have Hhd : Hid (∀ X, Below w.heap.size w X → Calls Try.prog 8 #[.agg #[.slice aw ws.length cw, .slice ar rs.length cr]] X fun e w' => (∃ a c, e = .returned (.slice a hs.length c) ∧ Hdrs w'.heap.size w' a (headsH hs)) ∧ Below X.heap.size X w') := fun X hb => by
      refine (heads_c aw ar cw rs.length cr ws hs fs w.heap.size X (hW.below hb) hUW hb.size hA.fit hws h256).mono ?_
      rintro e w' ⟨⟨v, rfl, hr⟩, hb'⟩
      obtain ⟨a, c, hv, hH⟩ := hdrs_of_owns hr (by rw [headsH_len]) (by have := tot_len fs; omega)
      rw [headsH_len] at hv
      subst hv
      exact ⟨⟨a, c, rfl, hH⟩, hb'⟩
    have Hun : Hid (∀ k, k < hs.length → (headsH hs)[k]? = some ((((fs.getD k []).length : Nat) : Int), uhM (hs.getD k 0), uhA (hs.getD k 0))) := fun k hk => by
      have hkf : k < fs.length := by omega
      obtain ⟨y, hy, h1, h2, _⟩ := fit_at hA.fit hkf
      have e1 : fs.getD k [] = fs[k] := by rw [List.getD_eq_getElem?_getD, List.getElem?_eq_getElem hkf]; rfl
      have e2 : hs.getD k 0 = y := by rw [List.getD_eq_getElem?_getD, hy]; rfl
      rw [e1, e2]
      unfold headsH
      rw [List.getElem?_map, hy]
      simp only [Option.map_some]
      rw [uhL_wlen h1, h2]
    have Hfs : Hid (hs.length = fs.length) := hfl
    have Hwsx := hide hws
    have hn256 : hs.length ≤ 256 := by have := tot_len fs; omega
    clear hEq
    have hU0 := hide hU
    have HA := hide hA
    have Hws := hide hws
    have HU := hide hU
    have Hsq : Hid (∀ X, Below w.heap.size w X → Calls Try.prog 10 #[.agg #[.slice aw ws.length cw, .slice ar rs.length cr]] X fun e w' => RSq (fuL hs fs rs) (fuR fs rs) (fgT (rL fs rs)) e w' ∧ Below X.heap.size X w') := fun X hb =>
      rsqueeze_c aw ar cw cr ws rs hs fs w.heap.size X (hW.below hb) (hR.below hb) hUW hUR hb.size hA hws
    clear hA hws hU hjl hfl hbw2
    generalize hBLe : fuL hs fs rs = BL at *
    generalize hBRe : fuR fs rs = BR at *
    generalize fgT (rL fs rs) = tt at *
    clear hBLe hBRe
    go_wp2_with fail
    refine (unhide Hc3).mono ?_
    rintro e w4 ⟨he, hb4⟩
    subst he
    clear hW2
    have hs4 := hb4.size
    have hbw4 : Below w.heap.size w w4 := hbW2.trans (hb4.mono (by omega))
    replace g0 := (hb4.cell (p := ⟨w.heap.size, 0, none⟩) hwW2).trans g0
    replace g1 := (hb4.cell (p := ⟨w.heap.size, 1, none⟩) hwW2).trans g1
    replace k0 := (hb4.cell (p := ⟨w2.heap.size, 0, none⟩) hs2').trans k0
    replace k1 := (hb4.cell (p := ⟨w2.heap.size, 1, none⟩) hs2').trans k1
    have hw4 : w.heap.size < w4.heap.size := by omega
    have hw4' : w2.heap.size < w4.heap.size := by omega
    have HB4 := hide (((unhide HBL).below hb4).mono hs4)
    have HR4 := hide (((unhide HBR).below hb4).mono hs4)
    clear Hc3 hb4
    go_wp2_with fail
    refine (unhide Hhd w4 hbw4).mono ?_
    rintro e w5 ⟨⟨ha, hc, rfl, hH⟩, hb5⟩
    have hs5 := hb5.size
    have hbw5 : Below w.heap.size w w5 := hbw4.trans (hb5.mono (by omega))
    replace g0 := (hb5.cell (p := ⟨w.heap.size, 0, none⟩) hw4).trans g0
    replace g1 := (hb5.cell (p := ⟨w.heap.size, 1, none⟩) hw4).trans g1
    replace k0 := (hb5.cell (p := ⟨w2.heap.size, 0, none⟩) hw4').trans k0
    replace k1 := (hb5.cell (p := ⟨w2.heap.size, 1, none⟩) hw4').trans k1
    have hw5 : w.heap.size < w5.heap.size := by omega
    have hw5' : w2.heap.size < w5.heap.size := by omega
    have HH := hide hH
    have hb54 := hb5
    clear hH hb5 Hhd
    go_wp2
    go_loopw [8, 37] (fun x i wr => ∃ k : Nat, k ≤ hs.length ∧ i = .int .i64 k ∧ (∃ e : Int, x = .int .i64 e ∧ Hid ((e = 0 ∧ ∀ j, j < k → (((fs.getD j []).length : Nat) : Int) = F) ∨ (e = 4 ∧ ∃ j, j < hs.length ∧ (((fs.getD j []).length : Nat) : Int) ≠ F))) ∧ Below w5.heap.size w5 wr) (fun _ i _ => hs.length - (intOf i).toNat)
    case atStart => exact ⟨0, Nat.zero_le _, rfl, ⟨0, rfl, .inl ⟨rfl, fun j h => by omega⟩⟩, Below.refl _ _⟩
    case round =>
    obtain ⟨k, hk, rfl, ⟨x, rfl, Hx⟩, hb⟩ := hrel
    have hsz := hb.size
    by_cases hlt : k < hs.length
    · have hat := ((unhide HH).below hb).at (k := k) (by rw [headsH_len]; exact hlt)
      obtain ⟨b2, o2, n, m, a, rfl, hB2, hd1, hd2, hd3, He⟩ := hat
      have Hn : Hid (n = (((fs.getD k []).length : Nat) : Int)) := by
        have h1 := unhide Hun k hlt
        rw [List.getElem?_eq_getElem (by rw [headsH_len]; exact hlt), He.out] at h1
        injection h1 with h1
        injection h1 with h1 _
      have hkI : (k : Int) < (hs.length : Int) := by omega
      have hq2 : b2 < wr.heap.size := by omega
      clear He
      by_cases hnF : n = F
      · have d7 : (n != F) = false := by simpa using hnF
        have Hx2 : Hid ((x = 0 ∧ ∀ j, j < k + 1 → (((fs.getD j []).length : Nat) : Int) = F) ∨ (x = 4 ∧ ∃ j, j < hs.length ∧ (((fs.getD j []).length : Nat) : Int) ≠ F)) := by
          rcases unhide Hx with ⟨h1, h2⟩ | h1
          · refine .inl ⟨h1, fun j hj => ?_⟩
            by_cases e : j = k
            · subst e; rw [← unhide Hn]; exact hnF
            · exact h2 j (by omega)
          · exact .inr h1
        clear Hn hnF
        go_wp2
        go_roundw
        case rel => exact ⟨k + 1, by omega, by go_num, ⟨x, rfl, Hx2⟩, hb.alloc hsz _⟩
        case measure => simp [intOf]; omega
      · have d7 : (n != F) = true := by simpa using hnF
        have Hx2 : Hid (((4 : Int) = 0 ∧ ∀ j, j < k + 1 → (((fs.getD j []).length : Nat) : Int) = F) ∨ ((4 : Int) = 4 ∧ ∃ j, j < hs.length ∧ (((fs.getD j []).length : Nat) : Int) ≠ F)) := .inr ⟨rfl, k, hlt, by rw [← unhide Hn]; exact hnF⟩
        clear Hn hnF
        go_wp2
        go_roundw
        case rel => exact ⟨k + 1, by omega, by go_num, ⟨4, rfl, Hx2⟩, hb.alloc hsz _⟩
        case measure => simp [intOf]; omega
    · obtain rfl : k = hs.length := by omega
      have hbwr : Below w.heap.size w wr := hbw5.trans (hb.mono (by omega))
      replace g0 := (hb.cell (p := ⟨w.heap.size, 0, none⟩) hw5).trans g0
      replace g1 := (hb.cell (p := ⟨w.heap.size, 1, none⟩) hw5).trans g1
      replace k0 := (hb.cell (p := ⟨w2.heap.size, 0, none⟩) hw5').trans k0
      replace k1 := (hb.cell (p := ⟨w2.heap.size, 1, none⟩) hw5').trans k1
      have hwr : w.heap.size < wr.heap.size := by omega
      have hwr' : w2.heap.size < wr.heap.size := by omega
      have hx0 : x = 0 := by
        rcases unhide Hx with ⟨h1, _⟩ | ⟨_, j, hj, h2⟩
        · exact h1
        · exfalso
          apply h2
          have hjf : j < fs.length := by rw [← unhide Hfs]; exact hj
          have := (unhide HU).len hjf
          rw [List.getD_eq_getElem?_getD, List.getElem?_eq_getElem hjf, Option.getD_some]
          omega
      subst hx0
      clear Hx
      have d00 : ((0 : Int) == 0) = true := by simp
      have dtt : ((tt : Int) == (tt : Int)) = true := by simp
      have hb4r : Below w4.heap.size w4 wr := hb54.trans (hb.mono hs5)
      have HB5 := hide (((unhide HB4).below hb4r).mono hb4r.size)
      have HR5 := hide (((unhide HR4).below hb4r).mono hb4r.size)
      have Hs2 := hide (unhide Hsq wr hbwr)
      clear HB4 HR4 Hsq
      go_wp2_with fail
      refine (unhide Hs2).mono ?_
      rintro e w6 ⟨⟨xa, xc, ya, yc, rfl, hx, hy⟩, hb6⟩
      clear Hs2
      have hs6 := hb6.size
      replace k0 := (hb6.cell (p := ⟨w2.heap.size, 0, none⟩) hwr').trans k0
      replace k1 := (hb6.cell (p := ⟨w2.heap.size, 1, none⟩) hwr').trans k1
      have hw6' : w2.heap.size < w6.heap.size := by omega
      have hb6a : Below w6.heap.size w6 (w6.alloc (.cells #[.slice xa BL.length xc, .slice ya BR.length yc] 24)) := (Below.refl _ _).alloc (Nat.le_refl _) _
      have Hc8 : Hid (Calls Try.prog 9 #[.agg #[.slice ba BL.length bc, .slice ba' BR.length bc'], .agg #[.slice xa BL.length xc, .slice ya BR.length yc]] (w6.alloc (.cells #[.slice xa BL.length xc, .slice ya BR.length yc] 24)) fun e w' => e = .returned (.bool true) ∧ Below (w6.alloc (.cells #[.slice xa BL.length xc, .slice ya BR.length yc] 24)).heap.size (w6.alloc (.cells #[.slice xa BL.length xc, .slice ya BR.length yc] 24)) w') := by
        have hsa : w6.heap.size ≤ (w6.alloc (.cells #[.slice xa BL.length xc, .slice ya BR.length yc] 24)).heap.size := hb6a.size
        have := arenas_eq_c ba ba' xa ya bc bc' xc yc BL BR BL BR (w6.alloc (.cells #[.slice xa BL.length xc, .slice ya BR.length yc] 24)).heap.size (w6.alloc (.cells #[.slice xa BL.length xc, .slice ya BR.length yc] 24)) (((((unhide HB5).below hb6).mono hs6).below hb6a).mono hsa) (((((unhide HR5).below hb6).mono hs6).below hb6a).mono hsa) ((hx.below hb6a).mono hsa) ((hy.below hb6a).mono hsa) (Nat.le_refl _)
        simp only [decide_true, Bool.and_self] at this
        exact this
      have hbw6 : Below w.heap.size w (w6.alloc (.cells #[.slice xa BL.length xc, .slice ya BR.length yc] 24)) := hbwr.trans ((hb6.trans (hb6a.mono hs6)).mono (by omega))
      clear HB5 HR5 hx hy hb6
      go_wp2_with fail
      refine (unhide Hc8).mono ?_
      rintro e w7 ⟨he, hb7⟩
      subst he
      go_wp2
      go_ret
      exact ⟨rfl, hbw6.trans (hb7.mono (by have := hbw6.size; omega))⟩

end Go.Proofs.Ytemjhdbmcdlpeaa
