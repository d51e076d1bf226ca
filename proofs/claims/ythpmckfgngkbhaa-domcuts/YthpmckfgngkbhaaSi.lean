/- Walks: the document's answer: Dist. -/
import Derived.Test.YthpmckfgngkbhaaProg
import Derived.Test.YthpmckfgngkbhaaMem
import Derived.Test.YthpmckfgngkbhaaWb
import Derived.Test.YthpmckfgngkbhaaWo
import Derived.Test.YthpmckfgngkbhaaWz
import Derived.Test.YthpmckfgngkbhaaSh
namespace Go.Proofs.Ythpmckfgngkbhaa
set_option linter.unusedSimpArgs false
set_option linter.unusedVariables false
open Go.RowKit

/-- A row of numbers in a block of the call's own. -/
structure DRow (W : World) (b n : Nat) (dl : List Int) : Prop where
  own : W.ownsRow b 3 1 (.slice (some ⟨b, 0, none⟩) n n) n (intsV dl)
  len : dl.length = n

theorem DRow.below {W W' : World} {b n : Nat} {dl : List Int} (h : DRow W b n dl) (hb : Below W.heap.size W W') : DRow W' b n dl :=
  ⟨h.own.kept (grown_of_below hb) (Classical.em _), h.len⟩

theorem DRow.lt {W : World} {b n : Nat} {dl : List Int} (h : DRow W b n dl) : b < W.heap.size := (h.own.lt b rfl).2

theorem DRow.cell {W : World} {b n : Nat} {dl : List Int} (h : DRow W b n dl) {k : Nat} {x : Int} (hx : dl[k]? = some x) : W.cell? ⟨b, k, none⟩ = some (.int .i64 x) := by
  have := h.own.cells (g := b) rfl k (.int .i64 x) (by simp [intsV, hx])
  have hadd : (⟨b, 0, none⟩ : Addr).add k = ⟨b, k, none⟩ := by unfold Addr.add; split <;> simp_all
  rwa [hadd] at this

theorem DRow.set {W : World} {b n : Nat} {dl : List Int} (h : DRow W b n dl) (k : Nat) (x : Int) : DRow (W.setCell ⟨b, k, none⟩ (.int .i64 x)) b n (dl.set k x) := by
  refine ⟨?_, by rw [List.length_set]; exact h.len⟩
  have := (h.own.stored k (.int .i64 x)).1
  have e : intsV (dl.set k x) = (intsV dl).set k (.int .i64 x) := by simp [intsV, List.map_set]
  rw [e]; exact this

theorem DRow.frozen {W : World} {b n : Nat} {dl : List Int} (h : DRow W b n dl) (k : Nat) : W.frozen? ⟨b, k, none⟩ = false := h.own.frozenAt k

theorem made_ints (n : Nat) : (madeCells (Value.int .i64 0).cells (n * 1)).toList = intsV (List.replicate n 0) := by
  rw [Nat.mul_one]
  have hc : (Value.int .i64 0).cells = #[Value.int .i64 0] := rfl
  rw [hc]
  apply List.ext_getElem?
  intro i
  simp only [madeCells, intsV, Array.toList_map, Array.toList_range, List.getElem?_map, List.getElem?_replicate]
  by_cases hi : i < n
  · rw [List.getElem?_range hi, if_pos hi]; simp [Nat.mod_one]
  · rw [List.getElem?_eq_none (by simp; omega), if_neg hi]; rfl

def start1 (g : Gr) (k j : Nat) : Int := if j < k then lev (dG g) 0 j else 0

set_option maxRecDepth 100000 in
set_option maxHeartbeats 4000000 in
theorem refDist_c (ao ar : Option Addr) (co cr : Nat) (g : Gr) (B : Nat) (w : World) (ho : Objs B w ao g.objs) (hr : Vals B w ar g.roots) (hB : B ≤ w.heap.size) (hG : Good g) :
    Calls Try.prog 34 #[.agg #[.slice ao g.objs.length co, .slice ar g.roots.length cr]] w fun e w' => ∃ a cap, e = .returned (.slice a (distL g).length cap) ∧ Ints w'.heap.size w' a (distL g) ∧ Below w.heap.size w w' := by
  obtain ⟨i0, hi, hz0, hz1, hz2⟩ := info_parts Try.info3
  have hn24 := hG.n24
  obtain ⟨W4, hW4⟩ : ∃ W4, w.alloc (.cells #[.slice ao g.objs.length co, .slice ar g.roots.length cr] 25) = W4 := ⟨_, rfl⟩
  have hb0 : Below w.heap.size w W4 := by rw [← hW4]; exact (Below.refl _ _).alloc (Nat.le_refl _) _
  have hs0 : w.heap.size < W4.heap.size := by rw [← hW4]; simp
  have g0 : W4.cell? ⟨w.heap.size, 0, none⟩ = some (.slice ao g.objs.length co) := by rw [← hW4]; simp [go_sem]
  have g1 : W4.cell? ⟨w.heap.size, 1, none⟩ = some (.slice ar g.roots.length cr) := by rw [← hW4]; simp [go_sem]
  go_enter Try.func34, Try.ntmps34
  go_wp2_with (at_make; go_must (refine wpList_make_full _ rfl _ _ 26 rfl W4.heap.size 3 i0 _ 1 Try.underlying26 hi hz0 hz1 .i64 .i64 _ _ g.objs.length rfl rfl rfl rfl (by rw [hz2]; omega) (by simp only [maxLen]; omega) (Nat.le_refl _) ?_); go_must (intro w5 hown hg5))
  clear hW4
  have hb5 : Below W4.heap.size W4 w5 := (Below.refl _ W4).grown hg5 (Nat.le_refl _) (fun k e => by cases e)
  obtain ⟨dl5, hD5⟩ : ∃ dl5, DRow w5 W4.heap.size g.objs.length dl5 := by
    refine ⟨List.replicate g.objs.length 0, ⟨?_, by simp⟩⟩
    have e : (madeCells (Value.int .i64 0).cells (g.objs.length * 1)).toList = intsV (List.replicate g.objs.length 0) := made_ints _
    rw [e] at hown
    exact hown
  clear hown hg5
  go_loopw [4] (fun i wr => ∃ (k : Nat) (dl : List Int), k ≤ g.objs.length ∧ i = .int .i64 k ∧ DRow wr W4.heap.size g.objs.length dl ∧ Hid (∀ j, j < k → dl[j]? = some (lev (dG g) 0 j)) ∧ Below W4.heap.size W4 wr) (fun i _ => g.objs.length - (intOf i).toNat)
  case atStart => exact ⟨0, dl5, Nat.zero_le _, rfl, hD5, fun j hj => by omega, hb5⟩
  case round =>
    clear hD5 hb5
    obtain ⟨k, dl, hk, rfl, hD, Hd, hb⟩ := hrel
    have hsz := hb.size
    have hlt0 := hD.lt
    by_cases hlt : k < g.objs.length
    · have hltd : k < dl.length := by rw [hD.len]; exact hlt
      have hx0 := hD.cell (List.getElem?_eq_getElem hltd)
      have hf0 := hD.frozen k
      have hltI : (k : Int) < (g.objs.length : Int) := by omega
      have hD1 := hD.set k (-1)
      have hb1 : Below W4.heap.size W4 (wr.setCell ⟨W4.heap.size, k, none⟩ (.int .i64 (-1))) := hb.setCell (p := ⟨W4.heap.size, k, none⟩) (Nat.le_refl _) _
      obtain ⟨W6, hW6⟩ : ∃ W6, wr.setCell ⟨W4.heap.size, k, none⟩ (.int .i64 (-1)) = W6 := ⟨_, rfl⟩
      rw [hW6] at hD1 hb1
      have hs6 := hb1.size
      have q1 := (hb1.cell (p := ⟨w.heap.size, 1, none⟩) (by simp; omega)).trans g1
      have hV6 := (hr.below ((hb0.mono hB).trans (hb1.mono (by omega)))).mono (B' := W6.heap.size) (by omega)
      have HL := hide (lev_start hG hlt)
      have Hd1 : Hid (∀ j, j < k → (dl.set k (-1))[j]? = some (lev (dG g) 0 j)) := fun j hj => by rw [List.getElem?_set_ne (by omega)]; exact unhide Hd j hj
      have hl1 : (dl.set k (-1)).length = g.objs.length := hD1.len
      clear hD hb Hd
      cases hrf : refers g.roots (k : Int)
      · have HL : Hid (lev (dG g) 0 k = -1) := by have := unhide HL; rw [hrf] at this; exact this
        go_wp2_with (go_at_call 47; go_must (refine (refers_c ar cr g.roots (k : Int) W6.heap.size W6 hV6 (Nat.le_refl _)).mono ?_); go_must (rintro e w7 ⟨he, hb7⟩; rw [hrf] at he; subst he))
        go_roundw
        case rel =>
          refine ⟨k + 1, dl.set k (-1), by omega, by go_num, hD1.below hb7, ?_, hb1.trans (hb7.mono hs6)⟩
          intro j hj
          rcases Nat.lt_or_ge j k with h | h
          · exact unhide Hd1 j h
          · obtain rfl : j = k := by omega
            rw [List.getElem?_set_self hltd, unhide HL]
        case measure => simp [intOf]; omega
      · have HL : Hid (lev (dG g) 0 k = 0) := by have := unhide HL; rw [hrf] at this; exact this
        go_wp2_with (go_at_call 47; go_must (refine (refers_c ar cr g.roots (k : Int) W6.heap.size W6 hV6 (Nat.le_refl _)).mono ?_); go_must (rintro e w7 ⟨he, hb7⟩; rw [hrf] at he; subst he; have hD7 := hD1.below hb7; have hx7 := hD7.cell (List.getElem?_set_self hltd); have hf7 := hD7.frozen k))
        go_roundw
        case rel =>
          refine ⟨k + 1, (dl.set k (-1)).set k 0, by omega, by go_num, hD7.set k 0, ?_, (hb1.trans (hb7.mono hs6)).setCell (p := ⟨W4.heap.size, k, none⟩) (Nat.le_refl _) _⟩
          intro j hj
          rcases Nat.lt_or_ge j k with h | h
          · rw [List.getElem?_set_ne (by omega)]; exact unhide Hd1 j h
          · obtain rfl : j = k := by omega
            rw [List.getElem?_set_self (by omega), unhide HL]
        case measure => simp [intOf]; omega
    · obtain rfl : k = g.objs.length := by omega
      have Hh : Hid (Holds' dl g.objs.length (lev (dG g) 0)) := ⟨hD.len, unhide Hd⟩
      clear Hd
      go_wp2
      go_loopw [5] (fun i wr => ∃ (s : Nat) (dl : List Int), s ≤ g.objs.length ∧ i = .int .i64 s ∧ DRow wr W4.heap.size g.objs.length dl ∧ Hid (Holds' dl g.objs.length (lev (dG g) s)) ∧ Below W4.heap.size W4 wr) (fun i _ => g.objs.length - (intOf i).toNat)
      case atStart => exact ⟨0, dl, Nat.zero_le _, rfl, hD, Hh, hb⟩
      case round =>
        clear hD hb hsz hlt0 Hh
        obtain ⟨s, dl, hs, rfl, hD, Hh, hb⟩ := hrel
        by_cases hlts : s < g.objs.length
        · have hltI : (s : Int) < (g.objs.length : Int) := by omega
          have Hh : Hid (Holds' dl g.objs.length (mid (dG g) (rG g) s 0)) := (unhide Hh).congr (fun q _ => mid_zero _ _ _ _)
          go_wp2
          go_loopw [6] (fun i wr => ∃ (p : Nat) (dl : List Int), p ≤ g.objs.length ∧ i = .int .i64 p ∧ DRow wr W4.heap.size g.objs.length dl ∧ Hid (Holds' dl g.objs.length (mid (dG g) (rG g) s p)) ∧ Below W4.heap.size W4 wr) (fun i _ => g.objs.length - (intOf i).toNat)
          case atStart => exact ⟨0, dl, Nat.zero_le _, rfl, hD, Hh, hb⟩
          case round =>
            clear hD hb Hh
            obtain ⟨p, dl, hp, rfl, hD, Hh, hb⟩ := hrel
            by_cases hltp : p < g.objs.length
            · have hltpI : (p : Int) < (g.objs.length : Int) := by omega
              obtain ⟨bo, oo, ai, ci, rfl, hboB, hcb, hva⟩ := ho.at hltp
              have Hfs := hide (show fieldsOf g (p : Int) = g.objs[p] by simp [fieldsOf, hltp])
              have HR : Hid (∀ q : Nat, rG g p q = refers g.objs[p] (q : Int)) := fun q => by unfold rG; rw [unhide Hfs]
              generalize g.objs[p] = fs at *
              by_cases hds : dG g p = (s : Int)
              · have Hds := hide hds
                clear hds
                go_wp2
                go_loopw [7] (fun i wr => ∃ (q : Nat) (dl : List Int), q ≤ g.objs.length ∧ i = .int .i64 q ∧ DRow wr W4.heap.size g.objs.length dl ∧ Hid (Holds' dl g.objs.length (fun j => if j < q then mid (dG g) (rG g) s (p + 1) j else mid (dG g) (rG g) s p j)) ∧ Below W4.heap.size W4 wr) (fun i _ => g.objs.length - (intOf i).toNat)
                case atStart => exact ⟨0, dl, Nat.zero_le _, rfl, hD, (unhide Hh).congr (fun q _ => by rw [if_neg (by omega)]), hb⟩
                case round =>
                  clear hD hb Hh
                  obtain ⟨q, dl, hq, rfl, hD, Hh, hb⟩ := hrel
                  have hsz := hb.size
                  have hlt0 := hD.lt
                  have hbw : Below B w wr := (hb0.mono hB).trans (hb.mono (by omega))
                  have hxp : ∃ x, dl[p]? = some x ∧ x = (s : Int) := by
                    refine ⟨_, (unhide Hh).2 p hltp, ?_⟩
                    show (if p < q then mid (dG g) (rG g) s (p + 1) p else mid (dG g) (rG g) s p p) = (s : Int)
                    split <;> exact mid_self.2 (unhide Hds)
                  obtain ⟨x, hxp, hxs⟩ := hxp
                  subst hxs
                  have hcp := hD.cell hxp
                  have dss : ((s : Int) == (s : Int)) = true := by simp
                  by_cases hltq : q < g.objs.length
                  · have hltqI : (q : Int) < (g.objs.length : Int) := by omega
                    have hxq := (unhide Hh).2 q hltq
                    simp only [Nat.lt_irrefl, if_false] at hxq
                    have hmb := mid_bounds (D := dG g) (R := rG g) s p q
                    have hcq := hD.cell hxq
                    have hfq := hD.frozen q
                    have q0 := (hb.cell (p := ⟨w.heap.size, 0, none⟩) (by simp; omega)).trans g0
                    have hcb2 := (hbw.cell (p := ⟨bo, oo + p, none⟩) (by simpa using hboB)).trans hcb
                    have hva2 := (hva.below hbw).mono (B' := wr.heap.size) (by omega)
                    have Hset : Hid (mid (dG g) (rG g) s p q < 0 → refers fs (q : Int) = true → mid (dG g) (rG g) s (p + 1) q = (s : Int) + 1) := fun h1 h2 => mid_set h1 (unhide Hds) (by rw [unhide HR q]; exact h2)
                    have Hkeep : Hid (0 ≤ mid (dG g) (rG g) s p q ∨ refers fs (q : Int) = false → mid (dG g) (rG g) s (p + 1) q = mid (dG g) (rG g) s p q) := fun h => mid_keep (h.imp id (fun h => by rw [unhide HR q]; exact h))
                    have Hnext : Hid (mid (dG g) (rG g) s (p + 1) q = mid (dG g) (rG g) s p q → Holds' dl g.objs.length (fun j => if j < q + 1 then mid (dG g) (rG g) s (p + 1) j else mid (dG g) (rG g) s p j)) := fun h => (unhide Hh).congr (fun j _ => by
                      rcases Nat.lt_trichotomy j q with h1 | h1 | h1
                      · rw [if_pos (by omega), if_pos h1]
                      · subst h1; rw [if_pos (by omega), if_neg (by omega), h]
                      · rw [if_neg (by omega), if_neg (by omega)])
                    have Hnew : Hid (mid (dG g) (rG g) s (p + 1) q = (s : Int) + 1 → Holds' (dl.set q ((s : Int) + 1)) g.objs.length (fun j => if j < q + 1 then mid (dG g) (rG g) s (p + 1) j else mid (dG g) (rG g) s p j)) := fun h => (unhide Hh).set hltq (by rw [if_pos (by omega)]; exact h) (fun j _ hj => by
                      rcases Nat.lt_trichotomy j q with h1 | h1 | h1
                      · rw [if_pos (by omega), if_pos h1]
                      · exact absurd h1 hj
                      · rw [if_neg (by omega), if_neg (by omega)])
                    generalize mid (dG g) (rG g) s p q = y at *
                    generalize mid (dG g) (rG g) s (p + 1) q = y1 at *
                    by_cases hy : y < 0
                    · cases hrf : refers fs (q : Int)
                      · have HN := hide (unhide Hnext (unhide Hkeep (.inr hrf)))
                        go_wp2_with (go_at_call 47; go_must (refine (refers_c ai ci fs (q : Int) wr.heap.size wr hva2 (Nat.le_refl _)).mono ?_); go_must (rintro e w7 ⟨he, hb7⟩; rw [hrf] at he; subst he))
                        go_roundw
                        case rel => exact ⟨q + 1, dl, by omega, by go_num, hD.below hb7, HN, hb.trans (hb7.mono hsz)⟩
                        case measure => simp [intOf]; omega
                      · have HN := hide (unhide Hnew (unhide Hset hy hrf))
                        have hw1 : IntKind.i64.wrap ((s : Int) + 1) = (s : Int) + 1 := by rw [IntKind.wrap_i64]; omega
                        go_wp2_with (go_at_call 47; go_must (refine (refers_c ai ci fs (q : Int) wr.heap.size wr hva2 (Nat.le_refl _)).mono ?_); go_must (rintro e w7 ⟨he, hb7⟩; rw [hrf] at he; subst he; have hD7 := hD.below hb7; have hx7 := hD7.cell hxq; have hf7 := hD7.frozen q))
                        go_roundw
                        case rel => exact ⟨q + 1, dl.set q ((s : Int) + 1), by omega, by go_num, hD7.set q _, HN, (hb.trans (hb7.mono hsz)).setCell (p := ⟨W4.heap.size, q, none⟩) (Nat.le_refl _) _⟩
                        case measure => simp [intOf]; omega
                    · have HN := hide (unhide Hnext (unhide Hkeep (.inl (by omega))))
                      have dy : decide (y < 0) = false := by simp; omega
                      go_wp2
                      go_roundw
                      case rel => exact ⟨q + 1, dl, by omega, by go_num, hD, HN, hb⟩
                      case measure => simp [intOf]; omega
                  · obtain rfl : q = g.objs.length := by omega
                    have HN : Hid (Holds' dl g.objs.length (mid (dG g) (rG g) s (p + 1))) := (unhide Hh).congr (fun j hj => by rw [if_pos hj])
                    go_wp2
                    go_roundw
                    case rel => exact ⟨p + 1, dl, by omega, by go_num, hD, HN, hb⟩
                    case measure => simp [intOf]; omega
              · have HN : Hid (Holds' dl g.objs.length (mid (dG g) (rG g) s (p + 1))) := (unhide Hh).congr (fun j _ => mid_skip hds)
                have Hxp := (unhide Hh).2 p hltp
                have hcp := hD.cell Hxp
                have dne : (mid (dG g) (rG g) s p p == (s : Int)) = false := by simp; exact fun h => hds (mid_self.1 h)
                have hlt0 := hD.lt
                clear hds
                generalize mid (dG g) (rG g) s p p = y at *
                go_wp2
                go_loopw [7] (fun i wq => i = .int .i64 0 ∧ wq = wr) (fun _ _ => 0)
                case atStart => exact ⟨rfl, rfl⟩
                case round =>
                  obtain ⟨rfl, rfl⟩ := hrel
                  go_wp2
                  go_roundw
                  case rel => exact ⟨p + 1, dl, by omega, by go_num, hD, HN, hb⟩
                  case measure => simp [intOf]; omega
            · obtain rfl : p = g.objs.length := by omega
              have HN : Hid (Holds' dl g.objs.length (lev (dG g) (s + 1))) := (unhide Hh).congr (fun j hj => (mid_end hG hj).symm)
              go_wp2
              go_roundw
              case rel => exact ⟨s + 1, dl, by omega, by go_num, hD, HN, hb⟩
              case measure => simp [intOf]; omega
        · obtain rfl : s = g.objs.length := by omega
          have HN : Hid (dl = distL g) := ((unhide Hh).congr (fun j _ => (lev_end hG).symm)).dist
          have hown := hD.own
          rw [unhide HN] at hown
          obtain ⟨a', cap', hv, hV, _⟩ := ints_of_owns hown (distL_len g).symm (by omega)
          have Hv := hide hv
          clear hv
          go_wp2
          go_ret
          exact ⟨a', cap', congrArg Ending.returned (unhide Hv), hV, hb0.trans (hb.mono (by omega))⟩

end Go.Proofs.Ythpmckfgngkbhaa
