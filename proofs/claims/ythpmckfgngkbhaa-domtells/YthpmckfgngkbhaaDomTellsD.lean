/- Merged texts: Si Sj Df Dg Dh Kg Kh Kl Kn Ko. -/
import Derived.Test.YthpmckfgngkbhaaProg
import Derived.Test.YthpmckfgngkbhaaDomTellsC
import Derived.Shelf.SlGeneric
import Derived.Shelf.SlicesE.DeleteFunc
import Derived.Ground.SlgfProg
import Derived.Lib.SliceRun

/- Walks: the document's answer: Dist. -/
namespace Go.Proofs.Ythpmckfgngkbhaa
set_option linter.unusedSimpArgs false
set_option linter.unusedVariables false
open Go.RowKit

/-- A row of numbers in a block of the call's own. -/
structure DRow (W : World) (b n : Nat) (dl : List Int) : Prop where
  own : W.ownsRow b 3 1 (.slice (some ⟨b, 0, none⟩) n n) n (intsV dl)
  len : dl.length = n

theorem DRow.below {W W' : World} {b n : Nat} {dl : List Int} (h : DRow W b n dl) (hb : Below W.heap.size W W') : DRow W' b n dl :=
  ⟨h.own.kept (grown_of_below hb) (Classical.em _), h.len⟩

theorem DRow.lt {W : World} {b n : Nat} {dl : List Int} (h : DRow W b n dl) : b < W.heap.size := (h.own.lt b rfl).2

theorem DRow.cell {W : World} {b n : Nat} {dl : List Int} (h : DRow W b n dl) {k : Nat} {x : Int} (hx : dl[k]? = some x) : W.cell? ⟨b, k, none⟩ = some (.int .i64 x) := by
  have := h.own.cells (g := b) rfl k (.int .i64 x) (by simp [intsV, hx])
  have hadd : (⟨b, 0, none⟩ : Addr).add k = ⟨b, k, none⟩ := by unfold Addr.add; split <;> simp_all
  rwa [hadd] at this

theorem DRow.set {W : World} {b n : Nat} {dl : List Int} (h : DRow W b n dl) (k : Nat) (x : Int) : DRow (W.setCell ⟨b, k, none⟩ (.int .i64 x)) b n (dl.set k x) := by
  refine ⟨?_, by rw [List.length_set]; exact h.len⟩
  have := (h.own.stored k (.int .i64 x)).1
  have e : intsV (dl.set k x) = (intsV dl).set k (.int .i64 x) := by simp [intsV, List.map_set]
  rw [e]; exact this

theorem DRow.frozen {W : World} {b n : Nat} {dl : List Int} (h : DRow W b n dl) (k : Nat) : W.frozen? ⟨b, k, none⟩ = false := h.own.frozenAt k

theorem made_ints (n : Nat) : (madeCells (Value.int .i64 0).cells (n * 1)).toList = intsV (List.replicate n 0) := by
  rw [Nat.mul_one]
  have hc : (Value.int .i64 0).cells = #[Value.int .i64 0] := rfl
  rw [hc]
  apply List.ext_getElem?
  intro i
  simp only [madeCells, intsV, Array.toList_map, Array.toList_range, List.getElem?_map, List.getElem?_replicate]
  by_cases hi : i < n
  · rw [List.getElem?_range hi, if_pos hi]; simp [Nat.mod_one]
  · rw [List.getElem?_eq_none (by simp; omega), if_neg hi]; rfl

def start1 (g : Gr) (k j : Nat) : Int := if j < k then lev (dG g) 0 j else 0

set_option maxRecDepth 100000 in
set_option maxHeartbeats 4000000 in
theorem refDist_c (ao ar : Option Addr) (co cr : Nat) (g : Gr) (B : Nat) (w : World) (ho : Objs B w ao g.objs) (hr : Vals B w ar g.roots) (hB : B ≤ w.heap.size) (hG : Good g) :
    Calls Try.prog 34 #[.agg #[.slice ao g.objs.length co, .slice ar g.roots.length cr]] w fun e w' => ∃ a cap, e = .returned (.slice a (distL g).length cap) ∧ Ints w'.heap.size w' a (distL g) ∧ Below w.heap.size w w' := by
  obtain ⟨i0, hi, hz0, hz1, hz2⟩ := info_parts Try.info3
  have hn24 := hG.n24
  obtain ⟨W4, hW4⟩ : ∃ W4, w.alloc (.cells #[.slice ao g.objs.length co, .slice ar g.roots.length cr] 25) = W4 := ⟨_, rfl⟩
  have hb0 : Below w.heap.size w W4 := by rw [← hW4]; exact (Below.refl _ _).alloc (Nat.le_refl _) _
  have hs0 : w.heap.size < W4.heap.size := by rw [← hW4]; simp
  have g0 : W4.cell? ⟨w.heap.size, 0, none⟩ = some (.slice ao g.objs.length co) := by rw [← hW4]; simp [go_sem]
  have g1 : W4.cell? ⟨w.heap.size, 1, none⟩ = some (.slice ar g.roots.length cr) := by rw [← hW4]; simp [go_sem]
  go_enter Try.func34, Try.ntmps34
  go_wp2_with (at_make; go_must (refine wpList_make_full _ rfl _ _ 26 rfl W4.heap.size 3 i0 _ 1 Try.underlying26 hi hz0 hz1 .i64 .i64 _ _ g.objs.length rfl rfl rfl rfl (by rw [hz2]; omega) (by simp only [maxLen]; omega) (Nat.le_refl _) ?_); go_must (intro w5 hown hg5))
  clear hW4
  have hb5 : Below W4.heap.size W4 w5 := (Below.refl _ W4).grown hg5 (Nat.le_refl _) (fun k e => by cases e)
  obtain ⟨dl5, hD5⟩ : ∃ dl5, DRow w5 W4.heap.size g.objs.length dl5 := by
    refine ⟨List.replicate g.objs.length 0, ⟨?_, by simp⟩⟩
    have e : (madeCells (Value.int .i64 0).cells (g.objs.length * 1)).toList = intsV (List.replicate g.objs.length 0) := made_ints _
    rw [e] at hown
    exact hown
  clear hown hg5
  go_loopw [4] (fun i wr => ∃ (k : Nat) (dl : List Int), k ≤ g.objs.length ∧ i = .int .i64 k ∧ DRow wr W4.heap.size g.objs.length dl ∧ Hid (∀ j, j < k → dl[j]? = some (lev (dG g) 0 j)) ∧ Below W4.heap.size W4 wr) (fun i _ => g.objs.length - (intOf i).toNat)
  case atStart => exact ⟨0, dl5, Nat.zero_le _, rfl, hD5, fun j hj => by omega, hb5⟩
  case round =>
    clear hD5 hb5
    obtain ⟨k, dl, hk, rfl, hD, Hd, hb⟩ := hrel
    have hsz := hb.size
    have hlt0 := hD.lt
    by_cases hlt : k < g.objs.length
    · have hltd : k < dl.length := by rw [hD.len]; exact hlt
      have hx0 := hD.cell (List.getElem?_eq_getElem hltd)
      have hf0 := hD.frozen k
      have hltI : (k : Int) < (g.objs.length : Int) := by omega
      have hD1 := hD.set k (-1)
      have hb1 : Below W4.heap.size W4 (wr.setCell ⟨W4.heap.size, k, none⟩ (.int .i64 (-1))) := hb.setCell (p := ⟨W4.heap.size, k, none⟩) (Nat.le_refl _) _
      obtain ⟨W6, hW6⟩ : ∃ W6, wr.setCell ⟨W4.heap.size, k, none⟩ (.int .i64 (-1)) = W6 := ⟨_, rfl⟩
      rw [hW6] at hD1 hb1
      have hs6 := hb1.size
      have q1 := (hb1.cell (p := ⟨w.heap.size, 1, none⟩) (by simp; omega)).trans g1
      have hV6 := (hr.below ((hb0.mono hB).trans (hb1.mono (by omega)))).mono (B' := W6.heap.size) (by omega)
      have HL := hide (lev_start hG hlt)
      have Hd1 : Hid (∀ j, j < k → (dl.set k (-1))[j]? = some (lev (dG g) 0 j)) := fun j hj => by rw [List.getElem?_set_ne (by omega)]; exact unhide Hd j hj
      have hl1 : (dl.set k (-1)).length = g.objs.length := hD1.len
      clear hD hb Hd
      cases hrf : refers g.roots (k : Int)
      · have HL : Hid (lev (dG g) 0 k = -1) := by have := unhide HL; rw [hrf] at this; exact this
        go_wp2_with (go_at_call 47; go_must (refine (refers_c ar cr g.roots (k : Int) W6.heap.size W6 hV6 (Nat.le_refl _)).mono ?_); go_must (rintro e w7 ⟨he, hb7⟩; rw [hrf] at he; subst he))
        go_roundw
        case rel =>
          refine ⟨k + 1, dl.set k (-1), by omega, by go_num, hD1.below hb7, ?_, hb1.trans (hb7.mono hs6)⟩
          intro j hj
          rcases Nat.lt_or_ge j k with h | h
          · exact unhide Hd1 j h
          · obtain rfl : j = k := by omega
            rw [List.getElem?_set_self hltd, unhide HL]
        case measure => simp [intOf]; omega
      · have HL : Hid (lev (dG g) 0 k = 0) := by have := unhide HL; rw [hrf] at this; exact this
        go_wp2_with (go_at_call 47; go_must (refine (refers_c ar cr g.roots (k : Int) W6.heap.size W6 hV6 (Nat.le_refl _)).mono ?_); go_must (rintro e w7 ⟨he, hb7⟩; rw [hrf] at he; subst he; have hD7 := hD1.below hb7; have hx7 := hD7.cell (List.getElem?_set_self hltd); have hf7 := hD7.frozen k))
        go_roundw
        case rel =>
          refine ⟨k + 1, (dl.set k (-1)).set k 0, by omega, by go_num, hD7.set k 0, ?_, (hb1.trans (hb7.mono hs6)).setCell (p := ⟨W4.heap.size, k, none⟩) (Nat.le_refl _) _⟩
          intro j hj
          rcases Nat.lt_or_ge j k with h | h
          · rw [List.getElem?_set_ne (by omega)]; exact unhide Hd1 j h
          · obtain rfl : j = k := by omega
            rw [List.getElem?_set_self (by omega), unhide HL]
        case measure => simp [intOf]; omega
    · obtain rfl : k = g.objs.length := by omega
      have Hh : Hid (Holds' dl g.objs.length (lev (dG g) 0)) := ⟨hD.len, unhide Hd⟩
      clear Hd
      go_wp2
      go_loopw [5] (fun i wr => ∃ (s : Nat) (dl : List Int), s ≤ g.objs.length ∧ i = .int .i64 s ∧ DRow wr W4.heap.size g.objs.length dl ∧ Hid (Holds' dl g.objs.length (lev (dG g) s)) ∧ Below W4.heap.size W4 wr) (fun i _ => g.objs.length - (intOf i).toNat)
      case atStart => exact ⟨0, dl, Nat.zero_le _, rfl, hD, Hh, hb⟩
      case round =>
        clear hD hb hsz hlt0 Hh
        obtain ⟨s, dl, hs, rfl, hD, Hh, hb⟩ := hrel
        by_cases hlts : s < g.objs.length
        · have hltI : (s : Int) < (g.objs.length : Int) := by omega
          have Hh : Hid (Holds' dl g.objs.length (mid (dG g) (rG g) s 0)) := (unhide Hh).congr (fun q _ => mid_zero _ _ _ _)
          go_wp2
          go_loopw [6] (fun i wr => ∃ (p : Nat) (dl : List Int), p ≤ g.objs.length ∧ i = .int .i64 p ∧ DRow wr W4.heap.size g.objs.length dl ∧ Hid (Holds' dl g.objs.length (mid (dG g) (rG g) s p)) ∧ Below W4.heap.size W4 wr) (fun i _ => g.objs.length - (intOf i).toNat)
          case atStart => exact ⟨0, dl, Nat.zero_le _, rfl, hD, Hh, hb⟩
          case round =>
            clear hD hb Hh
            obtain ⟨p, dl, hp, rfl, hD, Hh, hb⟩ := hrel
            by_cases hltp : p < g.objs.length
            · have hltpI : (p : Int) < (g.objs.length : Int) := by omega
              obtain ⟨bo, oo, ai, ci, rfl, hboB, hcb, hva⟩ := ho.at hltp
              have Hfs := hide (show fieldsOf g (p : Int) = g.objs[p] by simp [fieldsOf, hltp])
              have HR : Hid (∀ q : Nat, rG g p q = refers g.objs[p] (q : Int)) := fun q => by unfold rG; rw [unhide Hfs]
              generalize g.objs[p] = fs at *
              by_cases hds : dG g p = (s : Int)
              · have Hds := hide hds
                clear hds
                go_wp2
                go_loopw [7] (fun i wr => ∃ (q : Nat) (dl : List Int), q ≤ g.objs.length ∧ i = .int .i64 q ∧ DRow wr W4.heap.size g.objs.length dl ∧ Hid (Holds' dl g.objs.length (fun j => if j < q then mid (dG g) (rG g) s (p + 1) j else mid (dG g) (rG g) s p j)) ∧ Below W4.heap.size W4 wr) (fun i _ => g.objs.length - (intOf i).toNat)
                case atStart => exact ⟨0, dl, Nat.zero_le _, rfl, hD, (unhide Hh).congr (fun q _ => by rw [if_neg (by omega)]), hb⟩
                case round =>
                  clear hD hb Hh
                  obtain ⟨q, dl, hq, rfl, hD, Hh, hb⟩ := hrel
                  have hsz := hb.size
                  have hlt0 := hD.lt
                  have hbw : Below B w wr := (hb0.mono hB).trans (hb.mono (by omega))
                  have hxp : ∃ x, dl[p]? = some x ∧ x = (s : Int) := by
                    refine ⟨_, (unhide Hh).2 p hltp, ?_⟩
                    show (if p < q then mid (dG g) (rG g) s (p + 1) p else mid (dG g) (rG g) s p p) = (s : Int)
                    split <;> exact mid_self.2 (unhide Hds)
                  obtain ⟨x, hxp, hxs⟩ := hxp
                  subst hxs
                  have hcp := hD.cell hxp
                  have dss : ((s : Int) == (s : Int)) = true := by simp
                  by_cases hltq : q < g.objs.length
                  · have hltqI : (q : Int) < (g.objs.length : Int) := by omega
                    have hxq := (unhide Hh).2 q hltq
                    simp only [Nat.lt_irrefl, if_false] at hxq
                    have hmb := mid_bounds (D := dG g) (R := rG g) s p q
                    have hcq := hD.cell hxq
                    have hfq := hD.frozen q
                    have q0 := (hb.cell (p := ⟨w.heap.size, 0, none⟩) (by simp; omega)).trans g0
                    have hcb2 := (hbw.cell (p := ⟨bo, oo + p, none⟩) (by simpa using hboB)).trans hcb
                    have hva2 := (hva.below hbw).mono (B' := wr.heap.size) (by omega)
                    have Hset : Hid (mid (dG g) (rG g) s p q < 0 → refers fs (q : Int) = true → mid (dG g) (rG g) s (p + 1) q = (s : Int) + 1) := fun h1 h2 => mid_set h1 (unhide Hds) (by rw [unhide HR q]; exact h2)
                    have Hkeep : Hid (0 ≤ mid (dG g) (rG g) s p q ∨ refers fs (q : Int) = false → mid (dG g) (rG g) s (p + 1) q = mid (dG g) (rG g) s p q) := fun h => mid_keep (h.imp id (fun h => by rw [unhide HR q]; exact h))
                    have Hnext : Hid (mid (dG g) (rG g) s (p + 1) q = mid (dG g) (rG g) s p q → Holds' dl g.objs.length (fun j => if j < q + 1 then mid (dG g) (rG g) s (p + 1) j else mid (dG g) (rG g) s p j)) := fun h => (unhide Hh).congr (fun j _ => by
                      rcases Nat.lt_trichotomy j q with h1 | h1 | h1
                      · rw [if_pos (by omega), if_pos h1]
                      · subst h1; rw [if_pos (by omega), if_neg (by omega), h]
                      · rw [if_neg (by omega), if_neg (by omega)])
                    have Hnew : Hid (mid (dG g) (rG g) s (p + 1) q = (s : Int) + 1 → Holds' (dl.set q ((s : Int) + 1)) g.objs.length (fun j => if j < q + 1 then mid (dG g) (rG g) s (p + 1) j else mid (dG g) (rG g) s p j)) := fun h => (unhide Hh).set hltq (by rw [if_pos (by omega)]; exact h) (fun j _ hj => by
                      rcases Nat.lt_trichotomy j q with h1 | h1 | h1
                      · rw [if_pos (by omega), if_pos h1]
                      · exact absurd h1 hj
                      · rw [if_neg (by omega), if_neg (by omega)])
                    generalize mid (dG g) (rG g) s p q = y at *
                    generalize mid (dG g) (rG g) s (p + 1) q = y1 at *
                    by_cases hy : y < 0
                    · cases hrf : refers fs (q : Int)
                      · have HN := hide (unhide Hnext (unhide Hkeep (.inr hrf)))
                        go_wp2_with (go_at_call 47; go_must (refine (refers_c ai ci fs (q : Int) wr.heap.size wr hva2 (Nat.le_refl _)).mono ?_); go_must (rintro e w7 ⟨he, hb7⟩; rw [hrf] at he; subst he))
                        go_roundw
                        case rel => exact ⟨q + 1, dl, by omega, by go_num, hD.below hb7, HN, hb.trans (hb7.mono hsz)⟩
                        case measure => simp [intOf]; omega
                      · have HN := hide (unhide Hnew (unhide Hset hy hrf))
                        have hw1 : IntKind.i64.wrap ((s : Int) + 1) = (s : Int) + 1 := by rw [IntKind.wrap_i64]; omega
                        go_wp2_with (go_at_call 47; go_must (refine (refers_c ai ci fs (q : Int) wr.heap.size wr hva2 (Nat.le_refl _)).mono ?_); go_must (rintro e w7 ⟨he, hb7⟩; rw [hrf] at he; subst he; have hD7 := hD.below hb7; have hx7 := hD7.cell hxq; have hf7 := hD7.frozen q))
                        go_roundw
                        case rel => exact ⟨q + 1, dl.set q ((s : Int) + 1), by omega, by go_num, hD7.set q _, HN, (hb.trans (hb7.mono hsz)).setCell (p := ⟨W4.heap.size, q, none⟩) (Nat.le_refl _) _⟩
                        case measure => simp [intOf]; omega
                    · have HN := hide (unhide Hnext (unhide Hkeep (.inl (by omega))))
                      have dy : decide (y < 0) = false := by simp; omega
                      go_wp2
                      go_roundw
                      case rel => exact ⟨q + 1, dl, by omega, by go_num, hD, HN, hb⟩
                      case measure => simp [intOf]; omega
                  · obtain rfl : q = g.objs.length := by omega
                    have HN : Hid (Holds' dl g.objs.length (mid (dG g) (rG g) s (p + 1))) := (unhide Hh).congr (fun j hj => by rw [if_pos hj])
                    go_wp2
                    go_roundw
                    case rel => exact ⟨p + 1, dl, by omega, by go_num, hD, HN, hb⟩
                    case measure => simp [intOf]; omega
              · have HN : Hid (Holds' dl g.objs.length (mid (dG g) (rG g) s (p + 1))) := (unhide Hh).congr (fun j _ => mid_skip hds)
                have Hxp := (unhide Hh).2 p hltp
                have hcp := hD.cell Hxp
                have dne : (mid (dG g) (rG g) s p p == (s : Int)) = false := by simp; exact fun h => hds (mid_self.1 h)
                have hlt0 := hD.lt
                clear hds
                generalize mid (dG g) (rG g) s p p = y at *
                go_wp2
                go_loopw [7] (fun i wq => i = .int .i64 0 ∧ wq = wr) (fun _ _ => 0)
                case atStart => exact ⟨rfl, rfl⟩
                case round =>
                  obtain ⟨rfl, rfl⟩ := hrel
                  go_wp2
                  go_roundw
                  case rel => exact ⟨p + 1, dl, by omega, by go_num, hD, HN, hb⟩
                  case measure => simp [intOf]; omega
            · obtain rfl : p = g.objs.length := by omega
              have HN : Hid (Holds' dl g.objs.length (lev (dG g) (s + 1))) := (unhide Hh).congr (fun j hj => (mid_end hG hj).symm)
              go_wp2
              go_roundw
              case rel => exact ⟨s + 1, dl, by omega, by go_num, hD, HN, hb⟩
              case measure => simp [intOf]; omega
        · obtain rfl : s = g.objs.length := by omega
          have HN : Hid (dl = distL g) := ((unhide Hh).congr (fun j _ => (lev_end hG).symm)).dist
          have hown := hD.own
          rw [unhide HN] at hown
          obtain ⟨a', cap', hv, hV, _⟩ := ints_of_owns hown (distL_len g).symm (by omega)
          have Hv := hide hv
          clear hv
          go_wp2
          go_ret
          exact ⟨a', cap', congrArg Ending.returned (unhide Hv), hV, hb0.trans (hb.mono (by omega))⟩

end Go.Proofs.Ythpmckfgngkbhaa

/- Walks: the document's answer: Reach; GraphTells. -/
namespace Go.Proofs.Ythpmckfgngkbhaa
set_option linter.unusedSimpArgs false
set_option linter.unusedVariables false
open Go.RowKit

/-- The first k objects, those that can be come to. -/
def reachK (g : Gr) (k : Nat) : List Int := ((List.range k).filter (fun (i : Nat) => decide (0 ≤ dG g i))).map (fun (i : Nat) => (i : Int))

theorem reachK_yes {g : Gr} {k : Nat} (h : 0 ≤ dG g k) : reachK g (k + 1) = reachK g k ++ [(k : Int)] := by
  unfold reachK; rw [List.range_succ, List.filter_append, List.map_append]; simp [h]
theorem reachK_no {g : Gr} {k : Nat} (h : dG g k < 0) : reachK g (k + 1) = reachK g k := by
  unfold reachK; rw [List.range_succ, List.filter_append, List.map_append]; simp; omega
theorem reachK_len (g : Gr) (k : Nat) : (reachK g k).length ≤ k := by
  unfold reachK; rw [List.length_map]; have := List.length_filter_le (fun i => decide (0 ≤ dG g i)) (List.range k); simpa using this

theorem reach_same {g : Gr} (h : Good g) : sortL (orderOf g) = reachK g g.objs.length := by
  have hs : (reachK g g.objs.length).Pairwise (· < ·) := by
    unfold reachK
    rw [List.pairwise_map]
    exact (List.pairwise_lt_range.filter _).imp (fun h => by omega)
  have hnd : (reachK g g.objs.length).Nodup := by
    rw [List.nodup_iff_pairwise_ne]; exact hs.imp (fun h => by omega)
  refine List.Perm.eq_of_pairwise (le := (· ≤ ·)) (fun a b _ _ h1 h2 => by omega) (sortL_sorted _) (hs.imp (fun h => by omega)) ?_
  refine (List.perm_ext_iff_of_nodup (sortL_nodup (order_nodup h)) hnd).2 fun x => ?_
  rw [sortL_mem]
  unfold reachK
  simp only [List.mem_map, List.mem_filter, List.mem_range, decide_eq_true_eq]
  constructor
  · intro hx
    have hr := order_ok h hx
    obtain ⟨i, rfl⟩ := Int.eq_ofNat_of_zero_le hr.1
    exact ⟨i, ⟨by omega, (distAt_nonneg h _).2 hx⟩, rfl⟩
  · rintro ⟨i, ⟨_, hd⟩, rfl⟩
    exact (distAt_nonneg h _).1 hd

set_option maxRecDepth 100000 in
set_option maxHeartbeats 1000000 in
theorem refReach_c (ao ar : Option Addr) (co cr : Nat) (g : Gr) (B : Nat) (w : World) (ho : Objs B w ao g.objs) (hr : Vals B w ar g.roots) (hB : B ≤ w.heap.size) (hG : Good g) :
    Calls Try.prog 19 #[.agg #[.slice ao g.objs.length co, .slice ar g.roots.length cr]] w fun e w' => ∃ a cap, e = .returned (.slice a (reachK g g.objs.length).length cap) ∧ Ints w'.heap.size w' a (reachK g g.objs.length) ∧ Below w.heap.size w w' := by
  obtain ⟨i0, hi, hz0, hz1, hz2⟩ := info_parts Try.info3
  have hn24 := hG.n24
  have hb1 := (Below.refl w.heap.size w).alloc (Nat.le_refl _) (.cells #[.slice ao g.objs.length co, .slice ar g.roots.length cr] 25)
  go_enter Try.func19, Try.ntmps19
  go_wp2_with fail
  refine (refDist_c ao ar co cr g B _ (ho.below (hb1.mono hB)) (hr.below (hb1.mono hB)) (by simp; omega) hG).mono ?_
  rintro e w2 ⟨ad, cd, rfl, hI2, hb2⟩
  have hbw2 : Below w.heap.size w w2 := hb1.trans (hb2.mono (by simp))
  clear hb1 hb2
  have hlD : (distL g).length = g.objs.length := distL_len g
  have HlD := hide hlD
  have hDk : Hid (∀ k, k < g.objs.length → (distL g)[k]? = some (dG g k)) := fun k hk => by simp [distL, List.getElem?_map, List.getElem?_range hk, dG]
  rw [hlD]
  clear hlD
  generalize distL g = D at *
  go_wp2
  go_loopw [3, 9] (fun s i wr => ∃ k : Nat, k ≤ g.objs.length ∧ i = .int .i64 k ∧ wr.ownsRow w2.heap.size 3 1 s (reachK g k).length (intsV (reachK g k)) ∧ Below w2.heap.size w2 wr) (fun _ i _ => g.objs.length - (intOf i).toNat)
  case atStart => exact ⟨0, Nat.zero_le _, rfl, World.ownsRow_nil _ _ _ _, Below.refl _ _⟩
  case round =>
    obtain ⟨k, hk, rfl, hown, hb⟩ := hrel
    have hsz := hb.size
    have hkl := reachK_len g k
    by_cases hlt : k < g.objs.length
    · have hltD : k < D.length := by rw [unhide HlD]; exact hlt
      obtain ⟨bd, od, rfl, hbd, hcd⟩ := (hI2.below hb).at hltD
      have hx := unhide hDk k hlt
      rw [List.getElem?_eq_getElem hltD] at hx
      injection hx with hx
      rw [hx] at hcd
      have Hyes := hide (fun h => reachK_yes (g := g) (k := k) h)
      have Hno := hide (fun h => reachK_no (g := g) (k := k) h)
      clear hx
      generalize dG g k = x at *
      have hmx : (reachK g k).length + 1 ≤ maxLen := by simp only [maxLen]; omega
      have hmy : ((reachK g k).length + 1) * 8 ≤ 140737488355328 := by omega
      by_cases hx0 : 0 ≤ x
      · have d : decide (x ≥ 0) = true := by simpa using hx0
        have d' : decide (0 ≤ x) = true := by simpa using hx0
        have HT := hide (unhide Hyes hx0)
        go_wp2_with (at_builtin; go_must (refine wpList_append_own _ rfl _ _ 26 rfl w2.heap.size 3 i0 _ 1 8 Try.underlying26 hi hz0 hz1 hz2 rfl (by decide) _ _ _ rfl (hown.alloc _) ⟨wr.heap.size, 0, none⟩ 1 1 [.int .i64 k] rfl rfl (cell_one_at _ _ _ _ (by simp)) (by simp [Value.oneCell']) hmx hmy (by simp; omega) ?_); intro v' w1 hown' hgrow _)
        go_roundw
        case rel => exact ⟨k + 1, by omega, by go_num, by rw [unhide HT, intsV_snoc, List.length_append]; exact hown', (hb.alloc hsz _).grown hgrow (by simp; omega) (fun q e => (hown.lt q e).1)⟩
        case measure => simp [intOf]; omega
      · have d : decide (x ≥ 0) = false := by simp; omega
        have d' : decide (0 ≤ x) = false := by simp; omega
        have HT := hide (unhide Hno (by omega))
        go_wp2
        go_roundw
        case rel => exact ⟨k + 1, by omega, by go_num, by rw [unhide HT]; exact hown, hb⟩
        case measure => simp [intOf]; omega
    · obtain rfl : k = g.objs.length := by omega
      obtain ⟨a', cap', hv, hV, _⟩ := ints_of_owns hown rfl (by omega)
      have Hv := hide hv
      clear hv
      go_wp2
      go_ret
      exact ⟨a', cap', congrArg Ending.returned (unhide Hv), hV, hbw2.trans (hb.mono hbw2.size)⟩

end Go.Proofs.Ythpmckfgngkbhaa

/- Walks: slices.DeleteFunc at what is not on the way back. -/
namespace Go.Proofs.Ythpmckfgngkbhaa
open Go.Shelf
def Try.laysDelF_ren : Go.Shelf.Ren := ⟨fun | 10 => 22 | 6 => 37 | n => n, fun | 22 => 26 | 23 => 3 | 25 => 46 | 3 => 3 | 4 => 4 | 0 => 0 | n => n, fun | n => n⟩
theorem Try.laysDelF : Go.Proofs.SlLaysH.n10 Try.prog Try.laysDelF_ren := {
  mixed := by kernel_rfl
  f6 := ⟨Try.f37.name, by decide, Try.func37.trans (congrArg some (by kernel_rfl))⟩
  f10 := ⟨Try.f22.name, by decide, Try.func22.trans (congrArg some (by kernel_rfl))⟩
  t0 := Try.underlying0
  a0 := Try.isAgg0
  z0 := Try.sizeOf0
  v0 := Try.zeroValue0
  t3 := Try.underlying3
  a3 := Try.isAgg3
  z3 := Try.sizeOf3
  v3 := Try.zeroValue3
  t4 := Try.underlying4
  a4 := Try.isAgg4
  z4 := Try.sizeOf4
  v4 := Try.zeroValue4
  t22 := Try.underlying26
  a22 := Try.isAgg26
  z22 := Try.sizeOf26
  v22 := Try.zeroValue26
  a23 := Try.isAgg3
  z23 := Try.sizeOf3
  t25 := Try.underlying46
  a25 := Try.isAgg46
  z25 := Try.sizeOf46
  v25 := Try.zeroValue46 }
end Go.Proofs.Ythpmckfgngkbhaa
namespace Go.Proofs.Ythpmckfgngkbhaa
set_option linter.unusedSimpArgs false
set_option linter.unusedVariables false
open Go.RowKit

def encI {N : Nat} (x : ObN N) : Value := .int .i64 x.1

theorem numAt_ne (order : List Int) (x : Int) : (numAt order x != -1) = decide (x ∈ order) := by
  unfold numAt
  by_cases h : x ∈ order
  · rw [if_pos h, decide_eq_true h, bne_iff_ne]; omega
  · rw [if_neg h, decide_eq_false h]; rfl

/-- The closure of Retained: is an object on the way back? -/
theorem gives23 {N : Nat} (order : List Int) (Bx gb : Nat) (x : ObN N) (W : World) (hc : W.cell? ⟨Bx, 1, none⟩ = some (.slice (some ⟨gb, 0, none⟩) N N)) (hn : ∀ k, k < N → W.cell? ⟨gb, k, none⟩ = some (.int .i64 (numAt order k))) (hN : N ≤ 24) :
    FnGives Try.prog 23 #[.pointer (some ⟨Bx, 0, none⟩)] #[encI x] (.bool (decide (x.1 ∈ order))) W := by
  obtain ⟨x, hx0, hx1⟩ := x
  obtain ⟨x, rfl⟩ := Int.eq_ofNat_of_zero_le hx0
  have hxN : x < N := by omega
  have hx := hn x hxN
  have Hd := hide (numAt_ne order (x : Int))
  clear hn
  show Calls Try.prog 23 #[.int .i64 (x : Int), .pointer (some ⟨Bx, 0, none⟩)] W _
  generalize numAt order (x : Int) = y at *
  go_enter Try.func23, Try.ntmps23
  go_wp2
  go_ret
  exact ⟨ret_bool (unhide Hd), 0, rfl⟩

set_option maxRecDepth 100000 in
theorem idx_nil_c (f : Value) (w : World) : Calls Try.prog 37 #[.slice none 0 0, f] w fun e w' => e = .returned (.int .i64 (-1)) ∧ w' = w := by
  go_enter Try.func37, Try.ntmps37
  go_wp2
  go_loop [8] (fun i => i = .int .i64 0) (fun i => 0)
  case atStart => rfl
  case round =>
    subst hrel
    go_wp2
    go_ret
    exact ⟨rfl, rfl⟩

set_option maxRecDepth 100000 in
theorem delF_nil_c (f : Value) (w : World) : Calls Try.prog 22 #[.slice none 0 0, f] w fun e w' => e = .returned (.slice none 0 0) ∧ w' = w := by
  go_enter Try.func22, Try.ntmps22
  go_wp2_with (go_at_call 37; go_must (refine (idx_nil_c _ _).mono ?_); rintro e w3 ⟨rfl, hw3⟩; subst hw3)
  go_ret
  exact ⟨rfl, rfl⟩

/-- Numbers of objects, as such. -/
def asObs {N : Nat} : (l : List Int) → (∀ x ∈ l, 0 ≤ x ∧ x < N) → List (ObN N)
  | [], _ => []
  | x :: l, h => ⟨x, h x (by simp)⟩ :: asObs l (fun y hy => h y (by simp [hy]))

theorem asObs_vals {N : Nat} : ∀ (l : List Int) (h : ∀ x ∈ l, 0 ≤ x ∧ x < (N : Int)), valsN (asObs l h) = l
  | [], _ => rfl
  | x :: l, h => by
    have ih := asObs_vals l (fun y hy => h y (by simp [hy]))
    unfold valsN at *
    simp [asObs, ih]

theorem asObs_len {N : Nat} (l : List Int) (h : ∀ x ∈ l, 0 ≤ x ∧ x < (N : Int)) : (asObs l h).length = l.length := by
  have := congrArg List.length (asObs_vals l h)
  simpa [valsN] using this

theorem asObs_get {N : Nat} (l : List Int) (h : ∀ x ∈ l, 0 ≤ x ∧ x < (N : Int)) (k : Nat) (y : ObN N) (hk : (asObs l h)[k]? = some y) : l[k]? = some y.1 := by
  have := congrArg (fun m => m[k]?) (asObs_vals l h)
  simp only [valsN, List.getElem?_map, hk, Option.map_some] at this
  exact this.symm

theorem asObs_filter {N : Nat} (p : Int → Bool) (l : List Int) (h : ∀ x ∈ l, 0 ≤ x ∧ x < (N : Int)) : valsN ((asObs l h).filter fun y => p y.1) = l.filter p := by
  have : valsN ((asObs l h).filter fun y => p y.1) = (valsN (asObs l h)).filter p := by
    unfold valsN
    rw [List.filter_map]
    rfl
  rw [this, asObs_vals]

theorem delF_f (N : Nat) (hN0 : 0 < N) (hN : N ≤ 24) (Bx gb : Nat) (order : List Int) (v : Value) (base base' : Nat) (l : List Int) (w : World) (hrow : w.ownsRow base 3 1 v l.length (intsV l)) (hl : ∀ x ∈ l, 0 ≤ x ∧ x < (N : Int)) (hlen : l.length ≤ 1000)
    (hc1 : w.cell? ⟨Bx, 1, none⟩ = some (.slice (some ⟨gb, 0, none⟩) N N)) (hnum : w.ownsRow base' 3 1 (.slice (some ⟨gb, 0, none⟩) N N) N (intsV (numL N order))) (hne1 : v.ownBlock ≠ some Bx) (hne2 : v.ownBlock ≠ some gb) :
    Calls Try.prog 22 #[v, .func (.func 23) #[] #[.pointer (some ⟨Bx, 0, none⟩)]] w fun e w' => ∃ a cap, e = .returned (.slice a (l.filter fun o => !decide (o ∈ order)).length cap) ∧
      Ints w'.heap.size w' a (l.filter fun o => !decide (o ∈ order)) ∧ w.grownBy w' v.ownBlock ∧ (∀ b off, a = some ⟨b, off, none⟩ → v.ownBlock = some b) := by
  have hlB : Bx < w.heap.size := World.block_lt_of_cell? w _ hc1
  have hlg : gb < w.heap.size := row_lt hnum
  have hncell : ∀ k, k < N → w.cell? ⟨gb, k, none⟩ = some (.int .i64 (numAt order k)) := fun k hk => row_at hnum (by simp [intsV, numL_get order hk])
  rcases hrow.2 with ⟨rfl, h0⟩ | ⟨g, cap, cur, rfl, hb, hgb, hnc, hcm, hcs, htake⟩
  · have e : l = [] := List.eq_nil_of_length_eq_zero h0
    subst e
    refine (delF_nil_c _ w).mono ?_
    rintro e w' ⟨rfl, rfl⟩
    exact ⟨none, 0, rfl, ⟨by simp, fun h => absurd rfl h⟩, ⟨rfl, rfl, rfl, Nat.le_refl _, fun _ _ _ => rfl⟩, fun b off e => by cases e⟩
  · have hgB : g ≠ Bx := fun e => hne1 (by simp [Value.ownBlock, e])
    have hgg : g ≠ gb := fun e => hne2 (by simp [Value.ownBlock, e])
    haveI : Inhabited (ObN N) := ⟨⟨0, by omega⟩⟩
    have hcur : ∀ (k : Nat) (s : Int), l[k]? = some s → cur[k]? = some (.int .i64 s) := by
      intro k s hk
      have h1 : (intsV l)[k]? = some (.int .i64 s) := by simp [intsV, hk]
      rw [← htake, List.getElem?_take] at h1
      split at h1
      · simpa using h1
      · cases h1
    have hol := asObs_len l hl
    have hH : Go.Sort.Holds encI w g 0 (asObs l hl).toArray := by
      intro j hj
      have hj' : j < (asObs l hl).length := by simpa using hj
      have hc := hcur j _ (asObs_get l hl j _ (List.getElem?_eq_getElem hj'))
      rw [getElem!_pos (asObs l hl).toArray j hj]
      refine ⟨?_, by simp [World.frozen?, hgb]⟩
      rw [Nat.zero_add, cell_of_row w g j cur 3 (0, 0) hgb, hc]
      simp [encI]
    have eg : ∀ args w, (callFunc 23 args).run Try.prog w = .ok (.enter 23 args) w := enters_of Try.func23 (by kernel_rfl) rfl
    have hpa : PredAt Try.prog 23 #[.pointer (some ⟨Bx, 0, none⟩)] (encI (N := N)) (fun x => decide (x.1 ∈ order)) w := fun W x hb =>
      gives23 order Bx gb x W ((hb.cell (p := ⟨Bx, 1, none⟩) hlB).trans hc1) (fun k hk => (hb.cell (p := ⟨gb, k, none⟩) hlg).trans (hncell k hk)) hN
    have hpo : PredOver Try.prog 23 #[.pointer (some ⟨Bx, 0, none⟩)] (encI (N := N)) (fun x => decide (x.1 ∈ order)) g 0 (asObs l hl).toArray.size w := fun n os dk x _ => by
      refine gives23 order Bx gb x _ ?_ (fun k hk => ?_) hN
      · unfold sortWorld
        rw [Go.Sort.cell?_grow _ _ _ (by show Bx < (Go.Sort.putRow _ _ _ _ _).heap.size; rw [Go.Sort.size_putRow]; exact hlB), Go.Sort.cell?_putRow_other _ _ g 0 _ _ (Or.inl (fun e => hgB e.symm))]
        exact hc1
      · unfold sortWorld
        rw [Go.Sort.cell?_grow _ _ _ (by show gb < (Go.Sort.putRow _ _ _ _ _).heap.size; rw [Go.Sort.size_putRow]; exact hlg), Go.Sort.cell?_putRow_other _ _ g 0 _ _ (Or.inl (fun e => hgg e.symm))]
        exact hncell k hk
    have hD := AnyE.slices_DeleteFunc Try.laysDelF (encI (N := N)) (fun _ => rfl) (fun x => decide (x.1 ∈ order)) 23 #[.pointer (some ⟨Bx, 0, none⟩)] eg ⟨0, by omega⟩ Try.zeroValue3 g 0 cap (asObs l hl).toArray w hpa hpo hH (by simp [hol]; omega) (by simp [hol]; omega)
    have hD' : Calls Try.prog 22 #[.slice (some ⟨g, 0, none⟩) (asObs l hl).toArray.size cap, .func (.func 23) #[] #[.pointer (some ⟨Bx, 0, none⟩)]] w _ := hD
    have es : (asObs l hl).toArray.size = l.length := by simp [hol]
    rw [es] at hD'
    refine hD'.mono ?_
    rintro e w' ⟨rfl, q, rfl⟩
    have hf := asObs_filter (N := N) (fun o => !decide (o ∈ order)) l hl
    have hfl : ((asObs l hl).filter fun y => !decide (y.1 ∈ order)).length = (l.filter fun o => !decide (o ∈ order)).length := by rw [← hf]; simp [valsN]
    simp only [List.toList_toArray]
    have hfle : (l.filter fun o => !decide (o ∈ order)).length ≤ l.length := List.length_filter_le _ _
    generalize hD0 : ((asObs l hl).filter fun y => !decide (y.1 ∈ order)) = F at *
    generalize (l.filter fun o => !decide (o ∈ order)) = R at *
    have hg : w.grownBy (Go.Sort.putRow encI (Go.Sort.ahead w q) g 0 (F ++ List.replicate (l.length - F.length) (⟨0, by omega⟩ : ObN N)).toArray) (some g) := by
      refine ⟨rfl, rfl, rfl, by simp [Go.Sort.putRow, Go.Sort.mapBlock, Go.Sort.ahead], fun k hk hne => ?_⟩
      have hne' : ¬ g = k := fun e => hne (by rw [e])
      simp [Go.Sort.putRow, Go.Sort.mapBlock, Go.Sort.ahead, Array.getElem?_modify, hne']
    have hblk : (Go.Sort.putRow encI (Go.Sort.ahead w q) g 0 (F ++ List.replicate (l.length - F.length) (⟨0, by omega⟩ : ObN N)).toArray).heap[g]? = some (.cells (Go.Sort.putCells encI 0 (F ++ List.replicate (l.length - F.length) (⟨0, by omega⟩ : ObN N)).toArray cur) 3 (0, 0)) := by
      simp [Go.Sort.putRow, Go.Sort.mapBlock, Go.Sort.ahead, Array.getElem?_modify, hgb, Go.Sort.onCells]
    refine ⟨some ⟨g, 0, none⟩, cap, by rw [hfl], ⟨by omega, fun _ => ⟨g, 0, rfl, (Array.getElem?_eq_some_iff.1 hblk).1, fun k u hk => ?_⟩⟩, hg, fun b off e => by injection e with e; injection e with e1; simp [Value.ownBlock, e1]⟩
    rw [Nat.zero_add, cell_of_row _ g k _ 3 (0, 0) hblk]
    have hkl := (List.getElem?_eq_some_iff.1 hk).1
    have hkc : k < cur.size := by omega
    have hkF : k < F.length := by omega
    simp only [Go.Sort.putCells, Array.getElem?_mapIdx]
    rw [Array.getElem?_eq_getElem hkc, Option.map_some, if_pos ⟨Nat.zero_le _, by simp; omega⟩, getElem!_pos _ (k - 0) (by simp; omega)]
    rw [← hf] at hk
    simp only [valsN, List.getElem?_map, List.getElem?_eq_getElem hkF, Option.map_some] at hk
    injection hk with hk
    simp [encI, List.getElem_append_left hkF, hk]

theorem delF_c (N : Nat) (hN0 : 0 < N) (hN : N ≤ 24) (Bx gb : Nat) (order : List Int) (v : Value) (base base' : Nat) (l : List Int) (w : World) (hrow : w.ownsRow base 3 1 v l.length (intsV l)) (hl : ∀ x ∈ l, 0 ≤ x ∧ x < (N : Int)) (hlen : l.length ≤ 1000)
    (hc1 : w.cell? ⟨Bx, 1, none⟩ = some (.slice (some ⟨gb, 0, none⟩) N N)) (hnum : w.ownsRow base' 3 1 (.slice (some ⟨gb, 0, none⟩) N N) N (intsV (numL N order))) (hne1 : v.ownBlock ≠ some Bx) (hne2 : v.ownBlock ≠ some gb) :
    Calls Try.prog 22 #[v, .func (.func 23) #[] #[.pointer (some ⟨Bx, 0, none⟩)]] w fun e w' => ∃ a cap, e = .returned (.slice a (l.filter fun o => !decide (o ∈ order)).length cap) ∧
      Ints w'.heap.size w' a (l.filter fun o => !decide (o ∈ order)) ∧ w.grownBy w' v.ownBlock := by
  refine (delF_f N hN0 hN Bx gb order v base base' l w hrow hl hlen hc1 hnum hne1 hne2).mono ?_
  rintro e w' ⟨a, cap, h1, h2, h3, _⟩
  exact ⟨a, cap, h1, h2, h3⟩

end Go.Proofs.Ythpmckfgngkbhaa

/- Walks: Retained. -/
namespace Go.Proofs.Ythpmckfgngkbhaa
set_option linter.unusedSimpArgs false
set_option linter.unusedVariables false
open Go.RowKit

theorem grownBy_of_below' {W W' : World} (hb : Below W.heap.size W W') : W.grownBy W' none := ⟨hb.os, hb.tape, hb.output, hb.size, fun k hk _ => hb.block k hk⟩
theorem own_none' (v : Value) : v.ownBlock = none ∨ v.ownBlock ≠ none := by cases v.ownBlock <;> simp

set_option maxRecDepth 100000 in
set_option maxHeartbeats 1000000 in
theorem reach_row (ao ar : Option Addr) (co cr : Nat) (g : Gr) (B : Nat) (w : World) (ho : Objs B w ao g.objs) (hr : Vals B w ar g.roots) (hB : B ≤ w.heap.size) (hc : checkG g = 0) :
    Calls Try.prog 14 #[.agg #[.slice ao g.objs.length co, .slice ar g.roots.length cr]] w fun e w' => ∃ a cap, e = .returned (.tuple #[.slice a (sortL (orderOf g)).length cap, .int .i64 0]) ∧ w'.ownsRow w.heap.size 3 1 (.slice a (sortL (orderOf g)).length cap) (sortL (orderOf g)).length (intsV (sortL (orderOf g))) ∧ Below w.heap.size w w' := by
  have hG := good_of_check hc
  have Hcc := hide hc
  clear hc
  have hb1 := (Below.refl w.heap.size w).alloc (Nat.le_refl _) (.cells #[.slice ao g.objs.length co, .slice ar g.roots.length cr] 25)
  go_enter Try.func14, Try.ntmps14
  go_wp2_with fail
  refine (check_c _ _ _ _ g B _ (ho.below (hb1.mono hB)) (hr.below (hb1.mono hB)) (by simp; omega)).mono ?_
  rintro e w2 ⟨he, hb2⟩
  rw [unhide Hcc] at he
  subst he
  simp only [World.size_alloc] at hb2
  have g0 := hb2.cell (p := ⟨w.heap.size, 0, none⟩) (by simp)
  have g1 := hb2.cell (p := ⟨w.heap.size, 1, none⟩) (by simp)
  simp [go_sem] at g0 g1
  have hs2 := hb2.size
  simp at hs2
  have hbw2 : Below w.heap.size w w2 := hb1.trans (hb2.mono (by omega))
  clear hb1 hb2
  go_wp2_with fail
  refine (search_c _ _ _ _ g B _ (ho.below (hbw2.mono hB)) (hr.below (hbw2.mono hB)) (by omega) hG).mono ?_
  rintro e w3 ⟨vo, vd, D, mb, rfl, hmb, hF, hb3⟩
  have hbw3 : Below w.heap.size w w3 := hbw2.trans (hb3.mono (by omega))
  obtain ⟨oa, oc, rfl⟩ := ownsRow_slice hF.ord
  obtain ⟨da, dc, rfl⟩ := ownsRow_slice hF.dis
  have hlen := (searchN_ok hG g.objs.length).le
  have hn24 := hG.n24
  have hord : w3.ownsRow (mb + 2) 3 1 (.slice oa (orderOf g).length oc) (orderOf g).length (intsV (orderOf g)) := hF.ord
  have hol : (orderOf g).length ≤ 24 := by unfold orderOf; omega
  clear hF
  have HO : Hid ((searchN g g.objs.length).1 = orderOf g) := rfl
  have hfd : ∀ (n1 n2 : Nat) (w : World), (Instr.field 58 (.agg #[.slice oa n1 oc, .slice da n2 dc, .map (some mb)]) 0).run Try.prog w = .ok (.slice oa n1 oc) w := fun _ _ _ => by kernel_rfl
  go_wp2_with (go_at_call 32; go_must (refine (sort_c _ (mb + 2) (orderOf g) _ hord (by omega)).mono ?_); go_must (rintro e w4 ⟨rfl, hord4, hg4⟩))
  have hs2' := hbw2.size
  have hb4 : Below w.heap.size w w4 := hbw3.grown hg4 hbw3.size (fun k e => by have := (hord.lt k e).1; omega)
  rw [← sortL_len (orderOf g)] at hord4
  go_ret2
  refine ⟨oa, oc, by rw [sortL_len]; rfl, ?_, hb4⟩
  have e : (sortL (orderOf g)).length = (orderOf g).length := sortL_len _
  have h4 := hord4
  rw [e] at h4 ⊢
  exact ⟨h4.1, h4.2.imp id fun ⟨g', cap, cur, h1, h2, h3⟩ => ⟨g', cap, cur, h1, by omega, h3⟩⟩

set_option maxRecDepth 100000 in
set_option maxHeartbeats 1000000 in
theorem ret_bad (ao ar : Option Addr) (co cr : Nat) (g : Gr) (v : Int) (B : Nat) (w : World) (ho : Objs B w ao g.objs) (hr : Vals B w ar g.roots) (hB : B ≤ w.heap.size) (hc : checkG g ≠ 0) :
    Calls Try.prog 7 #[.agg #[.slice ao g.objs.length co, .slice ar g.roots.length cr], .int .i64 v] w fun e w' => e = .returned (.tuple #[.slice none 0 0, .int .i64 (checkG g)]) ∧ Below w.heap.size w w' := by
  have hd : (checkG g != 0) = true := by simpa using hc
  have Hc := hide hc
  clear hc
  have hb1 := (Below.refl w.heap.size w).alloc (Nat.le_refl _) (.cells #[.slice ao g.objs.length co, .slice ar g.roots.length cr] 25)
  go_enter Try.func7, Try.ntmps7
  go_wp2_with (go_at_call 14; go_must (refine (reach_bad _ _ _ _ g B _ (ho.below (hb1.mono hB)) (hr.below (hb1.mono hB)) (by simp; omega) (unhide Hc)).mono ?_); go_must (rintro e w2 ⟨rfl, hb2⟩))
  go_ret2
  exact ⟨rfl, hb1.trans (hb2.mono (by simp))⟩

set_option maxRecDepth 100000 in
set_option maxHeartbeats 2000000 in
theorem ret_arg (ao ar : Option Addr) (co cr : Nat) (g : Gr) (v : Int) (B : Nat) (w : World) (ho : Objs B w ao g.objs) (hr : Vals B w ar g.roots) (hB : B ≤ w.heap.size) (hc : checkG g = 0) (hv : v < 0 ∨ (g.objs.length : Int) ≤ v) :
    Calls Try.prog 7 #[.agg #[.slice ao g.objs.length co, .slice ar g.roots.length cr], .int .i64 v] w fun e w' => e = .returned (.tuple #[.slice none 0 0, .int .i64 2]) ∧ Below w.heap.size w w' := by
  have Hc := hide hc
  have ho1 := ho.1
  clear hc
  have hb1 := (Below.refl w.heap.size w).alloc (Nat.le_refl _) (.cells #[.slice ao g.objs.length co, .slice ar g.roots.length cr] 25)
  go_enter Try.func7, Try.ntmps7
  go_wp2_with fail
  refine (reach_row _ _ _ _ g B _ (ho.below (hb1.mono hB)) (hr.below (hb1.mono hB)) (by simp; omega) (unhide Hc)).mono ?_
  rintro e w2 ⟨a2, c2, rfl, _, hb2⟩
  simp only [World.size_alloc] at hb2
  have g0 := hb2.cell (p := ⟨w.heap.size, 0, none⟩) (by simp)
  simp [go_sem] at g0
  have hbw : Below w.heap.size w w2 := hb1.trans (hb2.mono (by omega))
  clear hb1 hb2
  generalize (sortL (orderOf g)).length = n2 at *
  by_cases h0 : v < 0
  · have d : decide (v < 0) = true := by simpa using h0
    go_wp2
    go_ret2
    exact ⟨rfl, hbw⟩
  · have d : decide (v < 0) = false := by simpa using h0
    have h1 : (g.objs.length : Int) ≤ v := by omega
    have d1 : decide (v ≥ (g.objs.length : Int)) = true := by simpa using h1
    have d2 : decide ((g.objs.length : Int) ≤ v) = true := by simpa using h1
    clear hv
    go_wp2
    go_ret2
    exact ⟨rfl, hbw⟩

set_option maxRecDepth 100000 in
set_option maxHeartbeats 2000000 in
theorem ret_f (ao ar : Option Addr) (co cr : Nat) (g : Gr) (v : Int) (B : Nat) (w : World) (ho : Objs B w ao g.objs) (hr : Vals B w ar g.roots) (hB : B ≤ w.heap.size) (hc : checkG g = 0) (hv0 : 0 ≤ v) (hv1 : v < g.objs.length) :
    Calls Try.prog 7 #[.agg #[.slice ao g.objs.length co, .slice ar g.roots.length cr], .int .i64 v] w fun e w' => ∃ a cap, e = .returned (.tuple #[.slice a (retL g v).length cap, .int .i64 0]) ∧ Ints w'.heap.size w' a (retL g v) ∧ Below w.heap.size w w' ∧ (∀ b off, a = some ⟨b, off, none⟩ → w.heap.size ≤ b) := by
  have Hc := hide hc
  have hG := good_of_check hc
  have ho1 := ho.1
  have hr1 := hr.1
  have hn24 := hG.n24
  clear hc
  have hb1 := (Below.refl w.heap.size w).alloc (Nat.le_refl _) (.cells #[.slice ao g.objs.length co, .slice ar g.roots.length cr] 25)
  go_enter Try.func7, Try.ntmps7
  go_wp2_with fail
  refine (reach_row _ _ _ _ g B _ (ho.below (hb1.mono hB)) (hr.below (hb1.mono hB)) (by simp; omega) (unhide Hc)).mono ?_
  rintro e w2 ⟨a2, c2, rfl, hrow2, hb2⟩
  simp only [World.size_alloc] at hb2 hrow2
  have g0 := hb2.cell (p := ⟨w.heap.size, 0, none⟩) (by simp)
  have g1 := hb2.cell (p := ⟨w.heap.size, 1, none⟩) (by simp)
  simp [go_sem] at g0 g1
  have hbw : Below w.heap.size w w2 := hb1.trans (hb2.mono (by omega))
  have hs2 := hb2.size
  simp only [World.size_alloc] at hs2
  clear hb1 hb2
  have d : decide (v < 0) = false := by simp; omega
  have d1 : decide (v ≥ (g.objs.length : Int)) = false := by simp; omega
  have d2 : decide ((g.objs.length : Int) ≤ v) = false := by simp; omega
  have hsl : (sortL (orderOf g)).length ≤ 1000 := by rw [sortL_len]; have := (searchN_ok hG g.objs.length).le; unfold orderOf; omega
  have hsr : ∀ x ∈ sortL (orderOf g), 0 ≤ x ∧ x < (g.objs.length : Int) := fun x hx => order_ok hG ((sortL_mem _ _).1 hx)
  have Hret : Hid ((sortL (orderOf g)).filter (fun o => !decide (o ∈ backL g v)) = retL g v) := by
    show _ = _
    unfold retL
    refine List.filter_congr fun x _ => ?_
    rw [Bool.eq_iff_iff]
    simp [back_mem hG v x]
  generalize sortL (orderOf g) = L at *
  go_wp2_with fail
  refine (wayBack_c _ _ _ _ g v B _ (ho.below (hbw.mono hB)) (hr.below (hbw.mono hB)) (by omega) hG).mono ?_
  rintro e w3 ⟨vo, gb, rfl, hne, hro3, hrn3, hb3⟩
  obtain ⟨oa, oc, rfl⟩ := ownsRow_slice hro3
  have hs3 := hb3.size
  have hrow3 := hrow2.kept (grownBy_of_below' hb3) (own_none' _)
  have hlr := fun k e => hrow2.lt k e
  have hrow4 := hrow3.alloc (.cells #[.slice oa (backL g v).length oc, .slice (some ⟨gb, 0, none⟩) g.objs.length g.objs.length] 43)
  have hrn4 := hrn3.alloc (.cells #[.slice oa (backL g v).length oc, .slice (some ⟨gb, 0, none⟩) g.objs.length g.objs.length] 43)
  have hc4 : (w3.alloc (.cells #[.slice oa (backL g v).length oc, .slice (some ⟨gb, 0, none⟩) g.objs.length g.objs.length] 43)).cell? ⟨w3.heap.size, 1, none⟩ = some (.slice (some ⟨gb, 0, none⟩) g.objs.length g.objs.length) := by simp [go_sem]
  have hgb : w2.heap.size ≤ gb := (hrn3.lt gb rfl).1
  have hbw3 : Below w.heap.size w w3 := hbw.trans (hb3.mono (by omega))
  have hbw4 := hbw3.alloc (by omega) (.cells #[.slice oa (backL g v).length oc, .slice (some ⟨gb, 0, none⟩) g.objs.length g.objs.length] 43)
  go_wp2_with (go_at_call 22; go_must (refine (delF_f g.objs.length (by omega) hn24 w3.heap.size gb (backL g v) _ (w.heap.size + 1) w2.heap.size L _ hrow4 hsr hsl hc4 hrn4 (fun e => by have := (hlr _ e).2; omega) (fun e => by have := (hlr _ e).2; omega)).mono ?_); go_must (rintro e w5 ⟨a5, c5, rfl, hI5, hg5, hfr5⟩))
  go_ret2
  refine ⟨a5, c5, by rw [unhide Hret]; rfl, by rw [← unhide Hret]; exact hI5, ?_, fun b off e => by have := (hrow4.lt b (hfr5 b off e)).1; omega⟩
  exact hbw4.grown hg5 (by simp; omega) (fun k e => by have := (hrow4.lt k e).1; omega)

theorem ret_ok (ao ar : Option Addr) (co cr : Nat) (g : Gr) (v : Int) (B : Nat) (w : World) (ho : Objs B w ao g.objs) (hr : Vals B w ar g.roots) (hB : B ≤ w.heap.size) (hc : checkG g = 0) (hv0 : 0 ≤ v) (hv1 : v < g.objs.length) :
    Calls Try.prog 7 #[.agg #[.slice ao g.objs.length co, .slice ar g.roots.length cr], .int .i64 v] w fun e w' => ∃ a cap, e = .returned (.tuple #[.slice a (retL g v).length cap, .int .i64 0]) ∧ Ints w'.heap.size w' a (retL g v) ∧ Below w.heap.size w w' := by
  refine (ret_f ao ar co cr g v B w ho hr hB hc hv0 hv1).mono ?_
  rintro e w' ⟨a, cap, h1, h2, h3, _⟩
  exact ⟨a, cap, h1, h2, h3⟩

end Go.Proofs.Ythpmckfgngkbhaa

/- Walks: Retained, whatever it is asked; inside; DomNested. -/
namespace Go.Proofs.Ythpmckfgngkbhaa
set_option linter.unusedSimpArgs false
set_option linter.unusedVariables false
open Go.RowKit

theorem law_box (x y : Value) (t : TypeId) (w : World) :
    ∀ W0, w.alloc (.cells #[x, y] t) = W0 → W0.heap.size = w.heap.size + 1 ∧ Below w.heap.size w W0 ∧ (∀ X, Below (w.heap.size + 1) W0 X → X.cell? ⟨w.heap.size, 0, none⟩ = some x ∧ X.cell? ⟨w.heap.size, 1, none⟩ = some y) := by
  intro W0 h
  refine ⟨by rw [← h]; simp, by rw [← h]; exact (Below.refl _ _).alloc (Nat.le_refl _) _, fun X hX => ⟨?_, ?_⟩⟩
  · rw [hX.cell (p := ⟨w.heap.size, 0, none⟩) (by simp), ← h]; simp [go_sem]
  · rw [hX.cell (p := ⟨w.heap.size, 1, none⟩) (by simp), ← h]; simp [go_sem]

/-- What Retained says, and what it tells. -/
def retE (g : Gr) (v : Int) : Int := if checkG g ≠ 0 then checkG g else if v < 0 ∨ (g.objs.length : Int) ≤ v then 2 else 0
def retR (g : Gr) (v : Int) : List Int := if retE g v = 0 then retL g v else []

theorem retE_bad {g : Gr} (h : checkG g ≠ 0) (v : Int) : retE g v ≠ 0 := by unfold retE; rw [if_pos h]; exact h
theorem retE_arg {g : Gr} (h : checkG g = 0) {v : Int} (hv : v < 0 ∨ (g.objs.length : Int) ≤ v) : retE g v = 2 := by unfold retE; rw [if_neg (by simpa using h), if_pos hv]
theorem retE_ok {g : Gr} (h : checkG g = 0) {v : Int} (h0 : 0 ≤ v) (h1 : v < g.objs.length) : retE g v = 0 := by unfold retE; rw [if_neg (by simpa using h), if_neg (by omega)]
theorem retR_ok {g : Gr} (h : checkG g = 0) {v : Int} (h0 : 0 ≤ v) (h1 : v < g.objs.length) : retR g v = retL g v := by unfold retR; rw [if_pos (retE_ok h h0 h1)]
theorem ints_nil (B : Nat) (w : World) (a : Option Addr) : Ints B w a [] := ⟨by simp, fun h => absurd rfl h⟩

theorem ret_c (ao ar : Option Addr) (co cr : Nat) (g : Gr) (v : Int) (B : Nat) (w : World) (ho : Objs B w ao g.objs) (hr : Vals B w ar g.roots) (hB : B ≤ w.heap.size) :
    Calls Try.prog 7 #[.agg #[.slice ao g.objs.length co, .slice ar g.roots.length cr], .int .i64 v] w fun e w' => ∃ a cap, e = .returned (.tuple #[.slice a (retR g v).length cap, .int .i64 (retE g v)]) ∧ Ints w'.heap.size w' a (retR g v) ∧ Below w.heap.size w w' := by
  by_cases hc : checkG g = 0
  · by_cases hv : v < 0 ∨ (g.objs.length : Int) ≤ v
    · refine (ret_arg ao ar co cr g v B w ho hr hB hc hv).mono ?_
      rintro e w' ⟨rfl, hb⟩
      have h2 := retE_arg hc hv
      have h3 : retR g v = [] := by unfold retR; rw [if_neg (by omega)]
      rw [h2, h3]
      exact ⟨none, 0, rfl, ints_nil _ _ _, hb⟩
    · have h0 : 0 ≤ v := by omega
      have h1 : v < g.objs.length := by omega
      rw [retE_ok hc h0 h1, retR_ok hc h0 h1]
      exact ret_ok ao ar co cr g v B w ho hr hB hc h0 h1
  · refine (ret_bad ao ar co cr g v B w ho hr hB hc).mono ?_
    rintro e w' ⟨rfl, hb⟩
    have h2 : retE g v = checkG g := by unfold retE; rw [if_pos hc]
    have h3 : retR g v = [] := by unfold retR; rw [if_neg (retE_bad hc v)]
    rw [h2, h3]
    exact ⟨none, 0, rfl, ints_nil _ _ _, hb⟩

set_option maxRecDepth 100000 in
set_option maxHeartbeats 1000000 in
theorem inside_g (a1 a2 : Option Addr) (c1 c2 : Nat) (l1 l2 : List Int) (B : Nat) (w : World) (h1 : Ints B w a1 l1) (h2 : Ints B w a2 l2) :
    Calls Try.prog 20 #[.slice a1 l1.length c1, .slice a2 l2.length c2] w fun e w' => e = .returned (.bool (l1.all fun x => decide (x ∈ l2))) ∧ w' = w := by
  have hl := h1.1
  go_enter Try.func20, Try.ntmps20
  go_wp2
  go_loop [9] (fun i => ∃ k : Nat, k ≤ l1.length ∧ i = .int .i64 k ∧ Hid ((l1.take k).all (fun x => decide (x ∈ l2)) = true)) (fun i => l1.length - (intOf i).toNat)
  case atStart => exact ⟨0, Nat.zero_le _, rfl, by show (l1.take 0).all _ = true; simp⟩
  case round =>
    obtain ⟨k, hk, rfl, Ht⟩ := hrel
    by_cases hlt : k < l1.length
    · obtain ⟨b, off, rfl, hbB, hc⟩ := h1.at hlt
      have Hy := hide (fun h => all_take (p := fun x => decide (x ∈ l2)) hlt (unhide Ht) h)
      have Hn := hide (fun h => all_not (p := fun x => decide (x ∈ l2)) hlt h)
      generalize l1[k] = y at *
      by_cases hy : y ∈ l2
      · have Hyy := hide hy
        clear hy
        go_wp2_with (go_at_call 17; go_must (refine (has_c _ _ l2 y B _ h2).mono ?_); go_must (rintro e w3 ⟨he, hw3⟩; rw [decide_eq_true (unhide Hyy)] at he; subst he; have hw3 := hw3.symm; subst hw3))
        go_round
        case rel => exact ⟨k + 1, by omega, by go_num, hide (unhide Hy (decide_eq_true (unhide Hyy)))⟩
        case measure => simp [intOf]; omega
      · have Hyy := hide hy
        clear hy
        go_wp2_with (go_at_call 17; go_must (refine (has_c _ _ l2 y B _ h2).mono ?_); go_must (rintro e w3 ⟨he, hw3⟩; rw [decide_eq_false (unhide Hyy)] at he; subst he; have hw3 := hw3.symm; subst hw3))
        go_ret
        exact ⟨ret_bool (unhide Hn (decide_eq_false (unhide Hyy))).symm, rfl⟩
    · obtain rfl : k = l1.length := by omega
      have Hf : Hid (l1.all (fun x => decide (x ∈ l2)) = true) := by have := unhide Ht; rw [List.take_length] at this; exact this
      go_wp2
      go_ret
      exact ⟨ret_bool (unhide Hf).symm, rfl⟩

/-- What two keep lies the one within the other, or they keep nothing both. -/
theorem nested {g : Gr} (h : Good g) (v u : Int) : (∀ x ∈ retL g v, x ∈ retL g u) ∨ (∀ x ∈ retL g u, x ∈ retL g v) ∨ (∀ x ∈ retL g v, x ∉ retL g u) := by
  have key : ∀ v u : Int, v ∉ leftL g u → ∀ x ∈ retL g v, x ∈ retL g u := by
    intro v u hvu x hx
    rw [mem_ret] at hx ⊢
    refine ⟨hx.1, fun hc => hx.2 ?_⟩
    refine left_ind h (wo := u) (fun x => x ∈ leftL g v) (fun x hx' hn => ?_) (fun x y hx' hp hy hn => ?_) x hc
    · by_cases e : x = v
      · subst e; exact absurd (left_roots h hx' hn) hvu
      · exact left_roots h hx' e
    · by_cases e : y = v
      · subst e; exact absurd (left_next h hx' hy hn) hvu
      · exact left_next h hp hy e
  by_cases h1 : v ∈ leftL g u
  · by_cases h2 : u ∈ leftL g v
    · refine .inr (.inr fun x hx hxu => ?_)
      rw [mem_ret] at hx hxu
      have : x ∈ leftL g v ∨ x ∈ leftL g u := by
        refine order_ind h (fun x => x ∈ leftL g v ∨ x ∈ leftL g u) (fun x hx => ?_) (fun x y _ hp hy => ?_) x hx.1
        · by_cases e : x = v
          · subst e; exact .inr h1
          · exact .inl (left_roots h hx e)
        · rcases hp with hp | hp
          · by_cases e : y = v
            · subst e; exact .inr h1
            · exact .inl (left_next h hp hy e)
          · by_cases e : y = u
            · subst e; exact .inl h2
            · exact .inr (left_next h hp hy e)
      rcases this with e | e
      · exact hx.2 e
      · exact hxu.2 e
    · exact .inr (.inl (key u v h2))
  · exact .inl (key v u h1)

theorem ret_self {g : Gr} (h : Good g) (v : Int) : v ∈ retL g v ↔ v ∈ orderOf g := by
  rw [mem_ret]
  exact ⟨fun e => e.1, fun e => ⟨e, fun hc => left_ne h hc rfl⟩⟩

set_option maxRecDepth 100000 in
set_option maxHeartbeats 2000000 in
theorem domNested_bad (ao ar : Option Addr) (aoc arc : Nat) (a : Gr) (v u : Int) (w : World) (hao : Objs w.heap.size w ao a.objs) (har : Vals w.heap.size w ar a.roots) (na : checkG a ≠ 0) :
    Calls Try.prog 6 #[.agg #[.slice ao a.objs.length aoc, .slice ar a.roots.length arc], .int .i64 v, .int .i64 u] w fun e w' => e = .returned (.bool true) ∧ Below w.heap.size w w' := by
  have Ha := hide na
  have He1 := hide (retE_bad na v)
  clear na
  go_enter Try.func6, Try.ntmps6
  go_wp2_with fail
  obtain ⟨wu0, hu0⟩ : ∃ u0, w.alloc (.cells #[.slice ao a.objs.length aoc, .slice ar a.roots.length arc] 25) = u0 := ⟨_, rfl⟩
  rw [hu0]
  obtain ⟨hsz0, hw0, hcells⟩ := law_box _ _ 25 w wu0 hu0
  have Hcells := hide hcells
  clear hu0 hcells
  have hn0 : w.heap.size + 1 ≤ wu0.heap.size := by omega
  refine (ret_c _ _ _ _ a v w.heap.size _ (hao.below hw0) (har.below hw0) (by omega)).mono ?_
  rintro e wu1 ⟨a1, c1, rfl, hI1, hb1⟩
  have hk1 : Below (w.heap.size + 1) wu0 wu1 := hb1.mono hn0
  have hw1 : Below w.heap.size w wu1 := hw0.trans (hb1.mono (by omega))
  have hn1 : w.heap.size + 1 ≤ wu1.heap.size := by have := hb1.size; omega
  obtain ⟨x0, x1⟩ := unhide Hcells wu1 hk1
  generalize retR a v = l1 at *
  generalize retE a v = e1 at *
  go_wp2_with fail
  clear x0 x1
  refine (ret_c _ _ _ _ a u w.heap.size _ (hao.below hw1) (har.below hw1) (by omega)).mono ?_
  rintro e wu2 ⟨a2, c2, rfl, hI2, hb2⟩
  have hk2 : Below (w.heap.size + 1) wu0 wu2 := hk1.trans (hb2.mono hn1)
  have hw2 : Below w.heap.size w wu2 := hw1.trans (hb2.mono (by omega))
  have hn2 : w.heap.size + 1 ≤ wu2.heap.size := by have := hb2.size; omega
  have hI1 := (hI1.below hb2).mono (B' := wu2.heap.size) hb2.size
  generalize retR a u = l2 at *
  generalize retE a u = e2 at *
  obtain ⟨x0, x1⟩ := unhide Hcells wu2 hk2
  go_wp2_with fail
  clear x0 x1
  refine (good_c _ _ _ _ a w.heap.size _ (hao.below hw2) (har.below hw2) (by omega)).mono ?_
  rintro e wu3 ⟨he, hb3⟩
  have hk3 : Below (w.heap.size + 1) wu0 wu3 := hk2.trans (hb3.mono hn2)
  have hw3 : Below w.heap.size w wu3 := hw2.trans (hb3.mono (by omega))
  have hn3 : w.heap.size + 1 ≤ wu3.heap.size := by have := hb3.size; omega
  have hI1 := (hI1.below hb3).mono (B' := wu3.heap.size) hb3.size
  have hI2 := (hI2.below hb3).mono (B' := wu3.heap.size) hb3.size
  rw [checkG_beq' (unhide Ha)] at he
  subst he
  have d1 : (e1 != 0) = true := by simpa using unhide He1
  go_wp2
  go_ret
  exact ⟨rfl, hw3⟩

set_option maxRecDepth 100000 in
set_option maxHeartbeats 2000000 in
theorem domNested_arg (ao ar : Option Addr) (aoc arc : Nat) (a : Gr) (v u : Int) (w : World) (hao : Objs w.heap.size w ao a.objs) (har : Vals w.heap.size w ar a.roots) (na : checkG a = 0) (hv : (v < 0 ∨ (a.objs.length : Int) ≤ v) ∨ (u < 0 ∨ (a.objs.length : Int) ≤ u)) :
    Calls Try.prog 6 #[.agg #[.slice ao a.objs.length aoc, .slice ar a.roots.length arc], .int .i64 v, .int .i64 u] w fun e w' => e = .returned (.bool true) ∧ Below w.heap.size w w' := by
  have Ha := hide na
  have hao1 := hao.1
  have Hor : Hid (retE a v = 0 → retE a u ≠ 0) := fun h1 h2 => by
    rcases hv with hv | hv
    · rw [retE_arg na hv] at h1; cases h1
    · rw [retE_arg na hv] at h2; cases h2
  have Hv := hide hv
  clear na hv
  go_enter Try.func6, Try.ntmps6
  go_wp2_with fail
  obtain ⟨wu0, hu0⟩ : ∃ u0, w.alloc (.cells #[.slice ao a.objs.length aoc, .slice ar a.roots.length arc] 25) = u0 := ⟨_, rfl⟩
  rw [hu0]
  obtain ⟨hsz0, hw0, hcells⟩ := law_box _ _ 25 w wu0 hu0
  have Hcells := hide hcells
  clear hu0 hcells
  have hn0 : w.heap.size + 1 ≤ wu0.heap.size := by omega
  refine (ret_c _ _ _ _ a v w.heap.size _ (hao.below hw0) (har.below hw0) (by omega)).mono ?_
  rintro e wu1 ⟨a1, c1, rfl, hI1, hb1⟩
  have hk1 : Below (w.heap.size + 1) wu0 wu1 := hb1.mono hn0
  have hw1 : Below w.heap.size w wu1 := hw0.trans (hb1.mono (by omega))
  have hn1 : w.heap.size + 1 ≤ wu1.heap.size := by have := hb1.size; omega
  obtain ⟨x0, x1⟩ := unhide Hcells wu1 hk1
  generalize retR a v = l1 at *
  generalize retE a v = e1 at *
  go_wp2_with fail
  clear x0 x1
  refine (ret_c _ _ _ _ a u w.heap.size _ (hao.below hw1) (har.below hw1) (by omega)).mono ?_
  rintro e wu2 ⟨a2, c2, rfl, hI2, hb2⟩
  have hk2 : Below (w.heap.size + 1) wu0 wu2 := hk1.trans (hb2.mono hn1)
  have hw2 : Below w.heap.size w wu2 := hw1.trans (hb2.mono (by omega))
  have hn2 : w.heap.size + 1 ≤ wu2.heap.size := by have := hb2.size; omega
  have hI1 := (hI1.below hb2).mono (B' := wu2.heap.size) hb2.size
  generalize retR a u = l2 at *
  generalize retE a u = e2 at *
  obtain ⟨x0, x1⟩ := unhide Hcells wu2 hk2
  go_wp2_with fail
  clear x0 x1
  refine (good_c _ _ _ _ a w.heap.size _ (hao.below hw2) (har.below hw2) (by omega)).mono ?_
  rintro e wu3 ⟨he, hb3⟩
  have hk3 : Below (w.heap.size + 1) wu0 wu3 := hk2.trans (hb3.mono hn2)
  have hw3 : Below w.heap.size w wu3 := hw2.trans (hb3.mono (by omega))
  have hn3 : w.heap.size + 1 ≤ wu3.heap.size := by have := hb3.size; omega
  have hI1 := (hI1.below hb3).mono (B' := wu3.heap.size) hb3.size
  have hI2 := (hI2.below hb3).mono (B' := wu3.heap.size) hb3.size
  rw [checkG_beq (unhide Ha)] at he
  subst he
  obtain ⟨x0, x1⟩ := unhide Hcells wu3 hk3
  by_cases v0 : v < 0
  · have dv0 : decide (v < 0) = true := by simpa using v0
    by_cases he1 : e1 = 0
    · have d1 : (e1 != 0) = false := by simpa using he1
      have d2 : (e2 != 0) = true := by simpa using unhide Hor he1
      have He1 := hide he1
      clear he1
      go_wp2
      go_ret
      exact ⟨rfl, hw3⟩
    · have d1 : (e1 != 0) = true := by simpa using he1
      go_wp2
      go_ret
      exact ⟨rfl, hw3⟩
  · have dv0 : decide (v < 0) = false := by simpa using v0
    by_cases u0 : u < 0
    · have du0 : decide (u < 0) = true := by simpa using u0
      by_cases he1 : e1 = 0
      · have d1 : (e1 != 0) = false := by simpa using he1
        have d2 : (e2 != 0) = true := by simpa using unhide Hor he1
        have He1 := hide he1
        clear he1
        go_wp2
        go_ret
        exact ⟨rfl, hw3⟩
      · have d1 : (e1 != 0) = true := by simpa using he1
        go_wp2
        go_ret
        exact ⟨rfl, hw3⟩
    · have du0 : decide (u < 0) = false := by simpa using u0
      by_cases v1 : (a.objs.length : Int) ≤ v
      · have dv1 : decide (v ≥ (a.objs.length : Int)) = true := by simpa using v1
        have dv1' : decide ((a.objs.length : Int) ≤ v) = true := by simpa using v1
        by_cases he1 : e1 = 0
        · have d1 : (e1 != 0) = false := by simpa using he1
          have d2 : (e2 != 0) = true := by simpa using unhide Hor he1
          have He1 := hide he1
          clear he1
          go_wp2
          go_ret
          exact ⟨rfl, hw3⟩
        · have d1 : (e1 != 0) = true := by simpa using he1
          go_wp2
          go_ret
          exact ⟨rfl, hw3⟩
      · have dv1 : decide (v ≥ (a.objs.length : Int)) = false := by simpa using v1
        have dv1' : decide ((a.objs.length : Int) ≤ v) = false := by simpa using v1
        have u1 : (a.objs.length : Int) ≤ u := by have := unhide Hv; omega
        have du1 : decide (u ≥ (a.objs.length : Int)) = true := by simpa using u1
        have du1' : decide ((a.objs.length : Int) ≤ u) = true := by simpa using u1
        by_cases he1 : e1 = 0
        · have d1 : (e1 != 0) = false := by simpa using he1
          have d2 : (e2 != 0) = true := by simpa using unhide Hor he1
          have He1 := hide he1
          clear he1
          go_wp2
          go_ret
          exact ⟨rfl, hw3⟩
        · have d1 : (e1 != 0) = true := by simpa using he1
          go_wp2
          go_ret
          exact ⟨rfl, hw3⟩

set_option maxRecDepth 100000 in
set_option maxHeartbeats 4000000 in
theorem domNested_ok (ao ar : Option Addr) (aoc arc : Nat) (a : Gr) (v u : Int) (w : World) (hao : Objs w.heap.size w ao a.objs) (har : Vals w.heap.size w ar a.roots) (na : checkG a = 0) (v0 : 0 ≤ v) (v1 : v < a.objs.length) (u0 : 0 ≤ u) (u1 : u < a.objs.length) :
    Calls Try.prog 6 #[.agg #[.slice ao a.objs.length aoc, .slice ar a.roots.length arc], .int .i64 v, .int .i64 u] w fun e w' => e = .returned (.bool true) ∧ Below w.heap.size w w' := by
  have Ha := hide na
  have hG := good_of_check na
  have hao1 := hao.1
  have He1 := hide (retE_ok na v0 v1)
  have He2 := hide (retE_ok na u0 u1)
  have Hl1 := hide (retR_ok na v0 v1)
  have Hl2 := hide (retR_ok na u0 u1)
  clear na
  go_enter Try.func6, Try.ntmps6
  go_wp2_with fail
  obtain ⟨wu0, hu0⟩ : ∃ u0, w.alloc (.cells #[.slice ao a.objs.length aoc, .slice ar a.roots.length arc] 25) = u0 := ⟨_, rfl⟩
  rw [hu0]
  obtain ⟨hsz0, hw0, hcells⟩ := law_box _ _ 25 w wu0 hu0
  have Hcells := hide hcells
  clear hu0 hcells
  have hn0 : w.heap.size + 1 ≤ wu0.heap.size := by omega
  refine (ret_c _ _ _ _ a v w.heap.size _ (hao.below hw0) (har.below hw0) (by omega)).mono ?_
  rintro e wu1 ⟨a1, c1, rfl, hI1, hb1⟩
  have hk1 : Below (w.heap.size + 1) wu0 wu1 := hb1.mono hn0
  have hw1 : Below w.heap.size w wu1 := hw0.trans (hb1.mono (by omega))
  have hn1 : w.heap.size + 1 ≤ wu1.heap.size := by have := hb1.size; omega
  obtain ⟨x0, x1⟩ := unhide Hcells wu1 hk1
  generalize retR a v = l1 at *
  generalize retE a v = e1 at *
  go_wp2_with fail
  clear x0 x1
  refine (ret_c _ _ _ _ a u w.heap.size _ (hao.below hw1) (har.below hw1) (by omega)).mono ?_
  rintro e wu2 ⟨a2, c2, rfl, hI2, hb2⟩
  have hk2 : Below (w.heap.size + 1) wu0 wu2 := hk1.trans (hb2.mono hn1)
  have hw2 : Below w.heap.size w wu2 := hw1.trans (hb2.mono (by omega))
  have hn2 : w.heap.size + 1 ≤ wu2.heap.size := by have := hb2.size; omega
  have hI1 := (hI1.below hb2).mono (B' := wu2.heap.size) hb2.size
  generalize retR a u = l2 at *
  generalize retE a u = e2 at *
  obtain ⟨x0, x1⟩ := unhide Hcells wu2 hk2
  go_wp2_with fail
  clear x0 x1
  refine (good_c _ _ _ _ a w.heap.size _ (hao.below hw2) (har.below hw2) (by omega)).mono ?_
  rintro e wu3 ⟨he, hb3⟩
  have hk3 : Below (w.heap.size + 1) wu0 wu3 := hk2.trans (hb3.mono hn2)
  have hw3 : Below w.heap.size w wu3 := hw2.trans (hb3.mono (by omega))
  have hn3 : w.heap.size + 1 ≤ wu3.heap.size := by have := hb3.size; omega
  have hI1 := (hI1.below hb3).mono (B' := wu3.heap.size) hb3.size
  have hI2 := (hI2.below hb3).mono (B' := wu3.heap.size) hb3.size
  rw [checkG_beq (unhide Ha)] at he
  subst he
  have d1 : (e1 != 0) = false := by simpa using unhide He1
  have d2 : (e2 != 0) = false := by simpa using unhide He2
  have dv0 : decide (v < 0) = false := by simp; omega
  have du0 : decide (u < 0) = false := by simp; omega
  have dv1 : decide (v ≥ (a.objs.length : Int)) = false := by simp; omega
  have dv1' : decide ((a.objs.length : Int) ≤ v) = false := by simp; omega
  have du1 : decide (u ≥ (a.objs.length : Int)) = false := by simp; omega
  have du1' : decide ((a.objs.length : Int) ≤ u) = false := by simp; omega
  obtain ⟨x0, x1⟩ := unhide Hcells wu3 hk3
  have Hself : Hid (decide (v ∈ reachK a a.objs.length) = decide (v ∈ l1)) := by
    show _ = _
    rw [Bool.eq_iff_iff, decide_eq_true_eq, decide_eq_true_eq, unhide Hl1, ret_self hG, ← reach_same hG, sortL_mem]
  have Hin : Hid ((l1.all fun x => decide (x ∈ sortL (orderOf a))) = true) := by
    show _ = _
    rw [List.all_eq_true]
    intro x hx
    rw [unhide Hl1, mem_ret] at hx
    simpa [sortL_mem] using hx.1
  have Hnest := hide (nested hG v u)
  rw [← unhide Hl1, ← unhide Hl2] at Hnest
  clear Hl1 Hl2
  go_wp2_with fail
  clear x0 x1
  refine (reach_ok _ _ _ _ a w.heap.size _ (hao.below hw3) (har.below hw3) (by omega) (unhide Ha)).mono ?_
  rintro e wu4 ⟨a4, c4, rfl, hI4, hb4⟩
  have hk4 : Below (w.heap.size + 1) wu0 wu4 := hk3.trans (hb4.mono hn3)
  have hw4 : Below w.heap.size w wu4 := hw3.trans (hb4.mono (by omega))
  have hn4 : w.heap.size + 1 ≤ wu4.heap.size := by have := hb4.size; omega
  have hI1 := (hI1.below hb4).mono (B' := wu4.heap.size) hb4.size
  have hI2 := (hI2.below hb4).mono (B' := wu4.heap.size) hb4.size
  generalize sortL (orderOf a) = l4 at *
  obtain ⟨x0, x1⟩ := unhide Hcells wu4 hk4
  go_wp2_with fail
  clear x0 x1
  refine (refReach_c _ _ _ _ a w.heap.size _ (hao.below hw4) (har.below hw4) (by omega) hG).mono ?_
  rintro e wu5 ⟨a5, c5, rfl, hI5, hb5⟩
  have hw5 : Below w.heap.size w wu5 := hw4.trans (hb5.mono (by omega))
  have hI1 := (hI1.below hb5).mono (B' := wu5.heap.size) hb5.size
  have hI2 := (hI2.below hb5).mono (B' := wu5.heap.size) hb5.size
  have hI4 := (hI4.below hb5).mono (B' := wu5.heap.size) hb5.size
  generalize reachK a a.objs.length = l5 at *
  go_wp2_with fail
  refine (has_c a5 c5 l5 v wu5.heap.size _ hI5).mono ?_
  rintro e wu6 ⟨he6, hu6⟩
  have hu6 := hu6.symm
  subst hu6
  rw [unhide Hself] at he6
  subst he6
  go_wp2_with fail
  refine (has_c a1 c1 l1 v wu5.heap.size _ hI1).mono ?_
  rintro e wu7 ⟨rfl, hu7⟩
  have hu7 := hu7.symm
  subst hu7
  generalize decide (v ∈ l1) = bb at *
  have dbb : (bb != bb) = false := by cases bb <;> rfl
  go_wp2_with fail
  refine (inside_g a1 a4 c1 c4 l1 l4 wu5.heap.size _ hI1 hI4).mono ?_
  rintro e wu8 ⟨he8, hu8⟩
  have hu8 := hu8.symm
  subst hu8
  rw [unhide Hin] at he8
  subst he8
  go_wp2_with fail
  refine (inside_g a1 a2 c1 c2 l1 l2 wu5.heap.size _ hI1 hI2).mono ?_
  rintro e wu9 ⟨he9, hu9⟩
  have hu9 := hu9.symm
  subst hu9
  by_cases h12 : (l1.all fun x => decide (x ∈ l2)) = true
  · rw [h12] at he9
    subst he9
    go_wp2
    go_ret
    exact ⟨rfl, hw5⟩
  · have h12' : (l1.all fun x => decide (x ∈ l2)) = false := by simpa using h12
    rw [h12'] at he9
    subst he9
    have H12 := hide h12
    clear h12 h12'
    go_wp2_with fail
    refine (inside_g a2 a1 c2 c1 l2 l1 wu5.heap.size _ hI2 hI1).mono ?_
    rintro e wu10 ⟨he10, hu10⟩
    have hu10 := hu10.symm
    subst hu10
    by_cases h21 : (l2.all fun x => decide (x ∈ l1)) = true
    · rw [h21] at he10
      subst he10
      go_wp2
      go_ret
      exact ⟨rfl, hw5⟩
    · have h21' : (l2.all fun x => decide (x ∈ l1)) = false := by simpa using h21
      rw [h21'] at he10
      subst he10
      have Hdis : Hid (∀ x ∈ l1, x ∉ l2) := by
        rcases unhide Hnest with h | h | h
        · exact absurd (List.all_eq_true.2 fun x hx => by simpa using h x hx) (unhide H12)
        · exact absurd (List.all_eq_true.2 fun x hx => by simpa using h x hx) h21
        · exact h
      clear h21 h21' Hnest
      have hl1 := hI1.1
      go_wp2
      go_loop [99] (fun i => ∃ k : Nat, k ≤ l1.length ∧ i = .int .i64 k) (fun i => l1.length - (intOf i).toNat)
      case atStart => exact ⟨0, Nat.zero_le _, rfl⟩
      case round =>
        obtain ⟨k, hk, rfl⟩ := hrel
        by_cases hlt : k < l1.length
        · obtain ⟨b, off, rfl, hbB, hc⟩ := hI1.at hlt
          have Hx := hide (unhide Hdis _ (List.getElem_mem hlt))
          generalize l1[k] = y at *
          go_wp2_with (go_at_call 17; go_must (refine (has_c _ _ l2 y wu5.heap.size _ hI2).mono ?_); go_must (rintro e w3 ⟨he, hw3⟩; rw [decide_eq_false (unhide Hx)] at he; subst he; have hw3 := hw3.symm; subst hw3))
          go_round
          case rel => exact ⟨k + 1, by omega, by go_num⟩
          case measure => simp [intOf]; omega
        · obtain rfl : k = l1.length := by omega
          go_wp2
          go_ret
          exact ⟨rfl, hw5⟩

theorem domNested_c (ao ar : Option Addr) (aoc arc : Nat) (a : Gr) (v u : Int) (w : World) (hao : Objs w.heap.size w ao a.objs) (har : Vals w.heap.size w ar a.roots) :
    Calls Try.prog 6 #[.agg #[.slice ao a.objs.length aoc, .slice ar a.roots.length arc], .int .i64 v, .int .i64 u] w fun e w' => e = .returned (.bool true) ∧ Below w.heap.size w w' := by
  by_cases na : checkG a = 0
  · by_cases hv : (v < 0 ∨ (a.objs.length : Int) ≤ v) ∨ (u < 0 ∨ (a.objs.length : Int) ≤ u)
    · exact domNested_arg ao ar aoc arc a v u w hao har na hv
    · exact domNested_ok ao ar aoc arc a v u w hao har na (by omega) (by omega) (by omega) (by omega)
  · exact domNested_bad ao ar aoc arc a v u w hao har na

end Go.Proofs.Ythpmckfgngkbhaa

/- Plain: who keeps an object at once. -/
namespace Go.Proofs.Ythpmckfgngkbhaa
set_option linter.unusedSimpArgs false
set_option linter.unusedVariables false

theorem left_all {g : Gr} (h : Good g) {x : Int} : x ∈ leftL g (-1) ↔ x ∈ orderOf g := by
  constructor
  · exact left_sub h
  · exact order_ind h (fun x => x ∈ leftL g (-1)) (fun x hx => left_roots h hx (by have := (h.roots x hx).1; omega)) (fun x y _ hp hy => left_next h hp hy (by have := (refs_rng h x y hy).1; omega)) x

theorem back_all {g : Gr} (h : Good g) {x : Int} : x ∈ backL g (-1) ↔ x ∈ orderOf g := (back_mem h (-1) x).trans (left_all h)

theorem back_rng {g : Gr} (h : Good g) : ∀ x ∈ backL g (-1), 0 ≤ x ∧ x < (g.objs.length : Int) := fun x hx => order_ok h ((back_all h).1 hx)
theorem back_cl {g : Gr} (h : Good g) : ∀ x ∈ backL g (-1), ∀ y ∈ refsL (fieldsOf g x), y ∈ backL g (-1) := fun x hx y hy => (back_all h).2 (order_closed h ((back_all h).1 hx) y hy)
theorem back_rt {g : Gr} (h : Good g) : ∀ y ∈ refsL g.roots, y ∈ backL g (-1) := fun y hy => (back_all h).2 (order_roots g y hy)

/-- Each has one that refers to it out of which one goes back later. -/
theorem back_par {g : Gr} (h : Good g) {m : Nat} (hm : m < (backL g (-1)).length) : ∃ p, m < p ∧ EG g (backL g (-1)) p m := by
  rcases (way_vis h (-1)).cau m _ (List.getElem?_eq_getElem hm) with e | ⟨j, o, hj, ho, e⟩
  · exact ⟨_, hm, hm, .inr ⟨rfl, e⟩⟩
  · obtain ⟨hjl, rfl⟩ := List.getElem?_eq_some_iff.1 ho
    exact ⟨j, hj, hm, .inl ⟨hjl, e⟩⟩

theorem nd_inj {l : List Int} (hnd : l.Nodup) {i j : Nat} (hi : i < l.length) (hj : j < l.length) (h : l[i] = l[j]) : i = j := by
  refine (List.getElem?_inj hi hnd).1 ?_
  rw [List.getElem?_eq_getElem hi, List.getElem?_eq_getElem hj, h]

/-- To be come to without x, by numbers, is to be left without its object. -/
theorem av_left {g : Gr} (h : Good g) {n x : Nat} (hn : n < (backL g (-1)).length) (hx : x < (backL g (-1)).length) :
    Av (EG g (backL g (-1))) (backL g (-1)).length x n ↔ (backL g (-1))[n] ∈ leftL g (backL g (-1))[x] := by
  have hnd := back_nodup h (-1)
  have hall : ∀ y ∈ orderOf g, y ∈ backL g (-1) := fun y hy => (back_all h).2 hy
  generalize backL g (-1) = ord at *
  constructor
  · intro ha
    have := ha (fun m => m = ord.length ∨ ∃ hm : m < ord.length, ord[m] ∈ leftL g ord[x]) (fun _ => .inl rfl) (by
      rintro p m hp ⟨hm, ⟨hpl, he⟩ | ⟨_, he⟩⟩ hmx
      · rcases hp with e | ⟨_, e⟩
        · omega
        · exact .inr ⟨hm, left_next h e he (fun e => hmx (nd_inj hnd hm hx e))⟩
      · exact .inr ⟨hm, left_roots h he (fun e => hmx (nd_inj hnd hm hx e))⟩)
    rcases this with e | ⟨_, e⟩
    · omega
    · exact e
  · intro ha
    refine left_ind h (wo := ord[x]) (fun o => ∀ n, (hn : n < ord.length) → ord[n] = o → Av (EG g ord) ord.length x n) (fun o ho hne n hn e => ?_) (fun o y ho hp hy hne n hn e => ?_) _ ha n hn rfl
    · subst e
      exact (Av.root (by omega)).next ⟨hn, .inr ⟨rfl, ho⟩⟩ (fun e => hne (by subst e; rfl))
    · subst e
      obtain ⟨p, hp2, hpo⟩ := List.mem_iff_getElem.1 (hall o (left_sub h ho))
      exact (hp p hp2 hpo).next ⟨hn, .inl ⟨hp2, by rw [hpo]; exact hy⟩⟩ (fun e => hne (by subst e; rfl))

theorem ret_order {g : Gr} (h : Good g) {v i : Int} (hi : i ∈ retL g v) : v ∈ orderOf g := by
  rw [mem_ret] at hi
  refine Classical.byContradiction fun hc => hi.2 ?_
  refine order_ind h (fun x => x ∈ leftL g v) (fun x hx => left_roots h hx (fun e => hc (by rw [← e]; exact order_roots g x hx))) (fun x y hx hp hy => left_next h hp hy (fun e => hc (by rw [← e]; exact order_closed h hx y hy))) i hi.1

theorem ret_trans {g : Gr} (h : Good g) {v u i : Int} (h1 : u ∈ retL g v) (h2 : i ∈ retL g u) : i ∈ retL g v := by
  rw [mem_ret] at h1 h2 ⊢
  refine ⟨h2.1, fun hc => h2.2 ?_⟩
  refine left_ind h (wo := v) (fun x => x ∈ leftL g u) (fun x hx' hn => ?_) (fun x y hx' hp hy hn => ?_) i hc
  · by_cases e : x = u
    · subst e; exact absurd (left_roots h hx' hn) h1.2
    · exact left_roots h hx' e
  · by_cases e : y = u
    · subst e; exact absurd (left_next h hx' hy hn) h1.2
    · exact left_next h hp hy e

theorem ret_anti {g : Gr} (h : Good g) {v u : Int} (h1 : u ∈ retL g v) (h2 : v ∈ retL g u) : v = u := by
  refine Classical.byContradiction fun hne => ?_
  rw [mem_ret] at h1 h2
  have := order_ind h (fun x => x ∈ leftL g v ∧ x ∈ leftL g u) (fun x hx => ?_) (fun x y hx hp hy => ?_) v h2.1
  · exact left_ne h this.1 rfl
  · by_cases e : x = v
    · subst e; exact absurd (left_roots h hx hne) h2.2
    · by_cases e2 : x = u
      · subst e2; exact absurd (left_roots h hx e) h1.2
      · exact ⟨left_roots h hx e, left_roots h hx e2⟩
  · by_cases e : y = v
    · subst e; exact absurd (left_next h hp.2 hy hne) h2.2
    · by_cases e2 : y = u
      · subst e2; exact absurd (left_next h hp.1 hy e) h1.2
      · exact ⟨left_next h hp.1 hy e, left_next h hp.2 hy e2⟩

/-- Of two that keep one object, one keeps the other. -/
theorem ret_lin {g : Gr} (h : Good g) {v u i : Int} (h1 : i ∈ retL g v) (h2 : i ∈ retL g u) : v ∈ retL g u ∨ u ∈ retL g v := by
  rcases nested h v u with e | e | e
  · exact .inl (e v ((ret_self h v).2 (ret_order h h1)))
  · exact .inr (e u ((ret_self h u).2 (ret_order h h2)))
  · exact absurd h2 (e i h1)

/-- What is told of who keeps an object at once. -/
def Near (g : Gr) (i d : Int) : Prop := (i ∉ orderOf g ∧ d = -2) ∨ (i ∈ orderOf g ∧ ((d = -1 ∧ ∀ v, i ∈ retL g v → v = i) ∨ (d ≠ i ∧ i ∈ retL g d ∧ ∀ v, i ∈ retL g v → v ≠ i → d ∈ retL g v)))

theorem ret_nonneg {g : Gr} (h : Good g) {v i : Int} (hi : i ∈ retL g v) : 0 ≤ v ∧ v < (g.objs.length : Int) := order_ok h (ret_order h hi)

theorem near_one {g : Gr} (h : Good g) {i d d' : Int} (h1 : Near g i d) (h2 : Near g i d') : d = d' := by
  rcases h1 with ⟨a, rfl⟩ | ⟨a, h1⟩
  · rcases h2 with ⟨b, rfl⟩ | ⟨b, h2⟩
    · rfl
    · exact absurd b a
  · rcases h2 with ⟨b, rfl⟩ | ⟨b, h2⟩
    · exact absurd a b
    · rcases h1 with ⟨rfl, h1⟩ | ⟨n1, k1, h1⟩
      · rcases h2 with ⟨rfl, h2⟩ | ⟨n2, k2, h2⟩
        · rfl
        · exact absurd (h1 _ k2) n2
      · rcases h2 with ⟨rfl, h2⟩ | ⟨n2, k2, h2⟩
        · exact absurd (h2 _ k1) n1
        · exact ret_anti h (h1 _ k2 n2 |> fun e => (h2 _ k1 n1)) (h1 _ k2 n2)

/-- What Idom tells of an object, by the keepers. -/
def idomAt (ord K : List Int) (i : Int) : Int := if i ∈ ord then (if K.getD (ord.idxOf i) 0 < (ord.length : Int) then ord.getD (K.getD (ord.idxOf i) 0).toNat 0 else -1) else -2
def idomL (N : Nat) (ord K : List Int) : List Int := (List.range N).map fun (i : Nat) => idomAt ord K i

theorem idom_near {g : Gr} (h : Good g) {K : List Int} (hK : KSt (fromL g (backL g (-1))) 0 K) (hfix : ∀ n, n < (fromL g (backL g (-1))).length → FixAt (fromL g (backL g (-1))) K n) (i : Int) : Near g i (idomAt (backL g (-1)) K i) := by
  have hnd := back_nodup h (-1)
  have hcl := back_cl h
  have hrt := back_rt h
  have hlen := fromL_len g (backL g (-1))
  have hE : Eof (fromL g (backL g (-1))) = EG g (backL g (-1)) := by
    funext p m; exact propext (eof_eg hnd hcl hrt p m)
  have hEb : ∀ p m, Eof (fromL g (backL g (-1))) p m → p ≤ (fromL g (backL g (-1))).length ∧ m < (fromL g (backL g (-1))).length := by
    intro p m he
    rw [hE] at he
    rw [hlen]
    obtain ⟨hm, ⟨hp, _⟩ | ⟨hp, _⟩⟩ := he
    · exact ⟨by omega, hm⟩
    · exact ⟨by omega, hm⟩
  have hfin : ∀ n x, n < (backL g (-1)).length → x < (backL g (-1)).length → ∀ (hn : n < (backL g (-1)).length) (hx : x < (backL g (-1)).length), Anc (kf K) n x ↔ (backL g (-1))[n] ∈ retL g (backL g (-1))[x] := by
    intro n x _ _ hn hx
    rw [hK.ok.fin hEb hfix (by rw [hlen]; exact hn) x, hE, hlen, av_left h hn hx, mem_ret]
    exact ⟨fun e => ⟨(back_all h).1 (List.getElem_mem hn), e⟩, fun e => e.2⟩
  have hKl := hK.len
  have hall : ∀ y, y ∈ orderOf g ↔ y ∈ backL g (-1) := fun y => (back_all h).symm
  unfold idomAt
  rw [hlen] at hKl
  have hok := hK.ok
  rw [hlen] at hok
  clear hfix hK hEb
  generalize backL g (-1) = ord at *
  by_cases hi : i ∈ ord
  · rw [if_pos hi]
    have hn : ord.idxOf i < ord.length := List.idxOf_lt_length_iff.2 hi
    have hni : ord[ord.idxOf i] = i := List.getElem_idxOf hn
    generalize ord.idxOf i = n at *
    have hnK : n < K.length := by omega
    have hkn : kk K n := hok.seen n (Nat.zero_le _) (by omega)
    have hKn : K.getD n 0 = ((kf K n : Nat) : Int) := by
      rw [List.getD_eq_getElem?_getD, List.getElem?_eq_getElem hnK]
      exact kf_get hnK hkn
    rw [hKn]
    have hup := hok.up n hn hkn
    have hbk := hok.bnd _ hup.2
    refine .inr ⟨(hall i).2 hi, ?_⟩
    have hkeep : ∀ v, i ∈ retL g v → v ≠ i → ∃ (x : Nat) (hx : x < ord.length), ord[x] = v ∧ Anc (kf K) (kf K n) x := by
      intro v hv hne
      obtain ⟨x, hx, hxv⟩ := List.mem_iff_getElem.1 ((hall v).1 (ret_order h hv))
      refine ⟨x, hx, hxv, ?_⟩
      rcases anc_iff.1 ((hfin n x hn hx hn hx).2 (by rw [hni, hxv]; exact hv)) with e | e
      · subst e; exact absurd (hxv.symm.trans hni) hne
      · exact e
    by_cases hlt : kf K n < ord.length
    · rw [if_pos (by omega)]
      have e : ord.getD ((kf K n : Nat) : Int).toNat 0 = ord[kf K n] := by simp [hlt]
      rw [e]
      refine .inr ⟨fun e2 => ?_, ?_, fun v hv hne => ?_⟩
      · have := nd_inj hnd hlt hn (e2.trans hni.symm)
        omega
      · have := (hfin n (kf K n) hn hlt hn hlt).1 (Anc.refl _ _).step
        rwa [hni] at this
      · obtain ⟨x, hx, hxv, ha⟩ := hkeep v hv hne
        have := (hfin (kf K n) x hlt hx hlt hx).1 ha
        rwa [hxv] at this
    · rw [if_neg (by omega)]
      refine .inl ⟨rfl, fun v hv => Classical.byContradiction fun hne => ?_⟩
      obtain ⟨x, hx, hxv, ha⟩ := hkeep v hv hne
      have e : kf K n = ord.length := by omega
      rw [e] at ha
      have := ha.fix hok.top
      omega
  · rw [if_neg hi]
    exact .inl ⟨fun e => hi ((hall i).1 e), rfl⟩

end Go.Proofs.Ythpmckfgngkbhaa

/- Walks: Idom. -/
namespace Go.Proofs.Ythpmckfgngkbhaa
set_option linter.unusedSimpArgs false
set_option linter.unusedVariables false
open Go.RowKit Go.Shelf

set_option maxRecDepth 100000 in
set_option maxHeartbeats 1000000 in
theorem idom_bad (ao ar : Option Addr) (co cr : Nat) (g : Gr) (B : Nat) (w : World) (ho : Objs B w ao g.objs) (hr : Vals B w ar g.roots) (hB : B ≤ w.heap.size) (hc : checkG g ≠ 0) :
    Calls Try.prog 8 #[.agg #[.slice ao g.objs.length co, .slice ar g.roots.length cr]] w fun e w' => e = .returned (.tuple #[.slice none 0 0, .int .i64 (checkG g)]) ∧ Below w.heap.size w w' := by
  have hd : (checkG g != 0) = true := by simpa using hc
  clear hc
  have hb1 := (Below.refl w.heap.size w).alloc (Nat.le_refl _) (.cells #[.slice ao g.objs.length co, .slice ar g.roots.length cr] 25)
  go_enter Try.func8, Try.ntmps8
  go_wp2_with (go_at_call 24; go_must (refine (check_c _ _ _ _ g B _ (ho.below (hb1.mono hB)) (hr.below (hb1.mono hB)) (by simp; omega)).mono ?_); go_must (rintro e w2 ⟨rfl, hb2⟩))
  go_ret2
  exact ⟨rfl, hb1.trans (hb2.mono (by simp))⟩

/-- The first n on the way back are told. -/
def idomP (N : Nat) (ord K : List Int) (n : Nat) : List Int := (List.range N).map fun (i : Nat) => if (i : Int) ∈ ord.take n then idomAt ord K i else -2

theorem idomP_zero (N : Nat) (ord K : List Int) : idomP N ord K 0 = List.replicate N (-2) := by
  refine List.ext_getElem (by simp [idomP]) fun i h1 h2 => ?_
  simp [idomP]

theorem idomP_len (N : Nat) (ord K : List Int) (n : Nat) : (idomP N ord K n).length = N := by simp [idomP]

theorem idomP_end (N : Nat) (ord K : List Int) : idomP N ord K ord.length = idomL N ord K := by
  refine List.ext_getElem (by simp [idomP, idomL]) fun i h1 h2 => ?_
  simp only [idomP, idomL, List.getElem_map, List.getElem_range, List.take_length]
  split
  · rfl
  · rename_i h
    unfold idomAt
    rw [if_neg h]

theorem idomP_succ {N : Nat} {ord K : List Int} (hnd : ord.Nodup) {n : Nat} (hn : n < ord.length) {x : Nat} (hx : ord[n] = (x : Int)) : idomP N ord K (n + 1) = (idomP N ord K n).set x (idomAt ord K x) := by
  refine List.ext_getElem (by simp [idomP]) fun i h1 h2 => ?_
  have hiN : i < N := by simpa [idomP] using h1
  by_cases e : i = x
  · subst e
    rw [List.getElem_set_self]
    simp only [idomP, List.getElem_map, List.getElem_range]
    rw [if_pos (by rw [List.take_succ_eq_append_getElem hn, hx]; simp)]
  · rw [List.getElem_set_ne (fun h => e h.symm)]
    simp only [idomP, List.getElem_map, List.getElem_range]
    have : (i : Int) ∈ ord.take (n + 1) ↔ (i : Int) ∈ ord.take n := by
      rw [List.take_succ_eq_append_getElem hn, hx, List.mem_append, List.mem_singleton]
      exact ⟨fun h => h.resolve_right (by omega), .inl⟩
    simp only [this]

theorem idomAt_get {ord K : List Int} (hnd : ord.Nodup) {n : Nat} (hn : n < ord.length) (hnK : n < K.length) : idomAt ord K ord[n] = if K[n] < (ord.length : Int) then ord.getD K[n].toNat 0 else -1 := by
  unfold idomAt
  rw [if_pos (List.getElem_mem hn)]
  have e : ord.idxOf ord[n] = n := by
    have h1 : ord.idxOf ord[n] < ord.length := List.idxOf_lt_length_iff.2 (List.getElem_mem hn)
    exact nd_inj hnd h1 hn (List.getElem_idxOf h1)
  rw [e]
  simp [hnK]

set_option maxRecDepth 100000 in
set_option maxHeartbeats 4000000 in
theorem idom_ok (ao ar : Option Addr) (co cr : Nat) (g : Gr) (B : Nat) (w : World) (ho : Objs B w ao g.objs) (hr : Vals B w ar g.roots) (hB : B ≤ w.heap.size) (hc : checkG g = 0) :
    Calls Try.prog 8 #[.agg #[.slice ao g.objs.length co, .slice ar g.roots.length cr]] w fun e w' => ∃ a cap D, e = .returned (.tuple #[.slice a g.objs.length cap, .int .i64 0]) ∧ Hid (D.length = g.objs.length) ∧ Ints w'.heap.size w' a D ∧ Hid (∀ i : Nat, i < g.objs.length → ∃ d, D[i]? = some d ∧ Near g i d) ∧ Below w.heap.size w w' := by
  have Hc := hide hc
  have hG := good_of_check hc
  have ho1 := ho.1
  have hr1 := hr.1
  have hn24 := hG.n24
  clear hc
  have hb1 := (Below.refl w.heap.size w).alloc (Nat.le_refl _) (.cells #[.slice ao g.objs.length co, .slice ar g.roots.length cr] 25)
  go_enter Try.func8, Try.ntmps8
  go_wp2_with fail
  refine (check_c _ _ _ _ g B _ (ho.below (hb1.mono hB)) (hr.below (hb1.mono hB)) (by simp; omega)).mono ?_
  rintro e w2 ⟨he, hb2⟩
  rw [unhide Hc] at he
  subst he
  simp only [World.size_alloc] at hb2
  have hs2 := hb2.size
  simp at hs2
  have hk2 : Below (w.heap.size + 1) (w.alloc (.cells #[.slice ao g.objs.length co, .slice ar g.roots.length cr] 25)) w2 := hb2
  have g0 := hb2.cell (p := ⟨w.heap.size, 0, none⟩) (by simp)
  have g1 := hb2.cell (p := ⟨w.heap.size, 1, none⟩) (by simp)
  simp [go_sem] at g0 g1
  have hbw2 : Below w.heap.size w w2 := hb1.trans (hb2.mono (by omega))
  clear hb1 hb2 hk2
  go_wp2_with fail
  refine (wayBack_c _ _ _ _ g (-1) B _ (ho.below (hbw2.mono hB)) (hr.below (hbw2.mono hB)) (by omega) hG).mono ?_
  rintro e w3 ⟨vo, gb, rfl, hne, hro3, hrn3, hb3⟩
  obtain ⟨oa, oc, rfl⟩ := ownsRow_slice hro3
  have hs3 := hb3.size
  have hbw3 : Below w.heap.size w w3 := hbw2.trans (hb3.mono (by omega))
  have g0 := (hb3.cell (p := ⟨w.heap.size, 0, none⟩) (by simp; omega)).trans g0
  have g1 := (hb3.cell (p := ⟨w.heap.size, 1, none⟩) (by simp; omega)).trans g1
  have hol := back_len hG (-1)
  have Hnd := hide (back_nodup hG (-1))
  have Hrg := hide (back_rng hG)
  have Hnear := hide (fun K hK hfix i => idom_near hG (K := K) hK hfix i)
  have HPar := hide (fun m (hm : m < (backL g (-1)).length) => back_par hG hm)
  have Heof := hide (fun p m => eof_eg (back_nodup hG (-1)) (back_cl hG) (back_rt hG) p m)
  have Hmem := hide (fun m (hm : m < (backL g (-1)).length) y => fromL_mem (back_nodup hG (-1)) (back_cl hG) (back_rt hG) hm y)
  obtain ⟨oa', oc', hv', hIo3, hr9⟩ := ints_of_owns hro3 rfl (by omega)
  injection hv' with e1 e2 e3
  subst e1 e3
  obtain ⟨na', nc', hv2, hIn3, hr8⟩ := ints_of_owns hrn3 (by rw [numL_len]) (by omega)
  injection hv2 with e4 e5 e6
  subst e4 e6
  clear hr8 hr9 e2 e5 hro3 hrn3 hne
  obtain ⟨W4, hW4⟩ : ∃ W4, w3.alloc (.cells #[.slice oa (backL g (-1)).length oc, .slice (some ⟨gb, 0, none⟩) g.objs.length g.objs.length] 43) = W4 := ⟨_, rfl⟩
  have hb4 : Below w3.heap.size w3 W4 := by rw [← hW4]; exact (Below.refl _ _).alloc (Nat.le_refl _) _
  have hs4 : W4.heap.size = w3.heap.size + 1 := by rw [← hW4]; simp
  have c40 : W4.cell? ⟨w3.heap.size, 0, none⟩ = some (.slice oa (backL g (-1)).length oc) := by rw [← hW4]; simp [go_sem]
  have c41 : W4.cell? ⟨w3.heap.size, 1, none⟩ = some (.slice (some ⟨gb, 0, none⟩) g.objs.length g.objs.length) := by rw [← hW4]; simp [go_sem]
  have g0 := (hb4.cell (p := ⟨w.heap.size, 0, none⟩) (by simp; omega)).trans g0
  have g1 := (hb4.cell (p := ⟨w.heap.size, 1, none⟩) (by simp; omega)).trans g1
  have hbw4 : Below w.heap.size w W4 := hbw3.trans (hb4.mono (by omega))
  have hIo4 := (hIo3.below hb4).mono (B' := W4.heap.size) (by omega)
  have hIn4 := (hIn3.below hb4).mono (B' := W4.heap.size) (by omega)
  have ho4 := (ho.below (hbw4.mono hB)).mono (B' := W4.heap.size) (by omega)
  have hr4 := (hr.below (hbw4.mono hB)).mono (B' := W4.heap.size) (by omega)
  have hlt34 : w3.heap.size < W4.heap.size := by omega
  have hltw4 : w.heap.size < W4.heap.size := by omega
  have Hs4 := hide hs4
  have Href := hide (referrers_c oa ao ar oc co cr gb g (backL g (-1)) W4 hIo4 hIn4 ho4 hr4 hG (back_rng hG) (by omega) (back_cl hG) (back_rt hG))
  clear hs4 hIn4 hIn3 ho4 hr4 hIo3
  go_wp2_with fail
  clear hW4
  refine (unhide Href).mono ?_
  rintro e w5 ⟨rfl, hT5, hb5⟩
  clear Href
  have Hlen := hide (fromL_len g (backL g (-1)))
  generalize backL g (-1) = ord at *
  have hs5 := hb5.size
  have hkp := keepers_c (some ⟨W4.heap.size + 2, 0, none⟩) ord.length (fromL g ord) w5 hT5 (by rw [unhide Hlen]; omega) (by
    intro l hl y hy
    obtain ⟨m, hm, rfl⟩ := List.mem_iff_getElem.1 hl
    have hm' : m < ord.length := by rw [← unhide Hlen]; exact hm
    obtain ⟨p, rfl, hE⟩ := (unhide Hmem m hm' y).1 (by simp [hm]; exact hy)
    rw [unhide Hlen]
    obtain ⟨_, ⟨hp, _⟩ | ⟨hp, _⟩⟩ := hE
    · omega
    · omega) (by
    intro m hm
    rw [unhide Hlen] at hm
    obtain ⟨p, h1, h2⟩ := unhide HPar m hm
    exact ⟨p, h1, (unhide Heof p m).2 h2⟩)
  have Hnear2 : Hid (∀ K, KSt (fromL g ord) 0 K → (∀ n, n < (fromL g ord).length → FixAt (fromL g ord) K n) → K.length = ord.length + 1 ∧ (∀ n, n < ord.length → ∃ k : Nat, K.getD n 0 = (k : Int) ∧ k ≤ ord.length) ∧ ∀ i, Near g i (idomAt ord K i)) := fun K h1 h2 => by
    have e := h1.len
    have hok := h1.ok
    rw [unhide Hlen] at e hok
    refine ⟨e, fun n hn => ?_, fun i => unhide Hnear K h1 h2 i⟩
    have hkn := hok.seen n (Nat.zero_le _) (by omega)
    have hnK : n < K.length := by omega
    refine ⟨kf K n, ?_, hok.bnd _ (hok.knf hkn)⟩
    rw [List.getD_eq_getElem?_getD, List.getElem?_eq_getElem hnK]
    exact kf_get hnK hkn
  rw [unhide Hlen] at hkp Hnear2
  have Hkp := hide hkp
  clear hkp Hnear HPar Heof Hmem hT5
  generalize fromL g ord = F at *
  go_wp2_with fail
  refine (unhide Hkp).mono ?_
  rintro e w6 ⟨K, rfl, hown6, hst6, hfix6, hb6⟩
  obtain ⟨hKl, hKk, hnear⟩ := unhide Hnear2 K hst6 hfix6
  have HKl := hide hKl
  have HKk := hide hKk
  have Hnear := hide hnear
  obtain ⟨ka', kc', hv7, hIk6, hr7⟩ := ints_of_owns hown6 hKl.symm (by omega)
  injection hv7 with e7 e8 e9
  subst e7 e9
  have hs6 := hb6.size
  have hk46 : Below W4.heap.size W4 w6 := hb5.trans (hb6.mono hs5)
  have g0 := (hk46.cell (p := ⟨w.heap.size, 0, none⟩) (by simp; omega)).trans g0
  have c40 := (hk46.cell (p := ⟨w3.heap.size, 0, none⟩) (by simp; omega)).trans c40
  have hIo6 := (hIo4.below hk46).mono (B' := w6.heap.size) (by omega)
  have hbw6 : Below w.heap.size w w6 := hbw4.trans (hk46.mono (by omega))
  clear hr7 e8 hst6 hfix6 hKl hKk hnear Hkp Hnear2 hIo4 hown6 g1 c41
  go_wp2_with fail
  refine (filled_c g.objs.length (-2) w6 (by omega)).mono ?_
  rintro e w7 ⟨rfl, hrow7, hb7, hs7, hko7⟩
  clear hko7 hs7
  have c40' := (hb7.cell (p := ⟨w3.heap.size, 0, none⟩) (by simp; omega)).trans c40
  rw [← idomP_zero g.objs.length ord K] at hrow7
  go_wp2
  clear c40'
  go_loopw [29] (fun i wr => ∃ n : Nat, n ≤ ord.length ∧ i = .int .i64 n ∧ wr.ownsRow w6.heap.size 3 1 (.slice (some ⟨w6.heap.size, 0, none⟩) g.objs.length g.objs.length) g.objs.length (intsV (idomP g.objs.length ord K n)) ∧ Below w6.heap.size w6 wr) (fun i _ => ord.length - (intOf i).toNat)
  case atStart => exact ⟨0, Nat.zero_le _, rfl, hrow7, hb7⟩
  case round =>
    clear hrow7 hb7
    obtain ⟨n, hn, rfl, hown, hb⟩ := hrel
    by_cases hlt : n < ord.length
    · have hnK : n < K.length := by rw [unhide HKl]; omega
      obtain ⟨b, off, rfl, hbB, hcx⟩ := (hIo6.below hb).at hlt
      have hxr := unhide Hrg _ (List.getElem_mem hlt)
      have hat := idomAt_get (K := K) (unhide Hnd) hlt hnK
      have hsu := fun x => idomP_succ (N := g.objs.length) (K := K) (unhide Hnd) hlt (x := x)
      obtain ⟨kz, hkz, hkr⟩ := unhide HKk n hlt
      rw [List.getD_eq_getElem?_getD, List.getElem?_eq_getElem hnK, Option.getD_some] at hkz
      have hKn := ((hIk6.mono (B' := w6.heap.size) (Nat.le_refl _)).below hb).at hnK
      obtain ⟨b3, off3, e3, hb3', hcK⟩ := hKn
      injection e3 with e3
      injection e3 with e31 e32
      subst e31 e32
      rw [hkz, Nat.zero_add] at hcK
      rw [hkz] at hat
      clear hkz
      generalize ord[n] = x at *
      obtain ⟨x, rfl⟩ := Int.eq_ofNat_of_zero_le hxr.1
      have hxN : x < g.objs.length := by omega
      have hxI : (x : Int) < (g.objs.length : Int) := by omega
      have hsu := hsu x rfl
      have hpx : ∃ u, (intsV (idomP g.objs.length ord K n))[x]? = some u := ⟨_, List.getElem?_eq_getElem (by simp [intsV, idomP_len]; exact hxN)⟩
      obtain ⟨u0, hu0⟩ := hpx
      have hcl := row_at hown hu0
      have hfz := hown.frozenAt x
      have hst := (hown.stored x (.int .i64 (-1))).1
      obtain ⟨X1, hX1⟩ : ∃ X1, wr.setCell ⟨w6.heap.size, x, none⟩ (.int .i64 (-1)) = X1 := ⟨_, rfl⟩
      have hbX : Below w6.heap.size w6 X1 := by rw [← hX1]; exact hb.setCell (p := ⟨w6.heap.size, x, none⟩) (Nat.le_refl _) _
      rw [hX1] at hst
      have hclX : X1.cell? ⟨w6.heap.size, x, none⟩ = some (.int .i64 (-1)) := row_at hst (by rw [List.getElem?_set_self (by simp [intsV, idomP_len]; exact hxN)])
      have hfzX := hst.frozenAt x
      have c40X := (hbX.cell (p := ⟨w3.heap.size, 0, none⟩) (by simp; omega)).trans c40
      have hcKX := (hbX.cell (p := ⟨w5.heap.size, n, none⟩) (by simp; omega)).trans ((hb.cell (p := ⟨w5.heap.size, n, none⟩) (by simp; omega)).symm.trans hcK)
      have c40r := (hb.cell (p := ⟨w3.heap.size, 0, none⟩) (by simp; omega)).trans c40
      have hnI : (n : Int) < ((ord.length + 1 : Nat) : Int) := by omega
      have Hst := hide hst
      have Hat := hide hat
      have Hsu := hide hsu
      clear hst hat hsu hu0
      by_cases hkl : kz < ord.length
      · have hklI : (kz : Int) < (ord.length : Int) := by omega
        have dk : decide ((kz : Int) < (ord.length : Int)) = true := by simpa using hkl
        obtain ⟨b4, off4, e4, hb4', hcy⟩ := (hIo6.below hbX).at hkl
        injection e4 with e4
        injection e4 with e41 e42
        subst e41 e42
        have Hat2 : Hid (idomAt ord K (x : Int) = ord[kz]) := by show _ = _; rw [unhide Hat, if_pos hklI]; simp [hkl]
        generalize ord[kz] = y at *
        have hst2 := ((unhide Hst).stored x (.int .i64 y)).1
        have Hrow2 : Hid ((X1.setCell ⟨w6.heap.size, x, none⟩ (.int .i64 y)).ownsRow w6.heap.size 3 1 (.slice (some ⟨w6.heap.size, 0, none⟩) g.objs.length g.objs.length) g.objs.length (intsV (idomP g.objs.length ord K (n + 1)))) := by
          rw [List.set_set, intsV_set] at hst2
          rw [unhide Hsu, unhide Hat2]
          exact hst2
        have hbY : Below w6.heap.size w6 (X1.setCell ⟨w6.heap.size, x, none⟩ (.int .i64 y)) := hbX.setCell (p := ⟨w6.heap.size, x, none⟩) (Nat.le_refl _) _
        clear hst2
        go_wp2
        go_roundw
        case rel => exact ⟨n + 1, by omega, by go_num, unhide Hrow2, hbY⟩
        case measure => simp [intOf]; omega
      · have hklI : ¬ (kz : Int) < (ord.length : Int) := by omega
        have dk : decide ((kz : Int) < (ord.length : Int)) = false := by simpa using hkl
        have Hrow2 : Hid (X1.ownsRow w6.heap.size 3 1 (.slice (some ⟨w6.heap.size, 0, none⟩) g.objs.length g.objs.length) g.objs.length (intsV (idomP g.objs.length ord K (n + 1)))) := by
          have h2 := unhide Hst
          rw [intsV_set] at h2
          rw [unhide Hsu, unhide Hat, if_neg hklI]
          exact h2
        go_wp2
        go_roundw
        case rel => exact ⟨n + 1, by omega, by go_num, unhide Hrow2, hbX⟩
        case measure => simp [intOf]; omega
    · obtain rfl : n = ord.length := by omega
      rw [idomP_end] at hown
      have Hdl : Hid ((idomL g.objs.length ord K).length = g.objs.length) := by show _ = _; simp [idomL]
      obtain ⟨da, dc, hv8, hI8, hr8⟩ := ints_of_owns hown (unhide Hdl).symm (by omega)
      injection hv8 with e1 e2 e3
      subst e1 e3
      clear hr8 e2
      go_wp2
      go_ret2
      refine ⟨_, _, idomL g.objs.length ord K, rfl, Hdl, hI8, hide (fun i hi => ⟨idomAt ord K i, by simp [idomL, hi], unhide Hnear i⟩), hbw6.trans (hb.mono (by have := hbw6.size; omega))⟩

end Go.Proofs.Ythpmckfgngkbhaa

/- A row of slices of numbers that stand as they are; the plain side of DomTree. -/
namespace Go.Proofs.Ythpmckfgngkbhaa
set_option linter.unusedSimpArgs false
set_option linter.unusedVariables false
open Go.RowKit Go.Shelf

/-- Numbers that do not lie in block x. -/
def IntsN (x : Option Nat) (W : World) (a : Option Addr) (l : List Int) : Prop :=
  Ints W.heap.size W a l ∧ (l ≠ [] → ∀ b off, a = some ⟨b, off, none⟩ → x ≠ some b)

theorem IntsN.grown {x : Option Nat} {W W' : World} {a : Option Addr} {l : List Int} (h : IntsN x W a l) (hg : W.grownBy W' x) : IntsN x W' a l := by
  refine ⟨⟨h.1.1, fun hne => ?_⟩, h.2⟩
  obtain ⟨b, off, rfl, hB, hc⟩ := h.1.2 hne
  have hne' := h.2 hne b off rfl
  have hblk := hg.block b hB (fun e => hne' e.symm)
  refine ⟨b, off, rfl, by have := hg.size; omega, fun k v hk => ?_⟩
  rw [World.cell?_of_block (a := ⟨b, off + k, none⟩) hblk]
  exact hc k v hk

theorem IntsN.below {x : Option Nat} {W W' : World} {a : Option Addr} {l : List Int} (h : IntsN x W a l) (hb : Below W.heap.size W W') : IntsN x W' a l :=
  ⟨(h.1.below hb).mono hb.size, h.2⟩

theorem IntsN.fresh {x : Option Nat} {W : World} {a : Option Addr} {l : List Int} (h : IntsN x W a l) {y : Option Nat} (hy : y = x ∨ ∃ m, y = some m ∧ W.heap.size ≤ m) : IntsN y W a l := by
  refine ⟨h.1, fun hne b off ha => ?_⟩
  rcases hy with rfl | ⟨m, rfl, hm⟩
  · exact h.2 hne b off ha
  · obtain ⟨b', off', ha', hB, _⟩ := h.1.2 hne
    rw [ha] at ha'
    injection ha' with ha'
    injection ha' with h1
    subst h1
    intro e
    injection e
    omega

structure IRow (W : World) (base : Nat) (v : Value) (L : List (List Int)) (es : List Value) : Prop where
  row : W.ownsRow base 26 1 v L.length es
  el : ∀ (k : Nat) (l : List Int), L[k]? = some l → ∃ ai ci, es[k]? = some (.slice ai l.length ci) ∧ IntsN v.ownBlock W ai l

theorem irow_nil (W : World) (base : Nat) : IRow W base (.slice none 0 0) [] [] := ⟨World.ownsRow_nil _ _ _ _, fun k l h => by simp at h⟩

theorem IRow.below {W W' : World} {base : Nat} {v : Value} {L : List (List Int)} {es : List Value} (h : IRow W base v L es) (hb : Below W.heap.size W W') : IRow W' base v L es :=
  ⟨h.row.kept ⟨hb.os, hb.tape, hb.output, hb.size, fun k hk _ => hb.block k hk⟩ (row := none) (by cases hv : v.ownBlock <;> simp), fun k l hk => by
    obtain ⟨ai, ci, h1, h2⟩ := h.el k l hk
    exact ⟨ai, ci, h1, h2.below hb⟩⟩

theorem IRow.snoc {W W' : World} {base : Nat} {v v' : Value} {L : List (List Int)} {es : List Value} (h : IRow W base v L es) {ai : Option Addr} {ci : Nat} {l : List Int}
    (hl : Ints W.heap.size W ai l) (hno : ∀ b off, ai = some ⟨b, off, none⟩ → v.ownBlock ≠ some b)
    (hrow : W'.ownsRow base 26 1 v' (L.length + 1) (es ++ [.slice ai l.length ci])) (hg : W.grownBy W' v.ownBlock) (hat : v'.ownBlock = v.ownBlock ∨ v'.ownBlock = some W.heap.size) :
    IRow W' base v' (L ++ [l]) (es ++ [.slice ai l.length ci]) := by
  have hlen : es.length = L.length := by have := h.row.1; omega
  have hy : ∀ {a : Option Addr} {l : List Int}, IntsN v.ownBlock W a l → IntsN v'.ownBlock W' a l := by
    intro a l hv
    have h1 : IntsN v'.ownBlock W a l := hv.fresh (by rcases hat with h | h; · exact .inl h
                                                      · exact .inr ⟨_, h, Nat.le_refl _⟩)
    exact ⟨(hv.grown hg).1, h1.2⟩
  refine ⟨by simpa using hrow, fun k l' hk => ?_⟩
  by_cases hlt : k < L.length
  · rw [List.getElem?_append_left hlt] at hk
    obtain ⟨ai', ci', h1, h2⟩ := h.el k l' hk
    exact ⟨ai', ci', by rw [List.getElem?_append_left (by omega)]; exact h1, hy h2⟩
  · rw [List.getElem?_append_right (by omega)] at hk
    rcases Nat.eq_zero_or_pos (k - L.length) with h0 | h0
    · rw [h0] at hk
      simp at hk
      subst hk
      refine ⟨ai, ci, ?_, hy ⟨hl, fun _ => hno⟩⟩
      rw [List.getElem?_append_right (by omega), show k - es.length = 0 from by omega]; rfl
    · rw [List.getElem?_eq_none (by simp; omega)] at hk; cases hk

theorem IRow.tab {W : World} {base : Nat} {v : Value} {L : List (List Int)} {es : List Value} (h : IRow W base v L es) (hs : L.length ≤ 9223372036854775807) : ∃ a cap, v = .slice a L.length cap ∧ Tab W.heap.size W a L := by
  rcases h.row.2 with ⟨rfl, h0⟩ | ⟨g, cap, cur, rfl, hb, hg, hc1, hc2, hc3, htake⟩
  · refine ⟨none, 0, by rw [h0], hs, fun hne => ?_⟩
    exact absurd (List.eq_nil_of_length_eq_zero h0) hne
  · refine ⟨_, cap, rfl, hs, fun _ => ⟨g, 0, rfl, (Array.getElem?_eq_some_iff.1 hg).1, fun k l hk => ?_⟩⟩
    obtain ⟨ai, ci, h1, h2⟩ := h.el k l hk
    refine ⟨ai, ci, ?_, h2.1⟩
    rw [← htake, List.getElem?_take] at h1
    rw [Nat.zero_add, cell_of_row W g k cur 26 (0, 0) hg]
    split at h1
    · simpa using h1
    · cases h1

/-- What each of the first k objects keeps. -/
def keptK (g : Gr) (k : Nat) : List (List Int) := (List.range k).map fun (v : Nat) => retL g v
theorem keptK_len (g : Gr) (k : Nat) : (keptK g k).length = k := by simp [keptK]
theorem keptK_succ (g : Gr) (k : Nat) : keptK g (k + 1) = keptK g k ++ [retL g k] := by simp [keptK, List.range_succ]
theorem keptK_get {g : Gr} {n k : Nat} (hk : k < n) : (keptK g n)[k]'(by rw [keptK_len]; exact hk) = retL g k := by simp [keptK]

/-- On the way up from i: u was come to, k is next. -/
structure UpOk (g : Gr) (i : Int) (u : List Int) (k : Int) : Prop where
  nd : u.Nodup
  rng : ∀ x ∈ u, 0 ≤ x ∧ x < (g.objs.length : Int)
  all : ∀ v, i ∈ retL g v ↔ v ∈ u ∨ (0 ≤ k ∧ k ∈ retL g v)
  str : ∀ x ∈ u, 0 ≤ k → k ∉ retL g x
  kin : 0 ≤ k → k ∈ orderOf g

theorem up_start {g : Gr} {i : Int} (hi : 0 ≤ i) (ho : i ∈ orderOf g) : UpOk g i [] i :=
  ⟨by simp, by simp, fun v => by simp [hi], by simp, fun _ => ho⟩

theorem UpOk.lt {g : Gr} (h : Good g) {i : Int} {u : List Int} {k : Int} (hu : UpOk g i u k) (hk : 0 ≤ k) : u.length < g.objs.length := by
  have hko := hu.kin hk
  have hkr := order_ok h hko
  have hn : (u ++ [k]).Nodup := by
    rw [List.nodup_append]
    exact ⟨hu.nd, by simp, by intro a ha b hb; simp at hb; subst hb; exact fun e => hu.str a ha hk (by rw [e]; exact (ret_self h b).2 hko)⟩
  have := nodup_length hn (N := g.objs.length) (by
    intro y hy
    rw [List.mem_append, List.mem_singleton] at hy
    rcases hy with hy | rfl
    · exact hu.rng y hy
    · exact hkr)
  simp at this
  omega

theorem UpOk.step {g : Gr} (h : Good g) {i : Int} {u : List Int} {k d : Int} (hu : UpOk g i u k) (hk : 0 ≤ k) (hd : Near g k d) : UpOk g i (u ++ [k]) d := by
  have hko := hu.kin hk
  have hkr := order_ok h hko
  have hkk : k ∈ retL g k := (ret_self h k).2 hko
  have hd' : (d = -1 ∧ ∀ v, k ∈ retL g v → v = k) ∨ (d ≠ k ∧ k ∈ retL g d ∧ ∀ v, k ∈ retL g v → v ≠ k → d ∈ retL g v) := by
    rcases hd with ⟨e, _⟩ | ⟨_, e⟩
    · exact absurd hko e
    · exact e
  refine ⟨?_, ?_, fun v => ?_, ?_, ?_⟩
  · rw [List.nodup_append]
    exact ⟨hu.nd, by simp, by intro a ha b hb; simp at hb; subst hb; exact fun e => hu.str a ha hk (by rw [e]; exact hkk)⟩
  · intro y hy
    rw [List.mem_append, List.mem_singleton] at hy
    rcases hy with hy | rfl
    · exact hu.rng y hy
    · exact hkr
  · rw [hu.all v, List.mem_append, List.mem_singleton]
    constructor
    · rintro (e | ⟨_, e⟩)
      · exact .inl (.inl e)
      · by_cases ev : v = k
        · exact .inl (.inr ev)
        · rcases hd' with ⟨_, h1⟩ | ⟨_, h2, h3⟩
          · exact absurd (h1 v e) ev
          · exact .inr ⟨(ret_nonneg h h2).1, h3 v e ev⟩
    · rintro ((e | e) | ⟨h0, e⟩)
      · exact .inl e
      · exact .inr ⟨hk, by rw [e]; exact hkk⟩
      · rcases hd' with ⟨h1, _⟩ | ⟨_, h2, _⟩
        · omega
        · exact .inr ⟨hk, ret_trans h e h2⟩
  · intro x hx h0 hc
    rcases hd' with ⟨h1, _⟩ | ⟨hne, h2, _⟩
    · omega
    · rw [List.mem_append, List.mem_singleton] at hx
      rcases hx with hx | rfl
      · exact hu.str x hx hk (ret_trans h hc h2)
      · exact hne (ret_anti h h2 hc)
  · intro h0
    rcases hd' with ⟨h1, _⟩ | ⟨_, h2, _⟩
    · omega
    · exact ret_order h h2

theorem UpOk.fin {g : Gr} {i : Int} {u : List Int} {k : Int} (hu : UpOk g i u k) (hk : k < 0) (v : Int) : decide (i ∈ retL g v) = decide (v ∈ u) := by
  rw [Bool.eq_iff_iff, decide_eq_true_eq, decide_eq_true_eq, hu.all v]
  exact ⟨fun e => e.resolve_right (fun h => by omega), .inl⟩

/-- The same, also of an object that can't be come to. -/
def UpI (g : Gr) (i d : Int) (u : List Int) (k : Int) : Prop := (d = -2 ∧ u = [] ∧ k = i ∧ i ∉ orderOf g) ∨ (d ≠ -2 ∧ UpOk g i u k)

theorem upI_start {g : Gr} (h : Good g) {i d : Int} (hi : 0 ≤ i) (hd : Near g i d) : UpI g i d [] i := by
  rcases hd with ⟨e, rfl⟩ | ⟨e, hd⟩
  · exact .inl ⟨rfl, rfl, rfl, e⟩
  · refine .inr ⟨?_, up_start hi e⟩
    rcases hd with ⟨rfl, _⟩ | ⟨_, h2, _⟩
    · omega
    · have := (ret_nonneg h h2).1; omega

theorem ret_off {g : Gr} {i : Int} (hi : i ∉ orderOf g) (v : Int) : decide (i ∈ retL g v) = decide (v ∈ ([] : List Int)) := by
  rw [Bool.eq_iff_iff, decide_eq_true_eq, decide_eq_true_eq, mem_ret]
  exact ⟨fun e => absurd e.1 hi, fun e => by simp at e⟩

end Go.Proofs.Ythpmckfgngkbhaa

/- Walks: the document's answer: without, Retained. -/
namespace Go.Proofs.Ythpmckfgngkbhaa
set_option linter.unusedSimpArgs false
set_option linter.unusedVariables false
open Go.RowKit Go.Shelf

/-- A graph without references to one object. -/
def keepV (v : Int) (x : V) : Bool := !(x.1 && x.2 == v)
def wG (g : Gr) (v : Int) : Gr := { objs := g.objs.map (·.filter (keepV v)), roots := g.roots.filter (keepV v) }

theorem wG_len (g : Gr) (v : Int) : (wG g v).objs.length = g.objs.length := by simp [wG]

theorem good_w {g : Gr} (h : Good g) (v : Int) : Good (wG g v) := by
  refine ⟨by rw [wG_len]; exact h.n24, ?_, ?_, ?_, ?_⟩
  · have := List.length_filter_le (keepV v) g.roots
    have := h.n8
    show (g.roots.filter (keepV v)).length ≤ 8
    omega
  · intro l hl
    obtain ⟨l', hl', rfl⟩ := List.mem_map.1 (show l ∈ g.objs.map (·.filter (keepV v)) from hl)
    have := List.length_filter_le (keepV v) l'
    have := h.n4 l' hl'
    omega
  · intro u hu hr
    rw [wG_len]
    exact h.rr u (List.mem_filter.1 (show u ∈ g.roots.filter (keepV v) from hu)).1 hr
  · intro l hl u hu hr
    obtain ⟨l', hl', rfl⟩ := List.mem_map.1 (show l ∈ g.objs.map (·.filter (keepV v)) from hl)
    rw [wG_len]
    exact h.ro l' hl' u (List.mem_filter.1 hu).1 hr

theorem refs_keep {l : List V} (hl : RefsOk l) (v o : Int) : o ∈ refsL (l.filter (keepV v)) ↔ o ∈ refsL l ∧ o ≠ v := by
  have hl' : RefsOk (l.filter (keepV v)) := fun u hu hr => hl u (List.mem_filter.1 hu).1 hr
  rw [mem_refsL hl', mem_refsL hl, List.mem_filter]
  simp [keepV]

theorem w_fields (g : Gr) (v o : Int) : fieldsOf (wG g v) o = (fieldsOf g o).filter (keepV v) := by
  unfold fieldsOf wG
  simp only [List.getElem?_map]
  cases g.objs[o.toNat]? <;> rfl

theorem w_order {g : Gr} (h : Good g) (v x : Int) : x ∈ orderOf (wG g v) ↔ x ∈ leftL g v := by
  constructor
  · refine order_ind (good_w h v) (fun x => x ∈ leftL g v) (fun x hx => ?_) (fun x y _ hp hy => ?_) x
    · obtain ⟨h1, h2⟩ := (refs_keep h.refsRoots v x).1 hx
      exact left_roots h h1 h2
    · rw [w_fields] at hy
      obtain ⟨h1, h2⟩ := (refs_keep (refsOk_fieldsOf h x) v y).1 hy
      exact left_next h hp h1 h2
  · refine left_ind h (fun x => x ∈ orderOf (wG g v)) (fun x hx hn => ?_) (fun x y _ hp hy hn => ?_) x
    · exact order_roots (wG g v) x ((refs_keep h.refsRoots v x).2 ⟨hx, hn⟩)
    · refine order_closed (good_w h v) hp y ?_
      rw [w_fields]
      exact (refs_keep (refsOk_fieldsOf h x) v y).2 ⟨hy, hn⟩

theorem w_reach {g : Gr} (h : Good g) (v x : Int) : x ∈ reachK (wG g v) (wG g v).objs.length ↔ x ∈ leftL g v := by
  rw [← reach_same (good_w h v), sortL_mem, w_order h]

theorem filter_yes {v : Int} {l : List V} {k : Nat} (hk : k < l.length) {r : Bool} {n : Int} (hv : l[k] = (r, n)) (h : keepV v (r, n) = true) : (l.take (k + 1)).filter (keepV v) = (l.take k).filter (keepV v) ++ [(r, n)] := by
  rw [List.take_succ_eq_append_getElem hk, List.filter_append, hv]; simp [h]
theorem filter_no {v : Int} {l : List V} {k : Nat} (hk : k < l.length) {r : Bool} {n : Int} (hv : l[k] = (r, n)) (h : keepV v (r, n) = false) : (l.take (k + 1)).filter (keepV v) = (l.take k).filter (keepV v) := by
  rw [List.take_succ_eq_append_getElem hk, List.filter_append, hv]; simp [h]
theorem filter_take_len (v : Int) (l : List V) (k : Nat) : ((l.take k).filter (keepV v)).length ≤ l.length := by
  have := List.length_filter_le (keepV v) (l.take k)
  have : (l.take k).length ≤ l.length := by simp; omega
  omega

/-- A row of values, whose slice lies in a box. -/
structure BoxV (W : World) (cb f : Nat) (s : Value) (l : List V) : Prop where
  c : W.cell? ⟨cb, f, none⟩ = some s
  fz : W.frozen? ⟨cb, f, none⟩ = false
  row : W.ownsRow (cb + 1) 54 2 s l.length (cellsV l)

theorem BoxV.below {W W' : World} {cb f : Nat} {s : Value} {l : List V} (h : BoxV W cb f s l) (hb : Below W.heap.size W W') : BoxV W' cb f s l := by
  have hlt := World.block_lt_of_cell? W _ h.c
  exact ⟨(hb.cell (p := ⟨cb, f, none⟩) hlt).trans h.c, (hb.frozen (p := ⟨cb, f, none⟩) hlt).trans h.fz, h.row.kept ⟨hb.os, hb.tape, hb.output, hb.size, fun k hk _ => hb.block k hk⟩ (row := none) (by cases hv : s.ownBlock <;> simp)⟩

theorem BoxV.put {W W1 w1 : World} {cb f : Nat} {s v1 : Value} {l : List V} {r : Bool} {n : Int} (h : BoxV W cb f s l) (h1 : Below W.heap.size W W1) (hg : W1.grownBy w1 s.ownBlock) (hrow : w1.ownsRow (cb + 1) 54 2 v1 (l.length + 1) (cellsV l ++ [.bool r, .int .i64 n])) :
    BoxV (w1.setCell ⟨cb, f, none⟩ v1) cb f v1 (l ++ [(r, n)]) ∧ Below cb W (w1.setCell ⟨cb, f, none⟩ v1) ∧ (∀ f' x, f' ≠ f → W.cell? ⟨cb, f', none⟩ = some x → (w1.setCell ⟨cb, f, none⟩ v1).cell? ⟨cb, f', none⟩ = some x) ∧ (∀ f', (w1.setCell ⟨cb, f, none⟩ v1).frozen? ⟨cb, f', none⟩ = W.frozen? ⟨cb, f', none⟩) := by
  have hlt : cb < W.heap.size := World.block_lt_of_cell? W _ h.c
  have hs1 := h1.size
  have hcb : w1.heap[cb]? = W.heap[cb]? := (hg.block cb (by omega) (fun e => by have := (h.row.lt _ e.symm).1; omega)).trans (h1.block cb hlt)
  have hc := (World.cell?_of_block (a := ⟨cb, f, none⟩) hcb).trans h.c
  refine ⟨⟨World.cell?_setCell_same' _ _ _ (by rw [hc]; rfl), ?_, ?_⟩, ?_, ?_, ?_⟩
  · rw [World.frozen?_setCell]; exact (World.frozen?_of_block (a := ⟨cb, f, none⟩) hcb).trans h.fz
  · rw [cellsV_snoc, List.length_append]; exact ownsRow_setCell_below hrow (by simp) _
  · exact ((h1.mono (B' := cb) (by omega)).grown hg (by omega) (fun q e => by have := (h.row.lt q e).1; omega)).setCell (p := ⟨cb, f, none⟩) (Nat.le_refl _) _
  · intro f' x hf hx
    rw [World.cell?_setCell_other _ _ _ _ (by simp [hf])]
    exact (World.cell?_of_block (a := ⟨cb, f', none⟩) hcb).trans hx
  · intro f'
    rw [World.frozen?_setCell]; exact World.frozen?_of_block (a := ⟨cb, f', none⟩) hcb

/-- One object more, the slice stored into a box below the rows. -/
theorem obj_step2 {W W1 W2 : World} {base cb : Nat} {v v' : Value} {L : List (List V)} {es : List Value} {ai : Option Addr} {ci : Nat} {l : List V} {o : Obj}
    (h : ObjRow W base v L es) (hW : base ≤ W.heap.size) (hl : Vals W1.heap.size W1 ai l) (hb : Below W.heap.size W W1) (hf : ∀ b off, ai = some ⟨b, off, none⟩ → W.heap.size ≤ b)
    (hrow : W2.ownsRow base 51 1 v' (L.length + 1) (es ++ [.slice ai l.length ci])) (hg : (W1.alloc o).grownBy W2 v.ownBlock) (hat : v'.ownBlock = v.ownBlock ∨ v'.ownBlock = some (W1.alloc o).heap.size)
    (hcb : cb < base) :
    ObjRow (W2.setCell ⟨cb, 0, none⟩ v') base v' (L ++ [l]) (es ++ [.slice ai l.length ci]) ∧ Below cb W (W2.setCell ⟨cb, 0, none⟩ v') ∧ (∀ q, q < base → q ≠ cb → (W2.setCell ⟨cb, 0, none⟩ v').heap[q]? = W.heap[q]?) ∧ W2.heap[cb]? = W.heap[cb]? := by
  have hs := hb.size
  have hs2 := hg.size
  have hb1 : Below W1.heap.size W1 (W1.alloc o) := (Below.refl _ _).alloc (Nat.le_refl _) o
  have h1 := (h.below hb).below hb1
  have hno : ∀ b off, ai = some ⟨b, off, none⟩ → v.ownBlock ≠ some b := fun b off e hv => by
    have := (h.row.lt b hv).2
    have := hf b off e
    omega
  have h2 := h1.snoc (ci := ci) ((hl.below hb1).mono hb1.size) hno (fun b off e => by have := hf b off e; omega) hrow hg hat
  have hk : ∀ q, q < base → W2.heap[q]? = W.heap[q]? := fun q hq => (hg.block q (by rw [World.size_alloc]; omega) (fun e => by have := (h.row.lt q e.symm).1; omega)).trans ((hb1.block q (by omega)).trans (hb.block q (by omega)))
  refine ⟨h2.setCell (p := ⟨cb, 0, none⟩) (by simp; omega) v', ?_, fun q hq hne => ?_, hk cb hcb⟩
  · exact (((hb.mono (B' := cb) (by omega)).trans (hb1.mono (B' := cb) (by omega))).grown hg (by simp; omega) (fun k e => by have := (h.row.lt k e).1; omega)).setCell (p := ⟨cb, 0, none⟩) (Nat.le_refl _) v'
  · exact (Below.heap_setCell _ _ _ _ (by intro e; exact hne (by simp at e; omega))).trans (hk q hq)

end Go.Proofs.Ythpmckfgngkbhaa

/- Walks: the document's answer: without. -/
namespace Go.Proofs.Ythpmckfgngkbhaa
set_option linter.unusedSimpArgs false
set_option linter.unusedVariables false
open Go.RowKit Go.Shelf

theorem Vals.blocks {B : Nat} {W W' : World} {a : Option Addr} {l : List V} (h : Vals B W a l) (hb : ∀ b off, a = some ⟨b, off, none⟩ → b < B → W'.heap[b]? = W.heap[b]?) : Vals B W' a l := by
  refine ⟨h.1, fun hne => ?_⟩
  obtain ⟨b, off, rfl, hB, hc⟩ := h.2 hne
  have hblk := hb b off rfl hB
  refine ⟨b, off, rfl, hB, fun k v hk => ?_⟩
  rw [World.cell?_of_block (a := ⟨b, off + k * 2, none⟩) hblk, World.cell?_of_block (a := ⟨b, off + k * 2 + 1, none⟩) hblk]
  exact hc k v hk

set_option maxRecDepth 100000 in
set_option maxHeartbeats 8000000 in
theorem without_c (ao ar : Option Addr) (co cr : Nat) (g : Gr) (v : Int) (w : World) (ho : Objs w.heap.size w ao g.objs) (hr : Vals w.heap.size w ar g.roots) (hG : Good g) :
    Calls Try.prog 30 #[.agg #[.slice ao g.objs.length co, .slice ar g.roots.length cr], .int .i64 v] w fun e w' => ∃ a cap, e = .returned (.slice a (reachK (wG g v) (wG g v).objs.length).length cap) ∧ Ints w'.heap.size w' a (reachK (wG g v) (wG g v).objs.length) ∧ Below w.heap.size w w' := by
  obtain ⟨i0, hi, hz0, hz1, hz2⟩ := info_parts Try.info54
  obtain ⟨i1, hi1, hy0, hy1, hy2⟩ := info_parts Try.info51
  have hn8 := hG.n8
  have hn24 := hG.n24
  go_enter Try.func30, Try.ntmps30
  go_wp2
  obtain ⟨W2, hW2⟩ : ∃ W2, (w.alloc (.cells #[.slice ao g.objs.length co, .slice ar g.roots.length cr] 25)).alloc (.cells #[.slice none 0 0, .slice none 0 0] 25) = W2 := ⟨_, rfl⟩
  rw [hW2]
  have hbw2 : Below w.heap.size w W2 := by rw [← hW2]; exact ((Below.refl w.heap.size w).alloc (Nat.le_refl _) _).alloc (by simp) _
  have hs2 : w.heap.size + 1 < W2.heap.size := by rw [← hW2]; simp
  have g0 : W2.cell? ⟨w.heap.size, 0, none⟩ = some (.slice ao g.objs.length co) := by rw [← hW2]; simp [go_sem]
  have g1 : W2.cell? ⟨w.heap.size, 1, none⟩ = some (.slice ar g.roots.length cr) := by rw [← hW2]; simp [go_sem]
  have q0 : W2.cell? ⟨w.heap.size + 1, 0, none⟩ = some (.slice none 0 0) := by rw [← hW2]; simp [go_sem]
  have q1 : W2.cell? ⟨w.heap.size + 1, 1, none⟩ = some (.slice none 0 0) := by rw [← hW2]; simp [go_sem]
  have f0 : W2.frozen? ⟨w.heap.size + 1, 0, none⟩ = false := by rw [← hW2]; simp [go_sem]
  have f1 : W2.frozen? ⟨w.heap.size + 1, 1, none⟩ = false := by rw [← hW2]; simp [go_sem]
  clear hW2
  go_loopw [17] (fun i wr => ∃ (k : Nat) (s : Value), k ≤ g.roots.length ∧ i = .int .i64 k ∧ BoxV wr (w.heap.size + 1) 1 s ((g.roots.take k).filter (keepV v)) ∧ wr.cell? ⟨w.heap.size + 1, 0, none⟩ = some (.slice none 0 0) ∧ wr.frozen? ⟨w.heap.size + 1, 0, none⟩ = false ∧ Below (w.heap.size + 1) W2 wr) (fun i _ => g.roots.length - (intOf i).toNat)
  case atStart => exact ⟨0, _, Nat.zero_le _, rfl, ⟨q1, f1, by simpa [cellsV] using World.ownsRow_nil _ _ _ _⟩, q0, f0, Below.refl _ _⟩
  case round =>
    clear q0 q1 f0 f1
    obtain ⟨k, s, hk, rfl, hbx, hc00, hf00, hb⟩ := hrel
    have hsz := hb.size
    by_cases hlt : k < g.roots.length
    · clear g1 g0
      obtain ⟨b, off, r, n, rfl, hbB, hc1, hc2', Hv⟩ := (hr.below (hbw2.trans (hb.mono (by omega)))).at hlt
      obtain ⟨sa, sc, hss⟩ := ownsRow_slice hbx.row
      subst hss
      have hrw := hbx.row
      have hbc := hbx.c
      have hcbl : w.heap.size + 1 < wr.heap.size := World.block_lt_of_cell? wr _ hbc
      have hfl := filter_take_len v g.roots k
      have hmx : ((g.roots.take k).filter (keepV v)).length + 1 ≤ maxLen := by simp only [maxLen]; omega
      have hmy : (((g.roots.take k).filter (keepV v)).length + 1) * 16 ≤ 140737488355328 := by omega
      have Hyes := hide (fun h => filter_yes (v := v) hlt Hv.out h)
      have Hno := hide (fun h => filter_no (v := v) hlt Hv.out h)
      generalize (g.roots.take k).filter (keepV v) = lk at *
      cases r
      · have HF := hide (unhide Hyes rfl)
        have hc2 : ((wr.alloc (.cells #[.bool false, .int .i64 n] 54)).alloc (.cells #[.bool false, .int .i64 n] 54)).cell? ⟨w.heap.size + 1, 1, none⟩ = some (.slice sa lk.length sc) := ((((Below.refl wr.heap.size wr).alloc (Nat.le_refl _) _).alloc (by simp) _).cell (p := ⟨w.heap.size + 1, 1, none⟩) hcbl).trans hbx.c
        have hf2 : ((wr.alloc (.cells #[.bool false, .int .i64 n] 54)).alloc (.cells #[.bool false, .int .i64 n] 54)).frozen? ⟨w.heap.size + 1, 1, none⟩ = false := ((((Below.refl wr.heap.size wr).alloc (Nat.le_refl _) _).alloc (by simp) _).frozen (p := ⟨w.heap.size + 1, 1, none⟩) hcbl).trans hbx.fz
        have hal : Below wr.heap.size wr ((wr.alloc (.cells #[.bool false, .int .i64 n] 54)).alloc (.cells #[.bool false, .int .i64 n] 54)) := ((Below.refl wr.heap.size wr).alloc (Nat.le_refl _) _).alloc (by simp) _
        have Hc2 := hide hc2
        have Hf2 := hide hf2
        clear hc2 hf2
        go_wp2_with (at_builtin; go_must (refine wpList_append_own _ rfl _ _ 23 rfl (w.heap.size + 1 + 1) 54 i0 _ 2 16 Try.underlying23 hi hz0 hz1 hz2 rfl (by decide) _ _ _ rfl (hrw.kept (grownBy_of_below' hal) (own_none' _)) ⟨wr.heap.size + 1, 0, none⟩ 1 1 [.bool false, .int .i64 n] rfl rfl (cell_two_at _ _ _ _ _ (by simp)) (by simp [Value.oneCell']) hmx hmy (by simp; omega) ?_); go_must (intro v' w1 hown' hgrow hnil; clear hnil; obtain ⟨g7, cap7, hv7⟩ := ownsRow_succ hown'; subst hv7; have c07 := hgrow.cell (unhide Hc2) (fun e => by have h9 : w.heap.size + 1 + 1 ≤ w.heap.size + 1 := (hbx.row.lt _ e.symm).1; omega); have cf7 := (World.frozen?_of_block (a := ⟨w.heap.size + 1, 1, none⟩) (hgrow.block (w.heap.size + 1) (by simp; omega) (fun e => by have h9 : w.heap.size + 1 + 1 ≤ w.heap.size + 1 := (hbx.row.lt _ e.symm).1; omega))).trans (unhide Hf2)))
        go_roundw
        case rel =>
          obtain ⟨r1, r2, r3, r4⟩ := hbx.put hal hgrow hown'
          exact ⟨k + 1, _, by omega, by go_num, by rw [unhide HF]; exact r1, r3 0 _ (by decide) hc00, (r4 0).trans hf00, hb.trans r2⟩
        case measure => simp [intOf]; omega
      · by_cases hnv : n = v
        · subst hnv
          have HF := hide (unhide Hno (by simp [keepV]))
          go_wp2
          go_roundw
          case rel =>
            have hal1 : Below wr.heap.size wr (wr.alloc (.cells #[.bool true, .int .i64 n] 54)) := (Below.refl wr.heap.size wr).alloc (Nat.le_refl _) _
            exact ⟨k + 1, _, by omega, by go_num, by rw [unhide HF]; exact hbx.below hal1, (hal1.cell (p := ⟨w.heap.size + 1, 0, none⟩) hcbl).trans hc00, (hal1.frozen (p := ⟨w.heap.size + 1, 0, none⟩) hcbl).trans hf00, hb.alloc (by omega) _⟩
          case measure => simp [intOf]; omega
        · have HF := hide (unhide Hyes (by simp [keepV, hnv]))
          have d : (n != v) = true := by simpa using hnv
          have hc2 : ((wr.alloc (.cells #[.bool true, .int .i64 n] 54)).alloc (.cells #[.bool true, .int .i64 n] 54)).cell? ⟨w.heap.size + 1, 1, none⟩ = some (.slice sa lk.length sc) := ((((Below.refl wr.heap.size wr).alloc (Nat.le_refl _) _).alloc (by simp) _).cell (p := ⟨w.heap.size + 1, 1, none⟩) hcbl).trans hbx.c
          have hf2 : ((wr.alloc (.cells #[.bool true, .int .i64 n] 54)).alloc (.cells #[.bool true, .int .i64 n] 54)).frozen? ⟨w.heap.size + 1, 1, none⟩ = false := ((((Below.refl wr.heap.size wr).alloc (Nat.le_refl _) _).alloc (by simp) _).frozen (p := ⟨w.heap.size + 1, 1, none⟩) hcbl).trans hbx.fz
          have hal : Below wr.heap.size wr ((wr.alloc (.cells #[.bool true, .int .i64 n] 54)).alloc (.cells #[.bool true, .int .i64 n] 54)) := ((Below.refl wr.heap.size wr).alloc (Nat.le_refl _) _).alloc (by simp) _
          have Hc2 := hide hc2
          have Hf2 := hide hf2
          clear hc2 hf2
          go_wp2_with (at_builtin; go_must (refine wpList_append_own _ rfl _ _ 23 rfl (w.heap.size + 1 + 1) 54 i0 _ 2 16 Try.underlying23 hi hz0 hz1 hz2 rfl (by decide) _ _ _ rfl (hrw.kept (grownBy_of_below' hal) (own_none' _)) ⟨wr.heap.size + 1, 0, none⟩ 1 1 [.bool true, .int .i64 n] rfl rfl (cell_two_at _ _ _ _ _ (by simp)) (by simp [Value.oneCell']) hmx hmy (by simp; omega) ?_); go_must (intro v' w1 hown' hgrow hnil; clear hnil; obtain ⟨g7, cap7, hv7⟩ := ownsRow_succ hown'; subst hv7; have c07 := hgrow.cell (unhide Hc2) (fun e => by have h9 : w.heap.size + 1 + 1 ≤ w.heap.size + 1 := (hbx.row.lt _ e.symm).1; omega); have cf7 := (World.frozen?_of_block (a := ⟨w.heap.size + 1, 1, none⟩) (hgrow.block (w.heap.size + 1) (by simp; omega) (fun e => by have h9 : w.heap.size + 1 + 1 ≤ w.heap.size + 1 := (hbx.row.lt _ e.symm).1; omega))).trans (unhide Hf2)))
          go_roundw
          case rel =>
            obtain ⟨r1, r2, r3, r4⟩ := hbx.put hal hgrow hown'
            exact ⟨k + 1, _, by omega, by go_num, by rw [unhide HF]; exact r1, r3 0 _ (by decide) hc00, (r4 0).trans hf00, hb.trans r2⟩
          case measure => simp [intOf]; omega
    · obtain rfl : k = g.roots.length := by omega
      rw [List.take_length] at hbx
      obtain ⟨ar', cr', hvs, hV5, hbs5⟩ := vals_of_owns hbx.row rfl (by have := List.length_filter_le (keepV v) g.roots; omega)
      subst hvs
      have hc01 := hbx.c
      have Hrl := hide (List.length_filter_le (keepV v) g.roots)
      clear hbx
      have Hbs5 := hide hbs5
      clear hbs5
      obtain ⟨w5, hw5⟩ : ∃ w5, w5 = wr := ⟨_, rfl⟩
      subst hw5
      have g0 := (hb.cell (p := ⟨w.heap.size, 0, none⟩) (by simp)).trans g0
      have hcb5 : w.heap.size + 1 < w5.heap.size := by omega
      have HRf : Hid (g.roots.filter (keepV v) = (wG g v).roots) := rfl
      generalize g.roots.filter (keepV v) = R at *
      go_wp2
      clear g0 g1
      go_loopw [40] (fun i wr => ∃ (k : Nat) (x : Value) (es : List Value), k ≤ g.objs.length ∧ i = .int .i64 k ∧ wr.cell? ⟨w.heap.size + 1, 0, none⟩ = some x ∧ wr.frozen? ⟨w.heap.size + 1, 0, none⟩ = false ∧ wr.cell? ⟨w.heap.size + 1, 1, none⟩ = some (.slice ar' R.length cr') ∧ ObjRow wr w5.heap.size x ((g.objs.take k).map (·.filter (keepV v))) es ∧ Below (w.heap.size + 1) W2 wr ∧ Hid (∀ q, q < w5.heap.size → q ≠ w.heap.size + 1 → wr.heap[q]? = w5.heap[q]?)) (fun i _ => g.objs.length - (intOf i).toNat)
      case atStart => exact ⟨0, _, [], Nat.zero_le _, rfl, hc00, hf00, hc01, objRow_nil _ _, hb, hide (fun _ _ _ => rfl)⟩
      case round =>
        clear hc00 hf00 hc01 hb
        obtain ⟨k, x, es, hk, rfl, c0, cf0, c1, hrow, hb, Hq⟩ := hrel
        have hsz := hb.size
        have hbwr : Below w.heap.size w wr := hbw2.trans (hb.mono (by omega))
        have hcbl : w.heap.size + 1 < wr.heap.size := World.block_lt_of_cell? wr _ c0
        have h5r : w5.heap.size ≤ wr.heap.size := by
          refine Classical.byContradiction fun hc => ?_
          have h1 := unhide Hq wr.heap.size (by omega) (by omega)
          rw [Array.getElem?_eq_none (by omega)] at h1
          have h2 : wr.heap.size < w5.heap.size := by omega
          rw [Array.getElem?_eq_getElem h2] at h1
          cases h1
        by_cases hlt : k < g.objs.length
        · have HTk := hide (List.take_succ_eq_append_getElem hlt)
          have hl4 := hG.n4 _ (List.getElem_mem hlt)
          obtain ⟨bo, oo, ai, ci, rfl, hbB, hcb, hva⟩ := (ho.below hbwr).at hlt
          generalize g.objs[k] = fs at *
          have hLk : ((g.objs.take k).map (·.filter (keepV v))).length = k := by simp; omega
          have hoI : (k : Int) < (g.objs.length : Int) := by omega
          have HL := hide hLk
          clear hLk
          go_wp2
          obtain ⟨W6, hW6⟩ : ∃ W6, (wr.alloc (.cells #[.slice ai fs.length ci] 51)).alloc (.cells #[.slice none 0 0] 51) = W6 := ⟨_, rfl⟩
          rw [hW6]
          have hb6 : Below wr.heap.size wr W6 := by rw [← hW6]; exact ((Below.refl _ _).alloc (Nat.le_refl _) _).alloc (by simp) _
          have hs6 : wr.heap.size + 1 < W6.heap.size := by rw [← hW6]; simp
          have p0 : W6.cell? ⟨wr.heap.size + 1, 0, none⟩ = some (.slice none 0 0) := by rw [← hW6]; simp [go_sem]
          have pf : W6.frozen? ⟨wr.heap.size + 1, 0, none⟩ = false := by rw [← hW6]; simp [go_sem]
          have hva6 := (hva.mono (B' := wr.heap.size) (by omega)).below hb6
          clear hW6
          obtain ⟨wo, hwo⟩ : ∃ wo, wo = wr := ⟨_, rfl⟩
          subst hwo
          go_loopw [48] (fun i wr => ∃ (k : Nat) (s : Value), k ≤ fs.length ∧ i = .int .i64 k ∧ BoxV wr (wo.heap.size + 1) 0 s ((fs.take k).filter (keepV v)) ∧ Below (wo.heap.size + 1) W6 wr) (fun i _ => fs.length - (intOf i).toNat)
          case atStart => exact ⟨0, _, Nat.zero_le _, rfl, ⟨p0, pf, by simpa [cellsV] using World.ownsRow_nil _ _ _ _⟩, Below.refl _ _⟩
          case round =>
            clear p0 pf
            obtain ⟨kq, s, hkq, rfl, hbx, hb7⟩ := hrel
            have hs7 := hb7.size
            by_cases hltq : kq < fs.length
            · skip
              obtain ⟨b, off, r, n, hab, hbB, hc1, hc2', Hv⟩ := (hva6.below (hb7.mono (by omega))).at hltq
              subst hab
              obtain ⟨sa, sc, hss⟩ := ownsRow_slice hbx.row
              subst hss
              have hrw := hbx.row
              have hbc := hbx.c
              have hcbl : wo.heap.size + 1 < wr.heap.size := World.block_lt_of_cell? wr _ hbc
              have hfl := filter_take_len v fs kq
              have hmx : ((fs.take kq).filter (keepV v)).length + 1 ≤ maxLen := by simp only [maxLen]; omega
              have hmy : (((fs.take kq).filter (keepV v)).length + 1) * 16 ≤ 140737488355328 := by omega
              have Hyes := hide (fun h => filter_yes (v := v) hltq Hv.out h)
              have Hno := hide (fun h => filter_no (v := v) hltq Hv.out h)
              generalize (fs.take kq).filter (keepV v) = lk at *
              cases r
              · have HF := hide (unhide Hyes rfl)
                have hc2 : ((wr.alloc (.cells #[.bool false, .int .i64 n] 54)).alloc (.cells #[.bool false, .int .i64 n] 54)).cell? ⟨wo.heap.size + 1, 0, none⟩ = some (.slice sa lk.length sc) := ((((Below.refl wr.heap.size wr).alloc (Nat.le_refl _) _).alloc (by simp) _).cell (p := ⟨wo.heap.size + 1, 0, none⟩) hcbl).trans hbx.c
                have hf2 : ((wr.alloc (.cells #[.bool false, .int .i64 n] 54)).alloc (.cells #[.bool false, .int .i64 n] 54)).frozen? ⟨wo.heap.size + 1, 0, none⟩ = false := ((((Below.refl wr.heap.size wr).alloc (Nat.le_refl _) _).alloc (by simp) _).frozen (p := ⟨wo.heap.size + 1, 0, none⟩) hcbl).trans hbx.fz
                have hal : Below wr.heap.size wr ((wr.alloc (.cells #[.bool false, .int .i64 n] 54)).alloc (.cells #[.bool false, .int .i64 n] 54)) := ((Below.refl wr.heap.size wr).alloc (Nat.le_refl _) _).alloc (by simp) _
                have Hc2 := hide hc2
                have Hf2 := hide hf2
                clear hc2 hf2
                go_wp2_with (at_builtin; go_must (refine wpList_append_own _ rfl _ _ 23 rfl (wo.heap.size + 1 + 1) 54 i0 _ 2 16 Try.underlying23 hi hz0 hz1 hz2 rfl (by decide) _ _ _ rfl (hrw.kept (grownBy_of_below' hal) (own_none' _)) ⟨wr.heap.size + 1, 0, none⟩ 1 1 [.bool false, .int .i64 n] rfl rfl (cell_two_at _ _ _ _ _ (by simp)) (by simp [Value.oneCell']) hmx hmy (by simp; omega) ?_); go_must (intro v' w1 hown' hgrow hnil; clear hnil; obtain ⟨g7, cap7, hv7⟩ := ownsRow_succ hown'; subst hv7; have c07 := hgrow.cell (unhide Hc2) (fun e => by have h9 : wo.heap.size + 1 + 1 ≤ wo.heap.size + 1 := (hbx.row.lt _ e.symm).1; omega); have cf7 := (World.frozen?_of_block (a := ⟨wo.heap.size + 1, 0, none⟩) (hgrow.block (wo.heap.size + 1) (by simp; omega) (fun e => by have h9 : wo.heap.size + 1 + 1 ≤ wo.heap.size + 1 := (hbx.row.lt _ e.symm).1; omega))).trans (unhide Hf2)))
                go_roundw
                case rel =>
                  obtain ⟨r1, r2, r3, r4⟩ := hbx.put hal hgrow hown'
                  exact ⟨kq + 1, _, by omega, by go_num, by rw [unhide HF]; exact r1, hb7.trans r2⟩
                case measure => simp [intOf]; omega
              · by_cases hnv : n = v
                · subst hnv
                  have HF := hide (unhide Hno (by simp [keepV]))
                  go_wp2
                  go_roundw
                  case rel =>
                    have hal1 : Below wr.heap.size wr (wr.alloc (.cells #[.bool true, .int .i64 n] 54)) := (Below.refl wr.heap.size wr).alloc (Nat.le_refl _) _
                    exact ⟨kq + 1, _, by omega, by go_num, by rw [unhide HF]; exact hbx.below hal1, hb7.alloc (by omega) _⟩
                  case measure => simp [intOf]; omega
                · have HF := hide (unhide Hyes (by simp [keepV, hnv]))
                  have d : (n != v) = true := by simpa using hnv
                  have hc2 : ((wr.alloc (.cells #[.bool true, .int .i64 n] 54)).alloc (.cells #[.bool true, .int .i64 n] 54)).cell? ⟨wo.heap.size + 1, 0, none⟩ = some (.slice sa lk.length sc) := ((((Below.refl wr.heap.size wr).alloc (Nat.le_refl _) _).alloc (by simp) _).cell (p := ⟨wo.heap.size + 1, 0, none⟩) hcbl).trans hbx.c
                  have hf2 : ((wr.alloc (.cells #[.bool true, .int .i64 n] 54)).alloc (.cells #[.bool true, .int .i64 n] 54)).frozen? ⟨wo.heap.size + 1, 0, none⟩ = false := ((((Below.refl wr.heap.size wr).alloc (Nat.le_refl _) _).alloc (by simp) _).frozen (p := ⟨wo.heap.size + 1, 0, none⟩) hcbl).trans hbx.fz
                  have hal : Below wr.heap.size wr ((wr.alloc (.cells #[.bool true, .int .i64 n] 54)).alloc (.cells #[.bool true, .int .i64 n] 54)) := ((Below.refl wr.heap.size wr).alloc (Nat.le_refl _) _).alloc (by simp) _
                  have Hc2 := hide hc2
                  have Hf2 := hide hf2
                  clear hc2 hf2
                  go_wp2_with (at_builtin; go_must (refine wpList_append_own _ rfl _ _ 23 rfl (wo.heap.size + 1 + 1) 54 i0 _ 2 16 Try.underlying23 hi hz0 hz1 hz2 rfl (by decide) _ _ _ rfl (hrw.kept (grownBy_of_below' hal) (own_none' _)) ⟨wr.heap.size + 1, 0, none⟩ 1 1 [.bool true, .int .i64 n] rfl rfl (cell_two_at _ _ _ _ _ (by simp)) (by simp [Value.oneCell']) hmx hmy (by simp; omega) ?_); go_must (intro v' w1 hown' hgrow hnil; clear hnil; obtain ⟨g7, cap7, hv7⟩ := ownsRow_succ hown'; subst hv7; have c07 := hgrow.cell (unhide Hc2) (fun e => by have h9 : wo.heap.size + 1 + 1 ≤ wo.heap.size + 1 := (hbx.row.lt _ e.symm).1; omega); have cf7 := (World.frozen?_of_block (a := ⟨wo.heap.size + 1, 0, none⟩) (hgrow.block (wo.heap.size + 1) (by simp; omega) (fun e => by have h9 : wo.heap.size + 1 + 1 ≤ wo.heap.size + 1 := (hbx.row.lt _ e.symm).1; omega))).trans (unhide Hf2)))
                  go_roundw
                  case rel =>
                    obtain ⟨r1, r2, r3, r4⟩ := hbx.put hal hgrow hown'
                    exact ⟨kq + 1, _, by omega, by go_num, by rw [unhide HF]; exact r1, hb7.trans r2⟩
                  case measure => simp [intOf]; omega
            · obtain rfl : kq = fs.length := by omega
              rw [List.take_length] at hbx
              have hfl := List.length_filter_le (keepV v) fs
              obtain ⟨a7, c7, hv7, hV7, hbs7⟩ := vals_of_owns hbx.row rfl (by omega)
              subst hv7
              have pc7 := hbx.c
              have hpl7 : wo.heap.size + 1 < wr.heap.size := World.block_lt_of_cell? wr _ pc7
              have Hbs7 := hide hbs7
              clear hbs7 hbx
              have hb67 : Below wo.heap.size wo wr := hb6.trans (hb7.mono (by omega))
              have c07 := (hb67.cell (p := ⟨w.heap.size + 1, 0, none⟩) hcbl).trans c0
              have cf7 := (hb67.frozen (p := ⟨w.heap.size + 1, 0, none⟩) hcbl).trans cf0
              have hrow7 := (hrow.below hb67).row
              rw [unhide HL] at hrow7
              obtain ⟨xa, xc, hxx⟩ := ownsRow_slice hrow7
              subst hxx
              have HTf : Hid ((g.objs.take (k + 1)).map (·.filter (keepV v)) = (g.objs.take k).map (·.filter (keepV v)) ++ [fs.filter (keepV v)]) := by show _ = _; rw [unhide HTk]; simp
              generalize fs.filter (keepV v) = lf at *
              have hmx : k + 1 ≤ maxLen := by simp only [maxLen]; omega
              have hmy : (k + 1) * 24 ≤ 140737488355328 := by omega
              have hc2 : (wr.alloc (.cells #[.slice a7 lf.length c7] 51)).cell? ⟨w.heap.size + 1, 0, none⟩ = some (.slice xa k xc) := (((Below.refl wr.heap.size wr).alloc (Nat.le_refl _) _).cell (p := ⟨w.heap.size + 1, 0, none⟩) (by simp; omega)).trans c07
              have hf2 : (wr.alloc (.cells #[.slice a7 lf.length c7] 51)).frozen? ⟨w.heap.size + 1, 0, none⟩ = false := (((Below.refl wr.heap.size wr).alloc (Nat.le_refl _) _).frozen (p := ⟨w.heap.size + 1, 0, none⟩) (by simp; omega)).trans cf7
              have Hc2 := hide hc2
              have Hf2 := hide hf2
              have hcr : w.heap.size + 1 < wr.heap.size := by omega
              clear hc2 hf2
              go_wp2_with (at_builtin; go_must (refine wpList_append_own_at _ rfl _ _ 22 rfl w5.heap.size 51 i1 _ 1 24 Try.underlying22 hi1 hy0 hy1 hy2 rfl (by decide) _ _ _ rfl (hrow7.alloc _) ⟨wr.heap.size, 0, none⟩ 1 1 [.slice a7 lf.length c7] rfl rfl (cell_one_at _ _ _ _ rfl) (by simp [Value.oneCell']) hmx hmy (by simp; omega) ?_); go_must (intro v' w8 hown8 hgrow8 hnil hat8; clear hnil; obtain ⟨g8, cap8, hv8⟩ := ownsRow_succ hown8; subst hv8; have c08 := hgrow8.cell (unhide Hc2) (fun e => by have h9 : w5.heap.size ≤ w.heap.size + 1 := (hrow7.lt _ e.symm).1; omega); have cf8 := (World.frozen?_of_block (a := ⟨w.heap.size + 1, 0, none⟩) (hgrow8.block (w.heap.size + 1) (by simp; omega) (fun e => by have h9 : w5.heap.size ≤ w.heap.size + 1 := (hrow7.lt _ e.symm).1; omega))).trans (unhide Hf2)))
              go_roundw
              case rel =>
                obtain ⟨r1, r2, r3, r4⟩ := obj_step2 (cb := w.heap.size + 1) (l := lf) (ci := c7) hrow h5r hV7 hb67 (fun b off e => by have := unhide Hbs7 b off e; omega) (by rw [unhide HL]; exact hown8) hgrow8 hat8 hcb5
                refine ⟨k + 1, _, _, by omega, by go_num, World.cell?_setCell_same' _ _ _ (by rw [c08]; rfl), by rw [World.frozen?_setCell]; exact cf8, ?_, by rw [unhide HTf]; exact r1, hb.trans r2, hide (fun q h1 h2 => (r3 q h1 h2).trans (unhide Hq q h1 h2))⟩
                rw [World.cell?_setCell_other _ _ _ _ (by simp)]
                exact (World.cell?_of_block (a := ⟨w.heap.size + 1, 1, none⟩) r4).trans c1
              case measure => simp [intOf]; omega
        · obtain rfl : k = g.objs.length := by omega
          rw [List.take_length] at hrow
          have hL : (g.objs.map (·.filter (keepV v))) = (wG g v).objs := rfl
          rw [hL] at hrow
          have hLl : (wG g v).objs.length = g.objs.length := wG_len g v
          obtain ⟨va, vc, hv, hO⟩ := hrow.objs (by omega)
          subst hv
          have hVr := (hV5.blocks (W' := wr) (fun b off e hB => unhide Hq b hB (by have := unhide Hbs5 b off e; omega))).mono (B' := wr.heap.size) h5r
          have Hrf := hide (refReach_c va ar' vc cr' (wG g v) wr.heap.size wr hO (by rw [← unhide HRf]; exact hVr) (Nat.le_refl _) (good_w hG v))
          rw [← unhide HRf] at Hrf
          have HLl := hide hLl
          clear hL hLl hO hVr hrow
          go_wp2_with fail
          refine (unhide Hrf).mono ?_
          rintro e w9 ⟨a9, c9, rfl, hI9, hb9⟩
          go_wp2
          go_ret
          exact ⟨a9, c9, rfl, hI9, hbwr.trans (hb9.mono hbwr.size)⟩

end Go.Proofs.Ythpmckfgngkbhaa
