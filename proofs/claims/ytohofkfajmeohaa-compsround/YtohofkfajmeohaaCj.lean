/- Walks: slices.IndexFunc. -/
import Derived.Test.YtohofkfajmeohaaProg
import Derived.Test.YtohofkfajmeohaaMem
import Derived.Test.YtohofkfajmeohaaCi
namespace Go.Proofs.Ytohofkfajmeohaa
set_option linter.unusedSimpArgs false
set_option linter.unusedVariables false
open Go.RowKit

/-- One slice of the row. -/
theorem LRow.get {W : World} {base : Nat} {v : Value} {cs : List Sl} {LL : List (List Int)} (h : LRow W base v cs LL) {k : Nat} {l : List Int} (hl : LL[k]? = some l) :
    ∃ g cap a c, v = .slice (some ⟨g, 0, none⟩) cs.length cap ∧ cs[k]? = some (a, l.length, c) ∧ W.cell? ⟨g, k, none⟩ = some (.slice a l.length c) ∧ g < W.heap.size ∧ W.ownsRow base 3 1 (.slice a l.length c) l.length (intsV l) := by
  have hk := (List.getElem?_eq_some_iff.1 hl).1
  rw [h.len] at hk
  have he := h.each k cs[k] l (List.getElem?_eq_getElem hk) hl
  obtain ⟨a, c, hv⟩ := ownsRow_slice he
  have hs : cs[k] = (a, l.length, c) := by
    generalize cs[k] = s at hv
    obtain ⟨x, y, z⟩ := s
    simp [encS] at hv
    obtain ⟨rfl, rfl, rfl⟩ := hv
    rfl
  rw [hs] at he
  rcases h.row.2 with ⟨_, h0⟩ | ⟨g, cap, cur, rfl, _, hg, _, _, _, htake⟩
  · omega
  · refine ⟨g, cap, a, c, rfl, by rw [List.getElem?_eq_getElem hk, hs], ?_, (Array.getElem?_eq_some_iff.1 hg).1, he⟩
    rw [cell_of_row W g k cur 30 (0, 0) hg]
    have h1 : (slsV cs)[k]? = some (.slice a l.length c) := by simp [slsV, hk, hs, encS]
    rw [← htake, List.getElem?_take] at h1
    split at h1
    · simpa using h1
    · cases h1

set_option maxRecDepth 100000 in
set_option maxHeartbeats 4000000 in
theorem indexOf_c (ao ar al : Option Addr) (no co nr cr nl cl : Nat) (base br : Nat) (ms : List Nat) (Ks : List (List Int)) (v : Value) (cs : List Sl) (LL : List (List Int)) (f : Nat → List Int) (w : World) (hL : Led w base (.slice al nl cl) ms Ks)
    (hR : LRow w br v cs LL) (hf : ∀ (k : Nat) (l : List Int), LL[k]? = some l → ∃ c0 : Nat, l[0]? = some (c0 : Int) ∧ Ks[c0]? = some (f k)) (hn : Ks.length ≤ 1000) (hl : LL.length ≤ 1000) (hex : ∃ k, k < LL.length ∧ f k = []) :
    Calls Try.prog 35 #[v, .func (.func 36) #[.agg #[.slice ao no co, .slice ar nr cr, .slice al nl cl]] #[]] w fun e w' => ∃ k : Nat, e = .returned (.int .i64 (k : Int)) ∧ k < LL.length ∧ f k = [] ∧ (∀ j, j < k → f j ≠ []) ∧ Below w.heap.size w w' := by
  obtain ⟨va, vc, rfl⟩ := ownsRow_slice hR.row
  have hlen := hR.len
  have Hlen := hide hlen
  have hcl : cs.length ≤ 1000 := by omega
  go_enter Try.func35, Try.ntmps35
  go_wp2
  go_loopw [8] (fun i wr => ∃ k : Nat, k ≤ cs.length ∧ i = .int .i64 k ∧ (∀ j, j < k → f j ≠ []) ∧ Below w.heap.size w wr) (fun i _ => cs.length - (intOf i).toNat)
  case atStart => exact ⟨0, Nat.zero_le _, rfl, fun j hj => by omega, Below.refl _ _⟩
  case round =>
    obtain ⟨k, hk, rfl, hno, hb⟩ := hrel
    have Hno := hide hno
    clear hno
    by_cases hlt : k < cs.length
    · have hlk : LL[k]? = some LL[k] := List.getElem?_eq_getElem (by omega)
      obtain ⟨g, cap, a, c, hv, hsk, hc, hgl, hrow⟩ := (hR.below hb).get hlk
      injection hv with e1 e2 e3
      subst e1 e3
      obtain ⟨c0, hc0, hKc⟩ := hf k _ hlk
      have hLw := hL.below hb
      have HM := hide (mayCome_c ao ar al no co nr cr nl cl base br ms Ks (f k) LL[k] c0 _ wr hLw hKc hrow hc0 hn)
      clear hlk hc0 hKc hrow e2 hsk
      generalize LL[k].length = lk at *
      by_cases hfk : f k = []
      · have Hfk := hide hfk
        have hd : decide ((f k).length = 0) = true := by rw [hfk]; rfl
        rw [hd] at HM
        clear hfk hd
        go_wp2_with fail
        refine (unhide HM).mono ?_
        rintro e wa ⟨rfl, hba⟩
        go_wp2
        go_ret
        exact ⟨k, rfl, by omega, unhide Hfk, unhide Hno, hb.trans (hba.mono hb.size)⟩
      · have Hfk := hide hfk
        have hd : decide ((f k).length = 0) = false := by simpa using hfk
        rw [hd] at HM
        clear hfk hd
        go_wp2_with fail
        refine (unhide HM).mono ?_
        rintro e wa ⟨rfl, hba⟩
        go_wp2
        go_roundw
        case rel =>
          refine ⟨k + 1, by omega, by go_num, fun j hj => ?_, hb.trans (hba.mono hb.size)⟩
          rcases Nat.lt_or_ge j k with h | h
          · exact unhide Hno j h
          · obtain rfl : j = k := by omega
            exact unhide Hfk
        case measure => simp [intOf]; omega
    · exfalso
      obtain ⟨q, hq, hfq⟩ := hex
      exact unhide Hno q (by omega) hfq

end Go.Proofs.Ytohofkfajmeohaa
