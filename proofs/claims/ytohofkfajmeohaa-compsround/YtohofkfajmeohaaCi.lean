/- Walks: mayCome, slices.IndexFunc, slices.Delete. -/
import Derived.Test.YtohofkfajmeohaaProg
import Derived.Test.YtohofkfajmeohaaMem
import Derived.Test.YtohofkfajmeohaaCh
import Derived.Shelf.SlGeneric
import Derived.Ground.SlgnProg
import Derived.Shelf.SlicesE.Delete
namespace Go.Proofs.Ytohofkfajmeohaa
open Go.Shelf
def Try.laysDel_ren : Go.Shelf.Ren := ⟨fun | 45 => 37 | n => n, fun | 22 => 26 | 23 => 30 | 3 => 3 | 4 => 4 | 0 => 0 | n => n, fun | n => n⟩
theorem Try.laysDel : Go.Proofs.SlLaysE.n45 Try.prog Try.laysDel_ren := {
  mixed := by kernel_rfl
  f45 := ⟨Try.f37.name, by decide, Try.func37.trans (congrArg some (by kernel_rfl))⟩
  t0 := Try.underlying0
  a0 := Try.isAgg0
  z0 := Try.sizeOf0
  v0 := Try.zeroValue0
  t3 := Try.underlying3
  a3 := Try.isAgg3
  z3 := Try.sizeOf3
  v3 := Try.zeroValue3
  t4 := Try.underlying4
  a4 := Try.isAgg4
  z4 := Try.sizeOf4
  v4 := Try.zeroValue4
  t22 := Try.underlying26
  a22 := Try.isAgg26
  z22 := Try.sizeOf26
  v22 := Try.zeroValue26
  a23 := Try.isAgg30
  z23 := Try.sizeOf30 }
end Go.Proofs.Ytohofkfajmeohaa
namespace Go.Proofs.Ytohofkfajmeohaa
set_option linter.unusedSimpArgs false
set_option linter.unusedVariables false
open Go.RowKit

set_option maxRecDepth 100000 in
set_option maxHeartbeats 4000000 in
theorem mayCome_c (ao ar al : Option Addr) (no co nr cr nl cl : Nat) (base bc : Nat) (ms : List Nat) (Ks : List (List Int)) (K lc : List Int) (c0 : Nat) (vc : Value) (w : World) (hL : Led w base (.slice al nl cl) ms Ks)
    (hK : Ks[c0]? = some K) (hc : w.ownsRow bc 3 1 vc lc.length (intsV lc)) (hc0 : lc[0]? = some (c0 : Int)) (hn : Ks.length ≤ 1000) :
    Calls Try.prog 36 #[.agg #[.slice ao no co, .slice ar nr cr, .slice al nl cl], vc] w fun e w' => e = .returned (.bool (decide (K.length = 0))) ∧ Below w.heap.size w w' := by
  have hcl := (List.getElem?_eq_some_iff.1 hc0).1
  have hKl := (List.getElem?_eq_some_iff.1 hK).1
  obtain ⟨g3, cap3, m, n3, D3, hv3, hm3, hc3, hgl3, hs3⟩ := hL.get hK
  injection hv3 with e1 e2 e3
  subst e1 e2 e3
  obtain ⟨g2, cap2, rfl, hx2, hgl2⟩ := ints_at hc hcl
  have hc0' : lc[0] = (c0 : Int) := by rw [List.getElem?_eq_getElem hcl] at hc0; injection hc0
  rw [hc0'] at hx2
  have hgl2' := hgl2
  have hsz := hs3.siz
  have hs4 := (hs3.alloc (.cells #[.slice ao no co, .slice ar nr cr, .slice (some ⟨g3, 0, none⟩) Ks.length cl] 47))
  have hx3 : (w.alloc (.cells #[.slice ao no co, .slice ar nr cr, .slice (some ⟨g3, 0, none⟩) Ks.length cl] 47)).cell? ⟨g2, 0, none⟩ = some (.int .i64 (c0 : Int)) := (World.grownBy_alloc w _ none).cell hx2 (by simp)
  have hc4 : (w.alloc (.cells #[.slice ao no co, .slice ar nr cr, .slice (some ⟨g3, 0, none⟩) Ks.length cl] 47)).cell? ⟨g3, c0, none⟩ = some (.map (some m)) := (World.grownBy_alloc w _ none).cell hc3 (by simp)
  clear hK hL hc0 hc0' hc
  go_enter Try.func36, Try.ntmps36
  go_wp2
  have hX0 : SBox (w.alloc (.cells #[.slice ao no co, .slice ar nr cr, .slice (some ⟨g3, 0, none⟩) Ks.length cl] 47)) w.heap.size ao ar no co nr cr (.slice (some ⟨g3, 0, none⟩) Ks.length cl) := ⟨by simp [go_sem], by simp [go_sem], by simp [go_sem], by simp [go_sem]⟩
  have hbW := (Below.refl w.heap.size w).alloc (Nat.le_refl _) (.cells #[.slice ao no co, .slice ar nr cr, .slice (some ⟨g3, 0, none⟩) Ks.length cl] 47)
  generalize hW : w.alloc (.cells #[.slice ao no co, .slice ar nr cr, .slice (some ⟨g3, 0, none⟩) Ks.length cl] 47) = W0 at *
  clear hW
  have hx2 := hX0.c2
  go_still_tail 7, Try.mixed
  go_wp2_with (at_len; go_must (refine wpList_len_own _ rfl _ 65 rfl 3 71 Try.underlying65 _ m _ D3 rfl hs4.map.drew ?_))
  go_ret
  exact ⟨ret_bool (by rw [Bool.eq_iff_iff]; simp), hbW.drew⟩


theorem delete_c (g cap i : Nat) (base : Nat) (cs : List Sl) (LL : List (List Int)) (w : World) (hR : LRow w base (.slice (some ⟨g, 0, none⟩) cs.length cap) cs LL) (hi : i < cs.length) (hb : base ≤ w.heap.size) :
    Calls Try.prog 37 #[.slice (some ⟨g, 0, none⟩) cs.length cap, .int .i64 (i : Int), .int .i64 ((i : Int) + 1)] w fun e w' => e = .returned (.slice (some ⟨g, 0, none⟩) (cs.length - 1) cap) ∧
      LRow w' base (.slice (some ⟨g, 0, none⟩) (cs.length - 1) cap) (cs.eraseIdx i) (LL.eraseIdx i) ∧ w.grownBy w' (some g) := by
  rcases hR.row.2 with ⟨_, h0⟩ | ⟨g', cap', cur, hv, hbg, hgb, hnc, hcm, hcs, htake⟩
  · omega
  injection hv with e1 e2 e3
  injection e1 with e1
  injection e1 with e1
  subst e1 e3
  have hcur : ∀ (k : Nat) (s : Sl), cs[k]? = some s → cur[k]? = some (encS s) := by
    intro k s hk
    have h1 : (slsV cs)[k]? = some (encS s) := by simp [slsV, hk]
    rw [← htake, List.getElem?_take] at h1
    split at h1
    · simpa using h1
    · cases h1
  obtain ⟨i0, hi0, hz0, hz1, hz2⟩ := info_parts Try.info30
  have hH : Go.Sort.Holds encS w g 0 cs.toArray := by
    intro j hj
    have hj' : j < cs.length := by simpa using hj
    have hc := hcur j cs[j] (List.getElem?_eq_getElem hj')
    rw [getElem!_pos cs.toArray j hj]
    refine ⟨?_, by simp [World.frozen?, hgb]⟩
    rw [Nat.zero_add, cell_of_row w g j cur 30 (0, 0) hgb, hc]
    simp
  have hD := AnyE.slices_Delete Try.laysDel encS (fun _ => rfl) (none, 0, 0) (fun w => Try.zeroValue30 w) i0 hi0 hz1 g 0 cap i (i + 1) cs.toArray w hH (by simpa using hnc) (by simp only [maxLen] at hcm; omega) (by omega) (by simp; omega)
  have e1 : ((i : Int) + 1) = ((i + 1 : Nat) : Int) := by omega
  rw [e1]
  have hD' : Calls Try.prog 37 #[.slice (some ⟨g, 0, none⟩) cs.length cap, .int .i64 (i : Int), .int .i64 ((i + 1 : Nat) : Int)] w _ := hD
  refine hD'.mono ?_
  rintro e w' ⟨rfl, q, rfl⟩
  have hd : (List.take i cs.toArray.toList ++ List.drop (i + 1) cs.toArray.toList ++ List.replicate (i + 1 - i) ((none, 0, 0) : Sl)) = cs.eraseIdx i ++ [(none, 0, 0)] := by
    rw [List.eraseIdx_eq_take_drop_succ]
    simp
  have hel : (cs.eraseIdx i).length = cs.length - 1 := by rw [List.length_eraseIdx, if_pos hi]
  rw [hd]
  have hg : w.grownBy (Go.Sort.putRow encS (Go.Sort.ahead w q) g 0 (cs.eraseIdx i ++ [((none, 0, 0) : Sl)]).toArray) (some g) := by
    refine ⟨rfl, rfl, rfl, by simp [Go.Sort.putRow, Go.Sort.mapBlock, Go.Sort.ahead], fun k hk hne => ?_⟩
    have hne' : ¬ g = k := fun e => hne (by rw [e])
    simp [Go.Sort.putRow, Go.Sort.mapBlock, Go.Sort.ahead, Array.getElem?_modify, hne']
  have hblk : (Go.Sort.putRow encS (Go.Sort.ahead w q) g 0 (cs.eraseIdx i ++ [((none, 0, 0) : Sl)]).toArray).heap[g]? = some (.cells (Go.Sort.putCells encS 0 (cs.eraseIdx i ++ [((none, 0, 0) : Sl)]).toArray cur) 30 (0, 0)) := by
    simp [Go.Sort.putRow, Go.Sort.mapBlock, Go.Sort.ahead, Array.getElem?_modify, hgb, Go.Sort.onCells]
  refine ⟨by simp, ⟨⟨by simp [slsV, hel], .inr ⟨g, cap, _, by rw [hel], hbg, hblk, by omega, hcm, by simp [Go.Sort.putCells, hcs], ?_⟩⟩, ?_, ?_⟩, hg⟩
  · rw [hel, Nat.mul_one]
    apply List.ext_getElem?
    intro k
    rw [List.getElem?_take]
    by_cases hk : k < cs.length - 1
    · rw [if_pos hk, Array.getElem?_toList]
      simp only [Go.Sort.putCells, Array.getElem?_mapIdx]
      have hck : k < cur.size := by omega
      rw [Array.getElem?_eq_getElem hck, Option.map_some, if_pos ⟨Nat.zero_le _, by simp; omega⟩]
      have hke : k < (cs.eraseIdx i).length := by omega
      rw [getElem!_pos _ (k - 0) (by simp; omega)]
      simp [slsV, List.getElem?_map, List.getElem?_eq_getElem hke, List.getElem_append_left hke]
    · rw [if_neg hk, List.getElem?_eq_none (by simp [slsV]; omega)]
  · rw [List.length_eraseIdx, List.length_eraseIdx, hR.len]
  · intro k s l hs hl
    rw [List.getElem?_eraseIdx] at hs hl
    have hn := noInts_row hR.row
    split at hs
    · rw [if_pos (by assumption)] at hl
      exact ints_kept (hR.each k s l hs hl) hg hn
    · rw [if_neg (by assumption)] at hl
      exact ints_kept (hR.each (k + 1) s l hs hl) hg hn

end Go.Proofs.Ytohofkfajmeohaa
