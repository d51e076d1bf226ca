/- Walks: rotated. -/
import Derived.Test.YtmelhphhealomaaProg
import Derived.Test.YtmelhphhealomaaMem
import Derived.Test.YtmelhphhealomaaRb
import Derived.Test.YtmelhphhealomaaWz
import Derived.Test.YtmelhphhealomaaTb
namespace Go.Proofs.Ytmelhphhealomaa
set_option linter.unusedSimpArgs false
set_option linter.unusedVariables false
open Go.RowKit

set_option maxRecDepth 100000 in
set_option maxHeartbeats 1000000 in
theorem rot_c (ao ar : Option Addr) (co cr : Nat) (g : Gr) (k : Nat) (w : World) (ho : Objs w.heap.size w ao g.objs) (hr : Vals w.heap.size w ar g.roots) (hG : Good g) (hn : 0 < g.objs.length) (hk : k < g.objs.length) :
    Calls Try.prog 19 #[.agg #[.slice ao g.objs.length co, .slice ar g.roots.length cr], .int .i64 k] w fun e w' => ∃ ao' co' ar' cr', e = .returned (.agg #[.slice ao' (renG g (rotL g.objs.length k g.objs.length)).objs.length co', .slice ar' (renG g (rotL g.objs.length k g.objs.length)).roots.length cr']) ∧
      (∃ base es, w.heap.size ≤ base ∧ ObjRow w' base (.slice ao' (renG g (rotL g.objs.length k g.objs.length)).objs.length co') (renG g (rotL g.objs.length k g.objs.length)).objs es) ∧ Vals w'.heap.size w' ar' (renG g (rotL g.objs.length k g.objs.length)).roots ∧ (∀ b off, ar' = some ⟨b, off, none⟩ → w.heap.size ≤ b) ∧ Below w.heap.size w w' := by
  obtain ⟨i0, hi, hz0, hz1, hz2⟩ := info_parts Try.info3
  have hn24 := hG.n24
  obtain ⟨W4, hW4⟩ : ∃ W4, (w.alloc (.cells #[.slice ao g.objs.length co, .slice ar g.roots.length cr] 25)).alloc (.cells #[.slice none 0 0, .slice none 0 0] 25) = W4 := ⟨_, rfl⟩
  have hb1 : Below w.heap.size w W4 := by rw [← hW4]; exact ((Below.refl w.heap.size w).alloc (Nat.le_refl _) _).alloc (by simp) _
  have hs4 : w.heap.size + 1 < W4.heap.size := by rw [← hW4]; simp
  have q0 : W4.cell? ⟨w.heap.size + 1, 0, none⟩ = some (.slice none 0 0) := by rw [← hW4]; simp [go_sem]
  have q1 : W4.cell? ⟨w.heap.size + 1, 1, none⟩ = some (.slice none 0 0) := by rw [← hW4]; simp [go_sem]
  have f0 : W4.frozen? ⟨w.heap.size + 1, 0, none⟩ = false := by rw [← hW4]; simp [go_sem]
  have f1 : W4.frozen? ⟨w.heap.size + 1, 1, none⟩ = false := by rw [← hW4]; simp [go_sem]
  have g0 : W4.cell? ⟨w.heap.size, 0, none⟩ = some (.slice ao g.objs.length co) := by rw [← hW4]; simp [go_sem]
  have g1 : W4.cell? ⟨w.heap.size, 1, none⟩ = some (.slice ar g.roots.length cr) := by rw [← hW4]; simp [go_sem]
  go_enter Try.func19, Try.ntmps19
  go_wp2
  clear hW4
  go_loopw [6, 7] (fun s i wr => ∃ j : Nat, j ≤ g.objs.length ∧ i = .int .i64 j ∧ wr.ownsRow W4.heap.size 3 1 s (rotL g.objs.length k j).length (intsV (rotL g.objs.length k j)) ∧ Below W4.heap.size W4 wr) (fun _ i _ => g.objs.length - (intOf i).toNat)
  case atStart => exact ⟨0, Nat.zero_le _, rfl, World.ownsRow_nil _ _ _ _, Below.refl _ _⟩
  case round =>
    obtain ⟨j, hj, rfl, hown, hb⟩ := hrel
    have hsz := hb.size
    have hlr := rotL_len g.objs.length k j
    by_cases hlt : j < g.objs.length
    · have hltI : (j : Int) < (g.objs.length : Int) := by omega
      have hmod : ((j : Int) + (k : Int)).tmod (g.objs.length : Int) = (((j + k) % g.objs.length : Nat) : Int) := by
        rw [← Int.natCast_add, Int.ofNat_tmod]
      have hml := Nat.mod_lt (j + k) hn
      have HT := hide (rotL_succ g.objs.length k j)
      have hne : ¬ g.objs = [] := fun e => by rw [e] at hn; simp at hn
      have hn0 : ¬ (g.objs.length : Int) = 0 := by omega
      have hw1 : IntKind.i64.wrap (((j + k) % g.objs.length : Nat) : Int) = (((j + k) % g.objs.length : Nat) : Int) := by rw [IntKind.wrap_i64]; omega
      have hmx : (rotL g.objs.length k j).length + 1 ≤ maxLen := by rw [hlr]; simp only [maxLen]; omega
      have hmy : ((rotL g.objs.length k j).length + 1) * 8 ≤ 140737488355328 := by rw [hlr]; omega
      clear hlr
      generalize (j + k) % g.objs.length = x at *
      go_wp2_with (at_builtin; go_must (refine wpList_append_own _ rfl _ _ 31 rfl W4.heap.size 3 i0 _ 1 8 Try.underlying31 hi hz0 hz1 hz2 rfl (by decide) _ _ _ rfl (hown.alloc _) ⟨wr.heap.size, 0, none⟩ 1 1 [.int .i64 x] rfl rfl (cell_one_at _ _ _ _ (by simp)) (by simp [Value.oneCell']) hmx hmy (by simp; omega) ?_); intro v' w1 hown' hgrow _)
      go_roundw
      case rel => exact ⟨j + 1, by omega, by go_num, by rw [unhide HT, intsV_snoc, List.length_append]; exact hown', (hb.alloc hsz _).grown hgrow (by simp; omega) (fun q e => (hown.lt q e).1)⟩
      case measure => simp [intOf]; omega
    · obtain rfl : j = g.objs.length := by omega
      obtain ⟨sa, sc, rfl, hI, _⟩ := ints_of_owns hown rfl (by rw [hlr]; omega)
      have Hwh := hide (rotL_rng hn k g.objs.length)
      have hl24 : (rotL g.objs.length k g.objs.length).length ≤ 24 := by rw [hlr]; omega
      clear hlr hown
      have hbw : Below w.heap.size w wr := hb1.trans (hb.mono (by omega))
      have ho6 : Objs wr.heap.size wr ao g.objs := (ho.below hbw).mono hbw.size
      have hr6 : Vals wr.heap.size wr ar g.roots := (hr.below hbw).mono hbw.size
      have g06 := (hb.cell (p := ⟨w.heap.size, 0, none⟩) (by simp; omega)).trans g0
      have g16 := (hb.cell (p := ⟨w.heap.size, 1, none⟩) (by simp; omega)).trans g1
      go_wp2_with (go_at_call 27; go_must (refine (renum_c ao ar sa co cr sc g (rotL g.objs.length k g.objs.length) wr ho6 hr6 hI hG hl24 (unhide Hwh)).mono ?_); go_must (rintro e w7 ⟨ao', co', ar', cr', rfl, ⟨base7, es7, hbase7, hO7⟩, hV7, hbs7, hb7⟩; have q07 := (hb7.cell (p := ⟨w.heap.size + 1, 0, none⟩) (by simp; omega)).trans ((hb.cell (p := ⟨w.heap.size + 1, 0, none⟩) (by simp; omega)).trans q0); have q17 := (hb7.cell (p := ⟨w.heap.size + 1, 1, none⟩) (by simp; omega)).trans ((hb.cell (p := ⟨w.heap.size + 1, 1, none⟩) (by simp; omega)).trans q1); have f07 := (hb7.frozen (p := ⟨w.heap.size + 1, 0, none⟩) (by simp; omega)).trans ((hb.frozen (p := ⟨w.heap.size + 1, 0, none⟩) (by simp; omega)).trans f0); have f17 := (hb7.frozen (p := ⟨w.heap.size + 1, 1, none⟩) (by simp; omega)).trans ((hb.frozen (p := ⟨w.heap.size + 1, 1, none⟩) (by simp; omega)).trans f1)))
      refine bodyPost_ret (v := .agg #[.slice ao' (renG g (rotL g.objs.length k g.objs.length)).objs.length co', .slice ar' (renG g (rotL g.objs.length k g.objs.length)).roots.length cr']) (by simp [results, Try.results19, go_sem, q07, q17]) rfl ?_
      refine ⟨ao', co', ar', cr', rfl, ⟨base7, es7, by omega, (hO7.setCell (p := ⟨w.heap.size + 1, 0, none⟩) (by simp; omega) _).setCell (p := ⟨w.heap.size + 1, 1, none⟩) (by simp; omega) _⟩, ?_, fun b off e => by have := hbs7 b off e; omega, ?_⟩
      · refine Vals.mono ((hV7.setCell ⟨w.heap.size + 1, 0, none⟩ (.slice ao' (renG g (rotL g.objs.length k g.objs.length)).objs.length co') (fun b off e => ?_)).setCell ⟨w.heap.size + 1, 1, none⟩ (.slice ar' (renG g (rotL g.objs.length k g.objs.length)).roots.length cr') (fun b off e => ?_)) (by simp [World.setCell])
        · have := hbs7 b off e; simp; omega
        · have := hbs7 b off e; simp; omega
      · exact ((hbw.trans (hb7.mono (by omega))).setCell (p := ⟨w.heap.size + 1, 0, none⟩) (by simp) _).setCell (p := ⟨w.heap.size + 1, 1, none⟩) (by simp) _

end Go.Proofs.Ytmelhphhealomaa
