/- Walks: ArenaCheck whole; sound. -/
import Derived.Test.YtahdalejmfbkeaaAd
namespace Go.Proofs.Ytahdalejmfbkeaa
set_option linter.unusedSimpArgs false
set_option linter.unusedVariables false
open Go.RowKit

set_option maxRecDepth 100000 in
set_option maxHeartbeats 1000000 in
theorem rcheck_c (aw ar : Option Addr) (cw cr : Nat) (ws rs : List Int) (B : Nat) (w : World) (hW : Wds B w aw ws) (hR : Wds B w ar rs) (hUW : U64 ws) (hUR : U64 rs) (hB : B ≤ w.heap.size) :
    Calls Try.prog 11 #[.agg #[.slice aw ws.length cw, .slice ar rs.length cr]] w fun e w' => e = .returned (.int .i64 (arenaE ws rs)) ∧ Below w.heap.size w w' := by
  have hb1 := (Below.refl w.heap.size w).alloc (Nat.le_refl _) (.cells #[.slice aw ws.length cw, .slice ar rs.length cr] 24)
  have hw1 := hW.1
  have hr1 := hR.1
  by_cases h256 : ws.length ≤ 256
  · by_cases h8 : rs.length ≤ 8
    · cases hs : splitR ws with
      | some fs => exact rcheck_some aw ar cw cr ws rs fs B w hW hR hUW hUR hB h256 h8 hs
      | none =>
        have HE := hide (arenaE_form h256 h8 hs)
        have Hs := hide hs
        clear hs
        go_enter Try.func11, Try.ntmps11
        go_wp2_with fail
        refine (rstarts_c _ _ ws B _ (hW.below (hb1.mono hB)) hUW (by simp; omega) h256).mono ?_
        rintro e w2 ⟨hres, hb2⟩
        obtain ⟨_, he⟩ := hres.resolve_right (fun ⟨_, _, _, h, _⟩ => by rw [unhide Hs] at h; cases h)
        subst he
        go_wp2
        go_ret
        exact ⟨ret_int (unhide HE).symm, hb1.trans (hb2.mono (by simp))⟩
    · have HE := hide (arenaE_large (ws := ws) (.inr (show 8 < rs.length by omega)))
      have d1 : decide (256 < (ws.length : Int)) = false := by simp; omega
      have d2 : decide (8 < (rs.length : Int)) = true := by simp; omega
      go_enter Try.func11, Try.ntmps11
      go_wp2
      go_ret
      exact ⟨ret_int (unhide HE).symm, hb1⟩
  · have HE := hide (arenaE_large (rs := rs) (.inl (show 256 < ws.length by omega)))
    have d1 : decide (256 < (ws.length : Int)) = true := by simp; omega
    go_enter Try.func11, Try.ntmps11
    go_wp2
    go_ret
    exact ⟨ret_int (unhide HE).symm, hb1⟩

set_option maxRecDepth 100000 in
set_option maxHeartbeats 400000 in
theorem sound_c (aw ar : Option Addr) (cw cr : Nat) (ws rs : List Int) (B : Nat) (w : World) (hW : Wds B w aw ws) (hR : Wds B w ar rs) (hUW : U64 ws) (hUR : U64 rs) (hB : B ≤ w.heap.size) :
    Calls Try.prog 22 #[.agg #[.slice aw ws.length cw, .slice ar rs.length cr]] w fun e w' => e = .returned (.bool (arenaE ws rs == 0)) ∧ Below w.heap.size w w' := by
  have hb1 := (Below.refl w.heap.size w).alloc (Nat.le_refl _) (.cells #[.slice aw ws.length cw, .slice ar rs.length cr] 24)
  go_enter Try.func22, Try.ntmps22
  go_wp2_with (go_at_call 11; go_must (refine (rcheck_c _ _ _ _ ws rs B _ (hW.below (hb1.mono hB)) (hR.below (hb1.mono hB)) hUW hUR (by simp; omega)).mono ?_); rintro e w2 ⟨rfl, hb2⟩)
  go_ret
  exact ⟨rfl, hb1.trans (hb2.mono (by simp))⟩

end Go.Proofs.Ytahdalejmfbkeaa
