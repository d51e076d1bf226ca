/- Walks: the document's Starts. -/
import Derived.Test.YtahdalejmfbkeaaAa
import Derived.Test.YtahdalejmfbkeaaVe
namespace Go.Proofs.Ytahdalejmfbkeaa
set_option linter.unusedSimpArgs false
set_option linter.unusedVariables false
open Go.RowKit

def StRes (ws : List Int) (e : Ending) (W : World) : Prop :=
  (splitR ws = none ∧ e = .returned (.tuple #[.slice none 0 0, .bool false])) ∨ ∃ fs a cap, splitR ws = some fs ∧ e = .returned (.tuple #[.slice a (stF 0 fs).length cap, .bool true]) ∧ Ints W.heap.size W a (stF 0 fs)

theorem uhE_bad {x : Int} (h : unheadOk x = false) : uhE x = 4 := by simp [uhE, h]
theorem uhE_ok {x : Int} (h : unheadOk x = true) : uhE x = 0 := by simp [uhE, h]

set_option maxRecDepth 100000 in
set_option maxHeartbeats 1000000 in
theorem rstarts_c (a : Option Addr) (cap : Nat) (ws : List Int) (B : Nat) (w : World) (hl : Wds B w a ws) (hU : U64 ws) (hB : B ≤ w.heap.size) (hn : ws.length ≤ 256) :
    Calls Try.prog 13 #[.slice a ws.length cap] w fun e w' => StRes ws e w' ∧ Below w.heap.size w w' := by
  obtain ⟨i0, hi, hz0, hz1, hz2⟩ := info_parts Try.info3
  go_enter Try.func13, Try.ntmps13
  go_wp2
  go_loopw [4, 5] (fun s i wr => ∃ D : List (List Int), Hid (SpAt ws D) ∧ i = .int .i64 (tot D : Nat) ∧ wr.ownsRow w.heap.size 3 1 s D.length (intsV (stF 0 D)) ∧ Below w.heap.size w wr) (fun _ i _ => ws.length - (intOf i).toNat)
  case atStart => exact ⟨[], hide (spAt_nil _), rfl, by simpa [intsV, stF] using World.ownsRow_nil _ _ _ _, Below.refl _ _⟩
  case round =>
    obtain ⟨D, Hsp, rfl, hown, hb⟩ := hrel
    have hsz := hb.size
    have hle := (unhide Hsp).le
    have hDl := tot_len D
    have Hsn : Hid (∀ f, intsV (stF 0 (D ++ [f])) = intsV (stF 0 D) ++ [.int .i64 (tot D : Nat)]) := fun f => by rw [stF_snoc, intsV_snoc, Nat.zero_add]
    by_cases hlt : tot D < ws.length
    · obtain ⟨b, off, rfl, hbB, hc⟩ := (hl.below (hb.mono hB)).at hlt
      have hu := hU _ (List.getElem_mem hlt)
      have Hst := hide (fun h1 h2 => (unhide Hsp).step hlt h1 h2)
      have Hbad := hide (fun h => (unhide Hsp).bad hlt h)
      generalize ws[tot D] = x at *
      generalize hp : tot D = p at *
      have Hp := hide hp
      clear hp Hsp
      cases hk : unheadOk x
      · have HE := hide (uhE_bad hk)
        have Hn := hide (unhide Hbad (.inl hk))
        clear hk
        go_wp2_with (go_at_call 30; go_must (refine (runhead_c x _ hu.1 hu.2).mono ?_); go_must (rintro e w3 ⟨he, hb3⟩; rw [unhide HE] at he; subst he))
        go_ret2
        exact ⟨.inl ⟨unhide Hn, rfl⟩, (hb.trans (hb3.mono (by omega))).alloc (by have := hb3.size; omega) _⟩
      · have HE := hide (uhE_ok hk)
        have HL := hide (uhL_wlen hk)
        have h4 := wlen_le hk
        by_cases hend : p + 1 + wlen x ≤ ws.length
        · have Hst2 := hide (unhide Hst hk hend)
          clear hk Hst Hbad
          generalize (ws.drop (p + 1)).take (wlen x) = f at *
          generalize wlen x = n at *
          go_wp2_with (first
            | (go_at_call 30; go_must (refine (runhead_c x _ hu.1 hu.2).mono ?_); go_must (rintro e w3 ⟨he, hb3⟩; rw [unhide HE, unhide HL] at he; subst he; have hs3 := hb3.size; have hown3 := ownsRow_below hown hb3))
            | (at_builtin; go_must (refine wpList_append_own _ rfl _ _ 27 rfl w.heap.size 3 i0 _ 1 8 Try.underlying27 hi hz0 hz1 hz2 rfl (by decide) _ _ _ rfl ((hown3.alloc _).alloc _) ⟨w3.heap.size + 1, 0, none⟩ 1 1 [.int .i64 (p : Int)] rfl rfl (cell_one_at _ _ _ _ (by simp)) (by simp [Value.oneCell']) (by simp only [maxLen]; omega) (by omega) (by simp; omega) ?_); go_must (intro v' w1 hown' hgrow _; have hc6 := hgrow.cell (a := ⟨w3.heap.size, 0, none⟩) (v := .int .i64 (n : Int)) (by simp [go_sem]) (fun e => by have := (hown3.lt _ e.symm).2; simp at this))))
          go_roundw
          case rel =>
            refine ⟨D ++ [f], hide (unhide Hst2).1, by rw [(unhide Hst2).2]; go_num, ?_, ?_⟩
            · rw [unhide Hsn, List.length_append]; exact hown'
            · exact (((hb.trans (hb3.mono hsz)).alloc (by omega) _).alloc (by simp; omega) _).grown hgrow (by simp; omega) (fun q e => (hown3.lt q e).1)
          case measure => simp [intOf]; omega
        · have Hn := hide (unhide Hbad (.inr (by omega)))
          clear hk Hst Hbad
          generalize wlen x = n at *
          go_wp2_with (go_at_call 30; go_must (refine (runhead_c x _ hu.1 hu.2).mono ?_); go_must (rintro e w3 ⟨he, hb3⟩; rw [unhide HE, unhide HL] at he; subst he))
          go_ret2
          exact ⟨.inl ⟨unhide Hn, rfl⟩, (hb.trans (hb3.mono (by omega))).alloc (by have := hb3.size; omega) _⟩
    · have Hfin := hide ((unhide Hsp).fin (by omega))
      obtain ⟨a', cap', hv, hI, hr9⟩ := ints_of_owns hown (stF_len D 0).symm (by omega)
      clear hr9
      generalize tot D = p at *
      subst hv
      go_wp2
      go_ret2
      exact ⟨.inr ⟨D, a', cap', unhide Hfin, rfl, hI⟩, hb⟩

end Go.Proofs.Ytahdalejmfbkeaa
