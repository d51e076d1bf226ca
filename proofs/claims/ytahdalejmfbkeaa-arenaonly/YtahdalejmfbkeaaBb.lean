/- Walks: walk. -/
import Derived.Test.YtahdalejmfbkeaaBa
namespace Go.Proofs.Ytahdalejmfbkeaa
set_option linter.unusedSimpArgs false
set_option linter.unusedVariables false
open Go.RowKit Go.Shelf

theorem wds_nil {B : Nat} {w : World} {a : Option Addr} {l : List Int} (h : l.length = 0) : Wds B w a l := ⟨by omega, fun hne => absurd (List.eq_nil_of_length_eq_zero h) hne⟩

def WalkRes (ws : List Int) (w0 : World) (B mb : Nat) (e : Ending) (W : World) : Prop :=
  (splitR ws = none ∧ e = .returned (.int .i64 4) ∧ ∃ D vs vf es M, D.length ≤ 256 ∧ Rowd W w0 B mb D vs vf es M) ∨ ∃ fs vs vf es M, splitR ws = some fs ∧ e = .returned (.int .i64 0) ∧ Rowd W w0 B mb fs vs vf es M

set_option maxRecDepth 100000 in
set_option maxHeartbeats 2000000 in
theorem walk_c (a : Option Addr) (cap : Nat) (ws : List Int) (B mb : Nat) (w0 W : World) (vs0 vf0 : Value) (es0 : List Value) (M0 : DataW Unit) (hl : Wds B w0 a ws) (hU : U64 ws) (hn : ws.length ≤ 256) (hcap : ws.length ≤ cap)
    (hB : B ≤ mb) (hb0 : Below mb w0 W) (hR0 : Rowd W w0 B mb [] vs0 vf0 es0 M0) :
    Calls Try.prog 49 #[.slice a ws.length cap, .func (.func 50) #[] #[.pointer (some ⟨mb + 1, 0, none⟩)]] W fun e w' => WalkRes ws w0 B mb e w' ∧ Below mb W w' := by
  go_enter Try.func49, Try.ntmps49
  go_wp2
  go_loopw [5] (fun i wr => ∃ D : List (List Int), Hid (SpAt ws D) ∧ i = .int .i64 (tot D : Nat) ∧ Hid (∃ vs vf es M, Rowd wr w0 B mb D vs vf es M) ∧ Below mb W wr) (fun i _ => ws.length - (intOf i).toNat)
  case atStart => exact ⟨[], hide (spAt_nil _), rfl, hide ⟨_, _, _, _, hR0⟩, Below.refl _ _⟩
  case round =>
    obtain ⟨D, Hsp, rfl, HR, hb⟩ := hrel
    have hle := (unhide Hsp).le
    have hDl := tot_len D
    have hlt0 : mb + 1 < wr.heap.size := by obtain ⟨vs, vf, es, M, h⟩ := unhide HR; exact h.box.lt
    have HRb : Hid (∀ W', Below wr.heap.size wr W' → ∃ D vs vf es M, D.length ≤ 256 ∧ Rowd W' w0 B mb D vs vf es M) := fun W' h => by obtain ⟨vs, vf, es, M, hr⟩ := unhide HR; exact ⟨_, _, _, _, _, by omega, hr.below h⟩
    by_cases hlt : tot D < ws.length
    · obtain ⟨b, off, rfl, hbB, hc⟩ := (hl.below ((hb0.trans hb).mono hB)).at hlt
      have hu := hU _ (List.getElem_mem hlt)
      have Hst := hide (fun h1 h2 => (unhide Hsp).step hlt h1 h2)
      have Hbad := hide (fun h => (unhide Hsp).bad hlt h)
      have Hsub := hide (hl.sub (tot D + 1) (wlen ws[tot D]))
      generalize ws[tot D] = x at *
      cases hk : unheadOk x
      · have HE := hide (uhE_bad hk)
        have Hn := hide (unhide Hbad (.inl hk))
        clear hk Hsub Hst Hbad Hsp
        generalize tot D = p at *
        go_wp2_with (go_at_call 55; go_must (refine (unhead_c x _ hu.1 hu.2).mono ?_); go_must (rintro e w3 ⟨he, hb3⟩; rw [unhide HE] at he; subst he))
        go_ret
        have hba := hb3.alloc (by have := hb3.size; omega) (.cells #[.int .i64 (uhL x), .bool (uhM x), .int .i64 (uhA x)] 64)
        exact ⟨.inl ⟨unhide Hn, rfl, unhide HRb _ hba⟩, hb.trans (hba.mono (by omega))⟩
      · have HE := hide (uhE_ok hk)
        have HL := hide (uhL_wlen hk)
        have h4 := wlen_le hk
        by_cases hend : tot D + 1 + wlen x ≤ ws.length
        · have Hst2 := hide (unhide Hst hk hend)
          have Hfl : Hid (((ws.drop (tot D + 1)).take (wlen x)).length = wlen x) := by show _ = _; rw [List.length_take, List.length_drop]; omega
          have Hcall : Hid (∀ ai ci W', Wds B w0 ai ((ws.drop (tot D + 1)).take (wlen x)) → Below wr.heap.size wr W' → Calls Try.prog 50 #[.int .i64 (tot D : Nat), .slice ai (wlen x) ci, .pointer (some ⟨mb + 1, 0, none⟩)] W' fun e W'' => e = .returned (.tuple #[]) ∧ (∃ vs vf es M, Rowd W'' w0 B mb (D ++ [(ws.drop (tot D + 1)).take (wlen x)]) vs vf es M) ∧ Below mb W' W'') := by
            intro ai ci W' hai hb'
            obtain ⟨vs, vf, es, M, hr⟩ := unhide HR
            have := split1_c mb B D ((ws.drop (tot D + 1)).take (wlen x)) ai ci vs vf es M W' w0 (hr.below hb') hai (by omega)
            rw [unhide Hfl] at this
            exact this
          clear hk Hst Hbad Hsp HR HRb
          generalize hpp : (ws.drop (tot D + 1)).take (wlen x) = f at *
          clear hpp
          generalize hD2 : D ++ [f] = D2 at *
          clear hD2
          generalize wlen x = n at *
          generalize tot D = p at *
          have w1 : IntKind.i64.wrap ((p : Int) + 1) = (p : Int) + 1 := by rw [IntKind.wrap_i64]; omega
          have w2 : IntKind.i64.wrap ((p : Int) + 1 + (n : Int)) = (p : Int) + 1 + (n : Int) := by rw [IntKind.wrap_i64]; omega
          have d1 : decide ((p : Int) + 1 + (n : Int) > (ws.length : Int)) = false := by simp; omega
          have d2 : decide ((ws.length : Int) < (p : Int) + 1 + (n : Int)) = false := by simp; omega
          by_cases hcp : cap = p + 1
          · subst hcp
            go_wp2_with (first
              | (go_at_call 55; go_must (refine (unhead_c x _ hu.1 hu.2).mono ?_); go_must (rintro e w3 ⟨he, hb3⟩; rw [unhide HE, unhide HL] at he; subst he; have hs3 := hb3.size))
              | fail)
            refine (unhide Hcall _ _ _ (by first | exact unhide Hsub | exact wds_nil (by have := unhide Hfl; omega)) (hb3.alloc hs3 _)).mono ?_
            rintro e w4 ⟨rfl, hR4, hb4⟩
            have HR4 := hide hR4
            clear hR4
            go_wp2
            go_roundw
            case rel => exact ⟨D2, hide (unhide Hst2).1, by rw [(unhide Hst2).2]; go_num, HR4, (hb.trans ((hb3.alloc hs3 _).mono (by omega))).trans hb4⟩
            case measure => simp [intOf]; omega
          · have hcp1 : p + 1 < cap := by omega
            go_wp2_with (first
              | (go_at_call 55; go_must (refine (unhead_c x _ hu.1 hu.2).mono ?_); go_must (rintro e w3 ⟨he, hb3⟩; rw [unhide HE, unhide HL] at he; subst he; have hs3 := hb3.size))
              | fail)
            refine (unhide Hcall _ _ _ (by first | exact unhide Hsub | exact wds_nil (by have := unhide Hfl; omega)) (hb3.alloc hs3 _)).mono ?_
            rintro e w4 ⟨rfl, hR4, hb4⟩
            have HR4 := hide hR4
            clear hR4
            go_wp2
            go_roundw
            case rel => exact ⟨D2, hide (unhide Hst2).1, by rw [(unhide Hst2).2]; go_num, HR4, (hb.trans ((hb3.alloc hs3 _).mono (by omega))).trans hb4⟩
            case measure => simp [intOf]; omega
        · have Hn := hide (unhide Hbad (.inr (by omega)))
          clear hk Hst Hbad Hsub Hsp
          generalize wlen x = n at *
          generalize tot D = p at *
          have w1 : IntKind.i64.wrap ((p : Int) + 1) = (p : Int) + 1 := by rw [IntKind.wrap_i64]; omega
          have w2 : IntKind.i64.wrap ((p : Int) + 1 + (n : Int)) = (p : Int) + 1 + (n : Int) := by rw [IntKind.wrap_i64]; omega
          have d2 : decide ((ws.length : Int) < (p : Int) + 1 + (n : Int)) = true := by simp; omega
          go_wp2_with (go_at_call 55; go_must (refine (unhead_c x _ hu.1 hu.2).mono ?_); go_must (rintro e w3 ⟨he, hb3⟩; rw [unhide HE, unhide HL] at he; subst he))
          go_ret
          have hba := hb3.alloc (by have := hb3.size; omega) (.cells #[.int .i64 (n : Int), .bool (uhM x), .int .i64 (uhA x)] 64)
          exact ⟨.inl ⟨unhide Hn, rfl, unhide HRb _ hba⟩, hb.trans (hba.mono (by omega))⟩
    · have Hfin := hide ((unhide Hsp).fin (by omega))
      generalize tot D = p at *
      go_wp2
      go_ret
      obtain ⟨vs, vf, es, M, hr⟩ := unhide HR
      exact ⟨.inr ⟨D, vs, vf, es, M, unhide Hfin, rfl, hr⟩, hb⟩

end Go.Proofs.Ytahdalejmfbkeaa
