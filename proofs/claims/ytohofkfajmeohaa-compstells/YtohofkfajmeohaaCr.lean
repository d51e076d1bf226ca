/- Walks: the document's answer: Ways. -/
import Derived.Test.YtohofkfajmeohaaProg
import Derived.Test.YtohofkfajmeohaaMem
import Derived.Test.YtohofkfajmeohaaCq
import Derived.Test.YtohofkfajmeohaaWb
import Derived.Test.YtohofkfajmeohaaWz
namespace Go.Proofs.Ytohofkfajmeohaa
set_option linter.unusedSimpArgs false
set_option linter.unusedVariables false
open Go.RowKit

theorem Try.info4 : (Try.prog.info? 4).map (fun i => (i.zero, i.size, i.bytes)) = some (some (.bool false), 1, 1) := by kernel_rfl

theorem mul24 {x n : Nat} (hx : x ≤ 24) (hn : n ≤ 24) : x * n ≤ 576 := Nat.le_trans (Nat.mul_le_mul hx hn) (by omega)

theorem wrap_mul {x n p : Nat} (hx : x ≤ 24) (hn : n ≤ 24) (hp : x * n = p) : IntKind.i64.wrap ((x : Int) * (n : Int)) = (p : Int) := by
  have h := mul24 hx hn
  rw [← Int.natCast_mul, IntKind.wrap_i64, hp]
  omega

theorem grownBy_of_below' {W W' : World} (hb : Below W.heap.size W W') : W.grownBy W' none := ⟨hb.os, hb.tape, hb.output, hb.size, fun k hk _ => hb.block k hk⟩
theorem own_none' (v : Value) : v.ownBlock = none ∨ v.ownBlock ≠ none := by cases v.ownBlock <;> simp

theorem row_cell {W : World} {base tb q k : Nat} {e : TypeId} {vs : List Value} {u : Value} (h : W.ownsRow base e 1 (.slice (some ⟨tb, 0, none⟩) q q) q vs) (hk : vs[k]? = some u) : W.cell? ⟨tb, k, none⟩ = some u := by
  have := h.cells (g := tb) rfl k u hk
  have hadd : (⟨tb, 0, none⟩ : Addr).add k = ⟨tb, k, none⟩ := by unfold Addr.add; split <;> simp_all
  rwa [hadd] at this

set_option maxRecDepth 100000 in
set_option maxHeartbeats 8000000 in
theorem ways_c (ao ar : Option Addr) (co cr : Nat) (g : Gr) (B : Nat) (w : World) (ho : Objs B w ao g.objs) (hB : B ≤ w.heap.size) (hG : Good g) :
    Calls Try.prog 9 #[.agg #[.slice ao g.objs.length co, .slice ar g.roots.length cr]] w fun e w' => ∃ b q, q = g.objs.length * g.objs.length ∧ e = .returned (.slice (some ⟨b, 0, none⟩) q q) ∧ b < w'.heap.size ∧ (∀ x y, x < g.objs.length → y < g.objs.length → w'.cell? ⟨b, x * g.objs.length + y, none⟩ = some (.bool (decide ((y : Int) ∈ ledL g x)))) ∧ Below w.heap.size w w' := by
  obtain ⟨i0, hi, hz0, hz1, hz2⟩ := info_parts Try.info4
  have hn24 := hG.n24
  have hb1 := (Below.refl w.heap.size w).alloc (Nat.le_refl _) (.cells #[.slice ao g.objs.length co, .slice ar g.roots.length cr] 25)
  have hc0 : (w.alloc (.cells #[.slice ao g.objs.length co, .slice ar g.roots.length cr] 25)).cell? ⟨w.heap.size, 0, none⟩ = some (.slice ao g.objs.length co) := by simp [go_sem]
  have Hsz : Hid ((w.alloc (.cells #[.slice ao g.objs.length co, .slice ar g.roots.length cr] 25)).heap.size = w.heap.size + 1) := by show _ = _; simp
  obtain ⟨q, hq⟩ : ∃ q, g.objs.length * g.objs.length = q := ⟨_, rfl⟩
  have hnn := wrap_mul hn24 hn24 hq
  have hq576 : q ≤ 576 := by have := mul24 hn24 hn24; omega
  have Hq := hide hq
  clear hq
  go_enter Try.func9, Try.ntmps9
  go_wp2_with (at_make; go_must (refine wpList_make_full _ rfl _ _ 34 rfl (w.heap.size + 1) 4 i0 _ 1 Try.underlying34 hi hz0 hz1 .i64 .i64 _ _ q rfl rfl rfl rfl (by rw [hz2]; omega) (by simp only [maxLen]; omega) (by simp) ?_); go_must (intro w5 hown5 hg5))
  have hs5 := hg5.size
  rw [unhide Hsz] at hs5
  have hc5 : w5.cell? ⟨w.heap.size, 0, none⟩ = some (.slice ao g.objs.length co) := (World.cell?_of_block (a := ⟨w.heap.size, 0, none⟩) (hg5.block w.heap.size (by rw [unhide Hsz]; omega) (by simp))).trans hc0
  have hb5 : Below w.heap.size w w5 := hb1.grown hg5 (by rw [unhide Hsz]; omega) (fun k e => by cases e)
  generalize (madeCells _ _).toList = cs0 at *
  clear hb1 hc0 hg5 hnn
  obtain ⟨tb, htb⟩ : ∃ tb, w.heap.size + 1 = tb := ⟨_, rfl⟩
  have hown5 : w5.ownsRow (w.heap.size + 1) 4 1 (.slice (some ⟨w.heap.size + 1, 0, none⟩) q q) q cs0 := by rw [unhide Hsz] at hown5; exact hown5
  rw [htb] at hown5
  rw [htb]
  have htb1 : w.heap.size < tb := by omega
  clear htb
  go_loopw [5] (fun i wr => ∃ (k : Nat) (vs : List Value), k ≤ g.objs.length ∧ i = .int .i64 k ∧ wr.ownsRow tb 4 1 (.slice (some ⟨tb, 0, none⟩) q q) q vs ∧ (∀ x y, x < g.objs.length → y < g.objs.length → x < k → vs[x * g.objs.length + y]? = some (.bool (refB g x y))) ∧ Below tb w5 wr) (fun i _ => g.objs.length - (intOf i).toNat)
  case atStart => exact ⟨0, cs0, Nat.zero_le _, rfl, hown5, fun x y _ _ h => by omega, Below.refl _ _⟩
  case round =>
    clear hown5
    obtain ⟨i, vs, hik, rfl, hown, hvs, hb⟩ := hrel
    have Hvs := hide hvs
    clear hvs
    by_cases hlt : i < g.objs.length
    · obtain ⟨p, hp⟩ : ∃ p, i * g.objs.length = p := ⟨_, rfl⟩
      have hwm := wrap_mul (by omega) hn24 hp
      have hp576 : p ≤ 576 := by have := mul24 (x := i) (by omega) hn24; omega
      have Hp := hide hp
      have Hidx : Hid (∀ y, y < g.objs.length → p + y < q) := fun y hy => by have := idx_lt hlt hy; rw [← unhide Hq, ← unhide Hp]; exact this
      clear hp
      go_wp2
      go_loopw [6] (fun j wr => ∃ (k : Nat) (vs : List Value), k ≤ g.objs.length ∧ j = .int .i64 k ∧ wr.ownsRow tb 4 1 (.slice (some ⟨tb, 0, none⟩) q q) q vs ∧ (∀ x y, x < g.objs.length → y < g.objs.length → (x < i ∨ x = i ∧ y < k) → vs[x * g.objs.length + y]? = some (.bool (refB g x y))) ∧ Below tb w5 wr) (fun j _ => g.objs.length - (intOf j).toNat)
      case atStart => exact ⟨0, vs, Nat.zero_le _, rfl, hown, fun x y hx hy h => unhide Hvs x y hx hy (by omega), hb⟩
      case round =>
        clear hown Hvs hb
        obtain ⟨j, vs, hjk, rfl, hown, hvs, hb⟩ := hrel
        have Hvs := hide hvs
        clear hvs
        have hsz := hb.size
        have hx0 := (hb.cell (p := ⟨w.heap.size, 0, none⟩) (by simp; omega)).trans hc5
        have hbw : Below B w wr := (hb5.mono hB).trans (hb.mono (by omega))
        by_cases hltj : j < g.objs.length
        · have hpj := unhide Hidx j hltj
          obtain ⟨b, off, ai, ci, rfl, hbB, hcb, hva⟩ := (ho.below hbw).at hlt
          have Hrf : Hid (refers g.objs[i] (j : Int) = refB g i j) := by show _ = refers (fieldsOf g i) j; simp [fieldsOf, hlt]
          have hl0 := hown.1
          have hc1 : ∃ u, wr.cell? ⟨tb, p + j, none⟩ = some u := ⟨vs[p + j]'(by omega), row_cell hown (List.getElem?_eq_getElem _)⟩
          obtain ⟨u0, hc1⟩ := hc1
          have hf1 := hown.frozenAt (p + j)
          have hpI : (p : Int) + (j : Int) < (q : Int) := by omega
          have hva2 := hva.mono (B' := wr.heap.size) (by omega)
          obtain ⟨fs, hfs⟩ : ∃ fs, g.objs[i] = fs := ⟨_, rfl⟩
          rw [hfs] at hcb hva hva2 Hrf
          clear hfs
          go_wp2_with fail
          refine (refers_c _ _ fs (j : Int) wr.heap.size _ hva2 (Nat.le_refl _)).mono ?_
          rintro e wa ⟨rfl, hba⟩
          rw [unhide Hrf]
          have hsa := hba.size
          have hgl : tb < wr.heap.size := (hown.lt tb rfl).2
          have hown2 := hown.kept (grownBy_of_below' hba) (own_none' _)
          have hc2 := (hba.cell (p := ⟨tb, p + j, none⟩) hgl).trans hc1
          have hf2 := (hba.frozen (p := ⟨tb, p + j, none⟩) hgl).trans hf1
          have hst := (hown2.stored (p + j) (.bool (refB g i j))).1
          have Hst := hide hst
          have hbst : Below tb w5 (wa.setCell ⟨tb, p + j, none⟩ (.bool (refB g i j))) := (hb.trans (hba.mono (by omega))).setCell (p := ⟨tb, p + j, none⟩) (Nat.le_refl _) _
          have Hl0 := hide hl0
          clear hst hc1 hf1 hl0
          go_wp2
          go_roundw
          case rel =>
            refine ⟨j + 1, _, by omega, by go_num, unhide Hst, fun x y hx hy hxy => ?_, hbst⟩
            by_cases e : x = i ∧ y = j
            · obtain ⟨rfl, rfl⟩ := e
              rw [unhide Hp, List.getElem?_set_self (by have := unhide Hl0; omega)]
            · rw [List.getElem?_set_ne (fun e' => e (idx_inj hy hltj (by rw [← e', unhide Hp])))]
              exact unhide Hvs x y hx hy (by omega)
          case measure => simp [intOf]; omega
        · obtain rfl : j = g.objs.length := by omega
          clear hx0
          go_wp2
          go_roundw
          case rel => exact ⟨i + 1, vs, by omega, by go_num, hown, fun x y hx hy hxy => unhide Hvs x y hx hy (by omega), hb⟩
          case measure => simp [intOf]; omega
    · obtain rfl : i = g.objs.length := by omega
      have hT0 : ∃ M, Tab g 0 0 0 M ∧ TabAt g.objs.length vs M := ⟨refB g, tab_start hG, fun x y hx hy => unhide Hvs x y hx hy hx⟩
      clear Hvs
      go_wp2
      go_loopw [7] (fun kv wr => ∃ (k : Nat) (vs : List Value), k ≤ g.objs.length ∧ kv = .int .i64 k ∧ wr.ownsRow tb 4 1 (.slice (some ⟨tb, 0, none⟩) q q) q vs ∧ (∃ M, Tab g k 0 0 M ∧ TabAt g.objs.length vs M) ∧ Below tb w5 wr) (fun kv _ => g.objs.length - (intOf kv).toNat)
      case atStart => exact ⟨0, vs, Nat.zero_le _, rfl, hown, hT0, hb⟩
      case round =>
        clear hown hT0 hb
        obtain ⟨k, vs, hk, rfl, hown, hT, hb⟩ := hrel
        by_cases hltk : k < g.objs.length
        · obtain ⟨pk, hpk⟩ : ∃ p, k * g.objs.length = p := ⟨_, rfl⟩
          have hwmk := wrap_mul (by omega) hn24 hpk
          have hpk576 : pk ≤ 576 := by have := mul24 (x := k) (by omega) hn24; omega
          have Hpk := hide hpk
          have Hidk : Hid (∀ y, y < g.objs.length → pk + y < q) := fun y hy => by have := idx_lt hltk hy; rw [← unhide Hq, ← unhide Hpk]; exact this
          clear hpk
          go_wp2
          go_loopw [8] (fun iv wr => ∃ (i : Nat) (vs : List Value), i ≤ g.objs.length ∧ iv = .int .i64 i ∧ wr.ownsRow tb 4 1 (.slice (some ⟨tb, 0, none⟩) q q) q vs ∧ (∃ M, Tab g k i 0 M ∧ TabAt g.objs.length vs M) ∧ Below tb w5 wr) (fun iv _ => g.objs.length - (intOf iv).toNat)
          case atStart => exact ⟨0, vs, Nat.zero_le _, rfl, hown, hT, hb⟩
          case round =>
            clear hown hT hb
            obtain ⟨i, vs, hi', rfl, hown, hT, hb⟩ := hrel
            by_cases hlti : i < g.objs.length
            · obtain ⟨pi, hpi⟩ : ∃ p, i * g.objs.length = p := ⟨_, rfl⟩
              have hwmi := wrap_mul (by omega) hn24 hpi
              have hpi576 : pi ≤ 576 := by have := mul24 (x := i) (by omega) hn24; omega
              have Hpi := hide hpi
              have Hidi : Hid (∀ y, y < g.objs.length → pi + y < q) := fun y hy => by have := idx_lt hlti hy; rw [← unhide Hq, ← unhide Hpi]; exact this
              clear hpi
              go_wp2
              go_loopw [9] (fun jv wr => ∃ (j : Nat) (vs : List Value), j ≤ g.objs.length ∧ jv = .int .i64 j ∧ wr.ownsRow tb 4 1 (.slice (some ⟨tb, 0, none⟩) q q) q vs ∧ (∃ M, Tab g k i j M ∧ TabAt g.objs.length vs M) ∧ Below tb w5 wr) (fun jv _ => g.objs.length - (intOf jv).toNat)
              case atStart => exact ⟨0, vs, Nat.zero_le _, rfl, hown, hT, hb⟩
              case round =>
                clear hown hT hb
                obtain ⟨j, vs, hj', rfl, hown, ⟨M, hT, hM⟩, hb⟩ := hrel
                by_cases hltj : j < g.objs.length
                · have hik := unhide Hidi k hltk
                  have hij := unhide Hidi j hltj
                  have hkj := unhide Hidk j hltj
                  have hikI : (pi : Int) + (k : Int) < (q : Int) := by omega
                  have hijI : (pi : Int) + (j : Int) < (q : Int) := by omega
                  have hkjI : (pk : Int) + (j : Int) < (q : Int) := by omega
                  have c1 := row_cell hown (hM i k hlti hltk)
                  have c2 := row_cell hown (hM k j hltk hltj)
                  have c3 := row_cell hown (hM i j hlti hltj)
                  rw [unhide Hpi] at c1 c3
                  rw [unhide Hpk] at c2
                  have hf3 := hown.frozenAt (pi + j)
                  have hT2 := hT.step hG hltk hlti hltj
                  have HT2 := hide hT2
                  have HM := hide hM
                  have Hl0 := hide hown.1
                  clear hT hM hT2
                  cases hmik : M i k
                  · rw [hmik] at c1
                    have Hmik := hide hmik
                    clear hmik
                    go_wp2
                    go_roundw
                    case rel => exact ⟨j + 1, vs, by omega, by go_num, hown, ⟨_, unhide HT2, fun x y hx hy => by rw [unhide Hmik]; simp only [Bool.false_and, Bool.and_false, Bool.or_false]; exact unhide HM x y hx hy⟩, hb⟩
                    case measure => simp [intOf]; omega
                  · rw [hmik] at c1
                    have Hmik := hide hmik
                    clear hmik
                    cases hmkj : M k j
                    · rw [hmkj] at c2
                      have Hmkj := hide hmkj
                      clear hmkj
                      go_wp2
                      go_roundw
                      case rel => exact ⟨j + 1, vs, by omega, by go_num, hown, ⟨_, unhide HT2, fun x y hx hy => by rw [unhide Hmkj]; simp only [Bool.and_false, Bool.or_false]; exact unhide HM x y hx hy⟩, hb⟩
                      case measure => simp [intOf]; omega
                    · rw [hmkj] at c2
                      have Hmkj := hide hmkj
                      clear hmkj
                      have hst := (hown.stored (pi + j) (.bool true)).1
                      have Hst := hide hst
                      have hbst := hb.setCell (p := ⟨tb, pi + j, none⟩) (Nat.le_refl _) (.bool true)
                      clear hst
                      go_wp2
                      go_roundw
                      case rel =>
                        refine ⟨j + 1, _, by omega, by go_num, unhide Hst, ⟨_, unhide HT2, fun x y hx hy => ?_⟩, hbst⟩
                        have := (unhide HM).set (by have := unhide Hl0; rw [unhide Hq]; omega) hlti hltj true x y hx hy
                        rw [unhide Hpi] at this
                        rw [this, unhide Hmik, unhide Hmkj]
                        by_cases e : x = i ∧ y = j <;> simp [e]
                      case measure => simp [intOf]; omega
                · obtain rfl : j = g.objs.length := by omega
                  have hT3 := hT.row
                  clear hT
                  go_wp2
                  go_roundw
                  case rel => exact ⟨i + 1, vs, by omega, by go_num, hown, ⟨M, hT3, hM⟩, hb⟩
                  case measure => simp [intOf]; omega
            · obtain rfl : i = g.objs.length := by omega
              obtain ⟨M, hT, hM⟩ := hT
              have hT3 := hT.round
              clear hT
              go_wp2
              go_roundw
              case rel => exact ⟨k + 1, vs, by omega, by go_num, hown, ⟨M, hT3, hM⟩, hb⟩
              case measure => simp [intOf]; omega
        · obtain rfl : k = g.objs.length := by omega
          obtain ⟨M, hT, hM⟩ := hT
          have Hd := hide (fun x y hx hy => hT.done hG (x := x) (y := y) hx hy)
          have HM := hide hM
          clear hT hM
          have hgl := (hown.lt tb rfl).2
          go_wp2
          go_ret
          refine ⟨tb, q, (unhide Hq).symm, rfl, hgl, fun x y hx hy => ?_, hb5.trans (hb.mono (by omega))⟩
          rw [← unhide Hd x y hx hy]
          exact row_cell hown (unhide HM x y hx hy)

end Go.Proofs.Ytohofkfajmeohaa
