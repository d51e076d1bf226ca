/- Walks: values. -/
import Derived.Test.YtahdalejmfbkeaaBc
import Derived.OwnWalk
import Derived.Laws.OwnMore
namespace Go.Proofs.Ytahdalejmfbkeaa
set_option linter.unusedSimpArgs false
set_option linter.unusedVariables false
open Go.RowKit Go.Shelf

/-- A made row lies in one new block. -/
theorem wpList_make_at {P : Program} (w : World) {ops : Array Oper} {rest : List Oper} {o : Oper} {a : Act} {Q : Exit → Act → World → Prop}
    (hg : o.guard = none) (l c : Operand) (t : TypeId) (hop : o.op = Op.makeSlice t l c)
    (base : Nat) (e : TypeId) (i : TypeInfo) (z : Value) (size : Nat) (h1 : P.underlying t = some (.slice e)) (h2 : P.info? e = some i) (h3 : i.zero = some z) (h4 : i.size = size)
    (kl kc : IntKind) (L C : Int) (n : Nat) (hl : a.eval l = .int kl L) (hc : a.eval c = .int kc C) (hL : L = (n : Int)) (hC : C = (n : Int)) (b2 : i.bytes * n ≤ 281474976710656) (b3 : n ≤ maxLen) (b4 : base ≤ w.heap.size)
    (hK : ∀ w', w'.ownsRow base e size (.slice (some ⟨w.heap.size, 0, none⟩) n n) n (madeCells z.cells (n * size)).toList → w.grownBy w' none → w'.heap.size = w.heap.size + 1 → wpList P ops Q rest (a.put o.dst (.slice (some ⟨w.heap.size, 0, none⟩) n n)) w') :
    wpList P ops Q (o :: rest) a w := by
  refine wpList_plain hg fun K hK' => ?_
  subst h4
  have h63' : (n : Int) ≤ 9223372036854775807 := by
    have h := b3
    simp [maxLen] at h
    omega
  have hb' : (i.bytes : Int) * (n : Int) ≤ 281474976710656 := by
    have h : ((i.bytes * n : Nat) : Int) ≤ 281474976710656 := by omega
    rwa [Int.natCast_mul] at h
  have hr := run_make (P := P) w t e i z h1 h2 h3 kl kc n n (by omega) (Int.le_refl _) hb' h63'
  simp only [Int.toNat_natCast] at hr
  subst hL
  subst hC
  unfold Oper.wp
  simp [execOp, hop, hl, hc, hr, Result.andThen]
  exact hK' _ _ (hK _ (World.ownsRow_lit w _ n b4 b3 (size_madeCells _ _)) (World.grownBy_alloc w _ none) (by simp))

theorem cellRow_at {W : World} {base gb n cap k size : Nat} {e : TypeId} {vs : List Value} {u : Value} (h : W.ownsRow base e size (.slice (some ⟨gb, 0, none⟩) n cap) n vs) (hk : vs[k]? = some u) : W.cell? ⟨gb, k, none⟩ = some u := by
  have := h.cells (g := gb) rfl k u hk
  have hadd : (⟨gb, 0, none⟩ : Addr).add k = ⟨gb, k, none⟩ := by unfold Addr.add; split <;> simp_all
  rwa [hadd] at this

theorem take_setv2 {cs : List Value} {k : Nat} (h : k * 2 + 1 < cs.length) (a b : Value) : ((cs.set (k * 2) a).set (k * 2 + 1) b).take ((k + 1) * 2) = cs.take (k * 2) ++ [a, b] := by
  refine List.ext_getElem? fun j => ?_
  rw [List.getElem?_take]
  by_cases h1 : j < k * 2
  · rw [if_pos (by omega), List.getElem?_set_ne (by omega), List.getElem?_set_ne (by omega), List.getElem?_append_left (by simp; omega), List.getElem?_take, if_pos h1]
  · have hl : (cs.take (k * 2)).length = k * 2 := by rw [List.length_take]; omega
    rw [List.getElem?_append_right (by omega), hl]
    by_cases h2 : j = k * 2
    · subst h2
      rw [if_pos (by omega), List.getElem?_set_ne (by omega), List.getElem?_set_self (by omega)]
      simp
    · by_cases h3 : j = k * 2 + 1
      · subst h3
        rw [if_pos (by omega), List.getElem?_set_self (by simp; omega)]
        simp
      · rw [if_neg (by omega), List.getElem?_eq_none (by simp; omega)]

theorem map_below {w w' : World} {B mb n : Nat} {M : DataW Unit} (h : w.ownsMap Try.prog 3 (plainElem Try.prog 3) mb n M) (hb : Below B w w') (hlt : mb < B) : w'.ownsMap Try.prog 3 (plainElem Try.prog 3) mb n M := by
  obtain ⟨es, clock, hbk, F, hs, hD⟩ := h
  exact ⟨es, clock, (hb.block mb hlt).trans hbk, F, hs, hD⟩

theorem placeD_at {M : DataW Unit} {st : List Int} (h : PlaceD M st) {x : Int} (hx : x ∈ st) : M.atKey (.int .i64 x) (.lit (.int .i64 0)) = .lit (.int .i64 (placeOf st x)) := by
  have hi := List.idxOf_lt_length_iff.2 hx
  have hg := List.getElem_idxOf hi
  rw [placeOf, if_pos hx]
  exact h.2.2 _ x (by rw [List.getElem?_eq_getElem hi, hg])

theorem unRef_rng {x : Int} (h0 : 0 ≤ x) (h : unRef x = true) : 0 ≤ unNum x ∧ unNum x < 256 := by
  simp [unRef] at h
  unfold unNum
  rw [if_pos h.1, if_pos h.2]
  omega

def ValRes (ws st : List Int) (base : Nat) (e : Ending) (W : World) : Prop :=
  (ws.all (okW st) = false ∧ e = .returned (.tuple #[.slice none 0 0, .int .i64 2])) ∨ (ws.all (okW st) = true ∧ ∃ a' cap', e = .returned (.tuple #[.slice a' (ws.map (valW st)).length cap', .int .i64 0]) ∧ Vals W.heap.size W a' (ws.map (valW st)) ∧ Hid (∀ b off, a' = some ⟨b, off, none⟩ → base ≤ b))

set_option maxRecDepth 100000 in
set_option maxHeartbeats 2000000 in
theorem aval_c (va : Option Addr) (vl vc : Nat) (fa : Option Addr) (fl fc : Nat) (mb n : Nat) (M : DataW Unit) (a : Option Addr) (cap : Nat) (ws st : List Int) (B : Nat) (w : World) (hl : Wds B w a ws) (hU : U64 ws) (hB : B ≤ w.heap.size) (hn : ws.length ≤ 256)
    (hmp : w.ownsMap Try.prog 3 (plainElem Try.prog 3) mb n M) (hpl : PlaceD M st) :
    Calls Try.prog 51 #[.agg #[.slice va vl vc, .slice fa fl fc, .map (some mb)], .slice a ws.length cap] w fun e w' => ValRes ws st w.heap.size e w' ∧ Below w.heap.size w w' := by
  obtain ⟨i0, hi, hz0, hz1, hz2⟩ := info_parts Try.info59'
  go_enter Try.func51, Try.ntmps51
  go_wp2_with (at_make; go_must (refine wpList_make_at _ rfl _ _ 31 rfl (w.heap.size + 1) 59 i0 _ 2 Try.underlying31 hi hz0 hz1 .i64 .i64 _ _ ws.length rfl rfl rfl rfl (by rw [hz2]; omega) (by simp only [maxLen]; omega) (by simp) ?_); go_must (intro w5 hown5 hg5 hs5))
  generalize (madeCells _ _).toList = cs0 at *
  simp only [World.size_alloc] at hs5 hown5
  have hb5 : Below w.heap.size w w5 := ((Below.refl w.heap.size w).alloc (Nat.le_refl _) _).grown hg5 (by simp) (fun k e => by cases e)
  have b2 : w5.cell? ⟨w.heap.size, 2, none⟩ = some (.map (some mb)) := hg5.cell (by simp [go_sem]) (by simp)
  have hmp5 := (hmp.alloc (.cells #[.slice va vl vc, .slice fa fl fc, .map (some mb)] 79)).kept hg5 (by simp)
  have hmb : mb < w.heap.size := by obtain ⟨_, _, h, _⟩ := hmp; exact (Array.getElem?_eq_some_iff.1 h).1
  have hse' : w.heap.size + 2 ≤ w5.heap.size := by omega
  clear hs5 hg5 hmp
  go_loopw [18] (fun i wr => ∃ (k : Nat) (cs : List Value), k ≤ ws.length ∧ i = .int .i64 k ∧ wr.ownsRow (w.heap.size + 1) 59 2 (.slice (some ⟨w.heap.size + 1, 0, none⟩) ws.length ws.length) ws.length cs ∧ Hid (cs.take (k * 2) = cellsV ((ws.map (valW st)).take k)) ∧ Hid ((ws.take k).all (okW st) = true) ∧ Below (w.heap.size + 1) w5 wr) (fun i _ => ws.length - (intOf i).toNat)
  case atStart => exact ⟨0, cs0, Nat.zero_le _, rfl, hown5, hide (by simp [cellsV]), hide (by simp), Below.refl _ _⟩
  case round =>
    clear hown5
    obtain ⟨k, cs, hk, rfl, hown, Hcs, Ha, hb⟩ := hrel
    have hsz := hb.size
    have hbw : Below w.heap.size w wr := hb5.trans (hb.mono (by omega))
    have hl0 := hown.1
    have c2 := (hb.cell (p := ⟨w.heap.size, 2, none⟩) (by simp)).trans b2
    have hmpr : wr.ownsMap Try.prog 3 (plainElem Try.prog 3) mb n M := map_below hmp5 hb (by omega)
    by_cases hlt : k < ws.length
    · obtain ⟨b, off, rfl, hbB, hc⟩ := (hl.below (hbw.mono hB)).at hlt
      have hu := hU _ (List.getElem_mem hlt)
      have HT := hide (fun r n => cells_take_succ (st := st) hlt (r := r) (n := n))
      have HA := hide (fun hp => all_take (p := okW st) hlt (unhide Ha) hp)
      have HB := hide (fun hp => all_not (p := okW st) hlt hp)
      generalize ws[k] = x at *
      obtain ⟨u1, hu1⟩ : ∃ u, cs[k * 2]? = some u := ⟨cs[k * 2]'(by omega), List.getElem?_eq_getElem _⟩
      obtain ⟨u2, hu2⟩ : ∃ u, cs[k * 2 + 1]? = some u := ⟨cs[k * 2 + 1]'(by omega), List.getElem?_eq_getElem _⟩
      have Hl0 := hide hl0
      have Hlast : Hid (∀ (W : World) r m, W.ownsRow (w.heap.size + 1) 59 2 (.slice (some ⟨w.heap.size + 1, 0, none⟩) ws.length ws.length) ws.length cs → valW st x = (r, m) →
          ∃ cs', ((W.setCell ⟨w.heap.size + 1, k * 2, none⟩ (.bool r)).setCell ⟨w.heap.size + 1, k * 2 + 1, none⟩ (.int .i64 m)).ownsRow (w.heap.size + 1) 59 2 (.slice (some ⟨w.heap.size + 1, 0, none⟩) ws.length ws.length) ws.length cs' ∧ cs'.take ((k + 1) * 2) = cellsV ((ws.map (valW st)).take (k + 1))) := by
        intro W r m hW hv
        refine ⟨_, ((hW.stored (k * 2) (.bool r)).1.stored (k * 2 + 1) (.int .i64 m)).1, ?_⟩
        rw [take_setv2 (by have := unhide Hl0; omega), unhide HT r m hv, unhide Hcs]
      clear hl0 HT Hcs
      by_cases hE : unErr x = 0
      · have HE := hide hE
        cases hr : unRef x
        · have Hr := hide hr
          have Hnx := hide (unhide HA (by simp [okW, hE, hr]))
          have Hl := hide (fun W hW => unhide Hlast W _ _ hW (valW_num hr))
          clear hE hr HA HB Hlast
          go_wp2_with fail
          refine (unpack_c x _ hu.1 hu.2).mono ?_
          rintro e w3 ⟨he, hb3⟩
          rw [unhide Hr, unhide HE] at he
          subst he
          have hs3 := hb3.size
          have hown3 := ownsRow_below hown hb3
          have x1 := cellRow_at hown3 hu1
          have x2 := cellRow_at hown3 hu2
          have y1 := hown3.frozenAt (k * 2)
          have y2 := hown3.frozenAt (k * 2 + 1)
          have hlt3 : w.heap.size + 1 < w3.heap.size := by omega
          have HL3 := hide (unhide Hl _ hown3)
          clear hown3 hown
          go_wp2
          go_roundw
          case rel =>
            obtain ⟨cs', h1, h2⟩ := unhide HL3
            refine ⟨k + 1, cs', by omega, by go_num, h1.alloc _, hide h2, Hnx, ?_⟩
            exact (((hb.trans (hb3.mono (by omega))).setCell (p := ⟨w.heap.size + 1, k * 2, none⟩) (by simp) _).setCell (p := ⟨w.heap.size + 1, k * 2 + 1, none⟩) (by simp) _).alloc (by simp [World.setCell]; omega) _
          case measure => simp [intOf]; omega
        · have Hr := hide hr
          have hrg := unRef_rng hu.1 hr
          have Hkey := hide (Maps.keyOf_int_mk Try.underlying3 (wf_i64 (x := unNum x) (by omega) (by omega)))
          have hhas := hpl.1 (unNum x)
          by_cases hm : unNum x ∈ st
          · have Hnx := hide (unhide HA (by simp [okW, hE, hr, hm]))
            have Hl := hide (fun W hW => unhide Hlast W _ _ hW (valW_ref hr))
            have Hat := hide (placeD_at hpl hm)
            have hhas' : Maps.has M (.int .i64 (unNum x)) = true := by rw [hhas]; simpa using hm
            clear hE hr HA HB Hlast hhas hm
            go_wp2_with fail
            refine (unpack_c x _ hu.1 hu.2).mono ?_
            rintro e w3 ⟨he, hb3⟩
            rw [unhide Hr, unhide HE] at he
            subst he
            have hs3 := hb3.size
            have hlt3 : w.heap.size + 1 < w3.heap.size := by omega
            have hlt4 : w.heap.size < w3.heap.size := by omega
            have hmp3 := (map_below hmpr hb3 (by omega)).alloc (.cells #[.bool true, .int .i64 (unNum x)] 59)
            have d2 := (hb3.cell (p := ⟨w.heap.size, 2, none⟩) (by simp; omega)).trans c2
            have hown3 := ownsRow_below hown hb3
            have x1 := cellRow_at hown3 hu1
            have x2 := cellRow_at hown3 hu2
            have y1 := hown3.frozenAt (k * 2)
            have y2 := hown3.frozenAt (k * 2 + 1)
            have HL3 := hide (unhide Hl _ hown3)
            clear hown3 hown
            go_wp2_with (at_lookup; go_must (refine wpList_lookup_own_ok_int _ rfl _ _ 68 rfl 3 3 .i64 (Maps.int_keyed Try.underlying3) Try.underlying68 Try.underlying3 (Try.zeroValue3 _) mb _ M rfl hmp3 _ _ rfl (unhide Hkey) ?_); go_must (intro c hat hwc; rw [unhide Hat] at hat; injection hat with hat; injection hat with _ hat; subst hat; clear hwc))
            go_roundw
            case rel =>
              obtain ⟨cs', h1, h2⟩ := unhide HL3
              refine ⟨k + 1, cs', by omega, by go_num, h1.alloc _, hide h2, Hnx, ?_⟩
              exact (((hb.trans (hb3.mono (by omega))).setCell (p := ⟨w.heap.size + 1, k * 2, none⟩) (by simp) _).setCell (p := ⟨w.heap.size + 1, k * 2 + 1, none⟩) (by simp) _).alloc (by simp [World.setCell]; omega) _
            case measure => simp [intOf]; omega
          · have Hno := hide (unhide HB (by simp [okW, hE, hr, hm]))
            have hhas' : Maps.has M (.int .i64 (unNum x)) = false := by rw [hhas]; simpa using hm
            clear hE hr HA HB Hlast hhas hm
            go_wp2_with fail
            refine (unpack_c x _ hu.1 hu.2).mono ?_
            rintro e w3 ⟨he, hb3⟩
            rw [unhide Hr, unhide HE] at he
            subst he
            have hs3 := hb3.size
            have hmp3 := (map_below hmpr hb3 (by omega)).alloc (.cells #[.bool true, .int .i64 (unNum x)] 59)
            have d2 := (hb3.cell (p := ⟨w.heap.size, 2, none⟩) (by simp; omega)).trans c2
            have hlt3 : w.heap.size + 1 < w3.heap.size := by omega
            have hlt4 : w.heap.size < w3.heap.size := by omega
            go_wp2_with (at_lookup; go_must (refine wpList_lookup_own_ok_int _ rfl _ _ 68 rfl 3 3 .i64 (Maps.int_keyed Try.underlying3) Try.underlying68 Try.underlying3 (Try.zeroValue3 _) mb _ M rfl hmp3 _ _ rfl (unhide Hkey) ?_); go_must (intro c hat hwc; clear hwc hat))
            go_ret2
            exact ⟨.inl ⟨unhide Hno, rfl⟩, (hbw.trans (hb3.mono (by omega))).alloc (by omega) _⟩
      · have HE := hide (unErr_two hE)
        have Hno := hide (unhide HB (by simp [okW, hE]))
        clear hE HA HB Hlast
        go_wp2_with (go_at_call 56; go_must (refine (unpack_c x _ hu.1 hu.2).mono ?_); go_must (rintro e w3 ⟨he, hb3⟩; rw [unhide HE] at he; subst he; have hs3 := hb3.size))
        go_ret2
        exact ⟨.inl ⟨unhide Hno, rfl⟩, (hbw.trans (hb3.mono (by omega))).alloc (by omega) _⟩
    · obtain rfl : k = ws.length := by omega
      have ha := unhide Ha
      have hcs := unhide Hcs
      rw [List.take_length] at ha
      rw [List.take_of_length_le (by omega), List.take_of_length_le (by simp)] at hcs
      subst hcs
      obtain ⟨a', cap', hv, hV, hr9⟩ := vals_of_owns hown (by simp) (by omega)
      have Hr9 := hide hr9
      have Hv := hide hv
      have Ha2 := hide ha
      clear hr9 ha hv hl0
      go_wp2
      go_ret2
      exact ⟨.inr ⟨unhide Ha2, a', cap', by rw [unhide Hv]; rfl, hV, hide (fun b off e => by have := unhide Hr9 b off e; omega)⟩, hbw⟩

end Go.Proofs.Ytahdalejmfbkeaa
