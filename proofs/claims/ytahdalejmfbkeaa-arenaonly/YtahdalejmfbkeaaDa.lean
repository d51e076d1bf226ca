/- Walks: places, pack. -/
import Derived.Test.YtahdalejmfbkeaaBe
import Derived.Maps.OwnOps
namespace Go.Proofs.Ytahdalejmfbkeaa
set_option linter.unusedSimpArgs false
set_option linter.unusedVariables false
open Go.RowKit Go.Shelf

theorem tot_le5 {α : Type} : ∀ (L : List (List α)), (∀ l ∈ L, l.length ≤ 4) → tot L ≤ 5 * L.length
  | [], _ => by simp [tot]
  | l :: L, h => by
    have h1 := h l (by simp)
    have h2 := tot_le5 L (fun x hx => h x (by simp [hx]))
    rw [tot_cons]; simp only [List.length_cons]; omega

/-- The map tells where each object comes to stand. -/
def LocD (M : DataW Unit) (L : List (List V)) (k : Nat) : Prop := ∀ i : Nat, i < k → M.atKey (.int .i64 (i : Int)) (.lit (.int .i64 0)) = .lit (.int .i64 ((tot (L.take i) : Nat) : Int))

theorem locD_put {M : DataW Unit} {L : List (List V)} {k : Nat} (h : LocD M L k) (hM : Maps.IsMap M) : LocD (M.put (.int .i64 (k : Int)) (.lit (.int .i64 ((tot (L.take k) : Nat) : Int)))) L (k + 1) := by
  intro i hi
  have hk : WideAt.IsKeyLit (.int .i64 (k : Int)) := trivial
  by_cases e : i = k
  · subst e; rw [Maps.atKey_put_same hM hk]
  · rw [Maps.atKey_put_other (by simp; omega)]; exact h i (by omega)

def PlRes (L : List (List V)) (base : Nat) (e : Ending) (W : World) : Prop :=
  ∃ mb n M, e = .returned (.map (some mb)) ∧ base ≤ mb ∧ W.ownsMap Try.prog 3 (plainElem Try.prog 3) mb n M ∧ LocD M L L.length

set_option maxRecDepth 100000 in
set_option maxHeartbeats 2000000 in
theorem places_c (ao ar : Option Addr) (co nr cr : Nat) (L : List (List V)) (B : Nat) (w : World) (ho : Objs B w ao L) (hB : B ≤ w.heap.size) (h24 : L.length ≤ 24) (h4 : ∀ l ∈ L, l.length ≤ 4) :
    Calls Try.prog 33 #[.agg #[.slice ao L.length co, .slice ar nr cr]] w fun e w' => PlRes L w.heap.size e w' ∧ Below w.heap.size w w' := by
  have hmm := @run_makeMap Try.prog
  have htL := tot_le5 L h4
  have hmp0 := World.ownsMap_made (H := Unit) (w.alloc (.cells #[.slice ao L.length co, .slice ar nr cr] 33)) Try.prog 3 (plainElem Try.prog 3)
  simp only [World.size_alloc] at hmp0
  go_enter Try.func33, Try.ntmps33
  go_wp2
  clear hmm
  go_loopw [4, 10] (fun nx i wr => ∃ (k : Nat) (M : DataW Unit), k ≤ L.length ∧ i = .int .i64 k ∧ nx = .int .i64 (tot (L.take k) : Nat) ∧ wr.ownsMap Try.prog 3 (plainElem Try.prog 3) (w.heap.size + 1) k M ∧ Hid (LocD M L k) ∧ Below (w.heap.size + 1) (w.alloc (.cells #[.slice ao L.length co, .slice ar nr cr] 33)) wr) (fun _ i _ => L.length - (intOf i).toNat)
  case atStart => exact ⟨0, _, Nat.zero_le _, rfl, rfl, hmp0, hide (fun i h => by omega), (Below.refl _ _).alloc (by simp) _⟩
  case round =>
    clear hmp0
    obtain ⟨k, M, hk, rfl, rfl, hmp, Hloc, hb⟩ := hrel
    have hsz := hb.size
    simp only [World.size_alloc] at hsz
    have hbw : Below w.heap.size w wr := ((Below.refl _ _).alloc (Nat.le_refl _) _).trans (hb.mono (by omega))
    by_cases hlt : k < L.length
    · obtain ⟨b, off, ai, ci, rfl, hbB, hcb, _⟩ := (ho.below (hbw.mono hB)).at hlt
      have HN := hide (tot_take_succ hlt)
      have hle := tot_take_le L (k + 1)
      rw [unhide HN] at hle
      have Hput := hide (locD_put (unhide Hloc) hmp.isMap)
      have hf4 := h4 _ (List.getElem_mem hlt)
      have g0 : wr.cell? ⟨w.heap.size, 0, none⟩ = some (.slice (some ⟨b, off, none⟩) L.length co) := by rw [hb.cell (p := ⟨w.heap.size, 0, none⟩) (by simp)]; simp [go_sem]
      generalize L[k].length = n at *
      generalize tot (L.take k) = p at *
      have Hkey := hide (Maps.keyOf_int_mk Try.underlying3 (wf_i64 (x := (k : Int)) (by omega) (by omega)))
      have Hval := hide (show plainElem (H := Unit) Try.prog 3 (.int .i64 (p : Int)) = some (.lit (.int .i64 (p : Int)), []) from plainElem_int Try.underlying3 (wf_i64 (by omega) (by omega)))
      go_wp2_with (at_mapUpdate; go_must (refine wpList_mapUpdate_own _ rfl _ _ _ 68 rfl 3 3 (Maps.int_keyed Try.underlying3) Try.underlying68 _ (w.heap.size + 1) k M rfl hmp (by simp only [maxLen]; omega) _ _ _ rfl rfl (unhide Hkey) _ [] (unhide Hval) ?_); go_must (intro w1 hmap1 hg1; have hb1 := hb.grown hg1 (by omega) (fun q e => by injection e; omega); have hbw1 : Below w.heap.size w w1 := ((Below.refl w.heap.size w).alloc (Nat.le_refl _) _).trans (hb1.mono (by omega)); have g01 := hg1.cell g0 (by simp); have hcb1 := hg1.cell hcb (by simp; omega)))
      go_roundw
      case rel => exact ⟨k + 1, _, by omega, by go_num, by rw [unhide HN]; go_num, hmap1, Hput, hb1⟩
      case measure => simp [intOf]; omega
    · obtain rfl : k = L.length := by omega
      go_wp2
      go_ret
      exact ⟨⟨w.heap.size + 1, L.length, M, rfl, by omega, hmp, unhide Hloc⟩, hbw⟩

theorem packV_ref {L : List (List V)} {n : Int} (h0 : 0 ≤ n) (h1 : n < L.length) : packV (stF 0 L) (true, n) = packW true ((tot (L.take n.toNat) : Nat) : Int) := by
  have := stF_get L 0 n.toNat (by omega)
  simp [packV, List.getD_eq_getElem?_getD, this]
theorem packV_num {st : List Int} {n : Int} : packV st (false, n) = packW false n := by simp [packV]

theorem words_set {ws : List Int} {cs : List Value} {k : Nat} {x : Int} (hk : k < cs.length) (hkw : k < ws.length) (hx : ws[k] = x) (h : cs.take k = wordsV (ws.take k)) : (cs.set k (.int .u64 x)).take (k + 1) = wordsV (ws.take (k + 1)) := by
  rw [List.take_succ_eq_append_getElem hkw, wordsV_snoc, hx, ← h, List.take_succ_eq_append_getElem (by simpa using hk), List.getElem_set_self, List.take_set_of_le (Nat.le_refl _)]

def PkRes (ws : List Int) (base : Nat) (e : Ending) (W : World) : Prop :=
  e = .returned (.slice (some ⟨base, 0, none⟩) ws.length ws.length) ∧ W.ownsRow base 54 1 (.slice (some ⟨base, 0, none⟩) ws.length ws.length) ws.length (wordsV ws)

set_option maxRecDepth 100000 in
set_option maxHeartbeats 2000000 in
theorem apack_c (a : Option Addr) (cap : Nat) (l : List V) (L : List (List V)) (mb n : Nat) (M : DataW Unit) (B : Nat) (w : World) (hV : Vals B w a l) (hB : B ≤ w.heap.size) (hl : l.length ≤ 8) (hmp : w.ownsMap Try.prog 3 (plainElem Try.prog 3) mb n M) (hloc : LocD M L L.length) (hL : L.length ≤ 24)
    (hr : ∀ v ∈ l, v.1 = true → 0 ≤ v.2 ∧ v.2 < L.length) (hn : ∀ v ∈ l, v.1 = false → -9223372036854775808 ≤ v.2 ∧ v.2 ≤ 9223372036854775807) (ht : tot L ≤ 256) :
    Calls Try.prog 34 #[.slice a l.length cap, .map (some mb)] w fun e w' => PkRes (l.map (packV (stF 0 L))) w.heap.size e w' ∧ Below w.heap.size w w' := by
  obtain ⟨i0, hi, hz0, hz1, hz2⟩ := info_parts Try.info54
  have hmb : mb < w.heap.size := by obtain ⟨_, _, h, _⟩ := hmp; exact (Array.getElem?_eq_some_iff.1 h).1
  go_enter Try.func34, Try.ntmps34
  go_wp2_with (at_make; go_must (refine wpList_make_at _ rfl _ _ 22 rfl w.heap.size 54 i0 _ 1 Try.underlying22 hi hz0 hz1 .i64 .i64 _ _ l.length rfl rfl rfl rfl (by rw [hz2]; omega) (by simp only [maxLen]; omega) (Nat.le_refl _) ?_); go_must (intro w5 hown5 hg5 hs5))
  generalize (madeCells _ _).toList = cs0 at *
  have hb5 : Below w.heap.size w w5 := (Below.refl w.heap.size w).grown hg5 (Nat.le_refl _) (fun k e => by cases e)
  have hse' : w.heap.size + 1 ≤ w5.heap.size := by omega
  clear hs5 hg5
  go_loopw [13] (fun i wr => ∃ (k : Nat) (cs : List Value), k ≤ l.length ∧ i = .int .i64 k ∧ wr.ownsRow w.heap.size 54 1 (.slice (some ⟨w.heap.size, 0, none⟩) l.length l.length) l.length cs ∧ Hid (cs.take k = wordsV ((l.map (packV (stF 0 L))).take k)) ∧ Below w.heap.size w wr ∧ w.heap.size + 1 ≤ wr.heap.size) (fun i _ => l.length - (intOf i).toNat)
  case atStart => exact ⟨0, cs0, Nat.zero_le _, rfl, hown5, hide (by simp [wordsV]), hb5, hse'⟩
  case round =>
    clear hown5
    obtain ⟨k, cs, hk, rfl, hown, Hcs, hb, hse⟩ := hrel
    have hl0 := hown.1
    have hmpr : wr.ownsMap Try.prog 3 (plainElem Try.prog 3) mb n M := map_below hmp hb hmb
    by_cases hlt : k < l.length
    · obtain ⟨b, off, r, m, rfl, hbB, hc1, hc2, Hv⟩ := (hV.below (hb.mono hB)).at hlt
      have hmem : (r, m) ∈ l := by rw [← Hv.out]; exact List.getElem_mem hlt
      obtain ⟨u1, hu1⟩ : ∃ u, cs[k]? = some u := ⟨cs[k]'(by omega), List.getElem?_eq_getElem _⟩
      have Hlast : Hid (∀ (W : World) x, W.ownsRow w.heap.size 54 1 (.slice (some ⟨w.heap.size, 0, none⟩) l.length l.length) l.length cs → packV (stF 0 L) (r, m) = x →
          ∃ cs', (W.setCell ⟨w.heap.size, k, none⟩ (.int .u64 x)).ownsRow w.heap.size 54 1 (.slice (some ⟨w.heap.size, 0, none⟩) l.length l.length) l.length cs' ∧ cs'.take (k + 1) = wordsV ((l.map (packV (stF 0 L))).take (k + 1))) := by
        intro W x hW hx
        refine ⟨_, (hW.stored k (.int .u64 x)).1, words_set (by omega) (by simpa using hlt) ?_ (unhide Hcs)⟩
        rw [List.getElem_map, Hv.out, hx]
      clear hl0 Hcs Hv
      cases r
      · have hrng := hn _ hmem rfl
        have Hl := hide (fun W hW => unhide Hlast W _ hW packV_num)
        clear Hlast
        have Hc := hide (pack_c false m (wr.alloc (.cells #[.bool false, .int .i64 m] 59)) hrng.1 hrng.2)
        go_wp2_with fail
        refine (unhide Hc).mono ?_
        rintro e w3 ⟨he, hb3⟩
        subst he
        simp only [World.size_alloc] at hb3
        have hs3 := hb3.size
        simp only [World.size_alloc] at hs3
        have hown3 := ownsRow_below (hown.alloc (.cells #[.bool false, .int .i64 m] 59)) (by simpa using hb3)
        have x1 := cellRow_at hown3 hu1
        have y1 := hown3.frozenAt k
        have hbw3 : Below w.heap.size w w3 := (hb.alloc (by omega) _).trans (hb3.mono (by omega))
        have HL3 := hide (unhide Hl _ hown3)
        clear hown3 hown Hc
        go_wp2
        go_roundw
        case rel =>
          obtain ⟨cs', h1, h2⟩ := unhide HL3
          exact ⟨k + 1, cs', by omega, by go_num, h1, hide h2, hbw3.setCell (p := ⟨w.heap.size, k, none⟩) (Nat.le_refl _) _, by simp [World.setCell]; omega⟩
        case measure => simp [intOf]; omega
      · have hrng := hr _ hmem rfl
        obtain ⟨mn, rfl⟩ := Int.eq_ofNat_of_zero_le hrng.1
        have hmn : mn < L.length := by have := hrng.2; simp at this; omega
        have hle := tot_take_le L mn
        have Hl := hide (fun W hW => unhide Hlast W _ hW (packV_ref (L := L) (n := (mn : Int)) (by omega) (by simpa using hmn)))
        have Hat := hide (hloc mn hmn)
        have Hkey := hide (Maps.keyOf_int_mk Try.underlying3 (wf_i64 (x := (mn : Int)) (by omega) (by omega)))
        simp only [Int.toNat_natCast] at Hl
        clear Hlast hrng
        generalize tot (L.take mn) = p at *
        have Hc := hide (pack_c true p (wr.alloc (.cells #[.bool true, .int .i64 (p : Int)] 59)) (by omega) (by omega))
        have hmp3 := hmpr.alloc (.cells #[.bool true, .int .i64 (mn : Int)] 59)
        go_wp2_with (at_lookup; go_must (refine wpList_lookup_own_int _ rfl _ _ 68 rfl 3 3 .i64 (Maps.int_keyed Try.underlying3) Try.underlying68 Try.underlying3 (Try.zeroValue3 _) mb _ M rfl hmp3 _ _ rfl (unhide Hkey) ?_); go_must (intro c hat hwc; rw [unhide Hat] at hat; injection hat with hat; injection hat with _ hat; subst hat; clear hwc))
        refine (unhide Hc).mono ?_
        rintro e w3 ⟨he, hb3⟩
        subst he
        simp only [World.size_alloc] at hb3
        have hs3 := hb3.size
        simp only [World.size_alloc] at hs3
        have hown3 := ownsRow_below (hown.alloc (.cells #[.bool true, .int .i64 (p : Int)] 59)) (by simpa using hb3)
        have x1 := cellRow_at hown3 hu1
        have y1 := hown3.frozenAt k
        have hbw3 : Below w.heap.size w w3 := (hb.alloc (by omega) _).trans (hb3.mono (by omega))
        have HL3 := hide (unhide Hl _ hown3)
        clear hown3 hown Hc hmp3
        go_wp2
        go_roundw
        case rel =>
          obtain ⟨cs', h1, h2⟩ := unhide HL3
          exact ⟨k + 1, cs', by omega, by go_num, h1, hide h2, hbw3.setCell (p := ⟨w.heap.size, k, none⟩) (Nat.le_refl _) _, by simp [World.setCell]; omega⟩
        case measure => simp [intOf]; omega
    · obtain rfl : k = l.length := by omega
      have hcs := unhide Hcs
      rw [List.take_of_length_le (by omega), List.take_of_length_le (by simp)] at hcs
      have Hlen : Hid ((l.map (packV (stF 0 L))).length = l.length) := by show _ = _; simp
      subst hcs
      clear hl0
      go_wp2
      go_ret
      refine ⟨⟨by rw [unhide Hlen]; rfl, ?_⟩, hb⟩
      rw [unhide Hlen]
      exact hown

end Go.Proofs.Ytahdalejmfbkeaa
