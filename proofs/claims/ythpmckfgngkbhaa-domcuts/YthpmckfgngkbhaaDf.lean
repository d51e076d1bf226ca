/- Walks: slices.DeleteFunc at what is not on the way back. -/
import Derived.Test.YthpmckfgngkbhaaProg
import Derived.Test.YthpmckfgngkbhaaMem
import Derived.Test.YthpmckfgngkbhaaDe
import Derived.Test.YthpmckfgngkbhaaSa
import Derived.Shelf.SlGeneric
import Derived.Shelf.SlicesE.DeleteFunc
import Derived.Ground.SlgfProg
import Derived.Lib.SliceRun
namespace Go.Proofs.Ythpmckfgngkbhaa
open Go.Shelf
def Try.laysDelF_ren : Go.Shelf.Ren := ⟨fun | 10 => 22 | 6 => 37 | n => n, fun | 22 => 26 | 23 => 3 | 25 => 46 | 3 => 3 | 4 => 4 | 0 => 0 | n => n, fun | n => n⟩
theorem Try.laysDelF : Go.Proofs.SlLaysH.n10 Try.prog Try.laysDelF_ren := {
  mixed := by kernel_rfl
  f6 := ⟨Try.f37.name, by decide, Try.func37.trans (congrArg some (by kernel_rfl))⟩
  f10 := ⟨Try.f22.name, by decide, Try.func22.trans (congrArg some (by kernel_rfl))⟩
  t0 := Try.underlying0
  a0 := Try.isAgg0
  z0 := Try.sizeOf0
  v0 := Try.zeroValue0
  t3 := Try.underlying3
  a3 := Try.isAgg3
  z3 := Try.sizeOf3
  v3 := Try.zeroValue3
  t4 := Try.underlying4
  a4 := Try.isAgg4
  z4 := Try.sizeOf4
  v4 := Try.zeroValue4
  t22 := Try.underlying26
  a22 := Try.isAgg26
  z22 := Try.sizeOf26
  v22 := Try.zeroValue26
  a23 := Try.isAgg3
  z23 := Try.sizeOf3
  t25 := Try.underlying46
  a25 := Try.isAgg46
  z25 := Try.sizeOf46
  v25 := Try.zeroValue46 }
end Go.Proofs.Ythpmckfgngkbhaa
namespace Go.Proofs.Ythpmckfgngkbhaa
set_option linter.unusedSimpArgs false
set_option linter.unusedVariables false
open Go.RowKit

def encI {N : Nat} (x : ObN N) : Value := .int .i64 x.1

theorem numAt_ne (order : List Int) (x : Int) : (numAt order x != -1) = decide (x ∈ order) := by
  unfold numAt
  by_cases h : x ∈ order
  · rw [if_pos h, decide_eq_true h, bne_iff_ne]; omega
  · rw [if_neg h, decide_eq_false h]; rfl

/-- The closure of Retained: is an object on the way back? -/
theorem gives23 {N : Nat} (order : List Int) (Bx gb : Nat) (x : ObN N) (W : World) (hc : W.cell? ⟨Bx, 1, none⟩ = some (.slice (some ⟨gb, 0, none⟩) N N)) (hn : ∀ k, k < N → W.cell? ⟨gb, k, none⟩ = some (.int .i64 (numAt order k))) (hN : N ≤ 24) :
    FnGives Try.prog 23 #[.pointer (some ⟨Bx, 0, none⟩)] #[encI x] (.bool (decide (x.1 ∈ order))) W := by
  obtain ⟨x, hx0, hx1⟩ := x
  obtain ⟨x, rfl⟩ := Int.eq_ofNat_of_zero_le hx0
  have hxN : x < N := by omega
  have hx := hn x hxN
  have Hd := hide (numAt_ne order (x : Int))
  clear hn
  show Calls Try.prog 23 #[.int .i64 (x : Int), .pointer (some ⟨Bx, 0, none⟩)] W _
  generalize numAt order (x : Int) = y at *
  go_enter Try.func23, Try.ntmps23
  go_wp2
  go_ret
  exact ⟨ret_bool (unhide Hd), 0, rfl⟩

set_option maxRecDepth 100000 in
theorem idx_nil_c (f : Value) (w : World) : Calls Try.prog 37 #[.slice none 0 0, f] w fun e w' => e = .returned (.int .i64 (-1)) ∧ w' = w := by
  go_enter Try.func37, Try.ntmps37
  go_wp2
  go_loop [8] (fun i => i = .int .i64 0) (fun i => 0)
  case atStart => rfl
  case round =>
    subst hrel
    go_wp2
    go_ret
    exact ⟨rfl, rfl⟩

set_option maxRecDepth 100000 in
theorem delF_nil_c (f : Value) (w : World) : Calls Try.prog 22 #[.slice none 0 0, f] w fun e w' => e = .returned (.slice none 0 0) ∧ w' = w := by
  go_enter Try.func22, Try.ntmps22
  go_wp2_with (go_at_call 37; go_must (refine (idx_nil_c _ _).mono ?_); rintro e w3 ⟨rfl, hw3⟩; subst hw3)
  go_ret
  exact ⟨rfl, rfl⟩

/-- Numbers of objects, as such. -/
def asObs {N : Nat} : (l : List Int) → (∀ x ∈ l, 0 ≤ x ∧ x < N) → List (ObN N)
  | [], _ => []
  | x :: l, h => ⟨x, h x (by simp)⟩ :: asObs l (fun y hy => h y (by simp [hy]))

theorem asObs_vals {N : Nat} : ∀ (l : List Int) (h : ∀ x ∈ l, 0 ≤ x ∧ x < (N : Int)), valsN (asObs l h) = l
  | [], _ => rfl
  | x :: l, h => by
    have ih := asObs_vals l (fun y hy => h y (by simp [hy]))
    unfold valsN at *
    simp [asObs, ih]

theorem asObs_len {N : Nat} (l : List Int) (h : ∀ x ∈ l, 0 ≤ x ∧ x < (N : Int)) : (asObs l h).length = l.length := by
  have := congrArg List.length (asObs_vals l h)
  simpa [valsN] using this

theorem asObs_get {N : Nat} (l : List Int) (h : ∀ x ∈ l, 0 ≤ x ∧ x < (N : Int)) (k : Nat) (y : ObN N) (hk : (asObs l h)[k]? = some y) : l[k]? = some y.1 := by
  have := congrArg (fun m => m[k]?) (asObs_vals l h)
  simp only [valsN, List.getElem?_map, hk, Option.map_some] at this
  exact this.symm

theorem asObs_filter {N : Nat} (p : Int → Bool) (l : List Int) (h : ∀ x ∈ l, 0 ≤ x ∧ x < (N : Int)) : valsN ((asObs l h).filter fun y => p y.1) = l.filter p := by
  have : valsN ((asObs l h).filter fun y => p y.1) = (valsN (asObs l h)).filter p := by
    unfold valsN
    rw [List.filter_map]
    rfl
  rw [this, asObs_vals]

theorem delF_f (N : Nat) (hN0 : 0 < N) (hN : N ≤ 24) (Bx gb : Nat) (order : List Int) (v : Value) (base base' : Nat) (l : List Int) (w : World) (hrow : w.ownsRow base 3 1 v l.length (intsV l)) (hl : ∀ x ∈ l, 0 ≤ x ∧ x < (N : Int)) (hlen : l.length ≤ 1000)
    (hc1 : w.cell? ⟨Bx, 1, none⟩ = some (.slice (some ⟨gb, 0, none⟩) N N)) (hnum : w.ownsRow base' 3 1 (.slice (some ⟨gb, 0, none⟩) N N) N (intsV (numL N order))) (hne1 : v.ownBlock ≠ some Bx) (hne2 : v.ownBlock ≠ some gb) :
    Calls Try.prog 22 #[v, .func (.func 23) #[] #[.pointer (some ⟨Bx, 0, none⟩)]] w fun e w' => ∃ a cap, e = .returned (.slice a (l.filter fun o => !decide (o ∈ order)).length cap) ∧
      Ints w'.heap.size w' a (l.filter fun o => !decide (o ∈ order)) ∧ w.grownBy w' v.ownBlock ∧ (∀ b off, a = some ⟨b, off, none⟩ → v.ownBlock = some b) := by
  have hlB : Bx < w.heap.size := World.block_lt_of_cell? w _ hc1
  have hlg : gb < w.heap.size := row_lt hnum
  have hncell : ∀ k, k < N → w.cell? ⟨gb, k, none⟩ = some (.int .i64 (numAt order k)) := fun k hk => row_at hnum (by simp [intsV, numL_get order hk])
  rcases hrow.2 with ⟨rfl, h0⟩ | ⟨g, cap, cur, rfl, hb, hgb, hnc, hcm, hcs, htake⟩
  · have e : l = [] := List.eq_nil_of_length_eq_zero h0
    subst e
    refine (delF_nil_c _ w).mono ?_
    rintro e w' ⟨rfl, rfl⟩
    exact ⟨none, 0, rfl, ⟨by simp, fun h => absurd rfl h⟩, ⟨rfl, rfl, rfl, Nat.le_refl _, fun _ _ _ => rfl⟩, fun b off e => by cases e⟩
  · have hgB : g ≠ Bx := fun e => hne1 (by simp [Value.ownBlock, e])
    have hgg : g ≠ gb := fun e => hne2 (by simp [Value.ownBlock, e])
    haveI : Inhabited (ObN N) := ⟨⟨0, by omega⟩⟩
    have hcur : ∀ (k : Nat) (s : Int), l[k]? = some s → cur[k]? = some (.int .i64 s) := by
      intro k s hk
      have h1 : (intsV l)[k]? = some (.int .i64 s) := by simp [intsV, hk]
      rw [← htake, List.getElem?_take] at h1
      split at h1
      · simpa using h1
      · cases h1
    have hol := asObs_len l hl
    have hH : Go.Sort.Holds encI w g 0 (asObs l hl).toArray := by
      intro j hj
      have hj' : j < (asObs l hl).length := by simpa using hj
      have hc := hcur j _ (asObs_get l hl j _ (List.getElem?_eq_getElem hj'))
      rw [getElem!_pos (asObs l hl).toArray j hj]
      refine ⟨?_, by simp [World.frozen?, hgb]⟩
      rw [Nat.zero_add, cell_of_row w g j cur 3 (0, 0) hgb, hc]
      simp [encI]
    have eg : ∀ args w, (callFunc 23 args).run Try.prog w = .ok (.enter 23 args) w := enters_of Try.func23 (by kernel_rfl) rfl
    have hpa : PredAt Try.prog 23 #[.pointer (some ⟨Bx, 0, none⟩)] (encI (N := N)) (fun x => decide (x.1 ∈ order)) w := fun W x hb =>
      gives23 order Bx gb x W ((hb.cell (p := ⟨Bx, 1, none⟩) hlB).trans hc1) (fun k hk => (hb.cell (p := ⟨gb, k, none⟩) hlg).trans (hncell k hk)) hN
    have hpo : PredOver Try.prog 23 #[.pointer (some ⟨Bx, 0, none⟩)] (encI (N := N)) (fun x => decide (x.1 ∈ order)) g 0 (asObs l hl).toArray.size w := fun n os dk x _ => by
      refine gives23 order Bx gb x _ ?_ (fun k hk => ?_) hN
      · unfold sortWorld
        rw [Go.Sort.cell?_grow _ _ _ (by show Bx < (Go.Sort.putRow _ _ _ _ _).heap.size; rw [Go.Sort.size_putRow]; exact hlB), Go.Sort.cell?_putRow_other _ _ g 0 _ _ (Or.inl (fun e => hgB e.symm))]
        exact hc1
      · unfold sortWorld
        rw [Go.Sort.cell?_grow _ _ _ (by show gb < (Go.Sort.putRow _ _ _ _ _).heap.size; rw [Go.Sort.size_putRow]; exact hlg), Go.Sort.cell?_putRow_other _ _ g 0 _ _ (Or.inl (fun e => hgg e.symm))]
        exact hncell k hk
    have hD := AnyE.slices_DeleteFunc Try.laysDelF (encI (N := N)) (fun _ => rfl) (fun x => decide (x.1 ∈ order)) 23 #[.pointer (some ⟨Bx, 0, none⟩)] eg ⟨0, by omega⟩ Try.zeroValue3 g 0 cap (asObs l hl).toArray w hpa hpo hH (by simp [hol]; omega) (by simp [hol]; omega)
    have hD' : Calls Try.prog 22 #[.slice (some ⟨g, 0, none⟩) (asObs l hl).toArray.size cap, .func (.func 23) #[] #[.pointer (some ⟨Bx, 0, none⟩)]] w _ := hD
    have es : (asObs l hl).toArray.size = l.length := by simp [hol]
    rw [es] at hD'
    refine hD'.mono ?_
    rintro e w' ⟨rfl, q, rfl⟩
    have hf := asObs_filter (N := N) (fun o => !decide (o ∈ order)) l hl
    have hfl : ((asObs l hl).filter fun y => !decide (y.1 ∈ order)).length = (l.filter fun o => !decide (o ∈ order)).length := by rw [← hf]; simp [valsN]
    simp only [List.toList_toArray]
    have hfle : (l.filter fun o => !decide (o ∈ order)).length ≤ l.length := List.length_filter_le _ _
    generalize hD0 : ((asObs l hl).filter fun y => !decide (y.1 ∈ order)) = F at *
    generalize (l.filter fun o => !decide (o ∈ order)) = R at *
    have hg : w.grownBy (Go.Sort.putRow encI (Go.Sort.ahead w q) g 0 (F ++ List.replicate (l.length - F.length) (⟨0, by omega⟩ : ObN N)).toArray) (some g) := by
      refine ⟨rfl, rfl, rfl, by simp [Go.Sort.putRow, Go.Sort.mapBlock, Go.Sort.ahead], fun k hk hne => ?_⟩
      have hne' : ¬ g = k := fun e => hne (by rw [e])
      simp [Go.Sort.putRow, Go.Sort.mapBlock, Go.Sort.ahead, Array.getElem?_modify, hne']
    have hblk : (Go.Sort.putRow encI (Go.Sort.ahead w q) g 0 (F ++ List.replicate (l.length - F.length) (⟨0, by omega⟩ : ObN N)).toArray).heap[g]? = some (.cells (Go.Sort.putCells encI 0 (F ++ List.replicate (l.length - F.length) (⟨0, by omega⟩ : ObN N)).toArray cur) 3 (0, 0)) := by
      simp [Go.Sort.putRow, Go.Sort.mapBlock, Go.Sort.ahead, Array.getElem?_modify, hgb, Go.Sort.onCells]
    refine ⟨some ⟨g, 0, none⟩, cap, by rw [hfl], ⟨by omega, fun _ => ⟨g, 0, rfl, (Array.getElem?_eq_some_iff.1 hblk).1, fun k u hk => ?_⟩⟩, hg, fun b off e => by injection e with e; injection e with e1; simp [Value.ownBlock, e1]⟩
    rw [Nat.zero_add, cell_of_row _ g k _ 3 (0, 0) hblk]
    have hkl := (List.getElem?_eq_some_iff.1 hk).1
    have hkc : k < cur.size := by omega
    have hkF : k < F.length := by omega
    simp only [Go.Sort.putCells, Array.getElem?_mapIdx]
    rw [Array.getElem?_eq_getElem hkc, Option.map_some, if_pos ⟨Nat.zero_le _, by simp; omega⟩, getElem!_pos _ (k - 0) (by simp; omega)]
    rw [← hf] at hk
    simp only [valsN, List.getElem?_map, List.getElem?_eq_getElem hkF, Option.map_some] at hk
    injection hk with hk
    simp [encI, List.getElem_append_left hkF, hk]

theorem delF_c (N : Nat) (hN0 : 0 < N) (hN : N ≤ 24) (Bx gb : Nat) (order : List Int) (v : Value) (base base' : Nat) (l : List Int) (w : World) (hrow : w.ownsRow base 3 1 v l.length (intsV l)) (hl : ∀ x ∈ l, 0 ≤ x ∧ x < (N : Int)) (hlen : l.length ≤ 1000)
    (hc1 : w.cell? ⟨Bx, 1, none⟩ = some (.slice (some ⟨gb, 0, none⟩) N N)) (hnum : w.ownsRow base' 3 1 (.slice (some ⟨gb, 0, none⟩) N N) N (intsV (numL N order))) (hne1 : v.ownBlock ≠ some Bx) (hne2 : v.ownBlock ≠ some gb) :
    Calls Try.prog 22 #[v, .func (.func 23) #[] #[.pointer (some ⟨Bx, 0, none⟩)]] w fun e w' => ∃ a cap, e = .returned (.slice a (l.filter fun o => !decide (o ∈ order)).length cap) ∧
      Ints w'.heap.size w' a (l.filter fun o => !decide (o ∈ order)) ∧ w.grownBy w' v.ownBlock := by
  refine (delF_f N hN0 hN Bx gb order v base base' l w hrow hl hlen hc1 hnum hne1 hne2).mono ?_
  rintro e w' ⟨a, cap, h1, h2, h3, _⟩
  exact ⟨a, cap, h1, h2, h3⟩

end Go.Proofs.Ythpmckfgngkbhaa
