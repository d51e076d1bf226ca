/- Walks: filled, wayBack. -/
import Derived.Test.YthpmckfgngkbhaaProg
import Derived.Test.YthpmckfgngkbhaaMem
import Derived.Test.YthpmckfgngkbhaaDc
import Derived.OwnWalk
namespace Go.Proofs.Ythpmckfgngkbhaa
set_option linter.unusedSimpArgs false
set_option linter.unusedVariables false
open Go.RowKit Go.Shelf

/-- A made row lies in one new block. -/
theorem wpList_make_at {P : Program} (w : World) {ops : Array Oper} {rest : List Oper} {o : Oper} {a : Act} {Q : Exit → Act → World → Prop}
    (hg : o.guard = none) (l c : Operand) (t : TypeId) (hop : o.op = Op.makeSlice t l c)
    (base : Nat) (e : TypeId) (i : TypeInfo) (z : Value) (size : Nat) (h1 : P.underlying t = some (.slice e)) (h2 : P.info? e = some i) (h3 : i.zero = some z) (h4 : i.size = size)
    (kl kc : IntKind) (L C : Int) (n : Nat) (hl : a.eval l = .int kl L) (hc : a.eval c = .int kc C) (hL : L = (n : Int)) (hC : C = (n : Int)) (b2 : i.bytes * n ≤ 281474976710656) (b3 : n ≤ maxLen) (b4 : base ≤ w.heap.size)
    (hK : ∀ w', w'.ownsRow base e size (.slice (some ⟨w.heap.size, 0, none⟩) n n) n (madeCells z.cells (n * size)).toList → w.grownBy w' none → w'.heap.size = w.heap.size + 1 → wpList P ops Q rest (a.put o.dst (.slice (some ⟨w.heap.size, 0, none⟩) n n)) w') :
    wpList P ops Q (o :: rest) a w := by
  refine wpList_plain hg fun K hK' => ?_
  subst h4
  have h63' : (n : Int) ≤ 9223372036854775807 := by
    have h := b3
    simp [maxLen] at h
    omega
  have hb' : (i.bytes : Int) * (n : Int) ≤ 281474976710656 := by
    have h : ((i.bytes * n : Nat) : Int) ≤ 281474976710656 := by omega
    rwa [Int.natCast_mul] at h
  have hr := run_make (P := P) w t e i z h1 h2 h3 kl kc n n (by omega) (Int.le_refl _) hb' h63'
  simp only [Int.toNat_natCast] at hr
  subst hL
  subst hC
  unfold Oper.wp
  simp [execOp, hop, hl, hc, hr, Result.andThen]
  exact hK' _ _ (hK _ (World.ownsRow_lit w _ n b4 b3 (size_madeCells _ _)) (World.grownBy_alloc w _ none) (by simp))

set_option maxRecDepth 100000 in
set_option maxHeartbeats 1000000 in
theorem filled_c (n : Nat) (x : Int) (w : World) (hn : n ≤ 1000) :
    Calls Try.prog 27 #[.int .i64 n, .int .i64 x] w fun e w' => e = .returned (.slice (some ⟨w.heap.size, 0, none⟩) n n) ∧ w'.ownsRow w.heap.size 3 1 (.slice (some ⟨w.heap.size, 0, none⟩) n n) n (intsV (List.replicate n x)) ∧ Below w.heap.size w w' ∧ w'.heap.size = w.heap.size + 1 ∧ KeepsOthers w w' := by
  obtain ⟨i0, hi, hz0, hz1, hz2⟩ := info_parts Try.info3
  go_enter Try.func27, Try.ntmps27
  go_wp2_with (at_make; go_must (refine wpList_make_at _ rfl _ _ 26 rfl w.heap.size 3 i0 _ 1 Try.underlying26 hi hz0 hz1 .i64 .i64 _ _ n rfl rfl rfl rfl (by rw [hz2]; omega) (by simp only [maxLen]; omega) (Nat.le_refl _) ?_); go_must (intro w5 hown5 hg5 hs5))
  generalize (madeCells _ _).toList = cs0 at *
  have hb5 : Below w.heap.size w w5 := (Below.refl w.heap.size w).grown hg5 (Nat.le_refl _) (fun k e => by cases e)
  have hk5 : KeepsOthers w w5 := KeepsOthers.of_grownBy hg5 (fun j o e => by cases e)
  have hse : w5.heap.size ≤ w.heap.size + 1 := by omega
  have hse' : w.heap.size + 1 ≤ w5.heap.size := by omega
  clear hs5 hg5
  go_loopw [11] (fun i wr => ∃ (k : Nat) (vs : List Value), k ≤ n ∧ i = .int .i64 k ∧ wr.ownsRow w.heap.size 3 1 (.slice (some ⟨w.heap.size, 0, none⟩) n n) n vs ∧ Hid (∀ j, j < k → vs[j]? = some (.int .i64 x)) ∧ Below w.heap.size w wr ∧ Hid (wr.heap.size = w.heap.size + 1) ∧ KeepsOthers w wr) (fun i _ => n - (intOf i).toNat)
  case atStart => exact ⟨0, cs0, Nat.zero_le _, rfl, hown5, hide (fun j hj => by omega), hb5, hide (by omega), hk5⟩
  case round =>
    clear hown5 hb5 hk5
    obtain ⟨k, vs, hk, rfl, hown, Hvs, hb, Hsz, hko⟩ := hrel
    have hl0 := hown.1
    by_cases hlt : k < n
    · obtain ⟨u, hu⟩ : ∃ u, vs[k]? = some u := ⟨vs[k]'(by omega), List.getElem?_eq_getElem _⟩
      have hc := row_at hown hu
      have hf := hown.frozenAt k
      have hst := (hown.stored k (.int .i64 x)).1
      have Hst := hide hst
      have Hl0 := hide hl0
      clear hst hl0 hu
      have hbs : Below w.heap.size w (wr.setCell ⟨w.heap.size, k, none⟩ (.int .i64 x)) := hb.setCell (p := ⟨w.heap.size, k, none⟩) (Nat.le_refl _) _
      have hks := hko.trans (KeepsOthers.setCell wr ⟨w.heap.size, k, none⟩ (.int .i64 x))
      have hss : Hid ((wr.setCell ⟨w.heap.size, k, none⟩ (.int .i64 x)).heap.size = w.heap.size + 1) := by show _ = _; simp [World.setCell]; exact unhide Hsz
      go_wp2
      go_roundw
      case rel =>
        refine ⟨k + 1, _, by omega, by go_num, unhide Hst, hide (fun j hj => ?_), hbs, hss, hks⟩
        by_cases e : j = k
        · subst e; rw [List.getElem?_set_self (by have := unhide Hl0; omega)]
        · rw [List.getElem?_set_ne (by omega)]; exact unhide Hvs j (by omega)
      case measure => simp [intOf]; omega
    · obtain rfl : k = n := by omega
      have e : vs = intsV (List.replicate k x) := by
        refine List.ext_getElem? fun j => ?_
        by_cases hj : j < k
        · rw [unhide Hvs j hj]; simp [intsV, hj]
        · rw [List.getElem?_eq_none (by omega), List.getElem?_eq_none (by simp [intsV]; omega)]
      have He := hide e
      clear e hl0
      go_wp2
      go_ret
      exact ⟨rfl, by rw [← unhide He]; exact hown, hb, unhide Hsz, hko⟩

end Go.Proofs.Ythpmckfgngkbhaa
