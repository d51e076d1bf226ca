/- Merged texts: Mem Wa Wc Wd We Wf Wg Wh Wi Wj Wk Wl Wm Wo Wp Ua. -/
import Derived.Test.YtlolcdgbidboeaaProg
import Derived.WalkKit
import Derived.WalkSpells
import Derived.WalkLawsBesides
import Derived.RangeFuncNested
import Derived.RangeFuncBound
import Derived.RangeFuncCalls
import Derived.RangeFuncLeaves
import Derived.Shelf.Abstract
import Derived.Shelf.RegionOpen
import Derived.OwnWalkIn
import Derived.TacticsInMore
import Derived.LoopNIn
import Derived.LoopIn
import Derived.Maps.OwnIn
import Derived.Maps.AppendAt
import Derived.StillTailTactics
import Derived.Deep.RegionLaw
import Derived.BigRegion

/- What a graph is in memory, and as plain data. -/
namespace Go.Proofs.Ytlolcdgbidboeaa
set_option linter.unusedSimpArgs false
set_option linter.unusedVariables false
open Go.RowKit

theorem hide {p : Prop} (h : p) : Hid p := h
theorem unhide {p : Prop} (h : Hid p) : p := h

theorem ret_bool {a b : Bool} (h : a = b) : Ending.returned (.bool a) = .returned (.bool b) := by rw [h]
theorem ret_int {a b : Int} (h : a = b) : Ending.returned (.int .i64 a) = .returned (.int .i64 b) := by rw [h]

theorem cell_two_at (w : World) (x y : Value) (t : TypeId) (m : Nat) (hm : m = w.heap.size) : ∀ j u, [x, y][j]? = some u → (w.alloc (.cells #[x, y] t)).cell? ((⟨m, 0, none⟩ : Addr).add j) = some u := by
  subst hm; exact cell_two_new w x y t
theorem cell_one_at (w : World) (x : Value) (t : TypeId) (m : Nat) (hm : m = w.heap.size) : ∀ j u, [x][j]? = some u → (w.alloc (.cells #[x] t)).cell? ((⟨m, 0, none⟩ : Addr).add j) = some u := by
  subst hm; exact cell_one_new w x t

/-- A value of a graph: is it a reference; its number. -/
abbrev V := Bool × Int

/-- A slice of values, that lies below block B. -/
def Vals (B : Nat) (w : World) (a : Option Addr) (l : List V) : Prop :=
  l.length ≤ 9223372036854775807 ∧ (l ≠ [] → ∃ b off, a = some ⟨b, off, none⟩ ∧ b < B ∧ ∀ k v, l[k]? = some v → w.cell? ⟨b, off + k * 2, none⟩ = some (.bool v.1) ∧ w.cell? ⟨b, off + k * 2 + 1, none⟩ = some (.int .i64 v.2))

theorem Vals.below {B : Nat} {w w' : World} {a : Option Addr} {l : List V} (h : Vals B w a l) (hb : Below B w w') : Vals B w' a l := by
  refine ⟨h.1, fun hne => ?_⟩
  obtain ⟨b, off, rfl, hB, hc⟩ := h.2 hne
  refine ⟨b, off, rfl, hB, fun k v hk => ?_⟩
  rw [hb.cell (p := ⟨b, off + k * 2, none⟩) hB, hb.cell (p := ⟨b, off + k * 2 + 1, none⟩) hB]
  exact hc k v hk

theorem Vals.below' {B : Nat} {w w' : World} {a : Option Addr} {l : List V} (h : Vals B w' a l) (hb : Below B w w') : Vals B w a l := by
  refine ⟨h.1, fun hne => ?_⟩
  obtain ⟨b, off, rfl, hB, hc⟩ := h.2 hne
  refine ⟨b, off, rfl, hB, fun k v hk => ?_⟩
  rw [← hb.cell (p := ⟨b, off + k * 2, none⟩) hB, ← hb.cell (p := ⟨b, off + k * 2 + 1, none⟩) hB]
  exact hc k v hk

theorem Vals.mono {B B' : Nat} {w : World} {a : Option Addr} {l : List V} (h : Vals B w a l) (hb : B ≤ B') : Vals B' w a l := by
  refine ⟨h.1, fun hne => ?_⟩
  obtain ⟨b, off, rfl, hB, hc⟩ := h.2 hne
  exact ⟨b, off, rfl, by omega, hc⟩

/-- One value of a slice. -/
theorem Vals.at {B : Nat} {w : World} {a : Option Addr} {l : List V} (h : Vals B w a l) {k : Nat} (hk : k < l.length) :
    ∃ b off r n, a = some ⟨b, off, none⟩ ∧ b < B ∧ w.cell? ⟨b, off + k * 2, none⟩ = some (.bool r) ∧ w.cell? ⟨b, off + k * 2 + 1, none⟩ = some (.int .i64 n) ∧ Hid (l[k] = (r, n)) := by
  obtain ⟨b, off, rfl, hB, hc⟩ := h.2 (by intro e; subst e; simp at hk)
  exact ⟨b, off, l[k].1, l[k].2, rfl, hB, (hc k l[k] (by simp [hk])).1, (hc k l[k] (by simp [hk])).2, rfl⟩

/-- Is one of some values a reference to j? -/
def refers (l : List V) (j : Int) : Bool := l.any fun v => v.1 && v.2 == j

theorem refers_take {l : List V} {j : Int} {k : Nat} (hk : k < l.length) {r : Bool} {n : Int} (h : l[k] = (r, n)) : refers (l.take (k + 1)) j = (refers (l.take k) j || (r && n == j)) := by
  rw [List.take_succ_eq_append_getElem hk, h]
  simp only [refers, List.any_append, List.any_cons, List.any_nil, Bool.or_false]

theorem refers_of_take {l : List V} {j : Int} {k : Nat} (h : refers (l.take k) j = true) : refers l j = true := by
  unfold refers at *
  rw [List.any_eq_true] at *
  obtain ⟨x, hx, hp⟩ := h
  exact ⟨x, List.mem_of_mem_take hx, hp⟩

/-- A slice of objects, each of which is a slice of values, below block B. -/
def Objs (B : Nat) (w : World) (a : Option Addr) (L : List (List V)) : Prop :=
  L.length ≤ 9223372036854775807 ∧ (L ≠ [] → ∃ b off, a = some ⟨b, off, none⟩ ∧ b < B ∧ ∀ k l, L[k]? = some l → ∃ ai ci, w.cell? ⟨b, off + k, none⟩ = some (.slice ai l.length ci) ∧ Vals B w ai l)

theorem Objs.below {B : Nat} {w w' : World} {a : Option Addr} {L : List (List V)} (h : Objs B w a L) (hb : Below B w w') : Objs B w' a L := by
  refine ⟨h.1, fun hne => ?_⟩
  obtain ⟨b, off, rfl, hB, hc⟩ := h.2 hne
  refine ⟨b, off, rfl, hB, fun k v hk => ?_⟩
  obtain ⟨ai, ci, h1, h2⟩ := hc k v hk
  refine ⟨ai, ci, ?_, h2.below hb⟩
  rw [hb.cell (p := ⟨b, off + k, none⟩) hB]
  exact h1

theorem Objs.mono {B B' : Nat} {w : World} {a : Option Addr} {L : List (List V)} (h : Objs B w a L) (hb : B ≤ B') : Objs B' w a L := by
  refine ⟨h.1, fun hne => ?_⟩
  obtain ⟨b, off, rfl, hB, hc⟩ := h.2 hne
  refine ⟨b, off, rfl, by omega, fun k v hk => ?_⟩
  obtain ⟨ai, ci, h1, h2⟩ := hc k v hk
  exact ⟨ai, ci, h1, h2.mono hb⟩

theorem Objs.at {B : Nat} {w : World} {a : Option Addr} {L : List (List V)} (h : Objs B w a L) {k : Nat} (hk : k < L.length) :
    ∃ b off ai ci, a = some ⟨b, off, none⟩ ∧ b < B ∧ w.cell? ⟨b, off + k, none⟩ = some (.slice ai L[k].length ci) ∧ Vals B w ai L[k] := by
  obtain ⟨b, off, rfl, hB, hc⟩ := h.2 (by intro e; subst e; simp at hk)
  obtain ⟨ai, ci, h1, h2⟩ := hc k L[k] (by simp [hk])
  exact ⟨b, off, ai, ci, rfl, hB, h1, h2⟩

/-- A graph as plain data. -/
structure Gr where
  objs : List (List V)
  roots : List V

def isLargeG (g : Gr) : Bool := decide (24 < g.objs.length) || decide (8 < g.roots.length) || g.objs.any (fun l => decide (4 < l.length))

def badV (v : V) (n : Nat) : Int := if v.1 then (if v.2 < 0 ∨ (n : Int) ≤ v.2 then 2 else 0) else (if v.2 < -4611686018427387904 ∨ 4611686018427387903 < v.2 then 3 else 0)

def allV (g : Gr) : List V := g.roots ++ g.objs.flatten

def checkG (g : Gr) : Int :=
  if isLargeG g then 1 else if (allV g).any (fun v => badV v g.objs.length == 2) then 2 else if (allV g).any (fun v => badV v g.objs.length == 3) then 3 else 0

/-- The cells of a list of values. -/
def cellsV (l : List V) : List Value := l.flatMap fun v => [.bool v.1, .int .i64 v.2]

theorem cellsV_snoc (l : List V) (r : Bool) (n : Int) : cellsV (l ++ [(r, n)]) = cellsV l ++ [.bool r, .int .i64 n] := by simp [cellsV]

theorem cellsV_get : ∀ (l : List V) (k : Nat) (v : V), l[k]? = some v → (cellsV l)[k * 2]? = some (.bool v.1) ∧ (cellsV l)[k * 2 + 1]? = some (.int .i64 v.2)
  | [], _, _, h => by simp at h
  | x :: l, 0, v, h => by simp at h; subst h; simp [cellsV]
  | x :: l, k + 1, v, h => by
    have := cellsV_get l k v (by simpa using h)
    have e1 : (k + 1) * 2 = k * 2 + 1 + 1 := by omega
    have e2 : (k + 1) * 2 + 1 = k * 2 + 1 + 1 + 1 := by omega
    rw [e1]
    simp only [cellsV, List.flatMap_cons, List.cons_append, List.nil_append, List.getElem?_cons_succ]
    exact this

/-- What the call owns is a slice of values. -/
theorem vals_of_owns {w : World} {base : Nat} {e : TypeId} {v : Value} {n : Nat} {l : List V} (h : w.ownsRow base e 2 v n (cellsV l)) (hn : n = l.length) (hs : n ≤ 9223372036854775807) :
    ∃ a cap, v = .slice a l.length cap ∧ Vals w.heap.size w a l ∧ ∀ b off, a = some ⟨b, off, none⟩ → base ≤ b := by
  obtain ⟨_, h2⟩ := h
  rcases h2 with ⟨rfl, h0⟩ | ⟨g, cap, cur, rfl, hb, hg, hc1, hc2, hc3, htake⟩
  · refine ⟨none, 0, by rw [← hn, h0], ⟨by omega, fun hne => ?_⟩, fun b off e => by cases e⟩
    have : l = [] := List.eq_nil_of_length_eq_zero (by omega)
    exact absurd this hne
  · refine ⟨_, cap, by rw [hn], ⟨by omega, fun _ => ⟨g, 0, rfl, (Array.getElem?_eq_some_iff.1 hg).1, fun k v hk => ?_⟩⟩, fun b off e => by injection e with e; injection e with e1; omega⟩
    obtain ⟨h1, h2⟩ := cellsV_get l k v hk
    rw [← htake] at h1 h2
    rw [List.getElem?_take] at h1 h2
    have hcell : ∀ j u, (if j < n * 2 then cur.toList[j]? else none) = some u → w.cell? ⟨g, 0 + j, none⟩ = some u := by
      intro j u hj
      split at hj
      · rw [Nat.zero_add, cell_of_row w g j cur e (0, 0) hg]; simpa using hj
      · cases hj
    exact ⟨hcell _ _ h1, by have := hcell _ _ h2; simpa [Nat.add_assoc] using this⟩

end Go.Proofs.Ytlolcdgbidboeaa

/- Walks. -/
namespace Go.Proofs.Ytlolcdgbidboeaa
set_option linter.unusedSimpArgs false
set_option linter.unusedVariables false
open Go.RowKit

def isNum (n : Int) : Bool := decide (-4611686018427387904 ≤ n) && decide (n ≤ 4611686018427387903)

set_option maxHeartbeats 400000 in
theorem isNumber_c (n : Int) (w : World) :
    Calls Try.prog 44 #[.int .i64 n] w fun e w' => e = .returned (.bool (isNum n)) ∧ w' = w := by
  unfold isNum
  by_cases h : -4611686018427387904 ≤ n
  · go_enter Try.func44, Try.ntmps44
    go_wp2
    go_ret
    exact ⟨by simp [h], rfl⟩
  · have hd : decide (-4611686018427387904 ≤ n) = false := by simp [h]
    go_enter Try.func44, Try.ntmps44
    go_wp2
    go_ret
    exact ⟨by simp [h], rfl⟩

set_option maxHeartbeats 400000 in
theorem isLarge1_c (a : Option Addr) (l c : Nat) (w : World) :
    Calls Try.prog 41 #[.agg #[.slice a l c]] w fun e w' => e = .returned (.bool (decide (4 < (l : Int)))) ∧ Below w.heap.size w w' := by
  go_enter Try.func41, Try.ntmps41
  go_wp2
  go_ret
  exact ⟨rfl, (Below.refl _ _).alloc (Nat.le_refl _) _⟩

end Go.Proofs.Ytlolcdgbidboeaa

/- Walks. -/
namespace Go.Proofs.Ytlolcdgbidboeaa
set_option linter.unusedSimpArgs false
set_option linter.unusedVariables false
open Go.RowKit

theorem Try.info47 : (Try.prog.info? 47).map (fun i => (i.zero, i.size, i.bytes)) = some (some (.agg #[.bool false, .int .i64 0]), 2, 16) := by kernel_rfl

set_option maxHeartbeats 400000 in
theorem bad_c (r : Bool) (n : Int) (N : Nat) (w : World) :
    Calls Try.prog 19 #[.agg #[.bool r, .int .i64 n], .int .i64 N] w fun e w' => e = .returned (.int .i64 (badV (r, n) N)) ∧ Below w.heap.size w w' := by
  cases r
  · by_cases h1 : n < -4611686018427387904
    · go_enter Try.func19, Try.ntmps19
      go_wp2
      go_ret
      exact ⟨ret_int (by simp [badV, h1]), (Below.refl _ _).alloc (Nat.le_refl _) _⟩
    · have d1 : decide (n < -4611686018427387904) = false := by simpa using h1
      by_cases h2 : 4611686018427387903 < n
      · go_enter Try.func19, Try.ntmps19
        go_wp2
        go_ret
        exact ⟨ret_int (by simp [badV, h2]), (Below.refl _ _).alloc (Nat.le_refl _) _⟩
      · have d2 : decide (4611686018427387903 < n) = false := by simpa using h2
        go_enter Try.func19, Try.ntmps19
        go_wp2
        go_ret
        exact ⟨ret_int (by simp [badV, h1, h2]), (Below.refl _ _).alloc (Nat.le_refl _) _⟩
  · by_cases h1 : n < 0
    · go_enter Try.func19, Try.ntmps19
      go_wp2
      go_ret
      exact ⟨ret_int (by simp [badV, h1]), (Below.refl _ _).alloc (Nat.le_refl _) _⟩
    · have d1 : decide (n < 0) = false := by simpa using h1
      by_cases h2 : (N : Int) ≤ n
      · go_enter Try.func19, Try.ntmps19
        go_wp2
        go_ret
        exact ⟨ret_int (by simp [badV, h2]), (Below.refl _ _).alloc (Nat.le_refl _) _⟩
      · have d2 : decide ((N : Int) ≤ n) = false := by simpa using h2
        go_enter Try.func19, Try.ntmps19
        go_wp2
        go_ret
        exact ⟨ret_int (by simp [badV, h1, h2]), (Below.refl _ _).alloc (Nat.le_refl _) _⟩

end Go.Proofs.Ytlolcdgbidboeaa

/- Walks. -/
namespace Go.Proofs.Ytlolcdgbidboeaa
set_option linter.unusedSimpArgs false
set_option linter.unusedVariables false
open Go.RowKit

theorem snoc_take {l : List V} {k : Nat} (hk : k < l.length) {r : Bool} {n : Int} (h : l[k] = (r, n)) (pre : List V) : cellsV (pre ++ l.take (k + 1)) = cellsV (pre ++ l.take k) ++ [.bool r, .int .i64 n] := by
  rw [List.take_succ_eq_append_getElem hk, h, ← List.append_assoc, cellsV_snoc]

theorem flat_le : ∀ (L : List (List V)), (∀ l ∈ L, l.length ≤ 4) → L.flatten.length ≤ 4 * L.length
  | [], _ => by simp
  | l :: L, h => by
    have h1 := h l (by simp)
    have h2 := flat_le L (fun x hx => h x (by simp [hx]))
    simp only [List.flatten_cons, List.length_append, List.length_cons]
    omega

theorem flat_snoc {L : List (List V)} {k : Nat} (hk : k < L.length) : (L.take (k + 1)).flatten = (L.take k).flatten ++ L[k] := by
  rw [List.take_succ_eq_append_getElem hk, List.flatten_append]; simp only [List.flatten_cons, List.flatten_nil, List.append_nil]

set_option maxHeartbeats 1000000 in
theorem all_c (ao ar : Option Addr) (co cr : Nat) (g : Gr) (B : Nat) (w : World) (ho : Objs B w ao g.objs) (hr : Vals B w ar g.roots) (hB : B ≤ w.heap.size)
    (h24 : g.objs.length ≤ 24) (h8 : g.roots.length ≤ 8) (h4 : ∀ l ∈ g.objs, l.length ≤ 4) :
    Calls Try.prog 18 #[.agg #[.slice ao g.objs.length co, .slice ar g.roots.length cr]] w fun e w' => ∃ a cap, e = .returned (.slice a (allV g).length cap) ∧ Vals w'.heap.size w' a (allV g) ∧ Below w.heap.size w w' := by
  obtain ⟨i0, hi, hz0, hz1, hz2⟩ := info_parts Try.info47
  go_enter Try.func18, Try.ntmps18
  go_wp2
  go_loopw [3, 13] (fun s i wr => ∃ k : Nat, k ≤ g.roots.length ∧ i = .int .i64 k ∧ wr.ownsRow (w.heap.size + 1) 47 2 s k (cellsV ([] ++ g.roots.take k)) ∧ Below (w.heap.size + 1) (w.alloc (.cells #[.slice ao g.objs.length co, .slice ar g.roots.length cr] 25)) wr) (fun _ i _ => g.roots.length - (intOf i).toNat)
  case atStart => exact ⟨0, Nat.zero_le _, rfl, by simpa [cellsV] using World.ownsRow_nil _ _ _ _, Below.refl _ _⟩
  case round =>
    obtain ⟨k, hk, rfl, hown, hb⟩ := hrel
    by_cases hlt : k < g.roots.length
    · have hb' : Below B w wr := ((Below.refl B w).alloc hB _).trans (hb.mono (by omega))
      have hsz : w.heap.size + 1 ≤ wr.heap.size := by have := hb.size; simpa using this
      obtain ⟨b, off, r, n, rfl, hbB, hc1, hc2, Hv⟩ := (hr.below hb').at hlt
      have HT := hide (snoc_take hlt Hv.out [])
      go_wp2_with (at_builtin; go_must (refine wpList_append_own _ rfl _ _ 23 rfl (w.heap.size + 1) 47 i0 _ 2 16 Try.underlying23 hi hz0 hz1 hz2 rfl (by decide) _ _ _ rfl ((hown.alloc _).alloc _) ⟨wr.heap.size + 1, 0, none⟩ 1 1 [.bool r, .int .i64 n] rfl rfl (cell_two_at _ _ _ _ _ (by simp)) (by simp [Value.oneCell']) (by simp only [maxLen]; omega) (by omega) (by simp; omega) ?_); intro v' w1 hown' hgrow _)
      go_roundw
      case rel => exact ⟨k + 1, by omega, by go_num, by rw [unhide HT]; exact hown', ((hb.alloc hsz _).alloc (by simp; omega) _).grown hgrow (by simp; omega) (fun q e => (hown.lt q e).1)⟩
      case measure => simp [intOf]; omega
    · obtain rfl : k = g.roots.length := by omega
      have hsz : w.heap.size + 1 ≤ wr.heap.size := by have := hb.size; simpa using this
      have hbx : wr.cell? ⟨w.heap.size, 0, none⟩ = some (.slice ao g.objs.length co) := by rw [hb.cell (p := ⟨w.heap.size, 0, none⟩) (by simp)]; simp [go_sem]
      go_wp2
      go_loopw [3, 25] (fun s i wr => ∃ k : Nat, k ≤ g.objs.length ∧ i = .int .i64 k ∧ wr.ownsRow (w.heap.size + 1) 47 2 s (g.roots ++ (g.objs.take k).flatten).length (cellsV (g.roots ++ (g.objs.take k).flatten)) ∧ Below (w.heap.size + 1) (w.alloc (.cells #[.slice ao g.objs.length co, .slice ar g.roots.length cr] 25)) wr) (fun _ i _ => g.objs.length - (intOf i).toNat)
      case atStart => exact ⟨0, Nat.zero_le _, rfl, by simpa using hown, hb⟩
      case round =>
        clear hown hb hsz hbx
        obtain ⟨k, hk, rfl, hown, hb⟩ := hrel
        by_cases hlt : k < g.objs.length
        · have hb' : Below B w wr := ((Below.refl B w).alloc hB _).trans (hb.mono (by omega))
          have hsz : w.heap.size + 1 ≤ wr.heap.size := by have := hb.size; simpa using this
          obtain ⟨b, off, ai, ci, rfl, hbB, hc, hva⟩ := (ho.below hb').at hlt
          have hva0 : Vals B w ai g.objs[k] := hva.below' hb'
          have hn4 := h4 _ (List.getElem_mem hlt)
          have hnp : (g.roots ++ (g.objs.take k).flatten).length ≤ 104 := by
            have := flat_le (g.objs.take k) (fun l hl => h4 l (List.mem_of_mem_take hl))
            simp only [List.length_append, List.length_take] at *
            omega
          have HF := hide (flat_snoc hlt)
          generalize hpre : g.roots ++ (g.objs.take k).flatten = pre at *
          have Hpre := hide hpre
          clear hpre
          generalize hfs : g.objs[k] = fs at *

          clear hfs
          go_wp2
          go_loopw [3, 32] (fun s i wi => ∃ j : Nat, j ≤ fs.length ∧ i = .int .i64 j ∧ wi.ownsRow (w.heap.size + 1) 47 2 s (pre.length + j) (cellsV (pre ++ fs.take j)) ∧ Below (w.heap.size + 1) (w.alloc (.cells #[.slice (some ⟨b, off, none⟩) g.objs.length co, .slice ar g.roots.length cr] 25)) wi) (fun _ i _ => fs.length - (intOf i).toNat)
          case atStart => exact ⟨0, Nat.zero_le _, rfl, by simpa using hown.alloc _, hb.alloc hsz _⟩
          case round =>
            clear hown hb hsz hb' hc hva
            obtain ⟨j, hj, rfl, hown, hb⟩ := hrel
            by_cases hlt2 : j < fs.length
            · have hb' : Below B w wr := ((Below.refl B w).alloc hB _).trans (hb.mono (by omega))
              have hsz : w.heap.size + 1 ≤ wr.heap.size := by have := hb.size; simpa using this
              obtain ⟨b2, off2, r, n, rfl, hbB2, hc1, hc2, Hv⟩ := (hva0.below hb').at hlt2
              have HT := hide (snoc_take hlt2 Hv.out pre)
              go_wp2_with (at_builtin; go_must (refine wpList_append_own _ rfl _ _ 23 rfl (w.heap.size + 1) 47 i0 _ 2 16 Try.underlying23 hi hz0 hz1 hz2 rfl (by decide) _ _ _ rfl ((hown.alloc _).alloc _) ⟨wr.heap.size + 1, 0, none⟩ 1 1 [.bool r, .int .i64 n] rfl rfl (cell_two_at _ _ _ _ _ (by simp)) (by simp [Value.oneCell']) (by simp only [maxLen]; omega) (by omega) (by simp; omega) ?_); intro v' w1 hown' hgrow _)
              go_roundw
              case rel => exact ⟨j + 1, by omega, by go_num, by rw [unhide HT]; exact hown', ((hb.alloc hsz _).alloc (by simp; omega) _).grown hgrow (by simp; omega) (fun q e => (hown.lt q e).1)⟩
              case measure => simp [intOf]; omega
            · obtain rfl : j = fs.length := by omega
              go_wp2
              go_roundw
              case rel => exact ⟨k + 1, by omega, by go_num, by rw [unhide HF, ← List.append_assoc, unhide Hpre, List.length_append]; simpa using hown, hb⟩
              case measure => simp [intOf]; omega
        · obtain rfl : k = g.objs.length := by omega
          rw [List.take_length] at hown
          obtain ⟨a, cap, hv, hV, _⟩ := vals_of_owns hown rfl (by have := flat_le _ h4; simp only [List.length_append]; omega)
          go_wp2
          go_ret
          refine ⟨a, cap, ?_, hV, ((Below.refl _ w).alloc (Nat.le_refl _) _).trans (hb.mono (by omega))⟩
          exact congrArg Ending.returned hv

end Go.Proofs.Ytlolcdgbidboeaa

/- Walks. -/
namespace Go.Proofs.Ytlolcdgbidboeaa
set_option linter.unusedSimpArgs false
set_option linter.unusedVariables false
open Go.RowKit

theorem any_snoc {α : Type} (p : α → Bool) {l : List α} {k : Nat} (hk : k < l.length) : (l.take (k + 1)).any p = ((l.take k).any p || p l[k]) := by
  rw [List.take_succ_eq_append_getElem hk]
  simp only [List.any_append, List.any_cons, List.any_nil, Bool.or_false]

theorem any_take {α : Type} (p : α → Bool) {l : List α} {k : Nat} (h : (l.take k).any p = true) : l.any p = true := by
  rw [List.any_eq_true] at *
  obtain ⟨x, hx, hp⟩ := h
  exact ⟨x, List.mem_of_mem_take hx, hp⟩

theorem large_of_obj {g : Gr} {k : Nat} (hk : k < g.objs.length) (h : 4 < g.objs[k].length) : isLargeG g = true := by
  simp only [isLargeG, Bool.or_eq_true, List.any_eq_true, decide_eq_true_eq]
  exact .inr ⟨_, List.getElem_mem hk, h⟩

theorem badV_vals (v : V) (n : Nat) : badV v n = 0 ∨ badV v n = 2 ∨ badV v n = 3 := by
  unfold badV; split <;> split <;> simp

/-- The worst so far, none being 2. -/
def worst (l : List V) (n : Nat) : Int := if l.any (fun v => badV v n == 3) then 3 else 0

theorem worst_vals (l : List V) (n : Nat) : worst l n = 0 ∨ worst l n = 3 := by
  unfold worst; split <;> simp

theorem worst_snoc {l : List V} {k : Nat} (hk : k < l.length) {v : V} (hv : l[k] = v) (n : Nat) : worst (l.take (k + 1)) n = if worst (l.take k) n = 3 then 3 else if badV v n = 3 then 3 else 0 := by
  unfold worst
  rw [any_snoc _ hk, hv]
  by_cases h : (List.take k l).any (fun v => badV v n == 3) = true <;> by_cases h' : badV v n = 3 <;> simp [h, h']

theorem not_large {g : Gr} (h1 : ¬ 24 < g.objs.length) (h2 : ¬ 8 < g.roots.length) (h3 : g.objs.any (fun l => decide (4 < l.length)) = false) : isLargeG g = false := by
  simp only [isLargeG, h3, Bool.or_false]; simp; omega

set_option maxHeartbeats 1000000 in
theorem graphCheck_c (ao ar : Option Addr) (co cr : Nat) (g : Gr) (B : Nat) (w : World) (ho : Objs B w ao g.objs) (hr : Vals B w ar g.roots) (hB : B ≤ w.heap.size) :
    Calls Try.prog 7 #[.agg #[.slice ao g.objs.length co, .slice ar g.roots.length cr]] w fun e w' => e = .returned (.int .i64 (checkG g)) ∧ Below w.heap.size w w' := by
  have ho1 := ho.1
  have hr1 := hr.1
  by_cases h24 : 24 < g.objs.length
  · have d1 : (24 : Int) < (g.objs.length : Int) := by omega
    go_enter Try.func7, Try.ntmps7
    go_wp2
    go_ret
    exact ⟨ret_int (by simp [checkG, isLargeG, h24]), (Below.refl _ _).alloc (Nat.le_refl _) _⟩
  · have d1 : decide ((24 : Int) < (g.objs.length : Int)) = false := by simp; omega
    by_cases h8 : 8 < g.roots.length
    · have d2 : (8 : Int) < (g.roots.length : Int) := by omega
      go_enter Try.func7, Try.ntmps7
      go_wp2
      go_ret
      exact ⟨ret_int (by simp [checkG, isLargeG, h8]), (Below.refl _ _).alloc (Nat.le_refl _) _⟩
    · have d2 : decide ((8 : Int) < (g.roots.length : Int)) = false := by simp; omega
      go_enter Try.func7, Try.ntmps7
      go_wp2
      go_loopw [22] (fun i wr => ∃ k : Nat, k ≤ g.objs.length ∧ i = .int .i64 k ∧ (g.objs.take k).any (fun l => decide (4 < l.length)) = false ∧ Below (w.heap.size + 1) (w.alloc (.cells #[.slice ao g.objs.length co, .slice ar g.roots.length cr] 25)) wr) (fun i _ => g.objs.length - (intOf i).toNat)
      case atStart => exact ⟨0, Nat.zero_le _, rfl, by simp, Below.refl _ _⟩
      case round =>
        obtain ⟨k, hk, rfl, hno, hb⟩ := hrel
        have hsz : w.heap.size + 1 ≤ wr.heap.size := by have := hb.size; simpa using this
        have hb' : Below B w wr := ((Below.refl B w).alloc hB _).trans (hb.mono (by omega))
        by_cases hlt : k < g.objs.length
        · obtain ⟨b, off, ai, ci, rfl, hbB, hc, hva⟩ := (ho.below hb').at hlt
          have HT := hide (any_snoc (fun l : List V => decide (4 < l.length)) hlt)
          have HL := hide (large_of_obj hlt)
          generalize g.objs[k] = fs at *
          by_cases h4 : 4 < fs.length
          · have d3 : (4 : Int) < (fs.length : Int) := by omega
            go_wp2
            go_ret
            exact ⟨ret_int (by simp [checkG, unhide HL h4]), ((Below.refl _ w).alloc (Nat.le_refl _) _).trans ((hb.mono (by omega)).alloc (by omega) _)⟩
          · have d3 : decide ((4 : Int) < (fs.length : Int)) = false := by simp; omega
            go_wp2
            go_roundw
            case rel => exact ⟨k + 1, by omega, by go_num, by rw [unhide HT, hno]; simpa using h4, hb.alloc hsz _⟩
            case measure => simp [intOf]; omega
        · obtain rfl : k = g.objs.length := by omega
          rw [List.take_length] at hno
          have Hno := hide hno
          have h4 : ∀ l ∈ g.objs, l.length ≤ 4 := by
            intro l hl
            rw [List.any_eq_false] at hno
            have := hno l hl
            simpa using this
          have HL := hide (not_large h24 h8 hno)
          clear hno
          have hbx0 : wr.cell? ⟨w.heap.size, 0, none⟩ = some (.slice ao g.objs.length co) := by rw [hb.cell (p := ⟨w.heap.size, 0, none⟩) (by simp)]; simp [go_sem]
          have hbx1 : wr.cell? ⟨w.heap.size, 1, none⟩ = some (.slice ar g.roots.length cr) := by rw [hb.cell (p := ⟨w.heap.size, 1, none⟩) (by simp)]; simp [go_sem]
          go_wp2_with (go_at_call 18; go_must (refine (all_c _ _ _ _ g B _ (ho.below hb') (hr.below hb') (by omega) (by omega) (by omega) h4).mono ?_); rintro e w2 ⟨a, cap, rfl, hV, hb2⟩)
          have hl1 := hV.1
          have hsz2 := hb2.size
          have hbx2 : w2.cell? ⟨w.heap.size, 0, none⟩ = some (.slice ao g.objs.length co) := by rw [hb2.cell (p := ⟨w.heap.size, 0, none⟩) (by simp; omega)]; exact hbx0
          go_loopw [5, 34] (fun s i wi => ∃ k : Nat, k ≤ (allV g).length ∧ i = .int .i64 k ∧ s = .int .i64 (worst ((allV g).take k) g.objs.length) ∧ ((allV g).take k).any (fun v => badV v g.objs.length == 2) = false ∧ Below w2.heap.size w2 wi) (fun _ i _ => (allV g).length - (intOf i).toNat)
          case atStart => exact ⟨0, Nat.zero_le _, rfl, by simp [worst], by simp, Below.refl _ _⟩
          case round =>
            clear hbx0 hbx1
            obtain ⟨k, hk, rfl, rfl, hno2, hbi⟩ := hrel
            have hszi := hbi.size
            have hbi0 : wr.cell? ⟨w.heap.size, 0, none⟩ = some (.slice ao g.objs.length co) := by rw [hbi.cell (p := ⟨w.heap.size, 0, none⟩) (by simp; omega)]; exact hbx2
            by_cases hlt : k < (allV g).length
            · obtain ⟨b, off, r, n, rfl, hbB, hc1, hc2, Hv⟩ := (hV.below hbi).at hlt
              have HT := hide (any_snoc (fun v : V => badV v g.objs.length == 2) hlt)
              have HW := hide (worst_snoc hlt Hv.out g.objs.length)
              have HA := hide (fun h => any_take (fun v : V => badV v g.objs.length == 2) (l := allV g) (k := k + 1) h)
              rw [Hv.out] at HT
              have hx := badV_vals (r, n) g.objs.length
              have hy := worst_vals ((allV g).take k) g.objs.length
              generalize worst ((allV g).take k) g.objs.length = y at *
              generalize hX : badV (r, n) g.objs.length = x at *
              have HX := hide hX
              clear hX
              have Hno2 := hide hno2
              clear hno2
              have hbb : Below w.heap.size w wr := ((((Below.refl _ w).alloc (Nat.le_refl _) _).trans (hb.mono (by omega))).trans (hb2.mono (by omega))).trans (hbi.mono (by omega))
              have hq : w.heap.size < wr.heap.size := by omega
              rcases hx with rfl | rfl | rfl
              · rcases hy with rfl | rfl
                · go_wp2_with (go_at_call 19; go_must (refine (bad_c r n _ _).mono ?_); rintro e w3 ⟨he, hb3⟩; rw [unhide HX] at he; subst he)
                  go_roundw
                  case rel => exact ⟨k + 1, by omega, by go_num, by rw [unhide HW]; rfl, by rw [unhide HT, unhide Hno2]; rfl, (hbi.alloc hszi _).trans (hb3.mono (by simp; omega))⟩
                  case measure => simp [intOf]; omega
                · go_wp2_with (go_at_call 19; go_must (refine (bad_c r n _ _).mono ?_); rintro e w3 ⟨he, hb3⟩; rw [unhide HX] at he; subst he)
                  go_roundw
                  case rel => exact ⟨k + 1, by omega, by go_num, by rw [unhide HW]; rfl, by rw [unhide HT, unhide Hno2]; rfl, (hbi.alloc hszi _).trans (hb3.mono (by simp; omega))⟩
                  case measure => simp [intOf]; omega
              · go_wp2_with (go_at_call 19; go_must (refine (bad_c r n _ _).mono ?_); rintro e w3 ⟨he, hb3⟩; rw [unhide HX] at he; subst he)
                go_ret
                exact ⟨ret_int (by simp [checkG, unhide HL, unhide HA (by rw [unhide HT]; simp)]), (hbb.alloc hbb.size _).trans (hb3.mono (by have := hbb.size; simp; omega))⟩
              · rcases hy with rfl | rfl
                · go_wp2_with (go_at_call 19; go_must (refine (bad_c r n _ _).mono ?_); rintro e w3 ⟨he, hb3⟩; rw [unhide HX] at he; subst he)
                  go_roundw
                  case rel => exact ⟨k + 1, by omega, by go_num, by rw [unhide HW]; rfl, by rw [unhide HT, unhide Hno2]; rfl, (hbi.alloc hszi _).trans (hb3.mono (by simp; omega))⟩
                  case measure => simp [intOf]; omega
                · go_wp2_with (go_at_call 19; go_must (refine (bad_c r n _ _).mono ?_); rintro e w3 ⟨he, hb3⟩; rw [unhide HX] at he; subst he)
                  go_roundw
                  case rel => exact ⟨k + 1, by omega, by go_num, by rw [unhide HW]; rfl, by rw [unhide HT, unhide Hno2]; rfl, (hbi.alloc hszi _).trans (hb3.mono (by simp; omega))⟩
                  case measure => simp [intOf]; omega
            · obtain rfl : k = (allV g).length := by omega
              rw [List.take_length] at *
              go_wp2
              go_ret
              refine ⟨ret_int ?_, ((((Below.refl _ w).alloc (Nat.le_refl _) _).trans (hb.mono (by omega))).trans (hb2.mono (by omega))).trans (hbi.mono (by omega))⟩
              simp [checkG, unhide HL, hno2, worst]

end Go.Proofs.Ytlolcdgbidboeaa

/- Walks. -/
namespace Go.Proofs.Ytlolcdgbidboeaa
set_option linter.unusedSimpArgs false
set_option linter.unusedVariables false
open Go.RowKit

def isObj (n : Int) (N : Nat) : Bool := decide (0 ≤ n) && decide (n < (N : Int))

set_option maxHeartbeats 400000 in
theorem isObject_c (ao ar : Option Addr) (no co nr cr : Nat) (n : Int) (w : World) :
    Calls Try.prog 43 #[.agg #[.slice ao no co, .slice ar nr cr], .int .i64 n] w fun e w' => e = .returned (.bool (isObj n no)) ∧ w' = w.alloc (.cells #[.slice ao no co, .slice ar nr cr] 25) := by
  unfold isObj
  by_cases h : 0 ≤ n
  · go_enter Try.func43, Try.ntmps43
    go_wp2
    go_ret
    exact ⟨ret_bool (by simp [h]), rfl⟩
  · have hd : decide (0 ≤ n) = false := by simp [h]
    go_enter Try.func43, Try.ntmps43
    go_wp2
    go_ret
    exact ⟨ret_bool (by simp), rfl⟩

set_option maxHeartbeats 400000 in
theorem indexLarge_c (ao : Option Addr) (co : Nat) (L : List (List V)) (B : Nat) (w : World) (ho : Objs B w ao L) (hB : B ≤ w.heap.size) :
    Calls Try.prog 54 #[.slice ao L.length co, .func (.func 41) #[] #[]] w fun e w' => (∃ n : Int, e = .returned (.int .i64 n) ∧ decide (0 ≤ n) = L.any (fun l => decide (4 < l.length))) ∧ Below B w w' := by
  have ho1 := ho.1
  go_enter Try.func54, Try.ntmps54
  go_wp2
  go_loopw [8] (fun i wr => ∃ k : Nat, k ≤ L.length ∧ i = .int .i64 k ∧ (L.take k).any (fun l => decide (4 < l.length)) = false ∧ Below B w wr) (fun i _ => L.length - (intOf i).toNat)
  case atStart => exact ⟨0, Nat.zero_le _, rfl, by simp, Below.refl _ _⟩
  case round =>
    obtain ⟨k, hk, rfl, hno, hb⟩ := hrel
    have hsz := hb.size
    by_cases hlt : k < L.length
    · obtain ⟨b, off, ai, ci, rfl, hbB, hc, hva⟩ := (ho.below hb).at hlt
      have HT := hide (any_snoc (fun l : List V => decide (4 < l.length)) hlt)
      have HA := hide (fun h => any_take (fun l : List V => decide (4 < l.length)) (l := L) (k := k + 1) h)
      generalize L[k] = fs at *
      by_cases h4 : 4 < fs.length
      · have d3 : (4 : Int) < (fs.length : Int) := by omega
        have d4 : decide ((4 : Int) < (fs.length : Int)) = true := by simp; omega
        go_wp2_with (go_at_call 41; go_must (refine (isLarge1_c _ _ _ _).mono ?_); rintro e w3 ⟨he, hb3⟩; rw [d4] at he; subst he)
        go_ret
        exact ⟨⟨_, rfl, by rw [unhide HA (by rw [unhide HT]; simp [h4])]; simp⟩, hb.trans (hb3.mono (by omega))⟩
      · have d4 : decide ((4 : Int) < (fs.length : Int)) = false := by simp; omega
        go_wp2_with (go_at_call 41; go_must (refine (isLarge1_c _ _ _ _).mono ?_); rintro e w3 ⟨he, hb3⟩; rw [d4] at he; subst he)
        go_roundw
        case rel => exact ⟨k + 1, by omega, by go_num, by rw [unhide HT, hno]; simpa using h4, hb.trans (hb3.mono (by omega))⟩
        case measure => simp [intOf]; omega
    · obtain rfl : k = L.length := by omega
      rw [List.take_length] at hno
      go_wp2
      go_ret
      exact ⟨⟨_, rfl, by rw [hno]; rfl⟩, hb⟩

set_option maxHeartbeats 400000 in
theorem containsLarge_c (ao : Option Addr) (co : Nat) (L : List (List V)) (B : Nat) (w : World) (ho : Objs B w ao L) (hB : B ≤ w.heap.size) :
    Calls Try.prog 40 #[.slice ao L.length co, .func (.func 41) #[] #[]] w fun e w' => e = .returned (.bool (L.any (fun l => decide (4 < l.length)))) ∧ Below B w w' := by
  go_enter Try.func40, Try.ntmps40
  go_wp2_with (go_at_call 54; go_must (refine (indexLarge_c _ _ L B _ ho hB).mono ?_); rintro e w3 ⟨⟨n, rfl, hn⟩, hb3⟩; have Hn := hide hn; clear hn)
  go_ret
  exact ⟨ret_bool (unhide Hn), hb3⟩

set_option maxHeartbeats 400000 in
theorem isLarge_c (ao ar : Option Addr) (co cr : Nat) (g : Gr) (B : Nat) (w : World) (ho : Objs B w ao g.objs) (hr : Vals B w ar g.roots) (hB : B ≤ w.heap.size) :
    Calls Try.prog 26 #[.agg #[.slice ao g.objs.length co, .slice ar g.roots.length cr]] w fun e w' => e = .returned (.bool (isLargeG g)) ∧ Below B w w' := by
  have ho1 := ho.1
  have hr1 := hr.1
  by_cases h24 : 24 < g.objs.length
  · have d1 : (24 : Int) < (g.objs.length : Int) := by omega
    go_enter Try.func26, Try.ntmps26
    go_wp2
    go_ret
    exact ⟨ret_bool (by simp [isLargeG, h24]), (Below.refl _ _).alloc hB _⟩
  · have d1 : decide ((24 : Int) < (g.objs.length : Int)) = false := by simp; omega
    by_cases h8 : 8 < g.roots.length
    · have d2 : (8 : Int) < (g.roots.length : Int) := by omega
      go_enter Try.func26, Try.ntmps26
      go_wp2
      go_ret
      exact ⟨ret_bool (by simp [isLargeG, h8]), (Below.refl _ _).alloc hB _⟩
    · have d2 : decide ((8 : Int) < (g.roots.length : Int)) = false := by simp; omega
      have hb1 := (Below.refl B w).alloc hB (.cells #[.slice ao g.objs.length co, .slice ar g.roots.length cr] 25)
      go_enter Try.func26, Try.ntmps26
      go_wp2_with (go_at_call 40; go_must (refine (containsLarge_c _ _ g.objs B _ (ho.below hb1) (by simp; omega)).mono ?_); rintro e w3 ⟨rfl, hb3⟩)
      go_ret
      exact ⟨ret_bool (by simp [isLargeG, h24, h8]), hb1.trans hb3⟩

end Go.Proofs.Ytlolcdgbidboeaa

/- Walks: the iterator over all values of a graph. -/
namespace Go.Proofs.Ytlolcdgbidboeaa
set_option linter.unusedSimpArgs false
set_option linter.unusedVariables false
open Go.RowKit Go.Shelf
attribute [local go_sem] Oper.semAt_some

/-- A value as yield is handed it. -/
def encV (v : V) : Array Value := #[.agg #[.bool v.1, .int .i64 v.2]]

theorem take_snoc {α : Type} {l : List α} {k : Nat} (hk : k < l.length) {v : α} (h : l[k] = v) (pre : List α) : pre ++ l.take (k + 1) = (pre ++ l.take k) ++ [v] := by
  rw [List.take_succ_eq_append_getElem hk, h, ← List.append_assoc]

theorem flat_split {g : Gr} {k : Nat} (hk : k < g.objs.length) : allV g = g.roots ++ (g.objs.take k).flatten ++ g.objs[k] ++ (g.objs.drop (k + 1)).flatten := by
  have h : g.objs = g.objs.take k ++ [g.objs[k]] ++ g.objs.drop (k + 1) := by
    rw [← List.take_succ_eq_append_getElem hk, List.take_append_drop]
  unfold allV
  conv => lhs; rw [h]
  simp only [List.flatten_append, List.flatten_cons, List.flatten_nil, List.append_nil, List.append_assoc]

set_option maxRecDepth 100000 in
set_option maxHeartbeats 2000000 in
theorem values1_in (n : Nat) (hn : 1 ≤ n) (l Bs n₀ : Nat) (ao ar : Option Addr) (co cr : Nat) (g : Gr) (J Jx : List V → World → Prop)
    (hY : ∀ pre x W, J pre W → pre.length < (allV g).length → YieldAt Fence.wide (n - 1) Try.prog l (encV x) W fun e W' =>
      (e = .returned (.bool true) ∧ J (pre ++ [x]) W' ∧ Below n₀ W W') ∨ (e = .returned (.bool false) ∧ Jx (pre ++ [x]) W'))
    (W : World) (hJa : ∀ pre X o, J pre X → J pre (X.alloc o)) (hn0 : n₀ ≤ W.heap.size) (hBs : Bs < n₀) (hc0 : W.cell? ⟨Bs, 0, none⟩ = some (.slice ao g.objs.length co)) (hc1 : W.cell? ⟨Bs, 1, none⟩ = some (.slice ar g.roots.length cr))
    (ho : Objs n₀ W ao g.objs) (hr : Vals n₀ W ar g.roots) (h0 : J [] W) :
    CallsIn Fence.wide n Try.prog 55 #[.func (.yield l) #[] #[], .pointer (some ⟨Bs, 0, none⟩)] W fun e W' => (∃ v, e = .returned v) ∧
      ((∃ ys, ys = allV g ∧ J ys W') ∨ (∃ pre, pre <+: allV g ∧ Jx pre W')) := by
  have hr1 := hr.1
  have ho1 := ho.1
  refine callsIn_of_wp Try.func55 rfl trivial ?_ rfl
  simp only [Try.ntmps55, List.size_toArray, List.length_cons, List.length_nil, Nat.reduceAdd, Nat.reduceSub, Array.replicate_succ, Array.replicate_zero, List.push_toArray, List.append_toArray, List.nil_append, List.cons_append]
  gi_wp2
  gi_loopw [12] (fun i wr => ∃ k : Nat, k ≤ g.roots.length ∧ i = .int .i64 k ∧ J ([] ++ g.roots.take k) wr ∧ Below n₀ W wr) (fun i _ => g.roots.length - (intOf i).toNat)
  case atStart => exact ⟨0, Nat.zero_le _, rfl, h0, Below.refl _ _⟩
  case round =>
    obtain ⟨k, hk, rfl, hJ, hb⟩ := hrel
    have hsz := hb.size
    by_cases hlt : k < g.roots.length
    · obtain ⟨b, off, r, m, rfl, hbB, hd1, hd2, Hv⟩ := (hr.below hb).at hlt
      have HT := hide (take_snoc hlt Hv.out [])
      obtain ⟨fn, tmps, assign, body, hy, hR⟩ := hY _ (r, m) (wr.alloc (.cells #[.bool r, .int .i64 m] 47)) (hJa _ _ _ hJ) (by simp [allV]; omega)
      dsimp only [encV] at hy
      gi_wp2
      refine hR.mono ?_
      rintro e W3 (⟨rfl, hJ3, hk3⟩ | ⟨rfl, hJx3⟩)
      · gi_wp2
        go_roundw
        case rel => exact ⟨k + 1, by omega, by go_num, by rw [unhide HT]; exact hJ3, (hb.alloc (by omega) _).trans hk3⟩
        case measure => simp [intOf]; omega
      · gi_wp2
        refine bodyPost_ret (results_none rfl _ _ _) rfl ?_
        exact ⟨⟨_, rfl⟩, .inr ⟨_, ⟨g.roots.drop (k + 1) ++ g.objs.flatten, by rw [← unhide HT]; simp [allV, ← List.append_assoc]⟩, hJx3⟩⟩
    · obtain rfl : k = g.roots.length := by omega
      rw [List.take_length] at hJ
      have hd0 := (hb.cell (p := ⟨Bs, 0, none⟩) hBs).trans hc0
      gi_wp2
      gi_loopw [24] (fun i wr => ∃ k : Nat, k ≤ g.objs.length ∧ i = .int .i64 k ∧ J (g.roots ++ (g.objs.take k).flatten) wr ∧ Below n₀ W wr) (fun i _ => g.objs.length - (intOf i).toNat)
      case atStart => exact ⟨0, Nat.zero_le _, rfl, by simpa using hJ, hb⟩
      case round =>
        clear hJ hb hsz hd0
        obtain ⟨k, hk, rfl, hJ, hb⟩ := hrel
        have hsz := hb.size
        by_cases hlt : k < g.objs.length
        · obtain ⟨b, off, ai, ci, rfl, hbB, hc, hva⟩ := (ho.below hb).at hlt
          have hva0 : Vals n₀ W ai g.objs[k] := hva.below' hb
          have hva1 := hva0.1
          have HF := hide (flat_snoc hlt)
          have HP := hide (flat_split hlt)
          generalize hpre : g.roots ++ (g.objs.take k).flatten = pre at *
          have Hpre := hide hpre
          clear hpre
          generalize g.objs[k] = fs at *
          gi_wp2
          gi_loopw [31] (fun i wi => ∃ j : Nat, j ≤ fs.length ∧ i = .int .i64 j ∧ J (pre ++ fs.take j) wi ∧ Below n₀ W wi) (fun i _ => fs.length - (intOf i).toNat)
          case atStart => exact ⟨0, Nat.zero_le _, rfl, by simpa using hJa _ _ _ hJ, hb.alloc (by omega) _⟩
          case round =>
            clear hJ hb hsz hc hva
            obtain ⟨j, hj, rfl, hJ, hb⟩ := hrel
            have hsz := hb.size
            by_cases hlt2 : j < fs.length
            · obtain ⟨b2, off2, r, m, rfl, hbB2, hd1, hd2, Hv⟩ := (hva0.below hb).at hlt2
              have HT := hide (take_snoc hlt2 Hv.out pre)
              obtain ⟨fn, tmps, assign, body, hy, hR⟩ := hY _ (r, m) (wr.alloc (.cells #[.bool r, .int .i64 m] 47)) (hJa _ _ _ hJ) (by rw [unhide HP, ← unhide Hpre]; simp only [List.length_append, List.length_take]; omega)
              dsimp only [encV] at hy
              gi_wp2
              refine hR.mono ?_
              rintro e W3 (⟨rfl, hJ3, hk3⟩ | ⟨rfl, hJx3⟩)
              · gi_wp2
                go_roundw
                case rel => exact ⟨j + 1, by omega, by go_num, by rw [unhide HT]; exact hJ3, (hb.alloc (by omega) _).trans hk3⟩
                case measure => simp [intOf]; omega
              · gi_wp2
                refine bodyPost_ret (results_none rfl _ _ _) rfl ?_
                exact ⟨⟨_, rfl⟩, .inr ⟨_, ⟨fs.drop (j + 1) ++ (g.objs.drop (k + 1)).flatten, by rw [← unhide HT, unhide HP]; simp only [← List.append_assoc]; rw [List.append_assoc pre, List.take_append_drop]⟩, hJx3⟩⟩
            · obtain rfl : j = fs.length := by omega
              gi_wp2
              go_roundw
              case rel => exact ⟨k + 1, by omega, by go_num, by rw [unhide HF, ← List.append_assoc, unhide Hpre]; simpa using hJ, hb⟩
              case measure => simp [intOf]; omega
        · obtain rfl : k = g.objs.length := by omega
          rw [List.take_length] at hJ
          gi_wp2
          go_end0
          exact ⟨⟨_, rfl⟩, .inl ⟨_, rfl, hJ⟩⟩

theorem values1_stops (n : Nat) (hn : 1 ≤ n) (Bs n₀ : Nat) (ao ar : Option Addr) (co cr : Nat) (g : Gr) (w : World) (hn0 : n₀ ≤ w.heap.size) (hBs : Bs < n₀)
    (hc0 : w.cell? ⟨Bs, 0, none⟩ = some (.slice ao g.objs.length co)) (hc1 : w.cell? ⟨Bs, 1, none⟩ = some (.slice ar g.roots.length cr)) (ho : Objs n₀ w ao g.objs) (hr : Vals n₀ w ar g.roots) :
    SeqStopsK Fence.wide n Try.prog 55 #[.pointer (some ⟨Bs, 0, none⟩)] encV (Below n₀) (fun ys => ys = allV g) (fun pre => pre <+: allV g) (allV g).length w := fun l J Jx W hW hJ _ hY h0 => by
  have hW' := hW.mono hn0
  have := hW.size
  exact values1_in n hn l Bs n₀ ao ar co cr g J Jx hY W (fun pre X o hj => hJ pre X _ none hj (World.grownBy_alloc X o none) (fun r e => by cases e)) (by omega) hBs
    ((hW'.cell (p := ⟨Bs, 0, none⟩) hBs).trans hc0) ((hW'.cell (p := ⟨Bs, 1, none⟩) hBs).trans hc1) (ho.below hW') (hr.below hW') h0

end Go.Proofs.Ytlolcdgbidboeaa

/- Walks: graph.Check. -/
namespace Go.Proofs.Ytlolcdgbidboeaa
set_option linter.unusedSimpArgs false
set_option linter.unusedVariables false
open Go.RowKit Go.Shelf
attribute [local go_sem] Oper.semAt_some

set_option maxRecDepth 100000 in
set_option maxHeartbeats 2000000 in
theorem values_c (ao ar : Option Addr) (no co nr cr : Nat) (w : World) :
    Calls Try.prog 42 #[.agg #[.slice ao no co, .slice ar nr cr]] w fun e w' => e = .returned (.func (.func 55) #[] #[.pointer (some ⟨w.heap.size, 0, none⟩)]) ∧ w' = w.alloc (.cells #[.slice ao no co, .slice ar nr cr] 25) := by
  go_enter Try.func42, Try.ntmps42
  go_wp2
  go_ret
  exact ⟨rfl, rfl⟩

theorem any_prefix {α : Type} {p : α → Bool} {pre l : List α} (h : pre.any p = true) (hp : pre <+: l) : l.any p = true := by
  rw [List.any_eq_true] at *
  obtain ⟨x, hx, hpx⟩ := h
  exact ⟨x, hp.mem hx, hpx⟩

def refBad (g : Gr) (v : V) : Bool := badV v g.objs.length == 2
def numBad (g : Gr) (v : V) : Bool := badV v g.objs.length == 3

theorem refBad_false (g : Gr) (m : Int) : refBad g (false, m) = false := by
  unfold refBad badV; simp; split <;> simp
theorem refBad_true (g : Gr) (m : Int) : refBad g (true, m) = !isObj m g.objs.length := by
  unfold refBad badV isObj
  by_cases h1 : m < 0 <;> by_cases h2 : (g.objs.length : Int) ≤ m <;> simp [h1, h2] <;> omega
theorem numBad_true (g : Gr) (m : Int) : numBad g (true, m) = false := by
  unfold numBad badV; simp; split <;> simp
theorem numBad_false (g : Gr) (m : Int) : numBad g (false, m) = !isNum m := by
  unfold numBad badV isNum
  by_cases h1 : m < -4611686018427387904 <;> by_cases h2 : 4611686018427387903 < m <;> simp [h1, h2] <;> omega

/-- What is wrong with values. -/
def checkV (g : Gr) : Int := if (allV g).any (refBad g) then 2 else if (allV g).any (numBad g) then 3 else 0

theorem checkG_eq (g : Gr) (h : isLargeG g = false) : checkG g = checkV g := by
  unfold checkG; rw [h]; rfl

theorem checkG_large (g : Gr) (h : isLargeG g = true) : checkG g = 1 := by
  unfold checkG; rw [h]; rfl

set_option maxRecDepth 100000 in
set_option maxHeartbeats 2000000 in
theorem checkV_c (ao ar : Option Addr) (co cr : Nat) (g : Gr) (B : Nat) (w : World) (ho : Objs B w ao g.objs) (hr : Vals B w ar g.roots) (hB : B ≤ w.heap.size) :
    Calls Try.prog 27 #[.agg #[.slice ao g.objs.length co, .slice ar g.roots.length cr]] w fun e w' => e = .returned (.int .i64 (checkV g)) ∧ Below w.heap.size w w' := by
  have hb1 := ((Below.refl B w).alloc hB (.cells #[.slice ao g.objs.length co, .slice ar g.roots.length cr] 25)).alloc (by simp; omega) (.cells #[.int .i64 0] 28)
  have hk1 := ((Below.refl w.heap.size w).alloc (Nat.le_refl _) (.cells #[.slice ao g.objs.length co, .slice ar g.roots.length cr] 25)).alloc (by simp) (.cells #[.int .i64 0] 28)
  have HC : Hid (checkV g = if (allV g).any (refBad g) then 2 else if (allV g).any (numBad g) then 3 else 0) := rfl
  refine (callsIn_wide (n := 8)).1 ?_
  refine callsIn_of_wp_marks Try.func27 rfl trivial ?_ rfl
  simp only [Try.ntmps27, List.size_toArray, List.length_cons, List.length_nil, Nat.reduceAdd, Nat.reduceSub, Array.replicate_succ, Array.replicate_zero, List.push_toArray, List.append_toArray, List.nil_append, List.cons_append]
  gi_wp2_with (refine ⟨trivial, ?_⟩; gi_at_call 42; go_must (refine (callsIn_wide.2 (values_c _ _ _ _ _ _ _)).mono ?_); rintro e w3 ⟨rfl, hw3⟩; subst hw3)
  obtain ⟨w2, hw2⟩ : ∃ w2, (w.alloc (.cells #[.slice ao g.objs.length co, .slice ar g.roots.length cr] 25)).alloc (.cells #[.int .i64 0] 28) = w2 := ⟨_, rfl⟩
  rw [hw2] at hb1 hk1
  have hs2 : w2.heap.size = w.heap.size + 2 := by rw [← hw2]; simp
  have hc2 : w2.cell? ⟨w.heap.size + 1, 0, none⟩ = some (.int .i64 0) := by rw [← hw2]; simp [go_sem]
  have hf2 : w2.frozen? ⟨w.heap.size + 1, 0, none⟩ = false := by rw [← hw2]; simp [go_sem]
  have hg2 : w2.cell? ⟨w.heap.size, 0, none⟩ = some (.slice ao g.objs.length co) := by rw [← hw2]; simp [go_sem]
  have hh2 : w2.cell? ⟨w.heap.size, 1, none⟩ = some (.slice ar g.roots.length cr) := by rw [← hw2]; simp [go_sem]
  have hbB : Below B w w2 := hb1
  have hbW : Below w.heap.size w w2 := hk1
  rw [hw2]
  clear hw2
  have hs2' : w.heap.size + 1 + 1 = w2.heap.size := by omega
  obtain ⟨W3, hW3⟩ : ∃ W3, w2.alloc (.cells #[.slice ao g.objs.length co, .slice ar g.roots.length cr] 25) = W3 := ⟨_, rfl⟩
  rw [hW3]
  have hs3 : W3.heap.size = w2.heap.size + 1 := by rw [← hW3]; simp
  have hx0 : W3.cell? ⟨w.heap.size + 1 + 1, 0, none⟩ = some (.slice ao g.objs.length co) := by rw [hs2', ← hW3]; simp [go_sem]
  have hx1 : W3.cell? ⟨w.heap.size + 1 + 1, 1, none⟩ = some (.slice ar g.roots.length cr) := by rw [hs2', ← hW3]; simp [go_sem]
  have hb23 : Below w2.heap.size w2 W3 := by rw [← hW3]; exact (Below.refl _ _).alloc (Nat.le_refl _) _
  clear hW3
  have hs2a : w2.heap.size ≤ w.heap.size + 2 := by omega
  have hs2b : w.heap.size + 2 ≤ w2.heap.size := by omega
  clear hs2 hs2'
  have hc3 := (hb23.cell (p := ⟨w.heap.size + 1, 0, none⟩) (by simp; omega)).trans hc2
  have hf3 := (hb23.frozen (p := ⟨w.heap.size + 1, 0, none⟩) (by simp; omega)).trans hf2
  have hg3 := (hb23.cell (p := ⟨w.heap.size, 0, none⟩) (by simp; omega)).trans hg2
  have hh3 := (hb23.cell (p := ⟨w.heap.size, 1, none⟩) (by simp; omega)).trans hh2
  have hb3B : Below B w W3 := hbB.trans (hb23.mono (by omega))
  have hb3W : Below w.heap.size w W3 := hbW.trans (hb23.mono (by omega))
  refine wpIn_rangeFunc_ownH (F := Fence.wide) (n := 8) rfl (by omega) (gf := 55) (lb := #[.pointer (some ⟨w.heap.size + 1 + 1, 0, none⟩)]) rfl trivial (enters_of Try.func55 (by kernel_rfl) rfl)
    (values1_stops 7 (by omega) (w.heap.size + 1 + 1) W3.heap.size ao ar co cr g W3 (Nat.le_refl _) (by omega) hx0 hx1 ((ho.below hb3B).mono (by omega)) ((hr.below hb3B).mono (by omega))) belowK_t (belowK_b (Nat.le_refl _)) (Below.refl _ _) (fun _ => rfl)
    (fun pre W => pre.any (refBad g) = false ∧ Below W3.heap.size W3 W)
    (fun c pre W => (c = .ret ∧ pre.any (refBad g) = true) ∧ W.cell? ⟨w.heap.size + 1, 0, none⟩ = some (.int .i64 2) ∧ Below w.heap.size W3 W)
    (OwnFrom.and (ownFrom_pure _ _) (ownFrom_below (Nat.le_refl _) (Nat.le_refl _)))
    (fun c => OwnFrom.and (ownFrom_pure _ _) (OwnFrom.and (Own.from (fun s A B row hs hg hr => cell_kept hs hg hr) _) (ownFrom_below (by omega) (by omega))))
    ⟨rfl, Below.refl _ _⟩
    (fun x a' W => ∃ Bx, W3.heap.size ≤ Bx ∧ W.cell? ⟨Bx, 0, none⟩ = some (.bool x.1) ∧ W.cell? ⟨Bx, 1, none⟩ = some (.int .i64 x.2) ∧ a' = { tmps := #[.agg #[.slice ao g.objs.length co, .slice ar g.roots.length cr], .pointer (some ⟨w.heap.size, 0, none⟩), .pointer (some ⟨w.heap.size + 1, 0, none⟩), .pointer (some ⟨Bx, 0, none⟩), undef, .agg #[.slice ao g.objs.length co, .slice ar g.roots.length cr], .func (.func 55) #[] #[.pointer (some ⟨w.heap.size + 1 + 1, 0, none⟩)], .agg #[.bool x.1, .int .i64 x.2], undef, undef, undef, undef, undef, undef, undef, undef, undef, undef, undef, undef, undef, undef, undef, undef, undef, undef, undef, undef, undef], defers := [] })
    (fun x a' _ A B row ⟨Bx, h1, h2, h3, h4⟩ hg hr => ⟨Bx, h1, cell_kept h2 hg (fun r e => (hr r e).2), cell_kept h3 hg (fun r e => (hr r e).2), h4⟩) ?assign ?body ?done ?stop
  case assign =>
    rintro l pre x W K ⟨hp, hB⟩ hK
    have := hB.size
    unfold encV
    gi_wp2
    refine hK _ _ ((KeepsOthers.alloc _ _).from _) ((Below.refl _ W).alloc this _) ⟨hp, hB.alloc this _⟩ ⟨W.heap.size, this, ?_, ?_, rfl⟩
    all_goals simp [go_sem]
  case body =>
    rintro l pre ⟨r, m⟩ a' W hl _ ⟨hp, hB⟩ ⟨Bx, hBx, hd1, hd2, rfl⟩ _
    have hsW := hB.size
    have hcW := (hB.cell (p := ⟨w.heap.size + 1, 0, none⟩) (by simp; omega)).trans hc3
    have hfW := (hB.frozen (p := ⟨w.heap.size + 1, 0, none⟩) (by simp; omega)).trans hf3
    have hgW := (hB.cell (p := ⟨w.heap.size, 0, none⟩) (by simp; omega)).trans hg3
    have hhW := (hB.cell (p := ⟨w.heap.size, 1, none⟩) (by simp; omega)).trans hh3
    have hq : w.heap.size + 1 < W.heap.size := by omega
    have Hp := hide hp
    clear hp
    cases r
    · gi_wp2
      refine ⟨trivial, ?_⟩
      gi_wp2
      exact ⟨(KeepsOthers.refl _).from _, Below.refl _ _, by rw [List.any_append, unhide Hp]; simp [refBad_false], hB⟩
    · cases ho : isObj m g.objs.length
      · have Ho := hide ho
        clear ho
        gi_wp2_with (refine ⟨trivial, ?_⟩; gi_at_call 43; go_must (refine (CallsIn.inRound l (callsIn_wide.2 (isObject_c _ _ _ _ _ _ _ _))).mono ?_); rintro e w3 ⟨he, hw3⟩; rw [unhide Ho] at he; subst he; subst hw3)
        refine ⟨((KeepsOthers.setCell _ _ _).trans (KeepsOthers.alloc _ _)).from _, ⟨rfl, by rw [List.any_append]; simp [refBad_true, unhide Ho]⟩, ?_, ((hB.mono (by omega)).setCell (p := ⟨w.heap.size + 1, 0, none⟩) (by simp) _).alloc (by simp; omega) _⟩
        rw [World.cell?_alloc_past _ _ _ (by simp; omega)]
        exact World.cell?_setCell_same' _ _ _ (by rw [hcW]; rfl)
      · have Ho := hide ho
        clear ho
        gi_wp2_with (refine ⟨trivial, ?_⟩; gi_at_call 43; go_must (refine (CallsIn.inRound l (callsIn_wide.2 (isObject_c _ _ _ _ _ _ _ _))).mono ?_); rintro e w3 ⟨he, hw3⟩; rw [unhide Ho] at he; subst he; subst hw3)
        exact ⟨(KeepsOthers.alloc _ _).from _, (Below.refl _ _).alloc hsW _, by rw [List.any_append, unhide Hp]; simp [refBad_true, unhide Ho], hB.alloc hsW _⟩
  case done =>
    rintro D xs W hD rfl ⟨hp, hB⟩ hK
    have HP1 := hide hp
    clear hp
    have hsW := hB.size
    have hcW := (hB.cell (p := ⟨w.heap.size + 1, 0, none⟩) (by simp; omega)).trans hc3
    have hfW := (hB.frozen (p := ⟨w.heap.size + 1, 0, none⟩) (by simp; omega)).trans hf3
    have hgW := (hB.cell (p := ⟨w.heap.size, 0, none⟩) (by simp; omega)).trans hg3
    have hhW := (hB.cell (p := ⟨w.heap.size, 1, none⟩) (by simp; omega)).trans hh3
    have hb4B : Below B w W := hb3B.trans (hB.mono (by omega))
    have hb4W : Below w.heap.size w W := hb3W.trans (hB.mono (by omega))
    have hDs : D < W.heap.size := (Array.getElem?_eq_some_iff.1 hK).1
    have HK := hide hK
    clear hc2 hf2 hg2 hh2 hc3 hf3 hg3 hh3 hx0 hx1 hK
    gi_wp2_with (refine ⟨trivial, ?_⟩; gi_at_call 42; go_must (refine (callsIn_wide.2 (values_c _ _ _ _ _ _ _)).mono ?_); rintro e w3 ⟨rfl, hw3⟩; subst hw3)
    obtain ⟨W4, hW4⟩ : ∃ W4, W.alloc (.cells #[.slice ao g.objs.length co, .slice ar g.roots.length cr] 25) = W4 := ⟨_, rfl⟩
    rw [hW4]
    have hs4 : W4.heap.size = W.heap.size + 1 := by rw [← hW4]; simp
    have hx0 : W4.cell? ⟨W.heap.size, 0, none⟩ = some (.slice ao g.objs.length co) := by rw [← hW4]; simp [go_sem]
    have hx1 : W4.cell? ⟨W.heap.size, 1, none⟩ = some (.slice ar g.roots.length cr) := by rw [← hW4]; simp [go_sem]
    have hb34 : Below W.heap.size W W4 := by rw [← hW4]; exact (Below.refl _ _).alloc (Nat.le_refl _) _
    clear hW4
    have hc3 := (hb34.cell (p := ⟨w.heap.size + 1, 0, none⟩) (by simp; omega)).trans hcW
    have hf3 := (hb34.frozen (p := ⟨w.heap.size + 1, 0, none⟩) (by simp; omega)).trans hfW
    have HK4 : Hid (W4.heap[D]? = some (.deferred (some []))) := (hb34.block D hDs).trans (unhide HK)
    have hb5B : Below B w W4 := hb4B.trans (hb34.mono (by omega))
    have hb5W : Below w.heap.size w W4 := hb4W.trans (hb34.mono (by omega))
    clear hcW hfW hgW hhW
    refine wpIn_rangeFunc_ownH (F := Fence.wide) (n := 8) rfl (by omega) (gf := 55) (lb := #[.pointer (some ⟨W.heap.size, 0, none⟩)]) rfl trivial (enters_of Try.func55 (by kernel_rfl) rfl)
      (values1_stops 7 (by omega) W.heap.size W4.heap.size ao ar co cr g W4 (Nat.le_refl _) (by omega) hx0 hx1 ((ho.below hb5B).mono (by omega)) ((hr.below hb5B).mono (by omega))) belowK_t (belowK_b (Nat.le_refl _)) (Below.refl _ _) (fun _ => rfl)
      (fun pre X => pre.any (numBad g) = false ∧ Below W4.heap.size W4 X)
      (fun c pre X => (c = .ret ∧ pre.any (numBad g) = true) ∧ X.cell? ⟨w.heap.size + 1, 0, none⟩ = some (.int .i64 3) ∧ Below w.heap.size W4 X ∧ X.heap[D]? = some (.deferred (some [])))
      (OwnFrom.and (ownFrom_pure _ _) (ownFrom_below (Nat.le_refl _) (Nat.le_refl _)))
      (fun c => OwnFrom.and (ownFrom_pure _ _) (OwnFrom.and (Own.from (fun s A B row hs hg hr => cell_kept hs hg hr) _) (OwnFrom.and (ownFrom_below (by omega) (by omega))
        (fun _ X Y row hs hg hr => (hg.block D (Array.getElem?_eq_some_iff.1 hs).1 (fun e => by have := (hr D e.symm).1; omega)).trans hs))))
      ⟨rfl, Below.refl _ _⟩
      (fun x a' X => ∃ Bx, W4.heap.size ≤ Bx ∧ X.cell? ⟨Bx, 0, none⟩ = some (.bool x.1) ∧ X.cell? ⟨Bx, 1, none⟩ = some (.int .i64 x.2) ∧ a' = { tmps := #[.agg #[.slice ao g.objs.length co, .slice ar g.roots.length cr], .pointer (some ⟨w.heap.size, 0, none⟩), .pointer (some ⟨w.heap.size + 1, 0, none⟩), undef, .pointer (some ⟨Bx, 0, none⟩), .agg #[.slice ao g.objs.length co, .slice ar g.roots.length cr], .func (.func 55) #[] #[.pointer (some ⟨w.heap.size + 1 + 1, 0, none⟩)], undef, undef, undef, undef, undef, undef, undef, undef, undef, undef, .agg #[.slice ao g.objs.length co, .slice ar g.roots.length cr], .func (.func 55) #[] #[.pointer (some ⟨W.heap.size, 0, none⟩)], .agg #[.bool x.1, .int .i64 x.2], undef, undef, undef, undef, undef, undef, undef, undef, undef], defers := [] })
      (fun x a' _ A B row ⟨Bx, h1, h2, h3, h4⟩ hg hr => ⟨Bx, h1, cell_kept h2 hg (fun r e => (hr r e).2), cell_kept h3 hg (fun r e => (hr r e).2), h4⟩) ?assign2 ?body2 ?done2 ?stop2
    case assign2 =>
      rintro l pre x X K ⟨hp, hBX⟩ hKK
      have := hBX.size
      unfold encV
      gi_wp2
      refine hKK _ _ ((KeepsOthers.alloc _ _).from _) ((Below.refl _ X).alloc this _) ⟨hp, hBX.alloc this _⟩ ⟨X.heap.size, this, ?_, ?_, rfl⟩
      all_goals simp [go_sem]
    case body2 =>
      rintro l pre ⟨r, m⟩ a' X hl _ ⟨hp, hBX⟩ ⟨Bx, hBx, hd1, hd2, rfl⟩ _
      have hsX := hBX.size
      have hcX := (hBX.cell (p := ⟨w.heap.size + 1, 0, none⟩) (by simp; omega)).trans hc3
      have hfX := (hBX.frozen (p := ⟨w.heap.size + 1, 0, none⟩) (by simp; omega)).trans hf3
      have hDX : X.heap[D]? = some (.deferred (some [])) := (hBX.block D (by omega)).trans (unhide HK4)
      have HDX := hide hDX
      clear hDX
      have Hp := hide hp
      clear hp
      cases r
      · cases hn : isNum m
        · have Hn := hide hn
          clear hn
          gi_wp2_with (refine ⟨trivial, ?_⟩; gi_at_call 44; go_must (refine (CallsIn.inRound l (callsIn_wide.2 (isNumber_c _ _))).mono ?_); rintro e w3 ⟨he, hw3⟩; rw [unhide Hn] at he; subst he; subst hw3)
          refine ⟨(KeepsOthers.setCell _ _ _).from _, ⟨rfl, by rw [List.any_append]; simp [numBad_false, unhide Hn]⟩, World.cell?_setCell_same' _ _ _ (by rw [hcX]; rfl), ((hBX.mono (by omega)).setCell (p := ⟨w.heap.size + 1, 0, none⟩) (by simp) _), ?_⟩
          rw [Below.heap_setCell _ _ _ _ (by simp; omega)]
          exact unhide HDX
        · have Hn := hide hn
          clear hn
          gi_wp2_with (refine ⟨trivial, ?_⟩; gi_at_call 44; go_must (refine (CallsIn.inRound l (callsIn_wide.2 (isNumber_c _ _))).mono ?_); rintro e w3 ⟨he, hw3⟩; rw [unhide Hn] at he; subst he; subst hw3)
          exact ⟨(KeepsOthers.refl _).from _, Below.refl _ _, by rw [List.any_append, unhide Hp]; simp [numBad_false, unhide Hn], hBX⟩
      · gi_wp2
        refine ⟨trivial, ?_⟩
        gi_wp2
        exact ⟨(KeepsOthers.refl _).from _, Below.refl _ _, by rw [List.any_append, unhide Hp]; simp [numBad_true], hBX⟩
    case done2 =>
      rintro D2 xs X hD2 rfl ⟨hp, hBX⟩ hK2
      have Hp := hide hp
      clear hp
      have hsX := hBX.size
      have hcX := (hBX.cell (p := ⟨w.heap.size + 1, 0, none⟩) (by simp; omega)).trans hc3
      have hfX := (hBX.frozen (p := ⟨w.heap.size + 1, 0, none⟩) (by simp; omega)).trans hf3
      have HDX : Hid (X.heap[D]? = some (.deferred (some []))) := (hBX.block D (by omega)).trans (unhide HK4)
      have HK2 := hide hK2
      clear hK2
      gi_wp2
      have hK2 := (Below.heap_setCell X ⟨w.heap.size + 1, 0, none⟩ (.int .i64 0) D2 (by simp; omega)).trans (unhide HK2)
      have hD1 := (Below.heap_setCell X ⟨w.heap.size + 1, 0, none⟩ (.int .i64 0) D (by simp; omega)).trans (unhide HDX)
      have hc5 := World.cell?_setCell_same' X ⟨w.heap.size + 1, 0, none⟩ (.int .i64 0) (by rw [hcX]; rfl)
      have hB5 := (hb5W.trans (hBX.mono (by omega))).setCell (p := ⟨w.heap.size + 1, 0, none⟩) (by simp) (.int .i64 0)
      generalize X.setCell ⟨w.heap.size + 1, 0, none⟩ (.int .i64 0) = Y at *
      have hput := belowK_b (w := W4) (n₀ := W4.heap.size) (Nat.le_refl _) Y D2 _ (.deferred none) hD2 hK2 rfl rfl
      refine ⟨by simp, .inl ⟨_, _, rfl, run_takeDeferred hK2, ?_⟩⟩
      have hK1 := (hput.block D (by omega)).trans hD1
      refine ⟨by simp, .inl ⟨_, _, rfl, run_takeDeferred hK1, ?_⟩⟩
      have hput2 := belowK_b (w := W3) (n₀ := W3.heap.size) (Nat.le_refl _) (Y.putObj D2 (.deferred none)) D _ (.deferred none) hD hK1 rfl rfl
      refine ⟨.int .i64 0, ?_, ret_int ?_, hB5.trans ((hput.mono (by omega)).trans (hput2.mono (by omega)))⟩
      · have hc' := (hput2.cell (p := ⟨w.heap.size + 1, 0, none⟩) (by simp; omega)).trans ((hput.cell (p := ⟨w.heap.size + 1, 0, none⟩) (by simp; omega)).trans hc5)
        simp [results, Try.results27, go_sem, hc']
      · rw [unhide HC, unhide HP1, unhide Hp]; rfl
    case stop2 =>
      rintro D2 c pre X hD2 hSp ⟨⟨rfl, hp⟩, hc, hBX, hDX⟩ hK2
      have Hp := hide hp
      have HK2 := hide hK2
      have HDX := hide hDX
      clear hp hK2 hDX
      gi_wp2
      have hput := belowK_b (w := W4) (n₀ := W4.heap.size) (Nat.le_refl _) X D2 _ (.deferred none) hD2 (unhide HK2) rfl rfl
      refine ⟨by simp, .inl ⟨_, _, rfl, run_takeDeferred (unhide HK2), ?_⟩⟩
      have hK1 := (hput.block D (by omega)).trans (unhide HDX)
      refine ⟨by simp, .inl ⟨_, _, rfl, run_takeDeferred hK1, ?_⟩⟩
      have hput2 := belowK_b (w := W3) (n₀ := W3.heap.size) (Nat.le_refl _) (X.putObj D2 (.deferred none)) D _ (.deferred none) hD hK1 rfl rfl
      refine ⟨.int .i64 3, ?_, ret_int ?_, hb5W.trans (hBX.trans ((hput.mono (by omega)).trans (hput2.mono (by omega))))⟩
      · have hc' := (hput2.cell (p := ⟨w.heap.size + 1, 0, none⟩) (by simp; omega)).trans ((hput.cell (p := ⟨w.heap.size + 1, 0, none⟩) (by simp; omega)).trans hc)
        simp [results, Try.results27, go_sem, hc']
      · rw [unhide HC, unhide HP1, any_prefix (unhide Hp) hSp]; rfl
  case stop =>
    rintro D c pre W hD hSp ⟨⟨rfl, hp⟩, hc, hB⟩ hK
    have Hp := hide hp
    clear hp
    gi_wp2
    refine ⟨by simp, .inl ⟨_, _, rfl, run_takeDeferred hK, ?_⟩⟩
    have hput := belowK_b (w := W3) (n₀ := W3.heap.size) (Nat.le_refl _) W D _ (.deferred none) hD hK rfl rfl
    refine ⟨.int .i64 2, ?_, ret_int ?_, hb3W.trans (hB.trans (hput.mono (by omega)))⟩
    · have hc' := (hput.cell (p := ⟨w.heap.size + 1, 0, none⟩) (by simp; omega)).trans hc
      simp [results, Try.results27, go_sem, hc']
    · rw [unhide HC, any_prefix (unhide Hp) hSp]; rfl

set_option maxRecDepth 100000 in
set_option maxHeartbeats 2000000 in
theorem check_c (ao ar : Option Addr) (co cr : Nat) (g : Gr) (B : Nat) (w : World) (ho : Objs B w ao g.objs) (hr : Vals B w ar g.roots) (hB : B ≤ w.heap.size) :
    Calls Try.prog 14 #[.agg #[.slice ao g.objs.length co, .slice ar g.roots.length cr]] w fun e w' => e = .returned (.int .i64 (checkG g)) ∧ Below w.heap.size w w' := by
  have hb1 := ((Below.refl B w).alloc hB (.cells #[.slice ao g.objs.length co, .slice ar g.roots.length cr] 25))
  have hk1 := ((Below.refl w.heap.size w).alloc (Nat.le_refl _) (.cells #[.slice ao g.objs.length co, .slice ar g.roots.length cr] 25))
  cases hL : isLargeG g
  · have HC := hide (checkG_eq g hL)
    have HL := hide hL
    clear hL
    go_enter Try.func14, Try.ntmps14
    go_wp2_with (first
      | (go_at_call 26; go_must (refine (isLarge_c _ _ _ _ g (w.heap.size + 1) _ ((ho.below hb1).mono (by omega)) ((hr.below hb1).mono (by omega)) (by simp)).mono ?_); rintro e w2 ⟨he, hb2⟩; rw [unhide HL] at he; subst he; have hg2 := (hb2.cell (p := ⟨w.heap.size, 0, none⟩) (by simp)); have hh2 := (hb2.cell (p := ⟨w.heap.size, 1, none⟩) (by simp)); simp [go_sem] at hg2 hh2)
      | (go_at_call 27; go_must (refine (checkV_c _ _ _ _ g B _ ((ho.below hb1).below (hb2.mono (by omega))) ((hr.below hb1).below (hb2.mono (by omega))) (by have := hb2.size; simp at this; omega)).mono ?_); rintro e w3 ⟨he, hb3⟩; subst he))
    go_ret
    exact ⟨by rw [unhide HC]; rfl, (hk1.trans (hb2.mono (by omega))).trans (hb3.mono (by have := hb2.size; simp at this; omega))⟩
  · have HC := hide (checkG_large g hL)
    have HL := hide hL
    clear hL
    go_enter Try.func14, Try.ntmps14
    go_wp2_with (go_at_call 26; go_must (refine (isLarge_c _ _ _ _ g (w.heap.size + 1) _ ((ho.below hb1).mono (by omega)) ((hr.below hb1).mono (by omega)) (by simp)).mono ?_); rintro e w2 ⟨he, hb2⟩; rw [unhide HL] at he; subst he)
    go_ret
    exact ⟨by rw [unhide HC]; rfl, hk1.trans (hb2.mono (by omega))⟩

end Go.Proofs.Ytlolcdgbidboeaa

/- Walks: the iterator over references. -/
namespace Go.Proofs.Ytlolcdgbidboeaa
set_option linter.unusedSimpArgs false
set_option linter.unusedVariables false
open Go.RowKit Go.Shelf
attribute [local go_sem] Oper.semAt_some

/-- An object's number. -/
abbrev Ob := { x : Int // 0 ≤ x ∧ x < 256 }

def obOf (v : V) : Option Ob := if h : v.1 = true ∧ 0 ≤ v.2 ∧ v.2 < 256 then some ⟨v.2, h.2⟩ else none

/-- The objects to which a list of values refers. -/
def obsOf (l : List V) : List Ob := l.filterMap obOf

/-- All references are to numbers of objects. -/
def RefsOk (l : List V) : Prop := ∀ v ∈ l, v.1 = true → 0 ≤ v.2 ∧ v.2 < 256

theorem obsOf_no {l : List V} {k : Nat} (hk : k < l.length) {n : Int} (h : l[k] = (false, n)) : obsOf (l.take (k + 1)) = obsOf (l.take k) := by
  rw [List.take_succ_eq_append_getElem hk, h]
  simp [obsOf, obOf]

theorem obsOf_yes {l : List V} {k : Nat} (hk : k < l.length) {n : Int} (h : l[k] = (true, n)) (hn : 0 ≤ n ∧ n < 256) : obsOf (l.take (k + 1)) = obsOf (l.take k) ++ [⟨n, hn⟩] := by
  rw [List.take_succ_eq_append_getElem hk, h]
  simp [obsOf, obOf, hn]

theorem obsOf_len (l : List V) : (obsOf l).length ≤ l.length := List.length_filterMap_le _ _

theorem obsOf_prefix (l : List V) (k : Nat) : obsOf (l.take k) <+: obsOf l := by
  refine ⟨obsOf (l.drop k), ?_⟩
  unfold obsOf
  rw [← List.filterMap_append, List.take_append_drop]

def encO (x : Ob) : Array Value := #[.int .i64 x.1]

set_option maxRecDepth 100000 in
set_option maxHeartbeats 2000000 in
theorem refs1_in (n : Nat) (hn : 1 ≤ n) (l' Bs n₀ : Nat) (a : Option Addr) (cap : Nat) (l : List V) (hok : RefsOk l) (J Jx : List Ob → World → Prop)
    (hY : ∀ pre x W, J pre W → pre.length < l.length → YieldAt Fence.wide (n - 1) Try.prog l' (encO x) W fun e W' =>
      (e = .returned (.bool true) ∧ J (pre ++ [x]) W' ∧ Below n₀ W W') ∨ (e = .returned (.bool false) ∧ Jx (pre ++ [x]) W'))
    (W : World) (hJa : ∀ pre X o, J pre X → J pre (X.alloc o)) (hn0 : n₀ ≤ W.heap.size) (hc0 : W.cell? ⟨Bs, 0, none⟩ = some (.slice a l.length cap))
    (hl : Vals n₀ W a l) (h0 : J [] W) :
    CallsIn Fence.wide n Try.prog 56 #[.func (.yield l') #[] #[], .pointer (some ⟨Bs, 0, none⟩)] W fun e W' => (∃ v, e = .returned v) ∧
      ((∃ ys, ys = obsOf l ∧ J ys W') ∨ (∃ pre, pre <+: obsOf l ∧ Jx pre W')) := by
  have hl1 := hl.1
  refine callsIn_of_wp Try.func56 rfl trivial ?_ rfl
  simp only [Try.ntmps56, List.size_toArray, List.length_cons, List.length_nil, Nat.reduceAdd, Nat.reduceSub, Array.replicate_succ, Array.replicate_zero, List.push_toArray, List.append_toArray, List.nil_append, List.cons_append]
  gi_wp2
  gi_loopw [7] (fun i wr => ∃ k : Nat, k ≤ l.length ∧ i = .int .i64 k ∧ J (obsOf (l.take k)) wr ∧ Below n₀ W wr) (fun i _ => l.length - (intOf i).toNat)
  case atStart => exact ⟨0, Nat.zero_le _, rfl, by simpa [obsOf] using h0, Below.refl _ _⟩
  case round =>
    obtain ⟨k, hk, rfl, hJ, hb⟩ := hrel
    have hsz := hb.size
    by_cases hlt : k < l.length
    · obtain ⟨b, off, r, m, rfl, hbB, hd1, hd2, Hv⟩ := (hl.below hb).at hlt
      cases r
      · have HT := hide (obsOf_no hlt Hv.out)
        gi_wp2
        refine ⟨fun _ h => (by cases h), ?_⟩
        gi_wp2
        go_roundw
        case rel => exact ⟨k + 1, by omega, by go_num, by rw [unhide HT]; exact hJa _ _ _ hJ, hb.alloc (by omega) _⟩
        case measure => simp [intOf]; omega
      · have hm := hok l[k] (List.getElem_mem hlt)
        rw [Hv.out] at hm
        have hm := hm rfl
        have HT := hide (obsOf_yes hlt Hv.out hm)
        have HP := hide (obsOf_prefix l (k + 1))
        obtain ⟨fn, tmps, assign, body, hy, hR⟩ := hY _ ⟨m, hm⟩ (wr.alloc (.cells #[.bool true, .int .i64 m] 47)) (hJa _ _ _ hJ) (by have := obsOf_len (l.take k); simp only [List.length_take] at this; omega)
        dsimp only [encO] at hy
        obtain ⟨hm1, hm2⟩ := hm
        gi_wp2
        refine hR.mono ?_
        rintro e W3 (⟨rfl, hJ3, hk3⟩ | ⟨rfl, hJx3⟩)
        · gi_wp2
          go_roundw
          case rel => exact ⟨k + 1, by omega, by go_num, by rw [unhide HT]; exact hJ3, (hb.alloc (by omega) _).trans hk3⟩
          case measure => simp [intOf]; omega
        · gi_wp2
          refine bodyPost_ret (results_none rfl _ _ _) rfl ?_
          exact ⟨⟨_, rfl⟩, .inr ⟨_, by rw [← unhide HT]; exact unhide HP, hJx3⟩⟩
    · obtain rfl : k = l.length := by omega
      rw [List.take_length] at hJ
      gi_wp2
      go_end0
      exact ⟨⟨_, rfl⟩, .inl ⟨_, rfl, hJ⟩⟩

theorem refs1_stops (n : Nat) (hn : 1 ≤ n) (Bs n₀ : Nat) (a : Option Addr) (cap : Nat) (l : List V) (hok : RefsOk l) (w : World) (hn0 : n₀ ≤ w.heap.size) (hBs : Bs < w.heap.size)
    (hc0 : w.cell? ⟨Bs, 0, none⟩ = some (.slice a l.length cap)) (hl : Vals n₀ w a l) :
    SeqStopsK Fence.wide n Try.prog 56 #[.pointer (some ⟨Bs, 0, none⟩)] encO (Below n₀) (fun ys => ys = obsOf l) (fun pre => pre <+: obsOf l) l.length w := fun l' J Jx W hW hJ _ hY h0 => by
  have := hW.size
  exact refs1_in n hn l' Bs n₀ a cap l hok J Jx hY W (fun pre X o hj => hJ pre X _ none hj (World.grownBy_alloc X o none) (fun r e => by cases e)) (by omega)
    ((hW.cell (p := ⟨Bs, 0, none⟩) hBs).trans hc0) (hl.below (hW.mono hn0)) h0

set_option maxHeartbeats 400000 in
theorem refs_c (a : Option Addr) (len cap : Nat) (w : World) :
    Calls Try.prog 51 #[.slice a len cap] w fun e w' => e = .returned (.func (.func 56) #[] #[.pointer (some ⟨w.heap.size, 0, none⟩)]) ∧ w' = w.alloc (.cells #[.slice a len cap] 23) := by
  go_enter Try.func51, Try.ntmps51
  go_wp2
  go_ret
  exact ⟨rfl, rfl⟩

end Go.Proofs.Ytlolcdgbidboeaa

/- What a search has found, in memory. -/
namespace Go.Proofs.Ytlolcdgbidboeaa
set_option linter.unusedSimpArgs false
set_option linter.unusedVariables false
open Go.RowKit Go.Shelf

theorem Try.info3 : (Try.prog.info? 3).map (fun i => (i.zero, i.size, i.bytes)) = some (some (.int .i64 0), 1, 8) := by kernel_rfl

def intsV (l : List Int) : List Value := l.map (Value.int .i64)

theorem intsV_snoc (l : List Int) (x : Int) : intsV (l ++ [x]) = intsV l ++ [.int .i64 x] := by simp [intsV]

/-- One object more, found at distance d. -/
def findS (d : Int) (st : List Int × List Int) (o : Int) : List Int × List Int := if o ∈ st.1 then st else (st.1 ++ [o], st.2 ++ [d])

def findA (d : Int) (st : List Int × List Int) (xs : List Int) : List Int × List Int := xs.foldl (findS d) st

theorem findA_snoc (d : Int) (st : List Int × List Int) (xs : List Int) (o : Int) : findA d st (xs ++ [o]) = findS d (findA d st xs) o := by simp [findA]

theorem findS_len (d : Int) (st : List Int × List Int) (o : Int) : (findS d st o).1.length ≤ st.1.length + 1 ∧ (findS d st o).2.length ≤ st.2.length + 1 := by
  unfold findS; split <;> simp

theorem findA_len (d : Int) : ∀ (xs : List Int) (st : List Int × List Int), (findA d st xs).1.length ≤ st.1.length + xs.length ∧ (findA d st xs).2.length ≤ st.2.length + xs.length
  | [], st => by simp [findA]
  | x :: xs, st => by
    have h1 := findS_len d st x
    have h2 := findA_len d xs (findS d st x)
    simp only [findA, List.foldl_cons, List.length_cons] at *
    omega

/-- The map tells where each object stands. -/
def PlaceD (D : DataW Unit) (order : List Int) : Prop :=
  (∀ j, Maps.has D (.int .i64 j) = decide (j ∈ order)) ∧ order.Nodup ∧ ∀ (i : Nat) (j : Int), order[i]? = some j → D.atKey (.int .i64 j) (.lit (.int .i64 0)) = .lit (.int .i64 i)

theorem placeD_nil : PlaceD (.map []) [] := ⟨fun j => by simp [Maps.has_eq], by simp, fun i j h => by simp at h⟩

theorem placeD_put {D : DataW Unit} {order : List Int} (h : PlaceD D order) (hD : Maps.IsMap D) {x : Int} (hx : x ∉ order) :
    PlaceD (D.put (.int .i64 x) (.lit (.int .i64 order.length))) (order ++ [x]) := by
  have hk : WideAt.IsKeyLit (.int .i64 x) := trivial
  refine ⟨fun j => ?_, ?_, fun i j hi => ?_⟩
  · by_cases e : j = x
    · subst e; rw [Maps.has_put_same hD hk]; simp
    · rw [Maps.has_put_other (by simpa using e), h.1 j]; simp [e]
  · rw [List.nodup_append]; exact ⟨h.2.1, by simp, by intro a ha b hb; simp at hb; subst hb; exact fun e => hx (e ▸ ha)⟩
  · by_cases hlt : i < order.length
    · rw [List.getElem?_append_left hlt] at hi
      have hne : j ≠ x := fun e => hx (e ▸ List.mem_of_getElem? hi)
      rw [Maps.atKey_put_other (by simpa using hne)]
      exact h.2.2 i j hi
    · rw [List.getElem?_append_right (by omega)] at hi
      have hi0 : i - order.length = 0 := by
        rcases Nat.eq_zero_or_pos (i - order.length) with h0 | h0
        · exact h0
        · rw [List.getElem?_eq_none (by simp; omega)] at hi; cases hi
      rw [hi0] at hi
      simp at hi
      subst hi
      rw [Maps.atKey_put_same hD hk]
      congr 3; omega

/-- The box of what was found: two slices, and a map. -/
structure FBox (W : World) (mb : Nat) (vo vd : Value) : Prop where
  c0 : W.cell? ⟨mb + 1, 0, none⟩ = some vo
  c1 : W.cell? ⟨mb + 1, 1, none⟩ = some vd
  c2 : W.cell? ⟨mb + 1, 2, none⟩ = some (.map (some mb))
  f0 : W.frozen? ⟨mb + 1, 0, none⟩ = false
  f1 : W.frozen? ⟨mb + 1, 1, none⟩ = false

theorem FBox.kept {W W' : World} {mb : Nat} {vo vd : Value} (h : FBox W mb vo vd) (hb : W'.heap[mb + 1]? = W.heap[mb + 1]?) : FBox W' mb vo vd :=
  ⟨(World.cell?_of_block (a := ⟨mb + 1, 0, none⟩) hb).trans h.c0, (World.cell?_of_block (a := ⟨mb + 1, 1, none⟩) hb).trans h.c1, (World.cell?_of_block (a := ⟨mb + 1, 2, none⟩) hb).trans h.c2,
    (World.frozen?_of_block (a := ⟨mb + 1, 0, none⟩) hb).trans h.f0, (World.frozen?_of_block (a := ⟨mb + 1, 1, none⟩) hb).trans h.f1⟩

theorem FBox.lt {W : World} {mb : Nat} {vo vd : Value} (h : FBox W mb vo vd) : mb + 1 < W.heap.size := World.block_lt_of_cell? W _ h.c0

theorem FBox.set0 {W : World} {mb : Nat} {vo vd : Value} (h : FBox W mb vo vd) (v : Value) : FBox (W.setCell ⟨mb + 1, 0, none⟩ v) mb v vd := by
  refine ⟨World.cell?_setCell_same' _ _ _ (by rw [h.c0]; rfl), ?_, ?_, by rw [World.frozen?_setCell]; exact h.f0, by rw [World.frozen?_setCell]; exact h.f1⟩
  · rw [World.cell?_setCell_other _ _ _ _ (by simp)]; exact h.c1
  · rw [World.cell?_setCell_other _ _ _ _ (by simp)]; exact h.c2

theorem FBox.set1 {W : World} {mb : Nat} {vo vd : Value} (h : FBox W mb vo vd) (v : Value) : FBox (W.setCell ⟨mb + 1, 1, none⟩ v) mb vo v := by
  refine ⟨?_, World.cell?_setCell_same' _ _ _ (by rw [h.c1]; rfl), ?_, by rw [World.frozen?_setCell]; exact h.f0, by rw [World.frozen?_setCell]; exact h.f1⟩
  · rw [World.cell?_setCell_other _ _ _ _ (by simp)]; exact h.c0
  · rw [World.cell?_setCell_other _ _ _ _ (by simp)]; exact h.c2

/-- What was found so far. -/
structure Found (W : World) (mb : Nat) (st : List Int × List Int) (vo vd : Value) (D : DataW Unit) : Prop where
  box : FBox W mb vo vd
  ord : W.ownsRow (mb + 2) 3 1 vo st.1.length (intsV st.1)
  dis : W.ownsRow (mb + 2) 3 1 vd st.2.length (intsV st.2)
  map : W.ownsMap Try.prog 3 (plainElem Try.prog 3) mb st.1.length D
  plc : PlaceD D st.1
  apart : ∀ k, vo.ownBlock = some k → vd.ownBlock ≠ some k

/-- A row is kept where what is turned is no row. -/
theorem ownsRow_keptOf {W W' : World} {row : Option Nat} {base : Nat} {e : TypeId} {size : Nat} {v : Value} {n : Nat} {xs : List Value} (h : W.ownsRow base e size v n xs) (hg : W.grownBy W' row)
    (hr : ∀ r, row = some r → ∃ o : Obj, W.heap[r]? = some o ∧ o.isCells = false) : W'.ownsRow base e size v n xs := by
  refine h.kept hg ?_
  rcases h.2 with ⟨rfl, _⟩ | ⟨g, cap, cur, rfl, _, hgb, _⟩
  · exact .inl rfl
  · refine .inr fun e' => ?_
    obtain ⟨o, ho, hc⟩ := hr g (by simpa [Value.ownBlock] using e'.symm)
    rw [hgb] at ho; cases ho; cases hc

/-- An append turns nothing that is no row. -/
theorem keepsOthers_append {W W' : World} {base : Nat} {e : TypeId} {size : Nat} {v : Value} {n : Nat} {xs : List Value} (h : W.ownsRow base e size v n xs) (hg : W.grownBy W' v.ownBlock) : KeepsOthers W W' := by
  refine ⟨hg.size, fun k o hk ho => ?_⟩
  rw [hg.block k (Array.getElem?_eq_some_iff.1 hk).1 ?_]; exact hk
  intro e'
  rcases h.2 with ⟨rfl, _⟩ | ⟨g, cap, cur, rfl, _, hgb, _⟩
  · simp [Value.ownBlock] at e'
  · obtain rfl : k = g := by simpa [Value.ownBlock] using e'
    rw [hgb] at hk; cases hk; cases ho

theorem Found.alloc {W : World} {mb : Nat} {st : List Int × List Int} {vo vd : Value} {D : DataW Unit} (h : Found W mb st vo vd D) (o : Obj) : Found (W.alloc o) mb st vo vd D :=
  ⟨h.box.kept (Below.heap_alloc _ _ _ h.box.lt), h.ord.alloc o, h.dis.alloc o, h.map.alloc o, h.plc, h.apart⟩

theorem Found.own {W W' : World} {row : Option Nat} {mb : Nat} {st : List Int × List Int} {vo vd : Value} {D : DataW Unit} (h : Found W mb st vo vd D) (hg : W.grownBy W' row)
    (hr : ∀ r, row = some r → mb + 2 ≤ r ∧ ∃ o : Obj, W.heap[r]? = some o ∧ o.isCells = false) : Found W' mb st vo vd D :=
  ⟨h.box.kept (hg.block _ h.box.lt (fun e => by have := (hr _ e.symm).1; omega)), ownsRow_keptOf h.ord hg (fun r e => (hr r e).2), ownsRow_keptOf h.dis hg (fun r e => (hr r e).2),
    h.map.kept hg (fun e => by have := (hr _ e.symm).1; omega), h.plc, h.apart⟩

theorem ownsRow_slice {W : World} {base : Nat} {e : TypeId} {size : Nat} {v : Value} {n : Nat} {xs : List Value} (h : W.ownsRow base e size v n xs) : ∃ a cap, v = .slice a n cap := by
  rcases h.2 with ⟨rfl, rfl⟩ | ⟨g, cap, cur, rfl, _⟩
  · exact ⟨none, 0, rfl⟩
  · exact ⟨_, cap, rfl⟩

/-- Behind a store of the map. -/
theorem Found.put {W W' : World} {mb : Nat} {st : List Int × List Int} {vo vd : Value} {D D' : DataW Unit} (h : Found W mb st vo vd D) (hg : W.grownBy W' (some mb)) (hm : W'.ownsMap Try.prog 3 (plainElem Try.prog 3) mb (st.1.length + 1) D') :
    FBox W' mb vo vd ∧ W'.ownsRow (mb + 2) 3 1 vo st.1.length (intsV st.1) ∧ W'.ownsRow (mb + 2) 3 1 vd st.2.length (intsV st.2) ∧ W'.ownsMap Try.prog 3 (plainElem Try.prog 3) mb (st.1.length + 1) D' :=
  ⟨h.box.kept (hg.block _ h.box.lt (by simp)), h.ord.kept hg (.inr fun e => by have := (h.ord.lt _ e).1; omega), h.dis.kept hg (.inr fun e => by have := (h.dis.lt _ e).1; omega), hm⟩

end Go.Proofs.Ytlolcdgbidboeaa

/- Walks: the closure that finds. -/
namespace Go.Proofs.Ytlolcdgbidboeaa
set_option linter.unusedSimpArgs false
set_option linter.unusedVariables false
open Go.RowKit Go.Shelf
attribute [local go_sem] Oper.semAt_some

def valsOf (xs : List Ob) : List Int := xs.map (·.1)

theorem apart_inr {vo vd : Value} (h : ∀ k, vo.ownBlock = some k → vd.ownBlock ≠ some k) : vd.ownBlock = none ∨ vd.ownBlock ≠ vo.ownBlock := by
  cases hd : vd.ownBlock with
  | none => exact .inl rfl
  | some k => exact .inr fun e => h k e.symm hd

theorem wf_i64 {x : Int} (h0 : 0 ≤ x) (h1 : x < 4611686018427387904) : (Lit.int .i64 x).wf = true := by
  simp [Lit.wf, IntKind.min, IntKind.max, IntKind.signed, IntKind.bits]; omega

/-- What one object more turns in memory. -/
theorem find_step {X w1 w2 w3 : World} {mb bd : Nat} {s1 : List Int × List Int} {vo vd v1 v2 : Value} {D : DataW Unit} {x d : Int} {o1 o2 : Obj}
    (hF : Found X mb s1 vo vd D) (hx : x ∉ s1.1) (hg1 : X.grownBy w1 (some mb)) (hm1 : w1.ownsMap Try.prog 3 (plainElem Try.prog 3) mb (s1.1.length + 1) (D.put (.int .i64 x) (.lit (.int .i64 s1.1.length))))
    (hord2 : w2.ownsRow (mb + 2) 3 1 v1 (s1.1.length + 1) (intsV s1.1 ++ [.int .i64 x])) (hg2 : (w1.alloc o1).grownBy w2 vo.ownBlock) (hat2 : v1.ownBlock = vo.ownBlock ∨ v1.ownBlock = some (w1.alloc o1).heap.size)
    (hdis4 : w3.ownsRow (mb + 2) 3 1 v2 (s1.2.length + 1) (intsV s1.2 ++ [.int .i64 d])) (hg3 : ((w2.setCell ⟨mb + 1, 0, none⟩ v1).alloc o2).grownBy w3 vd.ownBlock)
    (hat3 : v2.ownBlock = vd.ownBlock ∨ v2.ownBlock = some ((w2.setCell ⟨mb + 1, 0, none⟩ v1).alloc o2).heap.size)
    (hbd : X.cell? ⟨bd, 0, none⟩ = some (.int .i64 d)) (hbm : mb + 1 < bd) (hno1 : vo.ownBlock ≠ some bd) (hno2 : vd.ownBlock ≠ some bd) :
    Found (w3.setCell ⟨mb + 1, 1, none⟩ v2) mb (findS d s1 x) v1 v2 (D.put (.int .i64 x) (.lit (.int .i64 s1.1.length))) ∧ (∀ B, mb < B → KeepsFrom B X (w3.setCell ⟨mb + 1, 1, none⟩ v2)) ∧ Below mb X (w3.setCell ⟨mb + 1, 1, none⟩ v2) ∧
      (w3.setCell ⟨mb + 1, 1, none⟩ v2).cell? ⟨bd, 0, none⟩ = some (.int .i64 d) ∧ v1.ownBlock ≠ some bd ∧ v2.ownBlock ≠ some bd := by
  obtain ⟨hbox1, hord1, hdis1, hmp1⟩ := hF.put hg1 hm1
  have hlX := hF.box.lt
  have hl1 := hbox1.lt
  have hlbd : bd < X.heap.size := World.block_lt_of_cell? X _ hbd
  have hs1 := hg1.size
  have hs2 := hg2.size
  have hs3 := hg3.size
  simp only [World.size_alloc] at hs2 hat2
  have hsz : ((w2.setCell ⟨mb + 1, 0, none⟩ v1).alloc o2).heap.size = w2.heap.size + 1 := by simp [World.setCell]
  rw [hsz] at hs3 hat3
  have lo := fun k e => (hord1.lt k e)
  have ld := fun k e => (hdis1.lt k e)
  have hbox2 := (hbox1.kept (Below.heap_alloc _ o1 _ hl1)).kept (hg2.block _ (by simp; omega) (fun e => by have := (lo _ e.symm).1; omega))
  have hdis2 := (hdis1.alloc o1).kept hg2 (apart_inr hF.apart)
  have hmp2 := (hmp1.alloc o1).kept hg2 (fun e => by have := (lo _ e.symm).1; omega)
  have hbd1 := hg1.cell hbd (by simp; omega)
  have hbd2 := hg2.cell ((World.grownBy_alloc w1 o1 none).cell hbd1 (by simp)) (fun e => hno1 e.symm)
  have hbox3 := hbox2.set0 v1
  have hbd3 := (World.cell?_setCell_other w2 ⟨mb + 1, 0, none⟩ ⟨bd, 0, none⟩ v1 (fun e => by injection e; omega)).trans hbd2
  have hord3 := ownsRow_setCell_below hord2 (a := ⟨mb + 1, 0, none⟩) (by simp) v1
  have hmp3 := hmp2.setCell (a := ⟨mb + 1, 0, none⟩) (by simp) v1
  have hbox4 := (hbox3.kept (Below.heap_alloc _ o2 _ hbox3.lt)).kept (hg3.block _ (by rw [hsz]; omega) (fun e => by have := (ld _ e.symm).1; omega))
  have hv1d : ∀ k, v1.ownBlock = some k → vd.ownBlock ≠ some k := by
    intro k hk hd
    rcases hat2 with h | h
    · exact hF.apart k (h ▸ hk) hd
    · have := (ld k hd).2; rw [h] at hk; injection hk; omega
  have hord4 := (hord3.alloc o2).kept hg3 (by cases hv : v1.ownBlock with | none => exact .inl rfl | some k => exact .inr fun e => hv1d k hv e.symm)
  have hmp4 := (hmp3.alloc o2).kept hg3 (fun e => by have := (ld _ e.symm).1; omega)
  have hbd4 := hg3.cell ((World.grownBy_alloc _ o2 none).cell hbd3 (by simp)) (fun e => hno2 e.symm)
  have hbox5 := hbox4.set1 v2
  have hplc := placeD_put hF.plc (hF.map.isMap) hx
  have efs : findS d s1 x = (s1.1 ++ [x], s1.2 ++ [d]) := by rw [findS, if_neg hx]
  refine ⟨⟨hbox5, ?_, ?_, ?_, ?_, ?_⟩, ?_, ?_, ?_, ?_, ?_⟩
  · rw [efs]; simp only [List.length_append, List.length_cons, List.length_nil, Nat.zero_add, intsV_snoc]
    exact ownsRow_setCell_below hord4 (a := ⟨mb + 1, 1, none⟩) (by simp) v2
  · rw [efs]; simp only [List.length_append, List.length_cons, List.length_nil, Nat.zero_add, intsV_snoc]
    exact ownsRow_setCell_below hdis4 (a := ⟨mb + 1, 1, none⟩) (by simp) v2
  · rw [efs]; simp only [List.length_append, List.length_cons, List.length_nil, Nat.zero_add]
    exact hmp4.setCell (a := ⟨mb + 1, 1, none⟩) (by simp) v2
  · rw [efs]; exact hplc
  · intro k hk hd
    rcases hat3 with h | h
    · exact hv1d k hk (h ▸ hd)
    · have := (hord2.lt k hk).2; rw [h] at hd; injection hd; omega
  · intro B hB
    refine (KeepsFrom.of_grownBy hg1 (fun j e => by injection e; omega)).trans ?_
    exact ((((KeepsOthers.alloc _ o1).trans (keepsOthers_append (hord1.alloc o1) hg2)).trans (KeepsOthers.setCell _ _ _)).trans (((KeepsOthers.alloc _ o2).trans (keepsOthers_append ((ownsRow_setCell_below hdis2 (a := ⟨mb + 1, 0, none⟩) (by simp) v1).alloc o2) hg3)).trans (KeepsOthers.setCell _ _ _))).from B
  · have b1 : Below mb X w1 := (Below.refl mb X).grown hg1 (by omega) (fun k e => by injection e; omega)
    have b2 : Below mb X w2 := (b1.alloc (by omega) o1).grown hg2 (by simp; omega) (fun k e => by have := (lo _ e).1; omega)
    have b3 := (b2.setCell (p := ⟨mb + 1, 0, none⟩) (by simp) v1).alloc (by simp [World.setCell]; omega) o2
    exact (b3.grown hg3 (by rw [hsz]; omega) (fun k e => by have := (ld _ e).1; omega)).setCell (p := ⟨mb + 1, 1, none⟩) (by simp) v2
  · exact (World.cell?_setCell_other w3 ⟨mb + 1, 1, none⟩ ⟨bd, 0, none⟩ v2 (fun e => by injection e; omega)).trans hbd4
  · intro e
    rcases hat2 with h | h
    · exact hno1 (h ▸ e)
    · rw [h] at e; injection e; omega
  · intro e
    rcases hat3 with h | h
    · exact hno2 (h ▸ e)
    · rw [h] at e; injection e; omega

set_option maxRecDepth 100000 in
set_option maxHeartbeats 2000000 in
theorem find_c (mb : Nat) (a : Option Addr) (cap : Nat) (l : List V) (d : Int) (st : List Int × List Int) (vo vd : Value) (D : DataW Unit) (W : World)
    (hF : Found W mb st vo vd D) (hV : Vals mb W a l) (hok : RefsOk l) (h1 : st.1.length ≤ 1000) (h2 : st.2.length ≤ 1000) (hl : l.length ≤ 1000) :
    Calls Try.prog 50 #[.slice a l.length cap, .int .i64 d, .pointer (some ⟨mb + 1, 0, none⟩)] W fun e W' => e = .returned (.tuple #[]) ∧
      (∃ vo vd D, Found W' mb (findA d st (valsOf (obsOf l))) vo vd D) ∧ Below mb W W' := by
  obtain ⟨i0, hi, hz0, hz1, hz2⟩ := info_parts Try.info3
  have hlt := hF.box.lt
  refine (callsIn_wide (n := 8)).1 ?_
  refine callsIn_of_wp_marks Try.func50 rfl trivial ?_ rfl
  simp only [Try.ntmps50, List.size_toArray, List.length_cons, List.length_nil, Nat.reduceAdd, Nat.reduceSub, Array.replicate_succ, Array.replicate_zero, List.push_toArray, List.append_toArray, List.nil_append, List.cons_append]
  gi_wp2_with (refine ⟨trivial, ?_⟩; gi_at_call 51; go_must (refine (callsIn_wide.2 (refs_c _ _ _ _)).mono ?_); rintro e w3 ⟨rfl, hw3⟩; subst hw3)
  obtain ⟨W1, hW1⟩ : ∃ W1, (W.alloc (.cells #[.int .i64 d] 3)).alloc (.cells #[.slice a l.length cap] 23) = W1 := ⟨_, rfl⟩
  rw [hW1]
  have hs1 : W1.heap.size = W.heap.size + 2 := by rw [← hW1]; simp
  have hbd : W1.cell? ⟨W.heap.size, 0, none⟩ = some (.int .i64 d) := by rw [← hW1]; simp [go_sem]
  have hbl : W1.cell? ⟨W.heap.size + 1, 0, none⟩ = some (.slice a l.length cap) := by rw [← hW1]; simp [go_sem]
  have hB1 : Below mb W W1 := by rw [← hW1]; exact ((Below.refl _ _).alloc (by omega) _).alloc (by simp; omega) _
  have hF1 : Found W1 mb st vo vd D := by rw [← hW1]; exact (hF.alloc _).alloc _
  have hno1 : vo.ownBlock ≠ some W.heap.size := fun e => by have := (hF.ord.lt _ e).2; omega
  have hno2 : vd.ownBlock ≠ some W.heap.size := fun e => by have := (hF.dis.lt _ e).2; omega
  clear hW1
  refine wpIn_rangeFunc_ownG (F := Fence.wide) (n := 8) rfl (by omega) (gf := 56) (lb := #[.pointer (some ⟨W.heap.size + 1, 0, none⟩)]) rfl trivial (enters_of Try.func56 (by kernel_rfl) rfl)
    (refs1_stops 7 (by omega) (W.heap.size + 1) mb a cap l hok W1 (by omega) (by omega) hbl (hV.below hB1)) belowK_t (belowK_b (by omega)) (Below.refl _ _) (fun _ => rfl)
    (fun pre X => ∃ vo vd D, Found X mb (findA d st (valsOf pre)) vo vd D ∧ X.cell? ⟨W.heap.size, 0, none⟩ = some (.int .i64 d) ∧ vo.ownBlock ≠ some W.heap.size ∧ vd.ownBlock ≠ some W.heap.size ∧ Below mb W X)
    (fun _ _ _ => False)
    (by
      rintro pre X Y row ⟨vo, vd, D, h1, h2, h3, h4, h5⟩ hg hr
      exact ⟨vo, vd, D, h1.own hg (fun r e => ⟨by have := (hr r e).1; omega, (hr r e).2⟩), cell_kept h2 hg (fun r e => (hr r e).2), h3, h4, h5.grown hg (by have := h5.size; omega) (fun k e => by have := (hr k e).1; omega)⟩)
    (fun _ _ _ _ _ hs _ _ => hs)
    ⟨vo, vd, D, hF1, hbd, hno1, hno2, hB1⟩
    (fun x => { tmps := #[.slice a l.length cap, .int .i64 d, .pointer (some ⟨mb + 1, 0, none⟩), undef, .pointer (some ⟨W.heap.size, 0, none⟩), .int .i64 x.1, undef, undef, .slice a l.length cap, .func (.func 56) #[] #[.pointer (some ⟨W.heap.size + 1, 0, none⟩)], .int .i64 x.1, undef, undef, undef, undef, undef, undef, undef, undef, undef, undef, undef, undef, undef, undef, undef, undef, undef, undef, undef, undef, undef, undef, undef, undef, undef, undef, undef], defers := [] }) ?assign ?body ?done ?stop
  case assign =>
    intro l x X K hK
    unfold encO
    gi_wp2
    exact hK
  case body =>
    rintro l' pre x X ⟨vo, vd, D, hF, hbd, hno1, hno2, hB⟩ hpre
    obtain ⟨x, hx0, hx1⟩ := x
    have hlen := findA_len d (valsOf pre) st
    have hpl : (valsOf pre).length = pre.length := by simp [valsOf]
    have Hst := hide (show findA d st (valsOf (pre ++ [⟨x, hx0, hx1⟩])) = findS d (findA d st (valsOf pre)) x from by rw [← findA_snoc]; simp [valsOf])
    generalize findA d st (valsOf pre) = s1 at *
    have hsX := hB.size
    have hkey := Maps.keyOf_int_mk Try.underlying3 (wf_i64 hx0 (by omega))
    have hhas := hF.plc.1 x
    have Hkey := hide hkey
    clear hkey
    have hc0 := hF.box.c0
    have hc1 := hF.box.c1
    have hc2 := hF.box.c2
    obtain ⟨oa, oc, rfl⟩ := ownsRow_slice hF.ord
    by_cases hm : x ∈ s1.1
    · have hhas' : Maps.has D (.int .i64 x) = true := by rw [hhas]; simpa using hm
      clear hhas
      gi_wp2_with (gi_at_lookup; go_must (refine wpListIn_lookup_own_ok_int _ rfl _ _ 81 rfl 3 3 .i64 (Maps.int_keyed Try.underlying3) Try.underlying81 Try.underlying3 (Try.zeroValue3 _) mb _ D rfl hF.map _ _ rfl (unhide Hkey) ?_); intro c hat hwc)
      exact ⟨(KeepsOthers.refl _).from _, Below.refl _ _, _, vd, D, by rw [unhide Hst, findS, if_pos hm]; exact hF, hbd, hno1, hno2, hB⟩
    · have hhas' : Maps.has D (.int .i64 x) = false := by rw [hhas]; simpa using hm
      clear hhas
      have Hm := hide hm
      clear hm
      have hval : plainElem (H := Unit) Try.prog 3 (.int .i64 (s1.1.length : Int)) = some (.lit (.int .i64 (s1.1.length : Int)), []) := plainElem_int Try.underlying3 (wf_i64 (by omega) (by omega))
      have Hval := hide hval
      clear hval
      gi_wp2_with (first
        | (gi_at_lookup; go_must (refine wpListIn_lookup_own_ok_int _ rfl _ _ 81 rfl 3 3 .i64 (Maps.int_keyed Try.underlying3) Try.underlying81 Try.underlying3 (Try.zeroValue3 _) mb _ D rfl hF.map _ _ rfl (unhide Hkey) ?_); intro c hat hwc)
        | (gi_at_mapUpdate; go_must (refine wpListIn_mapUpdate_own _ rfl _ _ _ 81 rfl 3 3 (Maps.int_keyed Try.underlying3) Try.underlying81 _ mb s1.1.length D rfl hF.map (by simp only [maxLen]; omega) _ _ _ rfl rfl (unhide Hkey) _ [] (unhide Hval) ?_); go_must (intro w1 hmap1 hg1; obtain ⟨hbox1, hord1, hdis1, hmp1⟩ := hF.put hg1 hmap1; have hbd1 := hg1.cell hbd (by simp; omega); have hs11 := hg1.size; have hd0 := hbox1.c0; have hd1 := hbox1.c1; have he0 := hbox1.f0; have hq1 : mb + 1 < w1.heap.size := hbox1.lt))
        | (gi_at_builtin; refine wpListIn_append_own_at _ rfl _ _ 70 rfl (mb + 2) 3 i0 _ 1 8 Try.underlying70 hi hz0 hz1 hz2 rfl (by decide) _ _ _ rfl hdis3 _ 1 1 [.int .i64 d] rfl rfl (cell_one_at _ _ _ _ (by simp)) (by simp [Value.oneCell']) (by simp only [maxLen]; omega) (by omega) (by simp; omega) ?_; go_must (intro v2 w3 hdis4 hg3 _ hat3; obtain ⟨g2, cap2, hv2⟩ := ownsRow_succ hdis4; subst hv2; have hff := hbox3.f1; have hbox4 := (hbox3.kept (Below.heap_alloc _ (.cells #[.int .i64 d] 3) _ hbox3.lt)).kept (hg3.block _ (by have := hbox3.lt; simp at this; simp; omega) (fun e => by have := (hdis1.lt _ e.symm).1; omega)); have hd4 := hbox4.c1; have he4 := hbox4.f1))
        | (gi_at_builtin; go_must (refine wpListIn_append_own_at _ rfl _ _ 70 rfl (mb + 2) 3 i0 _ 1 8 Try.underlying70 hi hz0 hz1 hz2 rfl (by decide) _ _ _ rfl (hord1.alloc _) ⟨w1.heap.size, 0, none⟩ 1 1 [.int .i64 x] rfl rfl (cell_one_at _ _ _ _ (by simp)) (by simp [Value.oneCell']) (by simp only [maxLen]; omega) (by omega) (by simp; omega) ?_); go_must (intro v1 w2 hord2 hg2 _ hat2; obtain ⟨g1, cap1, hv1⟩ := ownsRow_succ hord2; subst hv1; have hg2s := hg2.size; simp only [World.size_alloc] at hg2s; have hbox2 := (hbox1.kept (Below.heap_alloc _ (.cells #[.int .i64 x] 3) _ hq1)).kept (hg2.block _ (by simp; omega) (fun e => by have := (hord1.lt _ e.symm).1; omega)); have hdis2 := (hdis1.alloc (.cells #[.int .i64 x] 3)).kept hg2 (apart_inr hF.apart); have hmp2 := (hmp1.alloc (.cells #[.int .i64 x] 3)).kept hg2 (fun e => by have := (hord1.lt _ e.symm).1; omega); have hbd2 := hg2.cell ((World.grownBy_alloc w1 (.cells #[.int .i64 x] 3) none).cell hbd1 (by simp)) (fun e => hno1 e.symm); have hd2 := hbox2.c0; have he2 := hbox2.f0; have hbox3 := hbox2.set0 (.slice (some ⟨g1, 0, none⟩) (s1.1.length + 1) cap1); have hdis3 := (ownsRow_setCell_below hdis2 (a := ⟨mb + 1, 0, none⟩) (by simp) (.slice (some ⟨g1, 0, none⟩) (s1.1.length + 1) cap1)).alloc (.cells #[.int .i64 d] 3); have hd3 := hbox3.c1; have hbd3 : (w2.setCell ⟨mb + 1, 0, none⟩ (.slice (some ⟨g1, 0, none⟩) (s1.1.length + 1) cap1)).cell? ⟨W.heap.size, 0, none⟩ = some (.int .i64 d) := (World.cell?_setCell_other _ _ _ _ (fun e => by injection e; omega)).trans hbd2)))
      obtain ⟨r1, r2, r3, r4, r5, r6⟩ := find_step hF (unhide Hm) hg1 hmap1 hord2 hg2 hat2 hdis4 hg3 hat3 hbd hlt hno1 hno2
      exact ⟨r2 _ (by omega), r3, _, _, _, by rw [unhide Hst]; exact r1, r4, r5, r6, hB.trans r3⟩
  case done =>
    rintro D' xs X hD rfl ⟨vo, vd, D, hF, hbd, hno1, hno2, hB⟩ hK
    gi_wp2
    refine ⟨by simp, .inl ⟨_, _, rfl, run_takeDeferred hK, ?_⟩⟩
    refine ⟨_, results_none rfl _ _ _, rfl, ⟨vo, vd, D, hF.own (grownBy_putObj' X D' _) (fun r e => by cases e; exact ⟨by omega, _, hK, rfl⟩)⟩, hB.trans (belowK_b (w := W1) (by omega) X D' _ _ hD hK rfl rfl)⟩
  case stop =>
    rintro D' c pre X _ _ h _
    exact h.elim

end Go.Proofs.Ytlolcdgbidboeaa

/- Walks: the search. -/
namespace Go.Proofs.Ytlolcdgbidboeaa
set_option linter.unusedSimpArgs false
set_option linter.unusedVariables false
open Go.RowKit

theorem Try.mixed : Try.prog.follows .mixedOrders = true := by kernel_rfl

/-- What was found behind k rounds of the search. -/
def searchN (g : Gr) : Nat → List Int × List Int
  | 0 => findA 0 ([], []) (valsOf (obsOf g.roots))
  | k + 1 =>
    let st := searchN g k
    match st.1[k]? with
    | none => st
    | some o => findA ((st.2[k]?).getD 0 + 1) st (valsOf (obsOf ((g.objs[o.toNat]?).getD [])))

/-- A graph that may be. -/
structure Good (g : Gr) : Prop where
  n24 : g.objs.length ≤ 256
  n8 : g.roots.length ≤ 8
  n4 : ∀ l ∈ g.objs, l.length ≤ 4
  rr : ∀ v ∈ g.roots, v.1 = true → 0 ≤ v.2 ∧ v.2 < g.objs.length
  ro : ∀ l ∈ g.objs, ∀ v ∈ l, v.1 = true → 0 ≤ v.2 ∧ v.2 < g.objs.length

theorem Good.refsRoots {g : Gr} (h : Good g) : RefsOk g.roots := fun v hv hr => by have := h.rr v hv hr; have := h.n24; omega
theorem Good.refsObjs {g : Gr} (h : Good g) {l : List V} (hl : l ∈ g.objs) : RefsOk l := fun v hv hr => by have := h.ro l hl v hv hr; have := h.n24; omega

/-- The plain facts on what was found. -/
structure StOk (N : Nat) (st : List Int × List Int) : Prop where
  rng : ∀ o ∈ st.1, 0 ≤ o ∧ o < N
  nd : st.1.Nodup
  len : st.2.length = st.1.length
  pos : ∀ (i : Nat) (d : Int), st.2[i]? = some d → 0 ≤ d ∧ d ≤ i

theorem nodup_nat : ∀ (N : Nat) (l : List Nat), l.Nodup → (∀ x ∈ l, x < N) → l.length ≤ N
  | 0, l, _, h => by
    cases l with
    | nil => simp
    | cons x l => exact absurd (h x (by simp)) (by omega)
  | N + 1, l, hn, h => by
    by_cases hm : N ∈ l
    · have h1 := nodup_nat N (l.erase N) (hn.erase N) (fun x hx => by
        have := (List.Nodup.mem_erase_iff hn).1 hx
        have := h x this.2
        omega)
      have h2 := List.length_erase_of_mem hm
      omega
    · have := nodup_nat N l hn (fun x hx => by
        have := h x hx
        have : x ≠ N := fun e => hm (e ▸ hx)
        omega)
      omega

theorem nodup_length {N : Nat} {l : List Int} (hl : l.Nodup) (hr : ∀ o ∈ l, 0 ≤ o ∧ o < N) : l.length ≤ N := by
  have h1 : (l.map Int.toNat).Nodup := by
    rw [List.nodup_iff_pairwise_ne] at hl ⊢
    rw [List.pairwise_map]
    refine List.Pairwise.imp_of_mem ?_ hl
    intro a b ha hb hab e
    have := hr a ha
    have := hr b hb
    exact hab (by omega)
  have := nodup_nat N (l.map Int.toNat) h1 (fun x hx => by
    rw [List.mem_map] at hx
    obtain ⟨o, ho, rfl⟩ := hx
    have := hr o ho
    omega)
  simpa using this

theorem StOk.le {N : Nat} {st : List Int × List Int} (h : StOk N st) : st.1.length ≤ N := nodup_length h.nd h.rng

theorem stOk_find {N : Nat} {st : List Int × List Int} (h : StOk N st) {d o : Int} (h0 : 0 ≤ d) (hd : d ≤ st.1.length) (ho : 0 ≤ o ∧ o < N) : StOk N (findS d st o) := by
  unfold findS
  split
  · exact h
  · rename_i hno
    refine ⟨?_, ?_, ?_, ?_⟩
    · intro x hx
      simp only [List.mem_append, List.mem_singleton] at hx
      rcases hx with hx | rfl
      · exact h.rng x hx
      · exact ho
    · rw [List.nodup_append]
      exact ⟨h.nd, by simp, by intro a ha b hb; simp at hb; subst hb; exact fun e => hno (e ▸ ha)⟩
    · simp [h.len]
    · intro i e hi
      by_cases hlt : i < st.2.length
      · rw [List.getElem?_append_left hlt] at hi; exact h.pos i e hi
      · rw [List.getElem?_append_right (by omega)] at hi
        rcases Nat.eq_zero_or_pos (i - st.2.length) with h' | h'
        · rw [h'] at hi; simp at hi; subst hi; have := h.len; omega
        · rw [List.getElem?_eq_none (by simp; omega)] at hi; cases hi

theorem findS_grows (d : Int) (st : List Int × List Int) (o : Int) : st.1.length ≤ (findS d st o).1.length := by
  unfold findS; split <;> simp

theorem stOk_findA {N : Nat} (d : Int) (h0 : 0 ≤ d) : ∀ (xs : List Int) (st : List Int × List Int), StOk N st → d ≤ st.1.length → (∀ o ∈ xs, 0 ≤ o ∧ o < N) → StOk N (findA d st xs)
  | [], _, h, _, _ => h
  | x :: xs, st, h, hd, hx => by
    have h1 := stOk_find h h0 hd (hx x (by simp))
    have h2 := findS_grows d st x
    exact stOk_findA d h0 xs (findS d st x) h1 (by omega) (fun o ho => hx o (by simp [ho]))

theorem findA_grows (d : Int) : ∀ (xs : List Int) (st : List Int × List Int), st.1.length ≤ (findA d st xs).1.length
  | [], st => Nat.le_refl _
  | x :: xs, st => by
    have h1 := findS_grows d st x
    have h2 := findA_grows d xs (findS d st x)
    simp only [findA, List.foldl_cons] at *
    omega

theorem obs_mem {l : List V} {o : Int} (h : o ∈ valsOf (obsOf l)) : ∃ v ∈ l, v.1 = true ∧ v.2 = o := by
  simp only [valsOf, obsOf, List.mem_map, List.mem_filterMap] at h
  obtain ⟨x, ⟨v, hv, hx⟩, rfl⟩ := h
  unfold obOf at hx
  split at hx
  · rename_i hh; injection hx with hx; subst hx; exact ⟨v, hv, hh.1, rfl⟩
  · cases hx

theorem Good.roots {g : Gr} (h : Good g) : ∀ o ∈ valsOf (obsOf g.roots), 0 ≤ o ∧ o < g.objs.length := by
  intro o ho
  obtain ⟨v, hv, h1, rfl⟩ := obs_mem ho
  exact h.rr v hv h1

theorem Good.fields {g : Gr} (h : Good g) {l : List V} (hl : l ∈ g.objs) : ∀ o ∈ valsOf (obsOf l), 0 ≤ o ∧ o < g.objs.length := by
  intro o ho
  obtain ⟨v, hv, h1, rfl⟩ := obs_mem ho
  exact h.ro l hl v hv h1

theorem stOk_nil (N : Nat) : StOk N ([], []) := ⟨by simp, by simp, rfl, by simp⟩

theorem searchN_ok {g : Gr} (h : Good g) : ∀ k, StOk g.objs.length (searchN g k)
  | 0 => stOk_findA 0 (by omega) _ _ (stOk_nil _) (by simp) h.roots
  | k + 1 => by
    have ih := searchN_ok h k
    simp only [searchN]
    split
    · exact ih
    · rename_i o ho
      have hlt : k < (searchN g k).1.length := (List.getElem?_eq_some_iff.1 ho).1
      have hr := ih.rng o (List.mem_of_getElem? ho)
      have hlo : o.toNat < g.objs.length := by omega
      have hl2 : k < (searchN g k).2.length := by rw [ih.len]; exact hlt
      have hp := ih.pos k _ (List.getElem?_eq_getElem hl2)
      rw [List.getElem?_eq_getElem hl2, List.getElem?_eq_getElem hlo, Option.getD_some, Option.getD_some]
      exact stOk_findA _ (by omega) _ _ ih (by omega) (h.fields (List.getElem_mem hlo))

end Go.Proofs.Ytlolcdgbidboeaa

/- Walks: the search, walked. -/
namespace Go.Proofs.Ytlolcdgbidboeaa
set_option linter.unusedSimpArgs false
set_option linter.unusedVariables false
open Go.RowKit

theorem Found.drew {W : World} {mb : Nat} {st : List Int × List Int} {vo vd : Value} {D : DataW Unit} (h : Found W mb st vo vd D) : Found W.drew mb st vo vd D :=
  ⟨⟨h.box.c0, h.box.c1, h.box.c2, h.box.f0, h.box.f1⟩, h.ord, h.dis, h.map.drew, h.plc, h.apart⟩

/-- One number of a row of numbers. -/
theorem ints_at {W : World} {base : Nat} {e : TypeId} {v : Value} {l : List Int} (h : W.ownsRow base e 1 v l.length (intsV l)) {k : Nat} (hk : k < l.length) :
    ∃ g cap, v = .slice (some ⟨g, 0, none⟩) l.length cap ∧ W.cell? ⟨g, k, none⟩ = some (.int .i64 l[k]) ∧ g < W.heap.size := by
  rcases h.2 with ⟨_, h0⟩ | ⟨g, cap, cur, rfl, _, hg, _, _, _, htake⟩
  · omega
  · refine ⟨g, cap, rfl, ?_, (Array.getElem?_eq_some_iff.1 hg).1⟩
    rw [cell_of_row W g k cur e (0, 0) hg]
    have h1 : (intsV l)[k]? = some (.int .i64 l[k]) := by simp [intsV, hk]
    rw [← htake, List.getElem?_take] at h1
    split at h1
    · simpa using h1
    · cases h1

theorem searchN_stable (g : Gr) {k : Nat} (h : (searchN g k).1.length ≤ k) : ∀ m, searchN g (k + m) = searchN g k
  | 0 => rfl
  | m + 1 => by
    have ih := searchN_stable g h m
    show searchN g (k + m + 1) = _
    simp only [searchN]
    rw [ih, List.getElem?_eq_none (by omega)]

/-- A box of three cells is kept where a row or a map of the call's own is turned. -/
theorem Found.below {W W' : World} {mb : Nat} {st : List Int × List Int} {vo vd : Value} {D : DataW Unit} (h : Found W mb st vo vd D) (hb : Below W.heap.size W W') : Found W' mb st vo vd D := by
  have hg : W.grownBy W' none := ⟨hb.os, hb.tape, hb.output, hb.size, fun k hk _ => hb.block k hk⟩
  exact h.own hg (fun r e => by cases e)

theorem Found.setCell {W : World} {mb : Nat} {st : List Int × List Int} {vo vd : Value} {D : DataW Unit} (h : Found W mb st vo vd D) (p : Addr) (hp : p.block < mb) (u : Value) : Found (W.setCell p u) mb st vo vd D :=
  ⟨h.box.kept (Below.heap_setCell _ _ _ _ (by omega)), ownsRow_setCell_below h.ord (by omega) u, ownsRow_setCell_below h.dis (by omega) u, h.map.setCell (by omega) u, h.plc, h.apart⟩

set_option maxRecDepth 100000 in
set_option maxHeartbeats 2000000 in
theorem search_c (ao ar : Option Addr) (co cr : Nat) (g : Gr) (B : Nat) (w : World) (ho : Objs B w ao g.objs) (hr : Vals B w ar g.roots) (hB : B ≤ w.heap.size) (hG : Good g) :
    Calls Try.prog 34 #[.agg #[.slice ao g.objs.length co, .slice ar g.roots.length cr]] w fun e w' => ∃ vo vd D mb, e = .returned (.agg #[vo, vd, .map (some mb)]) ∧ w.heap.size ≤ mb ∧ Found w' mb (searchN g g.objs.length) vo vd D ∧ Below w.heap.size w w' := by
  have hmm := @run_makeMap Try.prog
  have ho1 := ho.1
  have hr1 := hr.1
  go_enter Try.func34, Try.ntmps34
  have hW0 : ∀ W0, ((((w.alloc (.cells #[.slice ao g.objs.length co, .slice ar g.roots.length cr] 25)).alloc (.cells #[.slice none 0 0, .slice none 0 0, .map none] 83)).alloc (.map #[] 0)).alloc (.cells #[.slice none 0 0, .slice none 0 0, .map (some (w.heap.size + 1 + 1))] 83)) = W0 →
      Found W0 (w.heap.size + 1 + 1) ([], []) (.slice none 0 0) (.slice none 0 0) (.map []) ∧ Below w.heap.size w W0 ∧ W0.cell? ⟨w.heap.size, 0, none⟩ = some (.slice ao g.objs.length co) ∧ (W0.cell? ⟨w.heap.size + 1, 0, none⟩).isSome = true ∧ (W0.cell? ⟨w.heap.size + 1, 1, none⟩).isSome = true ∧ (W0.cell? ⟨w.heap.size + 1, 2, none⟩).isSome = true ∧ W0.frozen? ⟨w.heap.size + 1, 0, none⟩ = false ∧ W0.frozen? ⟨w.heap.size + 1, 1, none⟩ = false ∧ W0.frozen? ⟨w.heap.size + 1, 2, none⟩ = false := by
    intro W0 h
    have hmp := World.ownsMap_made (H := Unit) ((w.alloc (.cells #[.slice ao g.objs.length co, .slice ar g.roots.length cr] 25)).alloc (.cells #[.slice none 0 0, .slice none 0 0, .map none] 83)) Try.prog 3 (plainElem Try.prog 3)
    simp only [World.size_alloc] at hmp
    subst h
    refine ⟨⟨⟨by simp [go_sem], by simp [go_sem], by simp [go_sem], by simp [go_sem], by simp [go_sem]⟩, World.ownsRow_nil _ _ _ _, World.ownsRow_nil _ _ _ _, hmp.alloc _, placeD_nil, by simp [Value.ownBlock]⟩, ?_, by simp [go_sem], by simp [go_sem], by simp [go_sem], by simp [go_sem], by simp [go_sem], by simp [go_sem], by simp [go_sem]⟩
    exact ((((Below.refl _ _).alloc (Nat.le_refl _) _).alloc (by simp) _).alloc (by simp; omega) _).alloc (by simp; omega) _
  go_wp2_with fail
  obtain ⟨W0, hW⟩ : ∃ W0, ((((w.alloc (.cells #[.slice ao g.objs.length co, .slice ar g.roots.length cr] 25)).alloc (.cells #[.slice none 0 0, .slice none 0 0, .map none] 83)).alloc (.map #[] 0)).alloc (.cells #[.slice none 0 0, .slice none 0 0, .map (some (w.heap.size + 1 + 1))] 83)) = W0 := ⟨_, rfl⟩
  rw [hW]
  obtain ⟨hF0, hb0, hg0, hi0, hi1, hi2, hj0, hj1, hj2⟩ := hW0 W0 hW
  clear hW hW0
  obtain ⟨mb, hmb⟩ : ∃ mb, w.heap.size + 1 + 1 = mb := ⟨_, rfl⟩
  rw [hmb] at hF0
  rw [hmb]
  have Hmb := hide hmb
  have hmb1 : w.heap.size + 1 < mb := by omega
  clear hmb
  refine (find_c mb ar cr g.roots 0 ([], []) _ _ _ W0 hF0 ((hr.below (hb0.mono hB)).mono (by omega)) hG.refsRoots (by simp) (by simp) (by have := hG.n8; omega)).mono ?_
  rintro e w1 ⟨rfl, hF1, hb1⟩
  have hF1 : ∃ vo vd D, Found w1 mb (searchN g 0) vo vd D := hF1
  go_wp2
  go_loopw [5] (fun i wr => ∃ k : Nat, i = .int .i64 k ∧ k ≤ (searchN g k).1.length ∧ (∃ vo vd D, Found wr mb (searchN g k) vo vd D) ∧ Below mb W0 wr) (fun i _ => g.objs.length - (intOf i).toNat)
  case atStart => exact ⟨0, rfl, Nat.zero_le _, hF1, hb1⟩
  case round =>
    obtain ⟨k, rfl, hk, ⟨vo, vd, D, hF⟩, hb⟩ := hrel
    have hok := searchN_ok hG k
    have hkN := hok.le
    have hn24 := hG.n24
    have hb' : Below B w wr := (hb0.mono hB).trans (hb.mono (by omega))
    have hc0 := hF.box.c0
    have hc1 := hF.box.c1
    have hc2 := hF.box.c2
    have hgx := (hb.cell (p := ⟨w.heap.size, 0, none⟩) (by simp; omega)).trans hg0
    by_cases hlt : k < (searchN g k).1.length
    · have hlt2 : k < (searchN g k).2.length := by rw [hok.len]; exact hlt
      have hp := hok.pos k _ (List.getElem?_eq_getElem hlt2)
      have hro := hok.rng _ (List.getElem_mem hlt)
      have HS : Hid (searchN g (k + 1) = findA ((searchN g k).2[k] + 1) (searchN g k) (valsOf (obsOf ((g.objs[((searchN g k).1[k]).toNat]?).getD [])))) := by
        show searchN g (k + 1) = _
        simp only [searchN]
        rw [List.getElem?_eq_getElem hlt, List.getElem?_eq_getElem hlt2]; rfl
      obtain ⟨g1, cap1, hv1, hx1, hgl1⟩ := ints_at hF.ord hlt
      obtain ⟨g2, cap2, hv2, hx2, hgl2⟩ := ints_at hF.dis hlt2
      subst hv1 hv2
      generalize hO : (searchN g k).1[k] = o at *
      generalize hD : (searchN g k).2[k] = dd at *
      obtain ⟨o, rfl⟩ := Int.eq_ofNat_of_zero_le hro.1
      have hoN : o < g.objs.length := by omega
      obtain ⟨b, off, ai, ci, rfl, hbB, hcb, hva⟩ := (ho.below hb').at hoN
      have Hfs := hide (show (g.objs[((o : Int)).toNat]?).getD [] = g.objs[o] by simp [hoN])
      have hl4 := hG.n4 _ (List.getElem_mem hoN)
      have hrf := hG.refsObjs (List.getElem_mem hoN)
      have Hrf := hide hrf
      clear hO hD hrf
      generalize g.objs[o] = fs at *
      have hlen2 := hok.len
      generalize hst : searchN g k = st at *
      go_wp2
      go_still_tail 17, Try.mixed
      go_wp2_with (go_at_call 50; go_must (refine (find_c mb ai ci fs (dd + 1) st _ _ D _ hF.drew ((hva.mono (by omega)).below (Below.refl _ _).drew) (unhide Hrf) (by omega) (by omega) (by omega)).mono ?_); rintro e w3 ⟨rfl, hF3, hb3⟩)
      have hgr := findA_grows (dd + 1) (valsOf (obsOf fs)) st
      go_roundw
      case rel =>
        refine ⟨k + 1, by go_num, ?_, ?_, hb.trans ((Below.refl mb wr).drew.trans hb3)⟩
        · rw [unhide HS, unhide Hfs]; omega
        · rw [unhide HS, unhide Hfs]; exact hF3
      case measure => simp [intOf]; omega
    · have hkk : k = (searchN g k).1.length := by omega
      have HS := hide (show searchN g g.objs.length = searchN g k from by
        have := searchN_stable g (k := k) (by omega) (g.objs.length - k)
        rwa [show k + (g.objs.length - k) = g.objs.length from by omega] at this)
      have Hkk := hide hkk
      clear hkk
      obtain ⟨oa, oc, rfl⟩ := ownsRow_slice hF.ord
      obtain ⟨da, dc, rfl⟩ := ownsRow_slice hF.dis
      have hi0 := (congrArg Option.isSome (hb.cell (p := ⟨w.heap.size + 1, 0, none⟩) (by simp; omega))).trans hi0
      have hi1 := (congrArg Option.isSome (hb.cell (p := ⟨w.heap.size + 1, 1, none⟩) (by simp; omega))).trans hi1
      have hi2 := (congrArg Option.isSome (hb.cell (p := ⟨w.heap.size + 1, 2, none⟩) (by simp; omega))).trans hi2
      have hj0 := (hb.frozen (p := ⟨w.heap.size + 1, 0, none⟩) (by simp; omega)).trans hj0
      have hj1 := (hb.frozen (p := ⟨w.heap.size + 1, 1, none⟩) (by simp; omega)).trans hj1
      have hj2 := (hb.frozen (p := ⟨w.heap.size + 1, 2, none⟩) (by simp; omega)).trans hj2
      obtain ⟨x0, hi0⟩ := Option.isSome_iff_exists.1 hi0
      obtain ⟨x1, hi1⟩ := Option.isSome_iff_exists.1 hi1
      obtain ⟨x2, hi2⟩ := Option.isSome_iff_exists.1 hi2
      generalize hst : searchN g k = st at *
      go_wp2
      refine bodyPost_ret (v := .agg #[.slice oa st.1.length oc, .slice da st.2.length dc, .map (some mb)]) (by simp [results, Try.results34, go_sem, hi0, hi1, hi2]) rfl ⟨_, _, D, mb, rfl, by omega, ?_, ?_⟩
      · rw [unhide HS]
        exact ((hF.setCell _ (by simp; omega) _).setCell _ (by simp; omega) _).setCell _ (by simp; omega) _
      · exact (((hb0.trans (hb.mono (by omega))).setCell (p := ⟨w.heap.size + 1, 0, none⟩) (by simp) _).setCell (p := ⟨w.heap.size + 1, 1, none⟩) (by simp) _).setCell (p := ⟨w.heap.size + 1, 2, none⟩) (by simp) _

end Go.Proofs.Ytlolcdgbidboeaa

/- Walks: values are renumbered. -/
namespace Go.Proofs.Ytlolcdgbidboeaa
set_option linter.unusedSimpArgs false
set_option linter.unusedVariables false
open Go.RowKit

/-- Where an object stands in a list; 0, if it isn't there. -/
def placeOf (order : List Int) (x : Int) : Int := if x ∈ order then (order.idxOf x : Nat) else 0

def renV (order : List Int) (v : V) : V := if v.1 then (true, placeOf order v.2) else v

theorem atKey_place {D : DataW Unit} {order : List Int} (h : PlaceD D order) (x : Int) : D.atKey (.int .i64 x) (.lit (.int .i64 0)) = .lit (.int .i64 (placeOf order x)) := by
  unfold placeOf
  split
  · rename_i hm
    have hlt : order.idxOf x < order.length := List.idxOf_lt_length_iff.2 hm
    exact h.2.2 _ _ (by rw [List.getElem?_eq_getElem hlt, List.getElem_idxOf hlt])
  · rename_i hm
    exact Maps.atKey_of_not_has (by rw [h.1 x]; simpa using hm) _

theorem grown_of_below {W W' : World} (hb : Below W.heap.size W W') : W.grownBy W' none := ⟨hb.os, hb.tape, hb.output, hb.size, fun k hk _ => hb.block k hk⟩

theorem take_set2 {cs : List Value} {k : Nat} {pre : List Value} {x y : Value} (h : cs.take (k * 2) = pre) (hl : k * 2 + 2 ≤ cs.length) : ((cs.set (k * 2) x).set (k * 2 + 1) y).take ((k + 1) * 2) = pre ++ [x, y] := by
  rw [← h]
  apply List.ext_getElem?
  intro i
  rw [List.getElem?_take]
  by_cases h1 : i < k * 2
  · rw [if_pos (by omega), List.getElem?_append_left (by simp; omega), List.getElem?_set_ne (by omega), List.getElem?_set_ne (by omega), List.getElem?_take, if_pos h1]
  · rw [List.getElem?_append_right (by simp; omega)]
    have hmin : (List.take (k * 2) cs).length = k * 2 := by simp; omega
    rw [hmin]
    by_cases h2 : i = k * 2
    · subst h2
      rw [if_pos (by omega), List.getElem?_set_ne (by omega), List.getElem?_set_self (by omega)]; simp
    · by_cases h3 : i = k * 2 + 1
      · subst h3
        rw [if_pos (by omega), List.getElem?_set_self (by simp; omega)]; simp
      · rw [if_neg (by omega), List.getElem?_eq_none (by simp; omega)]

set_option maxRecDepth 100000 in
set_option maxHeartbeats 1000000 in
theorem renumber_c (a : Option Addr) (cap : Nat) (l : List V) (mb nD : Nat) (D : DataW Unit) (order : List Int) (w : World) (hl : Vals w.heap.size w a l) (hok : RefsOk l) (hlen : l.length ≤ 1000)
    (hm : w.ownsMap Try.prog 3 (plainElem Try.prog 3) mb nD D) (hp : PlaceD D order) :
    Calls Try.prog 35 #[.slice a l.length cap, .map (some mb)] w fun e w' => ∃ a' cap', e = .returned (.slice a' l.length cap') ∧ Vals w'.heap.size w' a' (l.map (renV order)) ∧ (∀ b off, a' = some ⟨b, off, none⟩ → w.heap.size ≤ b) ∧ Below w.heap.size w w' := by
  obtain ⟨i0, hi, hz0, hz1, hz2⟩ := info_parts Try.info47
  go_enter Try.func35, Try.ntmps35
  go_wp2_with (at_make; go_must (refine wpList_make_full _ rfl _ _ 23 rfl w.heap.size 47 i0 _ 2 Try.underlying23 hi hz0 hz1 .i64 .i64 _ _ l.length rfl rfl rfl rfl (by rw [hz2]; omega) (by simp only [maxLen]; omega) (Nat.le_refl _) ?_); intro w1 hown hg1)
  have hcl := hown.1
  generalize (madeCells _ _).toList = cs0 at *
  have hb1 : Below w.heap.size w w1 := (Below.refl _ w).grown hg1 (Nat.le_refl _) (fun k e => by cases e)
  go_loopw [13] (fun i wr => ∃ (k : Nat) (cs : List Value), k ≤ l.length ∧ i = .int .i64 k ∧ wr.ownsRow w.heap.size 47 2 (.slice (some ⟨w.heap.size, 0, none⟩) l.length l.length) l.length cs ∧ cs.take (k * 2) = cellsV ((l.take k).map (renV order)) ∧ Below w.heap.size w wr) (fun i _ => l.length - (intOf i).toNat)
  case atStart => exact ⟨0, cs0, Nat.zero_le _, rfl, hown, by simp [cellsV], hb1⟩
  case round =>
    clear hown hcl hb1 hg1
    obtain ⟨k, cs, hk, rfl, hown, htk, hb⟩ := hrel
    have Htk := hide htk
    clear htk
    have hsz := hb.size
    have hcl := hown.1
    by_cases hlt : k < l.length
    · obtain ⟨b, off, r, n, rfl, hbB, hc1, hc2, Hv⟩ := (hl.below hb).at hlt
      have hrk := hok l[k] (List.getElem_mem hlt)
      rw [Hv.out] at hrk
      have HT := hide (List.take_succ_eq_append_getElem hlt)
      rw [Hv.out] at HT
      have hgb : w.heap.size < wr.heap.size := (hown.lt w.heap.size rfl).2
      have hcell : ∀ j, j < cs.length → ∃ v, wr.cell? ⟨w.heap.size, j, none⟩ = some v := fun j hj => ⟨cs[j], by
        have := hown.cells (g := w.heap.size) rfl j cs[j] (by simp [hj])
        have hadd : (⟨w.heap.size, 0, none⟩ : Addr).add j = ⟨w.heap.size, j, none⟩ := by unfold Addr.add; split <;> simp_all
        rwa [hadd] at this⟩
      obtain ⟨x0, hx0⟩ := hcell (k * 2) (by omega)
      obtain ⟨x1, hx1⟩ := hcell (k * 2 + 1) (by omega)
      have hf0 := hown.frozenAt (k * 2)
      have hf1 := hown.frozenAt (k * 2 + 1)
      clear hcell
      have hltI : (k : Int) < (l.length : Int) := by omega
      have hfin : ∀ (y : Value) (m : Int), renV order (r, n) = (r, m) → ((((wr.setCell ⟨w.heap.size, k * 2, none⟩ (.bool r)).setCell ⟨w.heap.size, k * 2 + 1, none⟩ (.int .i64 m)).alloc (.cells #[.bool r, y] 47)).ownsRow
              w.heap.size 47 2 (.slice (some ⟨w.heap.size, 0, none⟩) l.length l.length) l.length ((cs.set (k * 2) (.bool r)).set (k * 2 + 1) (.int .i64 m)) ∧ ((cs.set (k * 2) (.bool r)).set (k * 2 + 1) (.int .i64 m)).take ((k + 1) * 2) = cellsV ((l.take (k + 1)).map (renV order)) ∧
              Below w.heap.size w (((wr.setCell ⟨w.heap.size, k * 2, none⟩ (.bool r)).setCell ⟨w.heap.size, k * 2 + 1, none⟩ (.int .i64 m)).alloc (.cells #[.bool r, y] 47))) := by
        intro y m hrm
        refine ⟨((hown.stored (k * 2) (.bool r)).1.stored (k * 2 + 1) (.int .i64 m)).1.alloc _, ?_, ?_⟩
        · rw [take_set2 (unhide Htk) (by omega), unhide HT, List.map_append, List.map_cons, List.map_nil, hrm, cellsV_snoc]
        · exact ((hb.setCell (p := ⟨w.heap.size, k * 2, none⟩) (Nat.le_refl _) _).setCell (p := ⟨w.heap.size, k * 2 + 1, none⟩) (Nat.le_refl _) _).alloc (by simp [World.setCell]; omega) _
      have Hfin := hide hfin
      clear hfin
      cases r
      · go_wp2
        obtain ⟨q1, q2, q3⟩ := unhide Hfin (.int .i64 n) n (by simp [renV])
        exact ⟨⟨k + 1, _, by omega, by go_num, q1, q2, q3⟩, by simp [intOf]; omega⟩
      · have hrk := hrk rfl
        have Hkey := hide (Maps.keyOf_int_mk Try.underlying3 (wf_i64 hrk.1 (by omega)))
        have hmr := hm.kept (grown_of_below hb) (by simp)
        go_wp2_with (at_lookup; go_must (refine wpList_lookup_own_int _ rfl _ _ 81 rfl 3 3 .i64 (Maps.int_keyed Try.underlying3) Try.underlying81 Try.underlying3 (Try.zeroValue3 _) mb _ D rfl (hmr.alloc _) _ _ rfl (unhide Hkey) ?_); go_must (intro c hat hwc; rw [atKey_place hp] at hat; injection hat with hat; injection hat with _ hat; subst hat))
        obtain ⟨q1, q2, q3⟩ := unhide Hfin (.int .i64 (placeOf order n)) (placeOf order n) (by simp [renV])
        exact ⟨⟨k + 1, _, by omega, by go_num, q1, q2, q3⟩, by simp [intOf]; omega⟩
    · obtain rfl : k = l.length := by omega
      have htk := unhide Htk
      rw [List.take_length, List.take_of_length_le (by omega)] at htk
      rw [htk] at hown
      obtain ⟨a', cap', hv, hV, hbs⟩ := vals_of_owns hown (by simp) (by omega)
      have hv' := hv
      simp only [List.length_map] at hv
      go_wp2
      go_ret
      exact ⟨a', cap', congrArg Ending.returned hv, hV, hbs, hb⟩

end Go.Proofs.Ytlolcdgbidboeaa

/- Canon: the rows of objects that it makes. -/
namespace Go.Proofs.Ytlolcdgbidboeaa
set_option linter.unusedSimpArgs false
set_option linter.unusedVariables false
open Go.RowKit

theorem good_of_check {g : Gr} (h : checkG g = 0) : Good g := by
  unfold checkG at h
  cases hL : isLargeG g with
  | true => rw [hL] at h; simp at h
  | false =>
    rw [hL] at h
    simp only [Bool.false_eq_true, if_false] at h
    have hr : (allV g).any (fun v => badV v g.objs.length == 2) = false := by
      cases hx : (allV g).any (fun v => badV v g.objs.length == 2) with
      | false => rfl
      | true => rw [hx] at h; simp at h
    simp only [isLargeG, Bool.or_eq_false_iff, decide_eq_false_iff_not, List.any_eq_false] at hL
    rw [List.any_eq_false] at hr
    have hv : ∀ v ∈ allV g, v.1 = true → 0 ≤ v.2 ∧ v.2 < g.objs.length := by
      intro v hm h1
      have := hr v hm
      unfold badV at this
      rw [if_pos h1] at this
      by_cases hc : v.2 < 0 ∨ (g.objs.length : Int) ≤ v.2
      · rw [if_pos hc] at this; simp at this
      · omega
    refine ⟨by omega, by omega, fun l hl => by have := hL.2 l hl; simpa using this, fun v hm => hv v (by simp [allV, hm]), fun l hl v hm => hv v ?_⟩
    simp only [allV, List.mem_append, List.mem_flatten]
    exact .inr ⟨l, hl, hm⟩

/-- Values that do not lie in block x. -/
def ValsN (x : Option Nat) (W : World) (a : Option Addr) (l : List V) : Prop :=
  Vals W.heap.size W a l ∧ (l ≠ [] → ∀ b off, a = some ⟨b, off, none⟩ → x ≠ some b)

theorem ValsN.grown {x : Option Nat} {W W' : World} {a : Option Addr} {l : List V} (h : ValsN x W a l) (hg : W.grownBy W' x) : ValsN x W' a l := by
  refine ⟨⟨h.1.1, fun hne => ?_⟩, h.2⟩
  obtain ⟨b, off, rfl, hB, hc⟩ := h.1.2 hne
  have hne' := h.2 hne b off rfl
  have hblk := hg.block b hB (fun e => hne' e.symm)
  refine ⟨b, off, rfl, by have := hg.size; omega, fun k v hk => ?_⟩
  rw [World.cell?_of_block (a := ⟨b, off + k * 2, none⟩) hblk, World.cell?_of_block (a := ⟨b, off + k * 2 + 1, none⟩) hblk]
  exact hc k v hk

theorem ValsN.below {x : Option Nat} {W W' : World} {a : Option Addr} {l : List V} (h : ValsN x W a l) (hb : Below W.heap.size W W') : ValsN x W' a l :=
  ⟨(h.1.below hb).mono hb.size, h.2⟩

theorem ValsN.fresh {x : Option Nat} {W : World} {a : Option Addr} {l : List V} (h : ValsN x W a l) {y : Option Nat} (hy : y = x ∨ ∃ m, y = some m ∧ W.heap.size ≤ m) : ValsN y W a l := by
  refine ⟨h.1, fun hne b off ha => ?_⟩
  rcases hy with rfl | ⟨m, rfl, hm⟩
  · exact h.2 hne b off ha
  · obtain ⟨b', off', ha', hB, _⟩ := h.1.2 hne
    rw [ha] at ha'
    injection ha' with ha'
    injection ha' with h1
    subst h1
    intro e
    injection e
    omega

/-- A row of objects that the call owns. -/
structure ObjRow (W : World) (base : Nat) (v : Value) (L : List (List V)) (es : List Value) : Prop where
  row : W.ownsRow base 62 1 v L.length es
  el : ∀ (k : Nat) (l : List V), L[k]? = some l → ∃ ai ci, es[k]? = some (.slice ai l.length ci) ∧ ValsN v.ownBlock W ai l ∧ ∀ b off, ai = some ⟨b, off, none⟩ → base ≤ b

theorem objRow_nil (W : World) (base : Nat) : ObjRow W base (.slice none 0 0) [] [] := ⟨World.ownsRow_nil _ _ _ _, fun k l h => by simp at h⟩

theorem ObjRow.below {W W' : World} {base : Nat} {v : Value} {L : List (List V)} {es : List Value} (h : ObjRow W base v L es) (hb : Below W.heap.size W W') : ObjRow W' base v L es :=
  ⟨h.row.kept ⟨hb.os, hb.tape, hb.output, hb.size, fun k hk _ => hb.block k hk⟩ (row := none) (by cases hv : v.ownBlock <;> simp), fun k l hk => by
    obtain ⟨ai, ci, h1, h2, h3⟩ := h.el k l hk
    exact ⟨ai, ci, h1, h2.below hb, h3⟩⟩

theorem ObjRow.snoc {W W' : World} {base : Nat} {v v' : Value} {L : List (List V)} {es : List Value} (h : ObjRow W base v L es) {ai : Option Addr} {ci : Nat} {l : List V}
    (hl : Vals W.heap.size W ai l) (hno : ∀ b off, ai = some ⟨b, off, none⟩ → v.ownBlock ≠ some b) (hbs : ∀ b off, ai = some ⟨b, off, none⟩ → base ≤ b)
    (hrow : W'.ownsRow base 62 1 v' (L.length + 1) (es ++ [.slice ai l.length ci])) (hg : W.grownBy W' v.ownBlock) (hat : v'.ownBlock = v.ownBlock ∨ v'.ownBlock = some W.heap.size) :
    ObjRow W' base v' (L ++ [l]) (es ++ [.slice ai l.length ci]) := by
  have hlen : es.length = L.length := by have := h.row.1; omega
  have hy : ∀ {a : Option Addr} {l : List V}, ValsN v.ownBlock W a l → ValsN v'.ownBlock W' a l := by
    intro a l hv
    have h1 : ValsN v'.ownBlock W a l := hv.fresh (by rcases hat with h | h; · exact .inl h
                                                      · exact .inr ⟨_, h, Nat.le_refl _⟩)
    exact ⟨(hv.grown hg).1, h1.2⟩
  refine ⟨by simpa using hrow, fun k l' hk => ?_⟩
  by_cases hlt : k < L.length
  · rw [List.getElem?_append_left hlt] at hk
    obtain ⟨ai', ci', h1, h2, h3⟩ := h.el k l' hk
    exact ⟨ai', ci', by rw [List.getElem?_append_left (by omega)]; exact h1, hy h2, h3⟩
  · rw [List.getElem?_append_right (by omega)] at hk
    rcases Nat.eq_zero_or_pos (k - L.length) with h0 | h0
    · rw [h0] at hk
      simp at hk
      subst hk
      refine ⟨ai, ci, ?_, hy ⟨hl, fun _ => hno⟩, hbs⟩
      rw [List.getElem?_append_right (by omega), show k - es.length = 0 from by omega]; rfl
    · rw [List.getElem?_eq_none (by simp; omega)] at hk; cases hk

theorem ObjRow.setCell {W : World} {base : Nat} {v : Value} {L : List (List V)} {es : List Value} (h : ObjRow W base v L es) {p : Addr} (hp : p.block < base) (u : Value) : ObjRow (W.setCell p u) base v L es := by
  refine ⟨ownsRow_setCell_below h.row hp u, fun k l hk => ?_⟩
  obtain ⟨ai, ci, h1, h2, h3⟩ := h.el k l hk
  refine ⟨ai, ci, h1, ⟨⟨h2.1.1, fun hne => ?_⟩, h2.2⟩, h3⟩
  obtain ⟨b, off, rfl, hB, hc⟩ := h2.1.2 hne
  have hbp := h3 b off rfl
  have hblk := Below.heap_setCell W p u b (by omega)
  refine ⟨b, off, rfl, by simp [World.setCell]; omega, fun j v hj => ?_⟩
  rw [World.cell?_of_block (a := ⟨b, off + j * 2, none⟩) hblk, World.cell?_of_block (a := ⟨b, off + j * 2 + 1, none⟩) hblk]
  exact hc j v hj

/-- What the call owns is a slice of objects. -/
theorem ObjRow.objs {W : World} {base : Nat} {v : Value} {L : List (List V)} {es : List Value} (h : ObjRow W base v L es) (hs : L.length ≤ 9223372036854775807) : ∃ a cap, v = .slice a L.length cap ∧ Objs W.heap.size W a L := by
  rcases h.row.2 with ⟨rfl, h0⟩ | ⟨g, cap, cur, rfl, hb, hg, hc1, hc2, hc3, htake⟩
  · refine ⟨none, 0, by rw [h0], hs, fun hne => ?_⟩
    exact absurd (List.eq_nil_of_length_eq_zero h0) hne
  · refine ⟨_, cap, rfl, hs, fun _ => ⟨g, 0, rfl, (Array.getElem?_eq_some_iff.1 hg).1, fun k l hk => ?_⟩⟩
    obtain ⟨ai, ci, h1, h2, _⟩ := h.el k l hk
    refine ⟨ai, ci, ?_, h2.1⟩
    rw [← htake, List.getElem?_take] at h1
    rw [Nat.zero_add, cell_of_row W g k cur 62 (0, 0) hg]
    split at h1
    · simpa using h1
    · cases h1

/-- One object more: a row made from old memory, appended, the slice stored back into a box below the rows. -/
theorem obj_step {W W1 W2 : World} {base cb : Nat} {v v' : Value} {L : List (List V)} {es : List Value} {ai : Option Addr} {ci : Nat} {l : List V} {o : Obj}
    (h : ObjRow W base v L es) (hW : base ≤ W.heap.size) (hl : Vals W1.heap.size W1 ai l) (hb : Below W.heap.size W W1) (hf : ∀ b off, ai = some ⟨b, off, none⟩ → W.heap.size ≤ b)
    (hrow : W2.ownsRow base 62 1 v' (L.length + 1) (es ++ [.slice ai l.length ci])) (hg : (W1.alloc o).grownBy W2 v.ownBlock) (hat : v'.ownBlock = v.ownBlock ∨ v'.ownBlock = some (W1.alloc o).heap.size)
    (hcb : cb + 1 = base) :
    ObjRow (W2.setCell ⟨cb, 0, none⟩ v') base v' (L ++ [l]) (es ++ [.slice ai l.length ci]) ∧ Below cb W (W2.setCell ⟨cb, 0, none⟩ v') := by
  have hs := hb.size
  have hs2 := hg.size
  have hb1 : Below W1.heap.size W1 (W1.alloc o) := (Below.refl _ _).alloc (Nat.le_refl _) o
  have h1 := (h.below hb).below hb1
  have hno : ∀ b off, ai = some ⟨b, off, none⟩ → v.ownBlock ≠ some b := fun b off e hv => by
    have := (h.row.lt b hv).2
    have := hf b off e
    omega
  have h2 := h1.snoc (ci := ci) ((hl.below hb1).mono hb1.size) hno (fun b off e => by have := hf b off e; omega) hrow hg hat
  refine ⟨h2.setCell (p := ⟨cb, 0, none⟩) (by simp; omega) v', ?_⟩
  exact (((hb.mono (B' := cb) (by omega)).trans (hb1.mono (B' := cb) (by omega))).grown hg (by simp; omega) (fun k e => by have := (h.row.lt k e).1; omega)).setCell (p := ⟨cb, 0, none⟩) (Nat.le_refl _) v'

/-- An append to a row that the call owns, as one step of a region that draws. -/
theorem step_append_at {P : Program} {ops : Array Oper} {o : Oper} {a : Act} {w : World} {K : Act → World → Prop} {Q : Exit → Act → World → Prop} {E : Prop} (hgd : o.guard = none) (s x : Operand) (t : TypeId)
    (ho : o.op = .call { callee := .builtin .append, args := #[s, x], argTypes := #[t, t] })
    (base : Nat) (e : TypeId) (i : TypeInfo) (z : Value) (size bytes : Nat) (ht : P.underlying t = some (.slice e)) (hi : P.info? e = some i) (hz : i.zero = some z)
    (hsize : i.size = size) (hby : i.bytes = bytes) (hzs : z.cells.size = size) (hsz : 0 < size)
    (v : Value) (n : Nat) (xs : List Value) (hs : a.eval s = v) (hown : w.ownsRow base e size v n xs)
    (ad : Addr) (m c : Nat) (news : List Value) (hx : a.eval x = .slice (some ad) m c) (hl : news.length = m * size) (hnews : ∀ j u, news[j]? = some u → w.cell? (ad.add j) = some u) (h1 : ∀ u ∈ news, u.oneCell' = true)
    (h63 : n + m ≤ maxLen) (hbytes : (n + m) * bytes ≤ 140737488355328) (hbase : base ≤ w.heap.size)
    (h : ∀ v' w', w'.ownsRow base e size v' (n + m) (xs ++ news) → w.grownBy w' v.ownBlock → (v'.ownBlock = v.ownBlock ∨ v'.ownBlock = some w.heap.size) → K (a.put o.dst v') w') :
    if Region.wanted o (yielded ops a.tmps) = true then Oper.wp P o a w K Q else E := by
  have hw : Region.wanted o (yielded ops a.tmps) = true := by simp [Region.wanted, hgd]
  rw [if_pos hw]
  obtain ⟨v', w', hr, h2, h3, _, h5⟩ := run_append_own_at (P := P) w base t o.type e i z size bytes ht hi hz hsize hby hzs hsz v n xs hown ad m c news hl hnews h1 h63 hbytes hbase
  unfold Oper.wp execOp
  simp only [ho, resolve, invoke, builtin, Sem.run_bind, Sem.run_pure, Result.andThen_ok, List.map_toArray, List.map_cons, List.map_nil, hs, hx, hr]
  exact h v' w' h2 h3 h5

/-- A call, as one step of a region that draws. -/
theorem step_call {P : Program} {ops : Array Oper} {o : Oper} {a : Act} {w : World} {K : Act → World → Prop} {Q : Exit → Act → World → Prop} {E : Prop} (hgd : o.guard = none) (f : FuncId) (args : Array Value)
    (hex : (execOp a.eval o).run P w = .ok (.enter f args) w) (R : Value → World → Prop) (hc : Calls P f args w fun e w' => ∃ v, e = .returned v ∧ R v w') (hK : ∀ v w', R v w' → K (a.put o.dst v) w') :
    if Region.wanted o (yielded ops a.tmps) = true then Oper.wp P o a w K Q else E := by
  have hw : Region.wanted o (yielded ops a.tmps) = true := by simp [Region.wanted, hgd]
  rw [if_pos hw]
  unfold Oper.wp
  rw [hex, Oper.upon_enter]
  refine hc.mono ?_
  rintro e w' ⟨v, rfl, hr⟩
  exact hK v w' hr

def orderOf (g : Gr) : List Int := (searchN g g.objs.length).1
def distOf (g : Gr) : List Int := (searchN g g.objs.length).2
def fieldsOf (g : Gr) (o : Int) : List V := (g.objs[o.toNat]?).getD []
/-- What is left of a graph, numbered as found. -/
def canonG (g : Gr) : Gr := { objs := (orderOf g).map (fun o => (fieldsOf g o).map (renV (orderOf g))), roots := g.roots.map (renV (orderOf g)) }

theorem Try.info62 : (Try.prog.info? 62).map (fun i => (i.zero, i.size, i.bytes)) = some (some (.agg #[.slice none 0 0]), 1, 24) := by kernel_rfl

end Go.Proofs.Ytlolcdgbidboeaa

/- Objects and values in new memory. -/
namespace Go.Proofs.Ytlolcdgbidboeaa
set_option linter.unusedSimpArgs false
set_option linter.unusedVariables false
open Go.RowKit

theorem Vals.setCell {B : Nat} {W : World} {a : Option Addr} {l : List V} (h : Vals B W a l) (p : Addr) (u : Value) (hp : ∀ b off, a = some ⟨b, off, none⟩ → b ≠ p.block) : Vals B (W.setCell p u) a l := by
  refine ⟨h.1, fun hne => ?_⟩
  obtain ⟨b, off, rfl, hB, hc⟩ := h.2 hne
  have hblk := Below.heap_setCell W p u b (hp b off rfl)
  refine ⟨b, off, rfl, hB, fun j v hj => ?_⟩
  rw [World.cell?_of_block (a := ⟨b, off + j * 2, none⟩) hblk, World.cell?_of_block (a := ⟨b, off + j * 2 + 1, none⟩) hblk]
  exact hc j v hj

/-- A slice of objects in new memory. -/
def ObjsF (base : Nat) (W : World) (a : Option Addr) (L : List (List V)) : Prop :=
  L.length ≤ 9223372036854775807 ∧ (L ≠ [] → ∃ b off, a = some ⟨b, off, none⟩ ∧ base ≤ b ∧ b < W.heap.size ∧ ∀ k l, L[k]? = some l → ∃ ai ci, W.cell? ⟨b, off + k, none⟩ = some (.slice ai l.length ci) ∧ Vals W.heap.size W ai l ∧ ∀ b off, ai = some ⟨b, off, none⟩ → base ≤ b)

theorem ObjsF.objs {base : Nat} {W : World} {a : Option Addr} {L : List (List V)} (h : ObjsF base W a L) : Objs W.heap.size W a L := by
  refine ⟨h.1, fun hne => ?_⟩
  obtain ⟨b, off, rfl, _, hB, hc⟩ := h.2 hne
  refine ⟨b, off, rfl, hB, fun k l hk => ?_⟩
  obtain ⟨ai, ci, h1, h2, _⟩ := hc k l hk
  exact ⟨ai, ci, h1, h2⟩

theorem ObjsF.below {base : Nat} {W W' : World} {a : Option Addr} {L : List (List V)} (h : ObjsF base W a L) (hb : Below W.heap.size W W') : ObjsF base W' a L := by
  refine ⟨h.1, fun hne => ?_⟩
  obtain ⟨b, off, rfl, h0, hB, hc⟩ := h.2 hne
  refine ⟨b, off, rfl, h0, by have := hb.size; omega, fun k l hk => ?_⟩
  obtain ⟨ai, ci, h1, h2, h3⟩ := hc k l hk
  exact ⟨ai, ci, (hb.cell (p := ⟨b, off + k, none⟩) hB).trans h1, (h2.below hb).mono hb.size, h3⟩

theorem ObjsF.setCell {base : Nat} {W : World} {a : Option Addr} {L : List (List V)} (h : ObjsF base W a L) {p : Addr} (hp : p.block < base) (u : Value) : ObjsF base (W.setCell p u) a L := by
  have hs : (W.setCell p u).heap.size = W.heap.size := by simp [World.setCell]
  refine ⟨h.1, fun hne => ?_⟩
  obtain ⟨b, off, rfl, h0, hB, hc⟩ := h.2 hne
  refine ⟨b, off, rfl, h0, by rw [hs]; exact hB, fun k l hk => ?_⟩
  obtain ⟨ai, ci, h1, h2, h3⟩ := hc k l hk
  refine ⟨ai, ci, (World.cell?_of_block (a := ⟨b, off + k, none⟩) (Below.heap_setCell W p u b (by omega))).trans h1, ?_, h3⟩
  rw [hs]
  exact h2.setCell p u (fun b' off' e => by have := h3 b' off' e; omega)

theorem ObjRow.objsF {W : World} {base : Nat} {v : Value} {L : List (List V)} {es : List Value} (h : ObjRow W base v L es) (hs : L.length ≤ 9223372036854775807) : ∃ a cap, v = .slice a L.length cap ∧ ObjsF base W a L := by
  rcases h.row.2 with ⟨rfl, h0⟩ | ⟨g, cap, cur, rfl, hb, hg, hc1, hc2, hc3, htake⟩
  · refine ⟨none, 0, by rw [h0], hs, fun hne => ?_⟩
    exact absurd (List.eq_nil_of_length_eq_zero h0) hne
  · refine ⟨_, cap, rfl, hs, fun _ => ⟨g, 0, rfl, hb, (Array.getElem?_eq_some_iff.1 hg).1, fun k l hk => ?_⟩⟩
    obtain ⟨ai, ci, h1, h2, h3⟩ := h.el k l hk
    refine ⟨ai, ci, ?_, h2.1, h3⟩
    rw [← htake, List.getElem?_take] at h1
    rw [Nat.zero_add, cell_of_row W g k cur 62 (0, 0) hg]
    split at h1
    · simpa using h1
    · cases h1

theorem ObjsF.base {base base' : Nat} {W : World} {a : Option Addr} {L : List (List V)} (h : ObjsF base W a L) (hb : base' ≤ base) : ObjsF base' W a L := by
  refine ⟨h.1, fun hne => ?_⟩
  obtain ⟨b, off, rfl, h0, hB, hc⟩ := h.2 hne
  refine ⟨b, off, rfl, by omega, hB, fun k l hk => ?_⟩
  obtain ⟨ai, ci, h1, h2, h3⟩ := hc k l hk
  exact ⟨ai, ci, h1, h2, fun b off e => by have := h3 b off e; omega⟩

/-- A slice of values in new memory. -/
def ValsF (base : Nat) (W : World) (a : Option Addr) (l : List V) : Prop := Vals W.heap.size W a l ∧ ∀ b off, a = some ⟨b, off, none⟩ → base ≤ b

theorem ValsF.below {base : Nat} {W W' : World} {a : Option Addr} {l : List V} (h : ValsF base W a l) (hb : Below W.heap.size W W') : ValsF base W' a l := ⟨(h.1.below hb).mono hb.size, h.2⟩
theorem ValsF.setCell {base : Nat} {W : World} {a : Option Addr} {l : List V} (h : ValsF base W a l) {p : Addr} (hp : p.block < base) (u : Value) : ValsF base (W.setCell p u) a l := by
  have hs : (W.setCell p u).heap.size = W.heap.size := by simp [World.setCell]
  refine ⟨?_, h.2⟩
  rw [hs]
  exact h.1.setCell p u (fun b' off' e => by have := h.2 b' off' e; omega)

end Go.Proofs.Ytlolcdgbidboeaa
