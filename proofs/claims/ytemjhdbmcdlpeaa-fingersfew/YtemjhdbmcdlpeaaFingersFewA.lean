/- Merged texts: Mem Wt Va Vb Vc Vd Ve Vf Wa Wc Wd We Wf Wg Wh Wi Wj Wk Wl Wm Wo Wp Wv Xa Wz Wq Wn Ra Aa. -/
import Derived.Test.YtemjhdbmcdlpeaaProg
import Derived.WalkKit
import Derived.WalkSpells
import Derived.WalkLawsBesides
import Derived.ProofKit
import Derived.OpenShut
import Derived.Lib.SmallJoins
import Derived.Deep.Slices
import Derived.Laws.BitsAllLaws
import Derived.RangeFuncNested
import Derived.RangeFuncBound
import Derived.RangeFuncCalls
import Derived.RangeFuncLeaves
import Derived.Shelf.Abstract
import Derived.Shelf.RegionOpen
import Derived.OwnWalkIn
import Derived.TacticsInMore
import Derived.LoopNIn
import Derived.LoopIn
import Derived.Maps.OwnIn
import Derived.Maps.AppendAt
import Derived.StillTailTactics
import Derived.Deep.RegionLaw
import Derived.BigRegion
import Derived.Laws.StructEq

/- What a graph is in memory, and as plain data. -/
namespace Go.Proofs.Ytemjhdbmcdlpeaa
set_option linter.unusedSimpArgs false
set_option linter.unusedVariables false
open Go.RowKit

theorem hide {p : Prop} (h : p) : Hid p := h
theorem unhide {p : Prop} (h : Hid p) : p := h

theorem ret_bool {a b : Bool} (h : a = b) : Ending.returned (.bool a) = .returned (.bool b) := by rw [h]
theorem ret_int {a b : Int} (h : a = b) : Ending.returned (.int .i64 a) = .returned (.int .i64 b) := by rw [h]

theorem cell_two_at (w : World) (x y : Value) (t : TypeId) (m : Nat) (hm : m = w.heap.size) : ∀ j u, [x, y][j]? = some u → (w.alloc (.cells #[x, y] t)).cell? ((⟨m, 0, none⟩ : Addr).add j) = some u := by
  subst hm; exact cell_two_new w x y t
theorem cell_one_at (w : World) (x : Value) (t : TypeId) (m : Nat) (hm : m = w.heap.size) : ∀ j u, [x][j]? = some u → (w.alloc (.cells #[x] t)).cell? ((⟨m, 0, none⟩ : Addr).add j) = some u := by
  subst hm; exact cell_one_new w x t

/-- A value of a graph: is it a reference; its number. -/
abbrev V := Bool × Int

/-- A slice of values, that lies below block B. -/
def Vals (B : Nat) (w : World) (a : Option Addr) (l : List V) : Prop :=
  l.length ≤ 9223372036854775807 ∧ (l ≠ [] → ∃ b off, a = some ⟨b, off, none⟩ ∧ b < B ∧ ∀ k v, l[k]? = some v → w.cell? ⟨b, off + k * 2, none⟩ = some (.bool v.1) ∧ w.cell? ⟨b, off + k * 2 + 1, none⟩ = some (.int .i64 v.2))

theorem Vals.below {B : Nat} {w w' : World} {a : Option Addr} {l : List V} (h : Vals B w a l) (hb : Below B w w') : Vals B w' a l := by
  refine ⟨h.1, fun hne => ?_⟩
  obtain ⟨b, off, rfl, hB, hc⟩ := h.2 hne
  refine ⟨b, off, rfl, hB, fun k v hk => ?_⟩
  rw [hb.cell (p := ⟨b, off + k * 2, none⟩) hB, hb.cell (p := ⟨b, off + k * 2 + 1, none⟩) hB]
  exact hc k v hk

theorem Vals.below' {B : Nat} {w w' : World} {a : Option Addr} {l : List V} (h : Vals B w' a l) (hb : Below B w w') : Vals B w a l := by
  refine ⟨h.1, fun hne => ?_⟩
  obtain ⟨b, off, rfl, hB, hc⟩ := h.2 hne
  refine ⟨b, off, rfl, hB, fun k v hk => ?_⟩
  rw [← hb.cell (p := ⟨b, off + k * 2, none⟩) hB, ← hb.cell (p := ⟨b, off + k * 2 + 1, none⟩) hB]
  exact hc k v hk

theorem Vals.mono {B B' : Nat} {w : World} {a : Option Addr} {l : List V} (h : Vals B w a l) (hb : B ≤ B') : Vals B' w a l := by
  refine ⟨h.1, fun hne => ?_⟩
  obtain ⟨b, off, rfl, hB, hc⟩ := h.2 hne
  exact ⟨b, off, rfl, by omega, hc⟩

/-- One value of a slice. -/
theorem Vals.at {B : Nat} {w : World} {a : Option Addr} {l : List V} (h : Vals B w a l) {k : Nat} (hk : k < l.length) :
    ∃ b off r n, a = some ⟨b, off, none⟩ ∧ b < B ∧ w.cell? ⟨b, off + k * 2, none⟩ = some (.bool r) ∧ w.cell? ⟨b, off + k * 2 + 1, none⟩ = some (.int .i64 n) ∧ Hid (l[k] = (r, n)) := by
  obtain ⟨b, off, rfl, hB, hc⟩ := h.2 (by intro e; subst e; simp at hk)
  exact ⟨b, off, l[k].1, l[k].2, rfl, hB, (hc k l[k] (by simp [hk])).1, (hc k l[k] (by simp [hk])).2, rfl⟩

/-- Is one of some values a reference to j? -/
def refers (l : List V) (j : Int) : Bool := l.any fun v => v.1 && v.2 == j

theorem refers_take {l : List V} {j : Int} {k : Nat} (hk : k < l.length) {r : Bool} {n : Int} (h : l[k] = (r, n)) : refers (l.take (k + 1)) j = (refers (l.take k) j || (r && n == j)) := by
  rw [List.take_succ_eq_append_getElem hk, h]
  simp only [refers, List.any_append, List.any_cons, List.any_nil, Bool.or_false]

theorem refers_of_take {l : List V} {j : Int} {k : Nat} (h : refers (l.take k) j = true) : refers l j = true := by
  unfold refers at *
  rw [List.any_eq_true] at *
  obtain ⟨x, hx, hp⟩ := h
  exact ⟨x, List.mem_of_mem_take hx, hp⟩

/-- A slice of objects, each of which is a slice of values, below block B. -/
def Objs (B : Nat) (w : World) (a : Option Addr) (L : List (List V)) : Prop :=
  L.length ≤ 9223372036854775807 ∧ (L ≠ [] → ∃ b off, a = some ⟨b, off, none⟩ ∧ b < B ∧ ∀ k l, L[k]? = some l → ∃ ai ci, w.cell? ⟨b, off + k, none⟩ = some (.slice ai l.length ci) ∧ Vals B w ai l)

theorem Objs.below {B : Nat} {w w' : World} {a : Option Addr} {L : List (List V)} (h : Objs B w a L) (hb : Below B w w') : Objs B w' a L := by
  refine ⟨h.1, fun hne => ?_⟩
  obtain ⟨b, off, rfl, hB, hc⟩ := h.2 hne
  refine ⟨b, off, rfl, hB, fun k v hk => ?_⟩
  obtain ⟨ai, ci, h1, h2⟩ := hc k v hk
  refine ⟨ai, ci, ?_, h2.below hb⟩
  rw [hb.cell (p := ⟨b, off + k, none⟩) hB]
  exact h1

theorem Objs.mono {B B' : Nat} {w : World} {a : Option Addr} {L : List (List V)} (h : Objs B w a L) (hb : B ≤ B') : Objs B' w a L := by
  refine ⟨h.1, fun hne => ?_⟩
  obtain ⟨b, off, rfl, hB, hc⟩ := h.2 hne
  refine ⟨b, off, rfl, by omega, fun k v hk => ?_⟩
  obtain ⟨ai, ci, h1, h2⟩ := hc k v hk
  exact ⟨ai, ci, h1, h2.mono hb⟩

theorem Objs.at {B : Nat} {w : World} {a : Option Addr} {L : List (List V)} (h : Objs B w a L) {k : Nat} (hk : k < L.length) :
    ∃ b off ai ci, a = some ⟨b, off, none⟩ ∧ b < B ∧ w.cell? ⟨b, off + k, none⟩ = some (.slice ai L[k].length ci) ∧ Vals B w ai L[k] := by
  obtain ⟨b, off, rfl, hB, hc⟩ := h.2 (by intro e; subst e; simp at hk)
  obtain ⟨ai, ci, h1, h2⟩ := hc k L[k] (by simp [hk])
  exact ⟨b, off, ai, ci, rfl, hB, h1, h2⟩

/-- A graph as plain data. -/
structure Gr where
  objs : List (List V)
  roots : List V

def isLargeG (g : Gr) : Bool := decide (24 < g.objs.length) || decide (8 < g.roots.length) || g.objs.any (fun l => decide (4 < l.length))

def badV (v : V) (n : Nat) : Int := if v.1 then (if v.2 < 0 ∨ (n : Int) ≤ v.2 then 2 else 0) else (if v.2 < -4611686018427387904 ∨ 4611686018427387903 < v.2 then 3 else 0)

def allV (g : Gr) : List V := g.roots ++ g.objs.flatten

def checkG (g : Gr) : Int :=
  if isLargeG g then 1 else if (allV g).any (fun v => badV v g.objs.length == 2) then 2 else if (allV g).any (fun v => badV v g.objs.length == 3) then 3 else 0

/-- The cells of a list of values. -/
def cellsV (l : List V) : List Value := l.flatMap fun v => [.bool v.1, .int .i64 v.2]

theorem cellsV_snoc (l : List V) (r : Bool) (n : Int) : cellsV (l ++ [(r, n)]) = cellsV l ++ [.bool r, .int .i64 n] := by simp [cellsV]

theorem cellsV_get : ∀ (l : List V) (k : Nat) (v : V), l[k]? = some v → (cellsV l)[k * 2]? = some (.bool v.1) ∧ (cellsV l)[k * 2 + 1]? = some (.int .i64 v.2)
  | [], _, _, h => by simp at h
  | x :: l, 0, v, h => by simp at h; subst h; simp [cellsV]
  | x :: l, k + 1, v, h => by
    have := cellsV_get l k v (by simpa using h)
    have e1 : (k + 1) * 2 = k * 2 + 1 + 1 := by omega
    have e2 : (k + 1) * 2 + 1 = k * 2 + 1 + 1 + 1 := by omega
    rw [e1]
    simp only [cellsV, List.flatMap_cons, List.cons_append, List.nil_append, List.getElem?_cons_succ]
    exact this

/-- What the call owns is a slice of values. -/
theorem vals_of_owns {w : World} {base : Nat} {e : TypeId} {v : Value} {n : Nat} {l : List V} (h : w.ownsRow base e 2 v n (cellsV l)) (hn : n = l.length) (hs : n ≤ 9223372036854775807) :
    ∃ a cap, v = .slice a l.length cap ∧ Vals w.heap.size w a l ∧ ∀ b off, a = some ⟨b, off, none⟩ → base ≤ b := by
  obtain ⟨_, h2⟩ := h
  rcases h2 with ⟨rfl, h0⟩ | ⟨g, cap, cur, rfl, hb, hg, hc1, hc2, hc3, htake⟩
  · refine ⟨none, 0, by rw [← hn, h0], ⟨by omega, fun hne => ?_⟩, fun b off e => by cases e⟩
    have : l = [] := List.eq_nil_of_length_eq_zero (by omega)
    exact absurd this hne
  · refine ⟨_, cap, by rw [hn], ⟨by omega, fun _ => ⟨g, 0, rfl, (Array.getElem?_eq_some_iff.1 hg).1, fun k v hk => ?_⟩⟩, fun b off e => by injection e with e; injection e with e1; omega⟩
    obtain ⟨h1, h2⟩ := cellsV_get l k v hk
    rw [← htake] at h1 h2
    rw [List.getElem?_take] at h1 h2
    have hcell : ∀ j u, (if j < n * 2 then cur.toList[j]? else none) = some u → w.cell? ⟨g, 0 + j, none⟩ = some u := by
      intro j u hj
      split at hj
      · rw [Nat.zero_add, cell_of_row w g j cur e (0, 0) hg]; simpa using hj
      · cases hj
    exact ⟨hcell _ _ h1, by have := hcell _ _ h2; simpa [Nat.add_assoc] using this⟩

end Go.Proofs.Ytemjhdbmcdlpeaa

/- A graph that came in, opened. -/
namespace Go.Proofs.Ytemjhdbmcdlpeaa
set_option linter.unusedSimpArgs false
set_option maxRecDepth 100000
set_option linter.unusedVariables false
open Go.RowKit Go.Joins Go.Deep Go.ChangeShapes Go.WideShapes

section
variable {H : Type} {enc : TypeId × Value → H} {w : World} {base : Nat} {spare : Nat → Bool} {held : Bool}

theorem addr_plain {a : Addr} {i : Nat} {v : Value} (h : w.cell? (a.add i) = some v) (h0 : ∃ u, w.cell? a = some u) : ∃ b off, a = ⟨b, off, none⟩ ∧ w.cell? ⟨b, off + i, none⟩ = some v := by
  obtain ⟨b, off, spot⟩ := a
  obtain ⟨u, hu⟩ := h0
  have hspot : spot = none := by simpa using World.cell?_spot hu
  subst hspot
  exact ⟨b, off, rfl, by rw [← Go.WideShapes.add_plain]; exact h⟩

/-- One value, out of its two cells. -/
theorem value_of_trod {fuel : Nat} {cs : List Value} {x : DataW H × List MemPlace} (h : DataW.trod enc Try.prog w base spare held fuel 64 cs = some x) (hl : cs.length = 2) : ∃ r n, cs = [.bool r, .int .i64 n] := by
  obtain ⟨y0, y1, n, _, _, h0, h1⟩ := trod_struct2 Try.underlying64 h
  have e4 : Try.prog.cellsOf 4 = 1 := by kernel_rfl
  have e2 : Try.prog.cellsOf 2 = 1 := by kernel_rfl
  match cs, hl with
  | [c0, c1], _ =>
    simp only [e4, e2, List.drop_zero, List.take_succ_cons, List.take_zero, List.drop_succ_cons] at h0 h1
    obtain ⟨r, hr, _⟩ := DataW.trod_bool Try.underlying4 h0
    obtain ⟨m, hm, _⟩ := DataW.trod_int Try.underlying2 h1
    simp at hr hm
    exact ⟨r, m, by rw [hr, hm]⟩

/-- A slice of values that came in. -/
theorem vals_of_trod {fuel : Nat} {cs : List Value} {x : DataW H × List MemPlace} (h : DataW.trod enc Try.prog w base spare held fuel 41 cs = some x) : ∃ a cap l, cs = [.slice a l.length cap] ∧ Vals w.heap.size w a l := by
  rcases open_slice Try.underlying41 h with ⟨rfl, _⟩ | ⟨a, len, cap, m, n, D, Pl, rfl, hb, hl, hm, hmm, _, hx⟩
  · exact ⟨none, 0, [], rfl, by simp, fun h => absurd rfl h⟩
  · have e35 : Try.prog.cellsOf 64 = 2 := by kernel_rfl
    rw [e35] at hx
    have hle : len ≤ m := by rw [hmm]; split <;> omega
    have hex : ∀ i, i < len → ∃ v : V, w.cell? (a.add (i * 2)) = some (.bool v.1) ∧ w.cell? ((a.add (i * 2)).add 1) = some (.int .i64 v.2) := by
      intro i hi
      obtain ⟨cs', h1, h2⟩ := hx i (by omega)
      obtain ⟨_, hlen, hc⟩ := World.cells?_some h1
      obtain ⟨r, n, rfl⟩ := value_of_trod h2 hlen
      exact ⟨(r, n), by simpa [Addr.add] using hc 0 (by omega), by simpa using hc 1 (by omega)⟩
    obtain ⟨f, hf⟩ := choose_lt (α := V) (p := fun i v => w.cell? (a.add (i * 2)) = some (.bool v.1) ∧ w.cell? ((a.add (i * 2)).add 1) = some (.int .i64 v.2)) hex
    refine ⟨some a, cap, (List.range len).map f, by simp, ⟨by simp only [List.length_map, List.length_range]; simp only [maxLen] at hm; omega, fun hne => ?_⟩⟩
    have hpos : 0 < len := by
      rcases Nat.eq_zero_or_pos len with h0 | h0
      · subst h0; simp at hne
      · exact h0
    have h00 := (hf 0 hpos).1
    obtain ⟨b, off, rfl, _⟩ := addr_plain (a := a) (i := 0) (by simpa using h00) ⟨_, by simpa [Addr.add] using h00⟩
    have hplain : ∀ i, (⟨b, off, none⟩ : Addr).add i = ⟨b, off + i, none⟩ := fun i => Go.WideShapes.add_plain _ _ _
    refine ⟨b, off, rfl, World.block_lt_of_cell? w ⟨b, off + 0 * 2, none⟩ (by rw [← hplain]; exact h00), fun k v hk => ?_⟩
    have hkl : k < len := by
      have := (List.getElem?_eq_some_iff.1 hk).1
      simpa using this
    have hv : f k = v := by simpa [hkl] using hk
    have := hf k hkl
    rw [hv, hplain, Go.WideShapes.add_plain] at this
    exact this

/-- A slice of objects that came in. -/
theorem objs_of_trod {fuel : Nat} {cs : List Value} {x : DataW H × List MemPlace} (h : DataW.trod enc Try.prog w base spare held fuel 40 cs = some x) : ∃ a cap L, cs = [.slice a L.length cap] ∧ Objs w.heap.size w a L := by
  have e43 : Try.prog.cellsOf 76 = 1 := by kernel_rfl
  have e23 : Try.prog.cellsOf 41 = 1 := by kernel_rfl
  rcases open_slice1 Try.underlying40 e43 h with ⟨rfl, _⟩ | ⟨a, len, cap, m, n, V', D, Pl, rfl, hb, hl, hm, hmm, _, hx⟩
  · exact ⟨none, 0, [], rfl, by simp, fun h => absurd rfl h⟩
  · have hle : len ≤ m := by rw [hmm]; split <;> omega
    have hex : ∀ i, i < len → ∃ l : List V, ∃ ai ci, w.cell? (a.add i) = some (.slice ai l.length ci) ∧ Vals w.heap.size w ai l := by
      intro i hi
      obtain ⟨h1, h2⟩ := hx i (by omega)
      obtain ⟨y0, n', _, _, h3⟩ := trod_struct1 Try.underlying76 h2
      simp only [e23, List.drop_zero, List.take_succ_cons, List.take_zero] at h3
      obtain ⟨ai, ci, l, hcs, hv⟩ := vals_of_trod h3
      simp at hcs
      exact ⟨l, ai, ci, by rw [h1, hcs], hv⟩
    obtain ⟨f, hf⟩ := choose_lt (α := List V) (p := fun i l => ∃ ai ci, w.cell? (a.add i) = some (.slice ai l.length ci) ∧ Vals w.heap.size w ai l) hex
    refine ⟨some a, cap, (List.range len).map f, by simp, ⟨by simp only [List.length_map, List.length_range]; simp only [maxLen] at hm; omega, fun hne => ?_⟩⟩
    have hpos : 0 < len := by
      rcases Nat.eq_zero_or_pos len with h0 | h0
      · subst h0; simp at hne
      · exact h0
    obtain ⟨ai0, ci0, h00, _⟩ := hf 0 hpos
    obtain ⟨b, off, rfl, _⟩ := addr_plain (a := a) (i := 0) h00 ⟨_, by simpa [Addr.add] using h00⟩
    have hplain : ∀ i, (⟨b, off, none⟩ : Addr).add i = ⟨b, off + i, none⟩ := fun i => Go.WideShapes.add_plain _ _ _
    refine ⟨b, off, rfl, World.block_lt_of_cell? w ⟨b, off + 0, none⟩ (by rw [← hplain]; exact h00), fun k l hk => ?_⟩
    have hkl : k < len := by
      have := (List.getElem?_eq_some_iff.1 hk).1
      simpa using this
    have hv : f k = l := by simpa [hkl] using hk
    have := hf k hkl
    rw [hv, hplain] at this
    exact this

/-- A graph that came in. -/
theorem graph_of_trod {r : Reach} {b0 : Nat} {v : Value} {d : DataW H} {p : List MemPlace} (hv : Value.okWide Try.prog w r b0 43 v) (h : DataW.Trod enc Try.prog w base spare held 43 v d p) :
    ∃ ao co ar cr, ∃ g : Gr, v = .agg #[.slice ao g.objs.length co, .slice ar g.roots.length cr] ∧ Objs w.heap.size w ao g.objs ∧ Vals w.heap.size w ar g.roots := by
  obtain ⟨c0, c1, y0, y1, m, rfl, _, _, hy0, hy1⟩ := open_agg2 Try.underlying43 (by kernel_rfl) (by kernel_rfl) hv h
  obtain ⟨ao, co, L, h0, hO⟩ := objs_of_trod hy0
  obtain ⟨ar, cr, l, h1, hV⟩ := vals_of_trod hy1
  simp at h0 h1
  exact ⟨ao, co, ar, cr, ⟨L, l⟩, by rw [h0, h1], hO, hV⟩

end
end Go.Proofs.Ytemjhdbmcdlpeaa

/- Plain: the words of values and headers. -/
namespace Go.Proofs.Ytemjhdbmcdlpeaa
set_option linter.unusedSimpArgs false
set_option linter.unusedVariables false
open Go.RowKit

/-- The word of a value, and what is wrong with it. -/
def packW (r : Bool) (n : Int) : Int :=
  if r then (if n < 0 ∨ 256 ≤ n then 0 else 2 * n) else (if n < -4611686018427387904 ∨ 4611686018427387903 < n then 0 else (2 * n + 1) % 18446744073709551616)
def packE (r : Bool) (n : Int) : Int :=
  if r then (if n < 0 ∨ 256 ≤ n then 2 else 0) else (if n < -4611686018427387904 ∨ 4611686018427387903 < n then 3 else 0)

/-- The value of a word, and what is wrong with it. -/
def unRef (x : Int) : Bool := decide (x % 2 = 0 ∧ x < 512)
def unNum (x : Int) : Int := if x % 2 = 0 then (if x < 512 then x / 2 else 0) else if x < 9223372036854775808 then x / 2 else x / 2 - 9223372036854775808
def unErr (x : Int) : Int := if x % 2 = 0 then (if x < 512 then 0 else 2) else 0

/-- The word of a header, and what is wrong with it. -/
def headOk (l a : Int) : Bool := decide (0 ≤ l ∧ l ≤ 4 ∧ 0 ≤ a ∧ a ≤ 7)
def headW (l : Int) (m : Bool) (a : Int) : Int := if headOk l a then 11889503016258109440 + a * 512 + l + (if m then 256 else 0) else 0
def headE (l a : Int) : Int := if headOk l a then 0 else 3

/-- The header of a word. -/
def unheadOk (x : Int) : Bool := decide (x % 256 ≤ 4 ∧ x / 4096 = 2902710697328640)
def uhL (x : Int) : Int := if unheadOk x then x % 256 else 0
def uhM (x : Int) : Bool := unheadOk x && decide (x / 256 % 2 = 1)
def uhA (x : Int) : Int := if unheadOk x then x / 512 % 8 else 0
def uhE (x : Int) : Int := if unheadOk x then 0 else 4

theorem ret_two {a b c d : Int} (h1 : a = c) (h2 : b = d) : Ending.returned (.tuple #[.int .u64 a, .int .i64 b]) = .returned (.tuple #[.int .u64 c, .int .i64 d]) := by rw [h1, h2]

theorem or_nat (a b : Int) (i : Nat) (h1 : 0 ≤ a) (h2 : a < 18446744073709551616) (h3 : 0 ≤ b) (h4 : b < 18446744073709551616) (ha : a.toNat % 2 ^ i = 0) (hb : b.toNat < 2 ^ i) : bits .or .u64 a b = a + b := by
  rw [u64_or a b h1 h2 h3 h4, nat_join i _ _ ha hb]; omega

theorem pack_or (n : Int) : bits .or .u64 (IntKind.u64.wrap (IntKind.u64.wrap n * 2)) 1 = (2 * n + 1) % 18446744073709551616 := by
  rw [IntKind.wrap_u64, IntKind.wrap_u64, or_nat _ _ 1 (by omega) (by omega) (by omega) (by omega) (by omega) (by omega)]; omega

theorem head_or (l a : Int) (h1 : 0 ≤ l) (h2 : l ≤ 4) (h3 : 0 ≤ a) (h4 : a ≤ 7) : bits .or .u64 (bits .or .u64 11889503016258109440 (a * 512)) l = 11889503016258109440 + a * 512 + l := by
  rw [or_nat 11889503016258109440 (a * 512) 12 (by omega) (by omega) (by omega) (by omega) (by omega) (by omega), or_nat (11889503016258109440 + a * 512) l 9 (by omega) (by omega) (by omega) (by omega) (by omega) (by omega)]

theorem head_mark (l a : Int) (h1 : 0 ≤ l) (h2 : l ≤ 4) (h3 : 0 ≤ a) (h4 : a ≤ 7) : bits .or .u64 (bits .or .u64 (bits .or .u64 11889503016258109440 (a * 512)) l) 256 = 11889503016258109440 + a * 512 + l + 256 := by
  have e : (11889503016258109440 + a * 512 + l).toNat ||| 256 = (11889503016258109440 + a * 512).toNat ||| (l.toNat ||| 256) := by
    rw [← Nat.or_assoc, nat_join 9 _ l.toNat (by omega) (by omega)]; congr 1; omega
  rw [head_or l a h1 h2 h3 h4, u64_or _ _ (by omega) (by omega) (by omega) (by omega), show (256 : Int).toNat = 256 from rfl, e, Nat.or_comm l.toNat 256, nat_join 8 256 _ (by omega) (by omega), nat_join 9 _ _ (by omega) (by omega)]
  omega

end Go.Proofs.Ytemjhdbmcdlpeaa

/- Walks: Pack, twice. -/
namespace Go.Proofs.Ytemjhdbmcdlpeaa
set_option linter.unusedSimpArgs false
set_option linter.unusedVariables false
open Go.RowKit

set_option maxHeartbeats 400000 in
theorem pack_c (r : Bool) (n : Int) (w : World) (h1 : -9223372036854775808 ≤ n) (h2 : n ≤ 9223372036854775807) :
    Calls Try.prog 44 #[.agg #[.bool r, .int .i64 n]] w fun e w' => e = .returned (.tuple #[.int .u64 (packW r n), .int .i64 (packE r n)]) ∧ Below w.heap.size w w' := by
  cases r
  · by_cases a : n < -4611686018427387904
    · go_enter Try.func44, Try.ntmps44
      go_wp2
      go_ret2
      exact ⟨ret_two (by simp [packW, a]) (by simp [packE, a]), (Below.refl _ _).alloc (Nat.le_refl _) _⟩
    · have d1 : decide (n < -4611686018427387904) = false := by simpa using a
      by_cases b : 4611686018427387903 < n
      · go_enter Try.func44, Try.ntmps44
        go_wp2
        go_ret2
        exact ⟨ret_two (by simp [packW, b]) (by simp [packE, b]), (Below.refl _ _).alloc (Nat.le_refl _) _⟩
      · have d2 : decide (4611686018427387903 < n) = false := by simpa using b
        go_enter Try.func44, Try.ntmps44
        go_wp2
        go_ret2
        exact ⟨ret_two (by rw [pack_or]; simp [packW]; omega) (by simp [packE]; omega), (Below.refl _ _).alloc (Nat.le_refl _) _⟩
  · by_cases a : n < 0
    · go_enter Try.func44, Try.ntmps44
      go_wp2
      go_ret2
      exact ⟨ret_two (by simp [packW, a]) (by simp [packE, a]), (Below.refl _ _).alloc (Nat.le_refl _) _⟩
    · have d1 : decide (n < 0) = false := by simpa using a
      by_cases b : 256 ≤ n
      · go_enter Try.func44, Try.ntmps44
        go_wp2
        go_ret2
        exact ⟨ret_two (by simp [packW, b]) (by simp [packE, b]), (Below.refl _ _).alloc (Nat.le_refl _) _⟩
      · have d2 : decide (256 ≤ n) = false := by simpa using b
        go_enter Try.func44, Try.ntmps44
        go_wp2
        go_ret2
        exact ⟨ret_two (by simp [packW]; omega) (by simp [packE]; omega), (Below.refl _ _).alloc (Nat.le_refl _) _⟩

set_option maxHeartbeats 400000 in
theorem rpack_c (r : Bool) (n : Int) (w : World) (h1 : -9223372036854775808 ≤ n) (h2 : n ≤ 9223372036854775807) :
    Calls Try.prog 60 #[.agg #[.bool r, .int .i64 n]] w fun e w' => e = .returned (.tuple #[.int .u64 (packW r n), .int .i64 (packE r n)]) ∧ Below w.heap.size w w' := by
  cases r
  · by_cases a : n < -4611686018427387904
    · go_enter Try.func60, Try.ntmps60
      go_wp2
      go_ret2
      exact ⟨ret_two (by simp [packW, a]) (by simp [packE, a]), (Below.refl _ _).alloc (Nat.le_refl _) _⟩
    · have d1 : decide (n < -4611686018427387904) = false := by simpa using a
      by_cases b : 4611686018427387903 < n
      · go_enter Try.func60, Try.ntmps60
        go_wp2
        go_ret2
        exact ⟨ret_two (by simp [packW, b]) (by simp [packE, b]), (Below.refl _ _).alloc (Nat.le_refl _) _⟩
      · have d2 : decide (4611686018427387903 < n) = false := by simpa using b
        go_enter Try.func60, Try.ntmps60
        go_wp2
        go_ret2
        exact ⟨ret_two (by rw [IntKind.wrap_u64, IntKind.wrap_u64, IntKind.wrap_u64]; simp [packW]; omega) (by simp [packE]; omega), (Below.refl _ _).alloc (Nat.le_refl _) _⟩
  · by_cases a : n < 0
    · go_enter Try.func60, Try.ntmps60
      go_wp2
      go_ret2
      exact ⟨ret_two (by simp [packW, a]) (by simp [packE, a]), (Below.refl _ _).alloc (Nat.le_refl _) _⟩
    · have d1 : decide (n < 0) = false := by simpa using a
      by_cases b : 256 ≤ n
      · go_enter Try.func60, Try.ntmps60
        go_wp2
        go_ret2
        exact ⟨ret_two (by simp [packW, b]) (by simp [packE, b]), (Below.refl _ _).alloc (Nat.le_refl _) _⟩
      · have d2 : decide (256 ≤ n) = false := by simpa using b
        go_enter Try.func60, Try.ntmps60
        go_wp2
        go_ret2
        exact ⟨ret_two (by simp [packW]; omega) (by simp [packE]; omega), (Below.refl _ _).alloc (Nat.le_refl _) _⟩


end Go.Proofs.Ytemjhdbmcdlpeaa

/- Walks: Unpack, twice. -/
namespace Go.Proofs.Ytemjhdbmcdlpeaa
set_option linter.unusedSimpArgs false
set_option linter.unusedVariables false
open Go.RowKit

theorem and_one (x : Int) (h1 : 0 ≤ x) (h2 : x < 18446744073709551616) : bits .and .u64 x 1 = x % 2 := by
  rw [u64_and x 1 h1 h2 (by omega) (by omega), show (1 : Int).toNat = 1 from rfl, nat_mask1]; omega

theorem wrap_hi (x : Int) (h1 : 9223372036854775808 ≤ x) (h2 : x < 18446744073709551616) : wrap64 x = x - 18446744073709551616 := by
  unfold wrap64; omega

theorem ret_val {r r' : Bool} {a b c d : Int} (h0 : r = r') (h1 : a = c) (h2 : b = d) : Ending.returned (.tuple #[.agg #[.bool r, .int .i64 a], .int .i64 b]) = .returned (.tuple #[.agg #[.bool r', .int .i64 c], .int .i64 d]) := by rw [h0, h1, h2]

set_option maxHeartbeats 400000 in
theorem unpack_c (x : Int) (w : World) (h1 : 0 ≤ x) (h2 : x < 18446744073709551616) :
    Calls Try.prog 43 #[.int .u64 x] w fun e w' => e = .returned (.tuple #[.agg #[.bool (unRef x), .int .i64 (unNum x)], .int .i64 (unErr x)]) ∧ Below w.heap.size w w' := by
  have ha := and_one x h1 h2
  by_cases a : x % 2 = 0
  · have a' : (x % 2 != 0) = false := by simp [a]
    have a'' : (x % 2 == 0) = true := by simp [a]
    by_cases b : x < 512
    · go_enter Try.func43, Try.ntmps43
      go_wp2
      exact bodyPost_ret (v := .tuple #[.agg #[.bool true, .int .i64 (x / 2)], .int .i64 0]) (by simp [results, Try.results43, go_sem]) rfl ⟨ret_val (by simp [unRef]; try omega) (by simp [unNum]; omega) (by simp [unErr]; try omega), (Below.refl _ _).alloc (Nat.le_refl _) _⟩
    · go_enter Try.func43, Try.ntmps43
      go_wp2
      exact bodyPost_ret (v := .tuple #[.agg #[.bool false, .int .i64 0], .int .i64 2]) (by simp [results, Try.results43, go_sem]) rfl ⟨ret_val (by simp [unRef]; try omega) (by simp [unNum]; omega) (by simp [unErr]; try omega), (Below.refl _ _).alloc (Nat.le_refl _) _⟩
  · have a' : (x % 2 != 0) = true := by simp [a]
    have a'' : (x % 2 == 0) = false := by simp [a]
    by_cases b : x < 9223372036854775808
    · go_enter Try.func43, Try.ntmps43
      go_wp2
      exact bodyPost_ret (v := .tuple #[.agg #[.bool false, .int .i64 (x / 2)], .int .i64 0]) (by simp [results, Try.results43, go_sem]) rfl ⟨ret_val (by simp [unRef]; try omega) (by simp [unNum]; omega) (by simp [unErr]; try omega), (Below.refl _ _).alloc (Nat.le_refl _) _⟩
    · go_enter Try.func43, Try.ntmps43
      go_wp2
      exact bodyPost_ret (v := .tuple #[.agg #[.bool false, .int .i64 (wrap64 x / 2)], .int .i64 0]) (by simp [results, Try.results43, go_sem]) rfl ⟨ret_val (by simp [unRef]; try omega) (by have := wrap_hi x (by omega) h2; simp [unNum]; omega) (by simp [unErr]; try omega), (Below.refl _ _).alloc (Nat.le_refl _) _⟩

set_option maxHeartbeats 400000 in
theorem runpack_c (x : Int) (w : World) (h1 : 0 ≤ x) (h2 : x < 18446744073709551616) :
    Calls Try.prog 27 #[.int .u64 x] w fun e w' => e = .returned (.tuple #[.agg #[.bool (unRef x), .int .i64 (unNum x)], .int .i64 (unErr x)]) ∧ Below w.heap.size w w' := by
  have ha := and_one x h1 h2
  by_cases a : x % 2 = 0
  · have a' : (x % 2 != 0) = false := by simp [a]
    have a'' : (x % 2 == 0) = true := by simp [a]
    by_cases b : x < 512
    · go_enter Try.func27, Try.ntmps27
      go_wp2
      exact bodyPost_ret (v := .tuple #[.agg #[.bool true, .int .i64 (x / 2)], .int .i64 0]) (by simp [results, Try.results27, go_sem]) rfl ⟨ret_val (by simp [unRef]; try omega) (by simp [unNum]; omega) (by simp [unErr]; try omega), (Below.refl _ _).alloc (Nat.le_refl _) _⟩
    · go_enter Try.func27, Try.ntmps27
      go_wp2
      exact bodyPost_ret (v := .tuple #[.agg #[.bool false, .int .i64 0], .int .i64 2]) (by simp [results, Try.results27, go_sem]) rfl ⟨ret_val (by simp [unRef]; try omega) (by simp [unNum]; omega) (by simp [unErr]; try omega), (Below.refl _ _).alloc (Nat.le_refl _) _⟩
  · have a' : (x % 2 != 0) = true := by simp [a]
    have a'' : (x % 2 == 0) = false := by simp [a]
    by_cases b : x < 9223372036854775808
    · go_enter Try.func27, Try.ntmps27
      go_wp2
      exact bodyPost_ret (v := .tuple #[.agg #[.bool false, .int .i64 (x / 2)], .int .i64 0]) (by simp [results, Try.results27, go_sem]) rfl ⟨ret_val (by simp [unRef]; try omega) (by simp [unNum]; omega) (by simp [unErr]; try omega), (Below.refl _ _).alloc (Nat.le_refl _) _⟩
    · go_enter Try.func27, Try.ntmps27
      go_wp2
      exact bodyPost_ret (v := .tuple #[.agg #[.bool false, .int .i64 (x / 2 - 4611686018427387904 - 4611686018427387904)], .int .i64 0]) (by simp [results, Try.results27, go_sem]) rfl ⟨ret_val (by simp [unRef]; try omega) (by simp [unNum]; omega) (by simp [unErr]; try omega), (Below.refl _ _).alloc (Nat.le_refl _) _⟩

end Go.Proofs.Ytemjhdbmcdlpeaa

/- Walks: Head, twice. -/
namespace Go.Proofs.Ytemjhdbmcdlpeaa
set_option linter.unusedSimpArgs false
set_option linter.unusedVariables false
open Go.RowKit

set_option maxHeartbeats 400000 in
theorem head_c (l a : Int) (m : Bool) (w : World) :
    Calls Try.prog 41 #[.agg #[.int .i64 l, .bool m, .int .i64 a]] w fun e w' => e = .returned (.tuple #[.int .u64 (headW l m a), .int .i64 (headE l a)]) ∧ Below w.heap.size w w' := by
  by_cases h1 : l < 0
  · have d1 : decide (l < 0) = true := by simpa using h1
    go_enter Try.func41, Try.ntmps41
    go_wp2
    go_ret2
    exact ⟨ret_two (by simp [headW, headOk]; omega) (by simp [headE, headOk]; omega), (Below.refl _ _).alloc (Nat.le_refl _) _⟩
  · have d1 : decide (l < 0) = false := by simpa using h1
    by_cases h2 : 4 < l
    · have d2 : decide (4 < l) = true := by simpa using h2
      go_enter Try.func41, Try.ntmps41
      go_wp2
      go_ret2
      exact ⟨ret_two (by simp [headW, headOk]; omega) (by simp [headE, headOk]; omega), (Below.refl _ _).alloc (Nat.le_refl _) _⟩
    · have d2 : decide (4 < l) = false := by simpa using h2
      by_cases h3 : a < 0
      · have d3 : decide (a < 0) = true := by simpa using h3
        go_enter Try.func41, Try.ntmps41
        go_wp2
        go_ret2
        exact ⟨ret_two (by simp [headW, headOk]; omega) (by simp [headE, headOk]; omega), (Below.refl _ _).alloc (Nat.le_refl _) _⟩
      · have d3 : decide (a < 0) = false := by simpa using h3
        by_cases h4 : 7 < a
        · have d4 : decide (7 < a) = true := by simpa using h4
          go_enter Try.func41, Try.ntmps41
          go_wp2
          go_ret2
          exact ⟨ret_two (by simp [headW, headOk]; omega) (by simp [headE, headOk]; omega), (Below.refl _ _).alloc (Nat.le_refl _) _⟩
        · have d4 : decide (7 < a) = false := by simpa using h4
          have hk : headOk l a = true := by simp [headOk]; omega
          cases m
          · go_enter Try.func41, Try.ntmps41
            go_wp2
            go_ret2
            refine ⟨ret_two ?_ (by simp [headE, hk]), (Below.refl _ _).alloc (Nat.le_refl _) _⟩
            rw [headW, if_pos hk]
            rw [head_or l a h1 h2 h3 h4]; simp
          · go_enter Try.func41, Try.ntmps41
            go_wp2
            go_ret2
            refine ⟨ret_two ?_ (by simp [headE, hk]), (Below.refl _ _).alloc (Nat.le_refl _) _⟩
            rw [headW, if_pos hk]
            rw [head_mark l a h1 h2 h3 h4]; simp

set_option maxHeartbeats 400000 in
theorem rhead_c (l a : Int) (m : Bool) (w : World) :
    Calls Try.prog 46 #[.agg #[.int .i64 l, .bool m, .int .i64 a]] w fun e w' => e = .returned (.tuple #[.int .u64 (headW l m a), .int .i64 (headE l a)]) ∧ Below w.heap.size w w' := by
  by_cases h1 : l < 0
  · have d1 : decide (l < 0) = true := by simpa using h1
    go_enter Try.func46, Try.ntmps46
    go_wp2
    go_ret2
    exact ⟨ret_two (by simp [headW, headOk]; omega) (by simp [headE, headOk]; omega), (Below.refl _ _).alloc (Nat.le_refl _) _⟩
  · have d1 : decide (l < 0) = false := by simpa using h1
    by_cases h2 : 4 < l
    · have d2 : decide (4 < l) = true := by simpa using h2
      go_enter Try.func46, Try.ntmps46
      go_wp2
      go_ret2
      exact ⟨ret_two (by simp [headW, headOk]; omega) (by simp [headE, headOk]; omega), (Below.refl _ _).alloc (Nat.le_refl _) _⟩
    · have d2 : decide (4 < l) = false := by simpa using h2
      by_cases h3 : a < 0
      · have d3 : decide (a < 0) = true := by simpa using h3
        go_enter Try.func46, Try.ntmps46
        go_wp2
        go_ret2
        exact ⟨ret_two (by simp [headW, headOk]; omega) (by simp [headE, headOk]; omega), (Below.refl _ _).alloc (Nat.le_refl _) _⟩
      · have d3 : decide (a < 0) = false := by simpa using h3
        by_cases h4 : 7 < a
        · have d4 : decide (7 < a) = true := by simpa using h4
          go_enter Try.func46, Try.ntmps46
          go_wp2
          go_ret2
          exact ⟨ret_two (by simp [headW, headOk]; omega) (by simp [headE, headOk]; omega), (Below.refl _ _).alloc (Nat.le_refl _) _⟩
        · have d4 : decide (7 < a) = false := by simpa using h4
          have hk : headOk l a = true := by simp [headOk]; omega
          cases m
          · go_enter Try.func46, Try.ntmps46
            go_wp2
            go_ret2
            refine ⟨ret_two ?_ (by simp [headE, hk]), (Below.refl _ _).alloc (Nat.le_refl _) _⟩
            rw [headW, if_pos hk]
            simp
          · go_enter Try.func46, Try.ntmps46
            go_wp2
            go_ret2
            refine ⟨ret_two ?_ (by simp [headE, hk]), (Below.refl _ _).alloc (Nat.le_refl _) _⟩
            rw [headW, if_pos hk]
            simp

end Go.Proofs.Ytemjhdbmcdlpeaa

/- Walks: Unhead, twice. -/
namespace Go.Proofs.Ytemjhdbmcdlpeaa
set_option linter.unusedSimpArgs false
set_option linter.unusedVariables false
open Go.RowKit

theorem and_mask (x m : Int) (k : Nat) (h1 : 0 ≤ x) (h2 : x < 18446744073709551616) (hm : m = 2 ^ k - 1) (hk : k ≤ 8) : bits .and .u64 x m = x % 2 ^ k := by
  have hm' : m.toNat = 2 ^ k - 1 := by subst hm; have : (0:Int) < 2 ^ k := Int.pow_pos (by omega); have e : ((2 ^ k : Nat) : Int) = 2 ^ k := by simp
                                       omega
  have hp : (2:Nat) ^ k ≤ 2 ^ 8 := Nat.pow_le_pow_right (by omega) hk
  have e : ((2 ^ k : Nat) : Int) = 2 ^ k := by simp
  rw [u64_and x m h1 h2 (by have := Nat.two_pow_pos k; omega) (by omega), hm', Nat.and_two_pow_sub_one_eq_mod]
  rw [Int.natCast_emod, e]; congr 1; omega

theorem ret_head {m m' : Bool} {l l' a a' b d : Int} (h0 : m = m') (h1 : l = l') (h2 : a = a') (h3 : b = d) : Ending.returned (.tuple #[.agg #[.int .i64 l, .bool m, .int .i64 a], .int .i64 b]) = .returned (.tuple #[.agg #[.int .i64 l', .bool m', .int .i64 a'], .int .i64 d]) := by rw [h0, h1, h2, h3]

theorem uh_head (x : Int) (h1 : 0 ≤ x) (h2 : x < 18446744073709551616) (h3 : x % 256 ≤ 4) : headE (x % 256) (x / 512 % 8) = 0 ∧ headW (x % 256) (x / 256 % 2 != 0) (x / 512 % 8) = 11889503016258109440 + x % 4096 := by
  have hk : headOk (x % 256) (x / 512 % 8) = true := by simp [headOk]; omega
  refine ⟨by simp [headE, hk], ?_⟩
  rw [headW, if_pos hk]
  by_cases hm : x / 256 % 2 = 0
  · simp [hm]; omega
  · simp [hm]; omega

theorem uh_bad (x : Int) (h1 : 0 ≤ x) (h3 : 4 < x % 256) : headE (x % 256) (x / 512 % 8) = 3 := by
  have hk : headOk (x % 256) (x / 512 % 8) = false := by simp [headOk]; omega
  simp [headE, hk]

theorem mark_eq (x : Int) (h1 : 0 ≤ x) : (x / 256 % 2 != 0) = decide (x / 256 % 2 = 1) := by
  rw [Bool.eq_iff_iff]; simp; omega

set_option maxHeartbeats 800000 in
theorem unhead_c (x : Int) (w : World) (h1 : 0 ≤ x) (h2 : x < 18446744073709551616) :
    Calls Try.prog 59 #[.int .u64 x] w fun e w' => e = .returned (.tuple #[.agg #[.int .i64 (uhL x), .bool (uhM x), .int .i64 (uhA x)], .int .i64 (uhE x)]) ∧ Below w.heap.size w w' := by
  have m1 := and_mask x 255 8 h1 h2 (by rfl) (by omega)
  have m2 := and_mask (x / 256) 1 1 (by omega) (by omega) (by rfl) (by omega)
  have m3 := and_mask (x / 512) 7 3 (by omega) (by omega) (by rfl) (by omega)
  simp only [Int.reducePow] at m1 m2 m3
  have hb0 : Below w.heap.size w (w.alloc (.cells #[.int .i64 0, .bool false, .int .i64 0] 32)) := (Below.refl _ _).alloc (Nat.le_refl _) _
  have hb1 := hb0.alloc (by simp) (.cells #[.int .i64 (x % 256), .bool (x / 256 % 2 != 0), .int .i64 (x / 512 % 8)] 32)
  go_enter Try.func59, Try.ntmps59
  go_wp2_with fail
  refine (head_c _ _ _ _).mono ?_
  rintro e w2 ⟨rfl, hb2⟩
  simp only [World.size_alloc] at hb2
  have g0 := hb2.cell (p := ⟨w.heap.size, 0, none⟩) (show w.heap.size < _ by omega)
  have g1 := hb2.cell (p := ⟨w.heap.size, 1, none⟩) (show w.heap.size < _ by omega)
  have g2 := hb2.cell (p := ⟨w.heap.size, 2, none⟩) (show w.heap.size < _ by omega)
  have g3 := hb2.cell (p := ⟨w.heap.size + 1, 0, none⟩) (by simp)
  have g4 := hb2.cell (p := ⟨w.heap.size + 1, 1, none⟩) (by simp)
  have g5 := hb2.cell (p := ⟨w.heap.size + 1, 2, none⟩) (by simp)
  have f0 := hb2.frozen (p := ⟨w.heap.size, 0, none⟩) (show w.heap.size < _ by omega)
  have f1 := hb2.frozen (p := ⟨w.heap.size, 1, none⟩) (show w.heap.size < _ by omega)
  have f2 := hb2.frozen (p := ⟨w.heap.size, 2, none⟩) (show w.heap.size < _ by omega)
  simp [go_sem] at g0 g1 g2 g3 g4 g5 f0 f1 f2
  have hbw : Below w.heap.size w w2 := hb1.trans (hb2.mono (by omega))
  have hs2 := hb2.size
  simp only [World.size_alloc] at hs2
  clear hb0 hb1 hb2
  by_cases a : 4 < x % 256
  · have he := uh_bad x h1 a
    have hk : unheadOk x = false := by simp [unheadOk]; omega
    rw [he]
    go_wp2
    exact bodyPost_ret (v := .tuple #[.agg #[.int .i64 0, .bool false, .int .i64 0], .int .i64 4]) (by simp [results, Try.results59, go_sem, g0, g1, g2, f0, f1, f2]) rfl ⟨ret_head (by simp [uhM, hk]) (by simp [uhL, hk]) (by simp [uhA, hk]) (by simp [uhE, hk]), ((hbw.setCell (by simp) _).setCell (by simp) _).setCell (by simp) _⟩
  · obtain ⟨he, hw⟩ := uh_head x h1 h2 (by omega)
    rw [he, hw]
    clear he hw
    by_cases b : x / 4096 = 2902710697328640
    · have hk : unheadOk x = true := by simp [unheadOk]; omega
      have hx : 11889503016258109440 + x % 4096 = x := by omega
      rw [hx]
      clear hx
      go_wp2
      exact bodyPost_ret (v := .tuple #[.agg #[.int .i64 (x % 256), .bool (x / 256 % 2 != 0), .int .i64 (x / 512 % 8)], .int .i64 0]) (by simp [results, Try.results59, go_sem, g0, g1, g2, f0, f1, f2]) rfl ⟨ret_head (by rw [mark_eq x h1]; simp [uhM, hk]) (by simp [uhL, hk]) (by simp [uhA, hk]) (by simp [uhE, hk]), ((hbw.setCell (by simp) _).setCell (by simp) _).setCell (by simp) _⟩
    · have hk : unheadOk x = false := by simp [unheadOk]; omega
      have hx : ¬ 11889503016258109440 + x % 4096 = x := by omega
      have hd : (11889503016258109440 + x % 4096 != x) = true := by simpa using hx
      clear hx
      go_wp2
      exact bodyPost_ret (v := .tuple #[.agg #[.int .i64 0, .bool false, .int .i64 0], .int .i64 4]) (by simp [results, Try.results59, go_sem, g0, g1, g2, f0, f1, f2]) rfl ⟨ret_head (by simp [uhM, hk]) (by simp [uhL, hk]) (by simp [uhA, hk]) (by simp [uhE, hk]), ((hbw.setCell (by simp) _).setCell (by simp) _).setCell (by simp) _⟩

set_option maxHeartbeats 400000 in
theorem runhead_c (x : Int) (w : World) (h1 : 0 ≤ x) (h2 : x < 18446744073709551616) :
    Calls Try.prog 28 #[.int .u64 x] w fun e w' => e = .returned (.tuple #[.agg #[.int .i64 (uhL x), .bool (uhM x), .int .i64 (uhA x)], .int .i64 (uhE x)]) ∧ Below w.heap.size w w' := by
  by_cases a : 4 < x % 256
  · have d : decide (4 < x % 256) = true := by simpa using a
    have hk : unheadOk x = false := by simp [unheadOk]; omega
    go_enter Try.func28, Try.ntmps28
    go_wp2
    exact bodyPost_ret (v := .tuple #[.agg #[.int .i64 0, .bool false, .int .i64 0], .int .i64 4]) (by simp [results, Try.results28, go_sem]) rfl ⟨ret_head (by simp [uhM, hk]) (by simp [uhL, hk]) (by simp [uhA, hk]) (by simp [uhE, hk]), ((Below.refl _ _).alloc (Nat.le_refl _) _).alloc (by simp) _⟩
  · have d : decide (4 < x % 256) = false := by simpa using a
    by_cases b : x / 4096 = 2902710697328640
    · have d2 : (x / 4096 != 2902710697328640) = false := by simpa using b
      have hk : unheadOk x = true := by simp [unheadOk]; omega
      go_enter Try.func28, Try.ntmps28
      go_wp2
      exact bodyPost_ret (v := .tuple #[.agg #[.int .i64 (x % 256), .bool (x / 256 % 2 == 1), .int .i64 (x / 512 % 8)], .int .i64 0]) (by simp [results, Try.results28, go_sem]) rfl ⟨ret_head (by rw [Bool.eq_iff_iff]; simp [uhM, hk]) (by simp [uhL, hk]) (by simp [uhA, hk]) (by simp [uhE, hk]), ((Below.refl _ _).alloc (Nat.le_refl _) _).alloc (by simp) _⟩
    · have d2 : (x / 4096 != 2902710697328640) = true := by simpa using b
      have hk : unheadOk x = false := by simp [unheadOk]; omega
      go_enter Try.func28, Try.ntmps28
      go_wp2
      exact bodyPost_ret (v := .tuple #[.agg #[.int .i64 0, .bool false, .int .i64 0], .int .i64 4]) (by simp [results, Try.results28, go_sem]) rfl ⟨ret_head (by simp [uhM, hk]) (by simp [uhL, hk]) (by simp [uhA, hk]) (by simp [uhE, hk]), ((Below.refl _ _).alloc (Nat.le_refl _) _).alloc (by simp) _⟩

end Go.Proofs.Ytemjhdbmcdlpeaa

/- Walks: WordsBack, WordsOnly, WordsHeaded. -/
namespace Go.Proofs.Ytemjhdbmcdlpeaa
set_option linter.unusedSimpArgs false
set_option linter.unusedVariables false
open Go.RowKit

theorem packE_ne (r : Bool) (n : Int) (h : packE r n ≠ 0) : packW r n = 0 ∧ (r = true ∨ n < -4611686018427387904 ∨ 4611686018427387903 < n) := by
  cases r
  · simp only [packE, packW, Bool.false_eq_true, if_false] at *
    by_cases c : n < -4611686018427387904 ∨ 4611686018427387903 < n
    · rw [if_pos c]; exact ⟨rfl, Or.inr c⟩
    · rw [if_neg c] at h; exact absurd rfl h
  · simp only [packE, packW, if_true] at *
    by_cases c : n < 0 ∨ 256 ≤ n
    · rw [if_pos c]; exact ⟨rfl, by simp⟩
    · rw [if_neg c] at h; exact absurd rfl h

theorem packE_eq (r : Bool) (n : Int) (h : packE r n = 0) : 0 ≤ packW r n ∧ packW r n < 18446744073709551616 ∧ unRef (packW r n) = r ∧ unNum (packW r n) = n ∧ unErr (packW r n) = 0 := by
  cases r
  · simp only [packE, packW, Bool.false_eq_true, if_false] at *
    by_cases c : n < -4611686018427387904 ∨ 4611686018427387903 < n
    · rw [if_pos c] at h; omega
    · rw [if_neg c]
      have h2 : ¬ (2 * n + 1) % 18446744073709551616 % 2 = 0 := by omega
      refine ⟨by omega, by omega, by simp [unRef]; try omega, ?_, by simp [unErr, h2]⟩
      simp only [unNum, if_neg h2]
      split <;> omega
  · simp only [packE, packW, if_true] at *
    by_cases c : n < 0 ∨ 256 ≤ n
    · rw [if_pos c] at h; omega
    · rw [if_neg c]
      have h2 : 2 * n % 2 = 0 := by omega
      have h3 : 2 * n < 512 := by omega
      exact ⟨by omega, by omega, by simp [unRef]; omega, by simp [unNum, h3]; try omega, by simp [unErr, h3]⟩

theorem pack_un (x : Int) (h1 : 0 ≤ x) (h2 : x < 18446744073709551616) (h : unErr x = 0) : packE (unRef x) (unNum x) = 0 ∧ packW (unRef x) (unNum x) = x := by
  by_cases a : x % 2 = 0
  · by_cases b : x < 512
    · have e : unRef x = true := by simp [unRef]; omega
      have f : unNum x = x / 2 := by simp [unNum, a, b]
      rw [e, f]
      simp only [packE, packW, if_true]
      rw [if_neg (by omega), if_neg (by omega)]; omega
    · simp [unErr, a, b] at h
  · have e : unRef x = false := by simp [unRef]; omega
    rw [e]
    by_cases b : x < 9223372036854775808
    · have f : unNum x = x / 2 := by simp [unNum, a, b]
      rw [f]
      simp only [packE, packW, Bool.false_eq_true, if_false]
      rw [if_neg (by omega), if_neg (by omega)]; omega
    · have f : unNum x = x / 2 - 9223372036854775808 := by simp [unNum, a, b]
      rw [f]
      simp only [packE, packW, Bool.false_eq_true, if_false]
      rw [if_neg (by omega), if_neg (by omega)]; omega

theorem pack_inj (r s : Bool) (n m : Int) (h1 : packE r n = 0) (h2 : packE s m = 0) : (packW r n == packW s m) = ((r == s) && (n == m)) := by
  rw [Bool.eq_iff_iff]
  constructor
  · intro h
    have e : packW r n = packW s m := by simpa using h
    have a := packE_eq r n h1
    have b := packE_eq s m h2
    rw [← e, a.2.2.1, a.2.2.2.1] at b
    simp [b.2.2.1, b.2.2.2.1]
  · intro h
    simp at h
    simp [h.1, h.2]

theorem head_un (x : Int) (h1 : 0 ≤ x) (h2 : x < 18446744073709551616) (h : uhE x = 0) : headE (uhL x) (uhA x) = 0 ∧ headW (uhL x) (uhM x) (uhA x) = x := by
  have hk : unheadOk x = true := by
    cases e : unheadOk x
    · simp [uhE, e] at h
    · rfl
  have hk' := hk
  simp [unheadOk] at hk'
  obtain ⟨a, b⟩ := uh_head x h1 h2 hk'.1
  rw [mark_eq x h1] at b
  simp only [uhL, uhM, uhA, hk, if_true, Bool.true_and]
  exact ⟨a, by rw [b]; omega⟩

theorem headE_ne (l a : Int) (m : Bool) (h : headE l a ≠ 0) : headW l m a = 0 ∧ headOk l a = false := by
  cases e : headOk l a
  · simp [headW, e]
  · simp [headE, e] at h

theorem un_head (l a : Int) (m : Bool) (h : headE l a = 0) : 0 ≤ headW l m a ∧ headW l m a < 18446744073709551616 ∧ uhL (headW l m a) = l ∧ uhM (headW l m a) = m ∧ uhA (headW l m a) = a ∧ uhE (headW l m a) = 0 := by
  cases e : headOk l a
  · simp [headE, e] at h
  · have e' := e
    simp [headOk] at e'
    have hw : headW l m a = 11889503016258109440 + a * 512 + l + (if m then 256 else 0) := by simp [headW, e]
    rw [hw]
    cases m
    · simp only [Bool.false_eq_true, if_false]
      have hk : unheadOk (11889503016258109440 + a * 512 + l + 0) = true := by simp [unheadOk]; omega
      simp only [uhL, uhM, uhA, uhE, hk, if_true, Bool.true_and]
      exact ⟨by omega, by omega, by omega, by simp; try omega, by omega, trivial⟩
    · simp only [if_true]
      have hk : unheadOk (11889503016258109440 + a * 512 + l + 256) = true := by simp [unheadOk]; omega
      simp only [uhL, uhM, uhA, uhE, hk, if_true, Bool.true_and]
      exact ⟨by omega, by omega, by omega, by simp; try omega, by omega, trivial⟩

theorem xor_mark (l a : Int) (m : Bool) (h : headE l a = 0) : bits .xor .u64 (headW l m a) (headW l (!m) a) = 256 := by
  cases e : headOk l a
  · simp [headE, e] at h
  · have e' := e
    simp [headOk] at e'
    have key : ((11889503016258109440 + a * 512 + l).toNat ^^^ (11889503016258109440 + a * 512 + l + 256).toNat) = 256 := by
      have hl : l = 0 ∨ l = 1 ∨ l = 2 ∨ l = 3 ∨ l = 4 := by omega
      have ha : a = 0 ∨ a = 1 ∨ a = 2 ∨ a = 3 ∨ a = 4 ∨ a = 5 ∨ a = 6 ∨ a = 7 := by omega
      clear e e' h
      rcases hl with rfl | rfl | rfl | rfl | rfl <;> rcases ha with rfl | rfl | rfl | rfl | rfl | rfl | rfl | rfl <;> rfl
    have a1 := un_head l a m h
    have a2 := un_head l a (!m) h
    rw [u64_xor _ _ a1.1 a1.2.1 a2.1 a2.2.1]
    cases m
    · simp only [headW, e, if_true, Bool.not_false, Bool.false_eq_true, if_false, Int.add_zero]
      rw [key]; rfl
    · simp only [headW, e, if_true, Bool.not_true, Bool.false_eq_true, if_false, Int.add_zero]
      rw [Nat.xor_comm, key]; rfl

end Go.Proofs.Ytemjhdbmcdlpeaa

/- Walks. -/
namespace Go.Proofs.Ytemjhdbmcdlpeaa
set_option linter.unusedSimpArgs false
set_option linter.unusedVariables false
open Go.RowKit

def isNum (n : Int) : Bool := decide (-4611686018427387904 ≤ n) && decide (n ≤ 4611686018427387903)

end Go.Proofs.Ytemjhdbmcdlpeaa

/- Walks. -/
namespace Go.Proofs.Ytemjhdbmcdlpeaa
set_option linter.unusedSimpArgs false
set_option linter.unusedVariables false
open Go.RowKit

theorem Try.info64 : (Try.prog.info? 64).map (fun i => (i.zero, i.size, i.bytes)) = some (some (.agg #[.bool false, .int .i64 0]), 2, 16) := by kernel_rfl

end Go.Proofs.Ytemjhdbmcdlpeaa

/- Walks. -/
namespace Go.Proofs.Ytemjhdbmcdlpeaa
set_option linter.unusedSimpArgs false
set_option linter.unusedVariables false
open Go.RowKit

theorem snoc_take {l : List V} {k : Nat} (hk : k < l.length) {r : Bool} {n : Int} (h : l[k] = (r, n)) (pre : List V) : cellsV (pre ++ l.take (k + 1)) = cellsV (pre ++ l.take k) ++ [.bool r, .int .i64 n] := by
  rw [List.take_succ_eq_append_getElem hk, h, ← List.append_assoc, cellsV_snoc]

theorem flat_le : ∀ (L : List (List V)), (∀ l ∈ L, l.length ≤ 4) → L.flatten.length ≤ 4 * L.length
  | [], _ => by simp
  | l :: L, h => by
    have h1 := h l (by simp)
    have h2 := flat_le L (fun x hx => h x (by simp [hx]))
    simp only [List.flatten_cons, List.length_append, List.length_cons]
    omega

theorem flat_snoc {L : List (List V)} {k : Nat} (hk : k < L.length) : (L.take (k + 1)).flatten = (L.take k).flatten ++ L[k] := by
  rw [List.take_succ_eq_append_getElem hk, List.flatten_append]; simp only [List.flatten_cons, List.flatten_nil, List.append_nil]

end Go.Proofs.Ytemjhdbmcdlpeaa

/- Walks. -/
namespace Go.Proofs.Ytemjhdbmcdlpeaa
set_option linter.unusedSimpArgs false
set_option linter.unusedVariables false
open Go.RowKit

theorem any_snoc {α : Type} (p : α → Bool) {l : List α} {k : Nat} (hk : k < l.length) : (l.take (k + 1)).any p = ((l.take k).any p || p l[k]) := by
  rw [List.take_succ_eq_append_getElem hk]
  simp only [List.any_append, List.any_cons, List.any_nil, Bool.or_false]

theorem any_take {α : Type} (p : α → Bool) {l : List α} {k : Nat} (h : (l.take k).any p = true) : l.any p = true := by
  rw [List.any_eq_true] at *
  obtain ⟨x, hx, hp⟩ := h
  exact ⟨x, List.mem_of_mem_take hx, hp⟩

theorem large_of_obj {g : Gr} {k : Nat} (hk : k < g.objs.length) (h : 4 < g.objs[k].length) : isLargeG g = true := by
  simp only [isLargeG, Bool.or_eq_true, List.any_eq_true, decide_eq_true_eq]
  exact .inr ⟨_, List.getElem_mem hk, h⟩

theorem badV_vals (v : V) (n : Nat) : badV v n = 0 ∨ badV v n = 2 ∨ badV v n = 3 := by
  unfold badV; split <;> split <;> simp

/-- The worst so far, none being 2. -/
def worst (l : List V) (n : Nat) : Int := if l.any (fun v => badV v n == 3) then 3 else 0

theorem worst_vals (l : List V) (n : Nat) : worst l n = 0 ∨ worst l n = 3 := by
  unfold worst; split <;> simp

theorem worst_snoc {l : List V} {k : Nat} (hk : k < l.length) {v : V} (hv : l[k] = v) (n : Nat) : worst (l.take (k + 1)) n = if worst (l.take k) n = 3 then 3 else if badV v n = 3 then 3 else 0 := by
  unfold worst
  rw [any_snoc _ hk, hv]
  by_cases h : (List.take k l).any (fun v => badV v n == 3) = true <;> by_cases h' : badV v n = 3 <;> simp [h, h']

theorem not_large {g : Gr} (h1 : ¬ 24 < g.objs.length) (h2 : ¬ 8 < g.roots.length) (h3 : g.objs.any (fun l => decide (4 < l.length)) = false) : isLargeG g = false := by
  simp only [isLargeG, h3, Bool.or_false]; simp; omega

end Go.Proofs.Ytemjhdbmcdlpeaa

/- Walks. -/
namespace Go.Proofs.Ytemjhdbmcdlpeaa
set_option linter.unusedSimpArgs false
set_option linter.unusedVariables false
open Go.RowKit

def isObj (n : Int) (N : Nat) : Bool := decide (0 ≤ n) && decide (n < (N : Int))

end Go.Proofs.Ytemjhdbmcdlpeaa

/- Walks: the iterator over all values of a graph. -/
namespace Go.Proofs.Ytemjhdbmcdlpeaa
set_option linter.unusedSimpArgs false
set_option linter.unusedVariables false
open Go.RowKit Go.Shelf
attribute [local go_sem] Oper.semAt_some

/-- A value as yield is handed it. -/
def encV (v : V) : Array Value := #[.agg #[.bool v.1, .int .i64 v.2]]

theorem take_snoc {α : Type} {l : List α} {k : Nat} (hk : k < l.length) {v : α} (h : l[k] = v) (pre : List α) : pre ++ l.take (k + 1) = (pre ++ l.take k) ++ [v] := by
  rw [List.take_succ_eq_append_getElem hk, h, ← List.append_assoc]

theorem flat_split {g : Gr} {k : Nat} (hk : k < g.objs.length) : allV g = g.roots ++ (g.objs.take k).flatten ++ g.objs[k] ++ (g.objs.drop (k + 1)).flatten := by
  have h : g.objs = g.objs.take k ++ [g.objs[k]] ++ g.objs.drop (k + 1) := by
    rw [← List.take_succ_eq_append_getElem hk, List.take_append_drop]
  unfold allV
  conv => lhs; rw [h]
  simp only [List.flatten_append, List.flatten_cons, List.flatten_nil, List.append_nil, List.append_assoc]

end Go.Proofs.Ytemjhdbmcdlpeaa

/- Walks: graph.Check. -/
namespace Go.Proofs.Ytemjhdbmcdlpeaa
set_option linter.unusedSimpArgs false
set_option linter.unusedVariables false
open Go.RowKit Go.Shelf
attribute [local go_sem] Oper.semAt_some

theorem any_prefix {α : Type} {p : α → Bool} {pre l : List α} (h : pre.any p = true) (hp : pre <+: l) : l.any p = true := by
  rw [List.any_eq_true] at *
  obtain ⟨x, hx, hpx⟩ := h
  exact ⟨x, hp.mem hx, hpx⟩

def refBad (g : Gr) (v : V) : Bool := badV v g.objs.length == 2
def numBad (g : Gr) (v : V) : Bool := badV v g.objs.length == 3

theorem refBad_false (g : Gr) (m : Int) : refBad g (false, m) = false := by
  unfold refBad badV; simp; split <;> simp
theorem refBad_true (g : Gr) (m : Int) : refBad g (true, m) = !isObj m g.objs.length := by
  unfold refBad badV isObj
  by_cases h1 : m < 0 <;> by_cases h2 : (g.objs.length : Int) ≤ m <;> simp [h1, h2] <;> omega
theorem numBad_true (g : Gr) (m : Int) : numBad g (true, m) = false := by
  unfold numBad badV; simp; split <;> simp
theorem numBad_false (g : Gr) (m : Int) : numBad g (false, m) = !isNum m := by
  unfold numBad badV isNum
  by_cases h1 : m < -4611686018427387904 <;> by_cases h2 : 4611686018427387903 < m <;> simp [h1, h2] <;> omega

theorem checkG_eq (g : Gr) (h : isLargeG g = false) : checkG g = if (allV g).any (refBad g) then 2 else if (allV g).any (numBad g) then 3 else 0 := by
  unfold checkG; rw [h]; rfl

end Go.Proofs.Ytemjhdbmcdlpeaa

/- Walks: the iterator over references. -/
namespace Go.Proofs.Ytemjhdbmcdlpeaa
set_option linter.unusedSimpArgs false
set_option linter.unusedVariables false
open Go.RowKit Go.Shelf
attribute [local go_sem] Oper.semAt_some

/-- An object's number. -/
abbrev Ob := { x : Int // 0 ≤ x ∧ x < 256 }

def obOf (v : V) : Option Ob := if h : v.1 = true ∧ 0 ≤ v.2 ∧ v.2 < 256 then some ⟨v.2, h.2⟩ else none

/-- The objects to which a list of values refers. -/
def obsOf (l : List V) : List Ob := l.filterMap obOf

/-- All references are to numbers of objects. -/
def RefsOk (l : List V) : Prop := ∀ v ∈ l, v.1 = true → 0 ≤ v.2 ∧ v.2 < 256

theorem obsOf_no {l : List V} {k : Nat} (hk : k < l.length) {n : Int} (h : l[k] = (false, n)) : obsOf (l.take (k + 1)) = obsOf (l.take k) := by
  rw [List.take_succ_eq_append_getElem hk, h]
  simp [obsOf, obOf]

theorem obsOf_yes {l : List V} {k : Nat} (hk : k < l.length) {n : Int} (h : l[k] = (true, n)) (hn : 0 ≤ n ∧ n < 256) : obsOf (l.take (k + 1)) = obsOf (l.take k) ++ [⟨n, hn⟩] := by
  rw [List.take_succ_eq_append_getElem hk, h]
  simp [obsOf, obOf, hn]

theorem obsOf_len (l : List V) : (obsOf l).length ≤ l.length := List.length_filterMap_le _ _

theorem obsOf_prefix (l : List V) (k : Nat) : obsOf (l.take k) <+: obsOf l := by
  refine ⟨obsOf (l.drop k), ?_⟩
  unfold obsOf
  rw [← List.filterMap_append, List.take_append_drop]

def encO (x : Ob) : Array Value := #[.int .i64 x.1]

end Go.Proofs.Ytemjhdbmcdlpeaa

/- What a search has found, in memory. -/
namespace Go.Proofs.Ytemjhdbmcdlpeaa
set_option linter.unusedSimpArgs false
set_option linter.unusedVariables false
open Go.RowKit Go.Shelf

theorem Try.info3 : (Try.prog.info? 3).map (fun i => (i.zero, i.size, i.bytes)) = some (some (.int .i64 0), 1, 8) := by kernel_rfl

def intsV (l : List Int) : List Value := l.map (Value.int .i64)

theorem intsV_snoc (l : List Int) (x : Int) : intsV (l ++ [x]) = intsV l ++ [.int .i64 x] := by simp [intsV]

/-- One object more, found at distance d. -/
def findS (d : Int) (st : List Int × List Int) (o : Int) : List Int × List Int := if o ∈ st.1 then st else (st.1 ++ [o], st.2 ++ [d])

def findA (d : Int) (st : List Int × List Int) (xs : List Int) : List Int × List Int := xs.foldl (findS d) st

theorem findA_snoc (d : Int) (st : List Int × List Int) (xs : List Int) (o : Int) : findA d st (xs ++ [o]) = findS d (findA d st xs) o := by simp [findA]

theorem findS_len (d : Int) (st : List Int × List Int) (o : Int) : (findS d st o).1.length ≤ st.1.length + 1 ∧ (findS d st o).2.length ≤ st.2.length + 1 := by
  unfold findS; split <;> simp

theorem findA_len (d : Int) : ∀ (xs : List Int) (st : List Int × List Int), (findA d st xs).1.length ≤ st.1.length + xs.length ∧ (findA d st xs).2.length ≤ st.2.length + xs.length
  | [], st => by simp [findA]
  | x :: xs, st => by
    have h1 := findS_len d st x
    have h2 := findA_len d xs (findS d st x)
    simp only [findA, List.foldl_cons, List.length_cons] at *
    omega

/-- The map tells where each object stands. -/
def PlaceD (D : DataW Unit) (order : List Int) : Prop :=
  (∀ j, Maps.has D (.int .i64 j) = decide (j ∈ order)) ∧ order.Nodup ∧ ∀ (i : Nat) (j : Int), order[i]? = some j → D.atKey (.int .i64 j) (.lit (.int .i64 0)) = .lit (.int .i64 i)

theorem placeD_nil : PlaceD (.map []) [] := ⟨fun j => by simp [Maps.has_eq], by simp, fun i j h => by simp at h⟩

theorem placeD_put {D : DataW Unit} {order : List Int} (h : PlaceD D order) (hD : Maps.IsMap D) {x : Int} (hx : x ∉ order) :
    PlaceD (D.put (.int .i64 x) (.lit (.int .i64 order.length))) (order ++ [x]) := by
  have hk : WideAt.IsKeyLit (.int .i64 x) := trivial
  refine ⟨fun j => ?_, ?_, fun i j hi => ?_⟩
  · by_cases e : j = x
    · subst e; rw [Maps.has_put_same hD hk]; simp
    · rw [Maps.has_put_other (by simpa using e), h.1 j]; simp [e]
  · rw [List.nodup_append]; exact ⟨h.2.1, by simp, by intro a ha b hb; simp at hb; subst hb; exact fun e => hx (e ▸ ha)⟩
  · by_cases hlt : i < order.length
    · rw [List.getElem?_append_left hlt] at hi
      have hne : j ≠ x := fun e => hx (e ▸ List.mem_of_getElem? hi)
      rw [Maps.atKey_put_other (by simpa using hne)]
      exact h.2.2 i j hi
    · rw [List.getElem?_append_right (by omega)] at hi
      have hi0 : i - order.length = 0 := by
        rcases Nat.eq_zero_or_pos (i - order.length) with h0 | h0
        · exact h0
        · rw [List.getElem?_eq_none (by simp; omega)] at hi; cases hi
      rw [hi0] at hi
      simp at hi
      subst hi
      rw [Maps.atKey_put_same hD hk]
      congr 3; omega

/-- The box of what was found: two slices, and a map. -/
structure FBox (W : World) (mb : Nat) (vo vd : Value) : Prop where
  c0 : W.cell? ⟨mb + 1, 0, none⟩ = some vo
  c1 : W.cell? ⟨mb + 1, 1, none⟩ = some vd
  c2 : W.cell? ⟨mb + 1, 2, none⟩ = some (.map (some mb))
  f0 : W.frozen? ⟨mb + 1, 0, none⟩ = false
  f1 : W.frozen? ⟨mb + 1, 1, none⟩ = false

theorem FBox.kept {W W' : World} {mb : Nat} {vo vd : Value} (h : FBox W mb vo vd) (hb : W'.heap[mb + 1]? = W.heap[mb + 1]?) : FBox W' mb vo vd :=
  ⟨(World.cell?_of_block (a := ⟨mb + 1, 0, none⟩) hb).trans h.c0, (World.cell?_of_block (a := ⟨mb + 1, 1, none⟩) hb).trans h.c1, (World.cell?_of_block (a := ⟨mb + 1, 2, none⟩) hb).trans h.c2,
    (World.frozen?_of_block (a := ⟨mb + 1, 0, none⟩) hb).trans h.f0, (World.frozen?_of_block (a := ⟨mb + 1, 1, none⟩) hb).trans h.f1⟩

theorem FBox.lt {W : World} {mb : Nat} {vo vd : Value} (h : FBox W mb vo vd) : mb + 1 < W.heap.size := World.block_lt_of_cell? W _ h.c0

theorem FBox.set0 {W : World} {mb : Nat} {vo vd : Value} (h : FBox W mb vo vd) (v : Value) : FBox (W.setCell ⟨mb + 1, 0, none⟩ v) mb v vd := by
  refine ⟨World.cell?_setCell_same' _ _ _ (by rw [h.c0]; rfl), ?_, ?_, by rw [World.frozen?_setCell]; exact h.f0, by rw [World.frozen?_setCell]; exact h.f1⟩
  · rw [World.cell?_setCell_other _ _ _ _ (by simp)]; exact h.c1
  · rw [World.cell?_setCell_other _ _ _ _ (by simp)]; exact h.c2

theorem FBox.set1 {W : World} {mb : Nat} {vo vd : Value} (h : FBox W mb vo vd) (v : Value) : FBox (W.setCell ⟨mb + 1, 1, none⟩ v) mb vo v := by
  refine ⟨?_, World.cell?_setCell_same' _ _ _ (by rw [h.c1]; rfl), ?_, by rw [World.frozen?_setCell]; exact h.f0, by rw [World.frozen?_setCell]; exact h.f1⟩
  · rw [World.cell?_setCell_other _ _ _ _ (by simp)]; exact h.c0
  · rw [World.cell?_setCell_other _ _ _ _ (by simp)]; exact h.c2

/-- What was found so far. -/
structure Found (W : World) (mb : Nat) (st : List Int × List Int) (vo vd : Value) (D : DataW Unit) : Prop where
  box : FBox W mb vo vd
  ord : W.ownsRow (mb + 2) 3 1 vo st.1.length (intsV st.1)
  dis : W.ownsRow (mb + 2) 3 1 vd st.2.length (intsV st.2)
  map : W.ownsMap Try.prog 3 (plainElem Try.prog 3) mb st.1.length D
  plc : PlaceD D st.1
  apart : ∀ k, vo.ownBlock = some k → vd.ownBlock ≠ some k

/-- A row is kept where what is turned is no row. -/
theorem ownsRow_keptOf {W W' : World} {row : Option Nat} {base : Nat} {e : TypeId} {size : Nat} {v : Value} {n : Nat} {xs : List Value} (h : W.ownsRow base e size v n xs) (hg : W.grownBy W' row)
    (hr : ∀ r, row = some r → ∃ o : Obj, W.heap[r]? = some o ∧ o.isCells = false) : W'.ownsRow base e size v n xs := by
  refine h.kept hg ?_
  rcases h.2 with ⟨rfl, _⟩ | ⟨g, cap, cur, rfl, _, hgb, _⟩
  · exact .inl rfl
  · refine .inr fun e' => ?_
    obtain ⟨o, ho, hc⟩ := hr g (by simpa [Value.ownBlock] using e'.symm)
    rw [hgb] at ho; cases ho; cases hc

/-- An append turns nothing that is no row. -/
theorem keepsOthers_append {W W' : World} {base : Nat} {e : TypeId} {size : Nat} {v : Value} {n : Nat} {xs : List Value} (h : W.ownsRow base e size v n xs) (hg : W.grownBy W' v.ownBlock) : KeepsOthers W W' := by
  refine ⟨hg.size, fun k o hk ho => ?_⟩
  rw [hg.block k (Array.getElem?_eq_some_iff.1 hk).1 ?_]; exact hk
  intro e'
  rcases h.2 with ⟨rfl, _⟩ | ⟨g, cap, cur, rfl, _, hgb, _⟩
  · simp [Value.ownBlock] at e'
  · obtain rfl : k = g := by simpa [Value.ownBlock] using e'
    rw [hgb] at hk; cases hk; cases ho

theorem Found.alloc {W : World} {mb : Nat} {st : List Int × List Int} {vo vd : Value} {D : DataW Unit} (h : Found W mb st vo vd D) (o : Obj) : Found (W.alloc o) mb st vo vd D :=
  ⟨h.box.kept (Below.heap_alloc _ _ _ h.box.lt), h.ord.alloc o, h.dis.alloc o, h.map.alloc o, h.plc, h.apart⟩

theorem Found.own {W W' : World} {row : Option Nat} {mb : Nat} {st : List Int × List Int} {vo vd : Value} {D : DataW Unit} (h : Found W mb st vo vd D) (hg : W.grownBy W' row)
    (hr : ∀ r, row = some r → mb + 2 ≤ r ∧ ∃ o : Obj, W.heap[r]? = some o ∧ o.isCells = false) : Found W' mb st vo vd D :=
  ⟨h.box.kept (hg.block _ h.box.lt (fun e => by have := (hr _ e.symm).1; omega)), ownsRow_keptOf h.ord hg (fun r e => (hr r e).2), ownsRow_keptOf h.dis hg (fun r e => (hr r e).2),
    h.map.kept hg (fun e => by have := (hr _ e.symm).1; omega), h.plc, h.apart⟩

theorem ownsRow_slice {W : World} {base : Nat} {e : TypeId} {size : Nat} {v : Value} {n : Nat} {xs : List Value} (h : W.ownsRow base e size v n xs) : ∃ a cap, v = .slice a n cap := by
  rcases h.2 with ⟨rfl, rfl⟩ | ⟨g, cap, cur, rfl, _⟩
  · exact ⟨none, 0, rfl⟩
  · exact ⟨_, cap, rfl⟩

/-- Behind a store of the map. -/
theorem Found.put {W W' : World} {mb : Nat} {st : List Int × List Int} {vo vd : Value} {D D' : DataW Unit} (h : Found W mb st vo vd D) (hg : W.grownBy W' (some mb)) (hm : W'.ownsMap Try.prog 3 (plainElem Try.prog 3) mb (st.1.length + 1) D') :
    FBox W' mb vo vd ∧ W'.ownsRow (mb + 2) 3 1 vo st.1.length (intsV st.1) ∧ W'.ownsRow (mb + 2) 3 1 vd st.2.length (intsV st.2) ∧ W'.ownsMap Try.prog 3 (plainElem Try.prog 3) mb (st.1.length + 1) D' :=
  ⟨h.box.kept (hg.block _ h.box.lt (by simp)), h.ord.kept hg (.inr fun e => by have := (h.ord.lt _ e).1; omega), h.dis.kept hg (.inr fun e => by have := (h.dis.lt _ e).1; omega), hm⟩

end Go.Proofs.Ytemjhdbmcdlpeaa

/- Walks: the closure that finds. -/
namespace Go.Proofs.Ytemjhdbmcdlpeaa
set_option linter.unusedSimpArgs false
set_option linter.unusedVariables false
open Go.RowKit Go.Shelf
attribute [local go_sem] Oper.semAt_some

def valsOf (xs : List Ob) : List Int := xs.map (·.1)

theorem apart_inr {vo vd : Value} (h : ∀ k, vo.ownBlock = some k → vd.ownBlock ≠ some k) : vd.ownBlock = none ∨ vd.ownBlock ≠ vo.ownBlock := by
  cases hd : vd.ownBlock with
  | none => exact .inl rfl
  | some k => exact .inr fun e => h k e.symm hd

theorem wf_i64 {x : Int} (h0 : 0 ≤ x) (h1 : x < 4611686018427387904) : (Lit.int .i64 x).wf = true := by
  simp [Lit.wf, IntKind.min, IntKind.max, IntKind.signed, IntKind.bits]; omega

/-- What one object more turns in memory. -/
theorem find_step {X w1 w2 w3 : World} {mb bd : Nat} {s1 : List Int × List Int} {vo vd v1 v2 : Value} {D : DataW Unit} {x d : Int} {o1 o2 : Obj}
    (hF : Found X mb s1 vo vd D) (hx : x ∉ s1.1) (hg1 : X.grownBy w1 (some mb)) (hm1 : w1.ownsMap Try.prog 3 (plainElem Try.prog 3) mb (s1.1.length + 1) (D.put (.int .i64 x) (.lit (.int .i64 s1.1.length))))
    (hord2 : w2.ownsRow (mb + 2) 3 1 v1 (s1.1.length + 1) (intsV s1.1 ++ [.int .i64 x])) (hg2 : (w1.alloc o1).grownBy w2 vo.ownBlock) (hat2 : v1.ownBlock = vo.ownBlock ∨ v1.ownBlock = some (w1.alloc o1).heap.size)
    (hdis4 : w3.ownsRow (mb + 2) 3 1 v2 (s1.2.length + 1) (intsV s1.2 ++ [.int .i64 d])) (hg3 : ((w2.setCell ⟨mb + 1, 0, none⟩ v1).alloc o2).grownBy w3 vd.ownBlock)
    (hat3 : v2.ownBlock = vd.ownBlock ∨ v2.ownBlock = some ((w2.setCell ⟨mb + 1, 0, none⟩ v1).alloc o2).heap.size)
    (hbd : X.cell? ⟨bd, 0, none⟩ = some (.int .i64 d)) (hbm : mb + 1 < bd) (hno1 : vo.ownBlock ≠ some bd) (hno2 : vd.ownBlock ≠ some bd) :
    Found (w3.setCell ⟨mb + 1, 1, none⟩ v2) mb (findS d s1 x) v1 v2 (D.put (.int .i64 x) (.lit (.int .i64 s1.1.length))) ∧ (∀ B, mb < B → KeepsFrom B X (w3.setCell ⟨mb + 1, 1, none⟩ v2)) ∧ Below mb X (w3.setCell ⟨mb + 1, 1, none⟩ v2) ∧
      (w3.setCell ⟨mb + 1, 1, none⟩ v2).cell? ⟨bd, 0, none⟩ = some (.int .i64 d) ∧ v1.ownBlock ≠ some bd ∧ v2.ownBlock ≠ some bd := by
  obtain ⟨hbox1, hord1, hdis1, hmp1⟩ := hF.put hg1 hm1
  have hlX := hF.box.lt
  have hl1 := hbox1.lt
  have hlbd : bd < X.heap.size := World.block_lt_of_cell? X _ hbd
  have hs1 := hg1.size
  have hs2 := hg2.size
  have hs3 := hg3.size
  simp only [World.size_alloc] at hs2 hat2
  have hsz : ((w2.setCell ⟨mb + 1, 0, none⟩ v1).alloc o2).heap.size = w2.heap.size + 1 := by simp [World.setCell]
  rw [hsz] at hs3 hat3
  have lo := fun k e => (hord1.lt k e)
  have ld := fun k e => (hdis1.lt k e)
  have hbox2 := (hbox1.kept (Below.heap_alloc _ o1 _ hl1)).kept (hg2.block _ (by simp; omega) (fun e => by have := (lo _ e.symm).1; omega))
  have hdis2 := (hdis1.alloc o1).kept hg2 (apart_inr hF.apart)
  have hmp2 := (hmp1.alloc o1).kept hg2 (fun e => by have := (lo _ e.symm).1; omega)
  have hbd1 := hg1.cell hbd (by simp; omega)
  have hbd2 := hg2.cell ((World.grownBy_alloc w1 o1 none).cell hbd1 (by simp)) (fun e => hno1 e.symm)
  have hbox3 := hbox2.set0 v1
  have hbd3 := (World.cell?_setCell_other w2 ⟨mb + 1, 0, none⟩ ⟨bd, 0, none⟩ v1 (fun e => by injection e; omega)).trans hbd2
  have hord3 := ownsRow_setCell_below hord2 (a := ⟨mb + 1, 0, none⟩) (by simp) v1
  have hmp3 := hmp2.setCell (a := ⟨mb + 1, 0, none⟩) (by simp) v1
  have hbox4 := (hbox3.kept (Below.heap_alloc _ o2 _ hbox3.lt)).kept (hg3.block _ (by rw [hsz]; omega) (fun e => by have := (ld _ e.symm).1; omega))
  have hv1d : ∀ k, v1.ownBlock = some k → vd.ownBlock ≠ some k := by
    intro k hk hd
    rcases hat2 with h | h
    · exact hF.apart k (h ▸ hk) hd
    · have := (ld k hd).2; rw [h] at hk; injection hk; omega
  have hord4 := (hord3.alloc o2).kept hg3 (by cases hv : v1.ownBlock with | none => exact .inl rfl | some k => exact .inr fun e => hv1d k hv e.symm)
  have hmp4 := (hmp3.alloc o2).kept hg3 (fun e => by have := (ld _ e.symm).1; omega)
  have hbd4 := hg3.cell ((World.grownBy_alloc _ o2 none).cell hbd3 (by simp)) (fun e => hno2 e.symm)
  have hbox5 := hbox4.set1 v2
  have hplc := placeD_put hF.plc (hF.map.isMap) hx
  have efs : findS d s1 x = (s1.1 ++ [x], s1.2 ++ [d]) := by rw [findS, if_neg hx]
  refine ⟨⟨hbox5, ?_, ?_, ?_, ?_, ?_⟩, ?_, ?_, ?_, ?_, ?_⟩
  · rw [efs]; simp only [List.length_append, List.length_cons, List.length_nil, Nat.zero_add, intsV_snoc]
    exact ownsRow_setCell_below hord4 (a := ⟨mb + 1, 1, none⟩) (by simp) v2
  · rw [efs]; simp only [List.length_append, List.length_cons, List.length_nil, Nat.zero_add, intsV_snoc]
    exact ownsRow_setCell_below hdis4 (a := ⟨mb + 1, 1, none⟩) (by simp) v2
  · rw [efs]; simp only [List.length_append, List.length_cons, List.length_nil, Nat.zero_add]
    exact hmp4.setCell (a := ⟨mb + 1, 1, none⟩) (by simp) v2
  · rw [efs]; exact hplc
  · intro k hk hd
    rcases hat3 with h | h
    · exact hv1d k hk (h ▸ hd)
    · have := (hord2.lt k hk).2; rw [h] at hd; injection hd; omega
  · intro B hB
    refine (KeepsFrom.of_grownBy hg1 (fun j e => by injection e; omega)).trans ?_
    exact ((((KeepsOthers.alloc _ o1).trans (keepsOthers_append (hord1.alloc o1) hg2)).trans (KeepsOthers.setCell _ _ _)).trans (((KeepsOthers.alloc _ o2).trans (keepsOthers_append ((ownsRow_setCell_below hdis2 (a := ⟨mb + 1, 0, none⟩) (by simp) v1).alloc o2) hg3)).trans (KeepsOthers.setCell _ _ _))).from B
  · have b1 : Below mb X w1 := (Below.refl mb X).grown hg1 (by omega) (fun k e => by injection e; omega)
    have b2 : Below mb X w2 := (b1.alloc (by omega) o1).grown hg2 (by simp; omega) (fun k e => by have := (lo _ e).1; omega)
    have b3 := (b2.setCell (p := ⟨mb + 1, 0, none⟩) (by simp) v1).alloc (by simp [World.setCell]; omega) o2
    exact (b3.grown hg3 (by rw [hsz]; omega) (fun k e => by have := (ld _ e).1; omega)).setCell (p := ⟨mb + 1, 1, none⟩) (by simp) v2
  · exact (World.cell?_setCell_other w3 ⟨mb + 1, 1, none⟩ ⟨bd, 0, none⟩ v2 (fun e => by injection e; omega)).trans hbd4
  · intro e
    rcases hat2 with h | h
    · exact hno1 (h ▸ e)
    · rw [h] at e; injection e; omega
  · intro e
    rcases hat3 with h | h
    · exact hno2 (h ▸ e)
    · rw [h] at e; injection e; omega

end Go.Proofs.Ytemjhdbmcdlpeaa

/- Walks: the search. -/
namespace Go.Proofs.Ytemjhdbmcdlpeaa
set_option linter.unusedSimpArgs false
set_option linter.unusedVariables false
open Go.RowKit

theorem Try.mixed : Try.prog.follows .mixedOrders = true := by kernel_rfl

/-- What was found behind k rounds of the search. -/
def searchN (g : Gr) : Nat → List Int × List Int
  | 0 => findA 0 ([], []) (valsOf (obsOf g.roots))
  | k + 1 =>
    let st := searchN g k
    match st.1[k]? with
    | none => st
    | some o => findA ((st.2[k]?).getD 0 + 1) st (valsOf (obsOf ((g.objs[o.toNat]?).getD [])))

/-- A graph that may be. -/
structure Good (g : Gr) : Prop where
  n24 : g.objs.length ≤ 256
  n8 : g.roots.length ≤ 8
  n4 : ∀ l ∈ g.objs, l.length ≤ 4
  rr : ∀ v ∈ g.roots, v.1 = true → 0 ≤ v.2 ∧ v.2 < g.objs.length
  ro : ∀ l ∈ g.objs, ∀ v ∈ l, v.1 = true → 0 ≤ v.2 ∧ v.2 < g.objs.length

theorem Good.refsRoots {g : Gr} (h : Good g) : RefsOk g.roots := fun v hv hr => by have := h.rr v hv hr; have := h.n24; omega
theorem Good.refsObjs {g : Gr} (h : Good g) {l : List V} (hl : l ∈ g.objs) : RefsOk l := fun v hv hr => by have := h.ro l hl v hv hr; have := h.n24; omega

/-- The plain facts on what was found. -/
structure StOk (N : Nat) (st : List Int × List Int) : Prop where
  rng : ∀ o ∈ st.1, 0 ≤ o ∧ o < N
  nd : st.1.Nodup
  len : st.2.length = st.1.length
  pos : ∀ (i : Nat) (d : Int), st.2[i]? = some d → 0 ≤ d ∧ d ≤ i

theorem nodup_nat : ∀ (N : Nat) (l : List Nat), l.Nodup → (∀ x ∈ l, x < N) → l.length ≤ N
  | 0, l, _, h => by
    cases l with
    | nil => simp
    | cons x l => exact absurd (h x (by simp)) (by omega)
  | N + 1, l, hn, h => by
    by_cases hm : N ∈ l
    · have h1 := nodup_nat N (l.erase N) (hn.erase N) (fun x hx => by
        have := (List.Nodup.mem_erase_iff hn).1 hx
        have := h x this.2
        omega)
      have h2 := List.length_erase_of_mem hm
      omega
    · have := nodup_nat N l hn (fun x hx => by
        have := h x hx
        have : x ≠ N := fun e => hm (e ▸ hx)
        omega)
      omega

theorem nodup_length {N : Nat} {l : List Int} (hl : l.Nodup) (hr : ∀ o ∈ l, 0 ≤ o ∧ o < N) : l.length ≤ N := by
  have h1 : (l.map Int.toNat).Nodup := by
    rw [List.nodup_iff_pairwise_ne] at hl ⊢
    rw [List.pairwise_map]
    refine List.Pairwise.imp_of_mem ?_ hl
    intro a b ha hb hab e
    have := hr a ha
    have := hr b hb
    exact hab (by omega)
  have := nodup_nat N (l.map Int.toNat) h1 (fun x hx => by
    rw [List.mem_map] at hx
    obtain ⟨o, ho, rfl⟩ := hx
    have := hr o ho
    omega)
  simpa using this

theorem StOk.le {N : Nat} {st : List Int × List Int} (h : StOk N st) : st.1.length ≤ N := nodup_length h.nd h.rng

theorem stOk_find {N : Nat} {st : List Int × List Int} (h : StOk N st) {d o : Int} (h0 : 0 ≤ d) (hd : d ≤ st.1.length) (ho : 0 ≤ o ∧ o < N) : StOk N (findS d st o) := by
  unfold findS
  split
  · exact h
  · rename_i hno
    refine ⟨?_, ?_, ?_, ?_⟩
    · intro x hx
      simp only [List.mem_append, List.mem_singleton] at hx
      rcases hx with hx | rfl
      · exact h.rng x hx
      · exact ho
    · rw [List.nodup_append]
      exact ⟨h.nd, by simp, by intro a ha b hb; simp at hb; subst hb; exact fun e => hno (e ▸ ha)⟩
    · simp [h.len]
    · intro i e hi
      by_cases hlt : i < st.2.length
      · rw [List.getElem?_append_left hlt] at hi; exact h.pos i e hi
      · rw [List.getElem?_append_right (by omega)] at hi
        rcases Nat.eq_zero_or_pos (i - st.2.length) with h' | h'
        · rw [h'] at hi; simp at hi; subst hi; have := h.len; omega
        · rw [List.getElem?_eq_none (by simp; omega)] at hi; cases hi

theorem findS_grows (d : Int) (st : List Int × List Int) (o : Int) : st.1.length ≤ (findS d st o).1.length := by
  unfold findS; split <;> simp

theorem stOk_findA {N : Nat} (d : Int) (h0 : 0 ≤ d) : ∀ (xs : List Int) (st : List Int × List Int), StOk N st → d ≤ st.1.length → (∀ o ∈ xs, 0 ≤ o ∧ o < N) → StOk N (findA d st xs)
  | [], _, h, _, _ => h
  | x :: xs, st, h, hd, hx => by
    have h1 := stOk_find h h0 hd (hx x (by simp))
    have h2 := findS_grows d st x
    exact stOk_findA d h0 xs (findS d st x) h1 (by omega) (fun o ho => hx o (by simp [ho]))

theorem findA_grows (d : Int) : ∀ (xs : List Int) (st : List Int × List Int), st.1.length ≤ (findA d st xs).1.length
  | [], st => Nat.le_refl _
  | x :: xs, st => by
    have h1 := findS_grows d st x
    have h2 := findA_grows d xs (findS d st x)
    simp only [findA, List.foldl_cons] at *
    omega

theorem obs_mem {l : List V} {o : Int} (h : o ∈ valsOf (obsOf l)) : ∃ v ∈ l, v.1 = true ∧ v.2 = o := by
  simp only [valsOf, obsOf, List.mem_map, List.mem_filterMap] at h
  obtain ⟨x, ⟨v, hv, hx⟩, rfl⟩ := h
  unfold obOf at hx
  split at hx
  · rename_i hh; injection hx with hx; subst hx; exact ⟨v, hv, hh.1, rfl⟩
  · cases hx

theorem Good.roots {g : Gr} (h : Good g) : ∀ o ∈ valsOf (obsOf g.roots), 0 ≤ o ∧ o < g.objs.length := by
  intro o ho
  obtain ⟨v, hv, h1, rfl⟩ := obs_mem ho
  exact h.rr v hv h1

theorem Good.fields {g : Gr} (h : Good g) {l : List V} (hl : l ∈ g.objs) : ∀ o ∈ valsOf (obsOf l), 0 ≤ o ∧ o < g.objs.length := by
  intro o ho
  obtain ⟨v, hv, h1, rfl⟩ := obs_mem ho
  exact h.ro l hl v hv h1

theorem stOk_nil (N : Nat) : StOk N ([], []) := ⟨by simp, by simp, rfl, by simp⟩

theorem searchN_ok {g : Gr} (h : Good g) : ∀ k, StOk g.objs.length (searchN g k)
  | 0 => stOk_findA 0 (by omega) _ _ (stOk_nil _) (by simp) h.roots
  | k + 1 => by
    have ih := searchN_ok h k
    simp only [searchN]
    split
    · exact ih
    · rename_i o ho
      have hlt : k < (searchN g k).1.length := (List.getElem?_eq_some_iff.1 ho).1
      have hr := ih.rng o (List.mem_of_getElem? ho)
      have hlo : o.toNat < g.objs.length := by omega
      have hl2 : k < (searchN g k).2.length := by rw [ih.len]; exact hlt
      have hp := ih.pos k _ (List.getElem?_eq_getElem hl2)
      rw [List.getElem?_eq_getElem hl2, List.getElem?_eq_getElem hlo, Option.getD_some, Option.getD_some]
      exact stOk_findA _ (by omega) _ _ ih (by omega) (h.fields (List.getElem_mem hlo))

end Go.Proofs.Ytemjhdbmcdlpeaa

/- Walks: the search, walked. -/
namespace Go.Proofs.Ytemjhdbmcdlpeaa
set_option linter.unusedSimpArgs false
set_option linter.unusedVariables false
open Go.RowKit

theorem Found.drew {W : World} {mb : Nat} {st : List Int × List Int} {vo vd : Value} {D : DataW Unit} (h : Found W mb st vo vd D) : Found W.drew mb st vo vd D :=
  ⟨⟨h.box.c0, h.box.c1, h.box.c2, h.box.f0, h.box.f1⟩, h.ord, h.dis, h.map.drew, h.plc, h.apart⟩

/-- One number of a row of numbers. -/
theorem ints_at {W : World} {base : Nat} {e : TypeId} {v : Value} {l : List Int} (h : W.ownsRow base e 1 v l.length (intsV l)) {k : Nat} (hk : k < l.length) :
    ∃ g cap, v = .slice (some ⟨g, 0, none⟩) l.length cap ∧ W.cell? ⟨g, k, none⟩ = some (.int .i64 l[k]) ∧ g < W.heap.size := by
  rcases h.2 with ⟨_, h0⟩ | ⟨g, cap, cur, rfl, _, hg, _, _, _, htake⟩
  · omega
  · refine ⟨g, cap, rfl, ?_, (Array.getElem?_eq_some_iff.1 hg).1⟩
    rw [cell_of_row W g k cur e (0, 0) hg]
    have h1 : (intsV l)[k]? = some (.int .i64 l[k]) := by simp [intsV, hk]
    rw [← htake, List.getElem?_take] at h1
    split at h1
    · simpa using h1
    · cases h1

theorem searchN_stable (g : Gr) {k : Nat} (h : (searchN g k).1.length ≤ k) : ∀ m, searchN g (k + m) = searchN g k
  | 0 => rfl
  | m + 1 => by
    have ih := searchN_stable g h m
    show searchN g (k + m + 1) = _
    simp only [searchN]
    rw [ih, List.getElem?_eq_none (by omega)]

/-- A box of three cells is kept where a row or a map of the call's own is turned. -/
theorem Found.below {W W' : World} {mb : Nat} {st : List Int × List Int} {vo vd : Value} {D : DataW Unit} (h : Found W mb st vo vd D) (hb : Below W.heap.size W W') : Found W' mb st vo vd D := by
  have hg : W.grownBy W' none := ⟨hb.os, hb.tape, hb.output, hb.size, fun k hk _ => hb.block k hk⟩
  exact h.own hg (fun r e => by cases e)

theorem Found.setCell {W : World} {mb : Nat} {st : List Int × List Int} {vo vd : Value} {D : DataW Unit} (h : Found W mb st vo vd D) (p : Addr) (hp : p.block < mb) (u : Value) : Found (W.setCell p u) mb st vo vd D :=
  ⟨h.box.kept (Below.heap_setCell _ _ _ _ (by omega)), ownsRow_setCell_below h.ord (by omega) u, ownsRow_setCell_below h.dis (by omega) u, h.map.setCell (by omega) u, h.plc, h.apart⟩

end Go.Proofs.Ytemjhdbmcdlpeaa

/- Walks: values are renumbered. -/
namespace Go.Proofs.Ytemjhdbmcdlpeaa
set_option linter.unusedSimpArgs false
set_option linter.unusedVariables false
open Go.RowKit

/-- Where an object stands in a list; 0, if it isn't there. -/
def placeOf (order : List Int) (x : Int) : Int := if x ∈ order then (order.idxOf x : Nat) else 0

def renV (order : List Int) (v : V) : V := if v.1 then (true, placeOf order v.2) else v

theorem atKey_place {D : DataW Unit} {order : List Int} (h : PlaceD D order) (x : Int) : D.atKey (.int .i64 x) (.lit (.int .i64 0)) = .lit (.int .i64 (placeOf order x)) := by
  unfold placeOf
  split
  · rename_i hm
    have hlt : order.idxOf x < order.length := List.idxOf_lt_length_iff.2 hm
    exact h.2.2 _ _ (by rw [List.getElem?_eq_getElem hlt, List.getElem_idxOf hlt])
  · rename_i hm
    exact Maps.atKey_of_not_has (by rw [h.1 x]; simpa using hm) _

theorem grown_of_below {W W' : World} (hb : Below W.heap.size W W') : W.grownBy W' none := ⟨hb.os, hb.tape, hb.output, hb.size, fun k hk _ => hb.block k hk⟩

theorem take_set2 {cs : List Value} {k : Nat} {pre : List Value} {x y : Value} (h : cs.take (k * 2) = pre) (hl : k * 2 + 2 ≤ cs.length) : ((cs.set (k * 2) x).set (k * 2 + 1) y).take ((k + 1) * 2) = pre ++ [x, y] := by
  rw [← h]
  apply List.ext_getElem?
  intro i
  rw [List.getElem?_take]
  by_cases h1 : i < k * 2
  · rw [if_pos (by omega), List.getElem?_append_left (by simp; omega), List.getElem?_set_ne (by omega), List.getElem?_set_ne (by omega), List.getElem?_take, if_pos h1]
  · rw [List.getElem?_append_right (by simp; omega)]
    have hmin : (List.take (k * 2) cs).length = k * 2 := by simp; omega
    rw [hmin]
    by_cases h2 : i = k * 2
    · subst h2
      rw [if_pos (by omega), List.getElem?_set_ne (by omega), List.getElem?_set_self (by omega)]; simp
    · by_cases h3 : i = k * 2 + 1
      · subst h3
        rw [if_pos (by omega), List.getElem?_set_self (by simp; omega)]; simp
      · rw [if_neg (by omega), List.getElem?_eq_none (by simp; omega)]

end Go.Proofs.Ytemjhdbmcdlpeaa

/- Canon: the rows of objects that it makes. -/
namespace Go.Proofs.Ytemjhdbmcdlpeaa
set_option linter.unusedSimpArgs false
set_option linter.unusedVariables false
open Go.RowKit

theorem good_of_check {g : Gr} (h : checkG g = 0) : Good g := by
  unfold checkG at h
  cases hL : isLargeG g with
  | true => rw [hL] at h; simp at h
  | false =>
    rw [hL] at h
    simp only [Bool.false_eq_true, if_false] at h
    have hr : (allV g).any (fun v => badV v g.objs.length == 2) = false := by
      cases hx : (allV g).any (fun v => badV v g.objs.length == 2) with
      | false => rfl
      | true => rw [hx] at h; simp at h
    simp only [isLargeG, Bool.or_eq_false_iff, decide_eq_false_iff_not, List.any_eq_false] at hL
    rw [List.any_eq_false] at hr
    have hv : ∀ v ∈ allV g, v.1 = true → 0 ≤ v.2 ∧ v.2 < g.objs.length := by
      intro v hm h1
      have := hr v hm
      unfold badV at this
      rw [if_pos h1] at this
      by_cases hc : v.2 < 0 ∨ (g.objs.length : Int) ≤ v.2
      · rw [if_pos hc] at this; simp at this
      · omega
    refine ⟨by omega, by omega, fun l hl => by have := hL.2 l hl; simpa using this, fun v hm => hv v (by simp [allV, hm]), fun l hl v hm => hv v ?_⟩
    simp only [allV, List.mem_append, List.mem_flatten]
    exact .inr ⟨l, hl, hm⟩

/-- Values that do not lie in block x. -/
def ValsN (x : Option Nat) (W : World) (a : Option Addr) (l : List V) : Prop :=
  Vals W.heap.size W a l ∧ (l ≠ [] → ∀ b off, a = some ⟨b, off, none⟩ → x ≠ some b)

theorem ValsN.grown {x : Option Nat} {W W' : World} {a : Option Addr} {l : List V} (h : ValsN x W a l) (hg : W.grownBy W' x) : ValsN x W' a l := by
  refine ⟨⟨h.1.1, fun hne => ?_⟩, h.2⟩
  obtain ⟨b, off, rfl, hB, hc⟩ := h.1.2 hne
  have hne' := h.2 hne b off rfl
  have hblk := hg.block b hB (fun e => hne' e.symm)
  refine ⟨b, off, rfl, by have := hg.size; omega, fun k v hk => ?_⟩
  rw [World.cell?_of_block (a := ⟨b, off + k * 2, none⟩) hblk, World.cell?_of_block (a := ⟨b, off + k * 2 + 1, none⟩) hblk]
  exact hc k v hk

theorem ValsN.below {x : Option Nat} {W W' : World} {a : Option Addr} {l : List V} (h : ValsN x W a l) (hb : Below W.heap.size W W') : ValsN x W' a l :=
  ⟨(h.1.below hb).mono hb.size, h.2⟩

theorem ValsN.fresh {x : Option Nat} {W : World} {a : Option Addr} {l : List V} (h : ValsN x W a l) {y : Option Nat} (hy : y = x ∨ ∃ m, y = some m ∧ W.heap.size ≤ m) : ValsN y W a l := by
  refine ⟨h.1, fun hne b off ha => ?_⟩
  rcases hy with rfl | ⟨m, rfl, hm⟩
  · exact h.2 hne b off ha
  · obtain ⟨b', off', ha', hB, _⟩ := h.1.2 hne
    rw [ha] at ha'
    injection ha' with ha'
    injection ha' with h1
    subst h1
    intro e
    injection e
    omega

/-- A row of objects that the call owns. -/
structure ObjRow (W : World) (base : Nat) (v : Value) (L : List (List V)) (es : List Value) : Prop where
  row : W.ownsRow base 76 1 v L.length es
  el : ∀ (k : Nat) (l : List V), L[k]? = some l → ∃ ai ci, es[k]? = some (.slice ai l.length ci) ∧ ValsN v.ownBlock W ai l ∧ ∀ b off, ai = some ⟨b, off, none⟩ → base ≤ b

theorem objRow_nil (W : World) (base : Nat) : ObjRow W base (.slice none 0 0) [] [] := ⟨World.ownsRow_nil _ _ _ _, fun k l h => by simp at h⟩

theorem ObjRow.below {W W' : World} {base : Nat} {v : Value} {L : List (List V)} {es : List Value} (h : ObjRow W base v L es) (hb : Below W.heap.size W W') : ObjRow W' base v L es :=
  ⟨h.row.kept ⟨hb.os, hb.tape, hb.output, hb.size, fun k hk _ => hb.block k hk⟩ (row := none) (by cases hv : v.ownBlock <;> simp), fun k l hk => by
    obtain ⟨ai, ci, h1, h2, h3⟩ := h.el k l hk
    exact ⟨ai, ci, h1, h2.below hb, h3⟩⟩

theorem ObjRow.snoc {W W' : World} {base : Nat} {v v' : Value} {L : List (List V)} {es : List Value} (h : ObjRow W base v L es) {ai : Option Addr} {ci : Nat} {l : List V}
    (hl : Vals W.heap.size W ai l) (hno : ∀ b off, ai = some ⟨b, off, none⟩ → v.ownBlock ≠ some b) (hbs : ∀ b off, ai = some ⟨b, off, none⟩ → base ≤ b)
    (hrow : W'.ownsRow base 76 1 v' (L.length + 1) (es ++ [.slice ai l.length ci])) (hg : W.grownBy W' v.ownBlock) (hat : v'.ownBlock = v.ownBlock ∨ v'.ownBlock = some W.heap.size) :
    ObjRow W' base v' (L ++ [l]) (es ++ [.slice ai l.length ci]) := by
  have hlen : es.length = L.length := by have := h.row.1; omega
  have hy : ∀ {a : Option Addr} {l : List V}, ValsN v.ownBlock W a l → ValsN v'.ownBlock W' a l := by
    intro a l hv
    have h1 : ValsN v'.ownBlock W a l := hv.fresh (by rcases hat with h | h; · exact .inl h
                                                      · exact .inr ⟨_, h, Nat.le_refl _⟩)
    exact ⟨(hv.grown hg).1, h1.2⟩
  refine ⟨by simpa using hrow, fun k l' hk => ?_⟩
  by_cases hlt : k < L.length
  · rw [List.getElem?_append_left hlt] at hk
    obtain ⟨ai', ci', h1, h2, h3⟩ := h.el k l' hk
    exact ⟨ai', ci', by rw [List.getElem?_append_left (by omega)]; exact h1, hy h2, h3⟩
  · rw [List.getElem?_append_right (by omega)] at hk
    rcases Nat.eq_zero_or_pos (k - L.length) with h0 | h0
    · rw [h0] at hk
      simp at hk
      subst hk
      refine ⟨ai, ci, ?_, hy ⟨hl, fun _ => hno⟩, hbs⟩
      rw [List.getElem?_append_right (by omega), show k - es.length = 0 from by omega]; rfl
    · rw [List.getElem?_eq_none (by simp; omega)] at hk; cases hk

theorem ObjRow.setCell {W : World} {base : Nat} {v : Value} {L : List (List V)} {es : List Value} (h : ObjRow W base v L es) {p : Addr} (hp : p.block < base) (u : Value) : ObjRow (W.setCell p u) base v L es := by
  refine ⟨ownsRow_setCell_below h.row hp u, fun k l hk => ?_⟩
  obtain ⟨ai, ci, h1, h2, h3⟩ := h.el k l hk
  refine ⟨ai, ci, h1, ⟨⟨h2.1.1, fun hne => ?_⟩, h2.2⟩, h3⟩
  obtain ⟨b, off, rfl, hB, hc⟩ := h2.1.2 hne
  have hbp := h3 b off rfl
  have hblk := Below.heap_setCell W p u b (by omega)
  refine ⟨b, off, rfl, by simp [World.setCell]; omega, fun j v hj => ?_⟩
  rw [World.cell?_of_block (a := ⟨b, off + j * 2, none⟩) hblk, World.cell?_of_block (a := ⟨b, off + j * 2 + 1, none⟩) hblk]
  exact hc j v hj

/-- What the call owns is a slice of objects. -/
theorem ObjRow.objs {W : World} {base : Nat} {v : Value} {L : List (List V)} {es : List Value} (h : ObjRow W base v L es) (hs : L.length ≤ 9223372036854775807) : ∃ a cap, v = .slice a L.length cap ∧ Objs W.heap.size W a L := by
  rcases h.row.2 with ⟨rfl, h0⟩ | ⟨g, cap, cur, rfl, hb, hg, hc1, hc2, hc3, htake⟩
  · refine ⟨none, 0, by rw [h0], hs, fun hne => ?_⟩
    exact absurd (List.eq_nil_of_length_eq_zero h0) hne
  · refine ⟨_, cap, rfl, hs, fun _ => ⟨g, 0, rfl, (Array.getElem?_eq_some_iff.1 hg).1, fun k l hk => ?_⟩⟩
    obtain ⟨ai, ci, h1, h2, _⟩ := h.el k l hk
    refine ⟨ai, ci, ?_, h2.1⟩
    rw [← htake, List.getElem?_take] at h1
    rw [Nat.zero_add, cell_of_row W g k cur 76 (0, 0) hg]
    split at h1
    · simpa using h1
    · cases h1

/-- One object more: a row made from old memory, appended, the slice stored back into a box below the rows. -/
theorem obj_step {W W1 W2 : World} {base cb : Nat} {v v' : Value} {L : List (List V)} {es : List Value} {ai : Option Addr} {ci : Nat} {l : List V} {o : Obj}
    (h : ObjRow W base v L es) (hW : base ≤ W.heap.size) (hl : Vals W1.heap.size W1 ai l) (hb : Below W.heap.size W W1) (hf : ∀ b off, ai = some ⟨b, off, none⟩ → W.heap.size ≤ b)
    (hrow : W2.ownsRow base 76 1 v' (L.length + 1) (es ++ [.slice ai l.length ci])) (hg : (W1.alloc o).grownBy W2 v.ownBlock) (hat : v'.ownBlock = v.ownBlock ∨ v'.ownBlock = some (W1.alloc o).heap.size)
    (hcb : cb + 1 = base) :
    ObjRow (W2.setCell ⟨cb, 0, none⟩ v') base v' (L ++ [l]) (es ++ [.slice ai l.length ci]) ∧ Below cb W (W2.setCell ⟨cb, 0, none⟩ v') := by
  have hs := hb.size
  have hs2 := hg.size
  have hb1 : Below W1.heap.size W1 (W1.alloc o) := (Below.refl _ _).alloc (Nat.le_refl _) o
  have h1 := (h.below hb).below hb1
  have hno : ∀ b off, ai = some ⟨b, off, none⟩ → v.ownBlock ≠ some b := fun b off e hv => by
    have := (h.row.lt b hv).2
    have := hf b off e
    omega
  have h2 := h1.snoc (ci := ci) ((hl.below hb1).mono hb1.size) hno (fun b off e => by have := hf b off e; omega) hrow hg hat
  refine ⟨h2.setCell (p := ⟨cb, 0, none⟩) (by simp; omega) v', ?_⟩
  exact (((hb.mono (B' := cb) (by omega)).trans (hb1.mono (B' := cb) (by omega))).grown hg (by simp; omega) (fun k e => by have := (h.row.lt k e).1; omega)).setCell (p := ⟨cb, 0, none⟩) (Nat.le_refl _) v'

/-- An append to a row that the call owns, as one step of a region that draws. -/
theorem step_append_at {P : Program} {ops : Array Oper} {o : Oper} {a : Act} {w : World} {K : Act → World → Prop} {Q : Exit → Act → World → Prop} {E : Prop} (hgd : o.guard = none) (s x : Operand) (t : TypeId)
    (ho : o.op = .call { callee := .builtin .append, args := #[s, x], argTypes := #[t, t] })
    (base : Nat) (e : TypeId) (i : TypeInfo) (z : Value) (size bytes : Nat) (ht : P.underlying t = some (.slice e)) (hi : P.info? e = some i) (hz : i.zero = some z)
    (hsize : i.size = size) (hby : i.bytes = bytes) (hzs : z.cells.size = size) (hsz : 0 < size)
    (v : Value) (n : Nat) (xs : List Value) (hs : a.eval s = v) (hown : w.ownsRow base e size v n xs)
    (ad : Addr) (m c : Nat) (news : List Value) (hx : a.eval x = .slice (some ad) m c) (hl : news.length = m * size) (hnews : ∀ j u, news[j]? = some u → w.cell? (ad.add j) = some u) (h1 : ∀ u ∈ news, u.oneCell' = true)
    (h63 : n + m ≤ maxLen) (hbytes : (n + m) * bytes ≤ 140737488355328) (hbase : base ≤ w.heap.size)
    (h : ∀ v' w', w'.ownsRow base e size v' (n + m) (xs ++ news) → w.grownBy w' v.ownBlock → (v'.ownBlock = v.ownBlock ∨ v'.ownBlock = some w.heap.size) → K (a.put o.dst v') w') :
    if Region.wanted o (yielded ops a.tmps) = true then Oper.wp P o a w K Q else E := by
  have hw : Region.wanted o (yielded ops a.tmps) = true := by simp [Region.wanted, hgd]
  rw [if_pos hw]
  obtain ⟨v', w', hr, h2, h3, _, h5⟩ := run_append_own_at (P := P) w base t o.type e i z size bytes ht hi hz hsize hby hzs hsz v n xs hown ad m c news hl hnews h1 h63 hbytes hbase
  unfold Oper.wp execOp
  simp only [ho, resolve, invoke, builtin, Sem.run_bind, Sem.run_pure, Result.andThen_ok, List.map_toArray, List.map_cons, List.map_nil, hs, hx, hr]
  exact h v' w' h2 h3 h5

/-- A call, as one step of a region that draws. -/
theorem step_call {P : Program} {ops : Array Oper} {o : Oper} {a : Act} {w : World} {K : Act → World → Prop} {Q : Exit → Act → World → Prop} {E : Prop} (hgd : o.guard = none) (f : FuncId) (args : Array Value)
    (hex : (execOp a.eval o).run P w = .ok (.enter f args) w) (R : Value → World → Prop) (hc : Calls P f args w fun e w' => ∃ v, e = .returned v ∧ R v w') (hK : ∀ v w', R v w' → K (a.put o.dst v) w') :
    if Region.wanted o (yielded ops a.tmps) = true then Oper.wp P o a w K Q else E := by
  have hw : Region.wanted o (yielded ops a.tmps) = true := by simp [Region.wanted, hgd]
  rw [if_pos hw]
  unfold Oper.wp
  rw [hex, Oper.upon_enter]
  refine hc.mono ?_
  rintro e w' ⟨v, rfl, hr⟩
  exact hK v w' hr

def orderOf (g : Gr) : List Int := (searchN g g.objs.length).1
def distOf (g : Gr) : List Int := (searchN g g.objs.length).2
def fieldsOf (g : Gr) (o : Int) : List V := (g.objs[o.toNat]?).getD []
/-- What is left of a graph, numbered as found. -/
def canonG (g : Gr) : Gr := { objs := (orderOf g).map (fun o => (fieldsOf g o).map (renV (orderOf g))), roots := g.roots.map (renV (orderOf g)) }

theorem Try.info76 : (Try.prog.info? 76).map (fun i => (i.zero, i.size, i.bytes)) = some (some (.agg #[.slice none 0 0]), 1, 24) := by kernel_rfl

end Go.Proofs.Ytemjhdbmcdlpeaa

/- Walks: at: the value that a way of fields comes to. -/
namespace Go.Proofs.Ytemjhdbmcdlpeaa
set_option linter.unusedSimpArgs false
set_option linter.unusedVariables false
open Go.RowKit

/-- A slice of numbers, that lies below block B. -/
def Ints (B : Nat) (w : World) (a : Option Addr) (l : List Int) : Prop :=
  l.length ≤ 9223372036854775807 ∧ (l ≠ [] → ∃ b off, a = some ⟨b, off, none⟩ ∧ b < B ∧ ∀ k v, l[k]? = some v → w.cell? ⟨b, off + k, none⟩ = some (.int .i64 v))

theorem Ints.below {B : Nat} {w w' : World} {a : Option Addr} {l : List Int} (h : Ints B w a l) (hb : Below B w w') : Ints B w' a l := by
  refine ⟨h.1, fun hne => ?_⟩
  obtain ⟨b, off, rfl, hB, hc⟩ := h.2 hne
  refine ⟨b, off, rfl, hB, fun k v hk => ?_⟩
  rw [hb.cell (p := ⟨b, off + k, none⟩) hB]
  exact hc k v hk

theorem Ints.mono {B B' : Nat} {w : World} {a : Option Addr} {l : List Int} (h : Ints B w a l) (hb : B ≤ B') : Ints B' w a l := by
  refine ⟨h.1, fun hne => ?_⟩
  obtain ⟨b, off, rfl, hB, hc⟩ := h.2 hne
  exact ⟨b, off, rfl, by omega, hc⟩

theorem Ints.at {B : Nat} {w : World} {a : Option Addr} {l : List Int} (h : Ints B w a l) {k : Nat} (hk : k < l.length) :
    ∃ b off, a = some ⟨b, off, none⟩ ∧ b < B ∧ w.cell? ⟨b, off + k, none⟩ = some (.int .i64 l[k]) := by
  obtain ⟨b, off, rfl, hB, hc⟩ := h.2 (by intro e; subst e; simp at hk)
  exact ⟨b, off, rfl, hB, hc k l[k] (by simp [hk])⟩

def stepG (g : Gr) (v : V) (k : Int) : Option V :=
  if v.1 = true ∧ 0 ≤ v.2 ∧ v.2 < g.objs.length then (if 0 ≤ k ∧ k < (fieldsOf g v.2).length then (fieldsOf g v.2)[k.toNat]? else none) else none
def wayG (g : Gr) : V → List Int → Option V
  | v, [] => some v
  | v, k :: ks => (stepG g v k).bind (fun u => wayG g u ks)
def atG (g : Gr) (root : Int) (way : List Int) : Option V :=
  if 0 ≤ root ∧ root < g.roots.length then (g.roots[root.toNat]?).bind (fun v => wayG g v way) else none

/-- What at tells. -/
def atR (o : Option V) : Value := match o with
  | some v => .tuple #[.agg #[.bool v.1, .int .i64 v.2], .bool true]
  | none => .tuple #[.agg #[.bool false, .int .i64 0], .bool false]

end Go.Proofs.Ytemjhdbmcdlpeaa

/- What the search finds: plain facts. -/
namespace Go.Proofs.Ytemjhdbmcdlpeaa
set_option linter.unusedSimpArgs false
set_option linter.unusedVariables false

/-- The numbers to which a list of values refers. -/
def refsL (l : List V) : List Int := valsOf (obsOf l)

theorem mem_refsL {l : List V} (h : RefsOk l) (o : Int) : o ∈ refsL l ↔ (true, o) ∈ l := by
  constructor
  · intro ho
    obtain ⟨v, hv, h1, rfl⟩ := obs_mem ho
    cases v; simp at h1; subst h1; exact hv
  · intro ho
    have hr := h _ ho rfl
    simp only [refsL, valsOf, obsOf, List.mem_map, List.mem_filterMap]
    exact ⟨⟨o, hr⟩, ⟨(true, o), ho, by simp [obOf, hr]⟩, rfl⟩

theorem refers_iff {l : List V} (h : RefsOk l) (o : Int) : refers l o = true ↔ o ∈ refsL l := by
  rw [mem_refsL h]
  simp only [refers, List.any_eq_true, Bool.and_eq_true, beq_iff_eq]
  constructor
  · rintro ⟨v, hv, h1, rfl⟩
    cases v; simp at h1; subst h1; exact hv
  · intro hm
    exact ⟨_, hm, rfl, rfl⟩

theorem findS_prefix (d : Int) (st : List Int × List Int) (o : Int) : st.1 <+: (findS d st o).1 ∧ st.2 <+: (findS d st o).2 := by
  unfold findS; split
  · exact ⟨List.prefix_refl _, List.prefix_refl _⟩
  · exact ⟨List.prefix_append _ _, List.prefix_append _ _⟩

theorem findA_prefix (d : Int) : ∀ (xs : List Int) (st : List Int × List Int), st.1 <+: (findA d st xs).1 ∧ st.2 <+: (findA d st xs).2
  | [], st => ⟨List.prefix_refl _, List.prefix_refl _⟩
  | x :: xs, st => by
    have h1 := findS_prefix d st x
    have h2 := findA_prefix d xs (findS d st x)
    exact ⟨h1.1.trans h2.1, h1.2.trans h2.2⟩

theorem findS_mem (d : Int) (st : List Int × List Int) (o : Int) : o ∈ (findS d st o).1 := by
  unfold findS; split
  · assumption
  · simp

theorem findA_mem (d : Int) : ∀ (xs : List Int) (st : List Int × List Int) (o : Int), o ∈ xs → o ∈ (findA d st xs).1
  | x :: xs, st, o, h => by
    rcases List.mem_cons.1 h with rfl | h
    · exact (findA_prefix d xs (findS d st o)).1.mem (findS_mem d st o)
    · exact findA_mem d xs (findS d st x) o h

/-- What stands behind what was there: new, one of xs, at distance d. -/
theorem findA_new (d : Int) : ∀ (xs : List Int) (st : List Int × List Int), st.2.length = st.1.length → ∀ (p : Nat) (o dp : Int), st.1.length ≤ p → (findA d st xs).1[p]? = some o → (findA d st xs).2[p]? = some dp → o ∈ xs ∧ dp = d ∧ o ∉ st.1
  | [], st, hl, p, o, dp, hp, h1, _ => by
    simp only [findA, List.foldl_nil] at h1
    rw [List.getElem?_eq_none (by omega)] at h1; cases h1
  | x :: xs, st, hl, p, o, dp, hp, h1, h2 => by
    have e : findA d st (x :: xs) = findA d (findS d st x) xs := rfl
    rw [e] at h1 h2
    by_cases hm : x ∈ st.1
    · have es : findS d st x = st := by rw [findS, if_pos hm]
      rw [es] at h1 h2
      obtain ⟨a, b, c⟩ := findA_new d xs st hl p o dp hp h1 h2
      exact ⟨by simp [a], b, c⟩
    · have es : findS d st x = (st.1 ++ [x], st.2 ++ [d]) := by rw [findS, if_neg hm]
      by_cases hpp : p = st.1.length
      · have pr := findA_prefix d xs (findS d st x)
        obtain ⟨t1, ht1⟩ := pr.1
        obtain ⟨t2, ht2⟩ := pr.2
        rw [← ht1, es] at h1
        rw [← ht2, es] at h2
        subst hpp
        simp at h1
        have h2' : ((st.2 ++ [d]) ++ t2)[st.2.length]? = some dp := by rw [hl]; exact h2
        simp at h2'
        subst h1 h2'
        exact ⟨by simp, rfl, hm⟩
      · obtain ⟨a, b, c⟩ := findA_new d xs (findS d st x) (by rw [es]; simp [hl]) p o dp (by rw [es]; simp; omega) h1 h2
        refine ⟨by simp [a], b, fun h => c ?_⟩
        rw [es]; simp [h]

theorem prefix_get {α : Type} {l l' : List α} (h : l <+: l') {k : Nat} {x : α} (hk : l[k]? = some x) : l'[k]? = some x := by
  obtain ⟨t, rfl⟩ := h
  rw [List.getElem?_append_left (List.getElem?_eq_some_iff.1 hk).1]; exact hk

theorem prefix_get' {α : Type} {l l' : List α} (h : l <+: l') {k : Nat} {x : α} (hk : l'[k]? = some x) (hlt : k < l.length) : l[k]? = some x := by
  obtain ⟨t, rfl⟩ := h
  rwa [List.getElem?_append_left hlt] at hk

/-- What holds behind k rounds of the search. -/
structure Bfs (g : Gr) (k : Nat) (st : List Int × List Int) : Prop where
  len : st.2.length = st.1.length
  mono : ∀ (i j : Nat) (di dj : Int), i ≤ j → st.2[i]? = some di → st.2[j]? = some dj → di ≤ dj
  front : ∀ (dk : Int), st.2[k]? = some dk → ∀ (j : Nat) (dj : Int), st.2[j]? = some dj → dj ≤ dk + 1
  cause : ∀ (p : Nat) (o dp : Int), st.1[p]? = some o → st.2[p]? = some dp → (o ∈ refsL g.roots ∧ dp = 0) ∨
    (o ∉ refsL g.roots ∧ ∃ (m : Nat) (om dm : Int), m < k ∧ st.1[m]? = some om ∧ st.2[m]? = some dm ∧ o ∈ refsL (fieldsOf g om) ∧ dp = dm + 1 ∧ ∀ (m' : Nat) (om' : Int), m' < m → st.1[m']? = some om' → o ∉ refsL (fieldsOf g om'))
  done : ∀ (m : Nat) (om : Int), m < k → st.1[m]? = some om → ∀ x ∈ refsL (fieldsOf g om), x ∈ st.1
  roots : ∀ x ∈ refsL g.roots, x ∈ st.1

theorem findA_lens (d : Int) : ∀ (xs : List Int) (st : List Int × List Int), st.2.length = st.1.length → (findA d st xs).2.length = (findA d st xs).1.length
  | [], st, h => h
  | x :: xs, st, h => by
    refine findA_lens d xs (findS d st x) ?_
    unfold findS; split
    · exact h
    · simp [h]

theorem bfs_start (g : Gr) : Bfs g 0 (searchN g 0) := by
  have hl : (searchN g 0).2.length = (searchN g 0).1.length := findA_lens 0 _ ([], []) rfl
  have hz : ∀ (p : Nat) (dp : Int), (searchN g 0).2[p]? = some dp → ∃ o, (searchN g 0).1[p]? = some o ∧ o ∈ refsL g.roots ∧ dp = 0 := by
    intro p dp h
    have hlt : p < (searchN g 0).1.length := by rw [← hl]; exact (List.getElem?_eq_some_iff.1 h).1
    obtain ⟨a, b, _⟩ := findA_new 0 (refsL g.roots) ([], []) rfl p (searchN g 0).1[p] dp (by simp) (List.getElem?_eq_getElem hlt) h
    exact ⟨_, List.getElem?_eq_getElem hlt, a, b⟩
  refine ⟨hl, ?_, ?_, ?_, ?_, ?_⟩
  · intro i j di dj _ hi hj
    obtain ⟨_, _, _, rfl⟩ := hz i di hi
    obtain ⟨_, _, _, rfl⟩ := hz j dj hj
    omega
  · intro dk hk j dj hj
    obtain ⟨_, _, _, rfl⟩ := hz 0 dk hk
    obtain ⟨_, _, _, rfl⟩ := hz j dj hj
    omega
  · intro p o dp hp hd
    obtain ⟨o', h1, h2, h3⟩ := hz p dp hd
    rw [hp] at h1
    injection h1 with h1
    subst h1
    exact .inl ⟨h2, h3⟩
  · intro m om hm; omega
  · intro x hx; exact findA_mem 0 _ _ x hx

theorem searchN_succ (g : Gr) (k : Nat) : searchN g (k + 1) = match (searchN g k).1[k]? with
    | none => searchN g k
    | some o => findA (((searchN g k).2[k]?).getD 0 + 1) (searchN g k) (refsL (fieldsOf g o)) := rfl

theorem bfs_step (g : Gr) (k : Nat) (h : Bfs g k (searchN g k)) : Bfs g (k + 1) (searchN g (k + 1)) := by
  rw [searchN_succ]
  generalize searchN g k = st at h
  cases hk : st.1[k]? with
  | none =>
    have hlen : st.1.length ≤ k := by
      rcases Nat.lt_or_ge k st.1.length with h' | h'
      · rw [List.getElem?_eq_getElem h'] at hk; cases hk
      · exact h'
    change Bfs g (k + 1) st
    refine ⟨h.len, h.mono, ?_, ?_, ?_, h.roots⟩
    · intro dk hd
      have := (List.getElem?_eq_some_iff.1 hd).1
      have := h.len
      omega
    · intro p o dp hp hd
      rcases h.cause p o dp hp hd with h' | ⟨h1, m, om, dm, hm, h2⟩
      · exact .inl h'
      · exact .inr ⟨h1, m, om, dm, by omega, h2⟩
    · intro m om hm ho
      have := (List.getElem?_eq_some_iff.1 ho).1
      exact h.done m om (by omega) ho
  | some o =>
    have hlt : k < st.1.length := (List.getElem?_eq_some_iff.1 hk).1
    have hlt2 : k < st.2.length := by rw [h.len]; exact hlt
    obtain ⟨dk, hdk⟩ : ∃ dk, st.2[k]? = some dk := ⟨_, List.getElem?_eq_getElem hlt2⟩
    simp only [hdk, Option.getD_some]
    have hpre := findA_prefix (dk + 1) (refsL (fieldsOf g o)) st
    have hnew := findA_new (dk + 1) (refsL (fieldsOf g o)) st h.len
    have hmem := findA_mem (dk + 1) (refsL (fieldsOf g o)) st
    have hl' := findA_lens (dk + 1) (refsL (fieldsOf g o)) st h.len
    generalize findA (dk + 1) st (refsL (fieldsOf g o)) = st' at hpre hnew hmem hl'
    have hval : ∀ (p : Nat) (dp : Int), st'.2[p]? = some dp → (p < st.1.length ∧ st.2[p]? = some dp) ∨ (st.1.length ≤ p ∧ dp = dk + 1) := by
      intro p dp hp
      by_cases hlt' : p < st.1.length
      · exact .inl ⟨hlt', prefix_get' hpre.2 hp (by rw [h.len]; exact hlt')⟩
      · have hlp : p < st'.1.length := by rw [← hl']; exact (List.getElem?_eq_some_iff.1 hp).1
        obtain ⟨_, b, _⟩ := hnew p st'.1[p] dp (by omega) (List.getElem?_eq_getElem hlp) hp
        exact .inr ⟨by omega, b⟩
    refine ⟨hl', ?_, ?_, ?_, ?_, ?_⟩
    · intro i j di dj hij hi hj
      rcases hval i di hi with ⟨a, b⟩ | ⟨a, rfl⟩
      · rcases hval j dj hj with ⟨c, d⟩ | ⟨c, rfl⟩
        · exact h.mono i j di dj hij b d
        · exact h.front dk hdk i di b
      · rcases hval j dj hj with ⟨c, d⟩ | ⟨c, rfl⟩
        · omega
        · omega
    · intro d1 hd1 j dj hj
      have hk1 : dk ≤ d1 := by
        rcases hval (k + 1) d1 hd1 with ⟨a, b⟩ | ⟨a, rfl⟩
        · exact h.mono k (k + 1) dk d1 (by omega) hdk b
        · omega
      rcases hval j dj hj with ⟨c, d⟩ | ⟨c, rfl⟩
      · have := h.front dk hdk j dj d; omega
      · omega
    · intro p x dp hp hd
      by_cases hlt' : p < st.1.length
      · have h1 := prefix_get' hpre.1 hp hlt'
        have h2 := prefix_get' hpre.2 hd (by rw [h.len]; exact hlt')
        rcases h.cause p x dp h1 h2 with h' | ⟨a, m, om, dm, hm, b, c, e, f, i⟩
        · exact .inl h'
        · refine .inr ⟨a, m, om, dm, by omega, prefix_get hpre.1 b, prefix_get hpre.2 c, e, f, ?_⟩
          intro m' om' hm' ho'
          exact i m' om' hm' (prefix_get' hpre.1 ho' (by omega))
      · obtain ⟨a, b, c⟩ := hnew p x dp (by omega) hp hd
        refine .inr ⟨fun hr => c (h.roots x hr), k, o, dk, by omega, prefix_get hpre.1 hk, prefix_get hpre.2 hdk, a, b, ?_⟩
        intro m' om' hm' ho' hx
        exact c (h.done m' om' hm' (prefix_get' hpre.1 ho' (by omega)) x hx)
    · intro m om hm ho x hx
      by_cases hmk : m = k
      · subst hmk
        have := prefix_get hpre.1 hk
        rw [ho] at this
        injection this with this
        subst this
        exact hmem x hx
      · exact hpre.1.mem (h.done m om (by omega) (prefix_get' hpre.1 ho (by omega)) x hx)
    · intro x hx; exact hpre.1.mem (h.roots x hx)

theorem bfs (g : Gr) : ∀ k, Bfs g k (searchN g k)
  | 0 => bfs_start g
  | k + 1 => bfs_step g k (bfs g k)

/-- What is found is closed. -/
theorem order_roots (g : Gr) : ∀ x ∈ refsL g.roots, x ∈ orderOf g := (bfs g g.objs.length).roots

theorem order_closed {g : Gr} (h : Good g) {o : Int} (ho : o ∈ orderOf g) : ∀ x ∈ refsL (fieldsOf g o), x ∈ orderOf g := by
  obtain ⟨m, hm, rfl⟩ := List.getElem_of_mem ho
  have hle := (searchN_ok h g.objs.length).le
  exact (bfs g g.objs.length).done m _ (by unfold orderOf at hm; omega) (List.getElem?_eq_getElem hm)

theorem order_ok {g : Gr} (h : Good g) {o : Int} (ho : o ∈ orderOf g) : 0 ≤ o ∧ o < g.objs.length := (searchN_ok h g.objs.length).rng o ho

theorem order_nodup {g : Gr} (h : Good g) : (orderOf g).Nodup := (searchN_ok h g.objs.length).nd

theorem fieldsOf_mem {g : Gr} {o : Int} (h0 : 0 ≤ o) (h1 : o < g.objs.length) : fieldsOf g o ∈ g.objs := by
  have hlt : o.toNat < g.objs.length := by omega
  unfold fieldsOf
  rw [List.getElem?_eq_getElem hlt, Option.getD_some]
  exact List.getElem_mem hlt

theorem placeOf_inj {order : List Int} {x y : Int} (hx : x ∈ order) (hy : y ∈ order) (h : placeOf order x = placeOf order y) : x = y := by
  unfold placeOf at h
  rw [if_pos hx, if_pos hy] at h
  have h' : order.idxOf x = order.idxOf y := by omega
  have hx' := List.getElem_idxOf (List.idxOf_lt_length_iff.2 hx)
  have hy' := List.getElem_idxOf (List.idxOf_lt_length_iff.2 hy)
  rw [← hx', ← hy']
  congr 1

theorem placeOf_bounds {order : List Int} {x : Int} (hx : x ∈ order) : 0 ≤ placeOf order x ∧ placeOf order x < order.length := by
  unfold placeOf
  rw [if_pos hx]
  have := List.idxOf_lt_length_iff.2 hx
  omega

theorem placeOf_get {order : List Int} {x : Int} (hx : x ∈ order) : order[(placeOf order x).toNat]? = some x := by
  unfold placeOf
  rw [if_pos hx, Int.toNat_natCast, List.getElem?_eq_getElem (List.idxOf_lt_length_iff.2 hx), List.getElem_idxOf (List.idxOf_lt_length_iff.2 hx)]

end Go.Proofs.Ytemjhdbmcdlpeaa

/- Walks: Dist. -/
namespace Go.Proofs.Ytemjhdbmcdlpeaa
set_option linter.unusedSimpArgs false
set_option linter.unusedVariables false
open Go.RowKit

/-- How far an object is; -1, if it can't be come to. -/
def distAt (g : Gr) (o : Int) : Int := if o ∈ orderOf g then ((distOf g)[(orderOf g).idxOf o]?).getD 0 else -1
def distL (g : Gr) : List Int := (List.range g.objs.length).map (fun (k : Nat) => distAt g (k : Int))

theorem distL_len (g : Gr) : (distL g).length = g.objs.length := by simp [distL]

theorem distL_take (g : Gr) {k : Nat} (hk : k < g.objs.length) : (distL g).take (k + 1) = (distL g).take k ++ [distAt g (k : Int)] := by
  rw [List.take_succ_eq_append_getElem (by rw [distL_len]; exact hk)]
  simp [distL]

theorem take_set1 {cs : List Value} {k : Nat} {pre : List Value} {x : Value} (h : cs.take k = pre) (hl : k < cs.length) : (cs.set k x).take (k + 1) = pre ++ [x] := by
  rw [← h]
  apply List.ext_getElem?
  intro i
  rw [List.getElem?_take]
  by_cases h1 : i < k
  · rw [if_pos (by omega), List.getElem?_append_left (by simp; omega), List.getElem?_set_ne (by omega), List.getElem?_take, if_pos h1]
  · rw [List.getElem?_append_right (by simp; omega)]
    have hmin : (List.take k cs).length = k := by simp; omega
    rw [hmin]
    by_cases h2 : i = k
    · subst h2
      rw [if_pos (by omega), List.getElem?_set_self (by omega)]; simp
    · rw [if_neg (by omega), List.getElem?_eq_none (by simp; omega)]

theorem ints_of_owns {w : World} {base : Nat} {e : TypeId} {v : Value} {n : Nat} {l : List Int} (h : w.ownsRow base e 1 v n (intsV l)) (hn : n = l.length) (hs : n ≤ 9223372036854775807) :
    ∃ a cap, v = .slice a l.length cap ∧ Ints w.heap.size w a l ∧ ∀ b off, a = some ⟨b, off, none⟩ → base ≤ b := by
  obtain ⟨_, h2⟩ := h
  rcases h2 with ⟨rfl, h0⟩ | ⟨g, cap, cur, rfl, hb, hg, hc1, hc2, hc3, htake⟩
  · refine ⟨none, 0, by rw [← hn, h0], ⟨by omega, fun hne => ?_⟩, fun b off e => by cases e⟩
    have : l = [] := List.eq_nil_of_length_eq_zero (by omega)
    exact absurd this hne
  · refine ⟨_, cap, by rw [hn], ⟨by omega, fun _ => ⟨g, 0, rfl, (Array.getElem?_eq_some_iff.1 hg).1, fun k v hk => ?_⟩⟩, fun b off e => by injection e with e; injection e with e1; omega⟩
    have h1 : (intsV l)[k]? = some (.int .i64 v) := by simp [intsV, hk]
    rw [← htake, List.getElem?_take] at h1
    rw [Nat.zero_add, cell_of_row w g k cur e (0, 0) hg]
    split at h1
    · simpa using h1
    · cases h1

end Go.Proofs.Ytemjhdbmcdlpeaa

/- Two values are compared. -/
namespace Go.Proofs.Ytemjhdbmcdlpeaa
set_option linter.unusedSimpArgs false
set_option linter.unusedVariables false
open Go.RowKit

theorem eql_in (r1 r2 : Bool) (n1 n2 : Int) (w : World) : (Op.equalIn 10000 64 (.agg #[.bool r1, .int .i64 n1]) (.agg #[.bool r2, .int .i64 n2])).run Try.prog w = .ok (r1 == r2 && n1 == n2) w := by
  have u2 := Try.underlying2
  have a2 := Try.isAgg2
  have z2 := Try.sizeOf2
  have u4 := Try.underlying4
  have a4 := Try.isAgg4
  have z4 := Try.sizeOf4
  have hS : Try.prog.underlying 64 = some (.struct (Try.prog.fieldsOf 64)) := by kernel_rfl
  have hp : Try.prog.stoodInHeld 64 = false := by kernel_rfl
  rw [show (10000 : Nat) = 9999 + 1 from rfl, run_equalIn_agg w 9999 64 _ _ hS hp]
  simp only [Program.fieldsOf, Try.underlying64]
  go_simp
  cases r1 <;> cases r2 <;> by_cases h2 : n1 = n2 <;> simp [h2]

theorem guard35 : Try.prog.eqGuardType Try.prog.depth 64 = false := by kernel_rfl

theorem neq_v (r1 r2 : Bool) (n1 n2 : Int) (w : World) : (binOp .neq 64 (.agg #[.bool r1, .int .i64 n1]) (.agg #[.bool r2, .int .i64 n2])).run Try.prog w = .ok (.bool (!(r1 == r2 && n1 == n2))) w := by
  rw [run_neq_struct, eql_in]; rfl

theorem eql_v (r1 r2 : Bool) (n1 n2 : Int) (w : World) : (binOp .eql 64 (.agg #[.bool r1, .int .i64 n1]) (.agg #[.bool r2, .int .i64 n2])).run Try.prog w = .ok (.bool (r1 == r2 && n1 == n2)) w := by
  rw [run_eql_struct, eql_in]; rfl

end Go.Proofs.Ytemjhdbmcdlpeaa

/- Walks: whether two lists of values are the same. -/
namespace Go.Proofs.Ytemjhdbmcdlpeaa
set_option linter.unusedSimpArgs false
set_option linter.unusedVariables false
open Go.RowKit

def sameG (g h : Gr) : Bool := decide (g.roots = h.roots) && decide (g.objs = h.objs)

end Go.Proofs.Ytemjhdbmcdlpeaa

/- Walks: the document's answer: Has, place, turned, Values, Graphs. -/
namespace Go.Proofs.Ytemjhdbmcdlpeaa
set_option linter.unusedSimpArgs false
set_option linter.unusedVariables false
open Go.RowKit

theorem mem_take_succ {l : List Int} {k : Nat} (hk : k < l.length) (x : Int) : x ∈ l.take (k + 1) ↔ x ∈ l.take k ∨ x = l[k] := by
  rw [List.take_succ_eq_append_getElem hk]; simp only [List.mem_append, List.mem_singleton]

set_option maxHeartbeats 400000 in
theorem has_c (a : Option Addr) (cap : Nat) (l : List Int) (x : Int) (B : Nat) (w : World) (hl : Ints B w a l) :
    Calls Try.prog 16 #[.slice a l.length cap, .int .i64 x] w fun e w' => e = .returned (.bool (decide (x ∈ l))) ∧ w' = w := by
  have hlen := hl.1
  go_enter Try.func16, Try.ntmps16
  go_wp2
  go_loop [9] (fun i => ∃ k : Nat, k ≤ l.length ∧ i = .int .i64 k ∧ Hid (x ∉ l.take k)) (fun i => l.length - (intOf i).toNat)
  case atStart => exact ⟨0, Nat.zero_le _, rfl, by show x ∉ l.take 0; simp⟩
  case round =>
    obtain ⟨k, hk, rfl, Hno⟩ := hrel
    by_cases hlt : k < l.length
    · obtain ⟨b, off, rfl, hbB, hc⟩ := hl.at hlt
      have HT := hide (mem_take_succ hlt x)
      have HM := hide (List.getElem_mem hlt)
      generalize l[k] = y at *
      by_cases hxy : x = y
      · have d : (x == y) = true := by simpa using hxy
        go_wp2
        go_ret
        exact ⟨ret_bool (by have := unhide HM; simp_all), rfl⟩
      · have d : (x == y) = false := by simpa using hxy
        go_wp2
        go_round
        case rel => exact ⟨k + 1, by omega, by go_num, fun h => by rcases (unhide HT).1 h with h | h; exact unhide Hno h; exact hxy h⟩
        case measure => simp [intOf]; omega
    · obtain rfl : k = l.length := by omega
      have hno := unhide Hno
      rw [List.take_length] at hno
      go_wp2
      go_ret
      exact ⟨ret_bool (by simp [hno]), rfl⟩

theorem idxOf_first {l : List Int} {k : Nat} {x : Int} (hk : k < l.length) (hx : l[k] = x) (hno : x ∉ l.take k) : l.idxOf x = k := by
  have hm : x ∈ l := hx ▸ List.getElem_mem hk
  have h1 := List.idxOf_lt_length_iff.2 hm
  have h2 := List.getElem_idxOf h1
  rcases Nat.lt_trichotomy (l.idxOf x) k with h3 | h3 | h3
  · exfalso
    apply hno
    rw [List.mem_take_iff_getElem]
    exact ⟨l.idxOf x, by omega, h2⟩
  · exact h3
  · exfalso
    have h4 := List.not_of_lt_findIdx (p := (· == x)) (xs := l) (i := k) h3
    simp [hx] at h4

set_option maxHeartbeats 400000 in
theorem place_c (a : Option Addr) (cap : Nat) (l : List Int) (x : Int) (B : Nat) (w : World) (hl : Ints B w a l) :
    Calls Try.prog 51 #[.slice a l.length cap, .int .i64 x] w fun e w' => e = .returned (.int .i64 (placeOf l x)) ∧ w' = w := by
  have hlen := hl.1
  go_enter Try.func51, Try.ntmps51
  go_wp2
  go_loop [5] (fun i => ∃ k : Nat, k ≤ l.length ∧ i = .int .i64 k ∧ Hid (x ∉ l.take k)) (fun i => l.length - (intOf i).toNat)
  case atStart => exact ⟨0, Nat.zero_le _, rfl, by show x ∉ l.take 0; simp⟩
  case round =>
    obtain ⟨k, hk, rfl, Hno⟩ := hrel
    by_cases hlt : k < l.length
    · obtain ⟨b, off, rfl, hbB, hc⟩ := hl.at hlt
      have HT := hide (mem_take_succ hlt x)
      have HM := hide (List.getElem_mem hlt)
      have HI := hide (fun e => idxOf_first (x := x) hlt e)
      generalize l[k] = y at *
      by_cases hxy : y = x
      · have d : (y == x) = true := by simpa using hxy
        go_wp2
        go_ret
        refine ⟨ret_int ?_, rfl⟩
        rw [placeOf, if_pos (by rw [← hxy]; exact unhide HM), unhide HI hxy (unhide Hno)]
      · have d : (y == x) = false := by simpa using hxy
        go_wp2
        go_round
        case rel => exact ⟨k + 1, by omega, by go_num, fun h => by rcases (unhide HT).1 h with h | h; exact unhide Hno h; exact hxy h.symm⟩
        case measure => simp [intOf]; omega
    · obtain rfl : k = l.length := by omega
      have hno := unhide Hno
      rw [List.take_length] at hno
      go_wp2
      go_ret
      exact ⟨ret_int (by rw [placeOf, if_neg hno]), rfl⟩

set_option maxHeartbeats 1000000 in
theorem turned_c (a al : Option Addr) (cap capl : Nat) (vs : List V) (l : List Int) (w : World) (hv : Vals w.heap.size w a vs) (hl : Ints w.heap.size w al l) (hlen : vs.length ≤ 1000) :
    Calls Try.prog 47 #[.slice a vs.length cap, .slice al l.length capl] w fun e w' => ∃ a' cap', e = .returned (.slice a' vs.length cap') ∧ Vals w'.heap.size w' a' (vs.map (renV l)) ∧ (∀ b off, a' = some ⟨b, off, none⟩ → w.heap.size ≤ b) ∧ Below w.heap.size w w' := by
  obtain ⟨i0, hi, hz0, hz1, hz2⟩ := info_parts Try.info64
  go_enter Try.func47, Try.ntmps47
  go_wp2
  go_loopw [5, 10] (fun s i wr => ∃ k : Nat, k ≤ vs.length ∧ i = .int .i64 k ∧ wr.ownsRow w.heap.size 64 2 s k (cellsV ((vs.take k).map (renV l))) ∧ Below w.heap.size w wr) (fun _ i _ => vs.length - (intOf i).toNat)
  case atStart => exact ⟨0, Nat.zero_le _, rfl, by simpa [cellsV] using World.ownsRow_nil _ _ _ _, Below.refl _ _⟩
  case round =>
    obtain ⟨k, hk, rfl, hown, hb⟩ := hrel
    have hsz := hb.size
    by_cases hlt : k < vs.length
    · obtain ⟨b, off, r, n, rfl, hbB, hc1, hc2, Hv⟩ := (hv.below hb).at hlt
      have HT := hide (List.take_succ_eq_append_getElem hlt)
      rw [Hv.out] at HT
      have Hfin : Hid (∀ m, renV l (r, n) = (r, m) → cellsV ((vs.take (k + 1)).map (renV l)) = cellsV ((vs.take k).map (renV l)) ++ [.bool r, .int .i64 m]) := by
        intro m hm
        rw [unhide HT, List.map_append, List.map_cons, List.map_nil, hm, cellsV_snoc]
      have hmx : k + 1 ≤ maxLen := by simp only [maxLen]; omega
      have hmy : (k + 1) * 16 ≤ 140737488355328 := by omega
      cases r
      · have HF := hide (unhide Hfin n (by simp [renV]))
        go_wp2_with (at_builtin; go_must (refine wpList_append_own _ rfl _ _ 41 rfl w.heap.size 64 i0 _ 2 16 Try.underlying41 hi hz0 hz1 hz2 rfl (by decide) _ _ _ rfl ((hown.alloc _).alloc _) ⟨wr.heap.size + 1, 0, none⟩ 1 1 [.bool false, .int .i64 n] rfl rfl (cell_two_at _ _ _ _ _ (by simp)) (by simp [Value.oneCell']) hmx hmy (by simp; omega) ?_); intro v' w1 hown' hgrow _)
        go_roundw
        case rel => exact ⟨k + 1, by omega, by go_num, by rw [unhide HF]; exact hown', ((hb.alloc hsz _).alloc (by simp; omega) _).grown hgrow (by simp; omega) (fun q e => (hown.lt q e).1)⟩
        case measure => simp [intOf]; omega
      · have HF := hide (unhide Hfin (placeOf l n) (by simp [renV]))
        have hlr := hl.below (hb.alloc hsz (.cells #[.bool true, .int .i64 n] 64))
        go_wp2_with (first
          | (go_at_call 51; go_must (refine (place_c _ _ l n w.heap.size _ hlr).mono ?_); rintro e w3 ⟨rfl, hw3⟩; subst hw3)
          | (at_builtin; go_must (refine wpList_append_own _ rfl _ _ 41 rfl w.heap.size 64 i0 _ 2 16 Try.underlying41 hi hz0 hz1 hz2 rfl (by decide) _ _ _ rfl ((hown.alloc _).alloc _) ⟨wr.heap.size + 1, 0, none⟩ 1 1 [.bool true, .int .i64 (placeOf l n)] rfl rfl (cell_two_at _ _ _ _ _ (by simp)) (by simp [Value.oneCell']) hmx hmy (by simp; omega) ?_); intro v' w1 hown' hgrow _))
        go_roundw
        case rel => exact ⟨k + 1, by omega, by go_num, by rw [unhide HF]; exact hown', ((hb.alloc hsz _).alloc (by simp; omega) _).grown hgrow (by simp; omega) (fun q e => (hown.lt q e).1)⟩
        case measure => simp [intOf]; omega
    · obtain rfl : k = vs.length := by omega
      rw [List.take_length] at hown
      obtain ⟨a', cap', hv', hV, hbs⟩ := vals_of_owns hown (by simp) (by omega)
      simp only [List.length_map] at hv'
      have Hv' := hide hv'
      clear hv'
      go_wp2
      go_ret
      exact ⟨a', cap', congrArg Ending.returned (unhide Hv'), hV, hbs, hb⟩

end Go.Proofs.Ytemjhdbmcdlpeaa

/- Plain: arenas as rows of words, and words in memory. -/
namespace Go.Proofs.Ytemjhdbmcdlpeaa
set_option linter.unusedSimpArgs false
set_option linter.unusedVariables false
open Go.RowKit

/-- Words of 32 bits. -/
def U64 (l : List Int) : Prop := ∀ x ∈ l, 0 ≤ x ∧ x < 18446744073709551616

theorem U64.drop {l : List Int} (h : U64 l) (n : Nat) : U64 (l.drop n) := fun x hx => h x (List.mem_of_mem_drop hx)
theorem U64.take {l : List Int} (h : U64 l) (n : Nat) : U64 (l.take n) := fun x hx => h x (List.mem_of_mem_take hx)

/-- A slice of words, below block B. -/
def Wds (B : Nat) (w : World) (a : Option Addr) (l : List Int) : Prop :=
  l.length ≤ 9223372036854775807 ∧ (l ≠ [] → ∃ b off, a = some ⟨b, off, none⟩ ∧ b < B ∧ ∀ k v, l[k]? = some v → w.cell? ⟨b, off + k, none⟩ = some (.int .u64 v))

theorem Wds.below {B : Nat} {w w' : World} {a : Option Addr} {l : List Int} (h : Wds B w a l) (hb : Below B w w') : Wds B w' a l := by
  refine ⟨h.1, fun hne => ?_⟩
  obtain ⟨b, off, rfl, hB, hc⟩ := h.2 hne
  refine ⟨b, off, rfl, hB, fun k v hk => ?_⟩
  rw [hb.cell (p := ⟨b, off + k, none⟩) hB]
  exact hc k v hk

theorem Wds.mono {B B' : Nat} {w : World} {a : Option Addr} {l : List Int} (h : Wds B w a l) (hb : B ≤ B') : Wds B' w a l := by
  refine ⟨h.1, fun hne => ?_⟩
  obtain ⟨b, off, rfl, hB, hc⟩ := h.2 hne
  exact ⟨b, off, rfl, by omega, hc⟩

theorem Wds.at {B : Nat} {w : World} {a : Option Addr} {l : List Int} (h : Wds B w a l) {k : Nat} (hk : k < l.length) :
    ∃ b off, a = some ⟨b, off, none⟩ ∧ b < B ∧ w.cell? ⟨b, off + k, none⟩ = some (.int .u64 l[k]) := by
  obtain ⟨b, off, rfl, hB, hc⟩ := h.2 (by intro e; subst e; simp at hk)
  exact ⟨b, off, rfl, hB, hc k l[k] (by simp [hk])⟩

/-- A part of a slice of words. -/
theorem Wds.sub {B b off : Nat} {w : World} {l : List Int} (h : Wds B w (some ⟨b, off, none⟩) l) (p n : Nat) : Wds B w (some ⟨b, off + p, none⟩) ((l.drop p).take n) := by
  refine ⟨by have := h.1; simp only [List.length_take, List.length_drop]; omega, fun hne => ?_⟩
  obtain ⟨b', off', e, hB, hc⟩ := h.2 (by intro e; subst e; simp at hne)
  injection e with e
  injection e with e1 e2
  subst e1 e2
  refine ⟨b, off + p, rfl, hB, fun k v hk => ?_⟩
  rw [List.getElem?_take] at hk
  split at hk
  · rw [List.getElem?_drop] at hk
    rw [Nat.add_assoc]
    exact hc _ v hk
  · cases hk

def wordsV (l : List Int) : List Value := l.map (Value.int .u64)
theorem wordsV_snoc (l : List Int) (x : Int) : wordsV (l ++ [x]) = wordsV l ++ [.int .u64 x] := by simp [wordsV]
theorem wordsV_append (l m : List Int) : wordsV (l ++ m) = wordsV l ++ wordsV m := by simp [wordsV]
theorem wordsV_len (l : List Int) : (wordsV l).length = l.length := by simp [wordsV]

theorem words_of_owns {w : World} {base : Nat} {e : TypeId} {v : Value} {n : Nat} {l : List Int} (h : w.ownsRow base e 1 v n (wordsV l)) (hn : n = l.length) (hs : n ≤ 9223372036854775807) :
    ∃ a cap, v = .slice a l.length cap ∧ Wds w.heap.size w a l ∧ Hid (∀ b off, a = some ⟨b, off, none⟩ → base ≤ b) := by
  obtain ⟨_, h2⟩ := h
  rcases h2 with ⟨rfl, h0⟩ | ⟨g, cap, cur, rfl, hb, hg, hc1, hc2, hc3, htake⟩
  · refine ⟨none, 0, by rw [← hn, h0], ⟨by omega, fun hne => ?_⟩, hide (fun b off e => by cases e)⟩
    have : l = [] := List.eq_nil_of_length_eq_zero (by omega)
    exact absurd this hne
  · refine ⟨_, cap, by rw [hn], ⟨by omega, fun _ => ⟨g, 0, rfl, (Array.getElem?_eq_some_iff.1 hg).1, fun k v hk => ?_⟩⟩, hide (fun b off e => by injection e with e; injection e with e1; omega)⟩
    have h1 : (wordsV l)[k]? = some (.int .u64 v) := by simp [wordsV, hk]
    rw [← htake, List.getElem?_take] at h1
    split at h1
    · rw [Nat.zero_add, cell_of_row w g k cur e (0, 0) hg]; simpa using h1
    · cases h1

/-- Words that do not lie in block x. -/
def WdsN (x : Option Nat) (W : World) (a : Option Addr) (l : List Int) : Prop :=
  Wds W.heap.size W a l ∧ (l ≠ [] → ∀ b off, a = some ⟨b, off, none⟩ → x ≠ some b)

theorem WdsN.grown {x : Option Nat} {W W' : World} {a : Option Addr} {l : List Int} (h : WdsN x W a l) (hg : W.grownBy W' x) : WdsN x W' a l := by
  refine ⟨⟨h.1.1, fun hne => ?_⟩, h.2⟩
  obtain ⟨b, off, rfl, hB, hc⟩ := h.1.2 hne
  have hne' := h.2 hne b off rfl
  have hblk := hg.block b hB (fun e => hne' e.symm)
  refine ⟨b, off, rfl, by have := hg.size; omega, fun k v hk => ?_⟩
  rw [World.cell?_of_block (a := ⟨b, off + k, none⟩) hblk]
  exact hc k v hk

theorem WdsN.below {x : Option Nat} {W W' : World} {a : Option Addr} {l : List Int} (h : WdsN x W a l) (hb : Below W.heap.size W W') : WdsN x W' a l :=
  ⟨(h.1.below hb).mono hb.size, h.2⟩

theorem WdsN.fresh {x : Option Nat} {W : World} {a : Option Addr} {l : List Int} (h : WdsN x W a l) {y : Option Nat} (hy : y = x ∨ ∃ m, y = some m ∧ W.heap.size ≤ m) : WdsN y W a l := by
  refine ⟨h.1, fun hne b off ha => ?_⟩
  rcases hy with rfl | ⟨m, rfl, hm⟩
  · exact h.2 hne b off ha
  · obtain ⟨b', off', ha', hB, _⟩ := h.1.2 hne
    rw [ha] at ha'
    injection ha' with ha'
    injection ha' with h1
    subst h1
    intro e
    injection e
    omega

/-- Behind an append to another row. -/
theorem WdsN.append {x y : Option Nat} {W W' : World} {a : Option Addr} {l : List Int} (h : WdsN x W a l) (hg : W.grownBy W' x) (hat : y = x ∨ y = some W.heap.size) : WdsN y W' a l :=
  ⟨(h.grown hg).1, (h.fresh (by rcases hat with e | e; · exact .inl e
                                · exact .inr ⟨_, e, Nat.le_refl _⟩)).2⟩

theorem ownsRow_below {W W' : World} {base : Nat} {e : TypeId} {size : Nat} {v : Value} {n : Nat} {xs : List Value} (h : W.ownsRow base e size v n xs) (hb : Below W.heap.size W W') : W'.ownsRow base e size v n xs :=
  h.kept (row := none) ⟨hb.os, hb.tape, hb.output, hb.size, fun k hk _ => hb.block k hk⟩ (by cases hv : v.ownBlock <;> simp)

/-- How many fields a header has. -/
def wlen (x : Int) : Nat := (x % 256).toNat

theorem uhL_wlen {x : Int} (h : unheadOk x = true) : uhL x = (wlen x : Int) := by
  unfold uhL wlen
  rw [if_pos h]
  omega

theorem wlen_le {x : Int} (h : unheadOk x = true) : wlen x ≤ 4 := by
  simp [unheadOk] at h
  unfold wlen
  omega

/-- How many words objects take. -/
def tot {α : Type} (fs : List (List α)) : Nat := (fs.map fun f => f.length + 1).sum

theorem tot_nil {α : Type} : tot ([] : List (List α)) = 0 := rfl
theorem tot_cons {α : Type} (f : List α) (fs : List (List α)) : tot (f :: fs) = f.length + 1 + tot fs := by simp [tot]
theorem tot_snoc {α : Type} (fs : List (List α)) (f : List α) : tot (fs ++ [f]) = tot fs + (f.length + 1) := by simp [tot]
theorem tot_len {α : Type} : ∀ (fs : List (List α)), fs.length ≤ tot fs
  | [] => by simp [tot]
  | f :: fs => by have := tot_len fs; rw [tot_cons]; simp; omega
theorem tot_flat {α : Type} : ∀ (fs : List (List α)), fs.flatten.length + fs.length = tot fs
  | [] => by simp [tot]
  | f :: fs => by have := tot_flat fs; rw [tot_cons, List.flatten_cons, List.length_append, List.length_cons]; omega
theorem tot_take_le {α : Type} : ∀ (fs : List (List α)) (k : Nat), tot (fs.take k) ≤ tot fs
  | [], k => by simp
  | f :: fs, 0 => by simp [tot]
  | f :: fs, k + 1 => by have := tot_take_le fs k; rw [List.take_succ_cons, tot_cons, tot_cons]; omega
theorem tot_take_succ {α : Type} {fs : List (List α)} {k : Nat} (hk : k < fs.length) : tot (fs.take (k + 1)) = tot (fs.take k) + (fs[k].length + 1) := by
  rw [List.take_succ_eq_append_getElem hk, tot_snoc]

/-- Where objects begin. -/
def stF {α : Type} : Nat → List (List α) → List Int
  | _, [] => []
  | p, f :: fs => (p : Int) :: stF (p + (f.length + 1)) fs

theorem stF_len {α : Type} : ∀ (fs : List (List α)) (p : Nat), (stF p fs).length = fs.length
  | [], p => rfl
  | f :: fs, p => by simp [stF, stF_len fs]

theorem stF_snoc {α : Type} : ∀ (fs : List (List α)) (p : Nat) (f : List α), stF p (fs ++ [f]) = stF p fs ++ [((p + tot fs : Nat) : Int)]
  | [], p, f => by simp [stF, tot]
  | g :: fs, p, f => by
    simp only [List.cons_append, stF, stF_snoc fs, tot_cons]
    congr 4
    omega

theorem stF_get {α : Type} : ∀ (fs : List (List α)) (p k : Nat), k < fs.length → (stF p fs)[k]? = some ((p + tot (fs.take k) : Nat) : Int)
  | [], p, k, h => by simp at h
  | f :: fs, p, 0, h => by simp [stF, tot]
  | f :: fs, p, k + 1, h => by
    simp only [stF, List.getElem?_cons_succ, List.take_succ_cons, tot_cons]
    rw [stF_get fs _ k (by simpa using h)]
    congr 2
    omega

theorem stF_mem {α : Type} : ∀ (fs : List (List α)) (p : Nat) (x : Int), x ∈ stF p fs → (p : Int) ≤ x ∧ x < ((p + tot fs : Nat) : Int)
  | [], p, x, h => by simp [stF] at h
  | f :: fs, p, x, h => by
    simp only [stF, List.mem_cons] at h
    rw [tot_cons]
    rcases h with rfl | h
    · omega
    · have := stF_mem fs _ x h
      omega

theorem stF_nodup {α : Type} : ∀ (fs : List (List α)) (p : Nat), (stF p fs).Nodup
  | [], p => by simp [stF]
  | f :: fs, p => by
    simp only [stF, List.nodup_cons]
    refine ⟨fun h => ?_, stF_nodup fs _⟩
    have := stF_mem fs _ _ h
    omega

theorem stF_same {α β : Type} : ∀ (fs : List (List α)) (gs : List (List β)) (p : Nat), fs.map List.length = gs.map List.length → stF p fs = stF p gs
  | [], [], p, _ => rfl
  | [], g :: gs, p, h => by simp at h
  | f :: fs, [], p, h => by simp at h
  | f :: fs, g :: gs, p, h => by
    simp only [List.map_cons, List.cons.injEq] at h
    simp only [stF, h.1, stF_same fs gs _ h.2]

/-- The fields of the objects of a row of words, of at most n objects. -/
def splitN : Nat → List Int → Option (List (List Int))
  | _, [] => some []
  | 0, _ :: _ => none
  | n + 1, x :: r => if unheadOk x = true ∧ wlen x ≤ r.length then (splitN n (r.drop (wlen x))).map (r.take (wlen x) :: ·) else none

theorem splitN_same : ∀ (n m : Nat) (l : List Int), l.length ≤ n → l.length ≤ m → splitN n l = splitN m l
  | n, m, [], _, _ => by simp only [splitN]
  | 0, _, _ :: _, h, _ => by simp at h
  | _ + 1, 0, _ :: _, _, h => by simp at h
  | n + 1, m + 1, x :: r, h1, h2 => by
    simp only [splitN]
    rw [splitN_same n m (r.drop (wlen x)) (by simp at h1 ⊢; omega) (by simp at h2 ⊢; omega)]

/-- The fields of the objects of a row of words. -/
def splitR (l : List Int) : Option (List (List Int)) := splitN l.length l

theorem splitR_nil : splitR [] = some [] := rfl
theorem splitR_cons (x : Int) (r : List Int) : splitR (x :: r) = if unheadOk x = true ∧ wlen x ≤ r.length then (splitR (r.drop (wlen x))).map (r.take (wlen x) :: ·) else none := by
  unfold splitR
  rw [splitN_same (r.drop (wlen x)).length r.length (r.drop (wlen x)) (Nat.le_refl _) (by simp)]
  simp only [List.length_cons, splitN]

/-- A row of words, so far split. -/
structure SpAt (ws : List Int) (D : List (List Int)) : Prop where
  le : tot D ≤ ws.length
  eq : splitR ws = (splitR (ws.drop (tot D))).map (D ++ ·)

theorem spAt_nil (ws : List Int) : SpAt ws [] := ⟨by simp [tot], by simp [tot]⟩

theorem drop_cons' {ws : List Int} {p : Nat} (h : p < ws.length) : ws.drop p = ws[p] :: ws.drop (p + 1) := List.drop_eq_getElem_cons h

theorem SpAt.step {ws : List Int} {D : List (List Int)} (h : SpAt ws D) (hp : tot D < ws.length) (hu : unheadOk ws[tot D] = true) (hl : tot D + 1 + wlen ws[tot D] ≤ ws.length) :
    SpAt ws (D ++ [(ws.drop (tot D + 1)).take (wlen ws[tot D])]) ∧ tot (D ++ [(ws.drop (tot D + 1)).take (wlen ws[tot D])]) = tot D + 1 + wlen ws[tot D] := by
  have e : tot (D ++ [(ws.drop (tot D + 1)).take (wlen ws[tot D])]) = tot D + 1 + wlen ws[tot D] := by
    rw [tot_snoc, List.length_take, List.length_drop]; omega
  refine ⟨⟨by omega, ?_⟩, e⟩
  rw [e, h.eq, drop_cons' hp, splitR_cons, if_pos ⟨hu, by rw [List.length_drop]; omega⟩, List.drop_drop, Option.map_map]
  congr 1
  funext l
  simp

theorem SpAt.bad {ws : List Int} {D : List (List Int)} (h : SpAt ws D) (hp : tot D < ws.length) (hb : unheadOk ws[tot D] = false ∨ ws.length < tot D + 1 + wlen ws[tot D]) : splitR ws = none := by
  rw [h.eq, drop_cons' hp, splitR_cons, if_neg]
  · rfl
  · rintro ⟨h1, h2⟩
    rw [List.length_drop] at h2
    rcases hb with hb | hb
    · rw [hb] at h1; cases h1
    · omega

theorem SpAt.fin {ws : List Int} {D : List (List Int)} (h : SpAt ws D) (hp : ws.length ≤ tot D) : splitR ws = some D := by
  rw [h.eq, List.drop_of_length_le hp, splitR_nil]; simp

/-- The words of objects: each a header, and fields. -/
def joinW : List Int → List (List Int) → List Int
  | h :: hs, f :: fs => h :: (f ++ joinW hs fs)
  | _, _ => []

theorem split_join : ∀ (n : Nat) (ws : List Int) (fs : List (List Int)), ws.length ≤ n → splitR ws = some fs → ∃ hs, hs.length = fs.length ∧ ws = joinW hs fs ∧ (∀ f ∈ fs, f.length ≤ 4)
  | n, [], fs, _, h => by
    rw [splitR_nil] at h
    injection h with h
    subst h
    exact ⟨[], rfl, rfl, by simp⟩
  | 0, x :: r, fs, hn, h => by simp at hn
  | n + 1, x :: r, fs, hn, h => by
    rw [splitR_cons] at h
    split at h
    · rename_i hc
      cases hs : splitR (r.drop (wlen x)) with
      | none => rw [hs] at h; simp at h
      | some gs =>
        rw [hs] at h
        simp only [Option.map_some, Option.some.injEq] at h
        subst h
        obtain ⟨hs', h1, h2, h3⟩ := split_join n _ gs (by simp at hn ⊢; omega) hs
        refine ⟨x :: hs', by simp [h1], ?_, ?_⟩
        · simp only [joinW, ← h2, List.take_append_drop]
        · intro f hf
          rcases List.mem_cons.1 hf with rfl | hf
          · have := wlen_le hc.1
            rw [List.length_take]; omega
          · exact h3 f hf
    · cases h

theorem join_split : ∀ (hs : List Int) (fs : List (List Int)), hs.length = fs.length → (∀ (k : Nat) (x : Int) (f : List Int), hs[k]? = some x → fs[k]? = some f → unheadOk x = true ∧ wlen x = f.length) → splitR (joinW hs fs) = some fs
  | [], [], _, _ => by simp only [joinW]; exact splitR_nil
  | [], f :: fs, h, _ => by simp at h
  | x :: hs, [], h, _ => by simp at h
  | x :: hs, f :: fs, h, hk => by
    have h0 := hk 0 x f rfl rfl
    have ih := join_split hs fs (by simpa using h) (fun k y g h1 h2 => hk (k + 1) y g (by simpa using h1) (by simpa using h2))
    simp only [joinW]
    rw [splitR_cons, if_pos ⟨h0.1, by simp [h0.2]⟩, h0.2, List.drop_left, List.take_left, ih]
    rfl

theorem joinW_len : ∀ (hs : List Int) (fs : List (List Int)), hs.length = fs.length → (joinW hs fs).length = tot fs
  | [], [], _ => rfl
  | [], f :: fs, h => by simp at h
  | x :: hs, [], h => by simp at h
  | x :: hs, f :: fs, h => by
    have := joinW_len hs fs (by simpa using h)
    simp only [joinW, tot_cons, List.length_cons, List.length_append]
    omega

/-- But for headers, two such rows are the same. -/
theorem join_same : ∀ (hs hs' : List Int) (fs : List (List Int)) (p i : Nat), hs.length = fs.length → hs'.length = fs.length → ((p + i : Nat) : Int) ∈ stF p fs ∨ (joinW hs fs)[i]? = (joinW hs' fs)[i]?
  | [], [], [], p, i, _, _ => .inr rfl
  | x :: hs, _, [], p, i, h, _ => by simp at h
  | _, x :: hs, [], p, i, _, h => by simp at h
  | [], _, f :: fs, p, i, h, _ => by simp at h
  | _, [], f :: fs, p, i, _, h => by simp at h
  | x :: hs, y :: hs', f :: fs, p, i, h, h' => by
    cases i with
    | zero => exact .inl (by simp [stF])
    | succ i =>
      simp only [joinW, List.getElem?_cons_succ]
      by_cases hi : i < f.length
      · exact .inr (by rw [List.getElem?_append_left hi, List.getElem?_append_left hi])
      · rw [List.getElem?_append_right (by omega), List.getElem?_append_right (by omega)]
        rcases join_same hs hs' fs (p + (f.length + 1)) (i - f.length) (by simpa using h) (by simpa using h') with e | e
        · refine .inl ?_
          rw [show p + (f.length + 1) + (i - f.length) = p + (i + 1) from by omega] at e
          simp only [stF, List.mem_cons]
          exact .inr e
        · exact .inr e

theorem splitR_st {ws : List Int} {fs : List (List Int)} (h : splitR ws = some fs) : tot fs = ws.length ∧ (∀ f ∈ fs, f.length ≤ 4) := by
  obtain ⟨hs, h1, h2, h3⟩ := split_join ws.length ws fs (Nat.le_refl _) h
  exact ⟨by rw [h2, joinW_len hs fs h1], h3⟩

/-- May a word stand in an arena whose objects begin there? -/
def okW (st : List Int) (x : Int) : Bool := unErr x == 0 && (!unRef x || decide (unNum x ∈ st))
/-- The value of a word, with the object's number. -/
def valW (st : List Int) (x : Int) : V := (unRef x, if unRef x then placeOf st (unNum x) else unNum x)
/-- The word of a value, with the object's place. -/
def packV (st : List Int) (v : V) : Int := packW v.1 (if v.1 then st.getD v.2.toNat 0 else v.2)

/-- What is wrong with an arena. -/
def arenaE (ws rs : List Int) : Int :=
  if 256 < ws.length ∨ 8 < rs.length then 1 else match splitR ws with
    | none => 4
    | some fs => if (rs ++ fs.flatten).all (okW (stF 0 fs)) then 0 else 2

/-- The graph of an arena. -/
def readG (fs : List (List Int)) (rs : List Int) : Gr := ⟨fs.map fun f => f.map (valW (stF 0 fs)), rs.map (valW (stF 0 fs))⟩

/-- The arena of a graph. -/
def layRoots (g : Gr) : List Int := g.roots.map (packV (stF 0 g.objs))
def layHeads (L : List (List V)) : List Int := L.map fun o => headW o.length false 0
def layFields (st : List Int) (L : List (List V)) : List (List Int) := L.map fun o => o.map (packV st)
def layWords (g : Gr) : List Int := joinW (layHeads g.objs) (layFields (stF 0 g.objs) g.objs)

end Go.Proofs.Ytemjhdbmcdlpeaa
