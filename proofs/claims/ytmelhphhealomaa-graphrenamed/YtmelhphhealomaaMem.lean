/- What a graph is in memory, and as plain data. -/
import Derived.WalkKit
import Derived.WalkSpells
import Derived.WalkLawsBesides
namespace Go.Proofs.Ytmelhphhealomaa
set_option linter.unusedSimpArgs false
set_option linter.unusedVariables false
open Go.RowKit

theorem hide {p : Prop} (h : p) : Hid p := h
theorem unhide {p : Prop} (h : Hid p) : p := h

theorem ret_bool {a b : Bool} (h : a = b) : Ending.returned (.bool a) = .returned (.bool b) := by rw [h]
theorem ret_int {a b : Int} (h : a = b) : Ending.returned (.int .i64 a) = .returned (.int .i64 b) := by rw [h]

theorem cell_two_at (w : World) (x y : Value) (t : TypeId) (m : Nat) (hm : m = w.heap.size) : ∀ j u, [x, y][j]? = some u → (w.alloc (.cells #[x, y] t)).cell? ((⟨m, 0, none⟩ : Addr).add j) = some u := by
  subst hm; exact cell_two_new w x y t
theorem cell_one_at (w : World) (x : Value) (t : TypeId) (m : Nat) (hm : m = w.heap.size) : ∀ j u, [x][j]? = some u → (w.alloc (.cells #[x] t)).cell? ((⟨m, 0, none⟩ : Addr).add j) = some u := by
  subst hm; exact cell_one_new w x t

/-- A value of a graph: is it a reference; its number. -/
abbrev V := Bool × Int

/-- A slice of values, that lies below block B. -/
def Vals (B : Nat) (w : World) (a : Option Addr) (l : List V) : Prop :=
  l.length ≤ 9223372036854775807 ∧ (l ≠ [] → ∃ b off, a = some ⟨b, off, none⟩ ∧ b < B ∧ ∀ k v, l[k]? = some v → w.cell? ⟨b, off + k * 2, none⟩ = some (.bool v.1) ∧ w.cell? ⟨b, off + k * 2 + 1, none⟩ = some (.int .i64 v.2))

theorem Vals.below {B : Nat} {w w' : World} {a : Option Addr} {l : List V} (h : Vals B w a l) (hb : Below B w w') : Vals B w' a l := by
  refine ⟨h.1, fun hne => ?_⟩
  obtain ⟨b, off, rfl, hB, hc⟩ := h.2 hne
  refine ⟨b, off, rfl, hB, fun k v hk => ?_⟩
  rw [hb.cell (p := ⟨b, off + k * 2, none⟩) hB, hb.cell (p := ⟨b, off + k * 2 + 1, none⟩) hB]
  exact hc k v hk

theorem Vals.below' {B : Nat} {w w' : World} {a : Option Addr} {l : List V} (h : Vals B w' a l) (hb : Below B w w') : Vals B w a l := by
  refine ⟨h.1, fun hne => ?_⟩
  obtain ⟨b, off, rfl, hB, hc⟩ := h.2 hne
  refine ⟨b, off, rfl, hB, fun k v hk => ?_⟩
  rw [← hb.cell (p := ⟨b, off + k * 2, none⟩) hB, ← hb.cell (p := ⟨b, off + k * 2 + 1, none⟩) hB]
  exact hc k v hk

theorem Vals.mono {B B' : Nat} {w : World} {a : Option Addr} {l : List V} (h : Vals B w a l) (hb : B ≤ B') : Vals B' w a l := by
  refine ⟨h.1, fun hne => ?_⟩
  obtain ⟨b, off, rfl, hB, hc⟩ := h.2 hne
  exact ⟨b, off, rfl, by omega, hc⟩

/-- One value of a slice. -/
theorem Vals.at {B : Nat} {w : World} {a : Option Addr} {l : List V} (h : Vals B w a l) {k : Nat} (hk : k < l.length) :
    ∃ b off r n, a = some ⟨b, off, none⟩ ∧ b < B ∧ w.cell? ⟨b, off + k * 2, none⟩ = some (.bool r) ∧ w.cell? ⟨b, off + k * 2 + 1, none⟩ = some (.int .i64 n) ∧ Hid (l[k] = (r, n)) := by
  obtain ⟨b, off, rfl, hB, hc⟩ := h.2 (by intro e; subst e; simp at hk)
  exact ⟨b, off, l[k].1, l[k].2, rfl, hB, (hc k l[k] (by simp [hk])).1, (hc k l[k] (by simp [hk])).2, rfl⟩

/-- Is one of some values a reference to j? -/
def refers (l : List V) (j : Int) : Bool := l.any fun v => v.1 && v.2 == j

theorem refers_take {l : List V} {j : Int} {k : Nat} (hk : k < l.length) {r : Bool} {n : Int} (h : l[k] = (r, n)) : refers (l.take (k + 1)) j = (refers (l.take k) j || (r && n == j)) := by
  rw [List.take_succ_eq_append_getElem hk, h]
  simp only [refers, List.any_append, List.any_cons, List.any_nil, Bool.or_false]

theorem refers_of_take {l : List V} {j : Int} {k : Nat} (h : refers (l.take k) j = true) : refers l j = true := by
  unfold refers at *
  rw [List.any_eq_true] at *
  obtain ⟨x, hx, hp⟩ := h
  exact ⟨x, List.mem_of_mem_take hx, hp⟩

/-- A slice of objects, each of which is a slice of values, below block B. -/
def Objs (B : Nat) (w : World) (a : Option Addr) (L : List (List V)) : Prop :=
  L.length ≤ 9223372036854775807 ∧ (L ≠ [] → ∃ b off, a = some ⟨b, off, none⟩ ∧ b < B ∧ ∀ k l, L[k]? = some l → ∃ ai ci, w.cell? ⟨b, off + k, none⟩ = some (.slice ai l.length ci) ∧ Vals B w ai l)

theorem Objs.below {B : Nat} {w w' : World} {a : Option Addr} {L : List (List V)} (h : Objs B w a L) (hb : Below B w w') : Objs B w' a L := by
  refine ⟨h.1, fun hne => ?_⟩
  obtain ⟨b, off, rfl, hB, hc⟩ := h.2 hne
  refine ⟨b, off, rfl, hB, fun k v hk => ?_⟩
  obtain ⟨ai, ci, h1, h2⟩ := hc k v hk
  refine ⟨ai, ci, ?_, h2.below hb⟩
  rw [hb.cell (p := ⟨b, off + k, none⟩) hB]
  exact h1

theorem Objs.mono {B B' : Nat} {w : World} {a : Option Addr} {L : List (List V)} (h : Objs B w a L) (hb : B ≤ B') : Objs B' w a L := by
  refine ⟨h.1, fun hne => ?_⟩
  obtain ⟨b, off, rfl, hB, hc⟩ := h.2 hne
  refine ⟨b, off, rfl, by omega, fun k v hk => ?_⟩
  obtain ⟨ai, ci, h1, h2⟩ := hc k v hk
  exact ⟨ai, ci, h1, h2.mono hb⟩

theorem Objs.at {B : Nat} {w : World} {a : Option Addr} {L : List (List V)} (h : Objs B w a L) {k : Nat} (hk : k < L.length) :
    ∃ b off ai ci, a = some ⟨b, off, none⟩ ∧ b < B ∧ w.cell? ⟨b, off + k, none⟩ = some (.slice ai L[k].length ci) ∧ Vals B w ai L[k] := by
  obtain ⟨b, off, rfl, hB, hc⟩ := h.2 (by intro e; subst e; simp at hk)
  obtain ⟨ai, ci, h1, h2⟩ := hc k L[k] (by simp [hk])
  exact ⟨b, off, ai, ci, rfl, hB, h1, h2⟩

/-- A graph as plain data. -/
structure Gr where
  objs : List (List V)
  roots : List V

def isLargeG (g : Gr) : Bool := decide (24 < g.objs.length) || decide (8 < g.roots.length) || g.objs.any (fun l => decide (4 < l.length))

def badV (v : V) (n : Nat) : Int := if v.1 then (if v.2 < 0 ∨ (n : Int) ≤ v.2 then 2 else 0) else (if v.2 < -4611686018427387904 ∨ 4611686018427387903 < v.2 then 3 else 0)

def allV (g : Gr) : List V := g.roots ++ g.objs.flatten

def checkG (g : Gr) : Int :=
  if isLargeG g then 1 else if (allV g).any (fun v => badV v g.objs.length == 2) then 2 else if (allV g).any (fun v => badV v g.objs.length == 3) then 3 else 0

/-- The cells of a list of values. -/
def cellsV (l : List V) : List Value := l.flatMap fun v => [.bool v.1, .int .i64 v.2]

theorem cellsV_snoc (l : List V) (r : Bool) (n : Int) : cellsV (l ++ [(r, n)]) = cellsV l ++ [.bool r, .int .i64 n] := by simp [cellsV]

theorem cellsV_get : ∀ (l : List V) (k : Nat) (v : V), l[k]? = some v → (cellsV l)[k * 2]? = some (.bool v.1) ∧ (cellsV l)[k * 2 + 1]? = some (.int .i64 v.2)
  | [], _, _, h => by simp at h
  | x :: l, 0, v, h => by simp at h; subst h; simp [cellsV]
  | x :: l, k + 1, v, h => by
    have := cellsV_get l k v (by simpa using h)
    have e1 : (k + 1) * 2 = k * 2 + 1 + 1 := by omega
    have e2 : (k + 1) * 2 + 1 = k * 2 + 1 + 1 + 1 := by omega
    rw [e1]
    simp only [cellsV, List.flatMap_cons, List.cons_append, List.nil_append, List.getElem?_cons_succ]
    exact this

/-- What the call owns is a slice of values. -/
theorem vals_of_owns {w : World} {base : Nat} {e : TypeId} {v : Value} {n : Nat} {l : List V} (h : w.ownsRow base e 2 v n (cellsV l)) (hn : n = l.length) (hs : n ≤ 9223372036854775807) :
    ∃ a cap, v = .slice a l.length cap ∧ Vals w.heap.size w a l ∧ ∀ b off, a = some ⟨b, off, none⟩ → base ≤ b := by
  obtain ⟨_, h2⟩ := h
  rcases h2 with ⟨rfl, h0⟩ | ⟨g, cap, cur, rfl, hb, hg, hc1, hc2, hc3, htake⟩
  · refine ⟨none, 0, by rw [← hn, h0], ⟨by omega, fun hne => ?_⟩, fun b off e => by cases e⟩
    have : l = [] := List.eq_nil_of_length_eq_zero (by omega)
    exact absurd this hne
  · refine ⟨_, cap, by rw [hn], ⟨by omega, fun _ => ⟨g, 0, rfl, (Array.getElem?_eq_some_iff.1 hg).1, fun k v hk => ?_⟩⟩, fun b off e => by injection e with e; injection e with e1; omega⟩
    obtain ⟨h1, h2⟩ := cellsV_get l k v hk
    rw [← htake] at h1 h2
    rw [List.getElem?_take] at h1 h2
    have hcell : ∀ j u, (if j < n * 2 then cur.toList[j]? else none) = some u → w.cell? ⟨g, 0 + j, none⟩ = some u := by
      intro j u hj
      split at hj
      · rw [Nat.zero_add, cell_of_row w g j cur e (0, 0) hg]; simpa using hj
      · cases hj
    exact ⟨hcell _ _ h1, by have := hcell _ _ h2; simpa [Nat.add_assoc] using this⟩

end Go.Proofs.Ytmelhphhealomaa
