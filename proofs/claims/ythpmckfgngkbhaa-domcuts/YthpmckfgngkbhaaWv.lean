/- Walks: at: the value that a way of fields comes to. -/
import Derived.Test.YthpmckfgngkbhaaProg
import Derived.Test.YthpmckfgngkbhaaMem
import Derived.Test.YthpmckfgngkbhaaWp
namespace Go.Proofs.Ythpmckfgngkbhaa
set_option linter.unusedSimpArgs false
set_option linter.unusedVariables false
open Go.RowKit

/-- A slice of numbers, that lies below block B. -/
def Ints (B : Nat) (w : World) (a : Option Addr) (l : List Int) : Prop :=
  l.length ≤ 9223372036854775807 ∧ (l ≠ [] → ∃ b off, a = some ⟨b, off, none⟩ ∧ b < B ∧ ∀ k v, l[k]? = some v → w.cell? ⟨b, off + k, none⟩ = some (.int .i64 v))

theorem Ints.below {B : Nat} {w w' : World} {a : Option Addr} {l : List Int} (h : Ints B w a l) (hb : Below B w w') : Ints B w' a l := by
  refine ⟨h.1, fun hne => ?_⟩
  obtain ⟨b, off, rfl, hB, hc⟩ := h.2 hne
  refine ⟨b, off, rfl, hB, fun k v hk => ?_⟩
  rw [hb.cell (p := ⟨b, off + k, none⟩) hB]
  exact hc k v hk

theorem Ints.mono {B B' : Nat} {w : World} {a : Option Addr} {l : List Int} (h : Ints B w a l) (hb : B ≤ B') : Ints B' w a l := by
  refine ⟨h.1, fun hne => ?_⟩
  obtain ⟨b, off, rfl, hB, hc⟩ := h.2 hne
  exact ⟨b, off, rfl, by omega, hc⟩

theorem Ints.at {B : Nat} {w : World} {a : Option Addr} {l : List Int} (h : Ints B w a l) {k : Nat} (hk : k < l.length) :
    ∃ b off, a = some ⟨b, off, none⟩ ∧ b < B ∧ w.cell? ⟨b, off + k, none⟩ = some (.int .i64 l[k]) := by
  obtain ⟨b, off, rfl, hB, hc⟩ := h.2 (by intro e; subst e; simp at hk)
  exact ⟨b, off, rfl, hB, hc k l[k] (by simp [hk])⟩

def stepG (g : Gr) (v : V) (k : Int) : Option V :=
  if v.1 = true ∧ 0 ≤ v.2 ∧ v.2 < g.objs.length then (if 0 ≤ k ∧ k < (fieldsOf g v.2).length then (fieldsOf g v.2)[k.toNat]? else none) else none
def wayG (g : Gr) : V → List Int → Option V
  | v, [] => some v
  | v, k :: ks => (stepG g v k).bind (fun u => wayG g u ks)
def atG (g : Gr) (root : Int) (way : List Int) : Option V :=
  if 0 ≤ root ∧ root < g.roots.length then (g.roots[root.toNat]?).bind (fun v => wayG g v way) else none

/-- What at tells. -/
def atR (o : Option V) : Value := match o with
  | some v => .tuple #[.agg #[.bool v.1, .int .i64 v.2], .bool true]
  | none => .tuple #[.agg #[.bool false, .int .i64 0], .bool false]

end Go.Proofs.Ythpmckfgngkbhaa
