/- Walks: Dist. -/
import Derived.Test.YthpmckfgngkbhaaProg
import Derived.Test.YthpmckfgngkbhaaMem
import Derived.Test.YthpmckfgngkbhaaWp
import Derived.Test.YthpmckfgngkbhaaWv
import Derived.Test.YthpmckfgngkbhaaXa
namespace Go.Proofs.Ythpmckfgngkbhaa
set_option linter.unusedSimpArgs false
set_option linter.unusedVariables false
open Go.RowKit

/-- How far an object is; -1, if it can't be come to. -/
def distAt (g : Gr) (o : Int) : Int := if o ∈ orderOf g then ((distOf g)[(orderOf g).idxOf o]?).getD 0 else -1
def distL (g : Gr) : List Int := (List.range g.objs.length).map (fun (k : Nat) => distAt g (k : Int))

theorem distL_len (g : Gr) : (distL g).length = g.objs.length := by simp [distL]

theorem distL_take (g : Gr) {k : Nat} (hk : k < g.objs.length) : (distL g).take (k + 1) = (distL g).take k ++ [distAt g (k : Int)] := by
  rw [List.take_succ_eq_append_getElem (by rw [distL_len]; exact hk)]
  simp [distL]

theorem take_set1 {cs : List Value} {k : Nat} {pre : List Value} {x : Value} (h : cs.take k = pre) (hl : k < cs.length) : (cs.set k x).take (k + 1) = pre ++ [x] := by
  rw [← h]
  apply List.ext_getElem?
  intro i
  rw [List.getElem?_take]
  by_cases h1 : i < k
  · rw [if_pos (by omega), List.getElem?_append_left (by simp; omega), List.getElem?_set_ne (by omega), List.getElem?_take, if_pos h1]
  · rw [List.getElem?_append_right (by simp; omega)]
    have hmin : (List.take k cs).length = k := by simp; omega
    rw [hmin]
    by_cases h2 : i = k
    · subst h2
      rw [if_pos (by omega), List.getElem?_set_self (by omega)]; simp
    · rw [if_neg (by omega), List.getElem?_eq_none (by simp; omega)]

theorem ints_of_owns {w : World} {base : Nat} {e : TypeId} {v : Value} {n : Nat} {l : List Int} (h : w.ownsRow base e 1 v n (intsV l)) (hn : n = l.length) (hs : n ≤ 9223372036854775807) :
    ∃ a cap, v = .slice a l.length cap ∧ Ints w.heap.size w a l ∧ ∀ b off, a = some ⟨b, off, none⟩ → base ≤ b := by
  obtain ⟨_, h2⟩ := h
  rcases h2 with ⟨rfl, h0⟩ | ⟨g, cap, cur, rfl, hb, hg, hc1, hc2, hc3, htake⟩
  · refine ⟨none, 0, by rw [← hn, h0], ⟨by omega, fun hne => ?_⟩, fun b off e => by cases e⟩
    have : l = [] := List.eq_nil_of_length_eq_zero (by omega)
    exact absurd this hne
  · refine ⟨_, cap, by rw [hn], ⟨by omega, fun _ => ⟨g, 0, rfl, (Array.getElem?_eq_some_iff.1 hg).1, fun k v hk => ?_⟩⟩, fun b off e => by injection e with e; injection e with e1; omega⟩
    have h1 : (intsV l)[k]? = some (.int .i64 v) := by simp [intsV, hk]
    rw [← htake, List.getElem?_take] at h1
    rw [Nat.zero_add, cell_of_row w g k cur e (0, 0) hg]
    split at h1
    · simpa using h1
    · cases h1

end Go.Proofs.Ythpmckfgngkbhaa
