/- What all objects lead to, in memory; newSearch. -/
import Derived.Test.YtohofkfajmeohaaProg
import Derived.Test.YtohofkfajmeohaaMem
import Derived.Test.YtohofkfajmeohaaCc
import Derived.Test.YtohofkfajmeohaaHa
namespace Go.Proofs.Ytohofkfajmeohaa
set_option linter.unusedSimpArgs false
set_option linter.unusedVariables false
open Go.RowKit

theorem Try.info65 : (Try.prog.info? 65).map (fun i => (i.zero, i.size, i.bytes)) = some (some (.map none), 1, 8) := by kernel_rfl

def mapsV (ms : List Nat) : List Value := ms.map fun m => Value.map (some m)

theorem mapsV_snoc (ms : List Nat) (m : Nat) : mapsV (ms ++ [m]) = mapsV ms ++ [.map (some m)] := by simp [mapsV]

/-- What all objects lead to: a row of sets. -/
structure Led (W : World) (base : Nat) (v : Value) (ms : List Nat) (Ks : List (List Int)) : Prop where
  row : W.ownsRow base 65 1 v ms.length (mapsV ms)
  nd : ms.Nodup
  ge : ∀ m ∈ ms, base ≤ m
  len : Ks.length = ms.length
  set : ∀ (k m : Nat) (K : List Int), ms[k]? = some m → Ks[k]? = some K → ∃ n D, SetAt W m n D K

theorem SetAt.block {W : World} {mb n : Nat} {D : DataW Unit} {K : List Int} (h : SetAt W mb n D K) : ∃ es clock, W.heap[mb]? = some (.map es clock) := by
  obtain ⟨es, clock, hb, _⟩ := h.map
  exact ⟨es, clock, hb⟩

theorem SetAt.lt {W : World} {mb n : Nat} {D : DataW Unit} {K : List Int} (h : SetAt W mb n D K) : mb < W.heap.size := by
  obtain ⟨es, clock, hb⟩ := h.block
  exact (Array.getElem?_eq_some_iff.1 hb).1

theorem led_nil (W : World) (base : Nat) : Led W base (.slice none 0 0) [] [] := ⟨World.ownsRow_nil _ _ _ _, by simp, by simp, rfl, by simp⟩

theorem Led.at' {W : World} {base : Nat} {v : Value} {ms : List Nat} {Ks : List (List Int)} (h : Led W base v ms Ks) {m : Nat} (hm : m ∈ ms) : ∃ n D K, SetAt W m n D K := by
  obtain ⟨k, hk⟩ := List.getElem?_of_mem hm
  have hl := (List.getElem?_eq_some_iff.1 hk).1
  obtain ⟨n, D, hs⟩ := h.set k m _ hk (List.getElem?_eq_getElem (by rw [h.len]; exact hl))
  exact ⟨n, D, _, hs⟩

theorem Led.own {W W' : World} {row : Option Nat} {base : Nat} {v : Value} {ms : List Nat} {Ks : List (List Int)} (h : Led W base v ms Ks) (hg : W.grownBy W' row) (h1 : v.ownBlock = none ∨ v.ownBlock ≠ row) (h2 : ∀ r, row = some r → r ∉ ms) : Led W' base v ms Ks :=
  ⟨h.row.kept hg h1, h.nd, h.ge, h.len, fun k m K hk hK => by
    obtain ⟨n, D, hs⟩ := h.set k m K hk hK
    exact ⟨n, D, hs.kept hg (fun e => h2 m e (List.mem_of_getElem? hk))⟩⟩

theorem grownBy_of_below {W W' : World} (hb : Below W.heap.size W W') : W.grownBy W' none := ⟨hb.os, hb.tape, hb.output, hb.size, fun k hk _ => hb.block k hk⟩

theorem Led.below {W W' : World} {base : Nat} {v : Value} {ms : List Nat} {Ks : List (List Int)} (h : Led W base v ms Ks) (hb : Below W.heap.size W W') : Led W' base v ms Ks :=
  h.own (row := none) (grownBy_of_below hb) (by cases hv : v.ownBlock with | none => exact .inl rfl | some k => exact .inr (by simp)) (fun r e => by cases e)

theorem Led.setCell {W : World} {base : Nat} {v : Value} {ms : List Nat} {Ks : List (List Int)} (h : Led W base v ms Ks) {p : Addr} (hp : p.block < base) (u : Value) : Led (W.setCell p u) base v ms Ks :=
  ⟨ownsRow_setCell_below h.row hp u, h.nd, h.ge, h.len, fun k m K hk hK => by
    obtain ⟨n, D, hs⟩ := h.set k m K hk hK
    have := h.ge m (List.mem_of_getElem? hk)
    exact ⟨n, D, hs.map.setCell (by omega) u, hs.has, hs.siz⟩⟩

/-- One set more. -/
theorem Led.snoc {W W' : World} {base : Nat} {v v' : Value} {ms : List Nat} {Ks : List (List Int)} {m n : Nat} {D : DataW Unit} {K : List Int} (h : Led W base v ms Ks) (hs : SetAt W m n D K) (hm : base ≤ m) (hn : m ∉ ms)
    (hrow : W'.ownsRow base 65 1 v' (ms.length + 1) (mapsV ms ++ [.map (some m)])) (hg : W.grownBy W' v.ownBlock) : Led W' base v' (ms ++ [m]) (Ks ++ [K]) := by
  have hno : ∀ x n D K, SetAt W x n D K → some x ≠ v.ownBlock := by
    intro x n D K hx e
    obtain ⟨es, clock, hb⟩ := hx.block
    rcases h.row.2 with ⟨rfl, _⟩ | ⟨g, cap, cur, rfl, _, hgb, _⟩
    · simp [Value.ownBlock] at e
    · simp [Value.ownBlock] at e
      subst e
      rw [hgb] at hb; cases hb
  refine ⟨by rw [mapsV_snoc, List.length_append]; exact hrow, ?_, ?_, by simp [h.len], ?_⟩
  · rw [List.nodup_append]; exact ⟨h.nd, by simp, by intro a ha b hb; simp at hb; subst hb; exact fun e => hn (e ▸ ha)⟩
  · intro x hx
    rcases List.mem_append.1 hx with hx | hx
    · exact h.ge x hx
    · simp at hx; subst hx; exact hm
  · intro k x Kx hk hK
    by_cases hlt : k < ms.length
    · rw [List.getElem?_append_left hlt] at hk
      rw [List.getElem?_append_left (by rw [h.len]; exact hlt)] at hK
      obtain ⟨n', D', hs'⟩ := h.set k x Kx hk hK
      exact ⟨n', D', hs'.kept hg (fun e => hno _ _ _ _ hs' e.symm)⟩
    · have hl := (List.getElem?_eq_some_iff.1 hk).1
      simp at hl
      have hkl : k = ms.length := by omega
      rw [List.getElem?_append_right (by omega), hkl, Nat.sub_self] at hk
      rw [List.getElem?_append_right (by rw [h.len]; omega), hkl, h.len, Nat.sub_self] at hK
      simp at hk hK
      subst hk hK
      exact ⟨n, D, hs.kept hg (fun e => hno _ _ _ _ hs e.symm)⟩

/-- What the first k objects lead to. -/
def ledK (g : Gr) (k : Nat) : List (List Int) := (nums k).map (ledL g)

theorem ledK_succ (g : Gr) (k : Nat) : ledK g (k + 1) = ledK g k ++ [ledL g k] := by unfold ledK; rw [nums_succ, List.map_append]; rfl
theorem ledK_len (g : Gr) (k : Nat) : (ledK g k).length = k := by simp [ledK, nums_len]

/-- The box of a search: the graph's two slices, and the row of sets. -/
structure SBox (W : World) (sb : Nat) (ao ar : Option Addr) (no co nr cr : Nat) (v : Value) : Prop where
  c0 : W.cell? ⟨sb, 0, none⟩ = some (.slice ao no co)
  c1 : W.cell? ⟨sb, 1, none⟩ = some (.slice ar nr cr)
  c2 : W.cell? ⟨sb, 2, none⟩ = some v
  f2 : W.frozen? ⟨sb, 2, none⟩ = false

theorem SBox.kept {W W' : World} {sb : Nat} {ao ar : Option Addr} {no co nr cr : Nat} {v : Value} (h : SBox W sb ao ar no co nr cr v) (hb : W'.heap[sb]? = W.heap[sb]?) : SBox W' sb ao ar no co nr cr v :=
  ⟨(World.cell?_of_block (a := ⟨sb, 0, none⟩) hb).trans h.c0, (World.cell?_of_block (a := ⟨sb, 1, none⟩) hb).trans h.c1, (World.cell?_of_block (a := ⟨sb, 2, none⟩) hb).trans h.c2, (World.frozen?_of_block (a := ⟨sb, 2, none⟩) hb).trans h.f2⟩

theorem SBox.lt {W : World} {sb : Nat} {ao ar : Option Addr} {no co nr cr : Nat} {v : Value} (h : SBox W sb ao ar no co nr cr v) : sb < W.heap.size := World.block_lt_of_cell? W _ h.c0

theorem SBox.set {W : World} {sb : Nat} {ao ar : Option Addr} {no co nr cr : Nat} {v : Value} (h : SBox W sb ao ar no co nr cr v) (v' : Value) : SBox (W.setCell ⟨sb, 2, none⟩ v') sb ao ar no co nr cr v' := by
  refine ⟨?_, ?_, World.cell?_setCell_same' _ _ _ (by rw [h.c2]; rfl), by rw [World.frozen?_setCell]; exact h.f2⟩
  · rw [World.cell?_setCell_other _ _ _ _ (by simp)]; exact h.c0
  · rw [World.cell?_setCell_other _ _ _ _ (by simp)]; exact h.c1

end Go.Proofs.Ytohofkfajmeohaa
