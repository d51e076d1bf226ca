/- A row of slices of numbers that stand as they are; the plain side of DomTree. -/
import Derived.Test.YtkoidbekfjlfjaaKh
namespace Go.Proofs.Ytkoidbekfjlfjaa
set_option linter.unusedSimpArgs false
set_option linter.unusedVariables false
open Go.RowKit Go.Shelf

/-- Numbers that do not lie in block x. -/
def IntsN (x : Option Nat) (W : World) (a : Option Addr) (l : List Int) : Prop :=
  Ints W.heap.size W a l ∧ (l ≠ [] → ∀ b off, a = some ⟨b, off, none⟩ → x ≠ some b)

theorem IntsN.grown {x : Option Nat} {W W' : World} {a : Option Addr} {l : List Int} (h : IntsN x W a l) (hg : W.grownBy W' x) : IntsN x W' a l := by
  refine ⟨⟨h.1.1, fun hne => ?_⟩, h.2⟩
  obtain ⟨b, off, rfl, hB, hc⟩ := h.1.2 hne
  have hne' := h.2 hne b off rfl
  have hblk := hg.block b hB (fun e => hne' e.symm)
  refine ⟨b, off, rfl, by have := hg.size; omega, fun k v hk => ?_⟩
  rw [World.cell?_of_block (a := ⟨b, off + k, none⟩) hblk]
  exact hc k v hk

theorem IntsN.below {x : Option Nat} {W W' : World} {a : Option Addr} {l : List Int} (h : IntsN x W a l) (hb : Below W.heap.size W W') : IntsN x W' a l :=
  ⟨(h.1.below hb).mono hb.size, h.2⟩

theorem IntsN.fresh {x : Option Nat} {W : World} {a : Option Addr} {l : List Int} (h : IntsN x W a l) {y : Option Nat} (hy : y = x ∨ ∃ m, y = some m ∧ W.heap.size ≤ m) : IntsN y W a l := by
  refine ⟨h.1, fun hne b off ha => ?_⟩
  rcases hy with rfl | ⟨m, rfl, hm⟩
  · exact h.2 hne b off ha
  · obtain ⟨b', off', ha', hB, _⟩ := h.1.2 hne
    rw [ha] at ha'
    injection ha' with ha'
    injection ha' with h1
    subst h1
    intro e
    injection e
    omega

structure IRow (W : World) (base : Nat) (v : Value) (L : List (List Int)) (es : List Value) : Prop where
  row : W.ownsRow base 26 1 v L.length es
  el : ∀ (k : Nat) (l : List Int), L[k]? = some l → ∃ ai ci, es[k]? = some (.slice ai l.length ci) ∧ IntsN v.ownBlock W ai l

theorem irow_nil (W : World) (base : Nat) : IRow W base (.slice none 0 0) [] [] := ⟨World.ownsRow_nil _ _ _ _, fun k l h => by simp at h⟩

theorem IRow.below {W W' : World} {base : Nat} {v : Value} {L : List (List Int)} {es : List Value} (h : IRow W base v L es) (hb : Below W.heap.size W W') : IRow W' base v L es :=
  ⟨h.row.kept ⟨hb.os, hb.tape, hb.output, hb.size, fun k hk _ => hb.block k hk⟩ (row := none) (by cases hv : v.ownBlock <;> simp), fun k l hk => by
    obtain ⟨ai, ci, h1, h2⟩ := h.el k l hk
    exact ⟨ai, ci, h1, h2.below hb⟩⟩

theorem IRow.snoc {W W' : World} {base : Nat} {v v' : Value} {L : List (List Int)} {es : List Value} (h : IRow W base v L es) {ai : Option Addr} {ci : Nat} {l : List Int}
    (hl : Ints W.heap.size W ai l) (hno : ∀ b off, ai = some ⟨b, off, none⟩ → v.ownBlock ≠ some b)
    (hrow : W'.ownsRow base 26 1 v' (L.length + 1) (es ++ [.slice ai l.length ci])) (hg : W.grownBy W' v.ownBlock) (hat : v'.ownBlock = v.ownBlock ∨ v'.ownBlock = some W.heap.size) :
    IRow W' base v' (L ++ [l]) (es ++ [.slice ai l.length ci]) := by
  have hlen : es.length = L.length := by have := h.row.1; omega
  have hy : ∀ {a : Option Addr} {l : List Int}, IntsN v.ownBlock W a l → IntsN v'.ownBlock W' a l := by
    intro a l hv
    have h1 : IntsN v'.ownBlock W a l := hv.fresh (by rcases hat with h | h; · exact .inl h
                                                      · exact .inr ⟨_, h, Nat.le_refl _⟩)
    exact ⟨(hv.grown hg).1, h1.2⟩
  refine ⟨by simpa using hrow, fun k l' hk => ?_⟩
  by_cases hlt : k < L.length
  · rw [List.getElem?_append_left hlt] at hk
    obtain ⟨ai', ci', h1, h2⟩ := h.el k l' hk
    exact ⟨ai', ci', by rw [List.getElem?_append_left (by omega)]; exact h1, hy h2⟩
  · rw [List.getElem?_append_right (by omega)] at hk
    rcases Nat.eq_zero_or_pos (k - L.length) with h0 | h0
    · rw [h0] at hk
      simp at hk
      subst hk
      refine ⟨ai, ci, ?_, hy ⟨hl, fun _ => hno⟩⟩
      rw [List.getElem?_append_right (by omega), show k - es.length = 0 from by omega]; rfl
    · rw [List.getElem?_eq_none (by simp; omega)] at hk; cases hk

theorem IRow.tab {W : World} {base : Nat} {v : Value} {L : List (List Int)} {es : List Value} (h : IRow W base v L es) (hs : L.length ≤ 9223372036854775807) : ∃ a cap, v = .slice a L.length cap ∧ Tab W.heap.size W a L := by
  rcases h.row.2 with ⟨rfl, h0⟩ | ⟨g, cap, cur, rfl, hb, hg, hc1, hc2, hc3, htake⟩
  · refine ⟨none, 0, by rw [h0], hs, fun hne => ?_⟩
    exact absurd (List.eq_nil_of_length_eq_zero h0) hne
  · refine ⟨_, cap, rfl, hs, fun _ => ⟨g, 0, rfl, (Array.getElem?_eq_some_iff.1 hg).1, fun k l hk => ?_⟩⟩
    obtain ⟨ai, ci, h1, h2⟩ := h.el k l hk
    refine ⟨ai, ci, ?_, h2.1⟩
    rw [← htake, List.getElem?_take] at h1
    rw [Nat.zero_add, cell_of_row W g k cur 26 (0, 0) hg]
    split at h1
    · simpa using h1
    · cases h1

/-- What each of the first k objects keeps. -/
def keptK (g : Gr) (k : Nat) : List (List Int) := (List.range k).map fun (v : Nat) => retL g v
theorem keptK_len (g : Gr) (k : Nat) : (keptK g k).length = k := by simp [keptK]
theorem keptK_succ (g : Gr) (k : Nat) : keptK g (k + 1) = keptK g k ++ [retL g k] := by simp [keptK, List.range_succ]
theorem keptK_get {g : Gr} {n k : Nat} (hk : k < n) : (keptK g n)[k]'(by rw [keptK_len]; exact hk) = retL g k := by simp [keptK]

/-- On the way up from i: u was come to, k is next. -/
structure UpOk (g : Gr) (i : Int) (u : List Int) (k : Int) : Prop where
  nd : u.Nodup
  rng : ∀ x ∈ u, 0 ≤ x ∧ x < (g.objs.length : Int)
  all : ∀ v, i ∈ retL g v ↔ v ∈ u ∨ (0 ≤ k ∧ k ∈ retL g v)
  str : ∀ x ∈ u, 0 ≤ k → k ∉ retL g x
  kin : 0 ≤ k → k ∈ orderOf g

theorem up_start {g : Gr} {i : Int} (hi : 0 ≤ i) (ho : i ∈ orderOf g) : UpOk g i [] i :=
  ⟨by simp, by simp, fun v => by simp [hi], by simp, fun _ => ho⟩

theorem UpOk.lt {g : Gr} (h : Good g) {i : Int} {u : List Int} {k : Int} (hu : UpOk g i u k) (hk : 0 ≤ k) : u.length < g.objs.length := by
  have hko := hu.kin hk
  have hkr := order_ok h hko
  have hn : (u ++ [k]).Nodup := by
    rw [List.nodup_append]
    exact ⟨hu.nd, by simp, by intro a ha b hb; simp at hb; subst hb; exact fun e => hu.str a ha hk (by rw [e]; exact (ret_self h b).2 hko)⟩
  have := nodup_length hn (N := g.objs.length) (by
    intro y hy
    rw [List.mem_append, List.mem_singleton] at hy
    rcases hy with hy | rfl
    · exact hu.rng y hy
    · exact hkr)
  simp at this
  omega

theorem UpOk.step {g : Gr} (h : Good g) {i : Int} {u : List Int} {k d : Int} (hu : UpOk g i u k) (hk : 0 ≤ k) (hd : Near g k d) : UpOk g i (u ++ [k]) d := by
  have hko := hu.kin hk
  have hkr := order_ok h hko
  have hkk : k ∈ retL g k := (ret_self h k).2 hko
  have hd' : (d = -1 ∧ ∀ v, k ∈ retL g v → v = k) ∨ (d ≠ k ∧ k ∈ retL g d ∧ ∀ v, k ∈ retL g v → v ≠ k → d ∈ retL g v) := by
    rcases hd with ⟨e, _⟩ | ⟨_, e⟩
    · exact absurd hko e
    · exact e
  refine ⟨?_, ?_, fun v => ?_, ?_, ?_⟩
  · rw [List.nodup_append]
    exact ⟨hu.nd, by simp, by intro a ha b hb; simp at hb; subst hb; exact fun e => hu.str a ha hk (by rw [e]; exact hkk)⟩
  · intro y hy
    rw [List.mem_append, List.mem_singleton] at hy
    rcases hy with hy | rfl
    · exact hu.rng y hy
    · exact hkr
  · rw [hu.all v, List.mem_append, List.mem_singleton]
    constructor
    · rintro (e | ⟨_, e⟩)
      · exact .inl (.inl e)
      · by_cases ev : v = k
        · exact .inl (.inr ev)
        · rcases hd' with ⟨_, h1⟩ | ⟨_, h2, h3⟩
          · exact absurd (h1 v e) ev
          · exact .inr ⟨(ret_nonneg h h2).1, h3 v e ev⟩
    · rintro ((e | e) | ⟨h0, e⟩)
      · exact .inl e
      · exact .inr ⟨hk, by rw [e]; exact hkk⟩
      · rcases hd' with ⟨h1, _⟩ | ⟨_, h2, _⟩
        · omega
        · exact .inr ⟨hk, ret_trans h e h2⟩
  · intro x hx h0 hc
    rcases hd' with ⟨h1, _⟩ | ⟨hne, h2, _⟩
    · omega
    · rw [List.mem_append, List.mem_singleton] at hx
      rcases hx with hx | rfl
      · exact hu.str x hx hk (ret_trans h hc h2)
      · exact hne (ret_anti h h2 hc)
  · intro h0
    rcases hd' with ⟨h1, _⟩ | ⟨_, h2, _⟩
    · omega
    · exact ret_order h h2

theorem UpOk.fin {g : Gr} {i : Int} {u : List Int} {k : Int} (hu : UpOk g i u k) (hk : k < 0) (v : Int) : decide (i ∈ retL g v) = decide (v ∈ u) := by
  rw [Bool.eq_iff_iff, decide_eq_true_eq, decide_eq_true_eq, hu.all v]
  exact ⟨fun e => e.resolve_right (fun h => by omega), .inl⟩

/-- The same, also of an object that can't be come to. -/
def UpI (g : Gr) (i d : Int) (u : List Int) (k : Int) : Prop := (d = -2 ∧ u = [] ∧ k = i ∧ i ∉ orderOf g) ∨ (d ≠ -2 ∧ UpOk g i u k)

theorem upI_start {g : Gr} (h : Good g) {i d : Int} (hi : 0 ≤ i) (hd : Near g i d) : UpI g i d [] i := by
  rcases hd with ⟨e, rfl⟩ | ⟨e, hd⟩
  · exact .inl ⟨rfl, rfl, rfl, e⟩
  · refine .inr ⟨?_, up_start hi e⟩
    rcases hd with ⟨rfl, _⟩ | ⟨_, h2, _⟩
    · omega
    · have := (ret_nonneg h h2).1; omega

theorem ret_off {g : Gr} {i : Int} (hi : i ∉ orderOf g) (v : Int) : decide (i ∈ retL g v) = decide (v ∈ ([] : List Int)) := by
  rw [Bool.eq_iff_iff, decide_eq_true_eq, decide_eq_true_eq, mem_ret]
  exact ⟨fun e => absurd e.1 hi, fun e => by simp at e⟩

end Go.Proofs.Ytkoidbekfjlfjaa
