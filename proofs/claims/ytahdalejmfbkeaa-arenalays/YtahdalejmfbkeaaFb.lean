/- Walks: the document's Plain; headers in memory. -/
import Derived.Test.YtahdalejmfbkeaaFa
namespace Go.Proofs.Ytahdalejmfbkeaa
set_option linter.unusedSimpArgs false
set_option linter.unusedVariables false
open Go.RowKit Go.Shelf

theorem Try.info64 : (Try.prog.info? 64).map (fun i => (i.zero, i.size, i.bytes)) = some (some (.agg #[.int .i64 0, .bool false, .int .i64 0]), 3, 24) := by kernel_rfl
theorem Try.info2 : (Try.prog.info? 2).map (fun i => (i.zero, i.size, i.bytes)) = some (some (.int .i64 0), 1, 8) := by kernel_rfl

theorem cell_three_at (w : World) (x y z : Value) (t : TypeId) (m : Nat) (hm : m = w.heap.size) : ∀ j u, [x, y, z][j]? = some u → (w.alloc (.cells #[x, y, z] t)).cell? ((⟨m, 0, none⟩ : Addr).add j) = some u := by
  subst hm
  intro j u h
  have hadd : (⟨w.heap.size, 0, none⟩ : Addr).add j = ⟨w.heap.size, j, none⟩ := by unfold Addr.add; split <;> simp_all
  rw [hadd]
  match j, h with
  | 0, h => simp at h; subst h; simp [go_sem]
  | 1, h => simp at h; subst h; simp [go_sem]
  | 2, h => simp at h; subst h; simp [go_sem]
  | j + 3, h => simp at h

/-- A header: how many fields, its mark, its age. -/
abbrev Hd := Int × Bool × Int
def hW (h : Hd) : Int := headW h.1 h.2.1 h.2.2
def cellsH (l : List Hd) : List Value := l.flatMap fun h => [.int .i64 h.1, .bool h.2.1, .int .i64 h.2.2]
theorem cellsH_snoc (l : List Hd) (h : Hd) : cellsH (l ++ [h]) = cellsH l ++ [.int .i64 h.1, .bool h.2.1, .int .i64 h.2.2] := by simp [cellsH]

theorem cellsH_get : ∀ (l : List Hd) (k : Nat) (h : Hd), l[k]? = some h → (cellsH l)[k * 3]? = some (.int .i64 h.1) ∧ (cellsH l)[k * 3 + 1]? = some (.bool h.2.1) ∧ (cellsH l)[k * 3 + 2]? = some (.int .i64 h.2.2)
  | [], _, _, h => by simp at h
  | x :: l, 0, v, h => by simp at h; subst h; simp [cellsH]
  | x :: l, k + 1, v, h => by
    have := cellsH_get l k v (by simpa using h)
    have e1 : (k + 1) * 3 = k * 3 + 1 + 1 + 1 := by omega
    rw [e1]
    simp only [cellsH, List.flatMap_cons, List.cons_append, List.nil_append, List.getElem?_cons_succ]
    exact this

/-- A slice of headers, below block B. -/
def Hdrs (B : Nat) (w : World) (a : Option Addr) (l : List Hd) : Prop :=
  l.length ≤ 9223372036854775807 ∧ (l ≠ [] → ∃ b off, a = some ⟨b, off, none⟩ ∧ b < B ∧ ∀ k h, l[k]? = some h → w.cell? ⟨b, off + k * 3, none⟩ = some (.int .i64 h.1) ∧ w.cell? ⟨b, off + k * 3 + 1, none⟩ = some (.bool h.2.1) ∧ w.cell? ⟨b, off + k * 3 + 2, none⟩ = some (.int .i64 h.2.2))

theorem Hdrs.below {B : Nat} {w w' : World} {a : Option Addr} {l : List Hd} (h : Hdrs B w a l) (hb : Below B w w') : Hdrs B w' a l := by
  refine ⟨h.1, fun hne => ?_⟩
  obtain ⟨b, off, rfl, hB, hc⟩ := h.2 hne
  refine ⟨b, off, rfl, hB, fun k v hk => ?_⟩
  rw [hb.cell (p := ⟨b, off + k * 3, none⟩) hB, hb.cell (p := ⟨b, off + k * 3 + 1, none⟩) hB, hb.cell (p := ⟨b, off + k * 3 + 2, none⟩) hB]
  exact hc k v hk

theorem Hdrs.mono {B B' : Nat} {w : World} {a : Option Addr} {l : List Hd} (h : Hdrs B w a l) (hb : B ≤ B') : Hdrs B' w a l := by
  refine ⟨h.1, fun hne => ?_⟩
  obtain ⟨b, off, rfl, hB, hc⟩ := h.2 hne
  exact ⟨b, off, rfl, by omega, hc⟩

theorem Hdrs.at {B : Nat} {w : World} {a : Option Addr} {l : List Hd} (h : Hdrs B w a l) {k : Nat} (hk : k < l.length) :
    ∃ b off n m e, a = some ⟨b, off, none⟩ ∧ b < B ∧ w.cell? ⟨b, off + k * 3, none⟩ = some (.int .i64 n) ∧ w.cell? ⟨b, off + k * 3 + 1, none⟩ = some (.bool m) ∧ w.cell? ⟨b, off + k * 3 + 2, none⟩ = some (.int .i64 e) ∧ Hid (l[k] = (n, m, e)) := by
  obtain ⟨b, off, rfl, hB, hc⟩ := h.2 (by intro e; subst e; simp at hk)
  obtain ⟨h1, h2, h3⟩ := hc k l[k] (by simp [hk])
  exact ⟨b, off, l[k].1, l[k].2.1, l[k].2.2, rfl, hB, h1, h2, h3, rfl⟩

theorem hdrs_of_owns {w : World} {base : Nat} {e : TypeId} {v : Value} {n : Nat} {l : List Hd} (h : w.ownsRow base e 3 v n (cellsH l)) (hn : n = l.length) (hs : n ≤ 9223372036854775807) :
    ∃ a cap, v = .slice a l.length cap ∧ Hdrs w.heap.size w a l := by
  obtain ⟨_, h2⟩ := h
  rcases h2 with ⟨rfl, h0⟩ | ⟨g, cap, cur, rfl, hb, hg, hc1, hc2, hc3, htake⟩
  · refine ⟨none, 0, by rw [← hn, h0], ⟨by omega, fun hne => ?_⟩⟩
    have : l = [] := List.eq_nil_of_length_eq_zero (by omega)
    exact absurd this hne
  · refine ⟨_, cap, by rw [hn], ⟨by omega, fun _ => ⟨g, 0, rfl, (Array.getElem?_eq_some_iff.1 hg).1, fun k v hk => ?_⟩⟩⟩
    obtain ⟨h1, h2, h3⟩ := cellsH_get l k v hk
    rw [← htake] at h1 h2 h3
    rw [List.getElem?_take] at h1 h2 h3
    have hcell : ∀ j u, (if j < n * 3 then cur.toList[j]? else none) = some u → w.cell? ⟨g, 0 + j, none⟩ = some u := by
      intro j u hj
      split at hj
      · rw [Nat.zero_add, cell_of_row w g j cur e (0, 0) hg]; simpa using hj
      · cases hj
    exact ⟨hcell _ _ h1, by have := hcell _ _ h2; simpa [Nat.add_assoc] using this, by have := hcell _ _ h3; simpa [Nat.add_assoc] using this⟩

/-- Headers of objects, not marked, of age 0. -/
def plainH (L : List (List V)) : List Hd := L.map fun o => ((o.length : Int), false, 0)
theorem plainH_len (L : List (List V)) : (plainH L).length = L.length := by simp [plainH]
theorem plainH_succ {L : List (List V)} {k : Nat} (h : k < L.length) : cellsH (plainH (L.take (k + 1))) = cellsH (plainH (L.take k)) ++ [.int .i64 (L[k].length : Int), .bool false, .int .i64 0] := by
  rw [List.take_succ_eq_append_getElem h]; simp only [plainH, List.map_append, List.map_cons, List.map_nil, cellsH_snoc]

set_option maxRecDepth 100000 in
set_option maxHeartbeats 1000000 in
theorem rplain_c (ao ar : Option Addr) (co nr cr : Nat) (L : List (List V)) (B : Nat) (w : World) (ho : Objs B w ao L) (hB : B ≤ w.heap.size) (h24 : L.length ≤ 1000) :
    Calls Try.prog 20 #[.agg #[.slice ao L.length co, .slice ar nr cr]] w fun e w' => ∃ a' cap', e = .returned (.slice a' (plainH L).length cap') ∧ Hdrs w'.heap.size w' a' (plainH L) ∧ Below w.heap.size w w' := by
  obtain ⟨i0, hi, hz0, hz1, hz2⟩ := info_parts Try.info64
  go_enter Try.func20, Try.ntmps20
  go_wp2
  go_loopw [3, 9] (fun s i wr => ∃ k : Nat, k ≤ L.length ∧ i = .int .i64 k ∧ wr.ownsRow (w.heap.size + 1) 64 3 s k (cellsH (plainH (L.take k))) ∧ Below (w.heap.size + 1) (w.alloc (.cells #[.slice ao L.length co, .slice ar nr cr] 33)) wr) (fun _ i _ => L.length - (intOf i).toNat)
  case atStart => exact ⟨0, Nat.zero_le _, rfl, by simpa [cellsH, plainH] using World.ownsRow_nil _ _ _ _, Below.refl _ _⟩
  case round =>
    obtain ⟨k, hk, rfl, hown, hb⟩ := hrel
    have hsz := hb.size
    simp only [World.size_alloc] at hsz
    have hbw : Below w.heap.size w wr := ((Below.refl _ _).alloc (Nat.le_refl _) _).trans (hb.mono (by omega))
    by_cases hlt : k < L.length
    · obtain ⟨b, off, ai, ci, rfl, hbB, hcb, _⟩ := (ho.below (hbw.mono hB)).at hlt
      have HT := hide (plainH_succ hlt)
      generalize L[k].length = n at *
      go_wp2_with (at_builtin; go_must (refine wpList_append_own _ rfl _ _ 47 rfl (w.heap.size + 1) 64 i0 _ 3 24 Try.underlying47 hi hz0 hz1 hz2 rfl (by decide) _ _ _ rfl ((hown.alloc _).alloc _) ⟨wr.heap.size + 1, 0, none⟩ 1 1 [.int .i64 (n : Int), .bool false, .int .i64 0] rfl rfl (cell_three_at _ _ _ _ _ _ (by simp)) (by simp [Value.oneCell']) (by simp only [maxLen]; omega) (by omega) (by simp; omega) ?_); intro v' w1 hown' hgrow _)
      go_roundw
      case rel => exact ⟨k + 1, by omega, by go_num, by rw [unhide HT]; exact hown', ((hb.alloc (by omega) _).alloc (by simp; omega) _).grown hgrow (by simp; omega) (fun q e => (hown.lt q e).1)⟩
      case measure => simp [intOf]; omega
    · obtain rfl : k = L.length := by omega
      rw [List.take_length] at hown
      obtain ⟨a', cap', hv, hH⟩ := hdrs_of_owns hown (plainH_len L).symm (by omega)
      have HH := hide hH
      clear hH
      subst hv
      go_wp2
      go_ret
      exact ⟨a', cap', rfl, unhide HH, hbw⟩

end Go.Proofs.Ytahdalejmfbkeaa
