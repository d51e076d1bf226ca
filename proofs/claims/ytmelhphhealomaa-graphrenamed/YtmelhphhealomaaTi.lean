/- Walks: GraphRenamed. -/
import Derived.Test.YtmelhphhealomaaProg
import Derived.Test.YtmelhphhealomaaMem
import Derived.Test.YtmelhphhealomaaWs
import Derived.Test.YtmelhphhealomaaWu
import Derived.Test.YtmelhphhealomaaTh
namespace Go.Proofs.Ytmelhphhealomaa
set_option linter.unusedSimpArgs false
set_option linter.unusedVariables false
open Go.RowKit

theorem ren_box (x y : Value) (t : TypeId) (w : World) :
    ∀ W0, w.alloc (.cells #[x, y] t) = W0 → W0.heap.size = w.heap.size + 1 ∧ Below w.heap.size w W0 ∧ (∀ X, Below (w.heap.size + 1) W0 X → X.cell? ⟨w.heap.size, 0, none⟩ = some x ∧ X.cell? ⟨w.heap.size, 1, none⟩ = some y) := by
  intro W0 h
  refine ⟨by rw [← h]; simp, by rw [← h]; exact (Below.refl _ _).alloc (Nat.le_refl _) _, fun X hX => ⟨?_, ?_⟩⟩
  · rw [hX.cell (p := ⟨w.heap.size, 0, none⟩) (by simp), ← h]; simp [go_sem]
  · rw [hX.cell (p := ⟨w.heap.size, 1, none⟩) (by simp), ← h]; simp [go_sem]

theorem region4' {c : Ctx4} (hc : Ok4 c) {Q : Exit → Act → World → Prop} {w : World} {rid : Nat} (hw : c.U = w.drew)
    (hdone : ∀ (f : Nat → Value) w' b6, f 6 = .pointer (some ⟨b6, 0, none⟩) → c.U.heap.size ≤ b6 → b6 < w'.heap.size → Below c.U.heap.size c.U w' → Laid4 c b6 w' → Q .normal (ds4.foldl (fun b d => b.put (some d) (f d)) c.a0) w') : (Code.region rid ops4 true).wp Try.prog Q c.a0 w := by
  refine region4 hc hw fun a' w' b6 hag h6 h1 h2 h3 h4 => ?_
  have := hdone (fun d => a'.tmps.getD d undef) w' b6 (by simpa using h6) h1 h2 h3 h4
  rw [← hag.eq] at this
  exact this

theorem region6' {c : Ctx6} (hc : Ok6 c) {Q : Exit → Act → World → Prop} {w : World} {rid : Nat} (hw : c.U = w.drew)
    (hdone : ∀ (f : Nat → Value) w' b9 b51 g cap, f 9 = .pointer (some ⟨b9, 0, none⟩) → b9 < w'.heap.size → Below c.U.heap.size c.U w' → w'.cell? ⟨b9, 0, none⟩ = some (.slice (some ⟨g, 0, none⟩) (c.n + 1) cap) → w'.cell? ⟨b9, 1, none⟩ = some (.slice c.ar c.m c.arc) →
      w'.ownsRow c.U.heap.size 43 1 (.slice (some ⟨g, 0, none⟩) (c.n + 1) cap) (c.n + 1) (c.es ++ [S1 b51]) → b51 < w'.heap.size → w'.cell? ⟨b51, 0, none⟩ = some (.bool true) → w'.cell? ⟨b51, 1, none⟩ = some (.int .i64 0) →
      Q .normal (ds6.foldl (fun b d => b.put (some d) (f d)) c.a0) w') : (Code.region rid ops6 true).wp Try.prog Q c.a0 w := by
  refine region6 hc hw fun a' w' oA b51 b53 b9 h => ?_
  obtain ⟨hrow, _⟩ := h.a10 trivial
  obtain ⟨g, cap, hv⟩ := ownsRow_succ hrow
  obtain ⟨k0, k1⟩ := h.s13 trivial
  rw [hv] at hrow k0
  obtain ⟨_, q2, q3, q4⟩ := h.rw.w7 trivial
  have := hdone (fun d => a'.tmps.getD d undef) w' b9 b51 g cap (by simpa using h.s12 trivial) (h.rw.w12 trivial).2.1 h.rw.hb k0 k1 hrow q2 q3 q4
  rw [← h.ag.eq] at this
  exact this

theorem sameG_of {g h : Gr} (e : g = h) : sameG g h = true := by rw [e]; exact sameG_self h

/-- The objects and one more, as a slice of the call's own. -/
theorem objs_more {U w : World} {bo oo g cap b51 : Nat} {L : List (List V)} {es : List Value} (hO : Objs U.heap.size U (some ⟨bo, oo, none⟩) L) (hel : es.length = L.length) (hec : ∀ (k : Nat) (u : Value), es[k]? = some u → U.cell? ⟨bo, oo + k, none⟩ = some u)
    (hb : Below U.heap.size U w) (hrow : w.ownsRow U.heap.size 43 1 (.slice (some ⟨g, 0, none⟩) (L.length + 1) cap) (L.length + 1) (es ++ [S1 b51])) (hl : b51 < w.heap.size) (h0 : w.cell? ⟨b51, 0, none⟩ = some (.bool true)) (h1 : w.cell? ⟨b51, 1, none⟩ = some (.int .i64 0)) (hn : L.length ≤ 24) :
    Objs w.heap.size w (some ⟨g, 0, none⟩) (L ++ [[(true, 0)]]) := by
  have hgl := (hrow.lt g rfl).2
  refine ⟨by simp; omega, fun _ => ⟨g, 0, rfl, hgl, fun k l hk => ?_⟩⟩
  have hcell : ∀ u, (es ++ [S1 b51])[k]? = some u → w.cell? ⟨g, 0 + k, none⟩ = some u := fun u hu => by
    have := hrow.cells (g := g) rfl k u hu
    have hadd : (⟨g, 0, none⟩ : Addr).add k = ⟨g, 0 + k, none⟩ := add_off
    rwa [hadd] at this
  by_cases hlt : k < L.length
  · rw [List.getElem?_append_left hlt] at hk
    have hke : k < es.length := by omega
    have hu := List.getElem?_eq_getElem hke
    have hUc := hec k _ hu
    obtain ⟨b, off, e, _, hall⟩ := hO.2 (by intro e; rw [e] at hlt; simp at hlt)
    injection e with e
    injection e with e1 e2
    subst e1 e2
    obtain ⟨ai, ci, hc1, hv⟩ := hall k l hk
    rw [hc1] at hUc
    injection hUc with hUc
    refine ⟨ai, ci, hcell _ ?_, (hv.below hb).mono hb.size⟩
    rw [List.getElem?_append_left hke, hu, ← hUc]
  · have hkl : k = L.length := by
      have h2 := (List.getElem?_eq_some_iff.1 hk).1
      simp at h2
      omega
    subst hkl
    rw [List.getElem?_append_right (Nat.le_refl _), Nat.sub_self] at hk
    simp at hk
    subst hk
    refine ⟨some ⟨b51, 0, none⟩, 1, hcell _ ?_, ?_⟩
    · rw [List.getElem?_append_right (by omega), hel, Nat.sub_self]; rfl
    · refine ⟨by simp, fun _ => ⟨b51, 0, rfl, hl, fun q v hq => ?_⟩⟩
      rcases q with _ | q
      · simp at hq; subst hq
        exact ⟨h0, h1⟩
      · simp at hq

/-- The cells of a slice of objects. -/
theorem objs_cells {w : World} {bo oo : Nat} {L : List (List V)} (hO : Objs w.heap.size w (some ⟨bo, oo, none⟩) L) :
    ∃ es : List Value, es.length = L.length ∧ (∀ (q : Nat) (u : Value), es[q]? = some u → w.cell? ⟨bo, oo + q, none⟩ = some u) ∧ ∀ u ∈ es, u.oneCell' = true := by
  have key : ∀ q, q < L.length → ∃ ai ci n, w.cell? ⟨bo, oo + q, none⟩ = some (.slice ai n ci) := fun q hq => by
    obtain ⟨b, off, ai, ci, e, _, hc, _⟩ := hO.at hq
    injection e with e
    injection e with e1 e2
    subst e1 e2
    exact ⟨ai, ci, _, hc⟩
  have hget : ∀ (q : Nat) (u : Value), ((List.range L.length).map (fun (q : Nat) => (w.cell? ⟨bo, oo + q, none⟩).getD undef))[q]? = some u → q < L.length ∧ u = (w.cell? ⟨bo, oo + q, none⟩).getD undef := by
    intro q u hu
    rw [List.getElem?_map] at hu
    by_cases hq : q < L.length
    · rw [List.getElem?_range hq, Option.map_some] at hu
      injection hu with hu
      exact ⟨hq, hu.symm⟩
    · rw [List.getElem?_eq_none (by simp; omega)] at hu; cases hu
  refine ⟨(List.range L.length).map (fun (q : Nat) => (w.cell? ⟨bo, oo + q, none⟩).getD undef), by simp, fun q u hu => ?_, fun u hu => ?_⟩
  · obtain ⟨hq, rfl⟩ := hget q u hu
    obtain ⟨ai, ci, n, hc⟩ := key q hq
    rw [hc]; rfl
  · obtain ⟨q, hq⟩ := List.getElem?_of_mem hu
    obtain ⟨hlt, rfl⟩ := hget q u hq
    obtain ⟨ai, ci, n, hc⟩ := key q hlt
    rw [hc]; rfl

end Go.Proofs.Ytmelhphhealomaa
