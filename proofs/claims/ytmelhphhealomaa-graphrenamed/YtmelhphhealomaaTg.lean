/- The region of GraphRenamed that lays one more object: whichever order is drawn. -/
import Derived.Test.YtmelhphhealomaaProg
import Derived.Test.YtmelhphhealomaaMem
import Derived.Test.YtmelhphhealomaaTf
namespace Go.Proofs.Ytmelhphhealomaa
set_option linter.unusedSimpArgs false
set_option linter.unusedVariables false
open Go.RowKit

/-- An append to a row of the call's own, as an operation. -/
theorem wp_append_at {P : Program} {o : Oper} {a : Act} {w : World} {K : Act → World → Prop} {Q : Exit → Act → World → Prop} (hgd : o.guard = none) (s x : Operand) (t : TypeId)
    (ho : o.op = .call { callee := .builtin .append, args := #[s, x], argTypes := #[t, t] })
    (base : Nat) (e : TypeId) (i : TypeInfo) (z : Value) (size bytes : Nat) (ht : P.underlying t = some (.slice e)) (hi : P.info? e = some i) (hz : i.zero = some z)
    (hsize : i.size = size) (hby : i.bytes = bytes) (hzs : z.cells.size = size) (hsz : 0 < size)
    (v : Value) (n : Nat) (xs : List Value) (hs : a.eval s = v) (hown : w.ownsRow base e size v n xs)
    (ad : Addr) (m c : Nat) (news : List Value) (hx : a.eval x = .slice (some ad) m c) (hl : news.length = m * size) (hnews : ∀ j u, news[j]? = some u → w.cell? (ad.add j) = some u) (h1 : ∀ u ∈ news, u.oneCell' = true)
    (h63 : n + m ≤ maxLen) (hbytes : (n + m) * bytes ≤ 140737488355328) (hbase : base ≤ w.heap.size)
    (h : ∀ v' w', w'.ownsRow base e size v' (n + m) (xs ++ news) → w.grownBy w' v.ownBlock → (v'.ownBlock = v.ownBlock ∨ v'.ownBlock = some w.heap.size) → K (a.put o.dst v') w') :
    Oper.wp P o a w K Q := by
  have := step_append_at (ops := #[]) (Q := Q) (E := False) hgd s x t ho base e i z size bytes ht hi hz hsize hby hzs hsz v n xs hs hown ad m c news hx hl hnews h1 h63 hbytes hbase h
  rwa [if_pos (by simp [Region.wanted, hgd])] at this

/-- What is done, by the list of what is done. -/
def I6 (c : Ctx6) (listed : Array Bool) (a : Act) (w : World) : Prop := listed.size = 14 ∧ ∃ oA b51 b53 b9, R6 c (fun j => listed.getD j false = true) oA b51 b53 b9 a w

theorem I6_put {c : Ctx6} {listed : Array Bool} (hs : listed.size = 14) {i : Nat} (hi : i < 14) {oA : Option Nat} {b51 b53 b9 : Nat} {a : Act} {w : World} (h : R6 c (fun j => j = i ∨ listed.getD j false = true) oA b51 b53 b9 a w) : I6 c (listed.setIfInBounds i true) a w := by
  refine ⟨by simp [hs], oA, b51, b53, b9, ?_⟩
  have e : (fun j => (listed.setIfInBounds i true).getD j false = true) = (fun j => j = i ∨ listed.getD j false = true) := by
    funext j
    apply propext
    by_cases hj : j = i
    · subst hj
      simp [hs, hi]
    · simp only [hj, false_or, Array.getD_eq_getD_getElem?, Array.getElem?_setIfInBounds_ne (fun h => hj h.symm)]
  rw [e]
  exact h

theorem not_done {listed : Array Bool} {i : Nat} (h : listed.getD i true = false) : ¬ listed.getD i false = true := by
  intro h2
  by_cases hi : i < listed.size
  · simp [hi] at h h2; rw [h] at h2; cases h2
  · simp [Array.getElem?_eq_none (Nat.le_of_not_lt hi)] at h

theorem ready6 {listed : Array Bool} {i : Nat} (h : i ∈ Region.ready .any ops6 listed) : listed.getD i true = false ∧ ∃ o, ops6[i]? = some o ∧ ∀ e ∈ o.after, Region.binds .any e = true → listed.getD e.on false = true := mem_ready.1 h

theorem add_off {b off j : Nat} : (⟨b, off, none⟩ : Addr).add j = ⟨b, off + j, none⟩ := by unfold Addr.add; split <;> simp_all

theorem cellU {c : Ctx6} {L : Nat → Prop} {oA : Option Nat} {b51 b53 b9 : Nat} {a : Act} {w : World} (h : R6 c L oA b51 b53 b9 a w) {p : Addr} (hp : p.block < c.U.heap.size) {v : Value} (hv : c.U.cell? p = some v) : w.cell? p = some v := (h.rw.hb.cell hp).trans hv

theorem st6_0 {c : Ctx6} (hc : Ok6 c) {Q : Exit → Act → World → Prop} {listed : Array Bool} {a : Act} {w : World} (hI : I6 c listed a w) (hm : 0 ∈ Region.ready .any ops6 listed) : wpOp Try.prog ops6 Q 0 (I6 c (listed.setIfInBounds 0 true)) a w := by
  obtain ⟨hs, oA, b51, b53, b9, h⟩ := hI
  obtain ⟨hn, o, ho, hall⟩ := ready6 hm
  have hn := not_done hn
  obtain rfl : op6_0 = o := by injection ho
  refine wpOp_of (o := op6_0) rfl rfl ?_
  exact o6_0 (h.t2 hc) (I6_put hs (by omega) (h.d0 hc hn))

theorem st6_1 {c : Ctx6} (hc : Ok6 c) {Q : Exit → Act → World → Prop} {listed : Array Bool} {a : Act} {w : World} (hI : I6 c listed a w) (hm : 1 ∈ Region.ready .any ops6 listed) : wpOp Try.prog ops6 Q 1 (I6 c (listed.setIfInBounds 1 true)) a w := by
  obtain ⟨hs, oA, b51, b53, b9, h⟩ := hI
  obtain ⟨hn, o, ho, hall⟩ := ready6 hm
  have hn := not_done hn
  obtain rfl : op6_1 = o := by injection ho
  refine wpOp_of (o := op6_1) rfl rfl ?_
  have l0 : listed.getD 0 false = true := hall ⟨0, .data⟩ (by simp [op6_1]) rfl
  exact o6_1 (h.s0 l0) (cellU h hc.bgl hc.g1) (I6_put hs (by omega) (h.d1 hc hn))

theorem st6_2 {c : Ctx6} (hc : Ok6 c) {Q : Exit → Act → World → Prop} {listed : Array Bool} {a : Act} {w : World} (hI : I6 c listed a w) (hm : 2 ∈ Region.ready .any ops6 listed) : wpOp Try.prog ops6 Q 2 (I6 c (listed.setIfInBounds 2 true)) a w := by
  obtain ⟨hs, oA, b51, b53, b9, h⟩ := hI
  obtain ⟨hn, o, ho, hall⟩ := ready6 hm
  have hn := not_done hn
  obtain rfl : op6_2 = o := by injection ho
  refine wpOp_of (o := op6_2) rfl rfl ?_
  exact o6_2 (I6_put hs (by omega) (h.d2 hc hn))

theorem st6_3 {c : Ctx6} (hc : Ok6 c) {Q : Exit → Act → World → Prop} {listed : Array Bool} {a : Act} {w : World} (hI : I6 c listed a w) (hm : 3 ∈ Region.ready .any ops6 listed) : wpOp Try.prog ops6 Q 3 (I6 c (listed.setIfInBounds 3 true)) a w := by
  obtain ⟨hs, oA, b51, b53, b9, h⟩ := hI
  obtain ⟨hn, o, ho, hall⟩ := ready6 hm
  have hn := not_done hn
  obtain rfl : op6_3 = o := by injection ho
  refine wpOp_of (o := op6_3) rfl rfl ?_
  exact o6_3 (h.t2 hc) (I6_put hs (by omega) (h.d3 hc hn))

theorem st6_4 {c : Ctx6} (hc : Ok6 c) {Q : Exit → Act → World → Prop} {listed : Array Bool} {a : Act} {w : World} (hI : I6 c listed a w) (hm : 4 ∈ Region.ready .any ops6 listed) : wpOp Try.prog ops6 Q 4 (I6 c (listed.setIfInBounds 4 true)) a w := by
  obtain ⟨hs, oA, b51, b53, b9, h⟩ := hI
  obtain ⟨hn, o, ho, hall⟩ := ready6 hm
  have hn := not_done hn
  obtain rfl : op6_4 = o := by injection ho
  refine wpOp_of (o := op6_4) rfl rfl ?_
  have l3 : listed.getD 3 false = true := hall ⟨3, .data⟩ (by simp [op6_4]) rfl
  exact o6_4 (h.s3 l3) (cellU h hc.bgl hc.g0) (I6_put hs (by omega) (h.d4 hc hn))

theorem st6_5 {c : Ctx6} (hc : Ok6 c) {Q : Exit → Act → World → Prop} {listed : Array Bool} {a : Act} {w : World} (hI : I6 c listed a w) (hm : 5 ∈ Region.ready .any ops6 listed) : wpOp Try.prog ops6 Q 5 (I6 c (listed.setIfInBounds 5 true)) a w := by
  obtain ⟨hs, oA, b51, b53, b9, h⟩ := hI
  obtain ⟨hn, o, ho, hall⟩ := ready6 hm
  have hn := not_done hn
  obtain rfl : op6_5 = o := by injection ho
  refine wpOp_of (o := op6_5) rfl rfl ?_
  have l2 : listed.getD 2 false = true := hall ⟨2, .data⟩ (by simp [op6_5]) rfl
  have l4 : listed.getD 4 false = true := hall ⟨4, .data⟩ (by simp [op6_5]) rfl
  obtain ⟨i0, hi, hz0, hz1, hz2⟩ := info_parts Try.info43
  have hU := h.rw.hb.size
  have hn24 := hc.n24
  obtain ⟨hrow, hown⟩ := h.a2 l2 hn
  refine wp_append_at rfl (.tmp 46) (.tmp 48) 22 rfl c.U.heap.size 43 i0 _ 1 24 Try.underlying22 hi hz0 hz1 hz2 rfl (by decide) (a.tmps[46]?.getD undef) 0 [] (by simp [Act.eval]) hrow ⟨c.bo, c.oo, none⟩ c.n c.aoc c.es (by simpa [Act.eval] using h.s4 l4) (by rw [hc.el, Nat.mul_one]) (fun j u hj => by rw [add_off]; exact cellU h hc.bol (hc.ec j u hj)) hc.e1 (by simp only [maxLen]; omega) (by omega) hU ?_
  intro v' w' h1 h2 h3
  rw [Nat.zero_add, List.nil_append] at h1
  rw [hown] at h2 h3
  exact I6_put hs (by omega) (h.d5 hc hn l2 h2 h1 h3)

theorem st6_6 {c : Ctx6} (hc : Ok6 c) {Q : Exit → Act → World → Prop} {listed : Array Bool} {a : Act} {w : World} (hI : I6 c listed a w) (hm : 6 ∈ Region.ready .any ops6 listed) : wpOp Try.prog ops6 Q 6 (I6 c (listed.setIfInBounds 6 true)) a w := by
  obtain ⟨hs, oA, b51, b53, b9, h⟩ := hI
  obtain ⟨hn, o, ho, hall⟩ := ready6 hm
  have hn := not_done hn
  obtain rfl : op6_6 = o := by injection ho
  refine wpOp_of (o := op6_6) rfl rfl ?_
  exact o6_6 (I6_put hs (by omega) (h.d6 hc hn))

theorem st6_7 {c : Ctx6} (hc : Ok6 c) {Q : Exit → Act → World → Prop} {listed : Array Bool} {a : Act} {w : World} (hI : I6 c listed a w) (hm : 7 ∈ Region.ready .any ops6 listed) : wpOp Try.prog ops6 Q 7 (I6 c (listed.setIfInBounds 7 true)) a w := by
  obtain ⟨hs, oA, b51, b53, b9, h⟩ := hI
  obtain ⟨hn, o, ho, hall⟩ := ready6 hm
  have hn := not_done hn
  obtain rfl : op6_7 = o := by injection ho
  refine wpOp_of (o := op6_7) rfl rfl ?_
  have l6 : listed.getD 6 false = true := hall ⟨6, .data⟩ (by simp [op6_7]) rfl
  exact o6_7 (h.s6 l6) (I6_put hs (by omega) (h.d7 hc hn))

theorem st6_8 {c : Ctx6} (hc : Ok6 c) {Q : Exit → Act → World → Prop} {listed : Array Bool} {a : Act} {w : World} (hI : I6 c listed a w) (hm : 8 ∈ Region.ready .any ops6 listed) : wpOp Try.prog ops6 Q 8 (I6 c (listed.setIfInBounds 8 true)) a w := by
  obtain ⟨hs, oA, b51, b53, b9, h⟩ := hI
  obtain ⟨hn, o, ho, hall⟩ := ready6 hm
  have hn := not_done hn
  obtain rfl : op6_8 = o := by injection ho
  refine wpOp_of (o := op6_8) rfl rfl ?_
  have l7 : listed.getD 7 false = true := hall ⟨7, .data⟩ (by simp [op6_8]) rfl
  exact o6_8 (h.s7 l7) (I6_put hs (by omega) (h.d8 hc hn l7))

theorem st6_9 {c : Ctx6} (hc : Ok6 c) {Q : Exit → Act → World → Prop} {listed : Array Bool} {a : Act} {w : World} (hI : I6 c listed a w) (hm : 9 ∈ Region.ready .any ops6 listed) : wpOp Try.prog ops6 Q 9 (I6 c (listed.setIfInBounds 9 true)) a w := by
  obtain ⟨hs, oA, b51, b53, b9, h⟩ := hI
  obtain ⟨hn, o, ho, hall⟩ := ready6 hm
  have hn := not_done hn
  obtain rfl : op6_9 = o := by injection ho
  refine wpOp_of (o := op6_9) rfl rfl ?_
  have l8 : listed.getD 8 false = true := hall ⟨8, .data⟩ (by simp [op6_9]) rfl
  exact o6_9 (h.s8 l8) (I6_put hs (by omega) (h.d9 hc hn l8))

theorem st6_10 {c : Ctx6} (hc : Ok6 c) {Q : Exit → Act → World → Prop} {listed : Array Bool} {a : Act} {w : World} (hI : I6 c listed a w) (hm : 10 ∈ Region.ready .any ops6 listed) : wpOp Try.prog ops6 Q 10 (I6 c (listed.setIfInBounds 10 true)) a w := by
  obtain ⟨hs, oA, b51, b53, b9, h⟩ := hI
  obtain ⟨hn, o, ho, hall⟩ := ready6 hm
  have hn := not_done hn
  obtain rfl : op6_10 = o := by injection ho
  refine wpOp_of (o := op6_10) rfl rfl ?_
  have l5 : listed.getD 5 false = true := hall ⟨5, .data⟩ (by simp [op6_10]) rfl
  have l9 : listed.getD 9 false = true := hall ⟨9, .data⟩ (by simp [op6_10]) rfl
  obtain ⟨i0, hi, hz0, hz1, hz2⟩ := info_parts Try.info43
  have hU := h.rw.hb.size
  have hn24 := hc.n24
  obtain ⟨hrow, hown⟩ := h.a5 l5 hn
  refine wp_append_at rfl (.tmp 49) (.tmp 53) 22 rfl c.U.heap.size 43 i0 _ 1 24 Try.underlying22 hi hz0 hz1 hz2 rfl (by decide) (a.tmps[49]?.getD undef) c.n c.es (by simp [Act.eval]) hrow ⟨b53, 0, none⟩ 1 1 [S1 b51] (by simpa [Act.eval, S1] using h.s9 l9) rfl (fun j u hj => by
    rcases j with _ | j
    · simp at hj; subst hj; exact (h.rw.w9 l9).2.2
    · simp at hj) (by simp [S1, Value.oneCell']) (by simp only [maxLen]; omega) (by omega) hU ?_
  intro v' w' h1 h2 h3
  rw [hown] at h2 h3
  exact I6_put hs (by omega) (h.d10 hc hn (h.c5 l5) h2 h1 h3 l5 l9)

theorem st6_11 {c : Ctx6} (hc : Ok6 c) {Q : Exit → Act → World → Prop} {listed : Array Bool} {a : Act} {w : World} (hI : I6 c listed a w) (hm : 11 ∈ Region.ready .any ops6 listed) : wpOp Try.prog ops6 Q 11 (I6 c (listed.setIfInBounds 11 true)) a w := by
  obtain ⟨hs, oA, b51, b53, b9, h⟩ := hI
  obtain ⟨hn, o, ho, hall⟩ := ready6 hm
  have hn := not_done hn
  obtain rfl : op6_11 = o := by injection ho
  refine wpOp_of (o := op6_11) rfl rfl ?_
  have l1 : listed.getD 1 false = true := hall ⟨1, .data⟩ (by simp [op6_11]) rfl
  have l10 : listed.getD 10 false = true := hall ⟨10, .data⟩ (by simp [op6_11]) rfl
  obtain ⟨hrow, hown⟩ := h.a10 l10
  obtain ⟨g, cap, hv⟩ := ownsRow_succ hrow
  have hd := h.d11 hc hn l1 l10
  rw [hv] at hd
  exact o6_11 hv (h.s1 l1) (I6_put hs (by omega) hd)

theorem st6_12 {c : Ctx6} (hc : Ok6 c) {Q : Exit → Act → World → Prop} {listed : Array Bool} {a : Act} {w : World} (hI : I6 c listed a w) (hm : 12 ∈ Region.ready .any ops6 listed) : wpOp Try.prog ops6 Q 12 (I6 c (listed.setIfInBounds 12 true)) a w := by
  obtain ⟨hs, oA, b51, b53, b9, h⟩ := hI
  obtain ⟨hn, o, ho, hall⟩ := ready6 hm
  have hn := not_done hn
  obtain rfl : op6_12 = o := by injection ho
  refine wpOp_of (o := op6_12) rfl rfl ?_
  exact o6_12 (I6_put hs (by omega) (h.d12 hc hn))

theorem st6_13 {c : Ctx6} (hc : Ok6 c) {Q : Exit → Act → World → Prop} {listed : Array Bool} {a : Act} {w : World} (hI : I6 c listed a w) (hm : 13 ∈ Region.ready .any ops6 listed) : wpOp Try.prog ops6 Q 13 (I6 c (listed.setIfInBounds 13 true)) a w := by
  obtain ⟨hs, oA, b51, b53, b9, h⟩ := hI
  obtain ⟨hn, o, ho, hall⟩ := ready6 hm
  have hn := not_done hn
  obtain rfl : op6_13 = o := by injection ho
  refine wpOp_of (o := op6_13) rfl rfl ?_
  have l12 : listed.getD 12 false = true := hall ⟨12, .data⟩ (by simp [op6_13]) rfl
  have l11 : listed.getD 11 false = true := hall ⟨11, .data⟩ (by simp [op6_13]) rfl
  have l10 := h.c11 l11
  obtain ⟨hrow, hown⟩ := h.a10 l10
  obtain ⟨g, cap, hv⟩ := ownsRow_succ hrow
  obtain ⟨k1, k2, k3, k4, ⟨u0, k5⟩, ⟨u1, k6⟩⟩ := h.rw.w12 l12
  have hd := h.d13 hc hn l10 l11 l12
  have h55 := h.s11 l11
  rw [hv] at hd h55
  exact o6_13 (h.s12 l12) h55 k5 k6 k3 k4 (I6_put hs (by omega) hd)

theorem after6 : ∀ (i : Nat) (o : Oper), ops6[i]? = some o → ∀ e ∈ o.after, e.on < i := by
  intro i o ho
  have hlt : i < 14 := (Array.getElem?_eq_some_iff.1 ho).1
  match i, hlt with
  | 0, _ => exact (by obtain rfl : op6_0 = o := (by injection ho); simp [op6_0])
  | 1, _ => exact (by obtain rfl : op6_1 = o := (by injection ho); simp [op6_1])
  | 2, _ => exact (by obtain rfl : op6_2 = o := (by injection ho); simp [op6_2])
  | 3, _ => exact (by obtain rfl : op6_3 = o := (by injection ho); simp [op6_3])
  | 4, _ => exact (by obtain rfl : op6_4 = o := (by injection ho); simp [op6_4])
  | 5, _ => exact (by obtain rfl : op6_5 = o := (by injection ho); simp [op6_5])
  | 6, _ => exact (by obtain rfl : op6_6 = o := (by injection ho); simp [op6_6])
  | 7, _ => exact (by obtain rfl : op6_7 = o := (by injection ho); simp [op6_7])
  | 8, _ => exact (by obtain rfl : op6_8 = o := (by injection ho); simp [op6_8])
  | 9, _ => exact (by obtain rfl : op6_9 = o := (by injection ho); simp [op6_9])
  | 10, _ => exact (by obtain rfl : op6_10 = o := (by injection ho); simp [op6_10])
  | 11, _ => exact (by obtain rfl : op6_11 = o := (by injection ho); simp [op6_11])
  | 12, _ => exact (by obtain rfl : op6_12 = o := (by injection ho); simp [op6_12])
  | 13, _ => exact (by obtain rfl : op6_13 = o := (by injection ho); simp [op6_13])

theorem region6 {c : Ctx6} (hc : Ok6 c) {Q : Exit → Act → World → Prop} {w : World} {rid : Nat} (hw : c.U = w.drew)
    (hdone : ∀ a' w' oA b51 b53 b9, R6 c (fun _ => True) oA b51 b53 b9 a' w' → Q .normal a' w') : (Code.region rid ops6 true).wp Try.prog Q c.a0 w := by
  refine wp_region_inv Try.mixed (I6 c) (fun listed a w h => h.1) ?_ ?_ ?_
  · refine ⟨rfl, none, 0, 0, 0, ?_⟩
    have hL : (fun j => (Array.replicate ops6.size false).getD j false = true) = (fun _ => False) := by
      funext j
      apply propext
      by_cases hj : j < ops6.size <;> simp [hj]
    rw [hL, ← hw]
    exact ⟨⟨Below.refl _ _, (fun k e => by cases e), fun h => h.elim, fun h => h.elim, fun h => h.elim, fun h => h.elim, fun h => h.elim, fun h => h.elim, fun h => h.elim, fun h => h.elim⟩, Agr.refl _ _, id, id, id, id, id, id, id, id, id, fun h => h.elim, fun h => h.elim, fun h => h.elim, fun h => h.elim, fun h => h.elim, fun h => h.elim, fun h => h.elim, fun h => h.elim, fun h => h.elim, fun h => h.elim, fun h => h.elim, fun h => h.elim, fun _ => rfl, fun h => h.elim, fun h => h.elim⟩
  · intro listed a w i hI hm
    have hlt : i < 14 := by
      obtain ⟨_, o, ho, _⟩ := ready6 hm
      exact (Array.getElem?_eq_some_iff.1 ho).1
    match i, hlt with
    | 0, _ => exact st6_0 hc hI hm
    | 1, _ => exact st6_1 hc hI hm
    | 2, _ => exact st6_2 hc hI hm
    | 3, _ => exact st6_3 hc hI hm
    | 4, _ => exact st6_4 hc hI hm
    | 5, _ => exact st6_5 hc hI hm
    | 6, _ => exact st6_6 hc hI hm
    | 7, _ => exact st6_7 hc hI hm
    | 8, _ => exact st6_8 hc hI hm
    | 9, _ => exact st6_9 hc hI hm
    | 10, _ => exact st6_10 hc hI hm
    | 11, _ => exact st6_11 hc hI hm
    | 12, _ => exact st6_12 hc hI hm
    | 13, _ => exact st6_13 hc hI hm
  · rintro listed a w ⟨hs, oA, b51, b53, b9, h⟩ hr
    have hall := ready_none after6 hs hr
    refine hdone a w oA b51 b53 b9 ?_
    have T : ∀ j, j < 14 → listed.getD j false = true := fun j hj => hall j hj
    exact ⟨⟨h.rw.hb, h.rw.aR, fun _ => h.rw.w7 (T 7 (by omega)), fun _ => h.rw.w9 (T 9 (by omega)), fun _ => h.rw.w12 (T 12 (by omega)), fun _ => h.rw.p7 (T 7 (by omega)), fun _ => h.rw.p9 (T 9 (by omega)), fun _ => h.rw.p12 (T 12 (by omega)), fun _ _ => h.rw.q7 (T 12 (by omega)) (T 7 (by omega)), fun _ _ => h.rw.q9 (T 12 (by omega)) (T 9 (by omega))⟩,
      h.ag, id, id, id, id, id, id, id, id, id, fun _ => h.s0 (T 0 (by omega)), fun _ => h.s1 (T 1 (by omega)), fun _ => h.s3 (T 3 (by omega)), fun _ => h.s4 (T 4 (by omega)), fun _ => h.s6 (T 6 (by omega)), fun _ => h.s7 (T 7 (by omega)), fun _ => h.s8 (T 8 (by omega)), fun _ => h.s9 (T 9 (by omega)), fun _ => h.s12 (T 12 (by omega)), fun _ hn => absurd trivial hn, fun _ hn => absurd trivial hn, fun _ => h.a10 (T 10 (by omega)), fun hn => absurd trivial hn, fun _ => h.s11 (T 11 (by omega)), fun _ => h.s13 (T 13 (by omega))⟩

end Go.Proofs.Ytmelhphhealomaa
